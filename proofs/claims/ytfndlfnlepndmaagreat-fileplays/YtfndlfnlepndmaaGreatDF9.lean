/- The document's own files: Sync, SyncDir. -/
import Derived.Test.YtfndlfnlepndmaaGreatDF8
namespace Go.Proofs.YtfndlfnlepndmaaGreat
open Go.RowKit

theorem bytesZ (a : List UInt8) (d : ByteArray) : (⟨a.toArray⟩ ++ d : ByteArray) = ⟨(a ++ d.data.toList).toArray⟩ := by
  apply ByteArray.ext
  simp
theorem ob_some {g k n c : Nat} (h : ob (.slice (some ⟨g, 0, none⟩) n c) = some k) : g = k := by
  cases c with
  | zero => cases h
  | succ c => exact Option.some.inj h
theorem obZ {v : Value} {g n c : Nat} (h : v = .slice (some ⟨g, 0, none⟩) n c) (hc : n ≤ c) (hn : 0 < n) : ob v = some g := by
  subst h
  cases c with
  | zero => omega
  | succ c => rfl
theorem sy_off {s : St} {act : St → St × Int} (h : s.on = false) : sy s act = (s, 14) := by unfold sy; rw [h]; rfl
theorem sy_on {s : St} {act : St → St × Int} (h : s.on = true) : sy s act = if s.begun.on then (if over s.bad then (s.begun.bads, 16) else act s.begun.bads) else (s.begun.bads, 14) := by unfold sy; rw [h]; rfl
section
variable {w w' : World} {q n m : Nat} {s s' : St} {x : RefV}
theorem DocOk.begun (hd : DocOk n m s) : DocOk (n + 1) m s.begun := ⟨hd.lim.begun, hd.wf.of rfl rfl rfl rfl, hd.now⟩
set_option maxHeartbeats 8000000 in
set_option maxRecDepth 100000 in
theorem rsyncDir_any (h : RefAt w q s x) (hd : DocOk n m s) (hN : n ≤ 100000) :
    Calls Tryz.prog 43 #[.pointer (some ⟨q, 0, none⟩)] w fun e w' => e = .returned (.int .i64 s.syncDir.2) ∧ NextR w q x s.syncDir.1 w' := by
  have HH := Lib.hid h
  cases hon : s.on with
  | false =>
    have CO := Lib.hid (op_off h hon)
    have HR := Lib.hid (show s.syncDir = (s, 14) from sy_off hon)
    clear h hd
    go_enter Tryz.func43, Tryz.ntmps43
    go_wp2_with (first | (go_at_call 123; (with_reducible refine CO.out.mono ?_); rintro e w1 ⟨rfl, rfl⟩) | fail)
    go_ret
    rw [HR.out]
    exact ⟨rfl, NextR.refl HH.out⟩
  | true =>
    have CO := Lib.hid (op_on h hon hd.lim.s0 (by have := hd.lim.s1; omega) hd.lim.fuse)
    have HR := Lib.hid (show s.syncDir = if s.begun.on then (if over s.bad then (s.begun.bads, 16) else (s.begun.bads.settle, 0)) else (s.begun.bads, 14) from sy_on hon)
    have CB := Lib.hid (fun W (hr : RefAt W q s.begun x) => rbad_any hr hd.lim.bad)
    rw [show over s.begun.bad = over s.bad from rfl] at CB
    clear h hd
    cases hst : s.begun.on with
    | false =>
      rw [hst] at CO HR
      clear hst
      generalize over s.bad = ov at *
      cases ov
      all_goals
        go_enter Tryz.func43, Tryz.ntmps43
        go_wp2_with (first | (go_at_call 123; (with_reducible refine CO.out.mono ?_); rintro e w1 ⟨rfl, hr1, ht1, -⟩; have HR1 := Lib.hid hr1; have c6 := hr1.cell 6 x.d rfl) | (go_at_call 127; (with_reducible refine (CB.out _ HR1.out).mono ?_); rintro e w2 ⟨rfl, hr2, ht2, -⟩; have HR2 := Lib.hid hr2; have d6 := hr2.cell 6 x.d rfl; have hqt2 := hr2.lt) | fail)
        go_ret
        rw [HR.out]
        exact ⟨rfl, NextR.one HR2.out (ht1.trans ht2 (by simp))⟩
    | true =>
      rw [hst] at CO HR
      clear hst
      cases hov : over s.bad with
      | true =>
        rw [hov] at CB HR
        clear hov
        go_enter Tryz.func43, Tryz.ntmps43
        go_wp2_with (first | (go_at_call 123; (with_reducible refine CO.out.mono ?_); rintro e w1 ⟨rfl, hr1, ht1, -⟩; have HR1 := Lib.hid hr1; have c6 := hr1.cell 6 x.d rfl) | (go_at_call 127; (with_reducible refine (CB.out _ HR1.out).mono ?_); rintro e w2 ⟨rfl, hr2, ht2, -⟩; have HR2 := Lib.hid hr2; have d6 := hr2.cell 6 x.d rfl; have hqt2 := hr2.lt) | fail)
        go_ret
        rw [HR.out]
        exact ⟨rfl, NextR.one HR2.out (ht1.trans ht2 (by simp))⟩
      | false =>
        rw [hov] at CB HR
        clear hov
        have HA := Lib.hid (show (if true = true then (if false = true then (s.begun.bads, 16) else (s.begun.bads.settle, 0)) else (s.begun.bads, 14)) = ({ s.begun.bads with last := s.begun.bads.now, pend := [] }, (0 : Int)) from rfl)
        go_enter Tryz.func43, Tryz.ntmps43
        go_wp2_with (first | (go_at_call 123; (with_reducible refine CO.out.mono ?_); rintro e w1 ⟨rfl, hr1, ht1, -⟩; have HR1 := Lib.hid hr1; have c6 := hr1.cell 6 x.d rfl) | (go_at_call 127; (with_reducible refine (CB.out _ HR1.out).mono ?_); rintro e w2 ⟨rfl, hr2, ht2, -⟩; have HR2 := Lib.hid hr2; have d6 := hr2.cell 6 x.d rfl; have hqt2 := hr2.lt); obtain ⟨a2, c2, hxd, -, -⟩ := hr2.dir.le; rw [hxd] at d6; have e5 := hr2.cell 5 x.s rfl; have e7 := hr2.cell 7 x.p rfl; have e5f := hr2.warm 5; have e7f := hr2.warm 7; have hr4 := hr2.put5 hr2.dir rfl; rw [hxd] at hr4; have HR4 := Lib.hid hr4; have HXD := Lib.hid hxd; clear hr2 hr4 hxd | fail)
        go_ret
        rw [HR.out, HA.out]
        refine ⟨rfl, _, HR4.out, ((ht1.trans ht2 (by simp)).setCell (.inl (by simp)) _).setCell (.inl (by simp)) _, fun k hk => ?_⟩
        simp only [RefV.foot, List.mem_append, Option.mem_toList] at hk
        rcases hk with ((hk | hk) | hk) | hk
        · exact .inl (by rw [← HXD.out] at hk; simp [RefV.foot, hk])
        · exact .inl (by rw [← HXD.out] at hk; simp [RefV.foot, hk])
        · cases hk
        · exact .inl (by simp [RefV.foot, hk])
set_option maxHeartbeats 8000000 in
set_option maxRecDepth 100000 in
theorem rsync_any (h : RefAt w q s x) (hd : DocOk n m s) (hN : n ≤ 100000) (name : ByteArray) :
    Calls Tryz.prog 42 #[.pointer (some ⟨q, 0, none⟩), .string name] w fun e w' => e = .returned (.int .i64 (s.sync name.data.toList).2) ∧ NextR w q x (s.sync name.data.toList).1 w' := by
  have HH := Lib.hid h
  cases hon : s.on with
  | false =>
    have CO := Lib.hid (op_off h hon)
    have HR := Lib.hid (show s.sync name.data.toList = (s, 14) from sy_off hon)
    clear h hd
    go_enter Tryz.func42, Tryz.ntmps42
    go_wp2_with (first | (go_at_call 123; (with_reducible refine CO.out.mono ?_); rintro e w1 ⟨rfl, rfl⟩) | fail)
    go_ret
    rw [HR.out]
    exact ⟨rfl, NextR.refl HH.out⟩
  | true =>
    have CO := Lib.hid (op_on h hon hd.lim.s0 (by have := hd.lim.s1; omega) hd.lim.fuse)
    have HR := Lib.hid (show s.sync name.data.toList = if s.begun.on then (if over s.bad then (s.begun.bads, 16) else actSync name.data.toList s.begun.bads) else (s.begun.bads, 14) from sy_on hon)
    have CB := Lib.hid (fun W (hr : RefAt W q s.begun x) => rbad_any hr hd.lim.bad)
    rw [show over s.begun.bad = over s.bad from rfl] at CB
    have hl : s.now.length ≤ 1000000 := by have := hd.lim.nowl; omega
    have CF := Lib.hid (fun W (hr : RefAt W q s.begun.bads x) => find_any hr.dir name hl)
    cases hst : s.begun.on with
    | false =>
      rw [hst] at CO HR
      clear hst h hd
      generalize over s.bad = ov at *
      cases ov
      all_goals
        go_enter Tryz.func42, Tryz.ntmps42
        go_wp2_with (first | (go_at_call 123; (with_reducible refine CO.out.mono ?_); rintro e w1 ⟨rfl, hr1, ht1, -⟩; have HR1 := Lib.hid hr1; have c6 := hr1.cell 6 x.d rfl) | (go_at_call 127; (with_reducible refine (CB.out _ HR1.out).mono ?_); rintro e w2 ⟨rfl, hr2, ht2, -⟩; have HR2 := Lib.hid hr2; have d6 := hr2.cell 6 x.d rfl; have hqt2 := hr2.lt) | fail)
        go_ret
        rw [HR.out]
        exact ⟨rfl, NextR.one HR2.out (ht1.trans ht2 (by simp))⟩
    | true =>
      rw [hst] at CO HR
      clear hst
      cases hov : over s.bad with
      | true =>
        rw [hov] at CB HR
        clear hov h hd
        go_enter Tryz.func42, Tryz.ntmps42
        go_wp2_with (first | (go_at_call 123; (with_reducible refine CO.out.mono ?_); rintro e w1 ⟨rfl, hr1, ht1, -⟩; have HR1 := Lib.hid hr1; have c6 := hr1.cell 6 x.d rfl) | (go_at_call 127; (with_reducible refine (CB.out _ HR1.out).mono ?_); rintro e w2 ⟨rfl, hr2, ht2, -⟩; have HR2 := Lib.hid hr2; have d6 := hr2.cell 6 x.d rfl; have hqt2 := hr2.lt) | fail)
        go_ret
        rw [HR.out]
        exact ⟨rfl, NextR.one HR2.out (ht1.trans ht2 (by simp))⟩
      | false =>
        rw [hov] at CB HR
        clear hov
        rcases fnd_get s.now name.data.toList with ⟨hf, hg⟩ | ⟨k, hk, hf, hnm2, hg⟩
        · have HA := Lib.hid (show (if true = true then (if false = true then (s.begun.bads, 16) else actSync name.data.toList s.begun.bads) else (s.begun.bads, 14)) = (s.begun.bads, (7 : Int)) by
            show actSync name.data.toList s.begun.bads = _
            unfold actSync
            rw [show dget s.begun.bads.now name.data.toList = none from hg])
          rw [show fnd s.begun.bads.now name.data.toList = -1 from hf] at CF
          clear hf hg h hd
          go_enter Tryz.func42, Tryz.ntmps42
          go_wp2_with (first | (go_at_call 123; (with_reducible refine CO.out.mono ?_); rintro e w1 ⟨rfl, hr1, ht1, -⟩; have HR1 := Lib.hid hr1; have c6 := hr1.cell 6 x.d rfl) | (go_at_call 127; (with_reducible refine (CB.out _ HR1.out).mono ?_); rintro e w2 ⟨rfl, hr2, ht2, -⟩; have HR2 := Lib.hid hr2; have d6 := hr2.cell 6 x.d rfl; have hqt2 := hr2.lt) | (go_at_call 53; (with_reducible refine (CF.out _ HR2.out).mono ?_); rintro e w3 ⟨rfl, hb3⟩; have HR3 := Lib.hid (HR2.out.below hb3); have e8 := HR3.out.cell 8 x.f rfl; have e0 := HR3.out.cell 0 (.int .i64 s.room) rfl) | fail)
          go_ret
          rw [HR.out, HA.out]
          exact ⟨rfl, NextR.one HR3.out ((ht1.trans ht2 (by simp)).trans (turnZ [q] hb3) (by simp))⟩
        · have hid := hd.wf.nids _ (List.getElem_mem hk)
          have HA := Lib.hid (show (if true = true then (if false = true then (s.begun.bads, 16) else actSync name.data.toList s.begun.bads) else (s.begun.bads, 14)) = ({ s.begun.bads with files := s.files.set s.now[k].2 ⟨s.files[s.now[k].2].b, s.files[s.now[k].2].b.length⟩ }, (0 : Int)) by
            show actSync name.data.toList s.begun.bads = _
            unfold actSync
            rw [show dget s.begun.bads.now name.data.toList = some s.now[k].2 from hg]
            show ({ s.begun.bads with files := s.files.set s.now[k].2 ⟨(s.files.getD s.now[k].2 nofil).b, (s.files.getD s.now[k].2 nofil).b.length⟩ }, (0 : Int)) = _
            rw [getD_in hid])
          rw [show fnd s.begun.bads.now name.data.toList = (k : Int) from hf] at CF
          obtain ⟨i0, hi0, hz0, hzs, hzb⟩ := info_parts infoFZ
          have hfl : s.files.length ≤ 1000000 := by have := hd.lim.files; omega
          have HBa := Lib.hid (show 0 + s.files.length ≤ maxLen by unfold maxLen; omega)
          have HBb := Lib.hid (show (0 + s.files.length) * 24 ≤ 140737488355328 by omega)
          have hidI : (s.now[k].2 : Int) < (s.files.length : Int) := by omega
          have hid0 : (0 : Int) ≤ (s.now[k].2 : Int) := by omega
          have hkI : (k : Int) < (s.now.length : Int) := by omega
          have hk0 : decide ((k : Int) < 0) = false := decide_eq_false (by omega)
          clear hf hg h hd hnm2
          go_enter Tryz.func42, Tryz.ntmps42
          go_wp2_with (first | (go_at_call 123; (with_reducible refine CO.out.mono ?_); rintro e w1 ⟨rfl, hr1, ht1, -⟩; have HR1 := Lib.hid hr1; have c6 := hr1.cell 6 x.d rfl) | (go_at_call 127; (with_reducible refine (CB.out _ HR1.out).mono ?_); rintro e w2 ⟨rfl, hr2, ht2, -⟩; have HR2 := Lib.hid hr2; have d6 := hr2.cell 6 x.d rfl; have hqt2 := hr2.lt) | (go_at_call 53; (with_reducible refine (CF.out _ HR2.out).mono ?_); rintro e w3 ⟨rfl, hb3⟩; have HR3 := Lib.hid (HR2.out.below hb3); have e8 := HR3.out.cell 8 x.f rfl; have e0 := HR3.out.cell 0 (.int .i64 s.room) rfl); have HRT := HR3; have HTT := Lib.hid ((ht1.trans ht2 (by simp)).trans (turnZ [q] hb3) (by simp)) | (at_builtin; refine wpList_append_row _ rfl _ _ 73 73 rfl 96 i0 _ 2 24 Tryz.underlying73 hi0 hz0 hzs hzb rfl (.slice none 0 0) 0 [] rfl (row_nil _ _ _) _ rfl s.files.length (cellsF s.files) (HRT.out.files.srcZ Tryz.underlying73 (cellsF_one _)) HBa.out HBb.out ?_) | fail)
          intro v5 w5 hrow5 hgrow5 hob5
          have hb5 : Below w3.heap.size w3 w5 := below_row2 (Below.refl _ _) (Nat.le_refl _) hgrow5 (fun b hb => noneZ hb)
          have hv5 : ∀ b, ob v5 = some b → w3.heap.size ≤ b := fun b hb => ob_new2 hob5 (Nat.le_refl _) (fun b hb => noneZ hb) b hb
          try simp only [Nat.zero_add, List.nil_append] at hrow5
          have hrowz : RowZ w5 96 2 v5 s.files.length (cellsF s.files) := ⟨hrow5, fun h0 => by omega⟩
          rcases hrowz.cases with ⟨h0, -⟩ | ⟨g5, cap5, rfl, ho5, -, hle5, hmx5, hg5, hcc5⟩
          · omega
          have hgt5 : w3.heap.size ≤ g5 := hv5 g5 ho5
          have m5 : w5.cell? ⟨g5, s.now[k].2 * 2, none⟩ = some (.string ⟨s.files[s.now[k].2].b.toArray⟩) := hcc5 _ _ (by have := flat_get cellF_len s.files _ hid 0 _ rfl; rw [Nat.add_zero] at this; exact this)
          have m6 : w5.cell? ⟨g5, s.now[k].2 * 2 + 1, none⟩ = some (.int .i64 (s.files[s.now[k].2].syn : Int)) := hcc5 _ _ (flat_get cellF_len s.files _ hid 1 _ rfl)
          have mf : w5.frozen? ⟨g5, s.now[k].2 * 2 + 1, none⟩ = false := hrow5.warm rfl (by omega) _
          obtain ⟨g, c, hxd, h1, h2, hgd, -, q1⟩ := (HRT.out.below hb5).dirrd k hk
          replace hxd : x.d = .slice (some ⟨g, 0, none⟩) s.now.length c := hxd
          replace h1 : s.now.length ≤ c := h1
          replace q1 : w5.cell? ⟨g, k * 2 + 1, none⟩ = some (.int .i64 (s.now[k].2 : Int)) := q1
          have d6 := (HRT.out.below hb5).cell 6 _ (show _ = some (.slice (some ⟨g, 0, none⟩) s.now.length c) by rw [← hxd]; rfl)
          have HB5 := Lib.hid hb5
          have HG5 := Lib.hid hgt5
          have hrow6 := hrow5.set rfl (s.now[k].2 * 2 + 1) (by have := hid; omega) (.int .i64 (s.files[s.now[k].2].b.length : Int))
          rw [show (cellsF s.files).set (s.now[k].2 * 2 + 1) (.int .i64 (s.files[s.now[k].2].b.length : Int)) = cellsF (s.files.set s.now[k].2 ⟨s.files[s.now[k].2].b, s.files[s.now[k].2].b.length⟩) from (flat_set cellF_len s.files _ hid 1 (by decide) _ _ (by unfold cellF; rfl)).symm] at hrow6
          have HRO6 := Lib.hid hrow6
          have hb6 := HB5.out.setCell (p := ⟨g5, s.now[k].2 * 2 + 1, none⟩) HG5.out (.int .i64 (s.files[s.now[k].2].b.length : Int))
          have HR6w := Lib.hid (HRT.out.below hb6)
          have HB6w := Lib.hid hb6
          have e8w := HR6w.out.cell 8 x.f rfl
          have z6 := HR6w.out.cell 6 _ (show _ = some (.slice (some ⟨g, 0, none⟩) s.now.length c) by rw [← hxd]; rfl)
          have hgg : g ≠ g5 := fun e => by have := HRT.out.foot_lt g (by simp [RefV.foot, obZ hxd h1 (by omega)]); have := HG5.out; omega
          have z1 := (World.cell?_setCell_other w5 ⟨g5, s.now[k].2 * 2 + 1, none⟩ ⟨g, k * 2 + 1, none⟩ (.int .i64 (s.files[s.now[k].2].b.length : Int)) (fun e => hgg (congrArg Addr.block e).symm)).trans q1
          have e8f := HR6w.out.warm 8
          clear hb6 hgg hrow5 hrow6 hrowz hgrow5 hob5 hv5 hcc5 hxd hgt5 hb5
          go_wp2_with fail
          go_region_held3 (fun w' => w'.cell? ⟨q, 6, none⟩ = some (.slice (some ⟨g, 0, none⟩) s.now.length c) ∧ w'.cell? ⟨g, k * 2 + 1, none⟩ = some (.int .i64 (s.now[k].2 : Int)) ∧ w'.cell? ⟨g5, s.now[k].2 * 2, none⟩ = some (.string ⟨s.files[s.now[k].2].b.toArray⟩)) (first | exact ⟨d6, q1, m5⟩ | exact ⟨z6, z1, cell_set m5 (by omega)⟩) (fail)
          all_goals
            have hb6 := HB6w.out
            have hr6 := HR6w.out
            have hr7 := hr6.put8 (fs := s.files.set s.now[k].2 ⟨s.files[s.now[k].2].b, s.files[s.now[k].2].b.length⟩) (v := .slice (some ⟨g5, 0, none⟩) s.files.length cap5) (by rw [List.length_set]; exact HRO6.out)
            have ht7 := (HTT.out.trans (turnZ [q] hb6) (by simp)).setCell (p := ⟨q, 8, none⟩) (.inl (by simp)) (.slice (some ⟨g5, 0, none⟩) s.files.length cap5)
            have HR7 := Lib.hid hr7
            have HT7 := Lib.hid ht7
            clear hr6 hr7 ht7 hb6
          all_goals go_wp2
          all_goals go_ret
          all_goals
            rw [HR.out, HA.out]
            refine ⟨rfl, _, HR7.out.below (Below.refl _ _).drew, HT7.out.drew, fun k hk => ?_⟩
            simp only [RefV.foot, List.mem_append, Option.mem_toList] at hk
            rcases hk with ((hk | hk) | hk) | hk
            · exact .inl (by simp [RefV.foot, hk])
            · exact .inl (by simp [RefV.foot, hk])
            · exact .inl (by simp [RefV.foot, hk])
            · have hk2 := ob_some hk
              exact .inr (by rw [← hk2]; exact Nat.le_trans HTT.out.size HG5.out)
end
end Go.Proofs.YtfndlfnlepndmaaGreat
