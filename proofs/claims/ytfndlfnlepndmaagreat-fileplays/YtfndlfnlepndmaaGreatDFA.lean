/- The document's own files: Append. -/
import Derived.Test.YtfndlfnlepndmaaGreatDF9
namespace Go.Proofs.YtfndlfnlepndmaaGreat
open Go.RowKit

section
variable {w w' : World} {q n m : Nat} {s s' : St} {x : RefV}
set_option maxHeartbeats 16000000 in
set_option maxRecDepth 100000 in
theorem rappend_any (h : RefAt w q s x) (hd : DocOk n m s) (hN : n ≤ 100000) (hM : m ≤ 1000000000) (name data : ByteArray) (hD : data.size ≤ 1000000000) :
    Calls Tryz.prog 40 #[.pointer (some ⟨q, 0, none⟩), .string name, .string data] w fun e w' => e = .returned (.int .i64 (s.append name.data.toList data.data.toList).2) ∧ NextR w q x (s.append name.data.toList data.data.toList).1 w' := by
  have HH := Lib.hid h
  cases hon : s.on with
  | false =>
    have CO := Lib.hid (op_off h hon)
    have HR := Lib.hid (show s.append name.data.toList data.data.toList = (s, 14) from wr_off hon)
    clear h hd
    go_enter Tryz.func40, Tryz.ntmps40
    go_wp2_with (first | (go_at_call 123; (with_reducible refine CO.out.mono ?_); rintro e w1 ⟨rfl, rfl⟩) | fail)
    go_ret
    rw [HR.out]
    exact ⟨rfl, NextR.refl HH.out⟩
  | true =>
    have CO := Lib.hid (op_on h hon hd.lim.s0 (by have := hd.lim.s1; omega) hd.lim.fuse)
    have HR := Lib.hid (show s.append name.data.toList data.data.toList = ((actAppend name.data.toList data.data.toList s.begun).1, if s.begun.on then (actAppend name.data.toList data.data.toList s.begun).2 else 14) from wr_on hon)
    have hl : s.now.length ≤ 1000000 := by have := hd.lim.nowl; omega
    have CF := Lib.hid (fun W (hr : RefAt W q s.begun x) => find_any hr.dir name hl)
    have hdl : data.data.toList.length = data.size := rfl
    rcases fnd_get s.now name.data.toList with ⟨hf, hg⟩ | ⟨k, hk, hf, hnm2, hg⟩
    · have HA := Lib.hid (show actAppend name.data.toList data.data.toList s.begun = (s.begun, 7) by unfold actAppend; rw [show dget s.begun.now name.data.toList = none from hg])
      rw [show fnd s.begun.now name.data.toList = -1 from hf] at CF
      clear hf hg h hd
      obtain ⟨st, hst⟩ : ∃ st, st = s.begun.on := ⟨_, rfl⟩
      rw [← hst] at CO HR
      clear hst
      cases st
      all_goals
        go_enter Tryz.func40, Tryz.ntmps40
        go_wp2_with (first | (go_at_call 123; (with_reducible refine CO.out.mono ?_); rintro e w1 ⟨rfl, hr1, ht1, -⟩; have HR1 := Lib.hid hr1; have c6 := hr1.cell 6 x.d rfl) | (go_at_call 53; (with_reducible refine (CF.out _ HR1.out).mono ?_); rintro e w3 ⟨rfl, hb3⟩; have HR3 := Lib.hid (HR1.out.below hb3); have e8 := HR3.out.cell 8 x.f rfl; have e0 := HR3.out.cell 0 (.int .i64 s.room) rfl) | (go_at_call 124; (with_reducible refine (told_any _ _ _).mono ?_); rintro e w9 ⟨rfl, rfl⟩) | fail)
        go_ret
        rw [HR.out, HA.out]
        exact ⟨rfl, NextR.one HR3.out (ht1.trans (turnZ [q] hb3) (by simp))⟩
    · have hid := hd.wf.nids _ (List.getElem_mem hk)
      rw [show fnd s.begun.now name.data.toList = (k : Int) from hf] at CF
      have HACT := Lib.hid (show actAppend name.data.toList data.data.toList s.begun = if 0 < s.room ∧ s.room - (used s.files s.now : Int) < (data.size : Int) then (s.begun, 10) else ({ s.begun with files := s.files.set s.now[k].2 ⟨s.files[s.now[k].2].b ++ data.data.toList, s.files[s.now[k].2].syn⟩ }, 0) by
        unfold actAppend
        rw [show dget s.begun.now name.data.toList = some s.now[k].2 from hg]
        show (if 0 < s.room ∧ s.room - (used s.files s.now : Int) < (data.data.toList.length : Int) then (s.begun, (10 : Int)) else ({ s.begun with files := s.files.set s.now[k].2 ⟨(s.files.getD s.now[k].2 nofil).b ++ data.data.toList, (s.files.getD s.now[k].2 nofil).syn⟩ }, 0)) = _
        rw [getD_in hid, hdl])
      have CU := Lib.hid (fun W (hr : RefAt W q s.begun x) => rused_any hr hd.begun (by omega) hM)
      rw [show used s.begun.files s.begun.now = used s.files s.now from rfl] at CU
      obtain ⟨i0, hi0, hz0, hzs, hzb⟩ := info_parts infoFZ
      have hfl : s.files.length ≤ 1000000 := by have := hd.lim.files; omega
      have HBa := Lib.hid (show 0 + s.files.length ≤ maxLen by unfold maxLen; omega)
      have HBb := Lib.hid (show (0 + s.files.length) * 24 ≤ 140737488355328 by omega)
      have hidI : (s.now[k].2 : Int) < (s.files.length : Int) := by omega
      have hid0 : (0 : Int) ≤ (s.now[k].2 : Int) := by omega
      have hkI : (k : Int) < (s.now.length : Int) := by omega
      have hk0 : decide ((k : Int) < 0) = false := decide_eq_false (by omega)
      have hrl := hd.lim.room
      have hU : used s.files s.now ≤ 1000000000000000 := by
        have h1 := used_le hd.lim.bytes s.now
        have h2 : s.now.length * m ≤ 1000000 * 1000000000 := Nat.mul_le_mul hl hM
        omega
      have hbl : s.files[s.now[k].2].b.length + data.size ≤ 9223372036854775807 := by
        have := hd.lim.bytes _ (List.getElem_mem hid)
        omega
      have hblI : (s.files[s.now[k].2].b.length : Int) + (data.size : Int) ≤ 9223372036854775807 := by omega
      have hblN : decide (9223372036854775807 < (s.files[s.now[k].2].b.length : Int) + (data.size : Int)) = false := decide_eq_false (by omega)
      clear hf hg h hd hnm2
      generalize used s.files s.now = U at *
      by_cases hr0 : 0 < s.room
      · by_cases hc1 : s.room < (U : Int)
        · have HA := Lib.hid (show actAppend name.data.toList data.data.toList s.begun = (s.begun, 10) by rw [HACT.out, if_pos ⟨hr0, by omega⟩])
          clear HACT
          obtain ⟨st, hst⟩ : ∃ st, st = s.begun.on := ⟨_, rfl⟩
          rw [← hst] at CO HR
          clear hst
          cases st
          all_goals
            go_enter Tryz.func40, Tryz.ntmps40
            go_wp2_with (first | (go_at_call 123; (with_reducible refine CO.out.mono ?_); rintro e w1 ⟨rfl, hr1, ht1, -⟩; have HR1 := Lib.hid hr1; have c6 := hr1.cell 6 x.d rfl) | (go_at_call 53; (with_reducible refine (CF.out _ HR1.out).mono ?_); rintro e w3 ⟨rfl, hb3⟩; have HR3 := Lib.hid (HR1.out.below hb3); have e8 := HR3.out.cell 8 x.f rfl; have e0 := HR3.out.cell 0 (.int .i64 s.room) rfl) | fail)
            go_quiet ((go_at_call 56; exact Calls.quiet_of (CU.out _ (HR3.out.below (drewNZ (Below.refl _ _) _)))))
            obtain ⟨wt, hwt⟩ : ∃ wt, w3.drewN nq = wt := ⟨_, rfl⟩
            have HRT := Lib.hid (HR3.out.below (drewNZ (Below.refl w3.heap.size w3) nq))
            have HTT := Lib.hid ((ht1.trans (turnZ [q] hb3) (by simp)).trans (turnZ [q] (drewNZ (Below.refl w3.heap.size w3) nq)) (by simp))
            rw [hwt] at HRT HTT
            rw [hwt]
            have e8 := HRT.out.cell 8 x.f rfl
            clear hwt
            go_wp2_with (first | (go_at_call 124; (with_reducible refine (told_any _ _ _).mono ?_); rintro e w9 ⟨rfl, rfl⟩) | fail)
            go_ret
            rw [HR.out, HA.out]
            exact ⟨rfl, NextR.one HRT.out HTT.out⟩
        · have i1 : decide (s.room < (U : Int)) = false := decide_eq_false hc1
          by_cases hc2 : s.room - (U : Int) < (data.size : Int)
          · have HA := Lib.hid (show actAppend name.data.toList data.data.toList s.begun = (s.begun, 10) by rw [HACT.out, if_pos ⟨hr0, hc2⟩])
            clear HACT
            obtain ⟨st, hst⟩ : ∃ st, st = s.begun.on := ⟨_, rfl⟩
            rw [← hst] at CO HR
            clear hst
            cases st
            all_goals
              go_enter Tryz.func40, Tryz.ntmps40
              go_wp2_with (first | (go_at_call 123; (with_reducible refine CO.out.mono ?_); rintro e w1 ⟨rfl, hr1, ht1, -⟩; have HR1 := Lib.hid hr1; have c6 := hr1.cell 6 x.d rfl) | (go_at_call 53; (with_reducible refine (CF.out _ HR1.out).mono ?_); rintro e w3 ⟨rfl, hb3⟩; have HR3 := Lib.hid (HR1.out.below hb3); have e8 := HR3.out.cell 8 x.f rfl; have e0 := HR3.out.cell 0 (.int .i64 s.room) rfl) | fail)
              go_quiet ((go_at_call 56; exact Calls.quiet_of (CU.out _ (HR3.out.below (drewNZ (Below.refl _ _) _)))))
              obtain ⟨wt, hwt⟩ : ∃ wt, w3.drewN nq = wt := ⟨_, rfl⟩
              have HRT := Lib.hid (HR3.out.below (drewNZ (Below.refl w3.heap.size w3) nq))
              have HTT := Lib.hid ((ht1.trans (turnZ [q] hb3) (by simp)).trans (turnZ [q] (drewNZ (Below.refl w3.heap.size w3) nq)) (by simp))
              rw [hwt] at HRT HTT
              rw [hwt]
              have e8 := HRT.out.cell 8 x.f rfl
              clear hwt
              go_wp2_with (first | (go_at_call 124; (with_reducible refine (told_any _ _ _).mono ?_); rintro e w9 ⟨rfl, rfl⟩) | fail)
              go_ret
              rw [HR.out, HA.out]
              exact ⟨rfl, NextR.one HRT.out HTT.out⟩
          · have HA := Lib.hid (show actAppend name.data.toList data.data.toList s.begun = ({ s.begun with files := s.files.set s.now[k].2 ⟨s.files[s.now[k].2].b ++ data.data.toList, s.files[s.now[k].2].syn⟩ }, 0) by rw [HACT.out, if_neg (fun h => hc2 h.2)])
            have i2 : decide (s.room - (U : Int) < (data.size : Int)) = false := decide_eq_false hc2
            clear HACT
            obtain ⟨st, hst⟩ : ∃ st, st = s.begun.on := ⟨_, rfl⟩
            rw [← hst] at CO HR
            clear hst
            go_enter Tryz.func40, Tryz.ntmps40
            go_wp2_with (first | (go_at_call 123; (with_reducible refine CO.out.mono ?_); rintro e w1 ⟨rfl, hr1, ht1, -⟩; have HR1 := Lib.hid hr1; have c6 := hr1.cell 6 x.d rfl) | (go_at_call 53; (with_reducible refine (CF.out _ HR1.out).mono ?_); rintro e w3 ⟨rfl, hb3⟩; have HR3 := Lib.hid (HR1.out.below hb3); have e8 := HR3.out.cell 8 x.f rfl; have e0 := HR3.out.cell 0 (.int .i64 s.room) rfl) | fail)
            go_quiet ((go_at_call 56; exact Calls.quiet_of (CU.out _ (HR3.out.below (drewNZ (Below.refl _ _) _)))))
            obtain ⟨wt, hwt⟩ : ∃ wt, w3.drewN nq = wt := ⟨_, rfl⟩
            have HRT := Lib.hid (HR3.out.below (drewNZ (Below.refl w3.heap.size w3) nq))
            have HTT := Lib.hid ((ht1.trans (turnZ [q] hb3) (by simp)).trans (turnZ [q] (drewNZ (Below.refl w3.heap.size w3) nq)) (by simp))
            rw [hwt] at HRT HTT
            rw [hwt]
            have e8 := HRT.out.cell 8 x.f rfl
            clear hwt
            go_wp2_with (first | (at_builtin; refine wpList_append_row _ rfl _ _ 73 73 rfl 96 i0 _ 2 24 Tryz.underlying73 hi0 hz0 hzs hzb rfl (.slice none 0 0) 0 [] rfl (row_nil _ _ _) _ rfl s.files.length (cellsF s.files) (HRT.out.files.srcZ Tryz.underlying73 (cellsF_one _)) HBa.out HBb.out ?_) | fail)
            intro v5 w5 hrow5 hgrow5 hob5
            have hb5 : Below wt.heap.size wt w5 := below_row2 (Below.refl _ _) (Nat.le_refl _) hgrow5 (fun b hb => noneZ hb)
            have hv5 : ∀ b, ob v5 = some b → wt.heap.size ≤ b := fun b hb => ob_new2 hob5 (Nat.le_refl _) (fun b hb => noneZ hb) b hb
            try simp only [Nat.zero_add, List.nil_append] at hrow5
            have hrowz : RowZ w5 96 2 v5 s.files.length (cellsF s.files) := ⟨hrow5, fun h0 => by omega⟩
            rcases hrowz.cases with ⟨h0, -⟩ | ⟨g5, cap5, rfl, ho5, -, hle5, hmx5, hg5, hcc5⟩
            · omega
            have hgt5 : wt.heap.size ≤ g5 := hv5 g5 ho5
            have m5 : w5.cell? ⟨g5, s.now[k].2 * 2, none⟩ = some (.string ⟨s.files[s.now[k].2].b.toArray⟩) := hcc5 _ _ (by have := flat_get cellF_len s.files _ hid 0 _ rfl; rw [Nat.add_zero] at this; exact this)
            have m6 : w5.cell? ⟨g5, s.now[k].2 * 2 + 1, none⟩ = some (.int .i64 (s.files[s.now[k].2].syn : Int)) := hcc5 _ _ (flat_get cellF_len s.files _ hid 1 _ rfl)
            have mf : w5.frozen? ⟨g5, s.now[k].2 * 2, none⟩ = false := hrow5.warm rfl (by omega) _
            obtain ⟨g, c, hxd, h1, h2, hgd, -, q1⟩ := (HRT.out.below hb5).dirrd k hk
            replace hxd : x.d = .slice (some ⟨g, 0, none⟩) s.now.length c := hxd
            replace h1 : s.now.length ≤ c := h1
            replace q1 : w5.cell? ⟨g, k * 2 + 1, none⟩ = some (.int .i64 (s.now[k].2 : Int)) := q1
            have d6 := (HRT.out.below hb5).cell 6 _ (show _ = some (.slice (some ⟨g, 0, none⟩) s.now.length c) by rw [← hxd]; rfl)
            have HB5 := Lib.hid hb5
            have HG5 := Lib.hid hgt5
            have hrow6 := hrow5.set rfl (s.now[k].2 * 2) (by have := hid; omega) (.string (⟨s.files[s.now[k].2].b.toArray⟩ ++ data))
            rw [show (cellsF s.files).set (s.now[k].2 * 2) (.string (⟨s.files[s.now[k].2].b.toArray⟩ ++ data)) = cellsF (s.files.set s.now[k].2 ⟨s.files[s.now[k].2].b ++ data.data.toList, s.files[s.now[k].2].syn⟩) from (flat_set cellF_len s.files _ hid 0 (by decide) _ _ (by unfold cellF; rw [bytesZ]; rfl)).symm] at hrow6
            have HRO6 := Lib.hid hrow6
            have hb6 := HB5.out.setCell (p := ⟨g5, s.now[k].2 * 2, none⟩) HG5.out (.string (⟨s.files[s.now[k].2].b.toArray⟩ ++ data))
            have HR6w := Lib.hid (HRT.out.below hb6)
            have HB6w := Lib.hid hb6
            have e8w := HR6w.out.cell 8 x.f rfl
            have z6 := HR6w.out.cell 6 _ (show _ = some (.slice (some ⟨g, 0, none⟩) s.now.length c) by rw [← hxd]; rfl)
            have hgg : g ≠ g5 := fun e => by have := HRT.out.foot_lt g (by simp [RefV.foot, obZ hxd h1 (by omega)]); have := HG5.out; omega
            have z1 := (World.cell?_setCell_other w5 ⟨g5, s.now[k].2 * 2, none⟩ ⟨g, k * 2 + 1, none⟩ (.string (⟨s.files[s.now[k].2].b.toArray⟩ ++ data)) (fun e => hgg (congrArg Addr.block e).symm)).trans q1
            have e8f := HR6w.out.warm 8
            clear hb6 hgg hrow5 hrow6 hrowz hgrow5 hob5 hv5 hcc5 hxd hgt5 hb5
            go_wp2_with fail
            go_region_with (fail)
            all_goals
              have hb6 := HB6w.out
              have hr6 := HR6w.out
              have hr7 := hr6.put8 (fs := s.files.set s.now[k].2 ⟨s.files[s.now[k].2].b ++ data.data.toList, s.files[s.now[k].2].syn⟩) (v := .slice (some ⟨g5, 0, none⟩) s.files.length cap5) (by rw [List.length_set]; exact HRO6.out)
              have ht7 := (HTT.out.trans (turnZ [q] hb6) (by simp)).setCell (p := ⟨q, 8, none⟩) (.inl (by simp)) (.slice (some ⟨g5, 0, none⟩) s.files.length cap5)
              have HR7 := Lib.hid hr7
              have HT7 := Lib.hid ht7
              clear hr6 hr7 ht7 hb6
            all_goals cases st
            all_goals go_wp2_with (first | (go_at_call 124; (with_reducible refine (told_any _ _ _).mono ?_); rintro e w9 ⟨rfl, rfl⟩) | fail)
            all_goals go_ret
            all_goals
              rw [HR.out, HA.out]
              refine ⟨rfl, _, HR7.out.below (Below.refl _ _).drew, HT7.out.drew, fun k hk => ?_⟩
              simp only [RefV.foot, List.mem_append, Option.mem_toList] at hk
              rcases hk with ((hk | hk) | hk) | hk
              · exact .inl (by simp [RefV.foot, hk])
              · exact .inl (by simp [RefV.foot, hk])
              · exact .inl (by simp [RefV.foot, hk])
              · have hk2 := ob_some hk
                exact .inr (by rw [← hk2]; exact Nat.le_trans HTT.out.size HG5.out)
      · have HA := Lib.hid (show actAppend name.data.toList data.data.toList s.begun = ({ s.begun with files := s.files.set s.now[k].2 ⟨s.files[s.now[k].2].b ++ data.data.toList, s.files[s.now[k].2].syn⟩ }, 0) by rw [HACT.out, if_neg (fun h => hr0 h.1)])
        have i0' : decide (0 < s.room) = false := decide_eq_false hr0
        clear HACT
        obtain ⟨st, hst⟩ : ∃ st, st = s.begun.on := ⟨_, rfl⟩
        rw [← hst] at CO HR
        clear hst
        go_enter Tryz.func40, Tryz.ntmps40
        go_wp2_with (first | (go_at_call 123; (with_reducible refine CO.out.mono ?_); rintro e w1 ⟨rfl, hr1, ht1, -⟩; have HR1 := Lib.hid hr1; have c6 := hr1.cell 6 x.d rfl) | (go_at_call 53; (with_reducible refine (CF.out _ HR1.out).mono ?_); rintro e w3 ⟨rfl, hb3⟩; have HR3 := Lib.hid (HR1.out.below hb3); have e8 := HR3.out.cell 8 x.f rfl; have e0 := HR3.out.cell 0 (.int .i64 s.room) rfl) | fail)
        go_quiet ((go_at_call 56; exact Calls.quiet_of (CU.out _ (HR3.out.below (drewNZ (Below.refl _ _) _)))))
        obtain ⟨wt, hwt⟩ : ∃ wt, w3.drewN nq = wt := ⟨_, rfl⟩
        have HRT := Lib.hid (HR3.out.below (drewNZ (Below.refl w3.heap.size w3) nq))
        have HTT := Lib.hid ((ht1.trans (turnZ [q] hb3) (by simp)).trans (turnZ [q] (drewNZ (Below.refl w3.heap.size w3) nq)) (by simp))
        rw [hwt] at HRT HTT
        rw [hwt]
        have e8 := HRT.out.cell 8 x.f rfl
        clear hwt
        go_wp2_with (first | (at_builtin; refine wpList_append_row _ rfl _ _ 73 73 rfl 96 i0 _ 2 24 Tryz.underlying73 hi0 hz0 hzs hzb rfl (.slice none 0 0) 0 [] rfl (row_nil _ _ _) _ rfl s.files.length (cellsF s.files) (HRT.out.files.srcZ Tryz.underlying73 (cellsF_one _)) HBa.out HBb.out ?_) | fail)
        intro v5 w5 hrow5 hgrow5 hob5
        have hb5 : Below wt.heap.size wt w5 := below_row2 (Below.refl _ _) (Nat.le_refl _) hgrow5 (fun b hb => noneZ hb)
        have hv5 : ∀ b, ob v5 = some b → wt.heap.size ≤ b := fun b hb => ob_new2 hob5 (Nat.le_refl _) (fun b hb => noneZ hb) b hb
        try simp only [Nat.zero_add, List.nil_append] at hrow5
        have hrowz : RowZ w5 96 2 v5 s.files.length (cellsF s.files) := ⟨hrow5, fun h0 => by omega⟩
        rcases hrowz.cases with ⟨h0, -⟩ | ⟨g5, cap5, rfl, ho5, -, hle5, hmx5, hg5, hcc5⟩
        · omega
        have hgt5 : wt.heap.size ≤ g5 := hv5 g5 ho5
        have m5 : w5.cell? ⟨g5, s.now[k].2 * 2, none⟩ = some (.string ⟨s.files[s.now[k].2].b.toArray⟩) := hcc5 _ _ (by have := flat_get cellF_len s.files _ hid 0 _ rfl; rw [Nat.add_zero] at this; exact this)
        have m6 : w5.cell? ⟨g5, s.now[k].2 * 2 + 1, none⟩ = some (.int .i64 (s.files[s.now[k].2].syn : Int)) := hcc5 _ _ (flat_get cellF_len s.files _ hid 1 _ rfl)
        have mf : w5.frozen? ⟨g5, s.now[k].2 * 2, none⟩ = false := hrow5.warm rfl (by omega) _
        obtain ⟨g, c, hxd, h1, h2, hgd, -, q1⟩ := (HRT.out.below hb5).dirrd k hk
        replace hxd : x.d = .slice (some ⟨g, 0, none⟩) s.now.length c := hxd
        replace h1 : s.now.length ≤ c := h1
        replace q1 : w5.cell? ⟨g, k * 2 + 1, none⟩ = some (.int .i64 (s.now[k].2 : Int)) := q1
        have d6 := (HRT.out.below hb5).cell 6 _ (show _ = some (.slice (some ⟨g, 0, none⟩) s.now.length c) by rw [← hxd]; rfl)
        have HB5 := Lib.hid hb5
        have HG5 := Lib.hid hgt5
        have hrow6 := hrow5.set rfl (s.now[k].2 * 2) (by have := hid; omega) (.string (⟨s.files[s.now[k].2].b.toArray⟩ ++ data))
        rw [show (cellsF s.files).set (s.now[k].2 * 2) (.string (⟨s.files[s.now[k].2].b.toArray⟩ ++ data)) = cellsF (s.files.set s.now[k].2 ⟨s.files[s.now[k].2].b ++ data.data.toList, s.files[s.now[k].2].syn⟩) from (flat_set cellF_len s.files _ hid 0 (by decide) _ _ (by unfold cellF; rw [bytesZ]; rfl)).symm] at hrow6
        have HRO6 := Lib.hid hrow6
        have hb6 := HB5.out.setCell (p := ⟨g5, s.now[k].2 * 2, none⟩) HG5.out (.string (⟨s.files[s.now[k].2].b.toArray⟩ ++ data))
        have HR6w := Lib.hid (HRT.out.below hb6)
        have HB6w := Lib.hid hb6
        have e8w := HR6w.out.cell 8 x.f rfl
        have z6 := HR6w.out.cell 6 _ (show _ = some (.slice (some ⟨g, 0, none⟩) s.now.length c) by rw [← hxd]; rfl)
        have hgg : g ≠ g5 := fun e => by have := HRT.out.foot_lt g (by simp [RefV.foot, obZ hxd h1 (by omega)]); have := HG5.out; omega
        have z1 := (World.cell?_setCell_other w5 ⟨g5, s.now[k].2 * 2, none⟩ ⟨g, k * 2 + 1, none⟩ (.string (⟨s.files[s.now[k].2].b.toArray⟩ ++ data)) (fun e => hgg (congrArg Addr.block e).symm)).trans q1
        have e8f := HR6w.out.warm 8
        clear hb6 hgg hrow5 hrow6 hrowz hgrow5 hob5 hv5 hcc5 hxd hgt5 hb5
        go_wp2_with fail
        go_region_with (fail)
        all_goals
          have hb6 := HB6w.out
          have hr6 := HR6w.out
          have hr7 := hr6.put8 (fs := s.files.set s.now[k].2 ⟨s.files[s.now[k].2].b ++ data.data.toList, s.files[s.now[k].2].syn⟩) (v := .slice (some ⟨g5, 0, none⟩) s.files.length cap5) (by rw [List.length_set]; exact HRO6.out)
          have ht7 := (HTT.out.trans (turnZ [q] hb6) (by simp)).setCell (p := ⟨q, 8, none⟩) (.inl (by simp)) (.slice (some ⟨g5, 0, none⟩) s.files.length cap5)
          have HR7 := Lib.hid hr7
          have HT7 := Lib.hid ht7
          clear hr6 hr7 ht7 hb6
        all_goals cases st
        all_goals go_wp2_with (first | (go_at_call 124; (with_reducible refine (told_any _ _ _).mono ?_); rintro e w9 ⟨rfl, rfl⟩) | fail)
        all_goals go_ret
        all_goals
          rw [HR.out, HA.out]
          refine ⟨rfl, _, HR7.out.below (Below.refl _ _).drew, HT7.out.drew, fun k hk => ?_⟩
          simp only [RefV.foot, List.mem_append, Option.mem_toList] at hk
          rcases hk with ((hk | hk) | hk) | hk
          · exact .inl (by simp [RefV.foot, hk])
          · exact .inl (by simp [RefV.foot, hk])
          · exact .inl (by simp [RefV.foot, hk])
          · have hk2 := ob_some hk
            exact .inr (by rw [← hk2]; exact Nat.le_trans HTT.out.size HG5.out)
end
end Go.Proofs.YtfndlfnlepndmaaGreat
