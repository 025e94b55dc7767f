/- The document's own files: Create, Rename. -/
import Derived.Test.YtfndlfnlepndmaaGreatDF67
namespace Go.Proofs.YtfndlfnlepndmaaGreat
open Go.RowKit

theorem cellsF_snoc (l : List Fil) : cellsF (l ++ [⟨[], 0⟩]) = cellsF l ++ [.string ⟨#[]⟩, .int .i64 0] := by
  simp [cellsF, cellF]
section
variable {w w' : World} {q n m : Nat} {s s' : St} {x : RefV}
set_option maxHeartbeats 8000000 in
set_option maxRecDepth 100000 in
theorem rcreate_any (h : RefAt w q s x) (hd : DocOk n m s) (hN : n ≤ 100000) (name : ByteArray) (hn : name.size ≤ 9223372036854775807) :
    Calls Tryz.prog 39 #[.pointer (some ⟨q, 0, none⟩), .string name] w fun e w' => e = .returned (.int .i64 (s.create name.data.toList).2) ∧ NextR w q x (s.create name.data.toList).1 w' := by
  have HH := Lib.hid h
  cases hon : s.on with
  | false =>
    have CO := Lib.hid (op_off h hon)
    have HR := Lib.hid (show s.create name.data.toList = (s, 14) from wr_off hon)
    clear h hd
    go_enter Tryz.func39, Tryz.ntmps39
    go_wp2_with (first | (go_at_call 123; (with_reducible refine CO.out.mono ?_); rintro e w1 ⟨rfl, rfl⟩) | fail)
    go_ret
    rw [HR.out]
    exact ⟨rfl, NextR.refl HH.out⟩
  | true =>
    have CO := Lib.hid (op_on h hon hd.lim.s0 (by have := hd.lim.s1; omega) hd.lim.fuse)
    have HR := Lib.hid (show s.create name.data.toList = ((actCreate name.data.toList s.begun).1, if s.begun.on then (actCreate name.data.toList s.begun).2 else 14) from wr_on hon)
    have hl : s.now.length ≤ 1000000 := by have := hd.lim.nowl; omega
    have CF := Lib.hid (fun W (hr : RefAt W q s.begun x) => find_any hr.dir name hl)
    have hnl : name.data.toList.length = name.size := rfl
    cases hnm : isNm name.data.toList with
    | false =>
      have HA := Lib.hid (show actCreate name.data.toList s.begun = (s.begun, 1) by unfold actCreate; rw [hnm]; rfl)
      by_cases hA : name.size < 1
      · have i1 : (name.size : Int) < 1 := by omega
        clear h hd hnm hnl
        obtain ⟨st, hst⟩ : ∃ st, st = s.begun.on := ⟨_, rfl⟩
        rw [← hst] at CO HR
        clear hst
        cases st
        all_goals
          go_enter Tryz.func39, Tryz.ntmps39
          go_wp2_with (first | (go_at_call 123; (with_reducible refine CO.out.mono ?_); rintro e w1 ⟨rfl, hr1, ht1, -⟩; have c6 := hr1.cell 6 x.d rfl; have CF1 := Lib.hid (CF.out _ hr1); have HR1 := Lib.hid hr1) | (go_at_call 124; (with_reducible refine (told_any _ _ _).mono ?_); rintro e w9 ⟨rfl, rfl⟩) | fail)
          go_ret
          rw [HR.out, HA.out]
          exact ⟨rfl, NextR.one HR1.out ht1⟩
      · have hB : 20 < name.size := by
          unfold isNm at hnm
          rw [hnl] at hnm
          simp at hnm
          omega
        have i1 : decide ((name.size : Int) < 1) = false := decide_eq_false (by omega)
        have i2 : decide ((20 : Int) < (name.size : Int)) = true := decide_eq_true (by omega)
        clear h hd hnm hnl
        obtain ⟨st, hst⟩ : ∃ st, st = s.begun.on := ⟨_, rfl⟩
        rw [← hst] at CO HR
        clear hst
        cases st
        all_goals
          go_enter Tryz.func39, Tryz.ntmps39
          go_wp2_with (first | (go_at_call 123; (with_reducible refine CO.out.mono ?_); rintro e w1 ⟨rfl, hr1, ht1, -⟩; have c6 := hr1.cell 6 x.d rfl; have CF1 := Lib.hid (CF.out _ hr1); have HR1 := Lib.hid hr1) | (go_at_call 124; (with_reducible refine (told_any _ _ _).mono ?_); rintro e w9 ⟨rfl, rfl⟩) | fail)
          go_ret
          rw [HR.out, HA.out]
          exact ⟨rfl, NextR.one HR1.out ht1⟩
    | true =>
      have hlen := nm_len hnm
      rw [hnl] at hlen
      have i1 : decide ((name.size : Int) < 1) = false := decide_eq_false (by omega)
      have i2 : decide ((20 : Int) < (name.size : Int)) = false := decide_eq_false (by omega)
      have hne := nm_ne hnm
      rcases fnd_get s.now name.data.toList with ⟨hf, hg⟩ | ⟨k, hk, hf, hnm2, hg⟩
      · have HA := Lib.hid (show actCreate name.data.toList s.begun = (s.begun.more.doing ⟨[], name.data.toList, some s.files.length⟩, 0) by unfold actCreate; rw [hnm, show dget s.begun.now name.data.toList = none from hg]; rfl)
        rw [show fnd s.begun.now name.data.toList = -1 from hf] at CF
        obtain ⟨i0, hi0, hz0, hzs, hzb⟩ := info_parts infoFZ
        have hfl : s.files.length ≤ 1000000 := by have := hd.lim.files; omega
        have HBa := Lib.hid (show 0 + s.files.length ≤ maxLen by unfold maxLen; omega)
        have HBb := Lib.hid (show (0 + s.files.length) * 24 ≤ 140737488355328 by omega)
        have HBc := Lib.hid (show s.files.length + 1 ≤ maxLen by unfold maxLen; omega)
        have HBd := Lib.hid (show (s.files.length + 1) * 24 ≤ 140737488355328 by omega)
        have CD := Lib.hid (fun W y (hr : RefAt W q s.begun.more y) => rdo_any hr ⟨1, name.data.toList, [], s.files.length⟩ ⟨[], name.data.toList, some s.files.length⟩ (by simp [Cz.run, Chg.run, Chg.less, Chg.file, hne]) hd.now hl (by have := hd.pendl; show s.pend.length ≤ _; omega) hn (by simp) hd.names)
        clear hf hg h hd hnm hnl hne
        obtain ⟨st, hst⟩ : ∃ st, st = s.begun.on := ⟨_, rfl⟩
        rw [← hst] at CO HR
        clear hst
        cases st
        all_goals
          go_enter Tryz.func39, Tryz.ntmps39
          go_wp2_with (first | (go_at_call 123; (with_reducible refine CO.out.mono ?_); rintro e w1 ⟨rfl, hr1, ht1, -⟩; have c6 := hr1.cell 6 x.d rfl; have CF1 := Lib.hid (CF.out _ hr1); have HR1 := Lib.hid hr1) | (go_at_call 53; (with_reducible refine CF1.out.mono ?_); rintro e w3 ⟨rfl, hb3⟩; have HR3 := Lib.hid (HR1.out.below hb3); have d6 := HR3.out.cell 6 x.d rfl; have d8 := HR3.out.cell 8 x.f rfl) | (at_builtin; refine wpList_append_row _ rfl _ _ 73 73 rfl 96 i0 _ 2 24 Tryz.underlying73 hi0 hz0 hzs hzb rfl (.slice none 0 0) 0 [] rfl (row_nil _ _ _) _ rfl s.files.length (cellsF s.files) (HR3.out.files.srcZ Tryz.underlying73 (cellsF_one _)) HBa.out HBb.out ?_) | fail)
          intro v5 w5 hrow5 hgrow5 hob5
          have hb5 : Below w3.heap.size w3 w5 := below_row2 (Below.refl _ _) (Nat.le_refl _) hgrow5 (fun b hb => noneZ hb)
          have hv5 : ∀ b, ob v5 = some b → w3.heap.size ≤ b := fun b hb => ob_new2 hob5 (Nat.le_refl _) (fun b hb => noneZ hb) b hb
          try simp only [Nat.zero_add, List.nil_append] at hrow5
          have HRO5 := Lib.hid hrow5
          go_wp2_with (first | (at_builtin; refine wpList_append_row _ rfl _ _ 73 73 rfl 96 i0 _ 2 24 Tryz.underlying73 hi0 hz0 hzs hzb rfl v5 _ _ rfl (rowZ_below HRO5.out ((Below.refl _ _).alloc (Nat.le_refl _) _)) _ rfl 1 _ (srcF_new _) HBc.out HBd.out ?_) | fail)
          intro v6 w6 hrow6 hgrow6 hob6
          have hb6 : Below w3.heap.size w3 w6 := below_row2 (hb5.alloc hb5.size _) (Nat.le_refl _) hgrow6 hv5
          have hv6 : ∀ b, ob v6 = some b → w3.heap.size ≤ b := by
            intro b hb
            rcases hob6 with e | ⟨e, -⟩
            · exact hv5 b (by rw [← e]; exact hb)
            · rw [e] at hb
              cases hb
              have := hb5.size
              omega
          obtain ⟨av6, cap6, hv6e, -, -⟩ := hrow6.le
          subst hv6e
          have hr6 := HR3.out.below hb6
          have e8 := hr6.cell 8 x.f rfl
          have e8f := hr6.warm 8
          have hr7 := hr6.put8 (fs := s.files ++ [⟨[], 0⟩]) (v := .slice av6 (s.files.length + 1) cap6) (by rw [List.length_append, cellsF_snoc]; exact hrow6)
          have ht7 : Turn [q] w (w6.setCell ⟨q, 8, none⟩ (.slice av6 (s.files.length + 1) cap6)) := ((ht1.trans (turnZ [q] hb3) (by simp)).trans (turnZ [q] hb6) (by simp)).setCell (.inl (by simp)) _
          have HR7 := Lib.hid hr7
          have hfr : ∀ k ∈ ({ x with f := .slice av6 (s.files.length + 1) cap6 } : RefV).foot, k ∈ x.foot ∨ w.heap.size ≤ k := by
            intro k hk
            simp only [RefV.foot, List.mem_append, Option.mem_toList] at hk
            rcases hk with ((hk | hk) | hk) | hk
            · exact .inl (by simp [RefV.foot, hk])
            · exact .inl (by simp [RefV.foot, hk])
            · exact .inl (by simp [RefV.foot, hk])
            · exact .inr (Nat.le_trans (Nat.le_trans ht1.size hb3.size) (hv6 k hk))
          have HFR := Lib.hid hfr
          have HT7 := Lib.hid ht7
          clear hr6 hr7 ht7 hfr hv6 hv5
          go_wp2_with (first | (go_at_call 125; (refine (CD.out _ _ HR7.out).mono ?_); rintro e w8 ⟨rfl, hn8⟩) | (go_at_call 124; (with_reducible refine (told_any _ _ _).mono ?_); rintro e w9 ⟨rfl, rfl⟩) | fail)
          go_ret
          rw [HR.out, HA.out]
          exact ⟨rfl, NextR.trans HT7.out HFR.out hn8⟩
      · have HA := Lib.hid (show actCreate name.data.toList s.begun = (s.begun, 8) by unfold actCreate; rw [hnm, show dget s.begun.now name.data.toList = some s.now[k].2 from hg]; rfl)
        rw [show fnd s.begun.now name.data.toList = (k : Int) from hf] at CF
        have hkI : (0 : Int) ≤ (k : Int) := by omega
        clear hf hg hnm2 h hd hnm hnl hne
        obtain ⟨st, hst⟩ : ∃ st, st = s.begun.on := ⟨_, rfl⟩
        rw [← hst] at CO HR
        clear hst
        cases st
        all_goals
          go_enter Tryz.func39, Tryz.ntmps39
          go_wp2_with (first | (go_at_call 123; (with_reducible refine CO.out.mono ?_); rintro e w1 ⟨rfl, hr1, ht1, -⟩; have c6 := hr1.cell 6 x.d rfl; have CF1 := Lib.hid (CF.out _ hr1); have HR1 := Lib.hid hr1) | (go_at_call 53; (with_reducible refine CF1.out.mono ?_); rintro e w3 ⟨rfl, hb3⟩; have HR3 := Lib.hid (HR1.out.below hb3); have d6 := HR3.out.cell 6 x.d rfl; have d8 := HR3.out.cell 8 x.f rfl) | (go_at_call 124; (with_reducible refine (told_any _ _ _).mono ?_); rintro e w9 ⟨rfl, rfl⟩) | fail)
          go_ret
          rw [HR.out, HA.out]
          exact ⟨rfl, NextR.one HR3.out (ht1.trans (turnZ [q] hb3) (by simp))⟩
set_option maxHeartbeats 8000000 in
set_option maxRecDepth 100000 in
theorem rrename_any (h : RefAt w q s x) (hd : DocOk n m s) (hN : n ≤ 100000) (name : ByteArray) (hn : name.size ≤ 9223372036854775807) (dst : ByteArray) (hto : dst.size ≤ 9223372036854775807) :
    Calls Tryz.prog 44 #[.pointer (some ⟨q, 0, none⟩), .string name, .string dst] w fun e w' => e = .returned (.int .i64 (s.rename name.data.toList dst.data.toList).2) ∧ NextR w q x (s.rename name.data.toList dst.data.toList).1 w' := by
  have HH := Lib.hid h
  cases hon : s.on with
  | false =>
    have CO := Lib.hid (op_off h hon)
    have HR := Lib.hid (show s.rename name.data.toList dst.data.toList = (s, 14) from wr_off hon)
    clear h hd
    go_enter Tryz.func44, Tryz.ntmps44
    go_wp2_with (first | (go_at_call 123; (with_reducible refine CO.out.mono ?_); rintro e w1 ⟨rfl, rfl⟩) | fail)
    go_ret
    rw [HR.out]
    exact ⟨rfl, NextR.refl HH.out⟩
  | true =>
    have CO := Lib.hid (op_on h hon hd.lim.s0 (by have := hd.lim.s1; omega) hd.lim.fuse)
    have HR := Lib.hid (show s.rename name.data.toList dst.data.toList = ((actRename name.data.toList dst.data.toList s.begun).1, if s.begun.on then (actRename name.data.toList dst.data.toList s.begun).2 else 14) from wr_on hon)
    have hl : s.now.length ≤ 1000000 := by have := hd.lim.nowl; omega
    have CF := Lib.hid (fun W (hr : RefAt W q s.begun x) => find_any hr.dir name hl)
    have hnl : dst.data.toList.length = dst.size := rfl
    rcases fnd_get s.now name.data.toList with ⟨hf, hg⟩ | ⟨k, hk, hf, hnm2, hg⟩
    · have HA := Lib.hid (show actRename name.data.toList dst.data.toList s.begun = (s.begun, 7) by unfold actRename; rw [show dget s.begun.now name.data.toList = none from hg]; rfl)
      rw [show fnd s.begun.now name.data.toList = -1 from hf] at CF
      clear hf hg h hd
      obtain ⟨st, hst⟩ : ∃ st, st = s.begun.on := ⟨_, rfl⟩
      rw [← hst] at CO HR
      clear hst
      cases st
      all_goals
        go_enter Tryz.func44, Tryz.ntmps44
        go_wp2_with (first | (go_at_call 123; (with_reducible refine CO.out.mono ?_); rintro e w1 ⟨rfl, hr1, ht1, -⟩; have c6 := hr1.cell 6 x.d rfl; have CF1 := Lib.hid (CF.out _ hr1); have HR1 := Lib.hid hr1) | (go_at_call 53; (with_reducible refine CF1.out.mono ?_); rintro e w3 ⟨rfl, hb3⟩; have HR3 := Lib.hid (HR1.out.below hb3); have d6 := HR3.out.cell 6 x.d rfl; have d8 := HR3.out.cell 8 x.f rfl) | (go_at_call 124; (with_reducible refine (told_any _ _ _).mono ?_); rintro e w9 ⟨rfl, rfl⟩) | fail)
        go_ret
        rw [HR.out, HA.out]
        exact ⟨rfl, NextR.one HR3.out (ht1.trans (turnZ [q] hb3) (by simp))⟩
    · have hsome : (dget s.begun.now name.data.toList).isSome = true := by rw [show dget s.begun.now name.data.toList = some s.now[k].2 from hg]; rfl
      have hne : name.data.toList ≠ [] := by rw [← hnm2]; exact nm_ne (hd.wf.nnms _ (List.getElem_mem hk))
      rw [show fnd s.begun.now name.data.toList = (k : Int) from hf] at CF
      have hk0 : decide ((k : Int) < 0) = false := decide_eq_false (by omega)
      have hkI : (k : Int) < (s.now.length : Int) := by omega
      cases hnm : isNm dst.data.toList with
      | false =>
        have HA := Lib.hid (show actRename name.data.toList dst.data.toList s.begun = (s.begun, 1) by unfold actRename; rw [hsome, hnm]; rfl)
        by_cases hA : dst.size < 1
        · have i1 : (dst.size : Int) < 1 := by omega
          clear h hd hnm hnl hf hg hsome hne hnm2
          obtain ⟨st, hst⟩ : ∃ st, st = s.begun.on := ⟨_, rfl⟩
          rw [← hst] at CO HR
          clear hst
          cases st
          all_goals
            go_enter Tryz.func44, Tryz.ntmps44
            go_wp2_with (first | (go_at_call 123; (with_reducible refine CO.out.mono ?_); rintro e w1 ⟨rfl, hr1, ht1, -⟩; have c6 := hr1.cell 6 x.d rfl; have CF1 := Lib.hid (CF.out _ hr1); have HR1 := Lib.hid hr1) | (go_at_call 53; (with_reducible refine CF1.out.mono ?_); rintro e w3 ⟨rfl, hb3⟩; have HR3 := Lib.hid (HR1.out.below hb3); have d6 := HR3.out.cell 6 x.d rfl; have d8 := HR3.out.cell 8 x.f rfl) | (go_at_call 124; (with_reducible refine (told_any _ _ _).mono ?_); rintro e w9 ⟨rfl, rfl⟩) | fail)
            go_ret
            rw [HR.out, HA.out]
            exact ⟨rfl, NextR.one HR3.out (ht1.trans (turnZ [q] hb3) (by simp))⟩
        · have hB : 20 < dst.size := by
            unfold isNm at hnm
            rw [hnl] at hnm
            simp at hnm
            omega
          have i1 : decide ((dst.size : Int) < 1) = false := decide_eq_false (by omega)
          have i2 : decide ((20 : Int) < (dst.size : Int)) = true := decide_eq_true (by omega)
          clear h hd hnm hnl hf hg hsome hne hnm2
          obtain ⟨st, hst⟩ : ∃ st, st = s.begun.on := ⟨_, rfl⟩
          rw [← hst] at CO HR
          clear hst
          cases st
          all_goals
            go_enter Tryz.func44, Tryz.ntmps44
            go_wp2_with (first | (go_at_call 123; (with_reducible refine CO.out.mono ?_); rintro e w1 ⟨rfl, hr1, ht1, -⟩; have c6 := hr1.cell 6 x.d rfl; have CF1 := Lib.hid (CF.out _ hr1); have HR1 := Lib.hid hr1) | (go_at_call 53; (with_reducible refine CF1.out.mono ?_); rintro e w3 ⟨rfl, hb3⟩; have HR3 := Lib.hid (HR1.out.below hb3); have d6 := HR3.out.cell 6 x.d rfl; have d8 := HR3.out.cell 8 x.f rfl) | (go_at_call 124; (with_reducible refine (told_any _ _ _).mono ?_); rintro e w9 ⟨rfl, rfl⟩) | fail)
            go_ret
            rw [HR.out, HA.out]
            exact ⟨rfl, NextR.one HR3.out (ht1.trans (turnZ [q] hb3) (by simp))⟩
      | true =>
        have hlen := nm_len hnm
        rw [hnl] at hlen
        have i1 : decide ((dst.size : Int) < 1) = false := decide_eq_false (by omega)
        have i2 : decide ((20 : Int) < (dst.size : Int)) = false := decide_eq_false (by omega)
        have hne2 := nm_ne hnm
        by_cases he : name.data.toList = dst.data.toList
        · have HA := Lib.hid (show actRename name.data.toList dst.data.toList s.begun = (s.begun, 0) by unfold actRename; rw [hsome, hnm, if_pos rfl, if_pos rfl, if_pos he])
          have hEq : (name.toList == dst.toList) = true := by rw [ByteArray.toList_eq, ByteArray.toList_eq, he]; simp
          clear h hd hnm hnl hf hg hsome hne hnm2 he hne2
          obtain ⟨st, hst⟩ : ∃ st, st = s.begun.on := ⟨_, rfl⟩
          rw [← hst] at CO HR
          clear hst
          cases st
          all_goals
            go_enter Tryz.func44, Tryz.ntmps44
            go_wp2_with (first | (go_at_call 123; (with_reducible refine CO.out.mono ?_); rintro e w1 ⟨rfl, hr1, ht1, -⟩; have c6 := hr1.cell 6 x.d rfl; have CF1 := Lib.hid (CF.out _ hr1); have HR1 := Lib.hid hr1) | (go_at_call 53; (with_reducible refine CF1.out.mono ?_); rintro e w3 ⟨rfl, hb3⟩; have HR3 := Lib.hid (HR1.out.below hb3); have d6 := HR3.out.cell 6 x.d rfl; have d8 := HR3.out.cell 8 x.f rfl) | (go_at_call 124; (with_reducible refine (told_any _ _ _).mono ?_); rintro e w9 ⟨rfl, rfl⟩) | fail)
            go_ret
            rw [HR.out, HA.out]
            exact ⟨rfl, NextR.one HR3.out (ht1.trans (turnZ [q] hb3) (by simp))⟩
        · have HA := Lib.hid (show actRename name.data.toList dst.data.toList s.begun = (s.begun.doing ⟨name.data.toList, dst.data.toList, none⟩, 0) by unfold actRename; rw [hsome, hnm, if_pos rfl, if_pos rfl, if_neg he])
          have hEq : (name.toList == dst.toList) = false := by rw [ByteArray.toList_eq, ByteArray.toList_eq]; simpa using he
          have CD := Lib.hid (fun W (hr : RefAt W q s.begun x) => rdo_any hr ⟨2, name.data.toList, dst.data.toList, s.now[k].2⟩ ⟨name.data.toList, dst.data.toList, none⟩ (by
            rw [Chg.run_put _ _ hne2 (a := s.now[k].2) (by simp [Chg.file, hne]; exact hg)]
            simp [Cz.run, Chg.less, hne]) hd.now hl (by have := hd.pendl; show s.pend.length ≤ _; omega) hn hto hd.names)
          clear h hd hnm hnl hf hg hsome hne hnm2 he hne2
          obtain ⟨st, hst⟩ : ∃ st, st = s.begun.on := ⟨_, rfl⟩
          rw [← hst] at CO HR
          clear hst
          cases st
          all_goals
            go_enter Tryz.func44, Tryz.ntmps44
            go_wp2_with (first | (go_at_call 123; (with_reducible refine CO.out.mono ?_); rintro e w1 ⟨rfl, hr1, ht1, -⟩; have c6 := hr1.cell 6 x.d rfl; have CF1 := Lib.hid (CF.out _ hr1); have HR1 := Lib.hid hr1) | (go_at_call 53; (with_reducible refine CF1.out.mono ?_); rintro e w3 ⟨rfl, hb3⟩; have HR3 := Lib.hid (HR1.out.below hb3); have d6 := HR3.out.cell 6 x.d rfl; have d8 := HR3.out.cell 8 x.f rfl); obtain ⟨g9, c9, hxd, h91, h92, hg9, -, r91⟩ := HR3.out.dirrd k hk; rw [show x.d = .slice (some ⟨g9, 0, none⟩) s.now.length c9 from hxd] at d6 | (go_at_call 125; (refine (CD.out _ HR3.out).mono ?_); rintro e w4 ⟨rfl, hn4⟩) | (go_at_call 124; (with_reducible refine (told_any _ _ _).mono ?_); rintro e w9 ⟨rfl, rfl⟩) | fail)
            go_ret
            rw [HR.out, HA.out]
            exact ⟨rfl, NextR.trans (ht1.trans (turnZ [q] hb3) (by simp)) (fun _ hk => .inl hk) hn4⟩
end
end Go.Proofs.YtfndlfnlepndmaaGreat
