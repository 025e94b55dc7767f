/- slices.partitionOrdered at uint64. -/
import Derived.Test.YthaalhigmihijaaP2
import Derived.Test.YthaalhigmihijaaPB
import Derived.Deep.DeepCutAuto
import Derived.Deep.CutBlock
import Derived.Deep.CutRange
namespace Go.Proofs.Ythaalhigmihijaa
open Go.RowKit

set_option maxHeartbeats 4000000 in
set_option maxRecDepth 100000 in
theorem partn_any (g n cap a b p : Nat) (d : List Int) (w : World) (h : Arr w g d) (hn : d.length = n) (hap : a ≤ p) (hpb : p < b) (hb : b ≤ n) (hN : n ≤ 1000) :
    Calls Try.prog 74 #[.slice (some ⟨g, 0, none⟩) n cap, .int .i64 (a : Int), .int .i64 (b : Int), .int .i64 (p : Int)] w fun e w' => ∃ (m : Nat) (t : Bool) (d' : List Int), e = .returned (.tuple #[.int .i64 (m : Int), .bool t]) ∧ a ≤ m ∧ m < b ∧ Sw a b d d' ∧ (∀ k, a ≤ k → k < m → d'.getD k 0 < d'.getD m 0) ∧ (∀ k, m < k → k < b → d'.getD m 0 ≤ d'.getD k 0) ∧ Arr w' g d' ∧ w.grownBy w' (some g) := by
  obtain ⟨c, hc⟩ : ∃ c, b = c + 1 := ⟨b - 1, by omega⟩
  have e1 : (b : Int) - 1 = (c : Int) := by omega
  have w1 : IntKind.i64.wrap (c : Int) = (c : Int) := by rw [IntKind.wrap_i64]; omega
  have k1 := h.cell (i := a) (by omega)
  have k2 := h.cell (i := p) (by omega)
  have f1 := h.warm a
  have f2 := h.warm p
  have u1 : (a : Int) < (n : Int) := by omega
  have u2 : (p : Int) < (n : Int) := by omega
  have HAD := Lib.hid (show Arr ((w.drew.setCell ⟨g, a, none⟩ (.int .u64 (d.getD p 0))).setCell ⟨g, p, none⟩ (.int .u64 (d.getD a 0))) g (swp d a p) from Arr.swap (w := w.drew) h (by omega) (by omega))
  have HGR := Lib.hid (show ∀ v v', w.grownBy ((w.drew.setCell ⟨g, a, none⟩ v).setCell ⟨g, p, none⟩ v') (some g) from fun v v' => grown_at (grown_at ((World.grownBy.refl w (some g)).drewN1 1) v) v')
  have hv : (swp d a p).getD a 0 = d.getD p 0 := by rw [swp_get d a p a (by omega) (by omega)]; by_cases q : a = p <;> simp [q]
  have HSW := Lib.hid (show Sw a b d (swp d a p) from .step .refl (Nat.le_refl _) (by omega) hap hpb)
  have HV := Lib.hid hv
  have HC := Lib.hid hc
  clear hv h hc
  go_enter Try.func74, Try.ntmps74
  go_upto_region 1 with fail
  go_cut [] (fun wx => Arr wx g (swp d a p) ∧ w.grownBy wx (some g))
  case first =>
    by_cases hq : a = p
    · subst hq
      generalize d.getD a 0 = X at *
      go_region_with (fail)
      all_goals (go_wp2_with fail; go_meet; exact ⟨HAD.out, HGR.out _ _⟩)
    · have hq2 : ¬ p = a := fun q => hq q.symm
      generalize d.getD a 0 = X at *
      generalize d.getD p 0 = Y at *
      go_region_with (fail)
      all_goals (go_wp2_with fail; go_meet; exact ⟨HAD.out, HGR.out _ _⟩)
  case rest =>
    obtain ⟨har, hgr⟩ := hcut
    clear k1 k2 f1 f2 HAD HGR
    go_upto_block 0 with fail
    obtain ⟨v, hv⟩ : ∃ v, v = d.getD p 0 := ⟨_, rfl⟩
    have HVV := Lib.hid hv
    clear hv
    have HPT := Lib.hid (show Pt (fun x => x < v) (fun x => v ≤ x) (swp d a p) a b (a + 1) c v by
      have := Pt.start (lo := fun x => x < v) (hi := fun x => v ≤ x) (e := swp d a p) (a := a) (b := b) (j := c) (by omega) (by rw [swp_length]; omega) HC.out
      rw [HV.out, ← HVV.out] at this
      exact this)
    have HH := Lib.hid (And.intro har hgr)
    clear har hgr HC HV
    obtain ⟨i0, hi0⟩ : ∃ i0, i0 = a + 1 := ⟨_, rfl⟩
    obtain ⟨j0, hj0⟩ : ∃ j0, j0 = c := ⟨_, rfl⟩
    obtain ⟨e, he⟩ : ∃ e, e = swp d a p := ⟨_, rfl⟩
    rw [← hi0, ← hj0, ← he] at HPT
    rw [← he] at HSW HH
    rw [← hj0] at e1 w1
    have hel : e.length = d.length := HSW.out.length
    have hi1 : (a : Int) + 1 = (i0 : Int) := by omega
    rw [hi1]
    rw [← hj0]
    have HP0 := HPT
    have HA0 := Lib.hid HH.out.1
    have HG0 := Lib.hid HH.out.2
    have HS0 := HSW
    clear HPT HH HSW hi0 hj0 he hi1
    go_cut [10] from 30 to 45 (fun iv wx => ∃ i : Nat, iv = .int .i64 (i : Int) ∧ i0 ≤ i ∧ Pt (fun x => x < v) (fun x => v ≤ x) e a b i j0 v ∧ (j0 < i ∨ v ≤ e.getD i 0) ∧ Arr wx g e ∧ w.grownBy wx (some g))
    case first =>
      go_wp2_with fail
      go_loopw [10] (fun iv wr => ∃ i : Nat, iv = .int .i64 (i : Int) ∧ i0 ≤ i ∧ Pt (fun x => x < v) (fun x => v ≤ x) e a b i j0 v ∧ Arr wr g e ∧ w.grownBy wr (some g)) (fun iv _ => j0 + 1 - (intOf iv).toNat)
      case atStart => exact ⟨i0, rfl, Nat.le_refl _, HP0.out, HA0.out, HG0.out⟩
      case round =>
        obtain ⟨i, rfl, hii, hpi, har, hgr⟩ := hrel
        have HPI := Lib.hid hpi
        have HAR := Lib.hid har
        have HGR := Lib.hid hgr
        have hjb := hpi.jb
        have hij1 := hpi.ij
        have hat := hpi.at_
        by_cases hij : i ≤ j0
        · have d1 : decide ((i : Int) ≤ (j0 : Int)) = true := by simp; omega
          have d2 : decide (i ≤ j0) = true := by simp; omega
          have q1 := har.cell (i := a) (by omega)
          have q2 := har.cell (i := i) (by omega)
          rw [hat] at q1
          have t2 : (i : Int) < (n : Int) := by omega
          have CL := Lib.hid (fun W => lessU_any (e.getD i 0) v W)
          cases hd : decide (e.getD i 0 < v) with
          | false =>
            rw [hd] at CL
            have HD := Lib.hid (Int.not_lt.mp (of_decide_eq_false hd))
            clear hd hpi har hgr hat
            generalize hX : e.getD i 0 = X at *
            have HX := Lib.hid hX
            clear hX
            go_wp2
            go_quiet ((go_at_call 65; exact quietU (CL.out _)))
            go_wp2
            go_meet
            exact ⟨i, rfl, hii, HPI.out, .inr (by rw [HX.out]; exact HD.out), HAR.out.drewN _, HGR.out.drewN1 _⟩
          | true =>
            rw [hd] at CL
            have HD := Lib.hid (hpi.up hij (of_decide_eq_true hd))
            clear hd hpi har hgr hat
            generalize e.getD i 0 = X at *
            go_wp2
            go_quiet ((go_at_call 65; exact quietU (CL.out _)))
            go_wp2
            go_roundw
            case rel => exact ⟨i + 1, by go_num, by omega, HD.out, HAR.out.drewN _, HGR.out.drewN1 _⟩
            case measure => simp [intOf]; omega
        · have d1 : decide ((i : Int) ≤ (j0 : Int)) = false := by simp; omega
          have d2 : decide (i ≤ j0) = false := by simp; omega
          clear hpi har hgr hat
          go_wp2
          go_quiet (fail)
          go_wp2
          go_meet
          exact ⟨i, rfl, hii, HPI.out, .inl (by omega), HAR.out.drewN _, HGR.out.drewN1 _⟩
    case rest =>
      obtain ⟨i, rfl, hii, hpi, hor, har, hgr⟩ := hcut
      clear HP0 HA0 HG0
      have HOR := Lib.hid hor
      have HP1 := Lib.hid hpi
      have HA1 := Lib.hid har
      have HG1 := Lib.hid hgr
      clear hor hpi har hgr
      go_upto_block 2 with fail
      go_cut [11] from 46 to 62 (fun jv wx => ∃ j : Nat, jv = .int .i64 (j : Int) ∧ j ≤ j0 ∧ Pt (fun x => x < v) (fun x => v ≤ x) e a b i j v ∧ (j < i ∨ e.getD j 0 < v) ∧ Arr wx g e ∧ w.grownBy wx (some g))
      case first =>
        go_wp2_with fail
        go_loopw [11] (fun jv wr => ∃ j : Nat, jv = .int .i64 (j : Int) ∧ j ≤ j0 ∧ Pt (fun x => x < v) (fun x => v ≤ x) e a b i j v ∧ Arr wr g e ∧ w.grownBy wr (some g)) (fun jv _ => (intOf jv).toNat)
        case atStart => exact ⟨j0, rfl, Nat.le_refl _, HP1.out, HA1.out, HG1.out⟩
        case round =>
          obtain ⟨j, rfl, hjj, hpi, har, hgr⟩ := hrel
          have HPI := Lib.hid hpi
          have HAR := Lib.hid har
          have HGR := Lib.hid hgr
          have hjb := hpi.jb
          have hai := hpi.ai
          have hat := hpi.at_
          by_cases hij : i ≤ j
          · obtain ⟨k, hk⟩ : ∃ k, j = k + 1 := ⟨j - 1, by omega⟩
            have e2 : (j : Int) - 1 = (k : Int) := by omega
            have w2 : IntKind.i64.wrap (k : Int) = (k : Int) := by rw [IntKind.wrap_i64]; omega
            have HK := Lib.hid hk
            have d1 : decide ((i : Int) ≤ (j : Int)) = true := by simp; omega
            have d2 : decide (i ≤ j) = true := by simp; omega
            have q1 := har.cell (i := a) (by omega)
            have q2 := har.cell (i := j) (by omega)
            rw [hat] at q1
            have t2 : (j : Int) < (n : Int) := by omega
            have CL := Lib.hid (fun W => lessU_any (e.getD j 0) v W)
            cases hd : decide (e.getD j 0 < v) with
            | true =>
              rw [hd] at CL
              have HD := Lib.hid (of_decide_eq_true hd)
              clear hd hpi har hgr hat hk
              generalize hX : e.getD j 0 = X at *
              have HX := Lib.hid hX
              clear hX
              go_wp2
              go_quiet ((go_at_call 65; exact quietU (CL.out _)))
              go_wp2
              go_meet
              exact ⟨j, rfl, hjj, HPI.out, .inr (by rw [HX.out]; exact HD.out), HAR.out.drewN _, HGR.out.drewN1 _⟩
            | false =>
              rw [hd] at CL
              have HD := Lib.hid (hpi.down hij hk (Int.not_lt.mp (of_decide_eq_false hd)))
              clear hd hpi har hgr hat hk
              generalize e.getD j 0 = X at *
              go_wp2
              go_quiet ((go_at_call 65; exact quietU (CL.out _)))
              go_wp2
              go_roundw
              case rel => exact ⟨k, rfl, by have := HK.out; omega, HD.out, HAR.out.drewN _, HGR.out.drewN1 _⟩
              case measure => have := HK.out; simp [intOf]; omega
          · have d1 : decide ((i : Int) ≤ (j : Int)) = false := by simp; omega
            have d2 : decide (i ≤ j) = false := by simp; omega
            clear hpi har hgr hat
            go_wp2
            go_quiet (fail)
            go_wp2
            go_meet
            exact ⟨j, rfl, hjj, HPI.out, .inl (by omega), HAR.out.drewN _, HGR.out.drewN1 _⟩
      case rest =>
        obtain ⟨j, rfl, hjj, hpi, hor, har, hgr⟩ := hcut
        have hjb := hpi.jb
        have hij1 := hpi.ij
        have hai := hpi.ai
        by_cases hij : j < i
        · have s1 : (j : Int) < (i : Int) := by omega
          have HL := Lib.hid (hpi.last hij)
          have haj : a ≤ j := (hpi.last hij).1
          have HSS := Lib.hid (show Sw a b d (swp e j a) from .step HS0.out haj hjb (Nat.le_refl _) (by omega))
          have HAD := Lib.hid (show Arr ((wc.drew.setCell ⟨g, j, none⟩ (.int .u64 (e.getD a 0))).setCell ⟨g, a, none⟩ (.int .u64 (e.getD j 0))) g (swp e j a) from Arr.swap (w := wc.drew) har (by omega) (by omega))
          have HGR := Lib.hid hgr
          have q1 := har.cell (i := a) (by omega)
          have q2 := har.cell (i := j) (by omega)
          have f1 := har.warm a
          have f2 := har.warm j
          have t1 : (a : Int) < (n : Int) := by omega
          have t2 : (j : Int) < (n : Int) := by omega
          clear hpi hor har hgr HP1 HA1 HG1 HOR
          have hm := HL.out
          have HM := Lib.hid (show (∀ k, a ≤ k → k < j → (swp e j a).getD k 0 < (swp e j a).getD j 0) ∧ (∀ k, j < k → k < b → (swp e j a).getD j 0 ≤ (swp e j a).getD k 0) by rw [hm.2.1]; exact hm.2.2)
          clear hm HL
          by_cases hq : a = j
          · subst hq
            generalize e.getD a 0 = X at *
            go_wp2
            go_region_with (fail)
            all_goals go_wp2
            all_goals refine bodyPost_ret (results_tmp2 rfl _ _ _) rfl ?_
            all_goals exact ⟨a, true, swp e a a, rfl, Nat.le_refl _, hjb, HSS.out, HM.out.1, HM.out.2, HAD.out, grown_at (grown_at (HGR.out.drewN1 1) _) _⟩
          · have n2 : ¬ j = a := fun q => hq q.symm
            generalize e.getD a 0 = X at *
            generalize e.getD j 0 = Y at *
            go_wp2
            go_region_with (fail)
            all_goals go_wp2
            all_goals refine bodyPost_ret (results_tmp2 rfl _ _ _) rfl ?_
            all_goals exact ⟨j, true, swp e j a, rfl, haj, hjb, HSS.out, HM.out.1, HM.out.2, HAD.out, grown_at (grown_at (HGR.out.drewN1 1) _) _⟩
        · have d1 : decide ((j : Int) < (i : Int)) = false := by simp; omega
          have hji : e.getD j 0 < v := by omega
          have hvi : v ≤ e.getD i 0 := by
            rcases HOR.out with q | q
            · omega
            · exact q
          have hne : i ≠ j := fun q => by rw [q] at hvi; omega
          have hlt : i < j := by omega
          obtain ⟨k, hk⟩ : ∃ k, j = k + 1 := ⟨j - 1, by omega⟩
          have e2 : (j : Int) - 1 = (k : Int) := by omega
          have w2 : IntKind.i64.wrap (k : Int) = (k : Int) := by rw [IntKind.wrap_i64]; omega
          have HPN := Lib.hid (hpi.swap hlt hk hvi hji)
          have HK := Lib.hid hk
          have t1 : (i : Int) < (n : Int) := by omega
          have t2 : (j : Int) < (n : Int) := by omega
          have q1 := har.cell (i := i) (by omega)
          have q2 := har.cell (i := j) (by omega)
          have f1 := har.warm i
          have f2 := har.warm j
          have n1 : ¬ i = j := hne
          have n2 : ¬ j = i := fun q => hne q.symm
          have HSS := Lib.hid (show Sw a b d (swp e i j) from .step HS0.out (by omega) (by omega) (by omega) hjb)
          have HAD := Lib.hid (show Arr ((wc.drew.setCell ⟨g, i, none⟩ (.int .u64 (e.getD j 0))).setCell ⟨g, j, none⟩ (.int .u64 (e.getD i 0))) g (swp e i j) from Arr.swap (w := wc.drew) har (by omega) (by omega))
          have HGR := Lib.hid hgr
          clear hpi hor har hgr HP1 HA1 HG1 hji hvi hk HOR hne
          go_upto_region 10 with fail
          go_cut [] from 66 to 94 (fun wx => Arr wx g (swp e i j) ∧ w.grownBy wx (some g))
          case first =>
            generalize e.getD i 0 = X at *
            generalize e.getD j 0 = Y at *
            go_region_with (fail)
            all_goals (go_wp2_with fail; go_meet; exact ⟨HAD.out, grown_at (grown_at (HGR.out.drewN1 1) _) _⟩)
          case rest =>
            obtain ⟨har, hgr⟩ := hcut
            have HH := Lib.hid (And.intro har hgr)
            clear har hgr q1 q2 f1 f2 HAD HGR
            go_wp2_with fail
            go_loopw [10, 11] (fun iv jv wr => ∃ (i j : Nat) (e : List Int), iv = .int .i64 (i : Int) ∧ jv = .int .i64 (j : Int) ∧ Pt (fun x => x < v) (fun x => v ≤ x) e a b i j v ∧ Sw a b d e ∧ Arr wr g e ∧ w.grownBy wr (some g)) (fun iv jv _ => (intOf jv).toNat + 1 - (intOf iv).toNat)
            case atStart => exact ⟨i + 1, k, swp e i j, by go_num, rfl, HPN.out, HSS.out, HH.out.1, HH.out.2⟩
            case round =>
              clear HPN HSS HH HS0
              obtain ⟨i0, j0, e, rfl, rfl, hpt, hsw, har, hgr⟩ := hrel
              have hel := hsw.length
              have HP0 := Lib.hid hpt
              have HA0 := Lib.hid har
              have HG0 := Lib.hid hgr
              have HS0 := Lib.hid hsw
              clear hpt hsw har hgr
              go_upto_block 6 with fail
              go_cut [10] from 99 to 114 (fun iv wx => ∃ i : Nat, iv = .int .i64 (i : Int) ∧ i0 ≤ i ∧ Pt (fun x => x < v) (fun x => v ≤ x) e a b i j0 v ∧ (j0 < i ∨ v ≤ e.getD i 0) ∧ Arr wx g e ∧ w.grownBy wx (some g))
              case first =>
                go_wp2_with fail
                go_loopw [10] (fun iv wr => ∃ i : Nat, iv = .int .i64 (i : Int) ∧ i0 ≤ i ∧ Pt (fun x => x < v) (fun x => v ≤ x) e a b i j0 v ∧ Arr wr g e ∧ w.grownBy wr (some g)) (fun iv _ => j0 + 1 - (intOf iv).toNat)
                case atStart => exact ⟨i0, rfl, Nat.le_refl _, HP0.out, HA0.out, HG0.out⟩
                case round =>
                  obtain ⟨i, rfl, hii, hpi, har, hgr⟩ := hrel
                  have HPI := Lib.hid hpi
                  have HAR := Lib.hid har
                  have HGR := Lib.hid hgr
                  have hjb := hpi.jb
                  have hij1 := hpi.ij
                  have hat := hpi.at_
                  by_cases hij : i ≤ j0
                  · have d1 : decide ((i : Int) ≤ (j0 : Int)) = true := by simp; omega
                    have d2 : decide (i ≤ j0) = true := by simp; omega
                    have q1 := har.cell (i := a) (by omega)
                    have q2 := har.cell (i := i) (by omega)
                    rw [hat] at q1
                    have t2 : (i : Int) < (n : Int) := by omega
                    have CL := Lib.hid (fun W => lessU_any (e.getD i 0) v W)
                    cases hd : decide (e.getD i 0 < v) with
                    | false =>
                      rw [hd] at CL
                      have HD := Lib.hid (Int.not_lt.mp (of_decide_eq_false hd))
                      clear hd hpi har hgr hat
                      generalize hX : e.getD i 0 = X at *
                      have HX := Lib.hid hX
                      clear hX
                      go_wp2
                      go_quiet ((go_at_call 65; exact quietU (CL.out _)))
                      go_wp2
                      go_meet
                      exact ⟨i, rfl, hii, HPI.out, .inr (by rw [HX.out]; exact HD.out), HAR.out.drewN _, HGR.out.drewN1 _⟩
                    | true =>
                      rw [hd] at CL
                      have HD := Lib.hid (hpi.up hij (of_decide_eq_true hd))
                      clear hd hpi har hgr hat
                      generalize e.getD i 0 = X at *
                      go_wp2
                      go_quiet ((go_at_call 65; exact quietU (CL.out _)))
                      go_wp2
                      go_roundw
                      case rel => exact ⟨i + 1, by go_num, by omega, HD.out, HAR.out.drewN _, HGR.out.drewN1 _⟩
                      case measure => simp [intOf]; omega
                  · have d1 : decide ((i : Int) ≤ (j0 : Int)) = false := by simp; omega
                    have d2 : decide (i ≤ j0) = false := by simp; omega
                    clear hpi har hgr hat
                    go_wp2
                    go_quiet (fail)
                    go_wp2
                    go_meet
                    exact ⟨i, rfl, hii, HPI.out, .inl (by omega), HAR.out.drewN _, HGR.out.drewN1 _⟩
              case rest =>
                obtain ⟨i, rfl, hii, hpi, hor, har, hgr⟩ := hcut
                clear HP0 HA0 HG0
                have HOR := Lib.hid hor
                have HP1 := Lib.hid hpi
                have HA1 := Lib.hid har
                have HG1 := Lib.hid hgr
                clear hor hpi har hgr
                go_upto_block 8 with fail
                go_cut [11] from 115 to 131 (fun jv wx => ∃ j : Nat, jv = .int .i64 (j : Int) ∧ j ≤ j0 ∧ Pt (fun x => x < v) (fun x => v ≤ x) e a b i j v ∧ (j < i ∨ e.getD j 0 < v) ∧ Arr wx g e ∧ w.grownBy wx (some g))
                case first =>
                  go_wp2_with fail
                  go_loopw [11] (fun jv wr => ∃ j : Nat, jv = .int .i64 (j : Int) ∧ j ≤ j0 ∧ Pt (fun x => x < v) (fun x => v ≤ x) e a b i j v ∧ Arr wr g e ∧ w.grownBy wr (some g)) (fun jv _ => (intOf jv).toNat)
                  case atStart => exact ⟨j0, rfl, Nat.le_refl _, HP1.out, HA1.out, HG1.out⟩
                  case round =>
                    obtain ⟨j, rfl, hjj, hpi, har, hgr⟩ := hrel
                    have HPI := Lib.hid hpi
                    have HAR := Lib.hid har
                    have HGR := Lib.hid hgr
                    have hjb := hpi.jb
                    have hai := hpi.ai
                    have hat := hpi.at_
                    by_cases hij : i ≤ j
                    · obtain ⟨k, hk⟩ : ∃ k, j = k + 1 := ⟨j - 1, by omega⟩
                      have e2 : (j : Int) - 1 = (k : Int) := by omega
                      have w2 : IntKind.i64.wrap (k : Int) = (k : Int) := by rw [IntKind.wrap_i64]; omega
                      have HK := Lib.hid hk
                      have d1 : decide ((i : Int) ≤ (j : Int)) = true := by simp; omega
                      have d2 : decide (i ≤ j) = true := by simp; omega
                      have q1 := har.cell (i := a) (by omega)
                      have q2 := har.cell (i := j) (by omega)
                      rw [hat] at q1
                      have t2 : (j : Int) < (n : Int) := by omega
                      have CL := Lib.hid (fun W => lessU_any (e.getD j 0) v W)
                      cases hd : decide (e.getD j 0 < v) with
                      | true =>
                        rw [hd] at CL
                        have HD := Lib.hid (of_decide_eq_true hd)
                        clear hd hpi har hgr hat hk
                        generalize hX : e.getD j 0 = X at *
                        have HX := Lib.hid hX
                        clear hX
                        go_wp2
                        go_quiet ((go_at_call 65; exact quietU (CL.out _)))
                        go_wp2
                        go_meet
                        exact ⟨j, rfl, hjj, HPI.out, .inr (by rw [HX.out]; exact HD.out), HAR.out.drewN _, HGR.out.drewN1 _⟩
                      | false =>
                        rw [hd] at CL
                        have HD := Lib.hid (hpi.down hij hk (Int.not_lt.mp (of_decide_eq_false hd)))
                        clear hd hpi har hgr hat hk
                        generalize e.getD j 0 = X at *
                        go_wp2
                        go_quiet ((go_at_call 65; exact quietU (CL.out _)))
                        go_wp2
                        go_roundw
                        case rel => exact ⟨k, rfl, by have := HK.out; omega, HD.out, HAR.out.drewN _, HGR.out.drewN1 _⟩
                        case measure => have := HK.out; simp [intOf]; omega
                    · have d1 : decide ((i : Int) ≤ (j : Int)) = false := by simp; omega
                      have d2 : decide (i ≤ j) = false := by simp; omega
                      clear hpi har hgr hat
                      go_wp2
                      go_quiet (fail)
                      go_wp2
                      go_meet
                      exact ⟨j, rfl, hjj, HPI.out, .inl (by omega), HAR.out.drewN _, HGR.out.drewN1 _⟩
                case rest =>
                  obtain ⟨j, rfl, hjj, hpi, hor, har, hgr⟩ := hcut
                  have hjb := hpi.jb
                  have hij1 := hpi.ij
                  have hai := hpi.ai
                  by_cases hij : j < i
                  · have s1 : (j : Int) < (i : Int) := by omega
                    have HL := Lib.hid (hpi.last hij)
                    have haj : a ≤ j := (hpi.last hij).1
                    have HSS := Lib.hid (show Sw a b d (swp e j a) from .step HS0.out haj hjb (Nat.le_refl _) (by omega))
                    have HAD := Lib.hid (show Arr ((wc.drew.setCell ⟨g, j, none⟩ (.int .u64 (e.getD a 0))).setCell ⟨g, a, none⟩ (.int .u64 (e.getD j 0))) g (swp e j a) from Arr.swap (w := wc.drew) har (by omega) (by omega))
                    have HGR := Lib.hid hgr
                    have q1 := har.cell (i := a) (by omega)
                    have q2 := har.cell (i := j) (by omega)
                    have f1 := har.warm a
                    have f2 := har.warm j
                    have t1 : (a : Int) < (n : Int) := by omega
                    have t2 : (j : Int) < (n : Int) := by omega
                    clear hpi hor har hgr HP1 HA1 HG1 HOR
                    have hm := HL.out
                    have HM := Lib.hid (show (∀ k, a ≤ k → k < j → (swp e j a).getD k 0 < (swp e j a).getD j 0) ∧ (∀ k, j < k → k < b → (swp e j a).getD j 0 ≤ (swp e j a).getD k 0) by rw [hm.2.1]; exact hm.2.2)
                    clear hm HL
                    by_cases hq : a = j
                    · subst hq
                      generalize e.getD a 0 = X at *
                      go_wp2
                      go_region_with (fail)
                      all_goals go_wp2
                      all_goals refine bodyPost_ret (results_tmp2 rfl _ _ _) rfl ?_
                      all_goals exact ⟨a, false, swp e a a, rfl, Nat.le_refl _, hjb, HSS.out, HM.out.1, HM.out.2, HAD.out, grown_at (grown_at (HGR.out.drewN1 1) _) _⟩
                    · have n2 : ¬ j = a := fun q => hq q.symm
                      generalize e.getD a 0 = X at *
                      generalize e.getD j 0 = Y at *
                      go_wp2
                      go_region_with (fail)
                      all_goals go_wp2
                      all_goals refine bodyPost_ret (results_tmp2 rfl _ _ _) rfl ?_
                      all_goals exact ⟨j, false, swp e j a, rfl, haj, hjb, HSS.out, HM.out.1, HM.out.2, HAD.out, grown_at (grown_at (HGR.out.drewN1 1) _) _⟩
                  · have d1 : decide ((j : Int) < (i : Int)) = false := by simp; omega
                    have hji : e.getD j 0 < v := by omega
                    have hvi : v ≤ e.getD i 0 := by
                      rcases HOR.out with q | q
                      · omega
                      · exact q
                    have hne : i ≠ j := fun q => by rw [q] at hvi; omega
                    have hlt : i < j := by omega
                    obtain ⟨k, hk⟩ : ∃ k, j = k + 1 := ⟨j - 1, by omega⟩
                    have e2 : (j : Int) - 1 = (k : Int) := by omega
                    have w2 : IntKind.i64.wrap (k : Int) = (k : Int) := by rw [IntKind.wrap_i64]; omega
                    have HPN := Lib.hid (hpi.swap hlt hk hvi hji)
                    have HK := Lib.hid hk
                    have t1 : (i : Int) < (n : Int) := by omega
                    have t2 : (j : Int) < (n : Int) := by omega
                    have q1 := har.cell (i := i) (by omega)
                    have q2 := har.cell (i := j) (by omega)
                    have f1 := har.warm i
                    have f2 := har.warm j
                    have n1 : ¬ i = j := hne
                    have n2 : ¬ j = i := fun q => hne q.symm
                    have HSS := Lib.hid (show Sw a b d (swp e i j) from .step HS0.out (by omega) (by omega) (by omega) hjb)
                    have HAD := Lib.hid (show Arr ((wc.drew.setCell ⟨g, i, none⟩ (.int .u64 (e.getD j 0))).setCell ⟨g, j, none⟩ (.int .u64 (e.getD i 0))) g (swp e i j) from Arr.swap (w := wc.drew) har (by omega) (by omega))
                    have HGR := Lib.hid hgr
                    clear hpi hor har hgr HP1 HA1 HG1 hji hvi hk HOR hne
                    generalize e.getD i 0 = X at *
                    generalize e.getD j 0 = Y at *
                    go_wp2
                    go_region_with (fail)
                    all_goals go_wp2
                    all_goals go_roundw
                    all_goals first
                      | exact ⟨i + 1, k, swp e i j, by go_num, rfl, HPN.out, HSS.out, HAD.out, grown_at (grown_at (HGR.out.drewN1 1) _) _⟩
                      | (have := HK.out; simp [intOf]; omega)

end Go.Proofs.Ythaalhigmihijaa
