/- slices.insertionSortOrdered at uint64. -/
import Derived.Test.YthaalhigmihijaaP1
namespace Go.Proofs.Ythaalhigmihijaa
open Go.RowKit

theorem quietU {P : Program} {f : FuncId} {args : Array Value} {w : World} {n : Nat} {v : Value} (h : Calls P f args (w.drewN n) fun e w' => e = .returned v ∧ w.drewN n = w') :
    Calls P f args (w.drewN n) fun e w'' => e = .returned v ∧ ∃ m, w'' = w.drewN m := h.mono fun _ _ ⟨he, hm⟩ => ⟨he, n, hm.symm⟩
theorem _root_.Go.World.grownBy.drewN1 {w w' : World} {r : Option Nat} (h : w.grownBy w' r) (n : Nat) : w.grownBy (w'.drewN n) r := ⟨h.os, h.tape, h.output, h.size, h.block⟩
theorem grown_at {w w' : World} {g i : Nat} (h : w.grownBy w' (some g)) (v : Value) : w.grownBy (w'.setCell ⟨g, i, none⟩ v) (some g) :=
  ⟨h.os, h.tape, h.output, by simpa using h.size, fun k hk hr => (Below.heap_setCell w' ⟨g, i, none⟩ v k (fun e => hr (by rw [e]))).trans (h.block k hk hr)⟩
/-- All but the number at j stand in order up to i. -/
def But (e : List Int) (a i j : Nat) : Prop := ∀ x y, a ≤ x → x < y → y ≤ i → y ≠ j → e.getD x 0 ≤ e.getD y 0
theorem but_start {e : List Int} {a i : Nat} (h : Srt e a i) : But e a i i := fun x y h1 h2 h3 h4 => h.le h1 (by omega) (by omega)
theorem but_step {e : List Int} {a i j : Nat} (h : But e a i j) (ha : a < j) (hj : j ≤ i) (hi : i < e.length) (hlt : e.getD j 0 < e.getD (j - 1) 0) : But (swp e j (j - 1)) a i (j - 1) := by
  intro x y h1 h2 h3 h4
  rw [swp_get _ _ _ _ (by omega) (by omega), swp_get _ _ _ _ (by omega) (by omega)]
  rw [if_neg (show ¬ y = j - 1 by omega)]
  by_cases hy : y = j
  · rw [if_pos hy]
    by_cases hx : x = j - 1
    · rw [if_pos hx]; omega
    · rw [if_neg hx, if_neg (by omega)]
      exact h x (j - 1) h1 (by omega) (by omega) (by omega)
  · rw [if_neg hy]
    by_cases hx : x = j - 1
    · rw [if_pos hx]
      exact h j y (by omega) (by omega) h3 hy
    · rw [if_neg hx]
      by_cases hx2 : x = j
      · rw [if_pos hx2]
        exact h (j - 1) y (by omega) (by omega) h3 hy
      · rw [if_neg hx2]
        exact h x y h1 h2 h3 hy
theorem but_end {e : List Int} {a i j : Nat} (h : But e a i j) (hle : a < j → e.getD (j - 1) 0 ≤ e.getD j 0) : Srt e a (i + 1) := by
  intro x h1 h2
  by_cases hx : x + 1 = j
  · have := hle (by omega)
    rw [← hx, Nat.add_sub_cancel] at this
    exact this
  · exact h x (x + 1) h1 (by omega) (by omega) hx
set_option maxHeartbeats 4000000 in
set_option maxRecDepth 100000 in
theorem ins_any (g n cap a b : Nat) (d : List Int) (w : World) (h : Arr w g d) (hn : d.length = n) (hab : a ≤ b) (hb : b ≤ n) (hN : n ≤ 1000) :
    Calls Try.prog 67 #[.slice (some ⟨g, 0, none⟩) n cap, .int .i64 (a : Int), .int .i64 (b : Int)] w fun e w' => e = .returned (.tuple #[]) ∧ ∃ d', Sw a b d d' ∧ Srt d' a b ∧ Arr w' g d' ∧ w.grownBy w' (some g) := by
  go_enter Try.func67, Try.ntmps67
  go_wp2
  go_loopw [6] (fun iv wr => ∃ (i : Nat) (e : List Int), iv = .int .i64 (i : Int) ∧ a + 1 ≤ i ∧ (i ≤ b ∨ i = a + 1) ∧ Sw a b d e ∧ Srt e a i ∧ Arr wr g e ∧ w.grownBy wr (some g)) (fun iv _ => b - (intOf iv).toNat)
  case atStart => exact ⟨a + 1, d, by simp, Nat.le_refl _, .inr rfl, .refl, fun i h1 h2 => by omega, h, World.grownBy.refl _ _⟩
  case round =>
    obtain ⟨i, e, rfl, hi1, hi2, hsw, hsr, har, hgr⟩ := hrel
    have hel := hsw.length
    by_cases hlt : i < b
    · have hil : (i : Int) < (b : Int) := by omega
      have HSW := Lib.hid hsw
      have HSR := Lib.hid hsr
      have HAR := Lib.hid har
      have HGR := Lib.hid hgr
      clear hsw hsr har hgr h
      go_wp2
      go_loopw [7] (fun jv wr => ∃ (j : Nat) (e : List Int), jv = .int .i64 (j : Int) ∧ a ≤ j ∧ j ≤ i ∧ Sw a b d e ∧ But e a i j ∧ Arr wr g e ∧ w.grownBy wr (some g)) (fun jv _ => (intOf jv).toNat)
      case atStart => exact ⟨i, e, rfl, by omega, Nat.le_refl _, HSW.out, but_start HSR.out, HAR.out, HGR.out⟩
      case round =>
        obtain ⟨j, e, rfl, hj1, hj2, hsw, hbu, har, hgr⟩ := hrel
        have hel := hsw.length
        by_cases hja : a < j
        · have c1 := har.cell (i := j) (by omega)
          have c2 := har.cell (i := j - 1) (by omega)
          obtain ⟨k, hk⟩ : ∃ k, k = j - 1 := ⟨_, rfl⟩
          rw [← hk] at c2
          have hjk : (j : Int) - 1 = (k : Int) := by omega
          have hgt : decide (a < j) = true := by simp; omega
          have hgt2 : decide ((a : Int) < (j : Int)) = true := by simp; omega
          have hjn : (j : Int) < (n : Int) := by omega
          have hkn : (k : Int) < (n : Int) := by omega
          have hw3 : IntKind.i64.wrap (k : Int) = (k : Int) := by rw [IntKind.wrap_i64]; omega
          have CL := Lib.hid (fun W => lessU_any (e.getD j 0) (e.getD k 0) W)
          have HAR2 := Lib.hid har
          have HGR2 := Lib.hid hgr
          have HSW2 := Lib.hid hsw
          have HBU := Lib.hid hbu
          have HK := Lib.hid hk
          have f1 := har.warm j
          have f2 := har.warm k
          clear hk har hgr hsw hbu
          cases hd : decide (e.getD j 0 < e.getD k 0) with
          | false =>
            rw [hd] at CL
            have HEND := Lib.hid (but_end HBU.out (fun _ => by have := of_decide_eq_false hd; rw [← HK.out]; omega))
            clear hd
            generalize e.getD j 0 = X at *
            generalize e.getD k 0 = Y at *
            go_wp2
            go_quiet ((go_at_call 65; exact quietU (CL.out _)))
            go_wp2
            go_roundw
            case rel => exact ⟨i + 1, e, by go_num, by omega, .inl (by omega), HSW2.out, HEND.out, HAR2.out.drewN _, HGR2.out.drewN1 _⟩
            case measure => simp [intOf]; omega
          | true =>
            rw [hd] at CL
            have hdl := of_decide_eq_true hd
            have HST := Lib.hid (show But (swp e j k) a i k from by
              rw [HK.out]
              exact but_step HBU.out hja hj2 (by omega) (by rw [← HK.out]; exact hdl))
            have HSS := Lib.hid (show Sw a b d (swp e j k) from .step HSW2.out hj1 (by omega) (by have := HK.out; omega) (by have := HK.out; omega))
            have HAA := Lib.hid (show ∀ q, Arr (((wr.drewN q).setCell ⟨g, j, none⟩ (.int .u64 (e.getD k 0))).setCell ⟨g, k, none⟩ (.int .u64 (e.getD j 0))) g (swp e j k) from fun q => (HAR2.out.drewN q).swap (by omega) (by have := HK.out; omega))
            clear hd hdl
            generalize e.getD j 0 = X at *
            generalize e.getD k 0 = Y at *
            go_wp2
            go_quiet ((go_at_call 65; exact quietU (CL.out _)))
            go_wp2
            go_region_with (fail)
            all_goals go_wp2
            all_goals go_roundw
            all_goals first
              | exact ⟨k, swp e j k, rfl, by have := HK.out; omega, by have := HK.out; omega, HSS.out, HST.out, HAA.out _, grown_at (grown_at (HGR2.out.drewN1 _) _) _⟩
              | (have := HK.out; simp [intOf]; omega)
        · have hgt : decide (a < j) = false := by simp; omega
          have hgt2 : decide ((a : Int) < (j : Int)) = false := by simp; omega
          have HEND := Lib.hid (but_end hbu (fun h => by omega))
          have HAR2 := Lib.hid har
          have HGR2 := Lib.hid hgr
          clear har hgr hbu
          go_wp2
          go_quiet (fail)
          go_wp2
          go_roundw
          case rel => exact ⟨i + 1, e, by go_num, by omega, .inl (by omega), hsw, HEND.out, HAR2.out.drewN _, HGR2.out.drewN1 _⟩
          case measure => simp [intOf]; omega
    · go_wp2
      go_end0
      refine ⟨rfl, e, hsw, ?_, har, hgr⟩
      intro x h1 h2
      exact hsr x h1 (by omega)
end Go.Proofs.Ythaalhigmihijaa
