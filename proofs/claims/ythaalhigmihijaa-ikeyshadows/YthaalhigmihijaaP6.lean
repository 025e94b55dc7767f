/- slices.reverseRangeOrdered at uint64. -/
import Derived.Test.YthaalhigmihijaaP5
namespace Go.Proofs.Ythaalhigmihijaa
open Go.RowKit

set_option maxHeartbeats 4000000 in
set_option maxRecDepth 100000 in
theorem rev_any (g n cap a b : Nat) (d : List Int) (w : World) (h : Arr w g d) (hn : d.length = n) (hab : a < b) (hb : b ≤ n) (hN : n ≤ 1000) :
    Calls Try.prog 71 #[.slice (some ⟨g, 0, none⟩) n cap, .int .i64 (a : Int), .int .i64 (b : Int)] w fun e w' => e = .returned (.tuple #[]) ∧ ∃ d', Sw a b d d' ∧ Arr w' g d' ∧ w.grownBy w' (some g) := by
  obtain ⟨c, hc⟩ : ∃ c, b = c + 1 := ⟨b - 1, by omega⟩
  have e1 : (b : Int) - 1 = (c : Int) := by omega
  have w1 : IntKind.i64.wrap (c : Int) = (c : Int) := by rw [IntKind.wrap_i64]; omega
  have HC := Lib.hid hc
  have HH := Lib.hid h
  clear hc h
  go_enter Try.func71, Try.ntmps71
  go_wp2
  go_loopw [6, 7] (fun iv jv wr => ∃ (i j : Nat) (e : List Int), iv = .int .i64 (i : Int) ∧ jv = .int .i64 (j : Int) ∧ a ≤ i ∧ j < b ∧ Sw a b d e ∧ Arr wr g e ∧ w.grownBy wr (some g)) (fun _ jv _ => (intOf jv).toNat)
  case atStart => exact ⟨a, c, d, rfl, rfl, Nat.le_refl _, by have := HC.out; omega, .refl, HH.out, World.grownBy.refl _ _⟩
  case round =>
    obtain ⟨i, j, e, rfl, rfl, hi, hj, hsw, har, hgr⟩ := hrel
    have hel := hsw.length
    by_cases hij : i < j
    · have s1 : (i : Int) < (j : Int) := by omega
      obtain ⟨k, hk⟩ : ∃ k, j = k + 1 := ⟨j - 1, by omega⟩
      have e2 : (j : Int) - 1 = (k : Int) := by omega
      have w2 : IntKind.i64.wrap (k : Int) = (k : Int) := by rw [IntKind.wrap_i64]; omega
      have u1 : (i : Int) < (n : Int) := by omega
      have u2 : (j : Int) < (n : Int) := by omega
      have k1 := har.cell (i := i) (by omega)
      have k2 := har.cell (i := j) (by omega)
      have f1 := har.warm i
      have f2 := har.warm j
      have n1 : ¬ i = j := by omega
      have n2 : ¬ j = i := by omega
      have HSS := Lib.hid (show Sw a b d (swp e i j) from .step hsw hi (by omega) (by omega) hj)
      have HAD := Lib.hid (show Arr ((wr.drew.setCell ⟨g, i, none⟩ (.int .u64 (e.getD j 0))).setCell ⟨g, j, none⟩ (.int .u64 (e.getD i 0))) g (swp e i j) from Arr.swap (w := wr.drew) har (by omega) (by omega))
      have HGR := Lib.hid hgr
      have HK := Lib.hid hk
      clear hsw har hgr hk
      generalize e.getD i 0 = X at *
      generalize e.getD j 0 = Y at *
      go_wp2
      go_region_with (fail)
      all_goals go_wp2
      all_goals go_roundw
      all_goals first
        | exact ⟨i + 1, k, swp e i j, by go_num, rfl, by omega, by have := HK.out; omega, HSS.out, HAD.out, grown_at (grown_at (HGR.out.drewN1 1) _) _⟩
        | (have := HK.out; simp [intOf]; omega)
    · have d1 : decide ((i : Int) < (j : Int)) = false := by simp; omega
      go_wp2
      go_end0
      exact ⟨rfl, e, hsw, har, hgr⟩
end Go.Proofs.Ythaalhigmihijaa
