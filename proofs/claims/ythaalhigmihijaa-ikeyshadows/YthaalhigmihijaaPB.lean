/- Plain: what slices.partitionOrdered and slices.partitionEqualOrdered keep as they go. -/
import Derived.Test.YthaalhigmihijaaP1
namespace Go.Proofs.Ythaalhigmihijaa
open Go.RowKit

/-- The pivot lies at a; what is ahead of i is lo, what is behind j is hi. -/
structure Pt (lo hi : Int → Prop) (e : List Int) (a b i j : Nat) (v : Int) : Prop where
  ai : a + 1 ≤ i
  ij : i ≤ j + 1
  jb : j < b
  bn : b ≤ e.length
  at_ : e.getD a 0 = v
  left : ∀ k, a + 1 ≤ k → k < i → lo (e.getD k 0)
  right : ∀ k, j < k → k < b → hi (e.getD k 0)
theorem Pt.start {lo hi : Int → Prop} {e : List Int} {a b j : Nat} (hab : a < b) (hb : b ≤ e.length) (hj : b = j + 1) : Pt lo hi e a b (a + 1) j (e.getD a 0) :=
  ⟨Nat.le_refl _, by omega, by omega, hb, rfl, fun k h1 h2 => by omega, fun k h1 h2 => by omega⟩
theorem Pt.up {lo hi : Int → Prop} {e : List Int} {a b i j : Nat} {v : Int} (h : Pt lo hi e a b i j v) (hij : i ≤ j) (hl : lo (e.getD i 0)) : Pt lo hi e a b (i + 1) j v :=
  ⟨by have := h.ai; omega, by omega, h.jb, h.bn, h.at_, fun k h1 h2 => by
    by_cases hk : k = i
    · rw [hk]; exact hl
    · exact h.left k h1 (by omega), h.right⟩
theorem Pt.down {lo hi : Int → Prop} {e : List Int} {a b i j k : Nat} {v : Int} (h : Pt lo hi e a b i j v) (hij : i ≤ j) (hk : j = k + 1) (hl : hi (e.getD j 0)) : Pt lo hi e a b i k v :=
  ⟨h.ai, by omega, by have := h.jb; omega, h.bn, h.at_, h.left, fun x h1 h2 => by
    by_cases hx : x = j
    · rw [hx]; exact hl
    · exact h.right x (by omega) h2⟩
theorem Pt.swap {lo hi : Int → Prop} {e : List Int} {a b i j k : Nat} {v : Int} (h : Pt lo hi e a b i j v) (hij : i < j) (hk : j = k + 1) (hi' : hi (e.getD i 0)) (hj' : lo (e.getD j 0)) : Pt lo hi (swp e i j) a b (i + 1) k v := by
  have h1 := h.ai
  have h2 := h.jb
  have h3 := h.bn
  have g := fun x => swp_get e i j x (by omega) (by omega)
  refine ⟨by omega, by omega, by omega, by rw [swp_length]; exact h.bn, ?_, ?_, ?_⟩
  · rw [g, if_neg (by omega), if_neg (by omega)]; exact h.at_
  · intro x hx1 hx2
    rw [g, if_neg (by omega)]
    by_cases hx : x = i
    · rw [if_pos hx]; exact hj'
    · rw [if_neg hx]; exact h.left x hx1 (by omega)
  · intro x hx1 hx2
    rw [g]
    by_cases hx : x = j
    · rw [if_pos hx]; exact hi'
    · rw [if_neg hx, if_neg (by omega)]; exact h.right x (by omega) hx2
/-- Behind the last exchange the pivot lies at j. -/
theorem Pt.last {lo hi : Int → Prop} {e : List Int} {a b i j : Nat} {v : Int} (h : Pt lo hi e a b i j v) (hij : j < i) :
    a ≤ j ∧ (swp e j a).getD j 0 = v ∧ (∀ k, a ≤ k → k < j → lo ((swp e j a).getD k 0)) ∧ (∀ k, j < k → k < b → hi ((swp e j a).getD k 0)) := by
  have h1 := h.ai
  have h2 := h.jb
  have h3 := h.bn
  have h4 := h.ij
  have g := fun x => swp_get e j a x (by omega) (by omega)
  refine ⟨by omega, ?_, ?_, ?_⟩
  · rw [g]
    by_cases hx : j = a
    · rw [if_pos hx, hx]; exact h.at_
    · rw [if_neg hx, if_pos rfl]; exact h.at_
  · intro x hx1 hx2
    rw [g]
    by_cases hx : x = a
    · rw [if_pos hx]; exact h.left j (by omega) (by omega)
    · rw [if_neg hx, if_neg (by omega)]; exact h.left x (by omega) (by omega)
  · intro x hx1 hx2
    rw [g, if_neg (by omega), if_neg (by omega)]; exact h.right x hx1 hx2
end Go.Proofs.Ythaalhigmihijaa
