/- slices.siftDownOrdered at uint64. -/
import Derived.Test.YthaalhigmihijaaP2
namespace Go.Proofs.Ythaalhigmihijaa
open Go.RowKit

/-- c is a child of x. -/
def Kid (x c : Nat) : Prop := c = 2 * x + 1 ∨ c = 2 * x + 2
/-- From lo up to hi each is at least its children. -/
def Heap (e : List Int) (f lo hi : Nat) : Prop := ∀ x c, lo ≤ x → Kid x c → c < hi → e.getD (f + c) 0 ≤ e.getD (f + x) 0
/-- .. but r, whose children are below its parent. -/
def HeapBut (e : List Int) (f lo hi r : Nat) : Prop := (∀ x c, lo ≤ x → x ≠ r → Kid x c → c < hi → e.getD (f + c) 0 ≤ e.getD (f + x) 0) ∧ ∀ x c, lo ≤ x → Kid x r → Kid r c → c < hi → e.getD (f + c) 0 ≤ e.getD (f + x) 0
theorem heap_start {e : List Int} {f lo hi : Nat} (h : Heap e f (lo + 1) hi) : HeapBut e f lo hi lo :=
  ⟨fun x c h1 h2 h3 h4 => h x c (by omega) h3 h4, fun x c h1 h2 => by unfold Kid at h2; omega⟩
theorem heap_end {e : List Int} {f lo hi r : Nat} (h : HeapBut e f lo hi r) (hr : ∀ c, Kid r c → c < hi → e.getD (f + c) 0 ≤ e.getD (f + r) 0) : Heap e f lo hi := by
  intro x c h1 h2 h3
  by_cases hx : x = r
  · subst hx; exact hr c h2 h3
  · exact h.1 x c h1 hx h2 h3
theorem heap_step {e : List Int} {f lo hi r k : Nat} (h : HeapBut e f lo hi r) (hl : f + hi ≤ e.length) (hr : lo ≤ r) (hk : Kid r k) (hkh : k < hi) (hlt : e.getD (f + r) 0 < e.getD (f + k) 0) (hmax : ∀ c, Kid r c → c < hi → e.getD (f + c) 0 ≤ e.getD (f + k) 0) : HeapBut (swp e (f + r) (f + k)) f lo hi k := by
  have hrk : r < k := by unfold Kid at hk; omega
  have g : ∀ y, y < hi → (swp e (f + r) (f + k)).getD (f + y) 0 = if y = k then e.getD (f + r) 0 else if y = r then e.getD (f + k) 0 else e.getD (f + y) 0 := by
    intro y _
    rw [swp_get _ _ _ _ (by omega) (by omega)]
    by_cases h1 : y = k
    · rw [if_pos (by omega), if_pos h1]
    · rw [if_neg (by omega), if_neg h1]
      by_cases h2 : y = r
      · rw [if_pos (by omega), if_pos h2]
      · rw [if_neg (by omega), if_neg h2]
  constructor
  · intro x c h1 h2 h3 h4
    have hxc : x < c := by unfold Kid at h3; omega
    rw [g c h4, g x (by omega), if_neg h2]
    by_cases hx : x = r
    · subst hx
      rw [if_pos rfl]
      by_cases hc : c = k
      · rw [if_pos hc]; omega
      · rw [if_neg hc, if_neg (by omega)]
        exact hmax c h3 h4
    · rw [if_neg hx]
      by_cases hc : c = k
      · exact absurd (show x = r by unfold Kid at h3 hk; omega) hx
      · rw [if_neg hc]
        by_cases hc2 : c = r
        · subst hc2
          rw [if_pos rfl]
          exact h.2 x k h1 h3 hk hkh
        · rw [if_neg hc2]
          exact h.1 x c h1 hx h3 h4
  · intro x c h1 h2 h3 h4
    have hxr : x = r := by unfold Kid at h2 hk; omega
    have hkc : k < c := by unfold Kid at h3; omega
    subst hxr
    rw [g c h4, g x (by omega), if_neg (by omega), if_neg (by omega), if_neg (by omega), if_pos rfl]
    exact h.1 k c (by omega) (by omega) h3 h4
end Go.Proofs.Ythaalhigmihijaa
