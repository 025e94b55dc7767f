/- skip's Path. -/
import Derived.Test.YthaalhigmihijabGreatY8
namespace Go.Proofs.YthaalhigmihijabGreat
open Go.RowKit

/-- How many of D reach above level i. -/
def pcnt (i : Nat) (D : List Nd) : Nat := (D.filter fun n => decide (i < n.l)).length
theorem pcnt_append (i : Nat) (A B : List Nd) : pcnt i (A ++ B) = pcnt i A + pcnt i B := by simp [pcnt]
theorem pcnt_none {i : Nat} {D : List Nd} (h : ∀ x ∈ D, x.l ≤ i) : pcnt i D = 0 := by
  unfold pcnt
  rw [List.length_eq_zero_iff, List.filter_eq_nil_iff]
  intro x hx
  have := h x hx
  simp
  omega
theorem pcnt_le (i : Nat) (D : List Nd) : pcnt i D ≤ D.length := List.length_filter_le _ _
theorem pcnt_one {i : Nat} {x : Nd} (h : i < x.l) : pcnt i [x] = 1 := by simp [pcnt, h]
/-- What Path tells of those ahead of a key, of k levels, from the highest on. -/
def pathL (P : List Nd) (h k : Nat) : List Value := ((List.range k).map fun j => Value.int .i64 ((pcnt (h - 1 - j) P : Nat) : Int))
theorem pathL_succ (P : List Nd) (h k : Nat) : pathL P h (k + 1) = pathL P h k ++ [.int .i64 ((pcnt (h - 1 - k) P : Nat) : Int)] := by
  unfold pathL
  rw [List.range_succ, List.map_append]
  rfl
theorem pathL_length (P : List Nd) (h k : Nat) : (pathL P h k).length = k := by simp [pathL]
theorem left_next {p : Nat} {ns pre r : List Nd} {x : Nd} {i : Nat} (hall : hd p :: ns = pre ++ x :: r) (hn : (foot p ns).Nodup) : leftOf (foot p ns) (fol i r) < leftOf (foot p ns) (.pointer (some ⟨x.a, 0, none⟩)) := by
  have e1 : (foot p ns).idxOf x.a = pre.length := idx_at hall hn
  have hln : (foot p ns).length = pre.length + (r.length + 1) := by
    show ((hd p :: ns).map Nd.a).length = _
    rw [hall]
    simp
  have hR : leftOf (foot p ns) (.pointer (some ⟨x.a, 0, none⟩)) = (foot p ns).length - (foot p ns).idxOf x.a := rfl
  rw [hR, e1]
  rcases fol_split i r with hno | ⟨m1, y, m2, rfl, hm1, hy⟩
  · have : fol i r = .pointer none := by
      have := fol_skip (r := []) hno
      rw [List.append_nil] at this
      exact this
    rw [this]
    show 0 < _
    omega
  · rw [fol_hit hm1 hy]
    have e2 : (foot p ns).idxOf y.a = (pre ++ x :: m1).length := idx_at (show hd p :: ns = (pre ++ x :: m1) ++ y :: m2 by rw [hall]; simp) hn
    show (foot p ns).length - (foot p ns).idxOf y.a < _
    rw [e2, List.length_append, List.length_cons]
    omega
theorem less_cb : ∀ a b : List UInt8, Op.bytesLess a b = decide (Lib.compareBytes a b = -1)
  | [], [] => rfl
  | [], _ :: _ => rfl
  | _ :: _, [] => rfl
  | a :: l, b :: r => by
    unfold Op.bytesLess Lib.compareBytes
    by_cases h1 : a < b
    · simp [h1]
    · by_cases h2 : b < a
      · have h3 : ¬ a = b := fun e => by subst e; exact h1 h2
        simp [h1, h2, h3]
      · have h3 : a = b := UInt8.le_antisymm (UInt8.not_lt.1 h2) (UInt8.not_lt.1 h1)
        rw [less_cb l r]
        simp [h3]
theorem key_less (a k : ByteArray) (s : Int) (hs : s ≤ 18446744073709551615) : Op.bytesLess a.toList k.toList = decide (cmpE a s k 18446744073709551615 = -1) := by
  rw [ByteArray.toList_eq, ByteArray.toList_eq, less_cb]
  unfold cmpE
  by_cases h : Lib.compareBytes a.data.toList k.data.toList = 0
  · rw [if_pos h, h]
    have : cmpU 18446744073709551615 s ≠ -1 := by
      unfold cmpU
      split
      · omega
      · split <;> omega
    simp [this]
  · rw [if_neg h]
end Go.Proofs.YthaalhigmihijabGreat
