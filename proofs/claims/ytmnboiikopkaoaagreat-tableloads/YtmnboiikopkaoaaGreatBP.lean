/- Plain: versions as a block. -/
import Derived.Test.YtmnboiikopkaoaaGreatBR3
namespace Go.Proofs.YtmnboiikopkaoaaGreat
open Go.RowKit

/-- How many bytes two have in common at the front. -/
def shr : List UInt8 → List UInt8 → Nat
  | a :: x, b :: y => if a = b then shr x y + 1 else 0
  | [], _ => 0
  | _ :: _, [] => 0
theorem shr_le1 : ∀ x y : List UInt8, shr x y ≤ x.length
  | [], _ => by simp [shr]
  | _ :: _, [] => by simp [shr]
  | a :: x, b :: y => by
    have := shr_le1 x y
    simp only [shr, List.length_cons]
    split <;> omega
theorem shr_le2 : ∀ x y : List UInt8, shr x y ≤ y.length
  | [], _ => by simp [shr]
  | _ :: _, [] => by simp [shr]
  | a :: x, b :: y => by
    have := shr_le2 x y
    simp only [shr, List.length_cons]
    split <;> omega
theorem shr_take : ∀ x y : List UInt8, x.take (shr x y) = y.take (shr x y)
  | [], _ => by simp [shr]
  | _ :: _, [] => by simp [shr]
  | a :: x, b :: y => by
    have := shr_take x y
    simp only [shr]
    split
    · rename_i h; subst h; simp [this]
    · simp
def entAt (l : List Ent) (i : Nat) : Ent := l[i]?.getD Ent.zero
theorem entAt_get {l : List Ent} {i : Nat} (h : i < l.length) : entAt l i = l[i] := by simp [entAt, h]
def vldE (e : Ent) : Bool := validB e.k e.n e.v
def cmpN (a b : Ent) : Int := cmpE a.k a.s b.k b.s
/-- Are the first k right, and in order? -/
def ordB (l : List Ent) : Nat → Bool
  | 0 => true
  | k + 1 => ordB l k && (vldE (entAt l k) && (decide (k = 0) || decide (cmpN (entAt l (k - 1)) (entAt l k) < 0)))
theorem ordB_no {l : List Ent} {k n : Nat} (h : ordB l k = false) (hk : k ≤ n) : ordB l n = false := by
  induction n with
  | zero => obtain rfl : k = 0 := by omega
            exact h
  | succ n ih =>
    by_cases e : k = n + 1
    · rw [← e]; exact h
    · show (ordB l n && _) = false
      rw [ih (by omega)]
      rfl
theorem ordB_at {l : List Ent} {n i : Nat} (h : ordB l n = true) (hi : i < n) : vldE (entAt l i) = true ∧ (0 < i → cmpN (entAt l (i - 1)) (entAt l i) < 0) := by
  have h1 : ordB l (i + 1) = true := by
    cases e : ordB l (i + 1)
    · rw [ordB_no e hi] at h; exact h
    · rfl
  have h2 : (ordB l i && (vldE (entAt l i) && (decide (i = 0) || decide (cmpN (entAt l (i - 1)) (entAt l i) < 0)))) = true := h1
  simp only [Bool.and_eq_true, Bool.or_eq_true, decide_eq_true_eq] at h2
  exact ⟨h2.2.1, fun h0 => by rcases h2.2.2 with h | h; omega; exact h⟩
def shN (l : List Ent) (k : Nat) : Nat := if k % 4 = 0 then 0 else shr (entAt l (k - 1)).k.data.toList (entAt l k).k.data.toList
def entB (sh : Nat) (e : Ent) : List UInt8 := Lib.uvarint sh ++ (Lib.uvarint (e.k.size - sh) ++ e.k.data.toList.drop sh) ++ vars [e.s.toNat, e.n.toNat] ++ (Lib.uvarint e.v.size ++ e.v.data.toList)
def bodyB (l : List Ent) : Nat → List UInt8
  | 0 => []
  | k + 1 => bodyB l k ++ entB (shN l k) (entAt l k)
def tailB (l : List Ent) : Nat → List UInt8
  | 0 => []
  | k + 1 => if k % 4 = 0 then tailB l k ++ be (bodyB l k).length 4 else tailB l k
/-- A block's bytes. -/
def blkB (l : List Ent) : List UInt8 := sealF (bodyB l l.length ++ tailB l l.length ++ be ((l.length + 3) / 4) 4)
def sizeE (e : Ent) : Nat := e.k.size + e.v.size
def sizeEs (l : List Ent) : Nat := (l.map sizeE).sum
theorem sizeEs_take (l : List Ent) (k : Nat) (h : k < l.length) : sizeEs (l.take (k + 1)) = sizeEs (l.take k) + sizeE l[k] := by
  unfold sizeEs
  rw [List.take_succ_eq_append_getElem h, List.map_append, List.sum_append, List.map_cons, List.map_nil, List.sum_cons, List.sum_nil, Nat.add_zero]
theorem sizeEs_le (l : List Ent) (k : Nat) : sizeEs (l.take k) ≤ sizeEs l := by
  unfold sizeEs
  conv => rhs; rw [← List.take_append_drop k l]
  rw [List.map_append, List.sum_append]
  omega
theorem sizeE_le (l : List Ent) (k : Nat) (h : k < l.length) : sizeE l[k] ≤ sizeEs l := by
  have h1 := sizeEs_take l k h
  have h2 := sizeEs_le l (k + 1)
  omega
theorem uv_len (x : Nat) (h : x < 18446744073709551616) : (Lib.uvarint x).length ≤ 10 := by
  have := vars_length [x] (by simpa using h)
  simpa [vars] using this
theorem entB_len (sh : Nat) (e : Ent) (h1 : sizeE e ≤ 1000000) (h2 : sh ≤ 1000000) (h3 : e.s.toNat < 18446744073709551616) (h4 : e.n.toNat < 18446744073709551616) : (entB sh e).length ≤ 60 + sizeE e := by
  unfold sizeE at *
  have a1 := uv_len sh (by omega)
  have a2 := uv_len (e.k.size - sh) (by omega)
  have a3 := uv_len e.v.size (by omega)
  have a4 := vars_length [e.s.toNat, e.n.toNat] (by simp; omega)
  have a5 : e.k.data.toList.length = e.k.size := len_data' _
  have a6 : e.v.data.toList.length = e.v.size := len_data' _
  unfold entB
  simp only [List.length_append, List.length_drop, a5, a6] at *
  simp only [List.length_cons, List.length_nil] at a4
  omega
end Go.Proofs.YtmnboiikopkaoaaGreat
