/- wal's number: which names are segments, and which number each has. -/
import Derived.Test.YtlecffpjcjlabaaGreatWD
namespace Go.Proofs.YtlecffpjcjlabaaGreat
open Go.RowKit

def isDg (b : UInt8) : Bool := decide (48 ≤ b.toNat ∧ b.toNat ≤ 57)
def dgVal (l : List UInt8) : Nat := l.foldl (fun a b => a * 10 + (b.toNat - 48)) 0
theorem dgVal_snoc (l : List UInt8) (b : UInt8) : dgVal (l ++ [b]) = dgVal l * 10 + (b.toNat - 48) := by simp [dgVal, List.foldl_append]
theorem dgVal_from : ∀ (l : List UInt8), l.all isDg = true → ∀ a, l.foldl (fun a b => a * 10 + (b.toNat - 48)) a < (a + 1) * 10 ^ l.length
  | [], _, a => by simp
  | b :: r, h, a => by
    rw [List.all_cons, Bool.and_eq_true] at h
    have hb : b.toNat ≤ 57 := by have := h.1; simp only [isDg, decide_eq_true_eq] at this; exact this.2
    have h2 := dgVal_from r h.2 (a * 10 + (b.toNat - 48))
    simp only [List.foldl_cons, List.length_cons]
    refine Nat.lt_of_lt_of_le h2 ?_
    rw [Nat.pow_succ, Nat.mul_comm (10 ^ r.length) 10, ← Nat.mul_assoc]
    exact Nat.mul_le_mul_right _ (by omega)
theorem dgVal_lt (l : List UInt8) (h : l.all isDg = true) (n : Nat) (hn : l.length ≤ n) : dgVal l < 10 ^ n := by
  have h1 : dgVal l < 1 * 10 ^ l.length := by simpa [dgVal] using dgVal_from l h 0
  have h2 : 10 ^ l.length ≤ 10 ^ n := Nat.pow_le_pow_right (by omega) hn
  omega
/-- The number of a segment of this name. -/
def numOf (l : List UInt8) : Option Nat := if l.length = 9 ∧ l.head? = some 119 ∧ (l.drop 1).all isDg = true then some (dgVal (l.drop 1)) else none
def numV (l : List UInt8) : Value := match numOf l with
  | some v => .tuple #[.int .i64 (v : Int), .bool true]
  | none => .tuple #[.int .i64 0, .bool false]
theorem numV_no {l : List UInt8} (h : ¬ (l.length = 9 ∧ l.head? = some 119 ∧ (l.drop 1).all isDg = true)) : numV l = .tuple #[.int .i64 0, .bool false] := by
  unfold numV numOf
  rw [if_neg h]
theorem numV_yes {l : List UInt8} (h : l.length = 9 ∧ l.head? = some 119 ∧ (l.drop 1).all isDg = true) : numV l = .tuple #[.int .i64 (dgVal (l.drop 1) : Int), .bool true] := by
  unfold numV numOf
  rw [if_pos h]
theorem u8_of {n : Nat} (h : n < 256) : (UInt8.ofNat n).toNat = n := UInt8.toNat_ofNat_of_lt' (by show n < 256; exact h)
theorem numOf_name (m : Nat) (h : m < 100000000) : numOf (nameB m) = some m := by
  have e : dgVal ((nameB m).drop 1) = m := by
    simp only [nameB, dig8, List.drop_succ_cons, List.drop_zero, dgVal, List.foldl_cons, List.foldl_nil]
    rw [u8_of (by omega), u8_of (by omega), u8_of (by omega), u8_of (by omega), u8_of (by omega), u8_of (by omega), u8_of (by omega), u8_of (by omega)]
    omega
  unfold numOf
  rw [if_pos, e]
  refine ⟨rfl, rfl, ?_⟩
  simp only [nameB, dig8, List.drop_succ_cons, List.drop_zero, List.all_cons, List.all_nil, Bool.and_true, Bool.and_eq_true, isDg, decide_eq_true_eq]
  rw [u8_of (by omega), u8_of (by omega), u8_of (by omega), u8_of (by omega), u8_of (by omega), u8_of (by omega), u8_of (by omega), u8_of (by omega)]
  omega
theorem lenN (s : ByteArray) : s.data.toList.length = s.size := by rw [Array.length_toList]; rfl
theorem take_snocN (s : ByteArray) (k : Nat) (h : k < s.size) (h1 : 1 ≤ k) : (s.data.toList.take (k + 1)).drop 1 = (s.data.toList.take k).drop 1 ++ [s[k]] := by
  have h2 : k < s.data.toList.length := by rw [lenN]; exact h
  rw [List.take_succ_eq_append_getElem h2, List.drop_append_of_le_length (by rw [List.length_take]; omega)]
  rfl
theorem memN (s : ByteArray) (k : Nat) (h : k < s.size) (h1 : 1 ≤ k) : s[k] ∈ s.data.toList.drop 1 := by
  have h2 : k - 1 < (s.data.toList.drop 1).length := by rw [List.length_drop, lenN]; omega
  have : (s.data.toList.drop 1)[k - 1] ∈ s.data.toList.drop 1 := List.getElem_mem h2
  rw [List.getElem_drop] at this
  have e : s.data.toList[1 + (k - 1)]'(by rw [lenN]; omega) = s[k] := by
    show s.data.toList[1 + (k - 1)]'_ = s.data.toList[k]'(by rw [lenN]; exact h)
    congr 1
    omega
  rw [e] at this
  exact this
theorem not_all {l : List UInt8} {b : UInt8} (h : b ∈ l) (hb : isDg b = false) : ¬ l.all isDg = true := by
  intro h1
  have := List.all_eq_true.1 h1 b h
  rw [hb] at this
  exact Bool.noConfusion this
theorem headN (s : ByteArray) (h : 0 < s.size) : s.data.toList.head? = some s[0] := by
  have h2 : 0 < s.data.toList.length := by rw [lenN]; exact h
  rw [List.head?_eq_getElem?, List.getElem?_eq_getElem h2]
  rfl
end Go.Proofs.YtlecffpjcjlabaaGreat
