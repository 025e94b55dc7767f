/- Plain facts of check sums: what one byte does, what many do, and that a byte that is changed changes the sum. -/
import Derived.Test.YtlecffpjcjlabaaGreatRows
namespace Go.Proofs.YtlecffpjcjlabaaGreat

/-- One shift of a sum. -/
def stir1 (x : Nat) : Nat := (x / 2) ^^^ (if x % 2 = 1 then 2197175160 else 0)
def stirN : Nat → Nat → Nat
  | 0, x => x
  | n + 1, x => stir1 (stirN n x)
/-- One byte more. -/
def crcB (x : Nat) (b : UInt8) : Nat := stirN 8 (x ^^^ b.toNat)
def crcX (x : Nat) (l : List UInt8) : Nat := l.foldl crcB x
/-- The sum of bytes. -/
def crc (l : List UInt8) : Nat := crcX 4294967295 l ^^^ 4294967295

theorem xor_lt32 {a b : Nat} (ha : a < 4294967296) (hb : b < 4294967296) : a ^^^ b < 4294967296 := Nat.xor_lt_two_pow (n := 32) ha hb
theorem stir1_lt {x : Nat} (h : x < 4294967296) : stir1 x < 4294967296 := by
  unfold stir1
  refine xor_lt32 (by omega) ?_
  split <;> omega
theorem stirN_lt : ∀ (n : Nat) {x : Nat}, x < 4294967296 → stirN n x < 4294967296
  | 0, _, h => h
  | n + 1, _, h => stir1_lt (stirN_lt n h)
theorem crcB_lt {x : Nat} (h : x < 4294967296) (b : UInt8) : crcB x b < 4294967296 := stirN_lt 8 (xor_lt32 h (by have := b.toNat_lt; omega))
theorem crcX_lt : ∀ (l : List UInt8) {x : Nat}, x < 4294967296 → crcX x l < 4294967296
  | [], _, h => h
  | b :: l, _, h => crcX_lt l (crcB_lt h b)
theorem crc_lt (l : List UInt8) : crc l < 4294967296 := xor_lt32 (crcX_lt l (by omega)) (by omega)
theorem crcX_append (x : Nat) (a b : List UInt8) : crcX x (a ++ b) = crcX (crcX x a) b := by simp [crcX]
theorem crcX_snoc (x : Nat) (a : List UInt8) (b : UInt8) : crcX x (a ++ [b]) = crcB (crcX x a) b := by simp [crcX]

theorem top_lt {x : Nat} (h : x < 4294967296) : (x / 2).testBit 31 = false := Nat.testBit_lt_two_pow (by omega)
theorem stir1_top {x : Nat} (h : x < 4294967296) : (stir1 x).testBit 31 = decide (x % 2 = 1) := by
  unfold stir1
  rw [Nat.testBit_xor, top_lt h]
  by_cases hx : x % 2 = 1
  · rw [if_pos hx, show Nat.testBit 2197175160 31 = true by decide]; simp [hx]
  · rw [if_neg hx]; simp [hx]
theorem xor_cancel {a b c : Nat} (h : a ^^^ c = b ^^^ c) : a = b := by
  have := congrArg (· ^^^ c) h
  simpa [Nat.xor_assoc] using this
theorem stir1_inj {x y : Nat} (hx : x < 4294967296) (hy : y < 4294967296) (h : stir1 x = stir1 y) : x = y := by
  have ht := stir1_top hx
  rw [h, stir1_top hy] at ht
  have hp : x % 2 = y % 2 := by
    have : (y % 2 = 1) ↔ (x % 2 = 1) := by simpa using ht
    omega
  unfold stir1 at h
  rw [hp] at h
  have := xor_cancel h
  omega
theorem stirN_inj : ∀ (n : Nat) {x y : Nat}, x < 4294967296 → y < 4294967296 → stirN n x = stirN n y → x = y
  | 0, _, _, _, _, h => h
  | n + 1, _, _, hx, hy, h => stirN_inj n hx hy (stir1_inj (stirN_lt n hx) (stirN_lt n hy) h)
theorem crcX_inj : ∀ (l : List UInt8) {x y : Nat}, x < 4294967296 → y < 4294967296 → crcX x l = crcX y l → x = y
  | [], _, _, _, _, h => h
  | b :: l, x, y, hx, hy, h => by
    have hb := b.toNat_lt
    have h1 := crcX_inj l (crcB_lt hx b) (crcB_lt hy b) h
    exact xor_cancel (stirN_inj 8 (xor_lt32 hx (by omega)) (xor_lt32 hy (by omega)) h1)
theorem crc_change (a b : List UInt8) (c d : UInt8) (h : c ≠ d) : crc (a ++ c :: b) ≠ crc (a ++ d :: b) := by
  intro e
  have e1 := xor_cancel e
  rw [crcX_append, crcX_append] at e1
  have hx := crcX_lt a (x := 4294967295) (by omega)
  have hc := c.toNat_lt
  have hd := d.toNat_lt
  have e2 := crcX_inj b (crcB_lt hx c) (crcB_lt hx d) e1
  have e3 := stirN_inj 8 (xor_lt32 hx (by omega)) (xor_lt32 hx (by omega)) e2
  rw [Nat.xor_comm, Nat.xor_comm _ d.toNat] at e3
  exact h (UInt8.toNat_inj.1 (xor_cancel e3))
end Go.Proofs.YtlecffpjcjlabaaGreat
