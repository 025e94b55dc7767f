/- The document's own reader: its Fail, Var, Count, bytes, Text, Bool and End, of whatever bytes. -/
import Derived.Test.YtopnbbchiglpoaaRP
namespace Go.Proofs.Ytopnbbchiglpoaa
open Go.RowKit

/-- One group more. -/
theorem grp_sum (acc k : Nat) (b : UInt8) (hk : k ≤ 9) (ha : acc < 2 ^ (7 * k)) (h9 : k = 9 → b.toNat ≤ 1) : acc + b.toNat % 128 * 2 ^ (7 * k) < 18446744073709551616 := by
  by_cases h : k = 9
  · subst h
    have := h9 rfl
    have : b.toNat % 128 * 2 ^ (7 * 9) ≤ 1 * 2 ^ 63 := Nat.mul_le_mul (by omega) (by decide)
    omega
  · have h2 : 2 ^ (7 * k) ≤ 2 ^ 56 := Nat.pow_le_pow_right (by omega) (by omega)
    have h3 : b.toNat % 128 * 2 ^ (7 * k) ≤ 127 * 2 ^ 56 := Nat.mul_le_mul (by omega) h2
    omega
theorem grp_lt (acc k : Nat) (b : UInt8) (ha : acc < 2 ^ (7 * k)) : acc + b.toNat % 128 * 2 ^ (7 * k) < 2 ^ (7 * (k + 1)) := by
  have e : 2 ^ (7 * (k + 1)) = 128 * 2 ^ (7 * k) := by rw [show 7 * (k + 1) = 7 + 7 * k by omega, Nat.pow_add]
  rw [e]
  have : b.toNat % 128 ≤ 127 := by omega
  have := Nat.mul_le_mul_right (2 ^ (7 * k)) this
  omega
end Go.Proofs.Ytopnbbchiglpoaa
