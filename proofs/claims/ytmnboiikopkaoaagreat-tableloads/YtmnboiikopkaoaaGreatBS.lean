/- The document's own Shared and ordered. -/
import Derived.Test.YtmnboiikopkaoaaGreatBP
import Derived.BigQuiet
import Derived.Deep.QuietTactic
import Derived.Deep.RegionHeld3
import Derived.Deep.RegionWith
import Derived.Deep.DeepCutAuto
namespace Go.Proofs.YtmnboiikopkaoaaGreat
open Go.RowKit

theorem shr_drop (a b : ByteArray) (i : Nat) (ha : i < a.size) (hb : i < b.size) : shr (a.data.toList.drop i) (b.data.toList.drop i) = if a[i] = b[i] then shr (a.data.toList.drop (i + 1)) (b.data.toList.drop (i + 1)) + 1 else 0 := by
  rw [drop_cons a i ha, drop_cons b i hb]
  rfl
theorem shr_end (a b : ByteArray) (i : Nat) (h : a.size ≤ i ∨ b.size ≤ i) : shr (a.data.toList.drop i) (b.data.toList.drop i) = 0 := by
  rcases h with h | h
  · rw [List.drop_of_length_le (by rw [len_data']; exact h)]
    rfl
  · rw [List.drop_of_length_le (l := b.data.toList) (by rw [len_data']; exact h)]
    cases a.data.toList.drop i <;> rfl
theorem drewN_addB (w : World) (a b : Nat) : (w.drewN a).drewN b = w.drewN (a + b) := by
  show World.mk _ _ _ _ _ = _
  first | rfl | (simp [World.drewN, Nat.add_assoc])
end Go.Proofs.YtmnboiikopkaoaaGreat
