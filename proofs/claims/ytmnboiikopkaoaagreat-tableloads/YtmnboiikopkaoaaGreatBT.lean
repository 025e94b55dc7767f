/- The document's own GetBlock: where the bytes tell no versions' bytes. -/
import Derived.Test.YtmnboiikopkaoaaGreatBC
import Derived.Test.YtmnboiikopkaoaaGreatBE
import Derived.Test.YtmnboiikopkaoaaGreatRA
namespace Go.Proofs.YtmnboiikopkaoaaGreat
open Go.RowKit

/-- What GetBlock answers. -/
def GotB (b : List UInt8) (w : World) (x : Ending) (w' : World) : Prop :=
  ∃ v, x = .returned (.tuple #[v, .int .i64 (getE b).1]) ∧ Row w' 48 4 v (getE b).2.length (cellsE (getE b).2) ∧ ((getE b).2 = [] → v = .slice none 0 0) ∧ (∀ k, ob v = some k → w.heap.size ≤ k) ∧ Below w.heap.size w w'
theorem GotB.none {b : List UInt8} {w w' : World} {e : Int} (h : getE b = (e, [])) (hb : Below w.heap.size w w') : GotB b w (.returned (.tuple #[.slice none 0 0, .int .i64 e])) w' := by
  unfold GotB
  rw [h]
  exact ⟨_, rfl, row_nil _ _ _, fun _ => rfl, fun k hk => by simp [ob] at hk, hb⟩
theorem openV_cases (b : List UInt8) : (∃ e, e ≠ 0 ∧ openV b = .tuple #[.string ⟨#[]⟩, .int .i64 e] ∧ getBody b = (e, [])) ∨ (4 ≤ b.length ∧ openV b = .tuple #[.string ⟨(b.take (b.length - 4)).toArray⟩, .int .i64 0] ∧ getBody b = (if b.length < 8 then (4, []) else if (b.length - 8) / 4 < beVal ((b.take (b.length - 4)).drop (b.length - 8)) then (4, []) else (0, b.take (b.length - 8 - 4 * beVal ((b.take (b.length - 4)).drop (b.length - 8)))))) := by
  unfold openV getBody
  by_cases h : b.length < 4
  · exact .inl ⟨5, by decide, by rw [if_pos h], by rw [if_pos h]⟩
  · rw [if_neg h, if_neg h]
    by_cases hc : crc (b.take (b.length - 4)) = beVal (b.drop (b.length - 4))
    · exact .inr ⟨by omega, by rw [if_pos hc], by rw [if_pos hc]⟩
    · exact .inl ⟨6, by decide, by rw [if_neg hc], by rw [if_neg hc]⟩
end Go.Proofs.YtmnboiikopkaoaaGreat
