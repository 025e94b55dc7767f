/- MergeLatest, walked, over what the calls are asked to tell. -/
import Derived.Test.YtcbailiniigcnaaGreatVB14
import Derived.Laws.StructEq
import Derived.Deep.CutRange
namespace Go.Proofs.YtcbailiniigcnaaGreat
open Go.ChangeShapes Go.WideShapes Go.ChangeAt Go.Deep Go.RowKit

theorem ord_pair {l : List Ent} (h : Ord l) : l.Pairwise ltE := by
  rw [List.pairwise_iff_getElem]
  intro i j hi hj hij
  have := h i j hij hj
  have g : ∀ (k : Nat) (hk : k < l.length), l.getD k Ent.zero = l[k] := fun k hk => by simp [List.getD, hk]
  rw [g i hi, g j hj] at this
  exact this
theorem less_cbM : ∀ a b : List UInt8, Op.bytesLess a b = decide (Lib.compareBytes a b = -1)
  | [], [] => rfl
  | [], _ :: _ => rfl
  | _ :: _, [] => rfl
  | a :: l, b :: r => by
    unfold Op.bytesLess Lib.compareBytes
    by_cases h1 : a < b
    · simp [h1]
    · by_cases h2 : b < a
      · have h3 : ¬ a = b := fun e => by subst e; exact h1 h2
        simp [h1, h2, h3]
      · have h3 : a = b := UInt8.le_antisymm (UInt8.not_lt.1 h2) (UInt8.not_lt.1 h1)
        rw [less_cbM l r]
        simp [h3]
theorem leq_no {p x : ByteArray} (h : Lib.compareBytes p.data.toList x.data.toList = -1) : (Op.bytesLess x.toList p.toList || x.toList == p.toList) = false := by
  rw [ByteArray.toList_eq, ByteArray.toList_eq, less_cbM]
  have h1 := cb_swap p.data.toList x.data.toList
  rw [Bool.or_eq_false_iff]
  constructor
  · rw [decide_eq_false_iff_not]
    omega
  · rw [beq_eq_false_iff_ne]
    intro e
    rw [e, cb_refl] at h
    cases h
theorem eqQ (a b c d : ByteArray) (w : World) : (binOp .eql 58 (.agg #[.string a, .string b]) (.agg #[.string c, .string d])).run Tryz.prog w = .ok (.bool (decide ((a, b) = (c, d)))) w := by
  have hS : Tryz.prog.underlying 58 = some (.struct (Tryz.prog.fieldsOf 58)) := by kernel_rfl
  have hp : Tryz.prog.stoodInHeld 58 = false := by kernel_rfl
  rw [run_eql_struct, show (10000 : Nat) = 9999 + 1 from rfl, run_equalIn_agg w 9999 58 _ _ hS hp]
  simp only [Program.fieldsOf, Tryz.underlying58]
  go_simp
  have inj : ∀ x y : ByteArray, x.toList = y.toList ↔ x = y := fun x y => ⟨fun h => by rw [ByteArray.toList_eq, ByteArray.toList_eq] at h; exact bytes_ext h, fun h => by rw [h]⟩
  simp only [inj]
  by_cases h1 : a = c <;> by_cases h2 : b = d <;> simp [h1, h2]
end Go.Proofs.YtcbailiniigcnaaGreat
