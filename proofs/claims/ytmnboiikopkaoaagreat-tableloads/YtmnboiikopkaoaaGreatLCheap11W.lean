/- TableCheap's walk, over what is asked of the program's table; alive is a premise. -/
import Derived.Test.YtmnboiikopkaoaaGreatTL
import Derived.Test.YtmnboiikopkaoaaGreatBZ
import Derived.BigQuiet
namespace Go.Proofs.YtmnboiikopkaoaaGreat
open Go.RowKit

theorem less_cbT : ∀ a b : List UInt8, Op.bytesLess a b = decide (Lib.compareBytes a b = -1)
  | [], [] => rfl
  | [], _ :: _ => rfl
  | _ :: _, [] => rfl
  | a :: l, b :: r => by
    unfold Op.bytesLess Lib.compareBytes
    by_cases h1 : a < b
    · simp [h1]
    · by_cases h2 : b < a
      · have h3 : ¬ a = b := fun e => by subst e; exact h1 h2
        simp [h1, h2, h3]
      · have h3 : a = b := UInt8.le_antisymm (UInt8.not_lt.1 h2) (UInt8.not_lt.1 h1)
        rw [less_cbT l r]
        simp [h3]
theorem less_T (a b : ByteArray) : Op.bytesLess a.toList b.toList = lessB a b := by
  rw [ByteArray.toList_eq, ByteArray.toList_eq]
  exact less_cbT _ _
theorem toList_injT {a b : ByteArray} (h : a.toList = b.toList) : a = b := by
  rw [ByteArray.toList_eq, ByteArray.toList_eq] at h
  cases a; cases b
  simp_all
theorem out_none {es : List Ent} {key : ByteArray} (ho : ordB es es.length = true) (h : outT es key = true) (seq : Nat) : findT es key seq = none := by
  refine findT_no (fun i hi hh => ?_)
  obtain ⟨h1, -⟩ := hh
  unfold outT at h
  rw [Bool.or_eq_true] at h
  rcases h with h | h
  · have := later_no (key := keyT es 0) ho (i := 0) (lessB_self _) i (Nat.zero_le _) hi
    rw [h1, h] at this
    cases this
  · have := later_no (key := key) ho (i := i) (by rw [h1]; exact lessB_self _) (es.length - 1) (by omega) (by omega)
    unfold keyT at h
    rw [this] at h
    cases h
theorem foundV_form (o : Option Ent) : ∃ (x : Ent) (t : Bool), foundV o = .tuple #[.agg #[.string x.k, .int .u64 x.s, .int .i64 x.n, .string x.v], .bool t, .int .i64 0] ∧ (o = none → t = false) := by
  cases o with
  | none => exact ⟨⟨⟨#[]⟩, 0, 0, ⟨#[]⟩⟩, false, rfl, fun _ => rfl⟩
  | some x => exact ⟨x, true, rfl, fun h => by cases h⟩
theorem less_threeT (a b : ByteArray) : (Op.bytesLess a.toList b.toList = true ∧ lessB b a = false) ∨ (a = b ∧ lessB b a = false) ∨ (Op.bytesLess a.toList b.toList = false ∧ (a.toList == b.toList) = false ∧ lessB b a = true) := by
  rw [less_T]
  unfold lessB
  rcases cb_vals a.data.toList b.data.toList with h | h | h
  · refine .inl ⟨by rw [h]; rfl, ?_⟩
    rw [cb_swap, h]
    rfl
  · have e : a = b := by
      have := cb_eq _ _ h
      cases a; cases b
      simp_all
    subst e
    exact .inr (.inl ⟨rfl, by rw [cb_refl]; rfl⟩)
  · refine .inr (.inr ⟨by rw [h]; rfl, ?_, by rw [cb_swap, h]; rfl⟩)
    rw [beq_eq_false_iff_ne]
    intro e
    have := toList_injT e
    subst this
    rw [cb_refl] at h
    cases h
theorem tabV_yes {es : List Ent} (h : FineT es) : ∃ Z : ByteArray, tabV es = .tuple #[.string Z, .int .i64 0] ∧ Z.data.toList = tabB es := by
  refine ⟨⟨(tabB es).toArray⟩, ?_, rfl⟩
  unfold tabV
  rw [if_pos ⟨h.some', h.ord⟩]
theorem tabV_no {es : List Ent} (h : ¬ (es ≠ [] ∧ ordB es es.length = true)) : tabV es = .tuple #[.string ⟨#[]⟩, .int .i64 1] := by
  unfold tabV
  rw [if_neg h]
end Go.Proofs.YtmnboiikopkaoaaGreat
