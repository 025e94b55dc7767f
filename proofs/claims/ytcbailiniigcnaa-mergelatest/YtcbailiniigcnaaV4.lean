/- The document's own Latest and Cut. -/
import Derived.Test.YtcbailiniigcnaaVB14
import Derived.Laws.StructEq
import Derived.Deep.CutRange
namespace Go.Proofs.Ytcbailiniigcnaa
open Go.ChangeShapes Go.WideShapes Go.ChangeAt Go.Deep Go.RowKit

theorem latS_snoc (seq : Int) (x : Ent) : ∀ (l : List Ent) (p : Option Ent), latS seq p (l ++ [x]) = latS seq p l ++ (if hideB seq ((p.toList ++ l).getLast?) x = true then [] else [(x.k, x.v)])
  | [], p => by
    rw [List.nil_append, latS_cons]
    cases p <;> simp [latS]
  | e :: r, p => by
    rw [List.cons_append, latS_cons, latS_cons, latS_snoc seq x r (some e), List.append_assoc]
    have : (p.toList ++ e :: r).getLast? = ((some e).toList ++ r).getLast? := by
      cases p <;> simp [List.getLast?_cons_cons]
    rw [this]
theorem latE_snoc (seq : Int) (l : List Ent) (x : Ent) : latE seq (l ++ [x]) = latE seq l ++ (if hideB seq l.getLast? x = true then [] else [(x.k, x.v)]) := by
  unfold latE
  rw [latS_snoc]
  rfl
def hide1 (seq : Int) (p : Option Ent) (e : Ent) : Bool := decide (seq < e.s) || (match p with | some y => decide (y.k = e.k) && decide (y.s ≤ seq) | none => false)
theorem hide1_split (seq : Int) (p : Option Ent) (e : Ent) : hideB seq p e = (hide1 seq p e || decide (e.n = 2)) := rfl
theorem hide1_none (seq : Int) (e : Ent) : hide1 seq none e = decide (seq < e.s) := by simp [hide1]
theorem hide1_some (seq : Int) (y e : Ent) : hide1 seq (some y) e = (decide (seq < e.s) || (decide (y.k = e.k) && decide (y.s ≤ seq))) := rfl
theorem beq_dec (a b : ByteArray) : (a.toList == b.toList) = decide (a = b) := by
  rw [ByteArray.toList_eq, ByteArray.toList_eq]
  by_cases h : a = b
  · subst h; simp
  · rw [decide_eq_false h, beq_eq_false_iff_ne]
    exact fun e => h (bytes_ext e)
theorem infoQ14 : (Try.prog.info? 37).map (fun i => (i.zero, i.size, i.bytes)) = some (some (.agg #[.string ⟨#[]⟩, .string ⟨#[]⟩]), 2, 32) := by kernel_rfl
theorem cellsQ_append (a b : List (ByteArray × ByteArray)) : cellsQ (a ++ b) = cellsQ a ++ cellsQ b := by simp [cellsQ]
end Go.Proofs.Ytcbailiniigcnaa
