/- edit's Valid and Apply. -/
import Derived.Test.YtlecffpjcjlabaaGreatJ8
import Derived.Test.YtlecffpjcjlabaaGreatJ3
namespace Go.Proofs.YtlecffpjcjlabaaGreat
open Go.RowKit Go.Shelf

/-- A version in a box of its own. -/
def BoxV (B : Nat) (log next : Int) (seq : Nat) (v : Value) (w : World) : Prop := w.heap[B]? = some (.cells #[.int .i64 log, .int .i64 next, .int .u64 (seq : Int), v] 63)
section
variable {B : Nat} {log next : Int} {seq : Nat} {v : Value} {w w' : World}
theorem BoxV.lt (h : BoxV B log next seq v w) : B < w.heap.size := (Array.getElem?_eq_some_iff.1 h).1
theorem BoxV.c0 (h : BoxV B log next seq v w) : w.cell? ⟨B, 0, none⟩ = some (.int .i64 log) := by unfold World.cell?; rw [show w.heap[B]? = _ from h]; rfl
theorem BoxV.c1 (h : BoxV B log next seq v w) : w.cell? ⟨B, 1, none⟩ = some (.int .i64 next) := by unfold World.cell?; rw [show w.heap[B]? = _ from h]; rfl
theorem BoxV.c2 (h : BoxV B log next seq v w) : w.cell? ⟨B, 2, none⟩ = some (.int .u64 (seq : Int)) := by unfold World.cell?; rw [show w.heap[B]? = _ from h]; rfl
theorem BoxV.c3 (h : BoxV B log next seq v w) : w.cell? ⟨B, 3, none⟩ = some v := by unfold World.cell?; rw [show w.heap[B]? = _ from h]; rfl
theorem BoxV.f (h : BoxV B log next seq v w) (j : Nat) : w.frozen? ⟨B, j, none⟩ = false := by unfold World.frozen?; rw [show w.heap[B]? = _ from h]; simp
theorem BoxV.below (h : BoxV B log next seq v w) (hb : Below w.heap.size w w') : BoxV B log next seq v w' := (hb.block B h.lt).trans h
theorem BoxV.turn {F : List Nat} (h : BoxV B log next seq v w) (hb : Turn F w w') (hF : B ∉ F) : BoxV B log next seq v w' := (hb.block B h.lt hF).trans h
theorem BoxV.set3 (h : BoxV B log next seq v w) (u : Value) : BoxV B log next seq u (w.setCell ⟨B, 3, none⟩ u) := (heap_setCell_same w B 3 _ _ u h).trans rfl
end
theorem RowB.short {w : World} {v : Value} {ts : List Tb} (h : RowB w v ts) : ∃ a cap, v = .slice a ts.length cap := by
  obtain ⟨a, cap, e, -, -⟩ := Row.le h
  exact ⟨a, cap, e⟩
end Go.Proofs.YtlecffpjcjlabaaGreat
