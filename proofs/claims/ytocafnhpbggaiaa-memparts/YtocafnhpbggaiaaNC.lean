/- Cells of blocks new and old. -/
import Derived.Test.YtocafnhpbggaiaaFR
namespace Go.Proofs.Ytocafnhpbggaiaa
open Go.RowKit

theorem ncell {W : World} {C : Array Value} {t : TypeId} {n j : Nat} {v : Value} (hn : n = W.heap.size) (h : C[j]? = some v) : (W.alloc (.cells C t)).cell? ⟨n, j, none⟩ = some v := by
  subst hn
  have hb : (W.alloc (.cells C t)).heap[W.heap.size]? = some (.cells C t) := by simp [World.alloc, -World.alloc_eq]
  simp only [World.cell?, hb]
  exact h
theorem ocell {W : World} {o : Obj} {n j : Nat} {v : Value} (hn : n < W.heap.size) (h : W.cell? ⟨n, j, none⟩ = some v) : (W.alloc o).cell? ⟨n, j, none⟩ = some v :=
  (((Below.refl W.heap.size W).alloc (Nat.le_refl _) o).cell (p := ⟨n, j, none⟩) hn).trans h
end Go.Proofs.Ytocafnhpbggaiaa
