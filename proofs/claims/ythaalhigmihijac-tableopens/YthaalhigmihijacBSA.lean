/- SameEntries alone (where the seat has no Book). -/
import Derived.Test.YthaalhigmihijacBE
import Derived.Test.YthaalhigmihijacRows
import Derived.Below
import Derived.Maps.AppendAt
import Derived.WalkKit
import Derived.OwnWalk
import Derived.WalkSpells
import Derived.WalkLawsBesides
import Derived.BigCall
import Derived.Laws.IdiomStrings
import Derived.Laws.BitsAllLaws
import Derived.Lib.Slices
import Derived.Outline
import Derived.Lib.BufferRead
import Derived.Lib.Hide
import Derived.BigQuiet
import Derived.Deep.QuietTactic
import Derived.Deep.RegionHeld3
import Derived.Laws.AppendOwnNone
namespace Go.Proofs.Ythaalhigmihijac
open Go.RowKit

/-- A row: its type, the cells of an element, the slice, how many elements, the cells. With an object: a block that is that object, and no row. -/
structure Rw where
  e : TypeId
  size : Nat
  v : Value
  n : Nat
  xs : List Value
  ob : Option Obj
def Rw.ok (B : Nat) (w : World) (r : Rw) : Prop :=
  match r.ob with
  | none => w.ownsRow B r.e r.size r.v r.n r.xs
  | some o => ∃ g, r.v = .slice (some ⟨g, 0, none⟩) 0 0 ∧ B ≤ g ∧ w.heap[g]? = some o
def Rw.off (r s : Rw) : Prop := r.v.ownBlock = none ∨ r.v.ownBlock ≠ s.v.ownBlock
theorem Rw.ok.row {B : Nat} {w : World} {r : Rw} (h : r.ok B w) (h0 : r.ob = none) : w.ownsRow B r.e r.size r.v r.n r.xs := by
  unfold Rw.ok at h
  rw [h0] at h
  exact h
/-- A row's cells, read. -/
theorem Rw.ok.cell {B : Nat} {w : World} {r : Rw} (h : r.ok B w) {g : Nat} (hg : r.v.ownBlock = some g) (j : Nat) (u : Value) (hj : r.xs[j]? = some u) (h0 : r.ob = none := by rfl) : w.cell? ⟨g, j, none⟩ = some u := by
  have h1 := World.ownsRow.cells (h.row h0) hg j u hj
  have hadd : (⟨g, 0, none⟩ : Addr).add j = ⟨g, j, none⟩ := by unfold Addr.add; split <;> simp_all
  rwa [hadd] at h1
theorem Rw.ok.slice {B : Nat} {w : World} {r : Rw} (h : r.ok B w) (h0 : r.ob = none := by rfl) : (r.v = .slice none 0 0 ∧ r.n = 0 ∧ r.xs = []) ∨ ∃ g cap, r.v = .slice (some ⟨g, 0, none⟩) r.n cap ∧ r.v.ownBlock = some g ∧ B ≤ g ∧ g < w.heap.size ∧ r.n ≤ cap := by
  have hr := h.row h0
  rcases hr.2 with ⟨hv, hn⟩ | ⟨g, cap, cur, hv, hb, hgg, hc, _⟩
  · refine .inl ⟨hv, hn, ?_⟩
    have := hr.1
    rw [hn] at this
    exact List.eq_nil_of_length_eq_zero (by omega)
  · exact .inr ⟨g, cap, hv, by rw [hv]; rfl, hb, (Array.getElem?_eq_some_iff.1 hgg).1, hc⟩
theorem drewN_add' (w : World) (a b : Nat) : (w.drewN a).drewN b = w.drewN (a + b) := by
  show World.mk _ _ _ _ _ = _
  first | rfl | (simp [World.drewN, Nat.add_assoc])
structure ElEntries where
  f0 : ByteArray
  f1 : Nat
  f2 : Int
  f3 : ByteArray
def ElEntries.cells (z : ElEntries) : List Value := [.string z.f0, .int .u64 (z.f1 : Int), .int .i64 z.f2, .string z.f3]
end Go.Proofs.Ythaalhigmihijac
