/- Rows of a call's own that lie apart: what stays when one of them is written or grows, and when memory is made beside them. -/
import Derived.Test.YtlecffpjcjlabaaGreatRows
import Derived.Below
import Derived.Maps.AppendAt
namespace Go.Proofs.YtlecffpjcjlabaaGreat
open Go.RowKit

/-- A row: its type, the cells of an element, the slice, how many elements, the cells. -/
structure Rw where
  e : TypeId
  size : Nat
  v : Value
  n : Nat
  xs : List Value
def Rw.ok (B : Nat) (w : World) (r : Rw) : Prop := w.ownsRow B r.e r.size r.v r.n r.xs
def Rw.off (r s : Rw) : Prop := r.v.ownBlock = none ∨ r.v.ownBlock ≠ s.v.ownBlock
theorem Rw.off.symm {r s : Rw} (h : r.off s) : s.off r := by
  unfold Rw.off at *
  cases hs : s.v.ownBlock with
  | none => exact .inl rfl
  | some k =>
    rw [hs] at h
    refine .inr fun e => ?_
    rcases h with h | h
    · rw [h] at e; cases e
    · exact h e.symm
/-- Rows that a call owns, no two of which lie in one block. -/
def Own (B : Nat) (w : World) (rs : List Rw) : Prop := (∀ r ∈ rs, r.ok B w) ∧ rs.Pairwise Rw.off

theorem Rw.ok.below {B : Nat} {w w' : World} {r : Rw} (h : r.ok B w) (hb : Below w.heap.size w w') : r.ok B w' :=
  World.ownsRow.kept (row := none) h ⟨hb.os, hb.tape, hb.output, hb.size, fun k hk _ => hb.block k hk⟩ (by cases r.v.ownBlock <;> simp)
theorem Rw.ok.lt {B : Nat} {w : World} {r : Rw} (h : r.ok B w) : ∀ k, r.v.ownBlock = some k → B ≤ k ∧ k < w.heap.size := World.ownsRow.lt h
theorem Rw.ok.mono {B B' : Nat} {w : World} {r : Rw} (h : r.ok B w) (hB : B' ≤ B) : r.ok B' w := by
  refine ⟨h.1, ?_⟩
  rcases h.2 with hn | ⟨g, cap, cur, hv, hb, rest⟩
  · exact .inl hn
  · exact .inr ⟨g, cap, cur, hv, Nat.le_trans hB hb, rest⟩
theorem Own.nil (B : Nat) (w : World) : Own B w [] := ⟨by simp, List.Pairwise.nil⟩
theorem Own.perm {B : Nat} {w : World} {rs ss : List Rw} (h : Own B w rs) (hp : rs.Perm ss) : Own B w ss :=
  ⟨fun r hr => h.1 r (hp.mem_iff.2 hr), (hp.pairwise_iff (fun h => h.symm)).1 h.2⟩
theorem Own.tail {B : Nat} {w : World} {r : Rw} {rs : List Rw} (h : Own B w (r :: rs)) : Own B w rs := ⟨fun s hs => h.1 s (List.mem_cons_of_mem _ hs), (List.pairwise_cons.1 h.2).2⟩
theorem Own.head {B : Nat} {w : World} {r : Rw} {rs : List Rw} (h : Own B w (r :: rs)) : r.ok B w := h.1 r List.mem_cons_self
theorem Own.sub {B : Nat} {w : World} {rs ss : List Rw} (h : Own B w rs) (hs : ss.Sublist rs) : Own B w ss := ⟨fun r hr => h.1 r (hs.subset hr), h.2.sublist hs⟩
theorem Own.below {B : Nat} {w w' : World} {rs : List Rw} (h : Own B w rs) (hb : Below w.heap.size w w') : Own B w' rs := ⟨fun r hr => (h.1 r hr).below hb, h.2⟩
theorem Own.new {B : Nat} {w w' : World} {rs : List Rw} {r : Rw} (h : Own B w rs) (hb : Below w.heap.size w w') (hr : r.ok w.heap.size w') (hB : B ≤ w.heap.size) : Own B w' (r :: rs) := by
  refine ⟨?_, List.pairwise_cons.2 ⟨?_, h.2⟩⟩
  · intro s hs
    rcases List.mem_cons.1 hs with rfl | hs
    · exact hr.mono hB
    · exact (h.1 s hs).below hb
  · intro s hs
    unfold Rw.off
    cases hk : r.v.ownBlock with
    | none => exact .inl rfl
    | some k =>
      refine .inr fun e => ?_
      have h1 := hr.lt k hk
      have h2 := (h.1 s hs).lt k e.symm
      omega
/-- One row turns: what it is now lies in its block, or in a new one. -/
theorem Own.turn {B : Nat} {w w' : World} {rs : List Rw} {r r' : Rw} (h : Own B w (r :: rs)) (hg : w.grownBy w' r.v.ownBlock) (hr : r'.ok B w') (hat : r'.v.ownBlock = r.v.ownBlock ∨ r'.v.ownBlock = some w.heap.size ∨ r'.v.ownBlock = none) : Own B w' (r' :: rs) := by
  have hp := List.pairwise_cons.1 h.2
  refine ⟨?_, List.pairwise_cons.2 ⟨?_, hp.2⟩⟩
  · intro s hs
    rcases List.mem_cons.1 hs with rfl | hs
    · exact hr
    · exact World.ownsRow.kept (row := r.v.ownBlock) (h.1 s (List.mem_cons_of_mem _ hs)) hg (hp.1 s hs).symm
  · intro s hs
    rcases hat with hat | hat | hat
    · have := hp.1 s hs
      unfold Rw.off at *
      rw [hat]
      exact this
    · unfold Rw.off
      refine .inr fun e => ?_
      have := (h.1 s (List.mem_cons_of_mem _ hs)).lt _ (e.symm.trans hat)
      omega
    · exact .inl hat
/-- A row's cells, read. -/
theorem Rw.ok.cell {B : Nat} {w : World} {r : Rw} (h : r.ok B w) {g : Nat} (hg : r.v.ownBlock = some g) (j : Nat) (u : Value) (hj : r.xs[j]? = some u) : w.cell? ⟨g, j, none⟩ = some u := by
  have h1 := World.ownsRow.cells h hg j u hj
  have hadd : (⟨g, 0, none⟩ : Addr).add j = ⟨g, j, none⟩ := by unfold Addr.add; split <;> simp_all
  rwa [hadd] at h1
theorem Rw.ok.frozen {B : Nat} {w : World} {r : Rw} (h : r.ok B w) {g : Nat} (hg : r.v.ownBlock = some g) (j : Nat) : w.frozen? ⟨g, j, none⟩ = false := by
  rcases h.2 with ⟨hv, _⟩ | ⟨g', cap, cur, hv, _, hgg, _⟩
  · rw [hv] at hg; simp [Value.ownBlock] at hg
  · rw [hv] at hg
    simp [Value.ownBlock] at hg
    subst hg
    simp [World.frozen?, hgg]
theorem Rw.ok.slice {B : Nat} {w : World} {r : Rw} (h : r.ok B w) : (r.v = .slice none 0 0 ∧ r.n = 0 ∧ r.xs = []) ∨ ∃ g cap, r.v = .slice (some ⟨g, 0, none⟩) r.n cap ∧ r.v.ownBlock = some g ∧ B ≤ g ∧ g < w.heap.size ∧ r.n ≤ cap := by
  rcases h.2 with ⟨hv, hn⟩ | ⟨g, cap, cur, hv, hb, hgg, hc, _⟩
  · refine .inl ⟨hv, hn, ?_⟩
    have := h.1
    rw [hn] at this
    exact List.eq_nil_of_length_eq_zero (by omega)
  · exact .inr ⟨g, cap, hv, by rw [hv]; rfl, hb, (Array.getElem?_eq_some_iff.1 hgg).1, hc⟩
end Go.Proofs.YtlecffpjcjlabaaGreat
