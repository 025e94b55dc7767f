/- Rows of a call's own that lie apart (also rows that have no room, wherever they point to), and blocks that are only to stay as they are: what stays when one row is written or grows, and when memory is made beside them. -/
import Derived.Test.YtfndlfnlepndmaaGreatRows
import Derived.Below
import Derived.Maps.AppendAt
import Derived.Test.YtfndlfnlepndmaaGreatFR
namespace Go.Proofs.YtfndlfnlepndmaaGreat
open Go.RowKit

/-- The block that a slice may write. -/
abbrev vob (v : Value) : Option Nat := ob v
/-- A row: its type, the cells of an element, the slice, how many elements, the cells. With an object: a block that is that object, and no row. -/
structure Rw where
  e : TypeId
  size : Nat
  v : Value
  n : Nat
  xs : List Value
  ob : Option Obj
def Rw.ok (B : Nat) (w : World) (r : Rw) : Prop :=
  match r.ob with
  | none => Row w r.e r.size r.v r.n r.xs ∧ ∀ k, vob r.v = some k → B ≤ k
  | some o => ∃ g, r.v = .slice (some ⟨g, 0, none⟩) 0 1 ∧ B ≤ g ∧ w.heap[g]? = some o
/-- A block that stays. -/
def opq (g : Nat) (o : Obj) : Rw := ⟨0, 0, .slice (some ⟨g, 0, none⟩) 0 1, 0, [], some o⟩
def Rw.off (r s : Rw) : Prop := vob r.v = none ∨ vob r.v ≠ vob s.v
theorem Rw.off.symm {r s : Rw} (h : r.off s) : s.off r := by
  unfold Rw.off at *
  cases hs : vob s.v with
  | none => exact .inl rfl
  | some k =>
    rw [hs] at h
    refine .inr fun e => ?_
    rcases h with h | h
    · rw [h] at e; cases e
    · exact h e.symm
/-- Rows that a call owns, no two of which lie in one block. -/
def Own (B : Nat) (w : World) (rs : List Rw) : Prop := (∀ r ∈ rs, r.ok B w) ∧ rs.Pairwise Rw.off

theorem ok_owns {B : Nat} {w : World} {e : TypeId} {size n : Nat} {v : Value} {xs : List Value} (h : w.ownsRow B e size v n xs) : Rw.ok B w ⟨e, size, v, n, xs, none⟩ := by
  refine ⟨⟨h.1, ?_⟩, fun k hk => ?_⟩
  · rcases h.2 with ⟨hv, hn⟩ | ⟨g, cap, cur, hv, hb, hg, h1, h2, h3, h4⟩
    · exact .inl ⟨hn, .inl hv⟩
    · cases cap with
      | zero =>
        obtain rfl : n = 0 := by omega
        exact .inl ⟨rfl, .inr ⟨g, 0, hv⟩⟩
      | succ c => exact .inr ⟨g, c, cur, hv, hg, h1, h2, h3, h4⟩
  · rcases h.2 with ⟨hv, hn⟩ | ⟨g, cap, cur, hv, hb, hg, h1, h2, h3, h4⟩
    · rw [show v = _ from hv] at hk
      cases hk
    · rw [show v = _ from hv] at hk
      cases cap with
      | zero => cases hk
      | succ c => cases hk; exact hb
theorem ok_row {B : Nat} {w : World} {e : TypeId} {size n : Nat} {v : Value} {xs : List Value} (h : Row w e size v n xs) (hb : ∀ k, vob v = some k → B ≤ k) : Rw.ok B w ⟨e, size, v, n, xs, none⟩ := ⟨h, hb⟩
theorem ok_nil (w : World) (B : Nat) (e : TypeId) (size : Nat) : Rw.ok B w ⟨e, size, .slice none 0 0, 0, [], none⟩ := ⟨row_nil _ _ _, fun k hk => by cases hk⟩
theorem Rw.ok.row {B : Nat} {w : World} {r : Rw} (h : r.ok B w) (h0 : r.ob = none) : Row w r.e r.size r.v r.n r.xs := by
  unfold Rw.ok at h
  rw [h0] at h
  exact h.1
theorem Rw.ok.lt {B : Nat} {w : World} {r : Rw} (h : r.ok B w) : ∀ k, vob r.v = some k → B ≤ k ∧ k < w.heap.size := by
  obtain ⟨e, size, v, n, xs, ob⟩ := r
  cases ob with
  | none => exact fun k hk => ⟨h.2 k hk, h.1.lt k hk⟩
  | some o =>
    obtain ⟨g, hv, hb, hg⟩ := h
    intro k hk
    rw [show v = _ from hv] at hk
    cases hk
    exact ⟨hb, (Array.getElem?_eq_some_iff.1 hg).1⟩
theorem Rw.ok.keep {B : Nat} {w w' : World} {r : Rw} (h : r.ok B w) (hk : ∀ k, vob r.v = some k → w'.heap[k]? = w.heap[k]?) : r.ok B w' := by
  obtain ⟨e, size, v, n, xs, ob⟩ := r
  cases ob with
  | none => exact ⟨h.1.kept hk, h.2⟩
  | some o =>
    obtain ⟨g, hv, hb, hg⟩ := h
    refine ⟨g, hv, hb, (hk g ?_).trans hg⟩
    rw [show v = _ from hv]
    rfl
theorem Rw.ok.below {B : Nat} {w w' : World} {r : Rw} (h : r.ok B w) (hb : Below w.heap.size w w') : r.ok B w' := h.keep fun k hk => hb.block k (h.lt k hk).2
theorem Rw.ok.grown {B : Nat} {w w' : World} {r : Rw} {row : Option Nat} (h : r.ok B w) (hg : w.grownBy w' row) (ho : vob r.v = none ∨ vob r.v ≠ row) : r.ok B w' :=
  h.keep fun k hk => hg.block k (h.lt k hk).2 (fun e => by
    rcases ho with ho | ho
    · rw [ho] at hk; cases hk
    · exact ho (by rw [hk]; exact e))
theorem Rw.ok.mono {B B' : Nat} {w : World} {r : Rw} (h : r.ok B w) (hB : B' ≤ B) : r.ok B' w := by
  obtain ⟨e, size, v, n, xs, ob⟩ := r
  cases ob with
  | none => exact ⟨h.1, fun k hk => Nat.le_trans hB (h.2 k hk)⟩
  | some o =>
    obtain ⟨g, hv, hb, hg⟩ := h
    exact ⟨g, hv, Nat.le_trans hB hb, hg⟩
theorem Own.nil (B : Nat) (w : World) : Own B w [] := ⟨by simp, List.Pairwise.nil⟩
theorem Own.perm {B : Nat} {w : World} {rs ss : List Rw} (h : Own B w rs) (hp : rs.Perm ss) : Own B w ss :=
  ⟨fun r hr => h.1 r (hp.mem_iff.2 hr), (hp.pairwise_iff (fun h => h.symm)).1 h.2⟩
theorem Own.tail {B : Nat} {w : World} {r : Rw} {rs : List Rw} (h : Own B w (r :: rs)) : Own B w rs := ⟨fun s hs => h.1 s (List.mem_cons_of_mem _ hs), (List.pairwise_cons.1 h.2).2⟩
theorem Own.head {B : Nat} {w : World} {r : Rw} {rs : List Rw} (h : Own B w (r :: rs)) : r.ok B w := h.1 r List.mem_cons_self
theorem Own.sub {B : Nat} {w : World} {rs ss : List Rw} (h : Own B w rs) (hs : ss.Sublist rs) : Own B w ss := ⟨fun r hr => h.1 r (hs.subset hr), h.2.sublist hs⟩
theorem Own.below {B : Nat} {w w' : World} {rs : List Rw} (h : Own B w rs) (hb : Below w.heap.size w w') : Own B w' rs := ⟨fun r hr => (h.1 r hr).below hb, h.2⟩
theorem Own.new {B : Nat} {w w' : World} {rs : List Rw} {r : Rw} (h : Own B w rs) (hb : Below w.heap.size w w') (hr : r.ok w.heap.size w') (hB : B ≤ w.heap.size) : Own B w' (r :: rs) := by
  refine ⟨?_, List.pairwise_cons.2 ⟨?_, h.2⟩⟩
  · intro s hs
    rcases List.mem_cons.1 hs with rfl | hs
    · exact hr.mono hB
    · exact (h.1 s hs).below hb
  · intro s hs
    unfold Rw.off
    cases hk : vob r.v with
    | none => exact .inl rfl
    | some k =>
      refine .inr fun e => ?_
      have h1 := hr.lt k hk
      have h2 := (h.1 s hs).lt k e.symm
      omega
/-- One more row that lies apart from all others. -/
theorem Own.more {B : Nat} {w : World} {rs : List Rw} {r : Rw} (h : Own B w rs) (hr : r.ok B w) (ho : ∀ s ∈ rs, r.off s) : Own B w (r :: rs) :=
  ⟨fun s hs => by
    rcases List.mem_cons.1 hs with rfl | hs
    · exact hr
    · exact h.1 s hs, List.pairwise_cons.2 ⟨ho, h.2⟩⟩
/-- One row turns: what it is now lies in its block, or in a new one. -/
theorem Own.turn {B : Nat} {w w' : World} {rs : List Rw} {r r' : Rw} (h : Own B w (r :: rs)) (hg : w.grownBy w' (vob r.v)) (hr : r'.ok B w') (hat : vob r'.v = vob r.v ∨ vob r'.v = some w.heap.size ∨ vob r'.v = none) : Own B w' (r' :: rs) := by
  have hp := List.pairwise_cons.1 h.2
  refine ⟨?_, List.pairwise_cons.2 ⟨?_, hp.2⟩⟩
  · intro s hs
    rcases List.mem_cons.1 hs with rfl | hs
    · exact hr
    · exact (h.1 s (List.mem_cons_of_mem _ hs)).grown hg (hp.1 s hs).symm
  · intro s hs
    rcases hat with hat | hat | hat
    · have := hp.1 s hs
      unfold Rw.off at *
      rw [hat]
      exact this
    · unfold Rw.off
      refine .inr fun e => ?_
      have := (h.1 s (List.mem_cons_of_mem _ hs)).lt _ (e.symm.trans hat)
      omega
    · exact .inl hat
/-- A row's cells, read. -/
theorem Rw.ok.cell {B : Nat} {w : World} {r : Rw} (h : r.ok B w) {g : Nat} (hg : r.v.ownBlock = some g) (j : Nat) (u : Value) (hj : r.xs[j]? = some u) (h0 : r.ob = none := by rfl) : w.cell? ⟨g, j, none⟩ = some u := by
  have hr := h.row h0
  rcases hr.2 with ⟨hn, hv⟩ | ⟨g', cap, cur, hv, hgg, -⟩
  · have := hr.1
    rw [hn, Nat.zero_mul] at this
    rw [List.eq_nil_of_length_eq_zero this] at hj
    cases hj
  · rw [hv] at hg
    simp [Value.ownBlock] at hg
    subst hg
    have := hr.cell g' 0 (cap + 1) hv j u hj
    rw [Nat.zero_add] at this
    exact this
theorem Rw.ok.frozen {B : Nat} {w : World} {r : Rw} (h : r.ok B w) {g : Nat} (hg : r.v.ownBlock = some g) (j : Nat) (h0 : r.ob = none := by rfl) (hn0 : r.n ≠ 0 := by first | (show (1 : Nat) ≠ 0; decide) | assumption | omega) : w.frozen? ⟨g, j, none⟩ = false := by
  have hr := h.row h0
  rcases hr.2 with ⟨hn, hv⟩ | ⟨g', cap, cur, hv, hgg, -⟩
  · exact absurd hn hn0
  · rw [hv] at hg
    simp [Value.ownBlock] at hg
    subst hg
    simp [World.frozen?, hgg]
/-- Where a slice points to. -/
def sa : Value → Option Addr
  | .slice a _ _ => a
  | _ => none
theorem Rw.ok.slice {B : Nat} {w : World} {r : Rw} (h : r.ok B w) (h0 : r.ob = none := by rfl) : (r.v = .slice (sa r.v) 0 0 ∧ r.n = 0 ∧ r.xs = []) ∨ ∃ g cap, r.v = .slice (some ⟨g, 0, none⟩) r.n cap ∧ vob r.v = some g ∧ B ≤ g ∧ g < w.heap.size ∧ r.n ≤ cap := by
  have hr := h.row h0
  rcases hr.2 with ⟨hn, hv⟩ | ⟨g, cap, cur, hv, hgg, hc, _⟩
  · refine .inl ⟨?_, hn, ?_⟩
    · rcases hv with hv | ⟨b, o, hv⟩ <;> rw [hv] <;> rfl
    · have := hr.1
      rw [hn, Nat.zero_mul] at this
      exact List.eq_nil_of_length_eq_zero this
  · have hg : vob r.v = some g := by rw [hv]; rfl
    exact .inr ⟨g, cap + 1, hv, hg, (h.lt g hg).1, (h.lt g hg).2, hc⟩
/-- Blocks beside rows, as they are now. -/
def photo (w : World) (ks : List Nat) : List Rw := ks.map fun k => opq k (w.heap[k]?.getD (.cells #[] 0))
theorem photo_back {B : Nat} {w w' : World} {rs : List Rw} {ks : List Nat} (h : Own B w' rs) (hs : ∀ r ∈ photo w ks, r ∈ rs) (hlt : ∀ k ∈ ks, k < w.heap.size) : ∀ k ∈ ks, w'.heap[k]? = w.heap[k]? := by
  intro k hk
  have hr : opq k (w.heap[k]?.getD (.cells #[] 0)) ∈ rs := hs _ (List.mem_map.2 ⟨k, hk, rfl⟩)
  obtain ⟨g, hv, -, hg⟩ := h.1 _ hr
  have hg' : k = g := by
    have : (Value.slice (some ⟨k, 0, none⟩) 0 1) = .slice (some ⟨g, 0, none⟩) 0 1 := hv
    cases this
    rfl
  subst hg'
  rw [hg, Array.getElem?_eq_getElem (hlt k hk)]
  rfl
theorem Own.withPhoto {B : Nat} {w : World} {rs : List Rw} (h : Own B w rs) : ∀ {ks : List Nat}, ks.Nodup → (∀ k ∈ ks, B ≤ k ∧ k < w.heap.size) → (∀ k ∈ ks, ∀ r ∈ rs, vob r.v ≠ some k) → Own B w (photo w ks ++ rs)
  | [], _, _, _ => h
  | k :: ks, hn, hb, hd => by
    rw [List.nodup_cons] at hn
    have ih := h.withPhoto hn.2 (fun x hx => hb x (List.mem_cons_of_mem _ hx)) (fun x hx => hd x (List.mem_cons_of_mem _ hx))
    obtain ⟨b1, b2⟩ := hb k (by simp)
    refine ⟨fun r hr => ?_, List.pairwise_cons.2 ⟨fun s hs => ?_, ih.2⟩⟩
    · rcases List.mem_cons.1 hr with rfl | hr
      · refine ⟨k, rfl, b1, ?_⟩
        rw [Array.getElem?_eq_getElem b2]
        rfl
      · exact ih.1 r hr
    · refine .inr fun e => ?_
      have e' : vob s.v = some k := e.symm
      rcases List.mem_append.1 hs with hs | hs
      · obtain ⟨x, hx, rfl⟩ := List.mem_map.1 hs
        have : x = k := by
          have : (some x : Option Nat) = some k := e'
          exact Option.some.inj this
        exact hn.1 (this ▸ hx)
      · exact hd k (by simp) s hs e'
theorem Own.keep {B : Nat} {w w' : World} {rs : List Rw} (h : Own B w rs) (hk : ∀ r ∈ rs, ∀ k, vob r.v = some k → w'.heap[k]? = w.heap[k]?) : Own B w' rs := ⟨fun r hr => (h.1 r hr).keep (hk r hr), h.2⟩
end Go.Proofs.YtfndlfnlepndmaaGreat
