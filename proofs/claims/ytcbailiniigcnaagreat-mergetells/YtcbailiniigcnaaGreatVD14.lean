/- Lent lists in a list of lists. -/
import Derived.Test.YtcbailiniigcnaaGreatVC14
import Derived.Test.YtcbailiniigcnaaGreatV5
namespace Go.Proofs.YtcbailiniigcnaaGreat
open Go.RowKit

structure Ln where
  g : Nat
  c : Nat
  es : List Ent
def Ln.val (x : Ln) : Value := .slice (some ⟨x.g, 0, none⟩) x.es.length (x.c + 1)
/-- A list of lent lists, each in a block of its own. -/
structure LentL (B : Nat) (w : World) (V : Value) (xs : List Ln) : Prop where
  row : Row w 26 1 V xs.length (xs.map Ln.val)
  newV : ∀ b, ob V = some b → B ≤ b
  each : ∀ x ∈ xs, LentEs w x.g x.c x.es ∧ B ≤ x.g
  sep : ∀ b, ob V = some b → ∀ x ∈ xs, x.g ≠ b
  nd : (xs.map Ln.g).Nodup
theorem LentL.nil (B : Nat) (w : World) : LentL B w (.slice none 0 0) [] := ⟨row_nil _ _ _, fun b hb => none_ne hb, (fun x hx => by cases hx), fun b hb => none_ne hb, List.nodup_nil⟩
theorem LentL.lt {B : Nat} {w : World} {V : Value} {xs : List Ln} (h : LentL B w V xs) {x : Ln} (hx : x ∈ xs) : x.g < w.heap.size := (h.each x hx).1.row.lt _ rfl
theorem LentL.below {B : Nat} {w w' : World} {V : Value} {xs : List Ln} (h : LentL B w V xs) (hb : Below w.heap.size w w') : LentL B w' V xs :=
  ⟨row_below h.row hb, h.newV, fun x hx => ⟨(h.each x hx).1.keep (hb.block _ (h.lt hx)), (h.each x hx).2⟩, h.sep, h.nd⟩
/-- The blocks that it stands in. -/
def LentL.ks (V : Value) (xs : List Ln) : List Nat := (ob V).toList ++ xs.map Ln.g
theorem LentL.stay {B : Nat} {w w' : World} {V : Value} {xs : List Ln} (h : LentL B w V xs) (hk : ∀ k ∈ LentL.ks V xs, w'.heap[k]? = w.heap[k]?) : LentL B w' V xs :=
  ⟨h.row.kept fun k hk' => hk k (by unfold LentL.ks; rw [hk']; simp), h.newV, fun x hx => ⟨(h.each x hx).1.keep (hk _ (by unfold LentL.ks; exact List.mem_append_right _ (List.mem_map.2 ⟨x, hx, rfl⟩))), (h.each x hx).2⟩, h.sep, h.nd⟩
theorem LentL.nodup {B : Nat} {w : World} {V : Value} {xs : List Ln} (h : LentL B w V xs) : (LentL.ks V xs).Nodup := by
  unfold LentL.ks
  cases hv : ob V with
  | none => exact h.nd
  | some b =>
    refine List.nodup_cons.2 ⟨fun hm => ?_, h.nd⟩
    obtain ⟨x, hx, e⟩ := List.mem_map.1 hm
    exact h.sep b hv x hx e
theorem LentL.bounds {B : Nat} {w : World} {V : Value} {xs : List Ln} (h : LentL B w V xs) : ∀ k ∈ LentL.ks V xs, B ≤ k ∧ k < w.heap.size := by
  intro k hk
  unfold LentL.ks at hk
  rcases List.mem_append.1 hk with hk | hk
  · have hk' : ob V = some k := by simpa using hk
    exact ⟨h.newV k hk', h.row.lt k hk'⟩
  · obtain ⟨x, hx, rfl⟩ := List.mem_map.1 hk
    exact ⟨(h.each x hx).2, h.lt hx⟩
/-- One more: lent at w (its block is not older than w0), then appended. -/
theorem LentL.put {B : Nat} {w w' : World} {V V' : Value} {xs : List Ln} {x : Ln} (h : LentL B w V xs) (hB : B ≤ w.heap.size) (hx : LentEs w x.g x.c x.es) (hxB : B ≤ x.g) (hxl : x.g < w.heap.size) (hxn : ∀ y ∈ xs, y.g ≠ x.g) (hxV : ob V ≠ some x.g) (hr : Row w' 26 1 V' (xs.length + 1) (xs.map Ln.val ++ [x.val])) (hg : w.grownBy w' (ob V)) (ho : ob V' = ob V ∨ (ob V' = some w.heap.size ∧ w.grownBy w' none)) : LentL B w' V' (xs ++ [x]) := by
  have hmem : ∀ y ∈ xs ++ [x], LentEs w y.g y.c y.es ∧ B ≤ y.g ∧ y.g < w.heap.size ∧ ob V ≠ some y.g := fun y hy => by
    rcases List.mem_append.1 hy with hy | hy
    · obtain ⟨h1, h2⟩ := h.each y hy
      exact ⟨h1, h2, h.lt hy, fun e => h.sep _ e y hy rfl⟩
    · rw [List.mem_singleton] at hy
      subst hy
      exact ⟨hx, hxB, hxl, hxV⟩
  refine ⟨by rw [List.length_append, List.map_append]; exact hr, ob_new ho hB h.newV, fun y hy => ?_, fun b hb y hy e => ?_, ?_⟩
  · obtain ⟨h1, h2, h3, h4⟩ := hmem y hy
    exact ⟨h1.keep (hg.block _ h3 (fun e => h4 e.symm)), h2⟩
  · obtain ⟨h1, h2, h3, h4⟩ := hmem y hy
    rcases ho with ho | ⟨ho, -⟩
    · rw [ho, ← e] at hb
      exact h4 hb
    · rw [ho] at hb
      cases hb
      omega
  · rw [List.map_append, List.nodup_append]
    refine ⟨h.nd, by simp, fun a ha b hb e => ?_⟩
    obtain ⟨y, hy, rfl⟩ := List.mem_map.1 ha
    simp only [List.map_cons, List.map_nil, List.mem_singleton] at hb
    rw [hb] at e
    exact hxn y hy e
theorem LentL.lists {B : Nat} {w : World} {V : Value} {xs : List Ln} (h : LentL B w V xs) : ∃ a c, V = .slice a xs.length c ∧ LsAt w a xs.length (xs.map Ln.es) := by
  obtain ⟨a, c, hv, -, -⟩ := h.row.le
  refine ⟨a, c, hv, by rw [List.length_map], ?_⟩
  rcases h.row.2 with ⟨h0, -⟩ | ⟨g, c', cur, hv', hg, -⟩
  · exact .inl h0
  · rw [hv] at hv'
    cases hv'
    refine .inr ⟨g, 0, rfl, (Array.getElem?_eq_some_iff.1 hg).1, fun i hi => ?_⟩
    have hi2 : i < xs.length := by simpa using hi
    have hc := h.row.cell g 0 _ hv i (xs[i].val) (by rw [List.getElem?_map, List.getElem?_eq_getElem hi2]; rfl)
    rw [List.getElem_map]
    exact ⟨some ⟨xs[i].g, 0, none⟩, xs[i].c + 1, hc, (h.each _ (List.getElem_mem hi2)).1.ents, Nat.le_of_succ_le (h.each _ (List.getElem_mem hi2)).1.cap⟩
end Go.Proofs.YtcbailiniigcnaaGreat
