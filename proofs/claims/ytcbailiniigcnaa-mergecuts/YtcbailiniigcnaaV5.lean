/- The document's own Cut. -/
import Derived.Test.YtcbailiniigcnaaV4
namespace Go.Proofs.Ytcbailiniigcnaa
open Go.ChangeShapes Go.WideShapes Go.ChangeAt Go.Deep Go.RowKit

theorem infoL14 : (Try.prog.info? 22).map (fun i => (i.zero, i.size, i.bytes)) = some (some (.slice none 0 0), 1, 24) := by kernel_rfl
/-- Pieces told, and the one that is being made: rows of blocks of their own, each. -/
structure CutI (B : Nat) (w : World) (O V : Value) (vs : List Value) (D : List (List Ent)) (q : List Ent) : Prop where
  out : Row w 22 1 O vs.length vs
  piece : Row w 29 4 V q.length (cellsE q)
  len : vs.length = D.length
  rows : ∀ (j : Nat) (v : Value) (d : List Ent), vs[j]? = some v → D[j]? = some d → Row w 29 4 v d.length (cellsE d)
  newO : ∀ b, ob O = some b → B ≤ b
  newV : ∀ b, ob V = some b → B ≤ b
  sepOV : ∀ b, ob O = some b → ob V ≠ some b
  sepO : ∀ b, ob O = some b → ∀ v ∈ vs, ob v ≠ some b
  sepV : ∀ b, ob V = some b → ∀ v ∈ vs, ob v ≠ some b
theorem rows_of {w : World} {vs : List Value} {D : List (List Ent)} (hl : vs.length = D.length) (h : ∀ (j : Nat) (v : Value) (d : List Ent), vs[j]? = some v → D[j]? = some d → Row w 29 4 v d.length (cellsE d)) {v : Value} (hv : v ∈ vs) : ∀ b, ob v = some b → b < w.heap.size := by
  obtain ⟨j, hj, rfl⟩ := List.mem_iff_getElem.1 hv
  exact (h j _ D[j] (List.getElem?_eq_getElem hj) (List.getElem?_eq_getElem (by omega))).lt
theorem CutI.below {B : Nat} {w w' : World} {O V : Value} {vs : List Value} {D : List (List Ent)} {q : List Ent} (h : CutI B w O V vs D q) (hb : Below w.heap.size w w') : CutI B w' O V vs D q :=
  ⟨row_below h.out hb, row_below h.piece hb, h.len, fun j v d h1 h2 => row_below (h.rows j v d h1 h2) hb, h.newO, h.newV, h.sepOV, h.sepO, h.sepV⟩
theorem CutI.put {B : Nat} {w w' : World} {O V V' : Value} {vs : List Value} {D : List (List Ent)} {q : List Ent} {x : Ent} (h : CutI B w O V vs D q) (hB : B ≤ w.heap.size) (hr : Row w' 29 4 V' (q.length + 1) (cellsE q ++ x.cells)) (hg : w.grownBy w' (ob V)) (ho : ob V' = ob V ∨ (ob V' = some w.heap.size ∧ w.grownBy w' none)) : CutI B w' O V' vs D (q ++ [x]) := by
  have hc : cellsE (q ++ [x]) = cellsE q ++ x.cells := by rw [cellsE_append]; simp [cellsE]
  refine ⟨h.out.kept fun k hk => hg.block k (h.out.lt k hk) (fun e => h.sepOV k hk e.symm), by rw [List.length_append, hc]; exact hr, h.len, fun j v d h1 h2 => (h.rows j v d h1 h2).kept fun k hk => hg.block k ((h.rows j v d h1 h2).lt k hk) (fun e => h.sepV k e.symm v (List.mem_of_getElem? h1) hk), h.newO, ob_new ho hB h.newV, fun b hb e => ?_, h.sepO, fun b hb v hv e => ?_⟩
  · rcases ho with ho | ⟨ho, -⟩
    · exact h.sepOV b hb (ho ▸ e)
    · rw [ho] at e
      cases e
      have := h.out.lt _ hb
      omega
  · rcases ho with ho | ⟨ho, -⟩
    · exact h.sepV b (ho ▸ hb) v hv e
    · rw [ho] at hb
      cases hb
      have := rows_of h.len h.rows hv _ e
      omega
theorem CutI.push {B : Nat} {w w' : World} {O V O' : Value} {vs : List Value} {D : List (List Ent)} {q : List Ent} (h : CutI B w O V vs D q) (hB : B ≤ w.heap.size) (hr : Row w' 22 1 O' (vs.length + 1) (vs ++ [V])) (hg : w.grownBy w' (ob O)) (ho : ob O' = ob O ∨ (ob O' = some w.heap.size ∧ w.grownBy w' none)) : CutI B w' O' (.slice none 0 0) (vs ++ [V]) (D ++ [q]) [] := by
  have hrow : ∀ (j : Nat) (v : Value) (d : List Ent), (vs ++ [V])[j]? = some v → (D ++ [q])[j]? = some d → Row w 29 4 v d.length (cellsE d) ∧ ∀ b, ob O = some b → ob v ≠ some b := fun j v d h1 h2 => by
    rw [List.getElem?_append] at h1 h2
    rw [h.len] at h1
    split at h1
    · rename_i hj
      rw [if_pos hj] at h2
      exact ⟨h.rows j v d h1 h2, fun b hb => h.sepO b hb v (List.mem_of_getElem? h1)⟩
    · rename_i hj
      rw [if_neg hj] at h2
      rw [List.getElem?_singleton] at h1 h2
      split at h1
      · rename_i h0
        rw [if_pos h0] at h2
        cases h1; cases h2
        exact ⟨h.piece, fun b hb => h.sepOV b hb⟩
      · cases h1
  have hmem : ∀ v ∈ vs ++ [V], (∀ b, ob v = some b → b < w.heap.size) ∧ ∀ b, ob O = some b → ob v ≠ some b := fun v hv => by
    obtain ⟨j, hj, rfl⟩ := List.mem_iff_getElem.1 hv
    obtain ⟨r1, r2⟩ := hrow j _ ((D ++ [q])[j]'(by simp at hj ⊢; have := h.len; omega)) (List.getElem?_eq_getElem hj) (List.getElem?_eq_getElem _)
    exact ⟨r1.lt, r2⟩
  refine ⟨by rw [List.length_append]; exact hr, row_nil _ _ _, by simp [h.len], fun j v d h1 h2 => (hrow j v d h1 h2).1.kept fun k hk => hg.block k ((hrow j v d h1 h2).1.lt k hk) (fun e => (hrow j v d h1 h2).2 k e.symm hk), ob_new ho hB h.newO, fun b hb => none_ne hb, fun b _ e => none_ne e, fun b hb v hv e => ?_, fun b hb => none_ne hb⟩
  rcases ho with ho | ⟨ho, -⟩
  · exact (hmem v hv).2 b (ho ▸ hb) e
  · rw [ho] at hb
    cases hb
    have := (hmem v hv).1 _ e
    omega
theorem CutI.told {B : Nat} {w : World} {O V : Value} {vs : List Value} {D : List (List Ent)} {q : List Ent} (h : CutI B w O V vs D q) : ∃ a c, O = .slice a D.length c ∧ LsAt w a D.length D := by
  obtain ⟨a, c, hv, -, -⟩ := h.out.le
  refine ⟨a, c, by rw [hv, h.len], rfl, ?_⟩
  rcases h.out.2 with ⟨h0, -⟩ | ⟨g, c', cur, hv', hg, -⟩
  · exact .inl (by rw [← h.len]; exact h0)
  · rw [hv] at hv'
    cases hv'
    refine .inr ⟨g, 0, rfl, (Array.getElem?_eq_some_iff.1 hg).1, fun i hi => ?_⟩
    have hi2 : i < vs.length := by rw [h.len]; exact hi
    have hr := h.rows i vs[i] D[i] (List.getElem?_eq_getElem hi2) (List.getElem?_eq_getElem hi)
    obtain ⟨ai, ci, he, hE, hle⟩ := row_ents2 hr
    have hc := h.out.cell g 0 _ hv i _ (List.getElem?_eq_getElem hi2)
    rw [he] at hc
    exact ⟨ai, ci, hc, hE, hle⟩
theorem cutS_cons (most : Int) (q : List Ent) (e : Ent) (r : List Ent) : cutS most q (e :: r) = if r = [] ∨ (most ≤ ((q ++ [e]).length : Int) ∧ (r.head?.map Ent.k) ≠ some e.k) then (q ++ [e]) :: cutS most [] r else cutS most (q ++ [e]) r := by
  conv => lhs; unfold cutS
end Go.Proofs.Ytcbailiniigcnaa
