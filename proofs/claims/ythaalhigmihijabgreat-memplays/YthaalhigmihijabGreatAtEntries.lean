/- The statements' Book: lists of kind Entries that were kept, beside other rows. -/
import Derived.Test.YthaalhigmihijabGreatAnEntries
import Derived.Test.YthaalhigmihijabGreatAP
namespace Go.Proofs.YthaalhigmihijabGreat
open Go.RowKit

theorem rdsEntries_own {B : Nat} {w : World} {rows : List (Value × List ElEntries)} {rs : List Rw} (h : Own B w rs) (hs : ∀ r ∈ rows, rwEntries r ∈ rs) (hl : ∀ r ∈ rows, r.2.length ≤ 200000) : RdsEntries w (rows.map (·.1)) (rows.map (·.2)) := by
  refine ⟨by simp, ?_⟩
  intro i v zs h1 h2
  rw [List.getElem?_map] at h1 h2
  cases hr : rows[i]? with
  | none => rw [hr] at h1; simp at h1
  | some r =>
    rw [hr] at h1 h2
    simp at h1 h2
    subst h1 h2
    have hm := List.mem_of_getElem? hr
    exact ⟨(h.1 _ (hs r hm)).rd, hl r hm⟩
theorem rdsEntries_cov {B : Nat} {w : World} {rows : List (Value × List ElEntries)} {rs : List Rw} (h : Own B w rs) (hs : ∀ r ∈ rows, Cov rs (rwEntries r)) (hl : ∀ r ∈ rows, r.2.length ≤ 200000) : RdsEntries w (rows.map (·.1)) (rows.map (·.2)) := by
  refine ⟨by simp, ?_⟩
  intro i v zs h1 h2
  rw [List.getElem?_map] at h1 h2
  cases hr : rows[i]? with
  | none => rw [hr] at h1; simp at h1
  | some r =>
    rw [hr] at h1 h2
    simp at h1 h2
    subst h1 h2
    have hm := List.mem_of_getElem? hr
    exact ⟨(hs r hm).rd h, hl r hm⟩
theorem outREntries_rd {B : Nat} {w : World} {V : Value} {vs : List Value} {rs : List Rw} (h : Own B w rs) (hm : outREntries V vs ∈ rs) : Rd w V vs.length vs := (h.1 _ hm).rd
/-- Lists that were kept, and their copies. -/
def keptEntries (V W : Value) (rows was : List (Value × List ElEntries)) : List Rw := rows.map rwEntries ++ (was.map rwEntries ++ [outREntries V (rows.map (·.1)), outREntries W (was.map (·.1))])
/-- And the grown ones. -/
def grewEntries (V W G : Value) (rows was gr ol : List (Value × List ElEntries)) : List Rw := gr.map rwEntries ++ (ol.map rwEntries ++ (was.map rwEntries ++ [outREntries G (gr.map (·.1)), outREntries V (rows.map (·.1)), outREntries W (was.map (·.1))]))
structure FitsEntries (rows was : List (Value × List ElEntries)) : Prop where
  same : was.map (·.2) = rows.map (·.2)
  len : rows.length ≤ 250
  few : ∀ r ∈ rows, r.2.length ≤ 100000
theorem FitsEntries.was_few {rows was : List (Value × List ElEntries)} (h : FitsEntries rows was) : ∀ r ∈ was, r.2.length ≤ 100000 := by
  intro r hr
  have h1 : r.2 ∈ was.map (·.2) := List.mem_map_of_mem hr
  rw [h.same] at h1
  obtain ⟨q, hq, he⟩ := List.mem_map.1 h1
  rw [← he]; exact h.few q hq
theorem FitsEntries.was_len {rows was : List (Value × List ElEntries)} (h : FitsEntries rows was) : was.length = rows.length := by have := congrArg List.length h.same; simpa using this
theorem FitsEntries.nil : FitsEntries [] [] := ⟨rfl, by simp, by simp⟩
theorem FitsEntries.add {rows was : List (Value × List ElEntries)} (h : FitsEntries rows was) (v v' : Value) (zs : List ElEntries) (hl : rows.length < 250) (hz : zs.length ≤ 100000) : FitsEntries (rows ++ [(v, zs)]) (was ++ [(v', zs)]) := by
  refine ⟨by simp [h.same], by simp; omega, fun r hr => ?_⟩
  rcases List.mem_append.1 hr with hr | hr
  · exact h.few r hr
  · simp at hr
    subst hr
    exact hz
def MarkedEntries (rows : List (Value × List ElEntries)) : Prop := ∀ (i : Nat) (r : Value × List ElEntries), rows[i]? = some r → r.2 = marksEntries i 0 r.2.length
theorem markAllEntries_fst (rows : List (Value × List ElEntries)) : (markAllEntries rows).map (·.1) = rows.map (·.1) := by
  apply List.ext_getElem
  · simp [markAllEntries]
  · intro i h1 h2; simp [markAllEntries]
theorem markAllEntries_marked (rows : List (Value × List ElEntries)) : MarkedEntries (markAllEntries rows) := by
  intro i r hr
  have hi := (List.getElem?_eq_some_iff.1 hr).1
  have hml := markAllEntries_length rows
  rw [List.getElem?_eq_getElem hi, markAllEntries_get rows i (by omega)] at hr
  have := Option.some.inj hr
  subst this
  simp [marksEntries_length]
theorem markAllEntries_few {rows : List (Value × List ElEntries)} (hn : ∀ r ∈ rows, r.2.length ≤ 100000) : ∀ r ∈ markAllEntries rows, r.2.length ≤ 100000 := by
  intro r hr
  have hml := markAllEntries_length rows
  obtain ⟨i, hi, rfl⟩ := List.getElem_of_mem hr
  rw [markAllEntries_get rows i (by omega)]
  simp only [marksEntries_length]
  exact hn _ (List.getElem_mem _)
section
variable {B b : Nat} {cs : List Value} {V W : Value} {rows was : List (Value × List ElEntries)} {R : List Rw} {w : World}
theorem stillEntries_tot (hown : Own B w (bookR b cs :: (keptEntries V W rows was ++ R))) (hcs : cs[6]? = some V) (hcw : cs[7]? = some W) (hf : FitsEntries rows was) :
    Calls Tryz.prog 41 #[.pointer (some ⟨b, 0, none⟩)] w fun e w' => e = .returned (.bool true) ∧ Below w.heap.size w w' := by
  have hlen := hf.len
  refine stillEntries_any b V W (rows.map (·.1)) (was.map (·.1)) (rows.map (·.2)) w ?_ ?_ (outREntries_rd hown (by simp [keptEntries])) (outREntries_rd hown (by simp [keptEntries])) (rdsEntries_own hown (by intro r hr; simp [keptEntries, List.mem_map_of_mem hr]) (fun r hr => by have := hf.few r hr; omega)) ?_ (by simp; omega)
  · exact (hown.1 (bookR b cs) (by simp)).cell rfl 6 _ hcs
  · exact (hown.1 (bookR b cs) (by simp)).cell rfl 7 _ hcw
  · rw [← hf.same]
    exact rdsEntries_own hown (by intro r hr; simp [keptEntries, List.mem_map_of_mem hr]) (fun r hr => by have := hf.was_few r hr; omega)
theorem putEntries_tot (hown : Own B w (bookR b cs :: (keptEntries V W rows was ++ R))) (hcs : cs[6]? = some V) (hf : FitsEntries rows was) (hB : B ≤ w.heap.size) :
    Calls Tryz.prog 57 #[.pointer (some ⟨b, 0, none⟩)] w fun e w' => e = .returned (.tuple #[]) ∧ Own B w' (bookR b cs :: (keptEntries V W (markAllEntries rows) was ++ R)) ∧ Below B w w' := by
  have hlen := hf.len
  refine (putEntries_any B b cs V rows (was.map rwEntries ++ (outREntries W (was.map (·.1)) :: R)) w hcs (hown.perm (by unfold keptEntries; exact perm_put _ _ _ _ _ _)) (by omega) (fun r hr => by have := hf.few r hr; omega) hB).mono ?_
  rintro e w' ⟨rfl, ho, hb⟩
  refine ⟨rfl, ?_, hb⟩
  unfold keptEntries
  rw [markAllEntries_fst]
  exact ho.perm (perm_put _ _ _ _ _ _).symm
theorem growEntries_tot (hown : Own B w (bookR b cs :: (keptEntries V W rows was ++ R))) (hcs : cs[6]? = some V) (hlen : rows.length ≤ 250) (hn : ∀ r ∈ rows, r.2.length ≤ 100000) (hm : MarkedEntries rows) (hB : B ≤ w.heap.size) :
    Calls Tryz.prog 69 #[.pointer (some ⟨b, 0, none⟩)] w fun e w' => ∃ (G : Value) (gr ol : List (Value × List ElEntries)), e = .returned G ∧ Own B w' (bookR b cs :: (grewEntries V W G rows was gr ol ++ R)) ∧ gr.length = rows.length ∧ (MarkedEntries gr ∧ ∀ r ∈ gr, r.2.length ≤ 200000) ∧ (∀ r ∈ rows, Cov ((gr ++ ol).map rwEntries) (rwEntries r)) ∧ Below B w w' := by
  refine (growEntries_any B b cs V rows (was.map rwEntries ++ (outREntries W (was.map (·.1)) :: R)) w hcs (hown.perm (by unfold keptEntries; exact perm_put _ _ _ _ _ _)) hm (by omega) hn hB).mono ?_
  rintro e w' ⟨G, gr, ol, rfl, ho, h1, h2, h3, hb⟩
  refine ⟨G, gr, ol, rfl, ?_, h1, ⟨fun i r hr => (h2 i r hr).1, fun r hr => ?_⟩, h3, hb⟩
  · unfold grewEntries
    exact ho.perm (perm_grew _ _ _ _ _ _ _ _)
  · obtain ⟨i, hi⟩ := List.getElem?_of_mem hr
    exact (h2 i r hi).2
theorem markedEntries_new {G : Value} {gr ol : List (Value × List ElEntries)} (hown : Own B w (bookR b cs :: (grewEntries V W G rows was gr ol ++ R))) (hl : gr.length ≤ 250) (hm : MarkedEntries gr) (hf : ∀ r ∈ gr, r.2.length ≤ 200000) :
    Calls Tryz.prog 83 #[G] w fun e w' => e = .returned (.bool true) ∧ Below w.heap.size w w' := by
  refine markedEntries_any G (gr.map (·.1)) (gr.map (·.2)) w (outREntries_rd hown (by simp [grewEntries])) (rdsEntries_own hown (by intro r hr; simp [grewEntries, List.mem_map_of_mem hr]) hf) ?_ (by simp only [List.length_map]; omega)
  intro i zs hz
  rw [List.getElem?_map] at hz
  cases hr : gr[i]? with
  | none => rw [hr] at hz; simp at hz
  | some r =>
    rw [hr] at hz
    simp at hz
    subst hz
    exact hm i r hr
theorem markedEntries_old {G : Value} {gr ol : List (Value × List ElEntries)} (hown : Own B w (bookR b cs :: (grewEntries V W G rows was gr ol ++ R))) (hl : rows.length ≤ 250) (hm : MarkedEntries rows) (hf : ∀ r ∈ rows, r.2.length ≤ 100000) (hc : ∀ r ∈ rows, Cov ((gr ++ ol).map rwEntries) (rwEntries r)) :
    Calls Tryz.prog 83 #[V] w fun e w' => e = .returned (.bool true) ∧ Below w.heap.size w w' := by
  refine markedEntries_any V (rows.map (·.1)) (rows.map (·.2)) w (outREntries_rd hown (by simp [grewEntries])) (rdsEntries_cov hown (fun r hr => (hc r hr).mono (by intro x hx; simp only [List.map_append, List.mem_append] at hx; rcases hx with hx | hx <;> simp [grewEntries, hx])) (fun r hr => by have := hf r hr; omega)) ?_ (by simp only [List.length_map]; omega)
  intro i zs hz
  rw [List.getElem?_map] at hz
  cases hr : rows[i]? with
  | none => rw [hr] at hz; simp at hz
  | some r =>
    rw [hr] at hz
    simp at hz
    subst hz
    exact hm i r hr
set_option maxHeartbeats 1000000 in
set_option maxRecDepth 100000 in
theorem fullEntries_tot (v : Value) (hown : Own B w (bookR b cs :: (keptEntries V W rows was ++ R))) (hcs : cs[6]? = some V) (hl : 250 ≤ rows.length) (hu : rows.length ≤ 1000000) :
    Calls Tryz.prog 15 #[.pointer (some ⟨b, 0, none⟩), v] w fun e w' => e = .returned (.tuple #[]) ∧ w = w' := by
  have hcb : w.cell? ⟨b, 6, none⟩ = some V := (hown.1 (bookR b cs) (by simp)).cell rfl 6 _ hcs
  obtain ⟨aV, capV, hV⟩ := slice_form (hown.1 (outREntries V (rows.map (·.1))) (by simp [keptEntries]))
  have hV2 : V = .slice aV (rows.map (·.1)).length capV := hV
  rw [List.length_map] at hV2
  subst hV2
  have d : decide ((rows.length : Int) < 250) = false := by simp; omega
  clear hown hcs hV
  go_enter Tryz.func15, Tryz.ntmps15
  go_wp2
  go_end0
  exact ⟨rfl, rfl⟩
/-- One more list is kept. -/
theorem addEntries_tot {v : Value} {zs : List ElEntries} (hown : Own B w (rwEntries (v, zs) :: (bookR b cs :: (keptEntries V W rows was ++ R)))) (hcs : cs[6]? = some V) (hcw : cs[7]? = some W) (hf : FitsEntries rows was) (hl : rows.length < 250) (hz : zs.length ≤ 1000000) (hB : B ≤ w.heap.size) :
    Calls Tryz.prog 15 #[.pointer (some ⟨b, 0, none⟩), v] w fun e w' => e = .returned (.tuple #[]) ∧ Below B w w' ∧ ∃ V' W' v', Own B w' (bookR b ((cs.set 6 V').set 7 W') :: (keptEntries V' W' (rows ++ [(v, zs)]) (was ++ [(v', zs)]) ++ R)) := by
  have hwl := hf.was_len
  refine (addEntries_any B b cs V W v (rows.map (·.1)) (was.map (·.1)) zs (rows.map rwEntries ++ (was.map rwEntries ++ R)) w hcs hcw (hown.perm (by unfold keptEntries; exact perm_add _ _ _ _ _ _ _)) (by simp; omega) (by simp; omega) hz hB).mono ?_
  rintro e w' ⟨rfl, hb, V', W', v', ho⟩
  refine ⟨rfl, hb, V', W', v', ?_⟩
  unfold keptEntries
  simp only [List.map_append, List.map_cons, List.map_nil]
  exact ho.perm (perm_added _ _ _ _ _ _ _ _)
end
end Go.Proofs.YthaalhigmihijabGreat
