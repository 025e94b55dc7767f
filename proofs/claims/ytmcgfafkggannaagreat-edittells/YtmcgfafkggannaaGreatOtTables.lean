/- The statements' Book: lists of kind Tables that were kept, beside other rows. -/
import Derived.Test.YtmcgfafkggannaaGreatOnTables
import Derived.Test.YtmcgfafkggannaaGreatOP
namespace Go.Proofs.YtmcgfafkggannaaGreat
open Go.RowKit

theorem rdsTables_own {B : Nat} {w : World} {rows : List (Value × List ElTables)} {rs : List Rw} (h : Own B w rs) (hs : ∀ r ∈ rows, rwTables r ∈ rs) (hl : ∀ r ∈ rows, r.2.length ≤ 200000) : RdsTables w (rows.map (·.1)) (rows.map (·.2)) := by
  refine ⟨by simp, ?_⟩
  intro i v zs h1 h2
  rw [List.getElem?_map] at h1 h2
  cases hr : rows[i]? with
  | none => rw [hr] at h1; simp at h1
  | some r =>
    rw [hr] at h1 h2
    simp at h1 h2
    subst h1 h2
    have hm := List.mem_of_getElem? hr
    exact ⟨(h.1 _ (hs r hm)).rd, hl r hm⟩
theorem rdsTables_cov {B : Nat} {w : World} {rows : List (Value × List ElTables)} {rs : List Rw} (h : Own B w rs) (hs : ∀ r ∈ rows, Cov rs (rwTables r)) (hl : ∀ r ∈ rows, r.2.length ≤ 200000) : RdsTables w (rows.map (·.1)) (rows.map (·.2)) := by
  refine ⟨by simp, ?_⟩
  intro i v zs h1 h2
  rw [List.getElem?_map] at h1 h2
  cases hr : rows[i]? with
  | none => rw [hr] at h1; simp at h1
  | some r =>
    rw [hr] at h1 h2
    simp at h1 h2
    subst h1 h2
    have hm := List.mem_of_getElem? hr
    exact ⟨(hs r hm).rd h, hl r hm⟩
theorem outRTables_rd {B : Nat} {w : World} {V : Value} {vs : List Value} {rs : List Rw} (h : Own B w rs) (hm : outRTables V vs ∈ rs) : Rd w V vs.length vs := (h.1 _ hm).rd
/-- Lists that were kept, and their copies. -/
def keptTables (V W : Value) (rows was : List (Value × List ElTables)) : List Rw := rows.map rwTables ++ (was.map rwTables ++ [outRTables V (rows.map (·.1)), outRTables W (was.map (·.1))])
/-- And the grown ones. -/
def grewTables (V W G : Value) (rows was gr ol : List (Value × List ElTables)) : List Rw := gr.map rwTables ++ (ol.map rwTables ++ (was.map rwTables ++ [outRTables G (gr.map (·.1)), outRTables V (rows.map (·.1)), outRTables W (was.map (·.1))]))
structure FitsTables (rows was : List (Value × List ElTables)) : Prop where
  same : was.map (·.2) = rows.map (·.2)
  len : rows.length ≤ 250
  few : ∀ r ∈ rows, r.2.length ≤ 100000
theorem FitsTables.was_few {rows was : List (Value × List ElTables)} (h : FitsTables rows was) : ∀ r ∈ was, r.2.length ≤ 100000 := by
  intro r hr
  have h1 : r.2 ∈ was.map (·.2) := List.mem_map_of_mem hr
  rw [h.same] at h1
  obtain ⟨q, hq, he⟩ := List.mem_map.1 h1
  rw [← he]; exact h.few q hq
theorem FitsTables.was_len {rows was : List (Value × List ElTables)} (h : FitsTables rows was) : was.length = rows.length := by have := congrArg List.length h.same; simpa using this
theorem FitsTables.nil : FitsTables [] [] := ⟨rfl, by simp, by simp⟩
theorem FitsTables.add {rows was : List (Value × List ElTables)} (h : FitsTables rows was) (v v' : Value) (zs : List ElTables) (hl : rows.length < 250) (hz : zs.length ≤ 100000) : FitsTables (rows ++ [(v, zs)]) (was ++ [(v', zs)]) := by
  refine ⟨by simp [h.same], by simp; omega, fun r hr => ?_⟩
  rcases List.mem_append.1 hr with hr | hr
  · exact h.few r hr
  · simp at hr
    subst hr
    exact hz
def MarkedTables (rows : List (Value × List ElTables)) : Prop := ∀ (i : Nat) (r : Value × List ElTables), rows[i]? = some r → r.2 = marksTables i 0 r.2.length
theorem markAllTables_fst (rows : List (Value × List ElTables)) : (markAllTables rows).map (·.1) = rows.map (·.1) := by
  apply List.ext_getElem
  · simp [markAllTables]
  · intro i h1 h2; simp [markAllTables]
theorem markAllTables_marked (rows : List (Value × List ElTables)) : MarkedTables (markAllTables rows) := by
  intro i r hr
  have hi := (List.getElem?_eq_some_iff.1 hr).1
  have hml := markAllTables_length rows
  rw [List.getElem?_eq_getElem hi, markAllTables_get rows i (by omega)] at hr
  have := Option.some.inj hr
  subst this
  simp [marksTables_length]
theorem markAllTables_few {rows : List (Value × List ElTables)} (hn : ∀ r ∈ rows, r.2.length ≤ 100000) : ∀ r ∈ markAllTables rows, r.2.length ≤ 100000 := by
  intro r hr
  have hml := markAllTables_length rows
  obtain ⟨i, hi, rfl⟩ := List.getElem_of_mem hr
  rw [markAllTables_get rows i (by omega)]
  simp only [marksTables_length]
  exact hn _ (List.getElem_mem _)
section
variable {B b : Nat} {cs : List Value} {V W : Value} {rows was : List (Value × List ElTables)} {R : List Rw} {w : World}
theorem stillTables_tot (hown : Own B w (bookR b cs :: (keptTables V W rows was ++ R))) (hcs : cs[12]? = some V) (hcw : cs[13]? = some W) (hf : FitsTables rows was) :
    Calls Tryz.prog 67 #[.pointer (some ⟨b, 0, none⟩)] w fun e w' => e = .returned (.bool true) ∧ Below w.heap.size w w' := by
  have hlen := hf.len
  refine stillTables_any b V W (rows.map (·.1)) (was.map (·.1)) (rows.map (·.2)) w ?_ ?_ (outRTables_rd hown (by simp [keptTables])) (outRTables_rd hown (by simp [keptTables])) (rdsTables_own hown (by intro r hr; simp [keptTables, List.mem_map_of_mem hr]) (fun r hr => by have := hf.few r hr; omega)) ?_ (by simp; omega)
  · exact (hown.1 (bookR b cs) (by simp)).cell rfl 12 _ hcs
  · exact (hown.1 (bookR b cs) (by simp)).cell rfl 13 _ hcw
  · rw [← hf.same]
    exact rdsTables_own hown (by intro r hr; simp [keptTables, List.mem_map_of_mem hr]) (fun r hr => by have := hf.was_few r hr; omega)
theorem putTables_tot (hown : Own B w (bookR b cs :: (keptTables V W rows was ++ R))) (hcs : cs[12]? = some V) (hf : FitsTables rows was) (hB : B ≤ w.heap.size) :
    Calls Tryz.prog 83 #[.pointer (some ⟨b, 0, none⟩)] w fun e w' => e = .returned (.tuple #[]) ∧ Own B w' (bookR b cs :: (keptTables V W (markAllTables rows) was ++ R)) ∧ Below B w w' := by
  have hlen := hf.len
  refine (putTables_any B b cs V rows (was.map rwTables ++ (outRTables W (was.map (·.1)) :: R)) w hcs (hown.perm (by unfold keptTables; exact perm_put _ _ _ _ _ _)) (by omega) (fun r hr => by have := hf.few r hr; omega) hB).mono ?_
  rintro e w' ⟨rfl, ho, hb⟩
  refine ⟨rfl, ?_, hb⟩
  unfold keptTables
  rw [markAllTables_fst]
  exact ho.perm (perm_put _ _ _ _ _ _).symm
theorem growTables_tot (hown : Own B w (bookR b cs :: (keptTables V W rows was ++ R))) (hcs : cs[12]? = some V) (hlen : rows.length ≤ 250) (hn : ∀ r ∈ rows, r.2.length ≤ 100000) (hm : MarkedTables rows) (hB : B ≤ w.heap.size) :
    Calls Tryz.prog 95 #[.pointer (some ⟨b, 0, none⟩)] w fun e w' => ∃ (G : Value) (gr ol : List (Value × List ElTables)), e = .returned G ∧ Own B w' (bookR b cs :: (grewTables V W G rows was gr ol ++ R)) ∧ gr.length = rows.length ∧ (MarkedTables gr ∧ ∀ r ∈ gr, r.2.length ≤ 200000) ∧ (∀ r ∈ rows, Cov ((gr ++ ol).map rwTables) (rwTables r)) ∧ Below B w w' := by
  refine (growTables_any B b cs V rows (was.map rwTables ++ (outRTables W (was.map (·.1)) :: R)) w hcs (hown.perm (by unfold keptTables; exact perm_put _ _ _ _ _ _)) hm (by omega) hn hB).mono ?_
  rintro e w' ⟨G, gr, ol, rfl, ho, h1, h2, h3, hb⟩
  refine ⟨G, gr, ol, rfl, ?_, h1, ⟨fun i r hr => (h2 i r hr).1, fun r hr => ?_⟩, h3, hb⟩
  · unfold grewTables
    exact ho.perm (perm_grew _ _ _ _ _ _ _ _)
  · obtain ⟨i, hi⟩ := List.getElem?_of_mem hr
    exact (h2 i r hi).2
theorem markedTables_new {G : Value} {gr ol : List (Value × List ElTables)} (hown : Own B w (bookR b cs :: (grewTables V W G rows was gr ol ++ R))) (hl : gr.length ≤ 250) (hm : MarkedTables gr) (hf : ∀ r ∈ gr, r.2.length ≤ 200000) :
    Calls Tryz.prog 109 #[G] w fun e w' => e = .returned (.bool true) ∧ Below w.heap.size w w' := by
  refine markedTables_any G (gr.map (·.1)) (gr.map (·.2)) w (outRTables_rd hown (by simp [grewTables])) (rdsTables_own hown (by intro r hr; simp [grewTables, List.mem_map_of_mem hr]) hf) ?_ (by simp only [List.length_map]; omega)
  intro i zs hz
  rw [List.getElem?_map] at hz
  cases hr : gr[i]? with
  | none => rw [hr] at hz; simp at hz
  | some r =>
    rw [hr] at hz
    simp at hz
    subst hz
    exact hm i r hr
theorem markedTables_old {G : Value} {gr ol : List (Value × List ElTables)} (hown : Own B w (bookR b cs :: (grewTables V W G rows was gr ol ++ R))) (hl : rows.length ≤ 250) (hm : MarkedTables rows) (hf : ∀ r ∈ rows, r.2.length ≤ 100000) (hc : ∀ r ∈ rows, Cov ((gr ++ ol).map rwTables) (rwTables r)) :
    Calls Tryz.prog 109 #[V] w fun e w' => e = .returned (.bool true) ∧ Below w.heap.size w w' := by
  refine markedTables_any V (rows.map (·.1)) (rows.map (·.2)) w (outRTables_rd hown (by simp [grewTables])) (rdsTables_cov hown (fun r hr => (hc r hr).mono (by intro x hx; simp only [List.map_append, List.mem_append] at hx; rcases hx with hx | hx <;> simp [grewTables, hx])) (fun r hr => by have := hf r hr; omega)) ?_ (by simp only [List.length_map]; omega)
  intro i zs hz
  rw [List.getElem?_map] at hz
  cases hr : rows[i]? with
  | none => rw [hr] at hz; simp at hz
  | some r =>
    rw [hr] at hz
    simp at hz
    subst hz
    exact hm i r hr
set_option maxHeartbeats 1000000 in
set_option maxRecDepth 100000 in
theorem fullTables_tot (v : Value) (hown : Own B w (bookR b cs :: (keptTables V W rows was ++ R))) (hcs : cs[12]? = some V) (hl : 250 ≤ rows.length) (hu : rows.length ≤ 1000000) :
    Calls Tryz.prog 18 #[.pointer (some ⟨b, 0, none⟩), v] w fun e w' => e = .returned (.tuple #[]) ∧ w = w' := by
  have hcb : w.cell? ⟨b, 12, none⟩ = some V := (hown.1 (bookR b cs) (by simp)).cell rfl 12 _ hcs
  obtain ⟨aV, capV, hV⟩ := slice_form (hown.1 (outRTables V (rows.map (·.1))) (by simp [keptTables]))
  have hV2 : V = .slice aV (rows.map (·.1)).length capV := hV
  rw [List.length_map] at hV2
  subst hV2
  have d : decide ((rows.length : Int) < 250) = false := by simp; omega
  clear hown hcs hV
  go_enter Tryz.func18, Tryz.ntmps18
  go_wp2
  go_end0
  exact ⟨rfl, rfl⟩
/-- One more list is kept. -/
theorem addTables_tot {v : Value} {zs : List ElTables} (hown : Own B w (rwTables (v, zs) :: (bookR b cs :: (keptTables V W rows was ++ R)))) (hcs : cs[12]? = some V) (hcw : cs[13]? = some W) (hf : FitsTables rows was) (hl : rows.length < 250) (hz : zs.length ≤ 1000000) (hB : B ≤ w.heap.size) :
    Calls Tryz.prog 18 #[.pointer (some ⟨b, 0, none⟩), v] w fun e w' => e = .returned (.tuple #[]) ∧ Below B w w' ∧ ∃ V' W' v', Own B w' (bookR b ((cs.set 12 V').set 13 W') :: (keptTables V' W' (rows ++ [(v, zs)]) (was ++ [(v', zs)]) ++ R)) := by
  have hwl := hf.was_len
  refine (addTables_any B b cs V W v (rows.map (·.1)) (was.map (·.1)) zs (rows.map rwTables ++ (was.map rwTables ++ R)) w hcs hcw (hown.perm (by unfold keptTables; exact perm_add _ _ _ _ _ _ _)) (by simp; omega) (by simp; omega) hz hB).mono ?_
  rintro e w' ⟨rfl, hb, V', W', v', ho⟩
  refine ⟨rfl, hb, V', W', v', ?_⟩
  unfold keptTables
  simp only [List.map_append, List.map_cons, List.map_nil]
  exact ho.perm (perm_added _ _ _ _ _ _ _ _)
end
end Go.Proofs.YtmcgfafkggannaaGreat
