/- The statements' Book: lists of kind Pairs that were kept, beside other rows. -/
import Derived.Test.YtcbailiniigcnaaGreatOnPairs
import Derived.Test.YtcbailiniigcnaaGreatOP
namespace Go.Proofs.YtcbailiniigcnaaGreat
open Go.RowKit

theorem rdsPairs_own {B : Nat} {w : World} {rows : List (Value × List ElPairs)} {rs : List Rw} (h : Own B w rs) (hs : ∀ r ∈ rows, rwPairs r ∈ rs) (hl : ∀ r ∈ rows, r.2.length ≤ 200000) : RdsPairs w (rows.map (·.1)) (rows.map (·.2)) := by
  refine ⟨by simp, ?_⟩
  intro i v zs h1 h2
  rw [List.getElem?_map] at h1 h2
  cases hr : rows[i]? with
  | none => rw [hr] at h1; simp at h1
  | some r =>
    rw [hr] at h1 h2
    simp at h1 h2
    subst h1 h2
    have hm := List.mem_of_getElem? hr
    exact ⟨(h.1 _ (hs r hm)).rd, hl r hm⟩
theorem rdsPairs_cov {B : Nat} {w : World} {rows : List (Value × List ElPairs)} {rs : List Rw} (h : Own B w rs) (hs : ∀ r ∈ rows, Cov rs (rwPairs r)) (hl : ∀ r ∈ rows, r.2.length ≤ 200000) : RdsPairs w (rows.map (·.1)) (rows.map (·.2)) := by
  refine ⟨by simp, ?_⟩
  intro i v zs h1 h2
  rw [List.getElem?_map] at h1 h2
  cases hr : rows[i]? with
  | none => rw [hr] at h1; simp at h1
  | some r =>
    rw [hr] at h1 h2
    simp at h1 h2
    subst h1 h2
    have hm := List.mem_of_getElem? hr
    exact ⟨(hs r hm).rd h, hl r hm⟩
theorem outRPairs_rd {B : Nat} {w : World} {V : Value} {vs : List Value} {rs : List Rw} (h : Own B w rs) (hm : outRPairs V vs ∈ rs) : Rd w V vs.length vs := (h.1 _ hm).rd
/-- Lists that were kept, and their copies. -/
def keptPairs (V W : Value) (rows was : List (Value × List ElPairs)) : List Rw := rows.map rwPairs ++ (was.map rwPairs ++ [outRPairs V (rows.map (·.1)), outRPairs W (was.map (·.1))])
/-- And the grown ones. -/
def grewPairs (V W G : Value) (rows was gr ol : List (Value × List ElPairs)) : List Rw := gr.map rwPairs ++ (ol.map rwPairs ++ (was.map rwPairs ++ [outRPairs G (gr.map (·.1)), outRPairs V (rows.map (·.1)), outRPairs W (was.map (·.1))]))
structure FitsPairs (rows was : List (Value × List ElPairs)) : Prop where
  same : was.map (·.2) = rows.map (·.2)
  len : rows.length ≤ 250
  few : ∀ r ∈ rows, r.2.length ≤ 100000
theorem FitsPairs.was_few {rows was : List (Value × List ElPairs)} (h : FitsPairs rows was) : ∀ r ∈ was, r.2.length ≤ 100000 := by
  intro r hr
  have h1 : r.2 ∈ was.map (·.2) := List.mem_map_of_mem hr
  rw [h.same] at h1
  obtain ⟨q, hq, he⟩ := List.mem_map.1 h1
  rw [← he]; exact h.few q hq
theorem FitsPairs.was_len {rows was : List (Value × List ElPairs)} (h : FitsPairs rows was) : was.length = rows.length := by have := congrArg List.length h.same; simpa using this
theorem FitsPairs.nil : FitsPairs [] [] := ⟨rfl, by simp, by simp⟩
theorem FitsPairs.add {rows was : List (Value × List ElPairs)} (h : FitsPairs rows was) (v v' : Value) (zs : List ElPairs) (hl : rows.length < 250) (hz : zs.length ≤ 100000) : FitsPairs (rows ++ [(v, zs)]) (was ++ [(v', zs)]) := by
  refine ⟨by simp [h.same], by simp; omega, fun r hr => ?_⟩
  rcases List.mem_append.1 hr with hr | hr
  · exact h.few r hr
  · simp at hr
    subst hr
    exact hz
def MarkedPairs (rows : List (Value × List ElPairs)) : Prop := ∀ (i : Nat) (r : Value × List ElPairs), rows[i]? = some r → r.2 = marksPairs i 0 r.2.length
theorem markAllPairs_fst (rows : List (Value × List ElPairs)) : (markAllPairs rows).map (·.1) = rows.map (·.1) := by
  apply List.ext_getElem
  · simp [markAllPairs]
  · intro i h1 h2; simp [markAllPairs]
theorem markAllPairs_marked (rows : List (Value × List ElPairs)) : MarkedPairs (markAllPairs rows) := by
  intro i r hr
  have hi := (List.getElem?_eq_some_iff.1 hr).1
  have hml := markAllPairs_length rows
  rw [List.getElem?_eq_getElem hi, markAllPairs_get rows i (by omega)] at hr
  have := Option.some.inj hr
  subst this
  simp [marksPairs_length]
theorem markAllPairs_few {rows : List (Value × List ElPairs)} (hn : ∀ r ∈ rows, r.2.length ≤ 100000) : ∀ r ∈ markAllPairs rows, r.2.length ≤ 100000 := by
  intro r hr
  have hml := markAllPairs_length rows
  obtain ⟨i, hi, rfl⟩ := List.getElem_of_mem hr
  rw [markAllPairs_get rows i (by omega)]
  simp only [marksPairs_length]
  exact hn _ (List.getElem_mem _)
section
variable {B b : Nat} {cs : List Value} {V W : Value} {rows was : List (Value × List ElPairs)} {R : List Rw} {w : World}
theorem stillPairs_tot (hown : Own B w (bookR b cs :: (keptPairs V W rows was ++ R))) (hcs : cs[8]? = some V) (hcw : cs[9]? = some W) (hf : FitsPairs rows was) :
    Calls Tryz.prog 31 #[.pointer (some ⟨b, 0, none⟩)] w fun e w' => e = .returned (.bool true) ∧ Below w.heap.size w w' := by
  have hlen := hf.len
  refine stillPairs_any b V W (rows.map (·.1)) (was.map (·.1)) (rows.map (·.2)) w ?_ ?_ (outRPairs_rd hown (by simp [keptPairs])) (outRPairs_rd hown (by simp [keptPairs])) (rdsPairs_own hown (by intro r hr; simp [keptPairs, List.mem_map_of_mem hr]) (fun r hr => by have := hf.few r hr; omega)) ?_ (by simp; omega)
  · exact (hown.1 (bookR b cs) (by simp)).cell rfl 8 _ hcs
  · exact (hown.1 (bookR b cs) (by simp)).cell rfl 9 _ hcw
  · rw [← hf.same]
    exact rdsPairs_own hown (by intro r hr; simp [keptPairs, List.mem_map_of_mem hr]) (fun r hr => by have := hf.was_few r hr; omega)
theorem putPairs_tot (hown : Own B w (bookR b cs :: (keptPairs V W rows was ++ R))) (hcs : cs[8]? = some V) (hf : FitsPairs rows was) (hB : B ≤ w.heap.size) :
    Calls Tryz.prog 47 #[.pointer (some ⟨b, 0, none⟩)] w fun e w' => e = .returned (.tuple #[]) ∧ Own B w' (bookR b cs :: (keptPairs V W (markAllPairs rows) was ++ R)) ∧ Below B w w' := by
  have hlen := hf.len
  refine (putPairs_any B b cs V rows (was.map rwPairs ++ (outRPairs W (was.map (·.1)) :: R)) w hcs (hown.perm (by unfold keptPairs; exact perm_put _ _ _ _ _ _)) (by omega) (fun r hr => by have := hf.few r hr; omega) hB).mono ?_
  rintro e w' ⟨rfl, ho, hb⟩
  refine ⟨rfl, ?_, hb⟩
  unfold keptPairs
  rw [markAllPairs_fst]
  exact ho.perm (perm_put _ _ _ _ _ _).symm
theorem growPairs_tot (hown : Own B w (bookR b cs :: (keptPairs V W rows was ++ R))) (hcs : cs[8]? = some V) (hlen : rows.length ≤ 250) (hn : ∀ r ∈ rows, r.2.length ≤ 100000) (hm : MarkedPairs rows) (hB : B ≤ w.heap.size) :
    Calls Tryz.prog 59 #[.pointer (some ⟨b, 0, none⟩)] w fun e w' => ∃ (G : Value) (gr ol : List (Value × List ElPairs)), e = .returned G ∧ Own B w' (bookR b cs :: (grewPairs V W G rows was gr ol ++ R)) ∧ gr.length = rows.length ∧ (MarkedPairs gr ∧ ∀ r ∈ gr, r.2.length ≤ 200000) ∧ (∀ r ∈ rows, Cov ((gr ++ ol).map rwPairs) (rwPairs r)) ∧ Below B w w' := by
  refine (growPairs_any B b cs V rows (was.map rwPairs ++ (outRPairs W (was.map (·.1)) :: R)) w hcs (hown.perm (by unfold keptPairs; exact perm_put _ _ _ _ _ _)) hm (by omega) hn hB).mono ?_
  rintro e w' ⟨G, gr, ol, rfl, ho, h1, h2, h3, hb⟩
  refine ⟨G, gr, ol, rfl, ?_, h1, ⟨fun i r hr => (h2 i r hr).1, fun r hr => ?_⟩, h3, hb⟩
  · unfold grewPairs
    exact ho.perm (perm_grew _ _ _ _ _ _ _ _)
  · obtain ⟨i, hi⟩ := List.getElem?_of_mem hr
    exact (h2 i r hi).2
theorem markedPairs_new {G : Value} {gr ol : List (Value × List ElPairs)} (hown : Own B w (bookR b cs :: (grewPairs V W G rows was gr ol ++ R))) (hl : gr.length ≤ 250) (hm : MarkedPairs gr) (hf : ∀ r ∈ gr, r.2.length ≤ 200000) :
    Calls Tryz.prog 73 #[G] w fun e w' => e = .returned (.bool true) ∧ Below w.heap.size w w' := by
  refine markedPairs_any G (gr.map (·.1)) (gr.map (·.2)) w (outRPairs_rd hown (by simp [grewPairs])) (rdsPairs_own hown (by intro r hr; simp [grewPairs, List.mem_map_of_mem hr]) hf) ?_ (by simp only [List.length_map]; omega)
  intro i zs hz
  rw [List.getElem?_map] at hz
  cases hr : gr[i]? with
  | none => rw [hr] at hz; simp at hz
  | some r =>
    rw [hr] at hz
    simp at hz
    subst hz
    exact hm i r hr
theorem markedPairs_old {G : Value} {gr ol : List (Value × List ElPairs)} (hown : Own B w (bookR b cs :: (grewPairs V W G rows was gr ol ++ R))) (hl : rows.length ≤ 250) (hm : MarkedPairs rows) (hf : ∀ r ∈ rows, r.2.length ≤ 100000) (hc : ∀ r ∈ rows, Cov ((gr ++ ol).map rwPairs) (rwPairs r)) :
    Calls Tryz.prog 73 #[V] w fun e w' => e = .returned (.bool true) ∧ Below w.heap.size w w' := by
  refine markedPairs_any V (rows.map (·.1)) (rows.map (·.2)) w (outRPairs_rd hown (by simp [grewPairs])) (rdsPairs_cov hown (fun r hr => (hc r hr).mono (by intro x hx; simp only [List.map_append, List.mem_append] at hx; rcases hx with hx | hx <;> simp [grewPairs, hx])) (fun r hr => by have := hf r hr; omega)) ?_ (by simp only [List.length_map]; omega)
  intro i zs hz
  rw [List.getElem?_map] at hz
  cases hr : rows[i]? with
  | none => rw [hr] at hz; simp at hz
  | some r =>
    rw [hr] at hz
    simp at hz
    subst hz
    exact hm i r hr
set_option maxHeartbeats 1000000 in
set_option maxRecDepth 100000 in
theorem fullPairs_tot (v : Value) (hown : Own B w (bookR b cs :: (keptPairs V W rows was ++ R))) (hcs : cs[8]? = some V) (hl : 250 ≤ rows.length) (hu : rows.length ≤ 1000000) :
    Calls Tryz.prog 12 #[.pointer (some ⟨b, 0, none⟩), v] w fun e w' => e = .returned (.tuple #[]) ∧ w = w' := by
  have hcb : w.cell? ⟨b, 8, none⟩ = some V := (hown.1 (bookR b cs) (by simp)).cell rfl 8 _ hcs
  obtain ⟨aV, capV, hV⟩ := slice_form (hown.1 (outRPairs V (rows.map (·.1))) (by simp [keptPairs]))
  have hV2 : V = .slice aV (rows.map (·.1)).length capV := hV
  rw [List.length_map] at hV2
  subst hV2
  have d : decide ((rows.length : Int) < 250) = false := by simp; omega
  clear hown hcs hV
  go_enter Tryz.func12, Tryz.ntmps12
  go_wp2
  go_end0
  exact ⟨rfl, rfl⟩
/-- One more list is kept. -/
theorem addPairs_tot {v : Value} {zs : List ElPairs} (hown : Own B w (rwPairs (v, zs) :: (bookR b cs :: (keptPairs V W rows was ++ R)))) (hcs : cs[8]? = some V) (hcw : cs[9]? = some W) (hf : FitsPairs rows was) (hl : rows.length < 250) (hz : zs.length ≤ 1000000) (hB : B ≤ w.heap.size) :
    Calls Tryz.prog 12 #[.pointer (some ⟨b, 0, none⟩), v] w fun e w' => e = .returned (.tuple #[]) ∧ Below B w w' ∧ ∃ V' W' v', Own B w' (bookR b ((cs.set 8 V').set 9 W') :: (keptPairs V' W' (rows ++ [(v, zs)]) (was ++ [(v', zs)]) ++ R)) := by
  have hwl := hf.was_len
  refine (addPairs_any B b cs V W v (rows.map (·.1)) (was.map (·.1)) zs (rows.map rwPairs ++ (was.map rwPairs ++ R)) w hcs hcw (hown.perm (by unfold keptPairs; exact perm_add _ _ _ _ _ _ _)) (by simp; omega) (by simp; omega) hz hB).mono ?_
  rintro e w' ⟨rfl, hb, V', W', v', ho⟩
  refine ⟨rfl, hb, V', W', v', ?_⟩
  unfold keptPairs
  simp only [List.map_append, List.map_cons, List.map_nil]
  exact ho.perm (perm_added _ _ _ _ _ _ _ _)
end
end Go.Proofs.YtcbailiniigcnaaGreat
