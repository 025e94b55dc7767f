/- The statements' Book: lists of kind Ints that were kept, beside other rows. -/
import Derived.Test.YthaalhigmihijabGreatAnInts
import Derived.Test.YthaalhigmihijabGreatAP
namespace Go.Proofs.YthaalhigmihijabGreat
open Go.RowKit

theorem rdsInts_own {B : Nat} {w : World} {rows : List (Value × List Int)} {rs : List Rw} (h : Own B w rs) (hs : ∀ r ∈ rows, rwInts r ∈ rs) (hl : ∀ r ∈ rows, r.2.length ≤ 200000) : RdsInts w (rows.map (·.1)) (rows.map (·.2)) := by
  refine ⟨by simp, ?_⟩
  intro i v zs h1 h2
  rw [List.getElem?_map] at h1 h2
  cases hr : rows[i]? with
  | none => rw [hr] at h1; simp at h1
  | some r =>
    rw [hr] at h1 h2
    simp at h1 h2
    subst h1 h2
    have hm := List.mem_of_getElem? hr
    exact ⟨(h.1 _ (hs r hm)).rd, hl r hm⟩
theorem rdsInts_cov {B : Nat} {w : World} {rows : List (Value × List Int)} {rs : List Rw} (h : Own B w rs) (hs : ∀ r ∈ rows, Cov rs (rwInts r)) (hl : ∀ r ∈ rows, r.2.length ≤ 200000) : RdsInts w (rows.map (·.1)) (rows.map (·.2)) := by
  refine ⟨by simp, ?_⟩
  intro i v zs h1 h2
  rw [List.getElem?_map] at h1 h2
  cases hr : rows[i]? with
  | none => rw [hr] at h1; simp at h1
  | some r =>
    rw [hr] at h1 h2
    simp at h1 h2
    subst h1 h2
    have hm := List.mem_of_getElem? hr
    exact ⟨(hs r hm).rd h, hl r hm⟩
theorem outRInts_rd {B : Nat} {w : World} {V : Value} {vs : List Value} {rs : List Rw} (h : Own B w rs) (hm : outRInts V vs ∈ rs) : Rd w V vs.length vs := (h.1 _ hm).rd
/-- Lists that were kept, and their copies. -/
def keptInts (V W : Value) (rows was : List (Value × List Int)) : List Rw := rows.map rwInts ++ (was.map rwInts ++ [outRInts V (rows.map (·.1)), outRInts W (was.map (·.1))])
/-- And the grown ones. -/
def grewInts (V W G : Value) (rows was gr ol : List (Value × List Int)) : List Rw := gr.map rwInts ++ (ol.map rwInts ++ (was.map rwInts ++ [outRInts G (gr.map (·.1)), outRInts V (rows.map (·.1)), outRInts W (was.map (·.1))]))
structure FitsInts (rows was : List (Value × List Int)) : Prop where
  same : was.map (·.2) = rows.map (·.2)
  len : rows.length ≤ 250
  few : ∀ r ∈ rows, r.2.length ≤ 100000
theorem FitsInts.was_few {rows was : List (Value × List Int)} (h : FitsInts rows was) : ∀ r ∈ was, r.2.length ≤ 100000 := by
  intro r hr
  have h1 : r.2 ∈ was.map (·.2) := List.mem_map_of_mem hr
  rw [h.same] at h1
  obtain ⟨q, hq, he⟩ := List.mem_map.1 h1
  rw [← he]; exact h.few q hq
theorem FitsInts.was_len {rows was : List (Value × List Int)} (h : FitsInts rows was) : was.length = rows.length := by have := congrArg List.length h.same; simpa using this
theorem FitsInts.nil : FitsInts [] [] := ⟨rfl, by simp, by simp⟩
theorem FitsInts.add {rows was : List (Value × List Int)} (h : FitsInts rows was) (v v' : Value) (zs : List Int) (hl : rows.length < 250) (hz : zs.length ≤ 100000) : FitsInts (rows ++ [(v, zs)]) (was ++ [(v', zs)]) := by
  refine ⟨by simp [h.same], by simp; omega, fun r hr => ?_⟩
  rcases List.mem_append.1 hr with hr | hr
  · exact h.few r hr
  · simp at hr
    subst hr
    exact hz
def MarkedInts (rows : List (Value × List Int)) : Prop := ∀ (i : Nat) (r : Value × List Int), rows[i]? = some r → r.2 = marksInts i 0 r.2.length
theorem markAllInts_fst (rows : List (Value × List Int)) : (markAllInts rows).map (·.1) = rows.map (·.1) := by
  apply List.ext_getElem
  · simp [markAllInts]
  · intro i h1 h2; simp [markAllInts]
theorem markAllInts_marked (rows : List (Value × List Int)) : MarkedInts (markAllInts rows) := by
  intro i r hr
  have hi := (List.getElem?_eq_some_iff.1 hr).1
  have hml := markAllInts_length rows
  rw [List.getElem?_eq_getElem hi, markAllInts_get rows i (by omega)] at hr
  have := Option.some.inj hr
  subst this
  simp [marksInts_length]
theorem markAllInts_few {rows : List (Value × List Int)} (hn : ∀ r ∈ rows, r.2.length ≤ 100000) : ∀ r ∈ markAllInts rows, r.2.length ≤ 100000 := by
  intro r hr
  have hml := markAllInts_length rows
  obtain ⟨i, hi, rfl⟩ := List.getElem_of_mem hr
  rw [markAllInts_get rows i (by omega)]
  simp only [marksInts_length]
  exact hn _ (List.getElem_mem _)
section
variable {B b : Nat} {cs : List Value} {V W : Value} {rows was : List (Value × List Int)} {R : List Rw} {w : World}
theorem stillInts_tot (hown : Own B w (bookR b cs :: (keptInts V W rows was ++ R))) (hcs : cs[2]? = some V) (hcw : cs[3]? = some W) (hf : FitsInts rows was) :
    Calls Tryz.prog 39 #[.pointer (some ⟨b, 0, none⟩)] w fun e w' => e = .returned (.bool true) ∧ Below w.heap.size w w' := by
  have hlen := hf.len
  refine stillInts_any b V W (rows.map (·.1)) (was.map (·.1)) (rows.map (·.2)) w ?_ ?_ (outRInts_rd hown (by simp [keptInts])) (outRInts_rd hown (by simp [keptInts])) (rdsInts_own hown (by intro r hr; simp [keptInts, List.mem_map_of_mem hr]) (fun r hr => by have := hf.few r hr; omega)) ?_ (by simp; omega)
  · exact (hown.1 (bookR b cs) (by simp)).cell rfl 2 _ hcs
  · exact (hown.1 (bookR b cs) (by simp)).cell rfl 3 _ hcw
  · rw [← hf.same]
    exact rdsInts_own hown (by intro r hr; simp [keptInts, List.mem_map_of_mem hr]) (fun r hr => by have := hf.was_few r hr; omega)
theorem putInts_tot (hown : Own B w (bookR b cs :: (keptInts V W rows was ++ R))) (hcs : cs[2]? = some V) (hf : FitsInts rows was) (hB : B ≤ w.heap.size) :
    Calls Tryz.prog 55 #[.pointer (some ⟨b, 0, none⟩)] w fun e w' => e = .returned (.tuple #[]) ∧ Own B w' (bookR b cs :: (keptInts V W (markAllInts rows) was ++ R)) ∧ Below B w w' := by
  have hlen := hf.len
  refine (putInts_any B b cs V rows (was.map rwInts ++ (outRInts W (was.map (·.1)) :: R)) w hcs (hown.perm (by unfold keptInts; exact perm_put _ _ _ _ _ _)) (by omega) (fun r hr => by have := hf.few r hr; omega) hB).mono ?_
  rintro e w' ⟨rfl, ho, hb⟩
  refine ⟨rfl, ?_, hb⟩
  unfold keptInts
  rw [markAllInts_fst]
  exact ho.perm (perm_put _ _ _ _ _ _).symm
theorem growInts_tot (hown : Own B w (bookR b cs :: (keptInts V W rows was ++ R))) (hcs : cs[2]? = some V) (hlen : rows.length ≤ 250) (hn : ∀ r ∈ rows, r.2.length ≤ 100000) (hm : MarkedInts rows) (hB : B ≤ w.heap.size) :
    Calls Tryz.prog 67 #[.pointer (some ⟨b, 0, none⟩)] w fun e w' => ∃ (G : Value) (gr ol : List (Value × List Int)), e = .returned G ∧ Own B w' (bookR b cs :: (grewInts V W G rows was gr ol ++ R)) ∧ gr.length = rows.length ∧ (MarkedInts gr ∧ ∀ r ∈ gr, r.2.length ≤ 200000) ∧ (∀ r ∈ rows, Cov ((gr ++ ol).map rwInts) (rwInts r)) ∧ Below B w w' := by
  refine (growInts_any B b cs V rows (was.map rwInts ++ (outRInts W (was.map (·.1)) :: R)) w hcs (hown.perm (by unfold keptInts; exact perm_put _ _ _ _ _ _)) hm (by omega) hn hB).mono ?_
  rintro e w' ⟨G, gr, ol, rfl, ho, h1, h2, h3, hb⟩
  refine ⟨G, gr, ol, rfl, ?_, h1, ⟨fun i r hr => (h2 i r hr).1, fun r hr => ?_⟩, h3, hb⟩
  · unfold grewInts
    exact ho.perm (perm_grew _ _ _ _ _ _ _ _)
  · obtain ⟨i, hi⟩ := List.getElem?_of_mem hr
    exact (h2 i r hi).2
theorem markedInts_new {G : Value} {gr ol : List (Value × List Int)} (hown : Own B w (bookR b cs :: (grewInts V W G rows was gr ol ++ R))) (hl : gr.length ≤ 250) (hm : MarkedInts gr) (hf : ∀ r ∈ gr, r.2.length ≤ 200000) :
    Calls Tryz.prog 81 #[G] w fun e w' => e = .returned (.bool true) ∧ Below w.heap.size w w' := by
  refine markedInts_any G (gr.map (·.1)) (gr.map (·.2)) w (outRInts_rd hown (by simp [grewInts])) (rdsInts_own hown (by intro r hr; simp [grewInts, List.mem_map_of_mem hr]) hf) ?_ (by simp only [List.length_map]; omega)
  intro i zs hz
  rw [List.getElem?_map] at hz
  cases hr : gr[i]? with
  | none => rw [hr] at hz; simp at hz
  | some r =>
    rw [hr] at hz
    simp at hz
    subst hz
    exact hm i r hr
theorem markedInts_old {G : Value} {gr ol : List (Value × List Int)} (hown : Own B w (bookR b cs :: (grewInts V W G rows was gr ol ++ R))) (hl : rows.length ≤ 250) (hm : MarkedInts rows) (hf : ∀ r ∈ rows, r.2.length ≤ 100000) (hc : ∀ r ∈ rows, Cov ((gr ++ ol).map rwInts) (rwInts r)) :
    Calls Tryz.prog 81 #[V] w fun e w' => e = .returned (.bool true) ∧ Below w.heap.size w w' := by
  refine markedInts_any V (rows.map (·.1)) (rows.map (·.2)) w (outRInts_rd hown (by simp [grewInts])) (rdsInts_cov hown (fun r hr => (hc r hr).mono (by intro x hx; simp only [List.map_append, List.mem_append] at hx; rcases hx with hx | hx <;> simp [grewInts, hx])) (fun r hr => by have := hf r hr; omega)) ?_ (by simp only [List.length_map]; omega)
  intro i zs hz
  rw [List.getElem?_map] at hz
  cases hr : rows[i]? with
  | none => rw [hr] at hz; simp at hz
  | some r =>
    rw [hr] at hz
    simp at hz
    subst hz
    exact hm i r hr
end
end Go.Proofs.YthaalhigmihijabGreat
