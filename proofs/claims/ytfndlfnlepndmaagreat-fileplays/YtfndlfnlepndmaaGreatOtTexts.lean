/- The statements' Book: lists of kind Texts that were kept, beside other rows. -/
import Derived.Test.YtfndlfnlepndmaaGreatOnTexts
import Derived.Test.YtfndlfnlepndmaaGreatOP
namespace Go.Proofs.YtfndlfnlepndmaaGreat
open Go.RowKit

theorem rdsTexts_own {B : Nat} {w : World} {rows : List (Value × List ByteArray)} {rs : List Rw} (h : Own B w rs) (hs : ∀ r ∈ rows, rwTexts r ∈ rs) (hl : ∀ r ∈ rows, r.2.length ≤ 200000) : RdsTexts w (rows.map (·.1)) (rows.map (·.2)) := by
  refine ⟨by simp, ?_⟩
  intro i v zs h1 h2
  rw [List.getElem?_map] at h1 h2
  cases hr : rows[i]? with
  | none => rw [hr] at h1; simp at h1
  | some r =>
    rw [hr] at h1 h2
    simp at h1 h2
    subst h1 h2
    have hm := List.mem_of_getElem? hr
    exact ⟨(h.1 _ (hs r hm)).rd, hl r hm⟩
theorem rdsTexts_cov {B : Nat} {w : World} {rows : List (Value × List ByteArray)} {rs : List Rw} (h : Own B w rs) (hs : ∀ r ∈ rows, Cov rs (rwTexts r)) (hl : ∀ r ∈ rows, r.2.length ≤ 200000) : RdsTexts w (rows.map (·.1)) (rows.map (·.2)) := by
  refine ⟨by simp, ?_⟩
  intro i v zs h1 h2
  rw [List.getElem?_map] at h1 h2
  cases hr : rows[i]? with
  | none => rw [hr] at h1; simp at h1
  | some r =>
    rw [hr] at h1 h2
    simp at h1 h2
    subst h1 h2
    have hm := List.mem_of_getElem? hr
    exact ⟨(hs r hm).rd h, hl r hm⟩
theorem outRTexts_rd {B : Nat} {w : World} {V : Value} {vs : List Value} {rs : List Rw} (h : Own B w rs) (hm : outRTexts V vs ∈ rs) : Rd w V vs.length vs := (h.1 _ hm).rd
/-- Lists that were kept, and their copies. -/
def keptTexts (V W : Value) (rows was : List (Value × List ByteArray)) : List Rw := rows.map rwTexts ++ (was.map rwTexts ++ [outRTexts V (rows.map (·.1)), outRTexts W (was.map (·.1))])
/-- And the grown ones. -/
def grewTexts (V W G : Value) (rows was gr ol : List (Value × List ByteArray)) : List Rw := gr.map rwTexts ++ (ol.map rwTexts ++ (was.map rwTexts ++ [outRTexts G (gr.map (·.1)), outRTexts V (rows.map (·.1)), outRTexts W (was.map (·.1))]))
structure FitsTexts (rows was : List (Value × List ByteArray)) : Prop where
  same : was.map (·.2) = rows.map (·.2)
  len : rows.length ≤ 250
  few : ∀ r ∈ rows, r.2.length ≤ 100000
theorem FitsTexts.was_few {rows was : List (Value × List ByteArray)} (h : FitsTexts rows was) : ∀ r ∈ was, r.2.length ≤ 100000 := by
  intro r hr
  have h1 : r.2 ∈ was.map (·.2) := List.mem_map_of_mem hr
  rw [h.same] at h1
  obtain ⟨q, hq, he⟩ := List.mem_map.1 h1
  rw [← he]; exact h.few q hq
theorem FitsTexts.was_len {rows was : List (Value × List ByteArray)} (h : FitsTexts rows was) : was.length = rows.length := by have := congrArg List.length h.same; simpa using this
theorem FitsTexts.nil : FitsTexts [] [] := ⟨rfl, by simp, by simp⟩
theorem FitsTexts.add {rows was : List (Value × List ByteArray)} (h : FitsTexts rows was) (v v' : Value) (zs : List ByteArray) (hl : rows.length < 250) (hz : zs.length ≤ 100000) : FitsTexts (rows ++ [(v, zs)]) (was ++ [(v', zs)]) := by
  refine ⟨by simp [h.same], by simp; omega, fun r hr => ?_⟩
  rcases List.mem_append.1 hr with hr | hr
  · exact h.few r hr
  · simp at hr
    subst hr
    exact hz
def MarkedTexts (rows : List (Value × List ByteArray)) : Prop := ∀ (i : Nat) (r : Value × List ByteArray), rows[i]? = some r → r.2 = marksTexts i 0 r.2.length
theorem markAllTexts_fst (rows : List (Value × List ByteArray)) : (markAllTexts rows).map (·.1) = rows.map (·.1) := by
  apply List.ext_getElem
  · simp [markAllTexts]
  · intro i h1 h2; simp [markAllTexts]
theorem markAllTexts_marked (rows : List (Value × List ByteArray)) : MarkedTexts (markAllTexts rows) := by
  intro i r hr
  have hi := (List.getElem?_eq_some_iff.1 hr).1
  have hml := markAllTexts_length rows
  rw [List.getElem?_eq_getElem hi, markAllTexts_get rows i (by omega)] at hr
  have := Option.some.inj hr
  subst this
  simp [marksTexts_length]
theorem markAllTexts_few {rows : List (Value × List ByteArray)} (hn : ∀ r ∈ rows, r.2.length ≤ 100000) : ∀ r ∈ markAllTexts rows, r.2.length ≤ 100000 := by
  intro r hr
  have hml := markAllTexts_length rows
  obtain ⟨i, hi, rfl⟩ := List.getElem_of_mem hr
  rw [markAllTexts_get rows i (by omega)]
  simp only [marksTexts_length]
  exact hn _ (List.getElem_mem _)
section
variable {B b : Nat} {cs : List Value} {V W : Value} {rows was : List (Value × List ByteArray)} {R : List Rw} {w : World}
theorem stillTexts_tot (hown : Own B w (bookR b cs :: (keptTexts V W rows was ++ R))) (hcs : cs[0]? = some V) (hcw : cs[1]? = some W) (hf : FitsTexts rows was) :
    Calls Tryz.prog 57 #[.pointer (some ⟨b, 0, none⟩)] w fun e w' => e = .returned (.bool true) ∧ Below w.heap.size w w' := by
  have hlen := hf.len
  refine stillTexts_any b V W (rows.map (·.1)) (was.map (·.1)) (rows.map (·.2)) w ?_ ?_ (outRTexts_rd hown (by simp [keptTexts])) (outRTexts_rd hown (by simp [keptTexts])) (rdsTexts_own hown (by intro r hr; simp [keptTexts, List.mem_map_of_mem hr]) (fun r hr => by have := hf.few r hr; omega)) ?_ (by simp; omega)
  · exact (hown.1 (bookR b cs) (by simp)).cell rfl 0 _ hcs
  · exact (hown.1 (bookR b cs) (by simp)).cell rfl 1 _ hcw
  · rw [← hf.same]
    exact rdsTexts_own hown (by intro r hr; simp [keptTexts, List.mem_map_of_mem hr]) (fun r hr => by have := hf.was_few r hr; omega)
theorem putTexts_tot (hown : Own B w (bookR b cs :: (keptTexts V W rows was ++ R))) (hcs : cs[0]? = some V) (hf : FitsTexts rows was) (hB : B ≤ w.heap.size) :
    Calls Tryz.prog 73 #[.pointer (some ⟨b, 0, none⟩)] w fun e w' => e = .returned (.tuple #[]) ∧ Own B w' (bookR b cs :: (keptTexts V W (markAllTexts rows) was ++ R)) ∧ Below B w w' := by
  have hlen := hf.len
  refine (putTexts_any B b cs V rows (was.map rwTexts ++ (outRTexts W (was.map (·.1)) :: R)) w hcs (hown.perm (by unfold keptTexts; exact perm_put _ _ _ _ _ _)) (by omega) (fun r hr => by have := hf.few r hr; omega) hB).mono ?_
  rintro e w' ⟨rfl, ho, hb⟩
  refine ⟨rfl, ?_, hb⟩
  unfold keptTexts
  rw [markAllTexts_fst]
  exact ho.perm (perm_put _ _ _ _ _ _).symm
theorem growTexts_tot (hown : Own B w (bookR b cs :: (keptTexts V W rows was ++ R))) (hcs : cs[0]? = some V) (hlen : rows.length ≤ 250) (hn : ∀ r ∈ rows, r.2.length ≤ 100000) (hm : MarkedTexts rows) (hB : B ≤ w.heap.size) :
    Calls Tryz.prog 85 #[.pointer (some ⟨b, 0, none⟩)] w fun e w' => ∃ (G : Value) (gr ol : List (Value × List ByteArray)), e = .returned G ∧ Own B w' (bookR b cs :: (grewTexts V W G rows was gr ol ++ R)) ∧ gr.length = rows.length ∧ (MarkedTexts gr ∧ ∀ r ∈ gr, r.2.length ≤ 200000) ∧ (∀ r ∈ rows, Cov ((gr ++ ol).map rwTexts) (rwTexts r)) ∧ Below B w w' := by
  refine (growTexts_any B b cs V rows (was.map rwTexts ++ (outRTexts W (was.map (·.1)) :: R)) w hcs (hown.perm (by unfold keptTexts; exact perm_put _ _ _ _ _ _)) hm (by omega) hn hB).mono ?_
  rintro e w' ⟨G, gr, ol, rfl, ho, h1, h2, h3, hb⟩
  refine ⟨G, gr, ol, rfl, ?_, h1, ⟨fun i r hr => (h2 i r hr).1, fun r hr => ?_⟩, h3, hb⟩
  · unfold grewTexts
    exact ho.perm (perm_grew _ _ _ _ _ _ _ _)
  · obtain ⟨i, hi⟩ := List.getElem?_of_mem hr
    exact (h2 i r hi).2
theorem markedTexts_new {G : Value} {gr ol : List (Value × List ByteArray)} (hown : Own B w (bookR b cs :: (grewTexts V W G rows was gr ol ++ R))) (hl : gr.length ≤ 250) (hm : MarkedTexts gr) (hf : ∀ r ∈ gr, r.2.length ≤ 200000) :
    Calls Tryz.prog 99 #[G] w fun e w' => e = .returned (.bool true) ∧ Below w.heap.size w w' := by
  refine markedTexts_any G (gr.map (·.1)) (gr.map (·.2)) w (outRTexts_rd hown (by simp [grewTexts])) (rdsTexts_own hown (by intro r hr; simp [grewTexts, List.mem_map_of_mem hr]) hf) ?_ (by simp only [List.length_map]; omega)
  intro i zs hz
  rw [List.getElem?_map] at hz
  cases hr : gr[i]? with
  | none => rw [hr] at hz; simp at hz
  | some r =>
    rw [hr] at hz
    simp at hz
    subst hz
    exact hm i r hr
theorem markedTexts_old {G : Value} {gr ol : List (Value × List ByteArray)} (hown : Own B w (bookR b cs :: (grewTexts V W G rows was gr ol ++ R))) (hl : rows.length ≤ 250) (hm : MarkedTexts rows) (hf : ∀ r ∈ rows, r.2.length ≤ 100000) (hc : ∀ r ∈ rows, Cov ((gr ++ ol).map rwTexts) (rwTexts r)) :
    Calls Tryz.prog 99 #[V] w fun e w' => e = .returned (.bool true) ∧ Below w.heap.size w w' := by
  refine markedTexts_any V (rows.map (·.1)) (rows.map (·.2)) w (outRTexts_rd hown (by simp [grewTexts])) (rdsTexts_cov hown (fun r hr => (hc r hr).mono (by intro x hx; simp only [List.map_append, List.mem_append] at hx; rcases hx with hx | hx <;> simp [grewTexts, hx])) (fun r hr => by have := hf r hr; omega)) ?_ (by simp only [List.length_map]; omega)
  intro i zs hz
  rw [List.getElem?_map] at hz
  cases hr : rows[i]? with
  | none => rw [hr] at hz; simp at hz
  | some r =>
    rw [hr] at hz
    simp at hz
    subst hz
    exact hm i r hr
set_option maxHeartbeats 1000000 in
set_option maxRecDepth 100000 in
theorem fullTexts_tot (v : Value) (hown : Own B w (bookR b cs :: (keptTexts V W rows was ++ R))) (hcs : cs[0]? = some V) (hl : 250 ≤ rows.length) (hu : rows.length ≤ 1000000) :
    Calls Tryz.prog 14 #[.pointer (some ⟨b, 0, none⟩), v] w fun e w' => e = .returned (.tuple #[]) ∧ w = w' := by
  have hcb : w.cell? ⟨b, 0, none⟩ = some V := (hown.1 (bookR b cs) (by simp)).cell rfl 0 _ hcs
  obtain ⟨aV, capV, hV⟩ := slice_form (hown.1 (outRTexts V (rows.map (·.1))) (by simp [keptTexts]))
  have hV2 : V = .slice aV (rows.map (·.1)).length capV := hV
  rw [List.length_map] at hV2
  subst hV2
  have d : decide ((rows.length : Int) < 250) = false := by simp; omega
  clear hown hcs hV
  go_enter Tryz.func14, Tryz.ntmps14
  go_wp2
  go_end0
  exact ⟨rfl, rfl⟩
/-- One more list is kept. -/
theorem addTexts_tot {v : Value} {zs : List ByteArray} (hown : Own B w (rwTexts (v, zs) :: (bookR b cs :: (keptTexts V W rows was ++ R)))) (hcs : cs[0]? = some V) (hcw : cs[1]? = some W) (hf : FitsTexts rows was) (hl : rows.length < 250) (hz : zs.length ≤ 1000000) (hB : B ≤ w.heap.size) :
    Calls Tryz.prog 14 #[.pointer (some ⟨b, 0, none⟩), v] w fun e w' => e = .returned (.tuple #[]) ∧ Below B w w' ∧ ∃ V' W' v', Own B w' (bookR b ((cs.set 0 V').set 1 W') :: (keptTexts V' W' (rows ++ [(v, zs)]) (was ++ [(v', zs)]) ++ R)) := by
  have hwl := hf.was_len
  refine (addTexts_any B b cs V W v (rows.map (·.1)) (was.map (·.1)) zs (rows.map rwTexts ++ (was.map rwTexts ++ R)) w hcs hcw (hown.perm (by unfold keptTexts; exact perm_add _ _ _ _ _ _ _)) (by simp; omega) (by simp; omega) hz hB).mono ?_
  rintro e w' ⟨rfl, hb, V', W', v', ho⟩
  refine ⟨rfl, hb, V', W', v', ?_⟩
  unfold keptTexts
  simp only [List.map_append, List.map_cons, List.map_nil]
  exact ho.perm (perm_added _ _ _ _ _ _ _ _)
end
end Go.Proofs.YtfndlfnlepndmaaGreat
