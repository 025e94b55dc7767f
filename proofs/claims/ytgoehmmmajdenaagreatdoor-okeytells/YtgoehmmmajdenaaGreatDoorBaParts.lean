/- The statements' Book where lists of kind Parts alone were kept, each as it was: Apart returns true. -/
import Derived.Test.YtgoehmmmajdenaaGreatDoorBnParts
import Derived.Test.YtgoehmmmajdenaaGreatDoorBeParts
namespace Go.Proofs.YtgoehmmmajdenaaGreatDoor
open Go.RowKit

/-- The Book's cells. -/
def csOf (V W : Value) : List Value := [.slice none 0 0, .slice none 0 0, .slice none 0 0, .slice none 0 0, .slice none 0 0, .slice none 0 0, .slice none 0 0, .slice none 0 0, .slice none 0 0, .slice none 0 0, .slice none 0 0, .slice none 0 0, .slice none 0 0, .slice none 0 0, .slice none 0 0, .slice none 0 0, .slice none 0 0, .slice none 0 0, .slice none 0 0, .slice none 0 0, V, W, .slice none 0 0, .slice none 0 0, .slice none 0 0, .slice none 0 0, .slice none 0 0, .slice none 0 0]
def isNil (j : Nat) : Bool := decide (j < 28) && !(decide (j = 20) || decide (j = 21))
theorem csOf_nil (V W : Value) (j : Nat) (h : isNil j = true) : (csOf V W)[j]? = some (.slice none 0 0) := by
  have h1 : j < 28 := by simp [isNil] at h; exact h.1
  have h2 : j ≠ 20 ∧ j ≠ 21 := by simp [isNil] at h; exact h.2
  unfold csOf
  match j, h1, h2 with
  | 0, _, h => rfl
  | 1, _, h => rfl
  | 2, _, h => rfl
  | 3, _, h => rfl
  | 4, _, h => rfl
  | 5, _, h => rfl
  | 6, _, h => rfl
  | 7, _, h => rfl
  | 8, _, h => rfl
  | 9, _, h => rfl
  | 10, _, h => rfl
  | 11, _, h => rfl
  | 12, _, h => rfl
  | 13, _, h => rfl
  | 14, _, h => rfl
  | 15, _, h => rfl
  | 16, _, h => rfl
  | 17, _, h => rfl
  | 18, _, h => rfl
  | 19, _, h => rfl
  | 20, _, h => exact absurd rfl h.1
  | 21, _, h => exact absurd rfl h.2
  | 22, _, h => rfl
  | 23, _, h => rfl
  | 24, _, h => rfl
  | 25, _, h => rfl
  | 26, _, h => rfl
  | 27, _, h => rfl
theorem rdsParts_own {B : Nat} {w : World} {rows : List (Value × List ElParts)} {rs : List Rw} (h : Own B w rs) (hs : ∀ r ∈ rows, rwParts r ∈ rs) (hl : ∀ r ∈ rows, r.2.length ≤ 200000) : RdsParts w (rows.map (·.1)) (rows.map (·.2)) := by
  refine ⟨by simp, ?_⟩
  intro i v zs h1 h2
  rw [List.getElem?_map] at h1 h2
  cases hr : rows[i]? with
  | none => rw [hr] at h1; simp at h1
  | some r =>
    rw [hr] at h1 h2
    simp at h1 h2
    subst h1 h2
    have hm := List.mem_of_getElem? hr
    exact ⟨(h.1 _ (hs r hm)).rd, hl r hm⟩
theorem rdsParts_cov {B : Nat} {w : World} {rows : List (Value × List ElParts)} {rs : List Rw} (h : Own B w rs) (hs : ∀ r ∈ rows, Cov rs (rwParts r)) (hl : ∀ r ∈ rows, r.2.length ≤ 200000) : RdsParts w (rows.map (·.1)) (rows.map (·.2)) := by
  refine ⟨by simp, ?_⟩
  intro i v zs h1 h2
  rw [List.getElem?_map] at h1 h2
  cases hr : rows[i]? with
  | none => rw [hr] at h1; simp at h1
  | some r =>
    rw [hr] at h1 h2
    simp at h1 h2
    subst h1 h2
    have hm := List.mem_of_getElem? hr
    exact ⟨(hs r hm).rd h, hl r hm⟩
theorem outRParts_rd {B : Nat} {w : World} {V : Value} {vs : List Value} {rs : List Rw} (h : Own B w rs) (hm : outRParts V vs ∈ rs) : Rd w V vs.length vs := (h.1 _ hm).rd

set_option maxHeartbeats 8000000 in
set_option maxRecDepth 100000 in
theorem apartParts_any (B b : Nat) (V W : Value) (rows was : List (Value × List ElParts)) (rest : List Rw) (w : World)
    (hown : Own B w (rows.map rwParts ++ (was.map rwParts ++ (bookR b (csOf V W) :: outRParts V (rows.map (·.1)) :: outRParts W (was.map (·.1)) :: rest)))) (hsame : was.map (·.2) = rows.map (·.2)) (hlen : rows.length ≤ 250) (hn : ∀ r ∈ rows, r.2.length ≤ 100000) (hB : B ≤ w.heap.size) :
    Calls Tryz.prog 23 #[.pointer (some ⟨b, 0, none⟩)] w fun e w' => e = .returned (.bool true) ∧ Below B w w' := by
  have hwl : was.length = rows.length := by have := congrArg List.length hsame; simpa using this
  have hnw : ∀ r ∈ was, r.2.length ≤ 100000 := by
    intro r hr
    have h1 : r.2 ∈ was.map (·.2) := List.mem_map_of_mem hr
    rw [hsame] at h1
    obtain ⟨q, hq, he⟩ := List.mem_map.1 h1
    rw [← he]; exact hn q hq
  have hst : Hid (Calls Tryz.prog 47 #[.pointer (some ⟨b, 0, none⟩)] w fun e w' => e = .returned (.bool true) ∧ Below w.heap.size w w') := by
    refine stillParts_any b V W (rows.map (·.1)) (was.map (·.1)) (rows.map (·.2)) w ?_ ?_ (outRParts_rd hown (by simp)) (outRParts_rd hown (by simp)) (rdsParts_own hown (by intro r hr; simp [List.mem_map_of_mem hr]) (fun r hr => by have := hn r hr; omega)) ?_ (by simp; omega)
    · exact (hown.1 (bookR b (csOf V W)) (by simp)).cell rfl 20 _ rfl
    · exact (hown.1 (bookR b (csOf V W)) (by simp)).cell rfl 21 _ rfl
    · rw [← hsame]
      exact rdsParts_own hown (by intro r hr; simp [List.mem_map_of_mem hr]) (fun r hr => by have := hnw r hr; omega)
  have hnil : ∀ (w' : World) (rs : List Rw), Own B w' rs → bookR b (csOf V W) ∈ rs → Hid (∀ j, isNil j = true → w'.cell? ⟨b, j, none⟩ = some (.slice none 0 0)) := by
    intro w' rs h hm j hj
    exact (h.1 _ hm).cell rfl j _ (csOf_nil V W j hj)
  have HNIL := Lib.hid hnil
  have HOWN := Lib.hid hown
  have hput := Lib.hid (fun (w' : World) (h : Own B w' (rows.map rwParts ++ (bookR b (csOf V W) :: outRParts V (rows.map (·.1)) :: (was.map rwParts ++ (outRParts W (was.map (·.1)) :: rest))))) hB' => putParts_any B b (csOf V W) V rows (was.map rwParts ++ (outRParts W (was.map (·.1)) :: rest)) w' rfl h (by omega) (fun r hr => by have := hn r hr; omega) hB')
  have hmv : (markAllParts rows).map (·.1) = rows.map (·.1) := by
    apply List.ext_getElem
    · simp [markAllParts]
    · intro i h1 h2; simp [markAllParts]
  have hml : (markAllParts rows).length = rows.length := markAllParts_length rows
  have hmm : ∀ (i : Nat) (r : Value × List ElParts), (markAllParts rows)[i]? = some r → r.2 = marksParts i 0 r.2.length := by
    intro i r hr
    have hi := (List.getElem?_eq_some_iff.1 hr).1
    rw [List.getElem?_eq_getElem hi, markAllParts_get rows i (by omega)] at hr
    have := Option.some.inj hr
    subst this
    simp [marksParts_length]
  have hmn : ∀ r ∈ markAllParts rows, r.2.length ≤ 100000 := by
    intro r hr
    obtain ⟨i, hi, rfl⟩ := List.getElem_of_mem hr
    rw [markAllParts_get rows i (by omega)]
    simp only [marksParts_length]
    exact hn _ (List.getElem_mem _)
  have hgrow := Lib.hid (fun (w' : World) (h : Own B w' ((markAllParts rows).map rwParts ++ (bookR b (csOf V W) :: outRParts V ((markAllParts rows).map (·.1)) :: (was.map rwParts ++ (outRParts W (was.map (·.1)) :: rest))))) hB' => growParts_any B b (csOf V W) V (markAllParts rows) (was.map rwParts ++ (outRParts W (was.map (·.1)) :: rest)) w' rfl h hmm (by omega) hmn hB')
  have HMN := Lib.hid hmn
  have HMM := Lib.hid hmm
  have HMV := Lib.hid hmv
  clear hnil hown hmv hml hmm hmn hnw hn hsame
  have hnw0 := HNIL.out w _ HOWN.out (by simp)
  go_enter Tryz.func23, Tryz.ntmps23
  go_wp2_with (first | (go_at_call 47; refine hst.out.mono ?_; rintro e w1 ⟨rfl, hb1⟩; have ho1 := HOWN.out.below hb1; have hn1 := HNIL.out w1 _ ho1 (by simp)) | (go_at_call 37; refine (stillTexts_none b _ (hnw0.out 0 (by decide))).mono ?_; rintro e w' ⟨rfl, rfl⟩) | (go_at_call 38; refine (stillInts_none b _ (hnw0.out 2 (by decide))).mono ?_; rintro e w' ⟨rfl, rfl⟩) | (go_at_call 39; refine (stillNums_none b _ (hnw0.out 4 (by decide))).mono ?_; rintro e w' ⟨rfl, rfl⟩) | (go_at_call 40; refine (stillEntries_none b _ (hnw0.out 6 (by decide))).mono ?_; rintro e w' ⟨rfl, rfl⟩) | (go_at_call 41; refine (stillPairs_none b _ (hnw0.out 8 (by decide))).mono ?_; rintro e w' ⟨rfl, rfl⟩) | (go_at_call 42; refine (stillWrites_none b _ (hnw0.out 10 (by decide))).mono ?_; rintro e w' ⟨rfl, rfl⟩) | (go_at_call 43; refine (stillTables_none b _ (hnw0.out 12 (by decide))).mono ?_; rintro e w' ⟨rfl, rfl⟩) | (go_at_call 44; refine (stillDots_none b _ (hnw0.out 14 (by decide))).mono ?_; rintro e w' ⟨rfl, rfl⟩) | (go_at_call 45; refine (stillSpans_none b _ (hnw0.out 16 (by decide))).mono ?_; rintro e w' ⟨rfl, rfl⟩) | (go_at_call 46; refine (stillItems_none b _ (hnw0.out 18 (by decide))).mono ?_; rintro e w' ⟨rfl, rfl⟩) | fail)
  go_wp2_with (first | (go_at_call 37; refine (stillTexts_none b _ (hn1.out 0 (by decide))).mono ?_; rintro e w' ⟨rfl, rfl⟩) | (go_at_call 38; refine (stillInts_none b _ (hn1.out 2 (by decide))).mono ?_; rintro e w' ⟨rfl, rfl⟩) | (go_at_call 39; refine (stillNums_none b _ (hn1.out 4 (by decide))).mono ?_; rintro e w' ⟨rfl, rfl⟩) | (go_at_call 40; refine (stillEntries_none b _ (hn1.out 6 (by decide))).mono ?_; rintro e w' ⟨rfl, rfl⟩) | (go_at_call 41; refine (stillPairs_none b _ (hn1.out 8 (by decide))).mono ?_; rintro e w' ⟨rfl, rfl⟩) | (go_at_call 42; refine (stillWrites_none b _ (hn1.out 10 (by decide))).mono ?_; rintro e w' ⟨rfl, rfl⟩) | (go_at_call 43; refine (stillTables_none b _ (hn1.out 12 (by decide))).mono ?_; rintro e w' ⟨rfl, rfl⟩) | (go_at_call 44; refine (stillDots_none b _ (hn1.out 14 (by decide))).mono ?_; rintro e w' ⟨rfl, rfl⟩) | (go_at_call 45; refine (stillSpans_none b _ (hn1.out 16 (by decide))).mono ?_; rintro e w' ⟨rfl, rfl⟩) | (go_at_call 46; refine (stillItems_none b _ (hn1.out 18 (by decide))).mono ?_; rintro e w' ⟨rfl, rfl⟩) | (go_at_call 48; refine (stillBatches_none b _ (hn1.out 22 (by decide))).mono ?_; rintro e w' ⟨rfl, rfl⟩) | (go_at_call 49; refine (stillPackets_none b _ (hn1.out 24 (by decide))).mono ?_; rintro e w' ⟨rfl, rfl⟩) | (go_at_call 50; refine (stillSteps_none b _ (hn1.out 26 (by decide))).mono ?_; rintro e w' ⟨rfl, rfl⟩) | (go_at_call 53; refine (putTexts_none b _ (hn1.out 0 (by decide))).mono ?_; rintro e w' ⟨rfl, rfl⟩) | (go_at_call 54; refine (putInts_none b _ (hn1.out 2 (by decide))).mono ?_; rintro e w' ⟨rfl, rfl⟩) | (go_at_call 55; refine (putNums_none b _ (hn1.out 4 (by decide))).mono ?_; rintro e w' ⟨rfl, rfl⟩) | (go_at_call 56; refine (putEntries_none b _ (hn1.out 6 (by decide))).mono ?_; rintro e w' ⟨rfl, rfl⟩) | (go_at_call 57; refine (putPairs_none b _ (hn1.out 8 (by decide))).mono ?_; rintro e w' ⟨rfl, rfl⟩) | (go_at_call 58; refine (putWrites_none b _ (hn1.out 10 (by decide))).mono ?_; rintro e w' ⟨rfl, rfl⟩) | (go_at_call 59; refine (putTables_none b _ (hn1.out 12 (by decide))).mono ?_; rintro e w' ⟨rfl, rfl⟩) | (go_at_call 60; refine (putDots_none b _ (hn1.out 14 (by decide))).mono ?_; rintro e w' ⟨rfl, rfl⟩) | (go_at_call 61; refine (putSpans_none b _ (hn1.out 16 (by decide))).mono ?_; rintro e w' ⟨rfl, rfl⟩) | (go_at_call 62; refine (putItems_none b _ (hn1.out 18 (by decide))).mono ?_; rintro e w' ⟨rfl, rfl⟩) | (go_at_call 51; refine (putBatches_none b _ (hn1.out 22 (by decide))).mono ?_; rintro e w' ⟨rfl, rfl⟩) | (go_at_call 64; refine (putPackets_none b _ (hn1.out 24 (by decide))).mono ?_; rintro e w' ⟨rfl, rfl⟩) | (go_at_call 52; refine (putSteps_none b _ (hn1.out 26 (by decide))).mono ?_; rintro e w' ⟨rfl, rfl⟩))
  have hp1 : Own B w1 (rows.map rwParts ++ (bookR b (csOf V W) :: outRParts V (rows.map (·.1)) :: (was.map rwParts ++ (outRParts W (was.map (·.1)) :: rest)))) := ho1.perm (perm_apart _ _ _ _ _ _)
  have hb1' : Below B w w1 := hb1.mono hB
  have hB1 : B ≤ w1.heap.size := Nat.le_trans hB hb1.size
  clear hnw0 hn1 ho1
  go_wp2_with (go_at_call 63; refine (hput.out w1 hp1 hB1).mono ?_; rintro e w2 ⟨rfl, ho2, hb2⟩; have hn2 := HNIL.out w2 _ ho2 (by simp))
  have hb2' : Below B w w2 := hb1'.trans hb2
  have hB2 : B ≤ w2.heap.size := Nat.le_trans hB hb2'.size
  rw [← HMV.out] at ho2
  clear hp1 hput
  go_wp2_with (first | (go_at_call 53; refine (putTexts_none b _ (hn2.out 0 (by decide))).mono ?_; rintro e w' ⟨rfl, rfl⟩) | (go_at_call 54; refine (putInts_none b _ (hn2.out 2 (by decide))).mono ?_; rintro e w' ⟨rfl, rfl⟩) | (go_at_call 55; refine (putNums_none b _ (hn2.out 4 (by decide))).mono ?_; rintro e w' ⟨rfl, rfl⟩) | (go_at_call 56; refine (putEntries_none b _ (hn2.out 6 (by decide))).mono ?_; rintro e w' ⟨rfl, rfl⟩) | (go_at_call 57; refine (putPairs_none b _ (hn2.out 8 (by decide))).mono ?_; rintro e w' ⟨rfl, rfl⟩) | (go_at_call 58; refine (putWrites_none b _ (hn2.out 10 (by decide))).mono ?_; rintro e w' ⟨rfl, rfl⟩) | (go_at_call 59; refine (putTables_none b _ (hn2.out 12 (by decide))).mono ?_; rintro e w' ⟨rfl, rfl⟩) | (go_at_call 60; refine (putDots_none b _ (hn2.out 14 (by decide))).mono ?_; rintro e w' ⟨rfl, rfl⟩) | (go_at_call 61; refine (putSpans_none b _ (hn2.out 16 (by decide))).mono ?_; rintro e w' ⟨rfl, rfl⟩) | (go_at_call 62; refine (putItems_none b _ (hn2.out 18 (by decide))).mono ?_; rintro e w' ⟨rfl, rfl⟩) | (go_at_call 51; refine (putBatches_none b _ (hn2.out 22 (by decide))).mono ?_; rintro e w' ⟨rfl, rfl⟩) | (go_at_call 64; refine (putPackets_none b _ (hn2.out 24 (by decide))).mono ?_; rintro e w' ⟨rfl, rfl⟩) | (go_at_call 52; refine (putSteps_none b _ (hn2.out 26 (by decide))).mono ?_; rintro e w' ⟨rfl, rfl⟩) | (go_at_call 65; refine (growTexts_none b _ (hn2.out 0 (by decide))).mono ?_; rintro e w' ⟨rfl, rfl⟩) | (go_at_call 66; refine (growInts_none b _ (hn2.out 2 (by decide))).mono ?_; rintro e w' ⟨rfl, rfl⟩) | (go_at_call 67; refine (growNums_none b _ (hn2.out 4 (by decide))).mono ?_; rintro e w' ⟨rfl, rfl⟩) | (go_at_call 68; refine (growEntries_none b _ (hn2.out 6 (by decide))).mono ?_; rintro e w' ⟨rfl, rfl⟩) | (go_at_call 69; refine (growPairs_none b _ (hn2.out 8 (by decide))).mono ?_; rintro e w' ⟨rfl, rfl⟩) | (go_at_call 70; refine (growWrites_none b _ (hn2.out 10 (by decide))).mono ?_; rintro e w' ⟨rfl, rfl⟩) | (go_at_call 71; refine (growTables_none b _ (hn2.out 12 (by decide))).mono ?_; rintro e w' ⟨rfl, rfl⟩) | (go_at_call 72; refine (growDots_none b _ (hn2.out 14 (by decide))).mono ?_; rintro e w' ⟨rfl, rfl⟩) | (go_at_call 73; refine (growSpans_none b _ (hn2.out 16 (by decide))).mono ?_; rintro e w' ⟨rfl, rfl⟩) | (go_at_call 74; refine (growItems_none b _ (hn2.out 18 (by decide))).mono ?_; rintro e w' ⟨rfl, rfl⟩) | fail)
  clear hn2
  go_wp2_with (go_at_call 75; refine (hgrow.out w2 ho2 hB2).mono ?_; rintro e w3 ⟨Gv, gr, ol, rfl, ho3, hgl, hgm, hcov, hb3⟩; have hn3 := HNIL.out w3 _ ho3 (by simp))
  have hb3' : Below B w w3 := hb2'.trans hb3
  clear ho2 hgrow
  have hcV3 : w3.cell? ⟨b, 20, none⟩ = some V := (ho3.1 (bookR b (csOf V W)) (by simp)).cell rfl 20 _ rfl
  have HM1 : Hid (Calls Tryz.prog 89 #[Gv] w3 fun e w' => e = .returned (.bool true) ∧ Below w3.heap.size w3 w') := by
    refine markedParts_any Gv (gr.map (·.1)) (gr.map (·.2)) w3 (outRParts_rd ho3 (by simp)) (rdsParts_own ho3 (by intro r hr; simp [List.mem_map_of_mem hr]) (fun r hr => ?_)) ?_ (by simp only [List.length_map]; rw [hgl, markAllParts_length]; omega)
    · obtain ⟨i, hi⟩ := List.getElem?_of_mem hr
      exact (hgm i r hi).2
    · intro i zs hz
      rw [List.getElem?_map] at hz
      cases hr : gr[i]? with
      | none => rw [hr] at hz; simp at hz
      | some r =>
        rw [hr] at hz
        simp at hz
        subst hz
        exact (hgm i r hr).1
  have HM2 : Hid (∀ w4 : World, Below w3.heap.size w3 w4 → Calls Tryz.prog 89 #[V] w4 fun e w' => e = .returned (.bool true) ∧ Below w4.heap.size w4 w') := by
    intro w4 hb4
    have ho4 := ho3.below hb4
    have hml : ((markAllParts rows).map (·.1)).length = rows.length := by rw [List.length_map, markAllParts_length]
    refine markedParts_any V ((markAllParts rows).map (·.1)) ((markAllParts rows).map (·.2)) w4 (outRParts_rd ho4 (by simp)) (rdsParts_cov ho4 (fun r hr => (hcov r hr).mono (by intro x hx; simp only [List.map_append, List.mem_append] at hx ⊢; rcases hx with hx | hx <;> simp [hx])) (fun r hr => by have := HMN.out r hr; omega)) ?_ (by simp only [List.length_map]; rw [markAllParts_length]; omega)
    intro i zs hz
    rw [List.getElem?_map] at hz
    cases hr : (markAllParts rows)[i]? with
    | none => rw [hr] at hz; simp at hz
    | some r =>
      rw [hr] at hz
      simp at hz
      subst hz
      exact HMM.out i r hr
  have hcV4 : ∀ w4 : World, Below w3.heap.size w3 w4 → w4.cell? ⟨b, 20, none⟩ = some V := fun w4 hb4 => ((ho3.below hb4).1 (bookR b (csOf V W)) (by simp)).cell rfl 20 _ rfl
  have HCV4 := Lib.hid hcV4
  have HO3 := Lib.hid ho3
  clear hcV4 ho3 hcov hgm hgl
  have hy0 := hn3.out 0 (by decide)
  have hy2 := hn3.out 2 (by decide)
  have hy4 := hn3.out 4 (by decide)
  have hy6 := hn3.out 6 (by decide)
  have hy8 := hn3.out 8 (by decide)
  have hy10 := hn3.out 10 (by decide)
  have hy12 := hn3.out 12 (by decide)
  have hy14 := hn3.out 14 (by decide)
  have hy16 := hn3.out 16 (by decide)
  have hy18 := hn3.out 18 (by decide)
  go_wp2_with (first | (go_at_call 65; refine (growTexts_none b _ (hn3.out 0 (by decide))).mono ?_; rintro e w' ⟨rfl, rfl⟩) | (go_at_call 66; refine (growInts_none b _ (hn3.out 2 (by decide))).mono ?_; rintro e w' ⟨rfl, rfl⟩) | (go_at_call 67; refine (growNums_none b _ (hn3.out 4 (by decide))).mono ?_; rintro e w' ⟨rfl, rfl⟩) | (go_at_call 68; refine (growEntries_none b _ (hn3.out 6 (by decide))).mono ?_; rintro e w' ⟨rfl, rfl⟩) | (go_at_call 69; refine (growPairs_none b _ (hn3.out 8 (by decide))).mono ?_; rintro e w' ⟨rfl, rfl⟩) | (go_at_call 70; refine (growWrites_none b _ (hn3.out 10 (by decide))).mono ?_; rintro e w' ⟨rfl, rfl⟩) | (go_at_call 71; refine (growTables_none b _ (hn3.out 12 (by decide))).mono ?_; rintro e w' ⟨rfl, rfl⟩) | (go_at_call 72; refine (growDots_none b _ (hn3.out 14 (by decide))).mono ?_; rintro e w' ⟨rfl, rfl⟩) | (go_at_call 73; refine (growSpans_none b _ (hn3.out 16 (by decide))).mono ?_; rintro e w' ⟨rfl, rfl⟩) | (go_at_call 74; refine (growItems_none b _ (hn3.out 18 (by decide))).mono ?_; rintro e w' ⟨rfl, rfl⟩) | (go_at_call 76; refine (growBatches_none b _ (hn3.out 22 (by decide))).mono ?_; rintro e w' ⟨rfl, rfl⟩) | (go_at_call 77; refine (growPackets_none b _ (hn3.out 24 (by decide))).mono ?_; rintro e w' ⟨rfl, rfl⟩) | (go_at_call 78; refine (growSteps_none b _ (hn3.out 26 (by decide))).mono ?_; rintro e w' ⟨rfl, rfl⟩) | (go_at_call 89; with_reducible refine HM1.out.mono ?_; rintro e w4 ⟨rfl, hb4⟩; have hcx := HCV4.out w4 hb4) | (go_at_call 79; refine (markedTexts_none _).mono ?_; rintro e w' ⟨rfl, rfl⟩) | (go_at_call 80; refine (markedInts_none _).mono ?_; rintro e w' ⟨rfl, rfl⟩) | (go_at_call 81; refine (markedNums_none _).mono ?_; rintro e w' ⟨rfl, rfl⟩) | (go_at_call 82; refine (markedEntries_none _).mono ?_; rintro e w' ⟨rfl, rfl⟩) | (go_at_call 83; refine (markedPairs_none _).mono ?_; rintro e w' ⟨rfl, rfl⟩) | (go_at_call 84; refine (markedWrites_none _).mono ?_; rintro e w' ⟨rfl, rfl⟩) | (go_at_call 85; refine (markedTables_none _).mono ?_; rintro e w' ⟨rfl, rfl⟩) | (go_at_call 86; refine (markedDots_none _).mono ?_; rintro e w' ⟨rfl, rfl⟩) | (go_at_call 87; refine (markedSpans_none _).mono ?_; rintro e w' ⟨rfl, rfl⟩) | (go_at_call 88; refine (markedItems_none _).mono ?_; rintro e w' ⟨rfl, rfl⟩) | fail)
  go_wp2_with (go_at_call 89; with_reducible refine (HM2.out w4 hb4).mono ?_; rintro e w5 ⟨rfl, hb5⟩)
  have hn5 := HNIL.out w5 _ ((HO3.out.below hb4).below hb5) (by simp)
  have hx0 := hn5.out 0 (by decide)
  have hx2 := hn5.out 2 (by decide)
  have hx4 := hn5.out 4 (by decide)
  have hx6 := hn5.out 6 (by decide)
  have hx8 := hn5.out 8 (by decide)
  have hx10 := hn5.out 10 (by decide)
  have hx12 := hn5.out 12 (by decide)
  have hx14 := hn5.out 14 (by decide)
  have hx16 := hn5.out 16 (by decide)
  have hx18 := hn5.out 18 (by decide)
  have hx22 := hn5.out 22 (by decide)
  have hx24 := hn5.out 24 (by decide)
  have hx26 := hn5.out 26 (by decide)
  go_wp2_with (first | (go_at_call 79; refine (markedTexts_none _).mono ?_; rintro e w' ⟨rfl, rfl⟩) | (go_at_call 80; refine (markedInts_none _).mono ?_; rintro e w' ⟨rfl, rfl⟩) | (go_at_call 81; refine (markedNums_none _).mono ?_; rintro e w' ⟨rfl, rfl⟩) | (go_at_call 82; refine (markedEntries_none _).mono ?_; rintro e w' ⟨rfl, rfl⟩) | (go_at_call 83; refine (markedPairs_none _).mono ?_; rintro e w' ⟨rfl, rfl⟩) | (go_at_call 84; refine (markedWrites_none _).mono ?_; rintro e w' ⟨rfl, rfl⟩) | (go_at_call 85; refine (markedTables_none _).mono ?_; rintro e w' ⟨rfl, rfl⟩) | (go_at_call 86; refine (markedDots_none _).mono ?_; rintro e w' ⟨rfl, rfl⟩) | (go_at_call 87; refine (markedSpans_none _).mono ?_; rintro e w' ⟨rfl, rfl⟩) | (go_at_call 88; refine (markedItems_none _).mono ?_; rintro e w' ⟨rfl, rfl⟩) | (go_at_call 90; refine (markedBatches_none _).mono ?_; rintro e w' ⟨rfl, rfl⟩) | (go_at_call 91; refine (markedPackets_none _).mono ?_; rintro e w' ⟨rfl, rfl⟩) | (go_at_call 92; refine (markedSteps_none _).mono ?_; rintro e w' ⟨rfl, rfl⟩))
  go_ret
  refine ⟨rfl, ?_⟩
  have k4 := hb3'.trans (hb4.mono (Nat.le_trans hB hb3'.size))
  exact k4.trans (hb5.mono (Nat.le_trans hB k4.size))
end Go.Proofs.YtgoehmmmajdenaaGreatDoor
