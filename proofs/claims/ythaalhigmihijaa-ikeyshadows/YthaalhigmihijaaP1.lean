/- For slices.Sort at uint64: an array of numbers in memory, and what exchanges leave of it. -/
import Derived.Test.YthaalhigmihijaaE7
import Derived.Deep.RegionHeld3
import Derived.BigQuiet
namespace Go.Proofs.Ythaalhigmihijaa
open Go.RowKit

/-- Two places exchanged. -/
def swp (d : List Int) (i j : Nat) : List Int := (d.set i (d.getD j 0)).set j (d.getD i 0)
theorem swp_length (d : List Int) (i j : Nat) : (swp d i j).length = d.length := by simp [swp]
theorem swp_get (d : List Int) (i j k : Nat) (hi : i < d.length) (hj : j < d.length) : (swp d i j).getD k 0 = if k = j then d.getD i 0 else if k = i then d.getD j 0 else d.getD k 0 := by
  unfold swp
  simp only [List.getD_eq_getElem?_getD, List.getElem?_set, List.length_set]
  by_cases h1 : k = j
  · subst h1
    simp [hj]
  · by_cases h2 : k = i
    · subst h2
      have h3 : ¬ j = k := fun e => h1 e.symm
      simp [hi, h1, h3]
    · have h3 : ¬ j = k := fun e => h1 e.symm
      have h4 : ¬ i = k := fun e => h2 e.symm
      simp [h1, h2, h3, h4]
/-- What exchanges of places from a up to b leave. -/
inductive Sw (a b : Nat) (d : List Int) : List Int → Prop
  | refl : Sw a b d d
  | step {e : List Int} {i j : Nat} : Sw a b d e → a ≤ i → i < b → a ≤ j → j < b → Sw a b d (swp e i j)
theorem Sw.length {a b : Nat} {d e : List Int} (h : Sw a b d e) : e.length = d.length := by
  induction h with
  | refl => rfl
  | step _ _ _ _ _ ih => rw [swp_length, ih]
theorem Sw.trans {a b : Nat} {d e f : List Int} (h : Sw a b d e) (k : Sw a b e f) : Sw a b d f := by
  induction k with
  | refl => exact h
  | step _ h1 h2 h3 h4 ih => exact .step ih h1 h2 h3 h4
theorem Sw.mono {a b a' b' : Nat} {d e : List Int} (h : Sw a b d e) (ha : a' ≤ a) (hb : b ≤ b') : Sw a' b' d e := by
  induction h with
  | refl => exact .refl
  | step _ h1 h2 h3 h4 ih => exact .step ih (by omega) (by omega) (by omega) (by omega)
theorem Sw.out {a b : Nat} {d e : List Int} (h : Sw a b d e) (hb : b ≤ d.length) : ∀ k, k < a ∨ b ≤ k → e.getD k 0 = d.getD k 0 := by
  induction h with
  | refl => intro k _; rfl
  | @step e i j hs h1 h2 h3 h4 ih =>
    intro k hk
    have hl := hs.length
    rw [swp_get _ _ _ _ (by omega) (by omega), if_neg (by omega), if_neg (by omega)]
    exact ih k hk
/-- What all of [a, b) have, all of it have behind exchanges. -/
theorem Sw.all {a b : Nat} {d e : List Int} (h : Sw a b d e) (hb : b ≤ d.length) {p : Int → Prop} (hp : ∀ k, a ≤ k → k < b → p (d.getD k 0)) : ∀ k, a ≤ k → k < b → p (e.getD k 0) := by
  induction h with
  | refl => exact hp
  | @step e i j hs h1 h2 h3 h4 ih =>
    intro k k1 k2
    have hl := hs.length
    rw [swp_get _ _ _ _ (by omega) (by omega)]
    split
    · exact ih i h1 h2
    · split
      · exact ih j h3 h4
      · exact ih k k1 k2
theorem swp_perm (d : List Int) (i j : Nat) (hi : i < d.length) (hj : j < d.length) : (swp d i j).Perm d := by
  rw [List.perm_iff_count]
  intro x
  unfold swp
  have e1 : d.getD j 0 = d[j] := by rw [List.getD_eq_getElem?_getD, List.getElem?_eq_getElem hj]; rfl
  have e2 : d.getD i 0 = d[i] := by rw [List.getD_eq_getElem?_getD, List.getElem?_eq_getElem hi]; rfl
  rw [e1, e2, List.count_set (by simpa using hj), List.count_set hi]
  rw [List.getElem_set]
  have c1 : 0 < List.count d[i] d := List.count_pos_iff.2 (List.getElem_mem _)
  have c2 : 0 < List.count d[j] d := List.count_pos_iff.2 (List.getElem_mem _)
  by_cases hij : i = j
  · subst hij
    by_cases hx : d[i] = x
    · subst hx
      simp
    · simp [hx]
  · rw [if_neg hij]
    by_cases hx : d[i] = x
    · by_cases hy : d[j] = x
      · subst hx
        simp [hy]
      · subst hx
        simp [hy]
    · by_cases hy : d[j] = x
      · subst hy
        simp [hx]
      · simp [hx, hy]
theorem Sw.perm {a b : Nat} {d e : List Int} (h : Sw a b d e) (hb : b ≤ d.length) : e.Perm d := by
  induction h with
  | refl => exact List.Perm.refl _
  | step hs h1 h2 h3 h4 ih =>
    have hl := hs.length
    exact (swp_perm _ _ _ (by omega) (by omega)).trans ih
/-- [a, b) rises. -/
def Srt (d : List Int) (a b : Nat) : Prop := ∀ i, a ≤ i → i + 1 < b → d.getD i 0 ≤ d.getD (i + 1) 0
theorem Srt.le {d : List Int} {a b : Nat} (h : Srt d a b) {i j : Nat} (hi : a ≤ i) (hij : i ≤ j) (hj : j < b) : d.getD i 0 ≤ d.getD j 0 := by
  induction j with
  | zero =>
    obtain rfl : i = 0 := by omega
    omega
  | succ j ih =>
    by_cases he : i = j + 1
    · rw [he]; omega
    · have := ih (by omega) (by omega)
      have := h j (by omega) hj
      omega
/-- An array of numbers in memory. -/
def Arr (w : World) (g : Nat) (d : List Int) : Prop := ∃ cur : Array Value, w.heap[g]? = some (.cells cur 24 (0, 0)) ∧ cur.toList.take d.length = d.map (Value.int .u64)
theorem Arr.lt {w : World} {g : Nat} {d : List Int} (h : Arr w g d) : g < w.heap.size := by
  obtain ⟨cur, h1, -⟩ := h
  exact (Array.getElem?_eq_some_iff.1 h1).1
theorem Arr.drewN {w : World} {g : Nat} {d : List Int} (h : Arr w g d) (n : Nat) : Arr (w.drewN n) g d := h
theorem Arr.cell {w : World} {g : Nat} {d : List Int} (h : Arr w g d) {i : Nat} (hi : i < d.length) : w.cell? ⟨g, i, none⟩ = some (.int .u64 (d.getD i 0)) := by
  obtain ⟨cur, h1, h2⟩ := h
  rw [cell_of_row w g i cur 24 (0, 0) h1]
  have : (cur.toList.take d.length)[i]? = some (.int .u64 (d.getD i 0)) := by
    rw [h2, List.getElem?_map, List.getElem?_eq_getElem hi, List.getD_eq_getElem?_getD, List.getElem?_eq_getElem hi]
    rfl
  rw [List.getElem?_take, if_pos hi] at this
  simpa using this
theorem Arr.warm {w : World} {g : Nat} {d : List Int} (h : Arr w g d) (i : Nat) : w.frozen? ⟨g, i, none⟩ = false := by
  obtain ⟨cur, h1, -⟩ := h
  simp [World.frozen?, h1]
theorem Arr.store {w : World} {g : Nat} {d : List Int} (h : Arr w g d) {i : Nat} (hi : i < d.length) (v : Int) : Arr (w.setCell ⟨g, i, none⟩ (.int .u64 v)) g (d.set i v) := by
  have hc := h.cell hi
  obtain ⟨cur, h1, h2⟩ := h
  refine ⟨cur.setIfInBounds i (.int .u64 v), heap_setCell_same w g i cur 24 _ h1, ?_⟩
  rw [List.length_set, List.map_set, ← h2, Array.toList_setIfInBounds, List.take_set]
theorem Arr.swap {w : World} {g : Nat} {d : List Int} (h : Arr w g d) {i j : Nat} (hi : i < d.length) (hj : j < d.length) : Arr ((w.setCell ⟨g, i, none⟩ (.int .u64 (d.getD j 0))).setCell ⟨g, j, none⟩ (.int .u64 (d.getD i 0))) g (swp d i j) := by
  have := (h.store hi (d.getD j 0)).store (i := j) (by simpa using hj) (d.getD i 0)
  exact this
end Go.Proofs.Ythaalhigmihijaa
