/- MergeCuts, walked, over what the calls are asked to tell. -/
import Derived.Test.YtcbailiniigcnaaGreatLLatest14W
namespace Go.Proofs.YtcbailiniigcnaaGreat
open Go.ChangeShapes Go.WideShapes Go.ChangeAt Go.Deep Go.RowKit

theorem cutS_count (most : Int) : ∀ (l q : List Ent), (cutS most q l).length ≤ l.length
  | [], _ => Nat.le_refl _
  | e :: r, q => by
    unfold cutS
    split
    · have := cutS_count most r []
      simp only [List.length_cons]
      omega
    · have := cutS_count most r (q ++ [e])
      simp only [List.length_cons]
      omega
theorem cutS_all (most : Int) (l : List Ent) : (cutS most [] l).flatten = l := by
  cases l with
  | nil => rfl
  | cons e r => rw [cutS_flat most (e :: r) [] (by simp)]; rfl
theorem cutS_steps2 (most : Int) (l : List Ent) (i : Nat) (p q : List Ent) (hp : (cutS most [] l)[i]? = some p) (hq : (cutS most [] l)[i + 1]? = some q) : most ≤ (p.length : Int) ∧ (p.getLast?.map Ent.k) ≠ (q.head?.map Ent.k) := by
  obtain ⟨h1, rfl⟩ := List.getElem?_eq_some_iff.1 hp
  obtain ⟨h2, rfl⟩ := List.getElem?_eq_some_iff.1 hq
  exact cutS_steps most l [] i h2
theorem flat_len (ls : List (List Ent)) (i : Nat) : (ls.take i).flatten.length ≤ ls.flatten.length := by
  have h2 : ls.flatten = (ls.take i).flatten ++ (ls.drop i).flatten := by rw [← List.flatten_append, List.take_append_drop]
  rw [h2, List.length_append]
  omega
/-- A piece: where its first and its last key stand. -/
theorem ents_ends {n : Nat} {w : World} {a : Option Addr} {p : List Ent} (h : EntsAt n w a p.length p) (hp : p ≠ []) : ∃ b o x y, a = some ⟨b, o, none⟩ ∧ b < n ∧ p.head? = some x ∧ p.getLast? = some y ∧ w.cell? ⟨b, o, none⟩ = some (.string x.k) ∧ w.cell? ⟨b, o + (p.length - 1) * 4, none⟩ = some (.string y.k) := by
  have hpos : 0 < p.length := List.length_pos_iff.2 hp
  rcases h.2 with h0 | ⟨b, o, e, h1, h2⟩
  · omega
  · refine ⟨b, o, p[0], p[p.length - 1], e, h1, ?_, ?_, ?_, ?_⟩
    · rw [List.head?_eq_getElem?, List.getElem?_eq_getElem hpos]
    · rw [List.getLast?_eq_getElem?, List.getElem?_eq_getElem (by omega)]
    · have := h2 0 hpos 0 _ rfl
      simpa using this
    · exact h2 (p.length - 1) (by omega) 0 _ rfl
theorem srcE {n : Nat} {w : World} {a : Option Addr} {c : Nat} {p : List Ent} (h : EntsAt n w a p.length p) (hp : p ≠ []) : Src Tryz.prog 4 26 (.slice a p.length c) p.length (cellsE p) w := by
  rcases h.2 with h0 | ⟨b, o, rfl, h1, h2⟩
  · exact absurd (List.eq_nil_of_length_eq_zero h0) hp
  · refine src_part (l := p) (m := p) o c (fun j u hu => ?_) (by rw [← cellsE_length p, List.take_length])
    have hj : j < p.length * 4 := by
      have := (List.getElem?_eq_some_iff.1 hu).1
      rwa [cellsE_length] at this
    have hi : j / 4 < p.length := by omega
    have h3 := h2 (j / 4) hi (j % 4)
    have hc : p[j / 4].cells[j % 4]? = some u := by
      have hm : j % 4 < 4 := Nat.mod_lt _ (by omega)
      have hex : ∃ u', p[j / 4].cells[j % 4]? = some u' := by
        have : j % 4 < p[j / 4].cells.length := hm
        exact ⟨_, List.getElem?_eq_getElem this⟩
      obtain ⟨u', hu'⟩ := hex
      have := cellsE_get p (j / 4) hi (j % 4) u' hu'
      rw [show j / 4 * 4 + j % 4 = j by omega, hu] at this
      cases this
      exact hu'
    have h4 := h3 u hc
    rw [show o + j = o + j / 4 * 4 + j % 4 by omega]
    exact h4
end Go.Proofs.YtcbailiniigcnaaGreat
