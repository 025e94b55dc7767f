/- Plain: P505: what Shadow leaves shows the same, and nothing goes that is seen. -/
import Derived.Test.YthaalhigmihijaaEH
namespace Go.Proofs.Ythaalhigmihijaa
open Go.RowKit Go.Lib

theorem best_at {es : List Ent} (h : Ord es) {key : ByteArray} {q : Int} {c : Nat} (hc : c < es.length) (h1 : Hit es key q c) (h2 : ∀ j, j < c → ¬ Hit es key q j) : best es key q es.length = c := by
  rcases best_first h key q es.length (Nat.le_refl _) with ⟨-, h3⟩ | ⟨c', e, h3, h4, h5⟩
  · exact absurd h1 (h3 c hc)
  · rcases Nat.lt_trichotomy c c' with hl | hl | hl
    · exact absurd h1 (h5 c hl)
    · rw [e, hl]
    · exact absurd h4 (h2 c' hl)
theorem best_no {es : List Ent} (h : Ord es) {key : ByteArray} {q : Int} (h2 : ∀ j, j < es.length → ¬ Hit es key q j) : best es key q es.length = -1 := by
  rcases best_first h key q es.length (Nat.le_refl _) with ⟨e, -⟩ | ⟨c', e, h3, h4, h5⟩
  · exact e
  · exact absurd h4 (h2 c' h3)
section
variable {es : List Ent} {zs : List Int}
theorem shad_len (es : List Ent) (zs : List Int) : (shad es zs es.length).length = (left es zs es.length).length := by rw [shad_left, List.length_map]
theorem shad_get (a : Nat) (ha : a < (shad es zs es.length).length) : ∃ c, c < es.length ∧ Seen es zs c ∧ (shad es zs es.length).getD a default = es.getD c default ∧ (left es zs es.length)[a]? = some c := by
  have ha' : a < (left es zs es.length).length := by rw [← shad_len]; exact ha
  have hm := (left_mem es zs es.length _).1 (List.getElem_mem ha')
  refine ⟨(left es zs es.length)[a], hm.1, hm.2, ?_, List.getElem?_eq_getElem ha'⟩
  rw [shad_left, List.getD_eq_getElem?_getD, List.getElem?_map, List.getElem?_eq_getElem ha']
  rfl
theorem left_lt {a b c d : Nat} (h : a < b) (h1 : (left es zs es.length)[a]? = some c) (h2 : (left es zs es.length)[b]? = some d) : c < d := by
  obtain ⟨k1, e1⟩ := List.getElem?_eq_some_iff.1 h1
  obtain ⟨k2, e2⟩ := List.getElem?_eq_some_iff.1 h2
  have := List.pairwise_iff_getElem.1 (left_rise es zs es.length) a b k1 k2 h
  omega
theorem shad_place {c : Nat} (hc : c < es.length) (hs : Seen es zs c) : ∃ a, a < (shad es zs es.length).length ∧ (shad es zs es.length).getD a default = es.getD c default ∧ (left es zs es.length)[a]? = some c := by
  obtain ⟨a, ha, e⟩ := List.mem_iff_getElem.1 ((left_mem es zs es.length c).2 ⟨hc, hs⟩)
  have ha' : a < (shad es zs es.length).length := by rw [shad_len]; exact ha
  obtain ⟨c', h1, h2, h3, h4⟩ := shad_get (es := es) (zs := zs) a ha'
  rw [List.getElem?_eq_getElem ha, e] at h4
  cases h4
  exact ⟨a, ha', h3, by rw [List.getElem?_eq_getElem ha, e]⟩
theorem shad_ord (h : Ord es) : Ord (shad es zs es.length) := by
  intro i j hij hj
  obtain ⟨c, c1, c2, c3, c4⟩ := shad_get (es := es) (zs := zs) i (by omega)
  obtain ⟨d, d1, d2, d3, d4⟩ := shad_get (es := es) (zs := zs) j hj
  rw [c3, d3]
  exact h c d (left_lt hij c4 d4) d1
/-- Whom a pin, or a number beyond all, shows may be seen. -/
theorem first_seen {key : ByteArray} {q : Int} (hq : q ∈ zs ∨ ∀ i, i < es.length → (es.getD i default).s ≤ q) {c : Nat} (hc : c < es.length) (h1 : Hit es key q c) (h2 : ∀ j, j < c → ¬ Hit es key q j) : Seen es zs c := by
  by_cases hk : 0 < c ∧ (es.getD (c - 1) default).k = (es.getD c default).k
  · have hn := h2 (c - 1) (by omega)
    have hlt : q < (es.getD (c - 1) default).s := by
      apply Int.not_le.1
      intro hle
      exact hn ⟨hk.2.trans h1.1, hle⟩
    rcases hq with hq | hq
    · exact .inr ⟨q, hq, h1.2, hlt⟩
    · have := hq (c - 1) (by omega)
      omega
  · exact .inl hk
theorem pick_same (h : Ord es) (key : ByteArray) {q : Int} (hq : q ∈ zs ∨ ∀ i, i < es.length → (es.getD i default).s ≤ q) :
    pickV (shad es zs es.length) (best (shad es zs es.length) key q (shad es zs es.length).length) = pickV es (best es key q es.length) ∧ decide (0 ≤ best (shad es zs es.length) key q (shad es zs es.length).length) = decide (0 ≤ best es key q es.length) := by
  rcases best_first h key q es.length (Nat.le_refl _) with ⟨e, hno⟩ | ⟨c, e, hc, h1, h2⟩
  · have e2 : best (shad es zs es.length) key q (shad es zs es.length).length = -1 := best_no (shad_ord h) (fun a ha hh => by
      obtain ⟨c, c1, -, c3, -⟩ := shad_get (es := es) (zs := zs) a ha
      unfold Hit at hh
      rw [c3] at hh
      exact hno c c1 hh)
    rw [e, e2]
    exact ⟨rfl, rfl⟩
  · obtain ⟨a, a1, a2, a3⟩ := shad_place hc (first_seen hq hc h1 h2)
    have e2 : best (shad es zs es.length) key q (shad es zs es.length).length = a := best_at (shad_ord h) a1 (by unfold Hit; rw [a2]; exact h1) (fun b hb hh => by
      obtain ⟨d, d1, -, d3, d4⟩ := shad_get (es := es) (zs := zs) b (by omega)
      unfold Hit at hh
      rw [d3] at hh
      exact h2 d (left_lt hb d4 a3) hh)
    rw [e, e2]
    refine ⟨?_, by simp⟩
    unfold pickV
    rw [if_pos (by omega), if_pos (by omega), Int.toNat_natCast, Int.toNat_natCast, a2]
/-- What is left is seen at a pin, or at a number beyond all. -/
theorem left_seen (h : Ord es) {top : Int} (htop : ∀ i, i < es.length → (es.getD i default).s ≤ top) {a : Nat} (ha : a < (shad es zs es.length).length) :
    ∃ q, (q ∈ zs ∨ q = top) ∧ pickV es (best es ((shad es zs es.length).getD a default).k q es.length) = ((shad es zs es.length).getD a default).val ∧ 0 ≤ best es ((shad es zs es.length).getD a default).k q es.length := by
  obtain ⟨c, c1, c2, c3, -⟩ := shad_get (es := es) (zs := zs) a ha
  rw [c3]
  have fin : ∀ q, (es.getD c default).s ≤ q → (∀ j, j < c → ¬ Hit es (es.getD c default).k q j) → pickV es (best es (es.getD c default).k q es.length) = (es.getD c default).val ∧ 0 ≤ best es (es.getD c default).k q es.length := by
    intro q h1 h2
    rw [best_at h c1 ⟨rfl, h1⟩ h2]
    unfold pickV
    rw [if_pos (by omega), Int.toNat_natCast]
    exact ⟨rfl, by omega⟩
  by_cases hk : 0 < c ∧ (es.getD (c - 1) default).k = (es.getD c default).k
  · rcases c2 with c2 | ⟨z, hz, z1, z2⟩
    · exact absurd hk c2
    · refine ⟨z, .inl hz, fin z z1 (fun j hj hh => ?_)⟩
      have h3 : (es.getD (c - 1) default).s ≤ (es.getD j default).s := by
        by_cases he : j = c - 1
        · rw [he]; omega
        · have := h.fall (i := j) (j := c - 1) (by omega) (by omega) (hh.1.trans hk.2.symm)
          omega
      have := hh.2
      omega
  · refine ⟨top, .inr rfl, fin top (htop c c1) (fun j hj hh => hk ⟨by omega, h.near hj c1 hh.1⟩)⟩
theorem shad_twice (h : Ord es) : (shad (shad es zs es.length) zs (shad es zs es.length).length).length = (shad es zs es.length).length := by
  rw [shad_len]
  unfold left
  rw [List.filter_eq_self.2, List.length_range]
  intro a ha
  rw [List.mem_range] at ha
  rw [decide_eq_true_eq, seen_iff]
  by_cases hk : 0 < a ∧ ((shad es zs es.length).getD (a - 1) default).k = ((shad es zs es.length).getD a default).k
  · refine .inr ?_
    obtain ⟨c, c1, c2, c3, c4⟩ := shad_get (es := es) (zs := zs) a ha
    obtain ⟨d, d1, d2, d3, d4⟩ := shad_get (es := es) (zs := zs) (a - 1) (by omega)
    have hlt := left_lt (show a - 1 < a by omega) d4 c4
    rw [c3, d3] at hk ⊢
    have hn := h.near hlt c1 hk.2
    rcases c2 with c2 | ⟨z, hz, z1, z2⟩
    · exact absurd ⟨by omega, hn⟩ c2
    · refine ⟨z, hz, z1, ?_⟩
      by_cases he : d = c - 1
      · rw [he]; exact z2
      · have := h.fall (i := d) (j := c - 1) (by omega) (by omega) (hk.2.trans hn.symm)
        omega
  · exact .inl hk
end
end Go.Proofs.Ythaalhigmihijaa
