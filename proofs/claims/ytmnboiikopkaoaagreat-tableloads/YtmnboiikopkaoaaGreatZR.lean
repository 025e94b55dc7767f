/- The program's readers beside their plain state: what is left, and the error. -/
import Derived.Test.YtmnboiikopkaoaaGreatZN
import Derived.Test.YtmnboiikopkaoaaGreatRA
namespace Go.Proofs.YtmnboiikopkaoaaGreat
open Go.RowKit

theorem pr_var {w : World} {b : Nat} {l : List UInt8} {e : Int} (h : Rdr w b l e) :
    Calls Tryz.prog 149 #[.pointer (some ⟨b, 0, none⟩)] w fun x w' => x = .returned (.int .u64 ((rdV l e).1 : Int)) ∧ Rdr w' b (rdV l e).2.1 (rdV l e).2.2 ∧ w.grownBy w' (some b) := by
  by_cases he : e = 0
  · subst he
    obtain ⟨s, hr, rfl, hs⟩ := h.at
    rcases decV_cases s.data.toList with ⟨v, r, hv⟩ | ⟨e, he, hv⟩
    · rw [rdV_ok hv]
      refine (rvar_ok b s w hr (by omega) hv).mono ?_
      rintro x w' ⟨rfl, h1, h2⟩
      have hlen : r.length ≤ s.size := by have := decV_len s.data.toList 0 0; rw [hv] at this; simpa using this
      exact ⟨rfl, Rdr.of h1 (fun _ => rfl) (by rw [str_size]; omega), h2⟩
    · rw [rdV_bad hv he]
      refine (rvar_bad b s w hr (by omega) hv he).mono ?_
      rintro x w' ⟨rfl, h1, h2⟩
      exact ⟨rfl, Rdr.of h1 (fun h => absurd h he) hs, h2⟩
  · rw [rdV_err he]
    obtain ⟨s, hr, hl, hs⟩ := h
    refine (rvar_err b s e w hr he).mono ?_
    rintro x w' ⟨rfl, rfl⟩
    exact ⟨rfl, ⟨s, hr, hl, hs⟩, same_grown _ _⟩
theorem pr_count {w : World} {b : Nat} {l : List UInt8} {e : Int} (most : Int) (hm : most ≤ 9223372036854775807) (h : Rdr w b l e) :
    Calls Tryz.prog 87 #[.pointer (some ⟨b, 0, none⟩), .int .i64 most] w fun x w' => x = .returned (.int .i64 ((rdC most l e).1 : Int)) ∧ Rdr w' b (rdC most l e).2.1 (rdC most l e).2.2 ∧ w.grownBy w' (some b) := by
  by_cases he : e = 0
  · subst he
    obtain ⟨s, hr, rfl, hs⟩ := h.at
    rcases decC_cases most s.data.toList with ⟨v, r, hc, -, hv⟩ | ⟨e, he, hv⟩
    · rw [rdC_ok hc]
      refine (rcount_ok b s most w hr (by omega) hm hc).mono ?_
      rintro x w' ⟨rfl, h1, h2⟩
      have hlen : r.length ≤ s.size := by have := decV_len s.data.toList 0 0; rw [hv] at this; simpa using this
      exact ⟨rfl, Rdr.of h1 (fun _ => rfl) (by rw [str_size]; omega), h2⟩
    · rw [rdC_bad hv he]
      refine (rcount_bad b s most w hr (by omega) hm hv he).mono ?_
      rintro x w' ⟨rfl, h1, h2⟩
      exact ⟨rfl, Rdr.of h1 (fun h => absurd h he) hs, h2⟩
  · rw [rdC_err he]
    obtain ⟨s, hr, hl, hs⟩ := h
    refine (rcount_err most b s e w hr he).mono ?_
    rintro x w' ⟨rfl, rfl⟩
    exact ⟨rfl, ⟨s, hr, hl, hs⟩, same_grown _ _⟩
theorem pr_text {w : World} {b : Nat} {l : List UInt8} {e : Int} (most : Int) (hm : most ≤ 9223372036854775807) (h : Rdr w b l e) :
    Calls Tryz.prog 89 #[.pointer (some ⟨b, 0, none⟩), .int .i64 most] w fun x w' => x = .returned (.string ⟨(rdT most l e).1.toArray⟩) ∧ Rdr w' b (rdT most l e).2.1 (rdT most l e).2.2 ∧ w.grownBy w' (some b) := by
  by_cases he : e = 0
  · subst he
    obtain ⟨s, hr, rfl, hs⟩ := h.at
    rcases decC_cases most s.data.toList with ⟨v, r, hc, -, hv⟩ | ⟨e, he, hc⟩
    · have hlen : r.length ≤ s.size := by have := decV_len s.data.toList 0 0; rw [hv] at this; simpa using this
      by_cases hl : r.length < v
      · have ht : decT most s.data.toList = ([], [], 5) := by unfold decT; rw [hc, if_neg (by simp), if_pos hl]
        rw [rdT_bad ht (by omega)]
        refine (rtext_bad b s most w hr (by omega) hm ht (by omega)).mono ?_
        rintro x w' ⟨rfl, h1, h2⟩
        exact ⟨rfl, Rdr.of h1 (fun h => absurd (show (5 : Int) = 0 from h) (by decide)) hs, h2⟩
      · have ht : decT most s.data.toList = (r.take v, r.drop v, 0) := by unfold decT; rw [hc, if_neg (by simp), if_neg hl]
        rw [rdT_ok ht]
        refine (rtext_ok b s most w hr (by omega) hm ht).mono ?_
        rintro x w' ⟨rfl, h1, h2⟩
        exact ⟨rfl, Rdr.of h1 (fun _ => rfl) (by rw [str_size, List.length_drop]; omega), h2⟩
    · have ht : decT most s.data.toList = ([], [], e) := by unfold decT; rw [hc, if_pos he]
      rw [rdT_bad ht he]
      refine (rtext_bad b s most w hr (by omega) hm ht he).mono ?_
      rintro x w' ⟨rfl, h1, h2⟩
      exact ⟨rfl, Rdr.of h1 (fun h => absurd h he) hs, h2⟩
  · rw [rdT_err he]
    obtain ⟨s, hr, hl, hs⟩ := h
    refine (rtext_err most b s e w hr he).mono ?_
    rintro x w' ⟨rfl, rfl⟩
    exact ⟨rfl, ⟨s, hr, hl, hs⟩, same_grown _ _⟩
theorem pr_err {w : World} {b : Nat} {l : List UInt8} {e : Int} (h : Rdr w b l e) :
    Calls Tryz.prog 120 #[.pointer (some ⟨b, 0, none⟩)] w fun x w' => x = .returned (.int .i64 e) ∧ w = w' := by
  obtain ⟨s, hr, -, -⟩ := h
  exact err_any b s e w hr
theorem pr_left {w : World} {b : Nat} {l : List UInt8} (h : Rdr w b l 0) :
    Calls Tryz.prog 124 #[.pointer (some ⟨b, 0, none⟩)] w fun x w' => x = .returned (.int .i64 (l.length : Int)) ∧ w = w' := by
  obtain ⟨s, hr, rfl, -⟩ := h.at
  rw [len_data']
  exact left_any b s 0 w hr
end Go.Proofs.YtmnboiikopkaoaaGreat
