/- The document's own reader beside its plain state: what is left, and the error. -/
import Derived.Test.YtopnbbchiglpoaaRR
namespace Go.Proofs.Ytopnbbchiglpoaa
open Go.RowKit

/-- A reader that has l left and the error e (behind an error nobody asks what is left). -/
def Rdr (w : World) (b : Nat) (l : List UInt8) (e : Int) : Prop := ∃ s, IsRd w b s e ∧ (e = 0 → s.data.toList = l) ∧ s.size ≤ 100000000
def rdV (l : List UInt8) (e : Int) : Nat × List UInt8 × Int := if e ≠ 0 then (0, l, e) else if (decV 0 0 l).2.2 ≠ 0 then (0, l, (decV 0 0 l).2.2) else decV 0 0 l
def rdC (most : Int) (l : List UInt8) (e : Int) : Nat × List UInt8 × Int := if e ≠ 0 then (0, l, e) else if (decC most l).2.2 ≠ 0 then (0, l, (decC most l).2.2) else decC most l
def rdT (most : Int) (l : List UInt8) (e : Int) : List UInt8 × List UInt8 × Int := if e ≠ 0 then ([], l, e) else if (decT most l).2.2 ≠ 0 then ([], l, (decT most l).2.2) else decT most l
def rdB (l : List UInt8) (e : Int) : Bool × List UInt8 × Int := if e ≠ 0 then (false, l, e) else if (decB l).2.2 ≠ 0 then (false, l, (decB l).2.2) else decB l
theorem rdV_err {l : List UInt8} {e : Int} (h : e ≠ 0) : rdV l e = (0, l, e) := by unfold rdV; rw [if_pos h]
theorem rdC_err {most : Int} {l : List UInt8} {e : Int} (h : e ≠ 0) : rdC most l e = (0, l, e) := by unfold rdC; rw [if_pos h]
theorem rdT_err {most : Int} {l : List UInt8} {e : Int} (h : e ≠ 0) : rdT most l e = ([], l, e) := by unfold rdT; rw [if_pos h]
theorem rdB_err {l : List UInt8} {e : Int} (h : e ≠ 0) : rdB l e = (false, l, e) := by unfold rdB; rw [if_pos h]
theorem rdV_ok {l r : List UInt8} {v : Nat} (h : decV 0 0 l = (v, r, 0)) : rdV l 0 = (v, r, 0) := by unfold rdV; rw [h]; rfl
theorem rdV_bad {l : List UInt8} {e : Int} (h : decV 0 0 l = (0, [], e)) (he : e ≠ 0) : rdV l 0 = (0, l, e) := by unfold rdV; rw [h, if_neg (by simp), if_pos he]
theorem rdC_ok {most : Int} {l r : List UInt8} {v : Nat} (h : decC most l = (v, r, 0)) : rdC most l 0 = (v, r, 0) := by unfold rdC; rw [h]; rfl
theorem rdC_bad {most : Int} {l : List UInt8} {e : Int} (h : decC most l = (0, [], e)) (he : e ≠ 0) : rdC most l 0 = (0, l, e) := by unfold rdC; rw [h, if_neg (by simp), if_pos he]
theorem rdT_ok {most : Int} {l t r : List UInt8} (h : decT most l = (t, r, 0)) : rdT most l 0 = (t, r, 0) := by unfold rdT; rw [h]; rfl
theorem rdT_bad {most : Int} {l : List UInt8} {e : Int} (h : decT most l = ([], [], e)) (he : e ≠ 0) : rdT most l 0 = ([], l, e) := by unfold rdT; rw [h, if_neg (by simp), if_pos he]
theorem rdB_ok {l r : List UInt8} {v : Bool} (h : decB l = (v, r, 0)) : rdB l 0 = (v, r, 0) := by unfold rdB; rw [h]; rfl
theorem rdB_bad {l : List UInt8} {e : Int} (h : decB l = (false, [], e)) (he : e ≠ 0) : rdB l 0 = (false, l, e) := by unfold rdB; rw [h, if_neg (by simp), if_pos he]
theorem decV_cases (l : List UInt8) : (∃ v r, decV 0 0 l = (v, r, 0)) ∨ (∃ e, e ≠ 0 ∧ decV 0 0 l = (0, [], e)) := by
  by_cases h : (decV 0 0 l).2.2 = 0
  · exact .inl ⟨_, _, by rw [← h]⟩
  · exact .inr ⟨_, h, decV_err l 0 0 h⟩
theorem str_size (l : List UInt8) : (⟨l.toArray⟩ : ByteArray).size = l.length := by simp [ByteArray.size]
theorem Rdr.lt {w : World} {b : Nat} {l : List UInt8} {e : Int} (h : Rdr w b l e) : b < w.heap.size := by obtain ⟨s, hr, -⟩ := h; exact hr.lt
theorem Rdr.below {w w' : World} {b B : Nat} {l : List UInt8} {e : Int} (h : Rdr w b l e) (hb : Below B w w') (hB : b < B) : Rdr w' b l e := by
  obtain ⟨s, hr, h1, h2⟩ := h
  exact ⟨s, hr.below hb hB, h1, h2⟩
/-- The reader's bytes, where there is no error. -/
theorem Rdr.at {w : World} {b : Nat} {l : List UInt8} (h : Rdr w b l 0) : ∃ s, IsRd w b s 0 ∧ s.data.toList = l ∧ s.size ≤ 100000000 := by
  obtain ⟨s, hr, h1, h2⟩ := h
  exact ⟨s, hr, h1 rfl, h2⟩
theorem Rdr.of {w : World} {b : Nat} {l : List UInt8} {e : Int} {s : ByteArray} (h : IsRd w b s e) (hl : e = 0 → s.data.toList = l) (hs : s.size ≤ 100000000) : Rdr w b l e := ⟨s, h, hl, hs⟩

theorem same_grown (w : World) (r : Option Nat) : w.grownBy w r := ⟨rfl, rfl, rfl, Nat.le_refl _, fun _ _ _ => rfl⟩
/-- The next n bytes. -/
def rdN (n : Nat) (l : List UInt8) (e : Int) : List UInt8 × List UInt8 × Int := if e ≠ 0 then ([], l, e) else if l.length < n then ([], l, 5) else (l.take n, l.drop n, 0)
theorem rdT_eq (most : Int) (l : List UInt8) (e : Int) : (rdT most l e).1 = (rdN (rdC most l e).1 (rdC most l e).2.1 (rdC most l e).2.2).1 ∧ (rdT most l e).2.2 = (rdN (rdC most l e).1 (rdC most l e).2.1 (rdC most l e).2.2).2.2 ∧ ((rdT most l e).2.2 = 0 → (rdT most l e).2.1 = (rdN (rdC most l e).1 (rdC most l e).2.1 (rdC most l e).2.2).2.1) := by
  by_cases he : e = 0
  · subst he
    rcases decC_cases most l with ⟨v, r, hc, -, -⟩ | ⟨e, he, hc⟩
    · rw [rdC_ok hc]
      by_cases hl : r.length < v
      · have ht : decT most l = ([], [], 5) := by unfold decT; rw [hc, if_neg (by simp), if_pos hl]
        rw [rdT_bad ht (by omega)]
        unfold rdN
        rw [if_neg (by simp), if_pos hl]
        exact ⟨rfl, rfl, fun h => by cases h⟩
      · have ht : decT most l = (r.take v, r.drop v, 0) := by unfold decT; rw [hc, if_neg (by simp), if_neg hl]
        rw [rdT_ok ht]
        unfold rdN
        rw [if_neg (by simp), if_neg hl]
        exact ⟨rfl, rfl, fun _ => rfl⟩
    · have ht : decT most l = ([], [], e) := by unfold decT; rw [hc, if_pos he]
      rw [rdC_bad hc he, rdT_bad ht he]
      unfold rdN
      rw [if_pos he]
      exact ⟨rfl, rfl, fun _ => rfl⟩
  · rw [rdC_err he, rdT_err he]
    unfold rdN
    rw [if_pos he]
    exact ⟨rfl, rfl, fun _ => rfl⟩
theorem rdC_le {most : Int} (l : List UInt8) (e : Int) (hm : 0 ≤ most) : ((rdC most l e).1 : Int) ≤ most := by
  by_cases he : e = 0
  · subst he
    rcases decC_cases most l with ⟨v, r, hc, hv, -⟩ | ⟨e, he, hc⟩
    · rw [rdC_ok hc]; exact hv
    · rw [rdC_bad hc he]; exact hm
  · rw [rdC_err he]; exact hm
end Go.Proofs.Ytopnbbchiglpoaa
