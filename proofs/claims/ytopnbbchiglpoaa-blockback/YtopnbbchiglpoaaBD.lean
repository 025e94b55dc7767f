/- Plain: what the document's own reading of a block tells. -/
import Derived.Test.YtopnbbchiglpoaaBG
namespace Go.Proofs.Ytopnbbchiglpoaa
open Go.RowKit

/-- One version read behind a last key. -/
def stB (last l : List UInt8) : Nat × Ent × List UInt8 × Int :=
  let a := rdC 300 l 0
  let t := rdT 300 a.2.1 a.2.2
  let s := rdV t.2.1 t.2.2
  let n := rdV s.2.1 s.2.2
  let v := rdT 60000 n.2.1 n.2.2
  (a.1, ⟨⟨(last.take a.1 ++ t.1).toArray⟩, (s.1 : Int), (if n.1 = 1 ∨ n.1 = 2 then (n.1 : Int) else 0), ⟨v.1.toArray⟩⟩, v.2.1, v.2.2)
/-- All of them. -/
def decEs : Nat → List UInt8 → List UInt8 → Option (List Ent)
  | 0, _, _ => some []
  | f + 1, last, l => if l = [] then some [] else if last.length < (stB last l).1 then none else if (stB last l).2.2.2 ≠ 0 then none else (decEs f (stB last l).2.1.k.data.toList (stB last l).2.2.1).map ((stB last l).2.1 :: ·)
/-- A block's versions' bytes, or an error. -/
def getBody (b : List UInt8) : Int × List UInt8 :=
  if b.length < 4 then (5, []) else
  if crc (b.take (b.length - 4)) = beVal (b.drop (b.length - 4)) then
    (if b.length < 8 then (4, []) else
     if (b.length - 8) / 4 < beVal ((b.take (b.length - 4)).drop (b.length - 8)) then (4, []) else
     (0, b.take (b.length - 8 - 4 * beVal ((b.take (b.length - 4)).drop (b.length - 8)))))
  else (6, [])
/-- What GetBlock tells. -/
def getE (b : List UInt8) : Int × List Ent :=
  if (getBody b).1 ≠ 0 then ((getBody b).1, []) else
  match decEs (getBody b).2.length [] (getBody b).2 with
  | none => (4, [])
  | some es => if ordB es es.length = true ∧ blkB es = b then (0, es) else (4, [])
theorem decV_bound (l : List UInt8) : ∀ i acc v r, acc < 2 ^ (7 * i) → i ≤ 9 → decV i acc l = (v, r, 0) → v < 18446744073709551616 := by
  induction l with
  | nil => intro i acc v r _ _ h; simp [decV] at h
  | cons b l ih =>
    intro i acc v r ha hi h
    unfold decV at h
    split at h
    · simp at h
    · rename_i hb
      have h9 : i = 9 → b.toNat ≤ 1 := fun e => by
        by_cases h1 : 1 < b.toNat
        · exact absurd (.inl ⟨e, h1⟩) hb
        · omega
      split at h
      · rename_i hlt
        have e : acc + b.toNat * 2 ^ (7 * i) = v := congrArg (·.1) h
        have := grp_sum acc i b hi ha h9
        rw [Nat.mod_eq_of_lt hlt] at this
        omega
      · rename_i hge
        have hi9 : i ≠ 9 := fun e => by have := h9 e; omega
        exact ih _ _ _ _ (grp_lt acc i b ha) (by omega) h
theorem rdV_bound (l : List UInt8) (e : Int) : (rdV l e).1 < 18446744073709551616 := by
  by_cases he : e = 0
  · subst he
    rcases decV_cases l with ⟨v, r, h⟩ | ⟨e, h0, h⟩
    · rw [rdV_ok h]
      exact decV_bound l 0 0 v r (by decide) (by omega) h
    · rw [rdV_bad h h0]
      show 0 < _
      omega
  · rw [rdV_err he]
    show 0 < _
    omega
theorem rdC_sticks {most : Int} {l : List UInt8} {e : Int} (h : (rdC most l e).2.2 = 0) : e = 0 := by
  by_cases he : e = 0
  · exact he
  · rw [rdC_err he] at h; exact absurd h he
theorem rdT_sticks {most : Int} {l : List UInt8} {e : Int} (h : (rdT most l e).2.2 = 0) : e = 0 := by
  by_cases he : e = 0
  · exact he
  · rw [rdT_err he] at h; exact absurd h he
theorem rdV_sticks {l : List UInt8} {e : Int} (h : (rdV l e).2.2 = 0) : e = 0 := by
  by_cases he : e = 0
  · exact he
  · rw [rdV_err he] at h; exact absurd h he
theorem trip {α β γ : Type} (x : α × β × γ) : x = (x.1, x.2.1, x.2.2) := rfl
theorem rdT_le (most : Int) (l : List UInt8) (e : Int) (hm : 0 ≤ most) : ((rdT most l e).1.length : Int) ≤ most := by
  by_cases he : (rdT most l e).2.2 = 0
  · have e0 := rdT_sticks he
    subst e0
    have h : rdT most l 0 = ((rdT most l 0).1, (rdT most l 0).2.1, 0) := by conv => lhs; rw [trip (rdT most l 0), he]
    exact (rdT_eats h).2
  · have : (rdT most l e).1 = [] := by
      by_cases e0 : e = 0
      · subst e0
        unfold rdT at he ⊢
        rw [if_neg (by simp)] at he ⊢
        split
        · rfl
        · rename_i h
          rw [if_neg h] at he
          exact absurd (Decidable.of_not_not h) he
      · rw [rdT_err e0]
    rw [this]
    simpa using hm
/-- What one reading tells is short, and leaves less. -/
theorem stB_any (last l : List UInt8) : (stB last l).1 ≤ 300 ∧ (stB last l).2.1.Ok ∧ (stB last l).2.1.k.size ≤ 600 ∧ ((stB last l).2.2.2 = 0 → (stB last l).2.2.1.length + (stB last l).2.1.v.size + 5 ≤ l.length) := by
  have hC := rdC_le (most := 300) l 0 (by decide)
  have hT := rdT_le 300 (rdC 300 l 0).2.1 (rdC 300 l 0).2.2 (by decide)
  unfold stB
  simp only
  generalize hc : rdC 300 l 0 = c at *
  generalize ht : rdT 300 c.2.1 c.2.2 = t at *
  have hS := rdV_bound t.2.1 t.2.2
  generalize hs : rdV t.2.1 t.2.2 = s at *
  have hN := rdV_bound s.2.1 s.2.2
  generalize hn : rdV s.2.1 s.2.2 = n at *
  have hV := rdT_le 60000 n.2.1 n.2.2 (by decide)
  generalize hv : rdT 60000 n.2.1 n.2.2 = v at *
  have hk : (⟨(last.take c.1 ++ t.1).toArray⟩ : ByteArray).size ≤ 600 := by
    rw [str_size, List.length_append, List.length_take]
    omega
  have hvs : (⟨v.1.toArray⟩ : ByteArray).size = v.1.length := str_size _
  refine ⟨by omega, ⟨?_, ?_, ?_, ?_, ?_, ?_⟩, hk, fun h0 => ?_⟩
  · show (⟨(last.take c.1 ++ t.1).toArray⟩ : ByteArray).size ≤ _
    unfold maxLen; omega
  · show (0 : Int) ≤ (s.1 : Int); omega
  · show (s.1 : Int) ≤ _; omega
  · show _ ≤ (if n.1 = 1 ∨ n.1 = 2 then (n.1 : Int) else 0)
    split <;> omega
  · show (if n.1 = 1 ∨ n.1 = 2 then (n.1 : Int) else 0) ≤ _
    split <;> omega
  · show (⟨v.1.toArray⟩ : ByteArray).size ≤ _
    rw [hvs]; unfold maxLen; omega
  · have k5 : n.2.2 = 0 := rdT_sticks (most := 60000) (l := n.2.1) (by rw [hv]; exact h0)
    have k4 : s.2.2 = 0 := rdV_sticks (l := s.2.1) (by rw [hn]; exact k5)
    have k3 : t.2.2 = 0 := rdV_sticks (l := t.2.1) (by rw [hs]; exact k4)
    have k2 : c.2.2 = 0 := rdT_sticks (most := 300) (l := c.2.1) (by rw [ht]; exact k3)
    have j1 : rdC 300 l 0 = (c.1, c.2.1, 0) := by rw [hc, ← k2]
    have j2 : rdT 300 c.2.1 0 = (t.1, t.2.1, 0) := by rw [k2] at ht; rw [ht, ← k3]
    have j3 : rdV t.2.1 0 = (s.1, s.2.1, 0) := by rw [k3] at hs; rw [hs, ← k4]
    have j4 : rdV s.2.1 0 = (n.1, n.2.1, 0) := by rw [k4] at hn; rw [hn, ← k5]
    have j5 : rdT 60000 n.2.1 0 = (v.1, v.2.1, 0) := by rw [k5] at hv; rw [hv, ← h0]
    have i1 := (rdC_eats j1).1
    have i2 := (rdT_eats j2).1
    have i3 := rdV_eats j3
    have i4 := rdV_eats j4
    have i5 := (rdT_eats j5).1
    show v.2.1.length + (⟨v.1.toArray⟩ : ByteArray).size + 5 ≤ l.length
    rw [hvs]
    omega
theorem decEs_nil (f : Nat) (last : List UInt8) : decEs f last [] = some [] := by cases f <;> simp [decEs]
/-- A version more is read. -/
theorem decEs_yes {D : Option (List Ent)} {f : Nat} {es : List Ent} {last l : List UInt8} (hl : l ≠ []) (hf : l.length ≤ f) (h : D = (decEs f last l).map (es ++ ·)) (h1 : (stB last l).1 ≤ last.length) (h2 : (stB last l).2.2.2 = 0) :
    ∃ f', (stB last l).2.2.1.length ≤ f' ∧ D = (decEs f' (stB last l).2.1.k.data.toList (stB last l).2.2.1).map ((es ++ [(stB last l).2.1]) ++ ·) := by
  cases f with
  | zero => exact absurd (List.eq_nil_of_length_eq_zero (by omega)) hl
  | succ f =>
    have hs := (stB_any last l).2.2.2 h2
    refine ⟨f, by omega, ?_⟩
    rw [h, decEs, if_neg hl, if_neg (by omega), if_neg (by simpa using h2), Option.map_map]
    congr 1
    funext x
    simp
theorem decEs_no {D : Option (List Ent)} {f : Nat} {es : List Ent} {last l : List UInt8} (hl : l ≠ []) (hf : l.length ≤ f) (h : D = (decEs f last l).map (es ++ ·)) (h1 : last.length < (stB last l).1 ∨ (stB last l).2.2.2 ≠ 0) : D = none := by
  cases f with
  | zero => exact absurd (List.eq_nil_of_length_eq_zero (by omega)) hl
  | succ f =>
    rw [h, decEs, if_neg hl]
    by_cases h2 : last.length < (stB last l).1
    · rw [if_pos h2]; rfl
    · rw [if_neg h2, if_pos (h1.resolve_left h2)]; rfl
theorem getE_err {b : List UInt8} {e : Int} {l : List UInt8} (h : getBody b = (e, l)) (he : e ≠ 0) : getE b = (e, []) := by unfold getE; rw [h, if_pos he]
theorem getE_none {b l : List UInt8} (h : getBody b = (0, l)) (hd : decEs l.length [] l = none) : getE b = (4, []) := by
  unfold getE
  rw [h, if_neg (by simp)]
  simp only [hd]
theorem getE_some {b l : List UInt8} {es : List Ent} (h : getBody b = (0, l)) (hd : decEs l.length [] l = some es) : getE b = if ordB es es.length = true ∧ blkB es = b then (0, es) else (4, []) := by
  unfold getE
  rw [h, if_neg (by simp)]
  simp only [hd]
end Go.Proofs.Ytopnbbchiglpoaa
