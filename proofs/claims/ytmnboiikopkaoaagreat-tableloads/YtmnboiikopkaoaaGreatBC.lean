/- Joined: BG BD BX. -/
import Derived.Test.YtmnboiikopkaoaaGreatBP
import Derived.Test.YtmnboiikopkaoaaGreatRA
namespace Go.Proofs.YtmnboiikopkaoaaGreat
open Go.RowKit

theorem bodyB_pre (l : List Ent) (k : Nat) : ∀ n, k ≤ n → ∃ t, bodyB l n = bodyB l k ++ t := by
  intro n
  induction n with
  | zero => intro h; obtain rfl : k = 0 := by omega
            exact ⟨[], by simp⟩
  | succ n ih =>
    intro h
    by_cases e : k = n + 1
    · subst e; exact ⟨[], by simp⟩
    · obtain ⟨t, ht⟩ := ih (by omega)
      exact ⟨t ++ entB (shN l n) (entAt l n), by show bodyB l n ++ _ = _; rw [ht]; simp⟩
/-- What stands behind the first k. -/
def restB (l : List Ent) (k : Nat) : List UInt8 := (bodyB l l.length).drop (bodyB l k).length
theorem restB_zero (l : List Ent) : restB l 0 = bodyB l l.length := by simp [restB, bodyB]
theorem restB_all (l : List Ent) : restB l l.length = [] := by simp [restB]
theorem restB_step (l : List Ent) (k : Nat) (h : k < l.length) : restB l k = entB (shN l k) (entAt l k) ++ restB l (k + 1) := by
  obtain ⟨t, ht⟩ := bodyB_pre l (k + 1) l.length h
  have h1 : restB l (k + 1) = t := by unfold restB; rw [ht]; simp
  rw [h1]
  unfold restB
  rw [ht]
  show (bodyB l k ++ entB (shN l k) (entAt l k) ++ t).drop _ = _
  rw [List.append_assoc]
  simp
theorem tailB_cnt (l : List Ent) : ∀ k, (tailB l k).length = 4 * ((k + 3) / 4)
  | 0 => by simp [tailB]
  | k + 1 => by
    have ih := tailB_cnt l k
    show (if k % 4 = 0 then tailB l k ++ be (bodyB l k).length 4 else tailB l k).length = _
    split
    · rw [List.length_append, be_length, ih]; omega
    · rw [ih]; omega
/-- What five readings tell of a version's bytes. -/
theorem entB_dec (sh : Nat) (e : Ent) (t : List UInt8) (h1 : sh ≤ 300) (h2 : sh ≤ e.k.size) (h3 : e.k.size ≤ 300) (h4 : e.v.size ≤ 60000) (h5 : e.s.toNat < 18446744073709551616) (h6 : e.n.toNat < 18446744073709551616) :
    ∃ y1 y2 y3 y4, rdC 300 (entB sh e ++ t) 0 = (sh, y1, 0) ∧ rdT 300 y1 0 = (e.k.data.toList.drop sh, y2, 0) ∧ rdV y2 0 = (e.s.toNat, y3, 0) ∧ rdV y3 0 = (e.n.toNat, y4, 0) ∧ rdT 60000 y4 0 = (e.v.data.toList, t, 0) := by
  have k1 : e.k.size - sh = (e.k.data.toList.drop sh).length := by rw [List.length_drop, len_data']
  have k2 : e.v.size = e.v.data.toList.length := by rw [len_data']
  have hk : (e.k.data.toList.drop sh).length ≤ 300 := by rw [← k1]; omega
  have hv : e.v.data.toList.length ≤ 60000 := by rw [← k2]; exact h4
  refine ⟨Lib.uvarint (e.k.data.toList.drop sh).length ++ (e.k.data.toList.drop sh ++ (Lib.uvarint e.s.toNat ++ (Lib.uvarint e.n.toNat ++ (Lib.uvarint e.v.data.toList.length ++ (e.v.data.toList ++ t))))), Lib.uvarint e.s.toNat ++ (Lib.uvarint e.n.toNat ++ (Lib.uvarint e.v.data.toList.length ++ (e.v.data.toList ++ t))), Lib.uvarint e.n.toNat ++ (Lib.uvarint e.v.data.toList.length ++ (e.v.data.toList ++ t)), Lib.uvarint e.v.data.toList.length ++ (e.v.data.toList ++ t), ?_, rdT_ok (decT_laid 300 _ _ (by omega) (by omega)), rdV_ok (decV_laid _ _ h5), rdV_ok (decV_laid _ _ h6), rdT_ok (decT_laid 60000 _ _ (by omega) (by omega))⟩
  have e1 : entB sh e ++ t = Lib.uvarint sh ++ (Lib.uvarint (e.k.data.toList.drop sh).length ++ (e.k.data.toList.drop sh ++ (Lib.uvarint e.s.toNat ++ (Lib.uvarint e.n.toNat ++ (Lib.uvarint e.v.data.toList.length ++ (e.v.data.toList ++ t)))))) := by
    unfold entB
    rw [k1, k2]
    simp [vars]
  rw [e1]
  exact rdC_ok (decC_laid 300 sh _ (by omega) (by omega))
theorem decV_eats (l : List UInt8) : ∀ i acc v r, decV i acc l = (v, r, 0) → r.length < l.length := by
  induction l with
  | nil => intro i acc v r h; simp [decV] at h
  | cons b l ih =>
    intro i acc v r h
    unfold decV at h
    split at h
    · simp at h
    · split at h
      · have : r = l := by simp at h; exact h.2.symm
        rw [this]; simp
      · have := ih _ _ _ _ h
        simp; omega
theorem rdV_eats {l r : List UInt8} {v : Nat} (h : rdV l 0 = (v, r, 0)) : r.length < l.length := by
  rcases decV_cases l with ⟨v', r', hv⟩ | ⟨e, he, hv⟩
  · rw [rdV_ok hv] at h
    obtain ⟨rfl, rfl, -⟩ : v' = v ∧ r' = r ∧ True := by simpa using h
    exact decV_eats l 0 0 _ _ hv
  · rw [rdV_bad hv he] at h
    simp at h
    exact absurd h.2.2 he
theorem rdC_eats {most : Int} {l r : List UInt8} {v : Nat} (h : rdC most l 0 = (v, r, 0)) : r.length < l.length ∧ (v : Int) ≤ most := by
  rcases decC_cases most l with ⟨v', r', hc, hm, hv⟩ | ⟨e, he, hc⟩
  · rw [rdC_ok hc] at h
    obtain ⟨rfl, rfl⟩ : v' = v ∧ r' = r := by simpa using h
    exact ⟨decV_eats l 0 0 _ _ hv, hm⟩
  · rw [rdC_bad hc he] at h
    simp at h
    exact absurd h.2.2 he
/-- A reading of a text leaves less, and what it tells is short. -/
theorem rdT_eats {most : Int} {l t r : List UInt8} (h : rdT most l 0 = (t, r, 0)) : r.length + t.length < l.length ∧ (t.length : Int) ≤ most := by
  rcases decC_cases most l with ⟨v', r', hc, hm, hv⟩ | ⟨e, he, hc⟩
  · by_cases hl : r'.length < v'
    · have ht : decT most l = ([], [], 5) := by unfold decT; rw [hc, if_neg (by simp), if_pos hl]
      rw [rdT_bad ht (by omega)] at h
      simp at h
    · have ht : decT most l = (r'.take v', r'.drop v', 0) := by unfold decT; rw [hc, if_neg (by simp), if_neg hl]
      rw [rdT_ok ht] at h
      obtain ⟨rfl, rfl⟩ : r'.take v' = t ∧ r'.drop v' = r := by simpa using h
      have := decV_eats l 0 0 _ _ hv
      rw [List.length_take, List.length_drop]
      omega
  · have ht : decT most l = ([], [], e) := by unfold decT; rw [hc, if_pos he]
    rw [rdT_bad ht he] at h
    simp at h
    exact absurd h.2.2 he
end Go.Proofs.YtmnboiikopkaoaaGreat

namespace Go.Proofs.YtmnboiikopkaoaaGreat
open Go.RowKit

/-- One version read behind a last key. -/
def stB (last l : List UInt8) : Nat × Ent × List UInt8 × Int :=
  let a := rdC 300 l 0
  let t := rdT 300 a.2.1 a.2.2
  let s := rdV t.2.1 t.2.2
  let n := rdV s.2.1 s.2.2
  let v := rdT 60000 n.2.1 n.2.2
  (a.1, ⟨⟨(last.take a.1 ++ t.1).toArray⟩, (s.1 : Int), (if n.1 = 1 ∨ n.1 = 2 then (n.1 : Int) else 0), ⟨v.1.toArray⟩⟩, v.2.1, v.2.2)
/-- All of them. -/
def decEs : Nat → List UInt8 → List UInt8 → Option (List Ent)
  | 0, _, _ => some []
  | f + 1, last, l => if l = [] then some [] else if last.length < (stB last l).1 then none else if (stB last l).2.2.2 ≠ 0 then none else (decEs f (stB last l).2.1.k.data.toList (stB last l).2.2.1).map ((stB last l).2.1 :: ·)
/-- A block's versions' bytes, or an error. -/
def getBody (b : List UInt8) : Int × List UInt8 :=
  if b.length < 4 then (5, []) else
  if crc (b.take (b.length - 4)) = beVal (b.drop (b.length - 4)) then
    (if b.length < 8 then (4, []) else
     if (b.length - 8) / 4 < beVal ((b.take (b.length - 4)).drop (b.length - 8)) then (4, []) else
     (0, b.take (b.length - 8 - 4 * beVal ((b.take (b.length - 4)).drop (b.length - 8)))))
  else (6, [])
/-- What GetBlock tells. -/
def getE (b : List UInt8) : Int × List Ent :=
  if (getBody b).1 ≠ 0 then ((getBody b).1, []) else
  match decEs (getBody b).2.length [] (getBody b).2 with
  | none => (4, [])
  | some es => if ordB es es.length = true ∧ blkB es = b then (0, es) else (4, [])
theorem decV_bound (l : List UInt8) : ∀ i acc v r, acc < 2 ^ (7 * i) → i ≤ 9 → decV i acc l = (v, r, 0) → v < 18446744073709551616 := by
  induction l with
  | nil => intro i acc v r _ _ h; simp [decV] at h
  | cons b l ih =>
    intro i acc v r ha hi h
    unfold decV at h
    split at h
    · simp at h
    · rename_i hb
      have h9 : i = 9 → b.toNat ≤ 1 := fun e => by
        by_cases h1 : 1 < b.toNat
        · exact absurd (.inl ⟨e, h1⟩) hb
        · omega
      split at h
      · rename_i hlt
        have e : acc + b.toNat * 2 ^ (7 * i) = v := congrArg (·.1) h
        have := grp_sum acc i b hi ha h9
        rw [Nat.mod_eq_of_lt hlt] at this
        omega
      · rename_i hge
        have hi9 : i ≠ 9 := fun e => by have := h9 e; omega
        exact ih _ _ _ _ (grp_lt acc i b ha) (by omega) h
theorem rdV_bound (l : List UInt8) (e : Int) : (rdV l e).1 < 18446744073709551616 := by
  by_cases he : e = 0
  · subst he
    rcases decV_cases l with ⟨v, r, h⟩ | ⟨e, h0, h⟩
    · rw [rdV_ok h]
      exact decV_bound l 0 0 v r (by decide) (by omega) h
    · rw [rdV_bad h h0]
      show 0 < _
      omega
  · rw [rdV_err he]
    show 0 < _
    omega
theorem rdC_sticks {most : Int} {l : List UInt8} {e : Int} (h : (rdC most l e).2.2 = 0) : e = 0 := by
  by_cases he : e = 0
  · exact he
  · rw [rdC_err he] at h; exact absurd h he
theorem rdT_sticks {most : Int} {l : List UInt8} {e : Int} (h : (rdT most l e).2.2 = 0) : e = 0 := by
  by_cases he : e = 0
  · exact he
  · rw [rdT_err he] at h; exact absurd h he
theorem rdV_sticks {l : List UInt8} {e : Int} (h : (rdV l e).2.2 = 0) : e = 0 := by
  by_cases he : e = 0
  · exact he
  · rw [rdV_err he] at h; exact absurd h he
theorem trip {α β γ : Type} (x : α × β × γ) : x = (x.1, x.2.1, x.2.2) := rfl
theorem rdT_le (most : Int) (l : List UInt8) (e : Int) (hm : 0 ≤ most) : ((rdT most l e).1.length : Int) ≤ most := by
  by_cases he : (rdT most l e).2.2 = 0
  · have e0 := rdT_sticks he
    subst e0
    have h : rdT most l 0 = ((rdT most l 0).1, (rdT most l 0).2.1, 0) := by conv => lhs; rw [trip (rdT most l 0), he]
    exact (rdT_eats h).2
  · have : (rdT most l e).1 = [] := by
      by_cases e0 : e = 0
      · subst e0
        unfold rdT at he ⊢
        rw [if_neg (by simp)] at he ⊢
        split
        · rfl
        · rename_i h
          rw [if_neg h] at he
          exact absurd (Decidable.of_not_not h) he
      · rw [rdT_err e0]
    rw [this]
    simpa using hm
/-- What one reading tells is short, and leaves less. -/
theorem stB_any (last l : List UInt8) : (stB last l).1 ≤ 300 ∧ (stB last l).2.1.Ok ∧ (stB last l).2.1.k.size ≤ 600 ∧ ((stB last l).2.2.2 = 0 → (stB last l).2.2.1.length + (stB last l).2.1.v.size + 5 ≤ l.length) := by
  have hC := rdC_le (most := 300) l 0 (by decide)
  have hT := rdT_le 300 (rdC 300 l 0).2.1 (rdC 300 l 0).2.2 (by decide)
  unfold stB
  simp only
  generalize hc : rdC 300 l 0 = c at *
  generalize ht : rdT 300 c.2.1 c.2.2 = t at *
  have hS := rdV_bound t.2.1 t.2.2
  generalize hs : rdV t.2.1 t.2.2 = s at *
  have hN := rdV_bound s.2.1 s.2.2
  generalize hn : rdV s.2.1 s.2.2 = n at *
  have hV := rdT_le 60000 n.2.1 n.2.2 (by decide)
  generalize hv : rdT 60000 n.2.1 n.2.2 = v at *
  have hk : (⟨(last.take c.1 ++ t.1).toArray⟩ : ByteArray).size ≤ 600 := by
    rw [str_size, List.length_append, List.length_take]
    omega
  have hvs : (⟨v.1.toArray⟩ : ByteArray).size = v.1.length := str_size _
  refine ⟨by omega, ⟨?_, ?_, ?_, ?_, ?_, ?_⟩, hk, fun h0 => ?_⟩
  · show (⟨(last.take c.1 ++ t.1).toArray⟩ : ByteArray).size ≤ _
    unfold maxLen; omega
  · show (0 : Int) ≤ (s.1 : Int); omega
  · show (s.1 : Int) ≤ _; omega
  · show _ ≤ (if n.1 = 1 ∨ n.1 = 2 then (n.1 : Int) else 0)
    split <;> omega
  · show (if n.1 = 1 ∨ n.1 = 2 then (n.1 : Int) else 0) ≤ _
    split <;> omega
  · show (⟨v.1.toArray⟩ : ByteArray).size ≤ _
    rw [hvs]; unfold maxLen; omega
  · have k5 : n.2.2 = 0 := rdT_sticks (most := 60000) (l := n.2.1) (by rw [hv]; exact h0)
    have k4 : s.2.2 = 0 := rdV_sticks (l := s.2.1) (by rw [hn]; exact k5)
    have k3 : t.2.2 = 0 := rdV_sticks (l := t.2.1) (by rw [hs]; exact k4)
    have k2 : c.2.2 = 0 := rdT_sticks (most := 300) (l := c.2.1) (by rw [ht]; exact k3)
    have j1 : rdC 300 l 0 = (c.1, c.2.1, 0) := by rw [hc, ← k2]
    have j2 : rdT 300 c.2.1 0 = (t.1, t.2.1, 0) := by rw [k2] at ht; rw [ht, ← k3]
    have j3 : rdV t.2.1 0 = (s.1, s.2.1, 0) := by rw [k3] at hs; rw [hs, ← k4]
    have j4 : rdV s.2.1 0 = (n.1, n.2.1, 0) := by rw [k4] at hn; rw [hn, ← k5]
    have j5 : rdT 60000 n.2.1 0 = (v.1, v.2.1, 0) := by rw [k5] at hv; rw [hv, ← h0]
    have i1 := (rdC_eats j1).1
    have i2 := (rdT_eats j2).1
    have i3 := rdV_eats j3
    have i4 := rdV_eats j4
    have i5 := (rdT_eats j5).1
    show v.2.1.length + (⟨v.1.toArray⟩ : ByteArray).size + 5 ≤ l.length
    rw [hvs]
    omega
theorem decEs_nil (f : Nat) (last : List UInt8) : decEs f last [] = some [] := by cases f <;> simp [decEs]
/-- A version more is read. -/
theorem decEs_yes {D : Option (List Ent)} {f : Nat} {es : List Ent} {last l : List UInt8} (hl : l ≠ []) (hf : l.length ≤ f) (h : D = (decEs f last l).map (es ++ ·)) (h1 : (stB last l).1 ≤ last.length) (h2 : (stB last l).2.2.2 = 0) :
    ∃ f', (stB last l).2.2.1.length ≤ f' ∧ D = (decEs f' (stB last l).2.1.k.data.toList (stB last l).2.2.1).map ((es ++ [(stB last l).2.1]) ++ ·) := by
  cases f with
  | zero => exact absurd (List.eq_nil_of_length_eq_zero (by omega)) hl
  | succ f =>
    have hs := (stB_any last l).2.2.2 h2
    refine ⟨f, by omega, ?_⟩
    rw [h, decEs, if_neg hl, if_neg (by omega), if_neg (by simpa using h2), Option.map_map]
    congr 1
    funext x
    simp
theorem decEs_no {D : Option (List Ent)} {f : Nat} {es : List Ent} {last l : List UInt8} (hl : l ≠ []) (hf : l.length ≤ f) (h : D = (decEs f last l).map (es ++ ·)) (h1 : last.length < (stB last l).1 ∨ (stB last l).2.2.2 ≠ 0) : D = none := by
  cases f with
  | zero => exact absurd (List.eq_nil_of_length_eq_zero (by omega)) hl
  | succ f =>
    rw [h, decEs, if_neg hl]
    by_cases h2 : last.length < (stB last l).1
    · rw [if_pos h2]; rfl
    · rw [if_neg h2, if_pos (h1.resolve_left h2)]; rfl
theorem getE_err {b : List UInt8} {e : Int} {l : List UInt8} (h : getBody b = (e, l)) (he : e ≠ 0) : getE b = (e, []) := by unfold getE; rw [h, if_pos he]
theorem getE_none {b l : List UInt8} (h : getBody b = (0, l)) (hd : decEs l.length [] l = none) : getE b = (4, []) := by
  unfold getE
  rw [h, if_neg (by simp)]
  simp only [hd]
theorem getE_some {b l : List UInt8} {es : List Ent} (h : getBody b = (0, l)) (hd : decEs l.length [] l = some es) : getE b = if ordB es es.length = true ∧ blkB es = b then (0, es) else (4, []) := by
  unfold getE
  rw [h, if_neg (by simp)]
  simp only [hd]
end Go.Proofs.YtmnboiikopkaoaaGreat

namespace Go.Proofs.YtmnboiikopkaoaaGreat
open Go.RowKit

/-- The key ahead. -/
def lastB (l : List Ent) (k : Nat) : List UInt8 := if k = 0 then [] else (entAt l (k - 1)).k.data.toList
theorem shN_last (l : List Ent) (k : Nat) : (lastB l k).take (shN l k) ++ (entAt l k).k.data.toList.drop (shN l k) = (entAt l k).k.data.toList ∧ shN l k ≤ (lastB l k).length ∧ shN l k ≤ (entAt l k).k.size := by
  unfold shN
  by_cases h : k % 4 = 0
  · rw [if_pos h]
    exact ⟨by simp, Nat.zero_le _, Nat.zero_le _⟩
  · rw [if_neg h]
    have hk : k ≠ 0 := by omega
    have hl : lastB l k = (entAt l (k - 1)).k.data.toList := by unfold lastB; rw [if_neg hk]
    rw [hl]
    refine ⟨?_, shr_le1 _ _, by rw [← len_data']; exact shr_le2 _ _⟩
    rw [shr_take, List.take_append_drop]
theorem valid_parts {e : Ent} (h : vldE e = true) : e.k.size ≤ 300 ∧ e.v.size ≤ 60000 ∧ (e.n = 1 ∨ e.n = 2) := by
  unfold vldE validB at h
  simp only [Bool.and_eq_true, Bool.or_eq_true, decide_eq_true_eq, beq_iff_eq] at h
  exact ⟨h.1.1, h.1.2, by rcases h.2 with h | h; exact .inl h; exact .inr h.1⟩
theorem stB_laid (l : List Ent) (k : Nat) (hk : k < l.length) (hv : vldE (entAt l k) = true) (hs : 0 ≤ (entAt l k).s ∧ (entAt l k).s ≤ 18446744073709551615) :
    stB (lastB l k) (restB l k) = (shN l k, entAt l k, restB l (k + 1), 0) := by
  obtain ⟨h1, h2, h3⟩ := valid_parts hv
  obtain ⟨e1, e2, e3⟩ := shN_last l k
  obtain ⟨y1, y2, y3, y4, d1, d2, d3, d4, d5⟩ := entB_dec (shN l k) (entAt l k) (restB l (k + 1)) (by omega) e3 h1 h2 (by omega) (by omega)
  unfold stB
  rw [restB_step l k hk]
  simp only [d1, d2, d3, d4, d5]
  rw [e1]
  generalize entAt l k = x at *
  obtain ⟨xk, xs, xn, xv⟩ := x
  have hn : (if xn.toNat = 1 ∨ xn.toNat = 2 then ((xn.toNat : Nat) : Int) else 0) = xn := by
    have h3 : xn = 1 ∨ xn = 2 := h3
    rw [if_pos (by omega)]
    omega
  have hs2 : ((xs.toNat : Nat) : Int) = xs := by have : 0 ≤ xs := hs.1; omega
  simp only
  rw [hn, hs2]
theorem decEs_laid (l : List Ent) (ho : ordB l l.length = true) (hs : ∀ x ∈ l, 0 ≤ x.s ∧ x.s ≤ 18446744073709551615) : ∀ (n k f : Nat), n + k = l.length → (restB l k).length ≤ f → decEs f (lastB l k) (restB l k) = some (l.drop k) := by
  intro n
  induction n with
  | zero =>
    intro k f hk hf
    obtain rfl : k = l.length := by omega
    rw [restB_all, decEs_nil]
    simp
  | succ n ih =>
    intro k f hk hf
    have hkl : k < l.length := by omega
    have hst := stB_laid l k hkl (ordB_at ho hkl).1 (by rw [entAt_get hkl]; exact hs _ (List.getElem_mem _))
    have hlen := (stB_any (lastB l k) (restB l k)).2.2.2 (by rw [hst])
    rw [hst] at hlen
    simp only at hlen
    have hne : restB l k ≠ [] := fun e => by rw [e] at hlen; simp at hlen
    cases f with
    | zero => omega
    | succ f =>
      rw [decEs, if_neg hne, hst]
      simp only
      rw [if_neg (by have := (shN_last l k).2.1; omega), if_neg (by simp)]
      have hlast : (entAt l k).k.data.toList = lastB l (k + 1) := by unfold lastB; rw [if_neg (by omega)]; simp
      rw [hlast, ih (k + 1) f (by omega) (by omega)]
      rw [List.drop_eq_getElem_cons hkl, entAt_get hkl]
      rfl
theorem getBody_laid (l : List Ent) (hl : l.length ≤ 1000000) : getBody (blkB l) = (0, bodyB l l.length) := by
  obtain ⟨body, hb⟩ : ∃ body, bodyB l l.length = body := ⟨_, rfl⟩
  obtain ⟨tail, ht⟩ : ∃ tail, tailB l l.length = tail := ⟨_, rfl⟩
  have htl : tail.length = 4 * ((l.length + 3) / 4) := by rw [← ht]; exact tailB_cnt l l.length
  obtain ⟨cnt, hc⟩ : ∃ cnt, (l.length + 3) / 4 = cnt := ⟨_, rfl⟩
  rw [hc] at htl
  have hcl : cnt < 4294967296 := by omega
  unfold blkB
  rw [hb, ht, hc]
  obtain ⟨s, hs⟩ : ∃ s, body ++ tail ++ be cnt 4 = s := ⟨_, rfl⟩
  have hsl : s.length = body.length + 4 * cnt + 4 := by rw [← hs, List.length_append, List.length_append, be_length, htl]
  rw [hs]
  have hL : (sealF s).length = s.length + 4 := by unfold sealF; rw [List.length_append, be_length]
  have hT : (sealF s).take s.length = s := by unfold sealF; simp
  have hD : (sealF s).drop s.length = be (crc s) 4 := by unfold sealF; simp
  unfold getBody
  rw [hL, if_neg (by omega), show s.length + 4 - 4 = s.length by omega, hT, hD, beVal_be 4 _ (crc_lt s), if_pos rfl, if_neg (by omega), show s.length + 4 - 8 = body.length + 4 * cnt by omega]
  have hS : s.drop (body.length + 4 * cnt) = be cnt 4 := by
    rw [← hs, show body.length + 4 * cnt = (body ++ tail).length by rw [List.length_append, htl]]
    simp
  rw [hS, beVal_be 4 cnt (by omega), if_neg (by omega), show body.length + 4 * cnt - 4 * cnt = body.length by omega]
  have : (sealF s).take body.length = body := by
    unfold sealF
    rw [← hs]
    simp
  rw [this]
/-- What was laid is told. -/
theorem getE_laid (l : List Ent) (hl : l.length ≤ 1000000) (ho : ordB l l.length = true) (hs : ∀ x ∈ l, 0 ≤ x.s ∧ x.s ≤ 18446744073709551615) : getE (blkB l) = (0, l) := by
  have hd := decEs_laid l ho hs l.length 0 (bodyB l l.length).length (by omega) (by rw [restB_zero]; omega)
  rw [restB_zero] at hd
  have := getE_some (getBody_laid l hl) hd
  rw [this]
  simp [ho]
/-- No others lay the same bytes. -/
theorem blkB_inj (l m : List Ent) (hl : l.length ≤ 1000000) (ho : ordB l l.length = true) (hs : ∀ x ∈ l, 0 ≤ x.s ∧ x.s ≤ 18446744073709551615) (hl2 : m.length ≤ 1000000) (ho2 : ordB m m.length = true) (hs2 : ∀ x ∈ m, 0 ≤ x.s ∧ x.s ≤ 18446744073709551615) (h : blkB l = blkB m) : l = m := by
  have h1 := getE_laid l hl ho hs
  rw [h, getE_laid m hl2 ho2 hs2] at h1
  exact (congrArg (·.2) h1).symm
/-- What is told was laid: the bytes are those of its versions. -/
theorem getE_ok {b : List UInt8} {l : List Ent} (h : getE b = (0, l)) : ordB l l.length = true ∧ blkB l = b := by
  unfold getE at h
  split at h
  · rename_i hz
    exact absurd (congrArg (·.1) h) hz
  · split at h
    · exact absurd (congrArg (·.1) h) (by simp)
    · split at h
      · rename_i hq
        obtain rfl := congrArg (·.2) h
        exact hq
      · exact absurd (congrArg (·.1) h) (by simp)
end Go.Proofs.YtmnboiikopkaoaaGreat
