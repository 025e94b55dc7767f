/- Plain: a block's bytes are read as the versions that they were laid of. -/
import Derived.Test.YtopnbbchiglpoaaBP
import Derived.Test.YtopnbbchiglpoaaRS
namespace Go.Proofs.Ytopnbbchiglpoaa
open Go.RowKit

theorem bodyB_pre (l : List Ent) (k : Nat) : ∀ n, k ≤ n → ∃ t, bodyB l n = bodyB l k ++ t := by
  intro n
  induction n with
  | zero => intro h; obtain rfl : k = 0 := by omega
            exact ⟨[], by simp⟩
  | succ n ih =>
    intro h
    by_cases e : k = n + 1
    · subst e; exact ⟨[], by simp⟩
    · obtain ⟨t, ht⟩ := ih (by omega)
      exact ⟨t ++ entB (shN l n) (entAt l n), by show bodyB l n ++ _ = _; rw [ht]; simp⟩
/-- What stands behind the first k. -/
def restB (l : List Ent) (k : Nat) : List UInt8 := (bodyB l l.length).drop (bodyB l k).length
theorem restB_zero (l : List Ent) : restB l 0 = bodyB l l.length := by simp [restB, bodyB]
theorem restB_all (l : List Ent) : restB l l.length = [] := by simp [restB]
theorem restB_step (l : List Ent) (k : Nat) (h : k < l.length) : restB l k = entB (shN l k) (entAt l k) ++ restB l (k + 1) := by
  obtain ⟨t, ht⟩ := bodyB_pre l (k + 1) l.length h
  have h1 : restB l (k + 1) = t := by unfold restB; rw [ht]; simp
  rw [h1]
  unfold restB
  rw [ht]
  show (bodyB l k ++ entB (shN l k) (entAt l k) ++ t).drop _ = _
  rw [List.append_assoc]
  simp
theorem tailB_cnt (l : List Ent) : ∀ k, (tailB l k).length = 4 * ((k + 3) / 4)
  | 0 => by simp [tailB]
  | k + 1 => by
    have ih := tailB_cnt l k
    show (if k % 4 = 0 then tailB l k ++ be (bodyB l k).length 4 else tailB l k).length = _
    split
    · rw [List.length_append, be_length, ih]; omega
    · rw [ih]; omega
/-- What five readings tell of a version's bytes. -/
theorem entB_dec (sh : Nat) (e : Ent) (t : List UInt8) (h1 : sh ≤ 300) (h2 : sh ≤ e.k.size) (h3 : e.k.size ≤ 300) (h4 : e.v.size ≤ 60000) (h5 : e.s.toNat < 18446744073709551616) (h6 : e.n.toNat < 18446744073709551616) :
    ∃ y1 y2 y3 y4, rdC 300 (entB sh e ++ t) 0 = (sh, y1, 0) ∧ rdT 300 y1 0 = (e.k.data.toList.drop sh, y2, 0) ∧ rdV y2 0 = (e.s.toNat, y3, 0) ∧ rdV y3 0 = (e.n.toNat, y4, 0) ∧ rdT 60000 y4 0 = (e.v.data.toList, t, 0) := by
  have k1 : e.k.size - sh = (e.k.data.toList.drop sh).length := by rw [List.length_drop, len_data']
  have k2 : e.v.size = e.v.data.toList.length := by rw [len_data']
  have hk : (e.k.data.toList.drop sh).length ≤ 300 := by rw [← k1]; omega
  have hv : e.v.data.toList.length ≤ 60000 := by rw [← k2]; exact h4
  refine ⟨Lib.uvarint (e.k.data.toList.drop sh).length ++ (e.k.data.toList.drop sh ++ (Lib.uvarint e.s.toNat ++ (Lib.uvarint e.n.toNat ++ (Lib.uvarint e.v.data.toList.length ++ (e.v.data.toList ++ t))))), Lib.uvarint e.s.toNat ++ (Lib.uvarint e.n.toNat ++ (Lib.uvarint e.v.data.toList.length ++ (e.v.data.toList ++ t))), Lib.uvarint e.n.toNat ++ (Lib.uvarint e.v.data.toList.length ++ (e.v.data.toList ++ t)), Lib.uvarint e.v.data.toList.length ++ (e.v.data.toList ++ t), ?_, rdT_ok (decT_laid 300 _ _ (by omega) (by omega)), rdV_ok (decV_laid _ _ h5), rdV_ok (decV_laid _ _ h6), rdT_ok (decT_laid 60000 _ _ (by omega) (by omega))⟩
  have e1 : entB sh e ++ t = Lib.uvarint sh ++ (Lib.uvarint (e.k.data.toList.drop sh).length ++ (e.k.data.toList.drop sh ++ (Lib.uvarint e.s.toNat ++ (Lib.uvarint e.n.toNat ++ (Lib.uvarint e.v.data.toList.length ++ (e.v.data.toList ++ t)))))) := by
    unfold entB
    rw [k1, k2]
    simp [vars]
  rw [e1]
  exact rdC_ok (decC_laid 300 sh _ (by omega) (by omega))
theorem decV_eats (l : List UInt8) : ∀ i acc v r, decV i acc l = (v, r, 0) → r.length < l.length := by
  induction l with
  | nil => intro i acc v r h; simp [decV] at h
  | cons b l ih =>
    intro i acc v r h
    unfold decV at h
    split at h
    · simp at h
    · split at h
      · have : r = l := by simp at h; exact h.2.symm
        rw [this]; simp
      · have := ih _ _ _ _ h
        simp; omega
theorem rdV_eats {l r : List UInt8} {v : Nat} (h : rdV l 0 = (v, r, 0)) : r.length < l.length := by
  rcases decV_cases l with ⟨v', r', hv⟩ | ⟨e, he, hv⟩
  · rw [rdV_ok hv] at h
    obtain ⟨rfl, rfl, -⟩ : v' = v ∧ r' = r ∧ True := by simpa using h
    exact decV_eats l 0 0 _ _ hv
  · rw [rdV_bad hv he] at h
    simp at h
    exact absurd h.2.2 he
theorem rdC_eats {most : Int} {l r : List UInt8} {v : Nat} (h : rdC most l 0 = (v, r, 0)) : r.length < l.length ∧ (v : Int) ≤ most := by
  rcases decC_cases most l with ⟨v', r', hc, hm, hv⟩ | ⟨e, he, hc⟩
  · rw [rdC_ok hc] at h
    obtain ⟨rfl, rfl⟩ : v' = v ∧ r' = r := by simpa using h
    exact ⟨decV_eats l 0 0 _ _ hv, hm⟩
  · rw [rdC_bad hc he] at h
    simp at h
    exact absurd h.2.2 he
/-- A reading of a text leaves less, and what it tells is short. -/
theorem rdT_eats {most : Int} {l t r : List UInt8} (h : rdT most l 0 = (t, r, 0)) : r.length + t.length < l.length ∧ (t.length : Int) ≤ most := by
  rcases decC_cases most l with ⟨v', r', hc, hm, hv⟩ | ⟨e, he, hc⟩
  · by_cases hl : r'.length < v'
    · have ht : decT most l = ([], [], 5) := by unfold decT; rw [hc, if_neg (by simp), if_pos hl]
      rw [rdT_bad ht (by omega)] at h
      simp at h
    · have ht : decT most l = (r'.take v', r'.drop v', 0) := by unfold decT; rw [hc, if_neg (by simp), if_neg hl]
      rw [rdT_ok ht] at h
      obtain ⟨rfl, rfl⟩ : r'.take v' = t ∧ r'.drop v' = r := by simpa using h
      have := decV_eats l 0 0 _ _ hv
      rw [List.length_take, List.length_drop]
      omega
  · have ht : decT most l = ([], [], e) := by unfold decT; rw [hc, if_pos he]
    rw [rdT_bad ht he] at h
    simp at h
    exact absurd h.2.2 he
end Go.Proofs.Ytopnbbchiglpoaa
