/- Plain: a block that was laid of versions tells them, and no others lay it. -/
import Derived.Test.YtopnbbchiglpoaaBD
namespace Go.Proofs.Ytopnbbchiglpoaa
open Go.RowKit

/-- The key ahead. -/
def lastB (l : List Ent) (k : Nat) : List UInt8 := if k = 0 then [] else (entAt l (k - 1)).k.data.toList
theorem shN_last (l : List Ent) (k : Nat) : (lastB l k).take (shN l k) ++ (entAt l k).k.data.toList.drop (shN l k) = (entAt l k).k.data.toList ∧ shN l k ≤ (lastB l k).length ∧ shN l k ≤ (entAt l k).k.size := by
  unfold shN
  by_cases h : k % 4 = 0
  · rw [if_pos h]
    exact ⟨by simp, Nat.zero_le _, Nat.zero_le _⟩
  · rw [if_neg h]
    have hk : k ≠ 0 := by omega
    have hl : lastB l k = (entAt l (k - 1)).k.data.toList := by unfold lastB; rw [if_neg hk]
    rw [hl]
    refine ⟨?_, shr_le1 _ _, by rw [← len_data']; exact shr_le2 _ _⟩
    rw [shr_take, List.take_append_drop]
theorem valid_parts {e : Ent} (h : vldE e = true) : e.k.size ≤ 300 ∧ e.v.size ≤ 60000 ∧ (e.n = 1 ∨ e.n = 2) := by
  unfold vldE validB at h
  simp only [Bool.and_eq_true, Bool.or_eq_true, decide_eq_true_eq, beq_iff_eq] at h
  exact ⟨h.1.1, h.1.2, by rcases h.2 with h | h; exact .inl h; exact .inr h.1⟩
theorem stB_laid (l : List Ent) (k : Nat) (hk : k < l.length) (hv : vldE (entAt l k) = true) (hs : 0 ≤ (entAt l k).s ∧ (entAt l k).s ≤ 18446744073709551615) :
    stB (lastB l k) (restB l k) = (shN l k, entAt l k, restB l (k + 1), 0) := by
  obtain ⟨h1, h2, h3⟩ := valid_parts hv
  obtain ⟨e1, e2, e3⟩ := shN_last l k
  obtain ⟨y1, y2, y3, y4, d1, d2, d3, d4, d5⟩ := entB_dec (shN l k) (entAt l k) (restB l (k + 1)) (by omega) e3 h1 h2 (by omega) (by omega)
  unfold stB
  rw [restB_step l k hk]
  simp only [d1, d2, d3, d4, d5]
  rw [e1]
  generalize entAt l k = x at *
  obtain ⟨xk, xs, xn, xv⟩ := x
  have hn : (if xn.toNat = 1 ∨ xn.toNat = 2 then ((xn.toNat : Nat) : Int) else 0) = xn := by
    have h3 : xn = 1 ∨ xn = 2 := h3
    rw [if_pos (by omega)]
    omega
  have hs2 : ((xs.toNat : Nat) : Int) = xs := by have : 0 ≤ xs := hs.1; omega
  simp only
  rw [hn, hs2]
theorem decEs_laid (l : List Ent) (ho : ordB l l.length = true) (hs : ∀ x ∈ l, 0 ≤ x.s ∧ x.s ≤ 18446744073709551615) : ∀ (n k f : Nat), n + k = l.length → (restB l k).length ≤ f → decEs f (lastB l k) (restB l k) = some (l.drop k) := by
  intro n
  induction n with
  | zero =>
    intro k f hk hf
    obtain rfl : k = l.length := by omega
    rw [restB_all, decEs_nil]
    simp
  | succ n ih =>
    intro k f hk hf
    have hkl : k < l.length := by omega
    have hst := stB_laid l k hkl (ordB_at ho hkl).1 (by rw [entAt_get hkl]; exact hs _ (List.getElem_mem _))
    have hlen := (stB_any (lastB l k) (restB l k)).2.2.2 (by rw [hst])
    rw [hst] at hlen
    simp only at hlen
    have hne : restB l k ≠ [] := fun e => by rw [e] at hlen; simp at hlen
    cases f with
    | zero => omega
    | succ f =>
      rw [decEs, if_neg hne, hst]
      simp only
      rw [if_neg (by have := (shN_last l k).2.1; omega), if_neg (by simp)]
      have hlast : (entAt l k).k.data.toList = lastB l (k + 1) := by unfold lastB; rw [if_neg (by omega)]; simp
      rw [hlast, ih (k + 1) f (by omega) (by omega)]
      rw [List.drop_eq_getElem_cons hkl, entAt_get hkl]
      rfl
theorem getBody_laid (l : List Ent) (hl : l.length ≤ 1000000) : getBody (blkB l) = (0, bodyB l l.length) := by
  obtain ⟨body, hb⟩ : ∃ body, bodyB l l.length = body := ⟨_, rfl⟩
  obtain ⟨tail, ht⟩ : ∃ tail, tailB l l.length = tail := ⟨_, rfl⟩
  have htl : tail.length = 4 * ((l.length + 3) / 4) := by rw [← ht]; exact tailB_cnt l l.length
  obtain ⟨cnt, hc⟩ : ∃ cnt, (l.length + 3) / 4 = cnt := ⟨_, rfl⟩
  rw [hc] at htl
  have hcl : cnt < 4294967296 := by omega
  unfold blkB
  rw [hb, ht, hc]
  obtain ⟨s, hs⟩ : ∃ s, body ++ tail ++ be cnt 4 = s := ⟨_, rfl⟩
  have hsl : s.length = body.length + 4 * cnt + 4 := by rw [← hs, List.length_append, List.length_append, be_length, htl]
  rw [hs]
  have hL : (sealF s).length = s.length + 4 := by unfold sealF; rw [List.length_append, be_length]
  have hT : (sealF s).take s.length = s := by unfold sealF; simp
  have hD : (sealF s).drop s.length = be (crc s) 4 := by unfold sealF; simp
  unfold getBody
  rw [hL, if_neg (by omega), show s.length + 4 - 4 = s.length by omega, hT, hD, beVal_be 4 _ (crc_lt s), if_pos rfl, if_neg (by omega), show s.length + 4 - 8 = body.length + 4 * cnt by omega]
  have hS : s.drop (body.length + 4 * cnt) = be cnt 4 := by
    rw [← hs, show body.length + 4 * cnt = (body ++ tail).length by rw [List.length_append, htl]]
    simp
  rw [hS, beVal_be 4 cnt (by omega), if_neg (by omega), show body.length + 4 * cnt - 4 * cnt = body.length by omega]
  have : (sealF s).take body.length = body := by
    unfold sealF
    rw [← hs]
    simp
  rw [this]
/-- What was laid is told. -/
theorem getE_laid (l : List Ent) (hl : l.length ≤ 1000000) (ho : ordB l l.length = true) (hs : ∀ x ∈ l, 0 ≤ x.s ∧ x.s ≤ 18446744073709551615) : getE (blkB l) = (0, l) := by
  have hd := decEs_laid l ho hs l.length 0 (bodyB l l.length).length (by omega) (by rw [restB_zero]; omega)
  rw [restB_zero] at hd
  have := getE_some (getBody_laid l hl) hd
  rw [this]
  simp [ho]
/-- No others lay the same bytes. -/
theorem blkB_inj (l m : List Ent) (hl : l.length ≤ 1000000) (ho : ordB l l.length = true) (hs : ∀ x ∈ l, 0 ≤ x.s ∧ x.s ≤ 18446744073709551615) (hl2 : m.length ≤ 1000000) (ho2 : ordB m m.length = true) (hs2 : ∀ x ∈ m, 0 ≤ x.s ∧ x.s ≤ 18446744073709551615) (h : blkB l = blkB m) : l = m := by
  have h1 := getE_laid l hl ho hs
  rw [h, getE_laid m hl2 ho2 hs2] at h1
  exact (congrArg (·.2) h1).symm
/-- What is told was laid: the bytes are those of its versions. -/
theorem getE_ok {b : List UInt8} {l : List Ent} (h : getE b = (0, l)) : ordB l l.length = true ∧ blkB l = b := by
  unfold getE at h
  split at h
  · rename_i hz
    exact absurd (congrArg (·.1) h) hz
  · split at h
    · exact absurd (congrArg (·.1) h) (by simp)
    · split at h
      · rename_i hq
        obtain rfl := congrArg (·.2) h
        exact hq
      · exact absurd (congrArg (·.1) h) (by simp)
end Go.Proofs.Ytopnbbchiglpoaa
