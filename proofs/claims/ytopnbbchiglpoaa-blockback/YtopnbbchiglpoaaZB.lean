/- Plain: how long a block is; those from a key on stand at the end. The document's own Put of a version. -/
import Derived.Test.YtopnbbchiglpoaaBQ
import Derived.Test.YtopnbbchiglpoaaZC
import Derived.Deep.RegionLaw
namespace Go.Proofs.Ytopnbbchiglpoaa
open Go.RowKit

/-- How long a version is, laid whole. -/
def oneN (e : Ent) : Nat := ((Lib.uvarint e.k.size ++ e.k.data.toList) ++ vars [e.s.toNat, e.n.toNat] ++ (Lib.uvarint e.v.size ++ e.v.data.toList)).length
theorem uv_small (x : Nat) (h : x ≤ 300) : (Lib.uvarint x).length = if x < 128 then 1 else 2 := by
  unfold Lib.uvarint
  by_cases h1 : x < 128
  · rw [dif_pos h1, if_pos h1]; rfl
  · rw [dif_neg h1, if_neg h1]
    unfold Lib.uvarint
    rw [dif_pos (by omega)]
    rfl
theorem entB_short (sh : Nat) (e : Ent) (h1 : sh ≤ e.k.size) (h2 : e.k.size ≤ 300) : (entB sh e).length ≤ oneN e + 2 := by
  unfold entB oneN
  simp only [List.length_append, List.length_drop, len_data']
  rw [uv_small sh (by omega), uv_small (e.k.size - sh) (by omega), uv_small e.k.size h2]
  split <;> split <;> split <;> omega
def sumN (es : List Ent) (k : Nat) : Nat := ((es.take k).map fun e => oneN e + 2).sum
theorem sumN_step (es : List Ent) (k : Nat) (h : k < es.length) : sumN es (k + 1) = sumN es k + (oneN (entAt es k) + 2) := by
  unfold sumN
  rw [List.take_succ_eq_append_getElem h, List.map_append, List.sum_append, List.map_cons, List.map_nil, List.sum_cons, List.sum_nil, entAt_get h]
  omega
theorem bodyB_short (es : List Ent) (ho : ordB es es.length = true) : ∀ k, k ≤ es.length → (bodyB es k).length ≤ sumN es k
  | 0, _ => by simp [bodyB]
  | k + 1, h => by
    have ih := bodyB_short es ho k (by omega)
    have hv := valid_parts (ordB_at ho (show k < es.length by omega)).1
    have h1 := entB_short (shN es k) (entAt es k) (shN_last es k).2.2 hv.1
    show (bodyB es k ++ _).length ≤ _
    rw [List.length_append, sumN_step es k (by omega)]
    omega
theorem blkB_short (es : List Ent) (ho : ordB es es.length = true) : (blkB es).length ≤ 8 + 4 * ((es.length + 3) / 4) + sumN es es.length := by
  have h1 := bodyB_short es ho es.length (Nat.le_refl _)
  have h2 := tailB_cnt es es.length
  unfold blkB sealF
  simp only [List.length_append, be_length]
  omega
theorem blkB_eight (es : List Ent) : 8 ≤ (blkB es).length := by
  unfold blkB sealF
  simp only [List.length_append, be_length]
  omega
/-- Of versions in order a later one's key is not below an earlier one's. -/
theorem less_later {es : List Ent} {key : ByteArray} (ho : ordB es es.length = true) {i : Nat} (h0 : lessB (entAt es i).k key = false) : ∀ j, i ≤ j → j < es.length → lessB (entAt es j).k key = false := by
  intro j
  induction j with
  | zero => intro h1 _; rw [show (0 : Nat) = i by omega]; exact h0
  | succ j ih =>
    intro h1 h2
    by_cases e : i = j + 1
    · rw [← e]; exact h0
    · have hj := ih (by omega) (by omega)
      have hc := (ordB_at ho h2).2 (by omega)
      rw [show j + 1 - 1 = j by omega] at hc
      unfold cmpN cmpE at hc
      unfold lessB at *
      rw [decide_eq_false_iff_not] at *
      intro hl
      apply hj
      generalize (entAt es j).k = A at *
      generalize (entAt es (j + 1)).k = B at *
      rcases cb_vals A.data.toList B.data.toList with h | h | h
      · exact cb_trans _ _ _ h hl
      · rw [cb_eq _ _ h]; exact hl
      · rw [h] at hc
        simp at hc
/-- Those from a key on are the last ones. -/
theorem keep_end {es : List Ent} {key : ByteArray} (ho : ordB es es.length = true) : ∃ d, d ≤ es.length ∧ rangeE key ⟨#[]⟩ es = es.drop d := by
  rw [← keepP_range]
  by_cases h : ∃ i, i < es.length ∧ lessB (entAt es i).k key = false
  · have hmin : ∃ i, i < es.length ∧ lessB (entAt es i).k key = false ∧ ∀ j, j < i → lessB (entAt es j).k key = true := by
      obtain ⟨i, hi, hl⟩ := h
      induction i using Nat.strongRecOn with
      | _ i ih =>
        by_cases hb : ∃ j, j < i ∧ lessB (entAt es j).k key = false
        · obtain ⟨j, hj, hjl⟩ := hb
          exact ih j hj (by omega) hjl
        · refine ⟨i, hi, hl, fun j hj => ?_⟩
          cases hq : lessB (entAt es j).k key with
          | true => rfl
          | false => exact absurd ⟨j, hj, hq⟩ hb
    obtain ⟨i, hi, hl, hb⟩ := hmin
    refine ⟨i, by omega, ?_⟩
    unfold keepP
    conv => lhs; rw [← List.take_append_drop i es, List.filter_append]
    rw [List.filter_eq_nil_iff.2, List.nil_append, List.filter_eq_self.2]
    · intro x hx
      obtain ⟨k, hk, rfl⟩ := List.getElem_of_mem hx
      rw [List.length_drop] at hk
      have := less_later ho hl (i + k) (by omega) (by omega)
      rw [entAt_get (show i + k < es.length by omega)] at this
      rw [List.getElem_drop, this]
      rfl
    · intro x hx
      obtain ⟨k, hk, rfl⟩ := List.getElem_of_mem hx
      rw [List.length_take] at hk
      have := hb k (by omega)
      rw [entAt_get (show k < es.length by omega)] at this
      rw [List.getElem_take, this]
      simp
  · refine ⟨es.length, Nat.le_refl _, ?_⟩
    rw [List.drop_length]
    unfold keepP
    rw [List.filter_eq_nil_iff]
    intro x hx
    obtain ⟨k, hk, rfl⟩ := List.getElem_of_mem hx
    have : lessB (entAt es k).k key = true := by
      cases hq : lessB (entAt es k).k key with
      | true => rfl
      | false => exact absurd ⟨k, hk, hq⟩ h
    rw [entAt_get hk] at this
    rw [this]
    simp
/-- A block of which one byte is changed has another sum. -/
theorem blkB_change (es : List Ent) (j : Nat) (c : UInt8) (hj : j < (blkB es).length) (hc : c ≠ (blkB es)[j]) : getE ((blkB es).set j c) = (6, []) := by
  have h8 := blkB_eight es
  have hl : ((blkB es).set j c).length = (blkB es).length := by simp
  have h1 := seal_change (layB es) j c hj hc
  have hsl : (sealF (layB es)).length = (layB es).length + 4 := by unfold sealF; rw [List.length_append, be_length]
  refine getE_err (l := []) ?_ (by decide)
  unfold getBody
  rw [hl, if_neg (by omega), if_neg ?_]
  rw [show (blkB es).length - 4 = (layB es).length by rw [blkB_lay, hsl]; omega]
  exact h1
end Go.Proofs.Ytopnbbchiglpoaa
