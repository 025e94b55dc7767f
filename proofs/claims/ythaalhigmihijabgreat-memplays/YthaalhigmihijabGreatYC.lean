/- Rows of versions as slices; what Get tells of a list in order. -/
import Derived.Test.YthaalhigmihijabGreatYB
import Derived.Test.YthaalhigmihijabGreatY2
namespace Go.Proofs.YthaalhigmihijabGreat
open Go.RowKit

theorem bt7 {a b c : World} (h : Below a.heap.size a b) (k : Below b.heap.size b c) : Below a.heap.size a c := h.trans (k.mono h.size)
theorem cellsE_length : ∀ l : List Ent, (cellsE l).length = l.length * 4
  | [] => rfl
  | x :: l => by
    have := cellsE_length l
    simp only [cellsE, List.flatMap_cons, List.length_append, List.length_cons] at *
    rw [this]
    simp only [Ent.cells, List.length_cons, List.length_nil]
    omega
theorem cellsE_get : ∀ (l : List Ent) (i : Nat) (h : i < l.length) (j : Nat) (u : Value), l[i].cells[j]? = some u → (cellsE l)[i * 4 + j]? = some u
  | [], _, h, _, _, _ => by cases h
  | x :: l, i, h, j, u, hu => by
    have hc : cellsE (x :: l) = x.cells ++ cellsE l := by simp [cellsE]
    have hl : x.cells.length = 4 := rfl
    rw [hc]
    match i, h, hu with
    | 0, _, hu =>
      have hu' : x.cells[j]? = some u := hu
      have hj := (List.getElem?_eq_some_iff.1 hu').1
      rw [Nat.zero_mul, Nat.zero_add, List.getElem?_append_left hj]
      exact hu'
    | i + 1, h, hu =>
      have ih := cellsE_get l i (by simpa using h) j u hu
      rw [List.getElem?_append_right (by rw [hl, Nat.add_mul]; omega), hl, show (i + 1) * 4 + j - 4 = i * 4 + j by rw [Nat.add_mul]; omega]
      exact ih
/-- A row of versions of one's own is a slice of versions. -/
theorem row_ents {w : World} {v : Value} {l : List Ent} (h : Row w 34 4 v l.length (cellsE l)) : ∃ a cap, v = .slice a l.length cap ∧ EntsAt w.heap.size w a l.length l := by
  have hc := h.cell
  have hlt := h.lt
  obtain ⟨a, cap, hv, -, -⟩ := h.le
  refine ⟨a, cap, hv, rfl, ?_⟩
  rcases h.2 with ⟨h0, -⟩ | ⟨g, c, cur, hv', hg, -⟩
  · exact .inl h0
  · rw [hv] at hv'
    cases hv'
    refine .inr ⟨g, 0, rfl, (Array.getElem?_eq_some_iff.1 hg).1, fun i hi j u hu => ?_⟩
    have := hc g 0 _ hv (i * 4 + j) u (cellsE_get l i hi j u hu)
    rw [← Nat.add_assoc] at this
    exact this
theorem mem_entsOf {x : Ent} {ns : List Nd} : x ∈ entsOf ns ↔ ∃ n ∈ ns, n.e = x := by simp [entsOf]
/-- What Get finds is of the key, and not newer than asked. -/
theorem getR_right {key : ByteArray} {s : Int} {ns P Q : List Nd} {y : Ent} (hc : Cut key s ns P Q) (h : getR key Q = some y) : y.k = key ∧ y.s ≤ s ∧ y ∈ entsOf ns := by
  cases Q with
  | nil => cases h
  | cons q r =>
    by_cases hk : q.e.k = key
    · rw [getR_yes hk] at h
      cases h
      refine ⟨hk, ?_, mem_entsOf.2 ⟨q, by rw [hc.all]; simp, rfl⟩⟩
      have := hc.behind q (by simp)
      rw [hk, cmpE_same] at this
      unfold cmpU at this
      split at this
      · exact absurd rfl this
      · omega
    · rw [getR_no hk] at h
      cases h
/-- Nothing of the key that is not newer than asked is newer than what Get finds. -/
theorem getR_most {key : ByteArray} {s : Int} {ns P Q : List Nd} (ho : ns.Pairwise ltN) (hc : Cut key s ns P Q) {x : Ent} (hx : x ∈ entsOf ns) (hk : x.k = key) (hs : x.s ≤ s) : ∃ y, getR key Q = some y ∧ x.s ≤ y.s := by
  obtain ⟨n, hn, rfl⟩ := mem_entsOf.1 hx
  rw [hc.all] at hn ho
  rcases List.mem_append.1 hn with hp | hq
  · have := hc.ahead n hp
    rw [hk, cmpE_same] at this
    unfold cmpU at this
    split at this
    · omega
    · split at this <;> omega
  · cases Q with
    | nil => cases hq
    | cons q r =>
      rcases List.mem_cons.1 hq with rfl | hq
      · exact ⟨n.e, getR_yes hk, Int.le_refl _⟩
      · have h1 : ltN q n := (List.pairwise_cons.1 (List.pairwise_append.1 ho).2.1).1 n hq
        have h2 := hc.behind q (by simp)
        unfold ltN at h1
        rw [hk] at h1
        by_cases he : q.e.k = key
        · refine ⟨q.e, getR_yes he, ?_⟩
          rw [he, cmpE_same] at h1
          unfold cmpU at h1
          split at h1
          · omega
          · split at h1 <;> omega
        · exfalso
          unfold cmpE at h1 h2
          have hne : Lib.compareBytes q.e.k.data.toList key.data.toList ≠ 0 := fun e => he (bytes_ext (cb_eq _ _ e))
          rw [if_neg hne] at h1 h2
          exact h2 h1
/-- Neighbours in a list in order. -/
theorem ents_rise {ns : List Nd} (ho : ns.Pairwise ltN) (i : Nat) (h : i + 1 < (entsOf ns).length) : Op.bytesLess (entsOf ns)[i + 1].k.toList (entsOf ns)[i].k.toList = false ∧ ((entsOf ns)[i + 1].k = (entsOf ns)[i].k → (entsOf ns)[i + 1].s < (entsOf ns)[i].s) := by
  have hl : (entsOf ns).length = ns.length := by simp [entsOf]
  have e1 : (entsOf ns)[i + 1] = (ns[i + 1]'(by omega)).e := by simp [entsOf]
  have e0 : (entsOf ns)[i] = (ns[i]'(by omega)).e := by simp [entsOf]
  have h1 : ltN (ns[i]'(by omega)) (ns[i + 1]'(by omega)) := List.pairwise_iff_getElem.1 ho i (i + 1) (by omega) (by omega) (by omega)
  rw [e1, e0]
  generalize (ns[i + 1]'(by omega)) = b at *
  generalize (ns[i]'(by omega)) = a at *
  unfold ltN cmpE at h1
  constructor
  · rw [ByteArray.toList_eq, ByteArray.toList_eq, less_cb]
    apply decide_eq_false
    intro hh
    rw [cb_swap] at hh
    by_cases hz : Lib.compareBytes a.e.k.data.toList b.e.k.data.toList = 0
    · omega
    · rw [if_neg hz] at h1
      omega
  · intro hk
    rw [hk, if_pos (cb_refl _)] at h1
    unfold cmpU at h1
    split at h1
    · omega
    · split at h1 <;> omega
end Go.Proofs.YthaalhigmihijabGreat
