/- The program's list and the document's own: plain. -/
import Derived.Test.YthaalhigmihijaaGreatYM
namespace Go.Proofs.YthaalhigmihijaaGreat
open Go.RowKit

theorem cutE_ents {x : Ent} {ns P Q : List Nd} (h : Cut x.k x.s ns P Q) : CutE x (entsOf ns) (entsOf P) (entsOf Q) := by
  refine ⟨by rw [h.all]; simp [entsOf], fun y hy => ?_, fun y hy => ?_⟩
  · obtain ⟨n, hn, rfl⟩ := mem_entsOf.1 hy
    exact h.ahead n hn
  · obtain ⟨n, hn, rfl⟩ := mem_entsOf.1 hy
    exact h.behind n hn
theorem thereE_ents (x : Ent) (Q : List Nd) : thereE x (entsOf Q) = there x Q := by cases Q <;> rfl
theorem lessB_cmp (a k : ByteArray) (s : Int) (hs : s ≤ 18446744073709551615) : lessB a k = decide (cmpE a s k 18446744073709551615 = -1) := by
  rw [← key_less a k s hs, ByteArray.toList_eq, ByteArray.toList_eq, less_cb]
  rfl
theorem range_cut {k : ByteArray} {ns P Q : List Nd} (hr : Right ns) (hc : Cut k 18446744073709551615 ns P Q) : rangeE k ⟨#[]⟩ (entsOf ns) = entsOf Q := by
  rw [cut_filter hc]
  unfold rangeE
  refine List.filter_congr fun e he => ?_
  obtain ⟨n, hn, rfl⟩ := mem_entsOf.1 he
  unfold inRange
  rw [lessB_cmp _ _ n.e.s (hr.fit n hn).2.2.2]
  have h0 : (ByteArray.toList ⟨#[]⟩).isEmpty = true := by rw [ByteArray.toList_eq]; rfl
  rw [h0]
  simp
def fitsP (key : ByteArray) (seq : Int) (x : Ent) : Prop := x.k = key ∧ x.s ≤ seq
theorem picks_iff (key : ByteArray) (seq : Int) (o : Option Ent) (x : Ent) : picks key seq o x = true ↔ fitsP key seq x ∧ ∀ y, o = some y → y.s < x.s := by
  unfold picks fitsP
  have hk : (x.k.toList == key.toList) = true ↔ x.k = key := by
    rw [beq_iff_eq]
    constructor
    · intro h
      rw [ByteArray.toList_eq, ByteArray.toList_eq] at h
      exact ByteArray.ext (Array.ext' h)
    · rintro rfl
      rfl
  simp only [Bool.and_eq_true, hk, decide_eq_true_eq, Bool.or_eq_true, Bool.not_eq_true', and_assoc]
  cases o with
  | none => simp
  | some y => simp
theorem pickF_spec (key : ByteArray) (seq : Int) (es : List Ent) : ∀ i, i ≤ es.length → (pickF key seq (es.take i) = none → ∀ x ∈ es.take i, ¬ fitsP key seq x) ∧ (∀ y, pickF key seq (es.take i) = some y → y ∈ es.take i ∧ fitsP key seq y ∧ ∀ x ∈ es.take i, fitsP key seq x → x.s ≤ y.s)
  | 0, _ => by simp [pickF]
  | i + 1, h => by
    obtain ⟨h1, h2⟩ := pickF_spec key seq es i (by omega)
    have hm : ∀ x, x ∈ es.take (i + 1) ↔ x ∈ es.take i ∨ x = es[i] := fun x => by
      rw [List.take_succ_eq_append_getElem (show i < es.length by omega), List.mem_append, List.mem_singleton]
    rw [pickF_take key seq es i (by omega)]
    by_cases hp : picks key seq (pickF key seq (es.take i)) es[i] = true
    · rw [if_pos hp]
      obtain ⟨p1, p2⟩ := (picks_iff _ _ _ _).1 hp
      refine ⟨fun h0 => (by cases h0), fun y hy => ?_⟩
      obtain rfl : es[i] = y := by simpa using hy
      refine ⟨(hm _).2 (.inr rfl), p1, fun x hx hf => ?_⟩
      rcases (hm x).1 hx with hx | rfl
      · cases ho : pickF key seq (es.take i) with
        | none => exact absurd hf (h1 ho x hx)
        | some z =>
          have := p2 z ho
          have := (h2 z ho).2.2 x hx hf
          omega
      · omega
    · rw [if_neg hp]
      refine ⟨fun h0 x hx hf => ?_, fun y hy => ?_⟩
      · rcases (hm x).1 hx with hx | rfl
        · exact h1 h0 x hx hf
        · exact hp ((picks_iff _ _ _ _).2 ⟨hf, fun y hy => by rw [h0] at hy; cases hy⟩)
      · obtain ⟨q1, q2, q3⟩ := h2 y hy
        refine ⟨(hm y).2 (.inl q1), q2, fun x hx hf => ?_⟩
        rcases (hm x).1 hx with hx | rfl
        · exact q3 x hx hf
        · by_cases hlt : y.s < es[i].s
          · exact absurd ((picks_iff _ _ _ _).2 ⟨hf, fun z hz => by rw [hy] at hz; cases hz; exact hlt⟩) hp
          · omega
theorem ord_uniq {l : List Ent} (h : l.Pairwise ltE) {x y : Ent} (hx : x ∈ l) (hy : y ∈ l) (hk : x.k = y.k) (hs : x.s = y.s) : x = y := by
  induction l with
  | nil => cases hx
  | cons a l ih =>
    rw [List.pairwise_cons] at h
    have hne : ∀ {u v : Ent}, u.k = v.k → u.s = v.s → ¬ ltE u v := fun {u v} h1 h2 h3 => by
      unfold ltE at h3
      rw [h1, h2, cmpE_refl] at h3
      exact absurd h3 (by decide)
    rcases List.mem_cons.1 hx with rfl | hx'
    · rcases List.mem_cons.1 hy with rfl | hy'
      · rfl
      · exact absurd (h.1 y hy') (hne hk hs)
    · rcases List.mem_cons.1 hy with rfl | hy'
      · exact absurd (h.1 x hx') (hne hk.symm hs.symm)
      · exact ih h.2 hx' hy'
theorem pick_cut {key : ByteArray} {seq : Int} {ns P Q : List Nd} (ho : ns.Pairwise ltN) (hc : Cut key seq ns P Q) : pickF key seq (entsOf ns) = getR key Q := by
  obtain ⟨h1, h2⟩ := pickF_spec key seq (entsOf ns) _ (Nat.le_refl _)
  rw [List.take_length] at h1 h2
  cases hp : pickF key seq (entsOf ns) with
  | none =>
    cases hg : getR key Q with
    | none => rfl
    | some y =>
      obtain ⟨g1, g2, g3⟩ := getR_right hc hg
      exact absurd ⟨g1, g2⟩ (h1 hp y g3)
  | some z =>
    obtain ⟨q1, q2, q3⟩ := h2 z hp
    obtain ⟨y, hy, hle⟩ := getR_most ho hc q1 q2.1 q2.2
    obtain ⟨g1, g2, g3⟩ := getR_right hc hy
    have := q3 y g3 ⟨g1, g2⟩
    rw [hy, ord_uniq (ents_ord ho) q1 g3 (q2.1.trans g1.symm) (by omega)]
/-- The document's towers are the list's. -/
def Tws (T : List Tw) (ns : List Nd) : Prop := T.Perm (ns.map fun n => ⟨n.e, n.l⟩)
theorem hgtT_cons (a : Tw) (r : List Tw) : hgtT (a :: r) = max a.l (hgtT r) := by
  have : ∀ (r : List Tw) (h : Nat), r.foldl (fun h t => max h t.l) h = max h (r.foldl (fun h t => max h t.l) 0) := by
    intro r
    induction r with
    | nil => intro h; simp
    | cons b r ih =>
      intro h
      rw [List.foldl_cons, List.foldl_cons, ih, ih (max 0 b.l)]
      omega
  show List.foldl (fun h t => max h t.l) 0 (a :: r) = max a.l (List.foldl (fun h t => max h t.l) 0 r)
  rw [List.foldl_cons, this]
  omega
theorem hgtT_perm {S T : List Tw} (h : S.Perm T) : hgtT S = hgtT T := by
  have aux : ∀ {S T : List Tw}, (∀ t ∈ S, t ∈ T) → hgtT S ≤ hgtT T := fun {S T} hm => hgtT_le (fun t ht => by
    have := hm t ht
    clear hm ht
    induction T with
    | nil => cases this
    | cons a r ih =>
      have e : hgtT (a :: r) = max a.l (hgtT r) := hgtT_cons a r
      rw [e]
      rcases List.mem_cons.1 this with rfl | h1
      · exact Nat.le_max_left _ _
      · exact Nat.le_trans (ih h1) (Nat.le_max_right _ _))
  exact Nat.le_antisymm (aux fun t ht => h.mem_iff.1 ht) (aux fun t ht => h.mem_iff.2 ht)
theorem hgtT_map : ∀ ns : List Nd, hgtT (ns.map fun n => ⟨n.e, n.l⟩) = hgt ns
  | [] => rfl
  | n :: r => by
    rw [List.map_cons, hgtT_cons, hgtT_map r]
    rfl
theorem Tws.high {T : List Tw} {ns : List Nd} (h : Tws T ns) : hgtT T = hgt ns := (hgtT_perm h).trans (hgtT_map ns)
theorem Tws.len {T : List Tw} {ns : List Nd} (h : Tws T ns) : T.length = ns.length := by have := h.length_eq; simpa using this
theorem Tws.mem {T : List Tw} {ns : List Nd} (h : Tws T ns) {t : Tw} (ht : t ∈ T) : ∃ n ∈ ns, t = ⟨n.e, n.l⟩ := by
  obtain ⟨n, hn, rfl⟩ := List.mem_map.1 (h.mem_iff.1 ht)
  exact ⟨n, hn, rfl⟩
theorem Tws.cnt {T : List Tw} {ns P Q : List Nd} {key : ByteArray} (h : Tws T ns) (hr : Right ns) (hc : Cut key 18446744073709551615 ns P Q) (v : Nat) (hv : 1 ≤ v) : cntT key v T = pcnt (v - 1) P := by
  unfold cntT
  rw [(h.filter _).length_eq, List.filter_map, List.length_map, hc.all, List.filter_append, List.length_append]
  have e1 : (P.filter ((fun t : Tw => decide (v ≤ t.l) && lessB t.e.k key) ∘ fun n : Nd => ⟨n.e, n.l⟩)) = P.filter fun n => decide (v - 1 < n.l) := by
    refine List.filter_congr fun n hn => ?_
    show (decide (v ≤ n.l) && lessB n.e.k key) = decide (v - 1 < n.l)
    rw [lessB_cmp _ _ n.e.s (hr.fit n (by rw [hc.all]; simp [hn])).2.2.2, hc.ahead n hn]
    simp
    omega
  have e2 : (Q.filter ((fun t : Tw => decide (v ≤ t.l) && lessB t.e.k key) ∘ fun n : Nd => ⟨n.e, n.l⟩)) = [] := by
    rw [List.filter_eq_nil_iff]
    intro n hn
    show ¬ (decide (v ≤ n.l) && lessB n.e.k key) = true
    rw [lessB_cmp _ _ n.e.s (hr.fit n (by rw [hc.all]; simp [hn])).2.2.2]
    simp [hc.behind n hn]
  rw [e1, e2]
  rfl
theorem Tws.path {T : List Tw} {ns P Q : List Nd} {key : ByteArray} (h : Tws T ns) (hr : Right ns) (hc : Cut key 18446744073709551615 ns P Q) : pathT key T (hgtT T) (hgtT T) = cellsInts (pathZ P (hgt ns)) := by
  rw [pathZ_cells, h.high]
  unfold pathT pathL
  refine List.map_congr_left fun j hj => ?_
  have hj := List.mem_range.1 hj
  rw [h.cnt hr hc _ (by omega), show hgt ns - j - 1 = hgt ns - 1 - j by omega]
theorem Tws.put {W : World} {x : Ent} {l : Nat} {T : List Tw} {ns ns' : List Nd} (h : Tws T ns) (hp : Puts W x l ns true ns') : Tws (T ++ [⟨x, l⟩]) ns' := by
  rcases hp with ⟨h0, -⟩ | ⟨-, -, -, P, Q, a, hc, rfl, -⟩
  · cases h0
  · unfold Tws at *
    rw [hc.all, List.map_append] at h
    rw [List.map_append, List.map_cons]
    exact ((List.perm_append_comm).trans (h.cons _)).trans List.perm_middle.symm
end Go.Proofs.YthaalhigmihijaaGreat
