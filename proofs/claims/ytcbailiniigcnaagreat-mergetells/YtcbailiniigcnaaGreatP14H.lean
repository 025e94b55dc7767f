/- The heads of lists, plain: a heap of them, and what is told by taking the top of it again and again. -/
import Derived.Test.YtcbailiniigcnaaGreatP14L
import Derived.Test.YtcbailiniigcnaaGreatVM
namespace Go.Proofs.YtcbailiniigcnaaGreat
open Go.Lib Go.RowKit

/-- What is left of a list, and the list's number. -/
structure Hd where
  a : Option Addr
  c : Nat
  l : List Ent
  i : Nat
def Hd.zero : Hd := ⟨none, 0, [], 0⟩
def Hd.e (h : Hd) : Ent := h.l.headD Ent.zero
def leH (x y : Hd) : Prop := ltE x.e y.e ∨ (SameE x.e y.e ∧ x.i ≤ y.i)
def ordH (x y : Hd) : Int := if cmpE x.e.k x.e.s y.e.k y.e.s = 0 then cmpU (x.i : Int) (y.i : Int) else cmpE x.e.k x.e.s y.e.k y.e.s
def lessB (x y : Hd) : Bool := decide (ordH x y < 0)
theorem lessB_no {x y : Hd} : lessB y x = false ↔ leH x y := by
  unfold lessB ordH leH
  rw [cmpE_swap x.e.k x.e.s y.e.k y.e.s]
  have hs := @sameE_cmp x.e y.e
  unfold ltE
  rcases cmpE_vals x.e.k x.e.s y.e.k y.e.s with h | h | h
  · rw [h]
    simp
  · have h2 := hs.1 h
    rw [h]
    simp only [Int.neg_zero, if_true]
    unfold cmpU
    constructor
    · intro h3
      refine .inr ⟨h2, ?_⟩
      split at h3
      · simp at h3
      · omega
    · rintro (h3 | ⟨-, h3⟩)
      · cases h3
      · rw [if_neg (by omega)]
        split <;> simp
  · have h2 : ¬ SameE x.e y.e := fun e => by rw [hs.2 e] at h; cases h
    rw [h]
    simp [h2]
theorem leH_refl (x : Hd) : leH x x := .inr ⟨⟨rfl, rfl⟩, Nat.le_refl _⟩
theorem leH_trans {x y z : Hd} (h : leH x y) (k : leH y z) : leH x z := by
  rcases h with h | ⟨h1, h2⟩
  · rcases k with k | ⟨k1, -⟩
    · exact .inl (ltE_trans h k)
    · refine .inl ?_
      unfold ltE at h ⊢
      rw [← k1.1, ← k1.2]
      exact h
  · rcases k with k | ⟨k1, k2⟩
    · exact .inl ((SameE.lt h1).2 k)
    · exact .inr ⟨h1.trans k1, Nat.le_trans h2 k2⟩
theorem lessB_yes {x y : Hd} (h : lessB x y = true) : leH x y := by
  rcases ltE_three x.e y.e with h1 | h1 | h1
  · exact .inl h1
  · refine .inr ⟨h1, ?_⟩
    unfold lessB ordH at h
    rw [if_pos (sameE_cmp.2 h1)] at h
    unfold cmpU at h
    split at h
    · omega
    · split at h <;> simp at h
  · have := lessB_no.2 (show leH y x from .inl h1)
    rw [h] at this
    cases this

/-- Two places exchanged. -/
def swH (d : List Hd) (i j : Nat) : List Hd := (d.set i (d.getD j Hd.zero)).set j (d.getD i Hd.zero)
theorem swH_length (d : List Hd) (i j : Nat) : (swH d i j).length = d.length := by simp [swH]
theorem swH_get (d : List Hd) (i j k : Nat) (hi : i < d.length) (hj : j < d.length) : (swH d i j).getD k Hd.zero = if k = j then d.getD i Hd.zero else if k = i then d.getD j Hd.zero else d.getD k Hd.zero := by
  unfold swH
  simp only [List.getD_eq_getElem?_getD, List.getElem?_set, List.length_set]
  by_cases h1 : k = j
  · subst h1
    simp [hj]
  · by_cases h2 : k = i
    · subst h2
      have h3 : ¬ j = k := fun e => h1 e.symm
      simp [hi, h1, h3]
    · have h3 : ¬ j = k := fun e => h1 e.symm
      have h4 : ¬ i = k := fun e => h2 e.symm
      simp [h1, h2, h3, h4]
theorem swH_perm (d : List Hd) (i j : Nat) (hi : i < d.length) (hj : j < d.length) : (swH d i j).Perm d := by
  letI : DecidableEq Hd := fun a b => Classical.propDecidable (a = b)
  rw [List.perm_iff_count]
  intro x
  unfold swH
  have e1 : d.getD j Hd.zero = d[j] := by rw [List.getD_eq_getElem?_getD, List.getElem?_eq_getElem hj]; rfl
  have e2 : d.getD i Hd.zero = d[i] := by rw [List.getD_eq_getElem?_getD, List.getElem?_eq_getElem hi]; rfl
  rw [e1, e2, List.count_set (by simpa using hj), List.count_set hi]
  rw [List.getElem_set]
  have c1 : 0 < List.count d[i] d := List.count_pos_iff.2 (List.getElem_mem _)
  have c2 : 0 < List.count d[j] d := List.count_pos_iff.2 (List.getElem_mem _)
  by_cases hij : i = j
  · subst hij
    by_cases hx : d[i] = x
    · subst hx
      simp
    · simp [hx]
  · rw [if_neg hij]
    by_cases hx : d[i] = x
    · by_cases hy : d[j] = x
      · subst hx
        simp [hy]
      · subst hx
        simp [hy]
    · by_cases hy : d[j] = x
      · subst hy
        simp [hx]
      · simp [hx, hy]
/-- c is a child of x. -/
def Kid (x c : Nat) : Prop := c = 2 * x + 1 ∨ c = 2 * x + 2
def HeapH (d : List Hd) (n : Nat) : Prop := ∀ x c, Kid x c → c < n → leH (d.getD x Hd.zero) (d.getD c Hd.zero)
/-- .. but for the children of r. -/
def HeapDn (d : List Hd) (n r : Nat) : Prop := (∀ x c, x ≠ r → Kid x c → c < n → leH (d.getD x Hd.zero) (d.getD c Hd.zero)) ∧ ∀ x c, Kid x r → Kid r c → c < n → leH (d.getD x Hd.zero) (d.getD c Hd.zero)
/-- .. but for r and its parent. -/
def HeapUp (d : List Hd) (n r : Nat) : Prop := (∀ x c, c ≠ r → Kid x c → c < n → leH (d.getD x Hd.zero) (d.getD c Hd.zero)) ∧ ∀ x c, Kid x r → Kid r c → c < n → leH (d.getD x Hd.zero) (d.getD c Hd.zero)
theorem heap_root {d : List Hd} {n : Nat} (h : HeapH d n) : ∀ m k, k ≤ m → k < n → leH (d.getD 0 Hd.zero) (d.getD k Hd.zero)
  | 0, k, hm, _ => by
    obtain rfl : k = 0 := by omega
    exact leH_refl _
  | m + 1, k, hm, hk => by
    by_cases h0 : k = 0
    · subst h0
      exact leH_refl _
    · exact leH_trans (heap_root h m ((k - 1) / 2) (by omega) (by omega)) (h _ _ (by unfold Kid; omega) hk)
theorem down_end {d : List Hd} {n r : Nat} (h : HeapDn d n r) (hr : ∀ c, Kid r c → c < n → leH (d.getD r Hd.zero) (d.getD c Hd.zero)) : HeapH d n := by
  intro x c hx hc
  by_cases e : x = r
  · subst e
    exact hr c hx hc
  · exact h.1 x c e hx hc
theorem down_step {d : List Hd} {n r k : Nat} (h : HeapDn d n r) (hl : n ≤ d.length) (hk : Kid r k) (hkn : k < n) (hlt : leH (d.getD k Hd.zero) (d.getD r Hd.zero)) (hmin : ∀ c, Kid r c → c < n → leH (d.getD k Hd.zero) (d.getD c Hd.zero)) : HeapDn (swH d r k) n k := by
  have hrn : r < n := by unfold Kid at hk; omega
  have hg := fun m => swH_get d r k m (by omega) (by omega)
  constructor
  · intro x c hx hc hcn
    rw [hg, hg, if_neg hx]
    by_cases e1 : x = r
    · subst e1
      rw [if_pos rfl]
      by_cases e2 : c = k
      · rw [if_pos e2]
        exact hlt
      · rw [if_neg e2, if_neg (by unfold Kid at hc; omega)]
        exact hmin c hc hcn
    · rw [if_neg e1]
      have e2 : c ≠ k := fun e => by subst e; unfold Kid at hc hk; omega
      rw [if_neg e2]
      by_cases e3 : c = r
      · subst e3
        rw [if_pos rfl]
        exact h.2 x k hc hk hkn
      · rw [if_neg e3]
        exact h.1 x c e1 hc hcn
  · intro x c hx hc hcn
    obtain rfl : x = r := by unfold Kid at hx hk; omega
    rw [hg, hg, if_neg (by unfold Kid at hk; omega), if_pos rfl, if_neg (by unfold Kid at hc; omega), if_neg (by unfold Kid at hc hk; omega)]
    exact h.1 k c (by unfold Kid at hk; omega) hc hcn
theorem up_end {d : List Hd} {n r : Nat} (h : HeapUp d n r) (hr : ∀ x, Kid x r → leH (d.getD x Hd.zero) (d.getD r Hd.zero)) : HeapH d n := by
  intro x c hx hc
  by_cases e : c = r
  · subst e
    exact hr x hx
  · exact h.1 x c e hx hc
theorem up_step {d : List Hd} {n r p : Nat} (h : HeapUp d n r) (hl : n ≤ d.length) (hp : Kid p r) (hrn : r < n) (hlt : leH (d.getD r Hd.zero) (d.getD p Hd.zero)) : HeapUp (swH d p r) n p := by
  have hpr : p < r := by unfold Kid at hp; omega
  have hg := fun m => swH_get d p r m (by omega) (by omega)
  constructor
  · intro x c hc hx hcn
    rw [hg, hg]
    by_cases e1 : c = r
    · subst e1
      obtain rfl : x = p := by unfold Kid at hx hp; omega
      rw [if_neg (by omega), if_pos rfl, if_pos rfl]
      exact hlt
    · rw [if_neg e1, if_neg hc]
      by_cases e2 : x = p
      · subst e2
        rw [if_neg (by omega), if_pos rfl]
        exact leH_trans hlt (h.1 x c e1 hx hcn)
      · by_cases e3 : x = r
        · subst e3
          rw [if_pos rfl]
          exact h.2 p c hp hx hcn
        · rw [if_neg e3, if_neg e2]
          exact h.1 x c e1 hx hcn
  · intro x c hx hc hcn
    have h1 : leH (d.getD x Hd.zero) (d.getD p Hd.zero) := h.1 x p (by omega) hx (by omega)
    rw [hg, hg, if_neg (by unfold Kid at hx; omega), if_neg (by unfold Kid at hx; omega)]
    by_cases e1 : c = r
    · rw [if_pos e1]
      exact h1
    · rw [if_neg e1, if_neg (by unfold Kid at hc; omega)]
      exact leH_trans h1 (h.1 p c e1 hc hcn)
theorem heap_top {h0 : Hd} {T : List Hd} (h : HeapH (h0 :: T) (T.length + 1)) : ∀ x ∈ h0 :: T, leH h0 x := by
  intro x hx
  obtain ⟨k, hk, rfl⟩ := List.getElem_of_mem hx
  have := heap_root h k k (Nat.le_refl _) (by simpa using hk)
  rw [List.getD_eq_getElem?_getD, List.getD_eq_getElem?_getD, List.getElem?_eq_getElem hk] at this
  exact this
/-- Behind a version more: the top's list is shorter by one, or gone. -/
def Took (H H' : List Hd) : Prop := ∃ h0 T, H = h0 :: T ∧ HeapH H' H'.length ∧ ((h0.l.tail = [] ∧ H'.Perm T) ∨ ∃ h1 : Hd, h1.i = h0.i ∧ h1.l = h0.l.tail ∧ h0.l.tail ≠ [] ∧ H'.Perm (h1 :: T))
def sumH (H : List Hd) : Nat := (H.map fun h => h.l.length).sum
theorem sumH_perm {H K : List Hd} (h : H.Perm K) : sumH H = sumH K := by
  unfold sumH
  induction h with
  | nil => rfl
  | cons x _ ih => simp only [List.map_cons, List.sum_cons]; omega
  | swap x y l => simp only [List.map_cons, List.sum_cons]; omega
  | trans _ _ ih1 ih2 => omega
theorem Took.sum {H H' : List Hd} (h : Took H H') (hne : ∀ x ∈ H, x.l ≠ []) : sumH H' + 1 = sumH H := by
  obtain ⟨h0, T, rfl, -, hc⟩ := h
  have h1 : h0.l.length = h0.l.tail.length + 1 := by
    have := hne h0 (by simp)
    cases hl : h0.l with
    | nil => exact absurd hl this
    | cons x r => simp
  have h2 : sumH (h0 :: T) = h0.l.length + sumH T := by unfold sumH; simp
  rcases hc with ⟨ht, hp⟩ | ⟨h1', -, hl, -, hp⟩
  · rw [sumH_perm hp, h2, h1, ht]
    simp
    omega
  · have h3 : sumH (h1' :: T) = h1'.l.length + sumH T := by unfold sumH; simp
    rw [sumH_perm hp, h3, h2, h1, hl]
    omega
/-- What holds between two versions told: H waits, O is told. -/
structure DrI (ls : List (List Ent)) (H : List Hd) (O : List Ent) : Prop where
  heap : HeapH H H.length
  ne : ∀ h ∈ H, h.l ≠ []
  from_ : ∀ h ∈ H, ∃ p, ls[h.i]? = some (p ++ h.l)
  sorted : O.Pairwise ltE
  first : ∀ e ∈ O, First ls.flatten e
  cover : ∀ (i : Nat) l, ls[i]? = some l → ∀ x ∈ l, (∃ e ∈ O, SameE e x) ∨ ∃ h ∈ H, h.i = i ∧ x ∈ h.l
  behind : ∀ e ∈ O, ∀ h ∈ H, ∀ y ∈ h.l, ltE e y ∨ SameE e y
theorem sorted_same {l : List Ent} (h : l.Pairwise ltE) {x y : Ent} (hx : x ∈ l) (hy : y ∈ l) (hs : SameE x y) : x = y := by
  induction l with
  | nil => cases hx
  | cons z r ih =>
    rw [List.pairwise_cons] at h
    rcases List.mem_cons.1 hx with rfl | hx2
    · rcases List.mem_cons.1 hy with rfl | hy2
      · rfl
      · exact absurd hs (ltE_not_same (h.1 y hy2))
    · rcases List.mem_cons.1 hy with rfl | hy2
      · exact absurd hs.symm (ltE_not_same (h.1 x hx2))
      · exact ih h.2 hx2 hy2
theorem flat_at {ls : List (List Ent)} {i : Nat} {l : List Ent} (h : ls[i]? = some l) : ls.flatten = (ls.take i).flatten ++ (l ++ (ls.drop (i + 1)).flatten) := by
  have hi : i < ls.length := (List.getElem?_eq_some_iff.1 h).1
  have h2 : ls.drop i = l :: ls.drop (i + 1) := by
    rw [List.drop_eq_getElem_cons hi]
    rw [List.getElem?_eq_getElem hi] at h
    rw [Option.some.inj h]
  conv => lhs; rw [← List.take_append_drop i ls, List.flatten_append, h2, List.flatten_cons]
section
variable {ls : List (List Ent)} {H H' : List Hd} {O : List Ent} {h0 : Hd} {T : List Hd}
theorem DrI.rises (h : DrI ls (h0 :: T) O) (hs : SortedL ls) : ∀ g ∈ h0 :: T, ∀ y ∈ g.l, ltE g.e y ∨ y = g.e := by
  intro g hg y hy
  obtain ⟨p, hp⟩ := h.from_ g hg
  have h1 := (List.pairwise_append.1 (hs _ (List.mem_of_getElem? hp)).1).2.1
  unfold Hd.e
  cases hl : g.l with
  | nil => rw [hl] at hy; cases hy
  | cons x r =>
    rw [hl] at h1 hy
    rw [List.pairwise_cons] at h1
    rcases List.mem_cons.1 hy with rfl | hy
    · exact .inr rfl
    · exact .inl (h1.1 y hy)
theorem DrI.least (h : DrI ls (h0 :: T) O) (hs : SortedL ls) : ∀ g ∈ h0 :: T, ∀ y ∈ g.l, ltE h0.e y ∨ SameE h0.e y := by
  intro g hg y hy
  rcases heap_top (by have := h.heap; simpa using this) g hg with h1 | ⟨h1, -⟩ <;> rcases h.rises hs g hg y hy with h2 | rfl
  · exact .inl (ltE_trans h1 h2)
  · exact .inl h1
  · exact .inl ((SameE.lt h1).2 h2)
  · exact .inr h1
theorem DrI.top_mem (h : DrI ls (h0 :: T) O) : h0.e ∈ h0.l := by
  have := h.ne h0 (by simp)
  unfold Hd.e
  cases hl : h0.l with
  | nil => exact absurd hl this
  | cons x r => simp
theorem DrI.top_ok (h : DrI ls (h0 :: T) O) (hs : SortedL ls) : h0.e.Fine ∧ h0.e ∈ ls.flatten := by
  obtain ⟨p, hp⟩ := h.from_ h0 (by simp)
  have h1 := List.mem_of_getElem? hp
  have h2 : h0.e ∈ p ++ h0.l := List.mem_append_right _ h.top_mem
  exact ⟨(hs _ h1).2 _ h2, List.mem_flatten.2 ⟨_, h1, h2⟩⟩
theorem DrI.top_first (h : DrI ls (h0 :: T) O) (hs : SortedL ls) (hno : ¬ ∃ e ∈ O, SameE e h0.e) : First ls.flatten h0.e := by
  obtain ⟨p, hp⟩ := h.from_ h0 (by simp)
  have hl : h0.l = h0.e :: h0.l.tail := by
    have := h.ne h0 (by simp)
    unfold Hd.e
    cases hl : h0.l with
    | nil => exact absurd hl this
    | cons x r => rfl
  have hsr := (hs _ (List.mem_of_getElem? hp)).1
  rw [hl] at hp hsr
  refine ⟨(ls.take h0.i).flatten ++ p, h0.l.tail ++ (ls.drop (h0.i + 1)).flatten, by rw [flat_at hp]; simp, fun y hy hsame => ?_⟩
  rcases List.mem_append.1 hy with hy | hy
  · obtain ⟨l, hl1, hl2⟩ := List.mem_flatten.1 hy
    obtain ⟨j, hj, hjl⟩ := List.getElem_of_mem hl1
    rw [List.length_take] at hj
    rw [List.getElem_take] at hjl
    have hlj : ls[j]? = some l := by rw [List.getElem?_eq_getElem (by omega), hjl]
    rcases h.cover j l hlj y hl2 with ⟨e, he, hse⟩ | ⟨g, hg, hgi, hyg⟩
    · exact hno ⟨e, he, hse.trans hsame⟩
    · have hr := h.rises hs g hg y hyg
      rcases heap_top (by have := h.heap; simpa using this) g hg with h1 | ⟨h1, h2⟩
      · rcases hr with h3 | rfl
        · exact ltE_not_same (ltE_trans h1 h3) hsame.symm
        · exact ltE_not_same h1 hsame.symm
      · omega
  · have := (List.pairwise_append.1 hsr).2.2 y hy h0.e (by simp)
    exact ltE_not_same this hsame
/-- The top taken: it stands in what is told already. -/
theorem DrI.skip (h : DrI ls (h0 :: T) O) (ht : Took (h0 :: T) H') (hyes : ∃ e ∈ O, SameE e h0.e) : DrI ls H' O := by
  obtain ⟨g0, T', he, hh, hc⟩ := ht
  obtain ⟨rfl, rfl⟩ : h0 = g0 ∧ T = T' := by cases he; exact ⟨rfl, rfl⟩
  have hmem : ∀ g ∈ H', g ∈ T ∨ (g.i = h0.i ∧ g.l = h0.l.tail ∧ h0.l.tail ≠ []) := by
    intro g hg
    rcases hc with ⟨-, hp⟩ | ⟨h1, e1, e2, e3, hp⟩
    · exact .inl (hp.mem_iff.1 hg)
    · rcases List.mem_cons.1 (hp.mem_iff.1 hg) with rfl | hg
      · exact .inr ⟨e1, e2, e3⟩
      · exact .inl hg
  have hback : ∀ g ∈ T, g ∈ H' := by
    intro g hg
    rcases hc with ⟨-, hp⟩ | ⟨h1, -, -, -, hp⟩
    · exact hp.mem_iff.2 hg
    · exact hp.mem_iff.2 (List.mem_cons_of_mem _ hg)
  have hl : h0.l = h0.e :: h0.l.tail := by
    have := h.ne h0 (by simp)
    unfold Hd.e
    cases hl : h0.l with
    | nil => exact absurd hl this
    | cons x r => rfl
  refine ⟨hh, fun g hg => ?_, fun g hg => ?_, h.sorted, h.first, fun i l hil x hx => ?_, fun e he g hg y hy => ?_⟩
  · rcases hmem g hg with hg | ⟨-, e2, e3⟩
    · exact h.ne g (List.mem_cons_of_mem _ hg)
    · rw [e2]
      exact e3
  · rcases hmem g hg with hg | ⟨e1, e2, -⟩
    · exact h.from_ g (List.mem_cons_of_mem _ hg)
    · obtain ⟨p, hp⟩ := h.from_ h0 (by simp)
      refine ⟨p ++ [h0.e], ?_⟩
      rw [e1, e2, hp, List.append_assoc, List.singleton_append, ← hl]
  · rcases h.cover i l hil x hx with hy | ⟨g, hg, hgi, hxg⟩
    · exact .inl hy
    · rcases List.mem_cons.1 hg with rfl | hg
      · rw [hl] at hxg
        rcases List.mem_cons.1 hxg with rfl | hxg
        · exact .inl hyes
        · rcases hc with ⟨e1, -⟩ | ⟨h1, e1, e2, -, hp⟩
          · rw [e1] at hxg
            cases hxg
          · exact .inr ⟨h1, hp.mem_iff.2 (by simp), by rw [e1, hgi], by rw [e2]; exact hxg⟩
      · exact .inr ⟨g, hback g hg, hgi, hxg⟩
  · rcases hmem g hg with hg | ⟨-, e2, -⟩
    · exact h.behind e he g (List.mem_cons_of_mem _ hg) y hy
    · rw [e2] at hy
      exact h.behind e he h0 (by simp) y (by rw [hl]; exact List.mem_cons_of_mem _ hy)
/-- One version more is told. -/
theorem DrI.tell (h : DrI ls (h0 :: T) O) (hs : SortedL ls) (hno : ¬ ∃ e ∈ O, SameE e h0.e) : DrI ls (h0 :: T) (O ++ [h0.e]) := by
  refine ⟨h.heap, h.ne, h.from_, ?_, fun e he => ?_, fun i l hil x hx => ?_, fun e he g hg y hy => ?_⟩
  · rw [List.pairwise_append]
    refine ⟨h.sorted, List.pairwise_singleton _ _, fun x hx y hy => ?_⟩
    obtain rfl : y = h0.e := by simpa using hy
    rcases h.behind x hx h0 (by simp) _ h.top_mem with h1 | h1
    · exact h1
    · exact absurd ⟨x, hx, h1⟩ hno
  · rcases List.mem_append.1 he with he | he
    · exact h.first e he
    · obtain rfl : e = h0.e := by simpa using he
      exact h.top_first hs hno
  · rcases h.cover i l hil x hx with ⟨e, he, hse⟩ | hc
    · exact .inl ⟨e, List.mem_append_left _ he, hse⟩
    · exact .inr hc
  · rcases List.mem_append.1 he with he | he
    · exact h.behind e he g hg y hy
    · obtain rfl : e = h0.e := by simpa using he
      exact h.least hs g hg y hy
theorem DrI.told (h : DrI ls [] O) : O = allE ls.flatten := by
  refine allE_ext h.sorted fun e => ⟨h.first e, fun he => ?_⟩
  obtain ⟨l, hl, hel⟩ := List.mem_flatten.1 he.mem
  obtain ⟨i, hi, hil⟩ := List.getElem_of_mem hl
  rcases h.cover i l (by rw [List.getElem?_eq_getElem hi, hil]) e hel with ⟨x, hx, hsx⟩ | ⟨g, hg, -⟩
  · have h1 := (allE_mem ls.flatten x).2 (h.first x hx)
    have h2 := (allE_mem ls.flatten e).2 he
    obtain rfl := sorted_same (allE_sorted _) h1 h2 hsx
    exact hx
  · cases hg
end
/-- The heap as the lists come in: of the first k. -/
structure WaI (ls : List (List Ent)) (k : Nat) (H : List Hd) : Prop where
  heap : HeapH H H.length
  ne : ∀ h ∈ H, h.l ≠ []
  at_ : ∀ h ∈ H, ls[h.i]? = some h.l
  all : ∀ i, i < k → ∀ l, ls[i]? = some l → l ≠ [] → ∃ h ∈ H, h.i = i ∧ h.l = l
theorem waI_nil (ls : List (List Ent)) : WaI ls 0 [] := ⟨fun x c _ hc => (by cases hc), fun h hh => (by cases hh), fun h hh => (by cases hh), fun i hi => (by omega)⟩
theorem WaI.none {ls : List (List Ent)} {k : Nat} {H : List Hd} (h : WaI ls k H) (hk : ls[k]? = some []) : WaI ls (k + 1) H :=
  ⟨h.heap, h.ne, h.at_, fun i hi l hl hn => by
    by_cases e : i = k
    · subst e
      rw [hk] at hl
      cases hl
      exact absurd rfl hn
    · exact h.all i (by omega) l hl hn⟩
theorem WaI.more {ls : List (List Ent)} {k : Nat} {H H' : List Hd} {x : Hd} (h : WaI ls k H) (hi : x.i = k) (hk : ls[k]? = some x.l) (hn : x.l ≠ []) (hh : HeapH H' H'.length) (hp : H'.Perm (H ++ [x])) : WaI ls (k + 1) H' := by
  have hm : ∀ g, g ∈ H' ↔ g ∈ H ∨ g = x := fun g => by rw [hp.mem_iff]; simp
  refine ⟨hh, fun g hg => ?_, fun g hg => ?_, fun i hik l hl hne => ?_⟩
  · rcases (hm g).1 hg with hg | rfl
    · exact h.ne g hg
    · exact hn
  · rcases (hm g).1 hg with hg | rfl
    · exact h.at_ g hg
    · rw [hi]
      exact hk
  · by_cases e : i = k
    · subst e
      rw [hk] at hl
      exact ⟨x, (hm x).2 (.inr rfl), hi, Option.some.inj hl⟩
    · obtain ⟨g, hg, h1, h2⟩ := h.all i (by omega) l hl hne
      exact ⟨g, (hm g).2 (.inl hg), h1, h2⟩
theorem WaI.start {ls : List (List Ent)} {H : List Hd} (h : WaI ls ls.length H) : DrI ls H [] :=
  ⟨h.heap, h.ne, fun g hg => ⟨[], h.at_ g hg⟩, List.Pairwise.nil, fun e he => (by cases he), fun i l hl x hx => by
    obtain ⟨g, hg, h1, h2⟩ := h.all i (List.getElem?_eq_some_iff.1 hl).1 l hl (fun e => by rw [e] at hx; cases hx)
    exact .inr ⟨g, hg, h1, by rw [h2]; exact hx⟩, fun e he => (by cases he)⟩
end Go.Proofs.YtcbailiniigcnaaGreat
