/- Tables, plain: how they stand, when a version is right, what an edit makes of it. -/
import Derived.Test.YtlecffpjcjlabaaGreatE1
namespace Go.Proofs.YtlecffpjcjlabaaGreat
open Go.Lib

/-- A table: number, level, size, first and last key. -/
structure Tb where
  n : Int
  lv : Int
  sz : Int
  f : ByteArray
  l : ByteArray
def Tb.zero : Tb := ⟨0, 0, 0, ⟨#[]⟩, ⟨#[]⟩⟩
def cmpI (a b : Int) : Int := if a < b then -1 else if b < a then 1 else 0
def cmpS (a b : ByteArray) : Int := compareBytes a.data.toList b.data.toList
def lessS (a b : ByteArray) : Bool := decide (cmpS a b = -1)
/-- How two tables stand. -/
def cmpT (a b : Tb) : Int := if a.lv = 0 ∧ b.lv = 0 then cmpI b.n a.n else if cmpI a.lv b.lv = 0 then cmpS a.f b.f else cmpI a.lv b.lv
def lessT (a b : Tb) : Bool := decide (cmpT a b < 0)
theorem cmpI_neg {a b : Int} : cmpI a b < 0 ↔ a < b := by unfold cmpI; split <;> (try split) <;> omega
theorem cmpI_zero {a b : Int} : cmpI a b = 0 ↔ a = b := by unfold cmpI; split <;> (try split) <;> omega
theorem cmpS_vals (a b : ByteArray) : cmpS a b = -1 ∨ cmpS a b = 0 ∨ cmpS a b = 1 := cb_vals _ _
theorem cmpS_swap (a b : ByteArray) : cmpS b a = - cmpS a b := cb_swap _ _
theorem cmpS_refl (a : ByteArray) : cmpS a a = 0 := cb_refl _
theorem cmpS_trans {a b c : ByteArray} (h : cmpS a b = -1) (k : cmpS b c = -1) : cmpS a c = -1 := cb_trans _ _ _ h k
theorem cmpS_eq {a b : ByteArray} (h : cmpS a b = 0) : a = b := by
  have := cb_eq _ _ h
  cases a; cases b
  simp only at this
  congr
  exact Array.ext' this
theorem cmpS_neg {a b : ByteArray} : cmpS a b < 0 ↔ cmpS a b = -1 := by rcases cmpS_vals a b with h | h | h <;> omega
theorem lessT_iff {a b : Tb} : lessT a b = true ↔ a.lv < b.lv ∨ (a.lv = b.lv ∧ ((a.lv = 0 ∧ b.n < a.n) ∨ (a.lv ≠ 0 ∧ cmpS a.f b.f = -1))) := by
  unfold lessT cmpT
  rw [decide_eq_true_iff]
  by_cases h : a.lv = 0 ∧ b.lv = 0
  · rw [if_pos h, cmpI_neg]; omega
  · rw [if_neg h]
    by_cases h2 : cmpI a.lv b.lv = 0
    · rw [if_pos h2, cmpS_neg]
      have := cmpI_zero.1 h2
      omega
    · rw [if_neg h2, cmpI_neg]
      have := mt cmpI_zero.2 h2
      omega
theorem lessT_not {a b : Tb} : lessT a b = false ↔ b.lv < a.lv ∨ (a.lv = b.lv ∧ ((a.lv = 0 ∧ a.n ≤ b.n) ∨ (a.lv ≠ 0 ∧ cmpS a.f b.f ≠ -1))) := by
  rw [← Bool.not_eq_true, lessT_iff]
  omega
theorem lessT_irrefl (a : Tb) : lessT a a = false := by
  rw [lessT_not]
  have := cmpS_refl a.f
  omega
theorem lessT_trans {a b c : Tb} (h : lessT a b = true) (k : lessT b c = true) : lessT a c = true := by
  rw [lessT_iff] at *
  rcases h with h | ⟨h1, h | ⟨h2, h3⟩⟩
  · omega
  · omega
  · rcases k with k | ⟨k1, k | ⟨k2, k3⟩⟩
    · omega
    · omega
    · have := cmpS_trans h3 k3
      omega
theorem cmpS_ntrans {a b c : ByteArray} (h : cmpS a b ≠ -1) (k : cmpS b c ≠ -1) : cmpS a c ≠ -1 := by
  intro e
  have s1 := cmpS_swap a b
  have s2 := cmpS_swap b c
  rcases cmpS_vals a b with h1 | h1 | h1
  · exact h h1
  · rw [cmpS_eq h1] at e; exact k e
  · have := cmpS_trans (show cmpS b a = -1 by omega) e
    exact k this
theorem lessT_ntrans {a b c : Tb} (h : lessT a b = false) (k : lessT b c = false) : lessT a c = false := by
  rw [lessT_not] at *
  rcases h with h | ⟨h1, h | ⟨h2, h3⟩⟩
  · omega
  · omega
  · rcases k with k | ⟨k1, k | ⟨k2, k3⟩⟩
    · omega
    · omega
    · have := cmpS_ntrans h3 k3
      omega
theorem lessT_asym {a b : Tb} (h : lessT a b = true) : lessT b a = false := by
  cases e : lessT b a with
  | false => rfl
  | true => have := lessT_trans h e; rw [lessT_irrefl] at this; cases this
/-- May a table be, where the next number is that? -/
def TabOk (next : Int) (t : Tb) : Prop := 0 ≤ t.n ∧ t.n ≤ next - 1 ∧ 0 ≤ t.lv ∧ t.lv ≤ 3 ∧ 1 ≤ t.sz ∧ t.sz ≤ 1099511627776 ∧ cmpS t.l t.f ≠ -1 ∧ t.f.size ≤ 300 ∧ t.l.size ≤ 300
/-- Two tables, in whatever order: not of one number, and of no keys in common above level 0. -/
def TwoOk (u t : Tb) : Prop := u.n ≠ t.n ∧ (u.lv = t.lv → t.lv > 0 → cmpS u.l t.f = -1 ∨ cmpS t.l u.f = -1)
theorem TwoOk.symm {u t : Tb} (h : TwoOk u t) : TwoOk t u := ⟨fun e => h.1 e.symm, fun e1 e2 => (h.2 e1.symm (by omega)).symm⟩
/-- What a version has. -/
structure Vr where
  log : Int
  next : Int
  seq : Nat
  ts : List Tb
def Vr.zero : Vr := ⟨0, 0, 0, []⟩
/-- It is right, in whatever order its tables stand. -/
def RightV (v : Vr) : Prop := (0 ≤ v.log ∧ v.log ≤ 100000000 ∧ 0 ≤ v.next ∧ v.next ≤ 100000000 ∧ v.seq ≤ 4611686018427387904) ∧ (∀ t ∈ v.ts, TabOk v.next t) ∧ v.ts.Pairwise TwoOk
/-- It is right, as one looks at a list that stands in order: each and the one ahead of it. -/
def ApartT (t u : Tb) : Prop := t.lv = 0 ∨ t.lv ≠ u.lv ∨ cmpS t.l u.f = -1
def tabAt (ts : List Tb) (i : Nat) : Tb := ts.getD i Tb.zero
def LookAt (next : Int) (ts : List Tb) (i : Nat) : Prop := TabOk next (tabAt ts i) ∧ (0 < i → ApartT (tabAt ts (i - 1)) (tabAt ts i)) ∧ ∀ k, k < i → (tabAt ts k).n ≠ (tabAt ts i).n
def LookV (v : Vr) : Prop := (0 ≤ v.log ∧ v.log ≤ 100000000 ∧ 0 ≤ v.next ∧ v.next ≤ 100000000 ∧ v.seq ≤ 4611686018427387904) ∧ ∀ i, i < v.ts.length → LookAt v.next v.ts i
/-- It stands in order: none is below one ahead of it. -/
def Stands (ts : List Tb) : Prop := ts.Pairwise fun a b => lessT b a = false
theorem tabAt_get {ts : List Tb} {i : Nat} (h : i < ts.length) : tabAt ts i = ts[i] := by unfold tabAt; rw [List.getD_eq_getElem?_getD, List.getElem?_eq_getElem h]; rfl
theorem RightV.perm {v : Vr} {ts : List Tb} (h : RightV v) (hp : ts.Perm v.ts) : RightV { v with ts := ts } :=
  ⟨h.1, fun t ht => h.2.1 t (hp.mem_iff.1 ht), (hp.pairwise_iff (fun h => TwoOk.symm h)).2 h.2.2⟩
/-- Of a list that stands in order the look tells what is right. -/
theorem look_iff (v : Vr) (hs : Stands v.ts) : LookV v ↔ RightV v := by
  obtain ⟨log, next, seq, ts⟩ := v
  simp only at hs
  constructor
  · rintro ⟨hb, hl⟩
    simp only at hb hl
    have hst : ∀ k i, k < i → i < ts.length → lessT (tabAt ts i) (tabAt ts k) = false := fun k i hki hi => by
      rw [tabAt_get hi, tabAt_get (by omega)]
      exact List.pairwise_iff_getElem.1 hs k i (by omega) hi hki
    have hap : ∀ d k, k + d + 1 < ts.length → (tabAt ts k).lv = (tabAt ts (k + d + 1)).lv → (tabAt ts (k + d + 1)).lv > 0 → cmpS (tabAt ts k).l (tabAt ts (k + d + 1)).f = -1 := by
      intro d
      induction d with
      | zero =>
        intro k hk h1 h2
        rcases (hl (k + 1) hk).2.1 (by omega) with h | h | h
        · simp at h; rw [Nat.add_zero] at h1 h2; omega
        · simp at h; exact absurd h1 h
        · simpa using h
      | succ d ih =>
        intro k hk h1 h2
        have a1 := hst k (k + d + 1) (by omega) (by omega)
        have a2 := hst (k + d + 1) (k + (d + 1) + 1) (by omega) hk
        rw [lessT_not] at a1 a2
        have hlv : (tabAt ts k).lv = (tabAt ts (k + d + 1)).lv := by omega
        have b1 := ih k (by omega) hlv (by omega)
        have b2 : cmpS (tabAt ts (k + d + 1)).l (tabAt ts (k + (d + 1) + 1)).f = -1 := by
          rcases (hl (k + (d + 1) + 1) hk).2.1 (by omega) with h | h | h
          · rw [show k + (d + 1) + 1 - 1 = k + d + 1 by omega] at h; omega
          · rw [show k + (d + 1) + 1 - 1 = k + d + 1 by omega] at h; omega
          · rw [show k + (d + 1) + 1 - 1 = k + d + 1 by omega] at h; exact h
        have b3 : cmpS (tabAt ts (k + d + 1)).l (tabAt ts (k + d + 1)).f ≠ -1 := (hl (k + d + 1) (by omega)).1.2.2.2.2.2.2.1
        refine Classical.byContradiction fun hn => ?_
        have s := cmpS_swap (tabAt ts (k + d + 1)).f (tabAt ts (k + d + 1)).l
        have e1 : cmpS (tabAt ts k).l (tabAt ts (k + d + 1)).l = -1 := by
          refine Classical.byContradiction fun hq => ?_
          exact cmpS_ntrans hq b3 b1
        exact hn (cmpS_trans e1 b2)
    refine ⟨hb, fun t ht => ?_, List.pairwise_iff_getElem.2 fun k i hk hi hki => ?_⟩
    · obtain ⟨i, hi, rfl⟩ := List.getElem_of_mem ht
      simp only at hi ⊢
      rw [← tabAt_get hi]
      exact (hl i hi).1
    · simp only at hk hi ⊢
      rw [← tabAt_get hi, ← tabAt_get hk]
      refine ⟨(hl i hi).2.2 k hki, fun h1 h2 => .inl ?_⟩
      have := hap (i - k - 1) k (by omega)
      rw [show k + (i - k - 1) + 1 = i by omega] at this
      exact this h1 h2
  · rintro ⟨hb, ht, hp⟩
    simp only at hb ht hp
    refine ⟨hb, fun i hi => ?_⟩
    simp only at hi ⊢
    have hpk : ∀ k, k < i → TwoOk (tabAt ts k) (tabAt ts i) := fun k hk => by
      rw [tabAt_get hi, tabAt_get (by omega)]
      exact List.pairwise_iff_getElem.1 hp k i (by omega) hi hk
    have hti : ∀ k, k < ts.length → TabOk next (tabAt ts k) := fun k hk => by rw [tabAt_get hk]; exact ht _ (List.getElem_mem _)
    refine ⟨hti i hi, fun h0 => ?_, fun k hk => (hpk k hk).1⟩
    by_cases c1 : (tabAt ts (i - 1)).lv = 0
    · exact .inl c1
    by_cases c2 : (tabAt ts (i - 1)).lv = (tabAt ts i).lv
    · right; right
      have hlv := (hti (i - 1) (by omega)).2.2.1
      rcases (hpk (i - 1) (by omega)).2 c2 (by omega) with h | h
      · exact h
      · exfalso
        have hs' : lessT (tabAt ts i) (tabAt ts (i - 1)) = false := by
          rw [tabAt_get hi, tabAt_get (by omega)]
          exact List.pairwise_iff_getElem.1 hs (i - 1) i (by omega) hi (by omega)
        rw [lessT_not] at hs'
        have hf : cmpS (tabAt ts i).f (tabAt ts (i - 1)).f ≠ -1 := by omega
        exact cmpS_ntrans (hti i hi).2.2.2.2.2.2.1 hf h
    · exact .inr (.inl c2)
/-- In a right version that stands in order each is below the next. -/
theorem right_less {u t : Tb} {next : Int} (hu : TabOk next u) (ht : TabOk next t) (h2 : TwoOk u t) (h : lessT t u = false) : lessT u t = true := by
  rw [lessT_not] at h
  rw [lessT_iff]
  have h1 := h2.1
  by_cases e : u.lv = t.lv
  · by_cases z : t.lv = 0
    · omega
    · have hne : cmpS t.f u.f ≠ -1 := by omega
      have : cmpS u.f t.f = -1 := by
        rcases h2.2 e (by have := ht.2.2.1; omega) with q | q
        · exact Classical.byContradiction fun hq => cmpS_ntrans hu.2.2.2.2.2.2.1 hq q
        · exact absurd q (cmpS_ntrans ht.2.2.2.2.2.2.1 hne)
      omega
  · omega
theorem stands_less {v : Vr} (h : RightV v) (hs : Stands v.ts) : v.ts.Pairwise fun a b => lessT a b = true := by
  have hm := h.2.1
  have hp := h.2.2
  refine List.pairwise_iff_getElem.2 fun i j hi hj hij => ?_
  exact right_less (hm _ (List.getElem_mem _)) (hm _ (List.getElem_mem _)) (List.pairwise_iff_getElem.1 hp i j hi hj hij) (List.pairwise_iff_getElem.1 hs i j hi hj hij)
theorem less_ext : ∀ xs ys : List Tb, xs.Pairwise (fun a b => lessT a b = true) → ys.Pairwise (fun a b => lessT a b = true) → (∀ e, e ∈ xs ↔ e ∈ ys) → xs = ys
  | [], [], _, _, _ => rfl
  | [], y :: ys, _, _, h => by
    have := (h y).2 (by simp)
    cases this
  | x :: xs, [], _, _, h => by
    have := (h x).1 (by simp)
    cases this
  | x :: xs, y :: ys, hx, hy, h => by
    rw [List.pairwise_cons] at hx hy
    have e : x = y := by
      rcases List.mem_cons.1 ((h x).1 (by simp)) with e | h1
      · exact e
      · rcases List.mem_cons.1 ((h y).2 (by simp)) with e | h2
        · exact e.symm
        · have a := hx.1 y h2
          rw [lessT_asym (hy.1 x h1)] at a
          cases a
    subst e
    rw [less_ext xs ys hx.2 hy.2 (fun e => ?_)]
    constructor
    · intro he
      rcases List.mem_cons.1 ((h e).1 (List.mem_cons_of_mem _ he)) with q | q
      · subst q
        have a := hx.1 e he
        rw [lessT_irrefl] at a
        cases a
      · exact q
    · intro he
      rcases List.mem_cons.1 ((h e).2 (List.mem_cons_of_mem _ he)) with q | q
      · subst q
        have a := hy.1 e he
        rw [lessT_irrefl] at a
        cases a
      · exact q
/-- Two rows of the same tables that stand in order are one, if they are right. -/
theorem stands_one {v : Vr} {S : List Tb} (h : RightV v) (hs : Stands v.ts) (hp : S.Perm v.ts) (hS : Stands S) : S = v.ts :=
  less_ext _ _ (stands_less (h.perm hp) hS) (stands_less h hs) (fun _ => hp.mem_iff)
/-- The place of a table among the first k that stand in order. -/
def posT (x : Tb) (out : List Tb) : Nat → Nat
  | 0 => 0
  | k + 1 => if lessT x (tabAt out k) then posT x out k else k + 1
def insT (out : List Tb) (x : Tb) : List Tb := out.take (posT x out out.length) ++ x :: out.drop (posT x out out.length)
def ordT (l : List Tb) : List Tb := l.foldl insT []
theorem posT_le (x : Tb) (out : List Tb) : ∀ k, posT x out k ≤ k
  | 0 => Nat.le_refl _
  | k + 1 => by
    unfold posT
    split
    · have := posT_le x out k; omega
    · exact Nat.le_refl _
theorem posT_behind (x : Tb) (out : List Tb) : ∀ k j, posT x out k ≤ j → j < k → lessT x (tabAt out j) = true
  | 0, j, _, h => by omega
  | k + 1, j, h1, h2 => by
    unfold posT at h1
    split at h1
    · by_cases e : j = k
      · subst e; assumption
      · exact posT_behind x out k j h1 (by omega)
    · omega
theorem posT_at (x : Tb) (out : List Tb) : ∀ k, 0 < posT x out k → lessT x (tabAt out (posT x out k - 1)) = false
  | 0, h => by simp [posT] at h
  | k + 1, h => by
    unfold posT at h ⊢
    split
    · rename_i hl
      rw [if_pos hl] at h
      exact posT_at x out k h
    · rename_i hl
      simpa using hl
theorem insT_perm (out : List Tb) (x : Tb) : (insT out x).Perm (out ++ [x]) := by
  unfold insT
  have h : out ++ [x] = out.take (posT x out out.length) ++ (out.drop (posT x out out.length) ++ [x]) := by rw [← List.append_assoc, List.take_append_drop]
  rw [h]
  exact List.Perm.append_left _ (List.perm_append_singleton x _).symm
theorem insT_stands {out : List Tb} {x : Tb} (h : Stands out) : Stands (insT out x) := by
  unfold insT Stands
  have hle := posT_le x out out.length
  have hb := posT_behind x out out.length
  have ha := posT_at x out out.length
  generalize posT x out out.length = p at *
  rw [List.pairwise_append]
  refine ⟨h.sublist (List.take_sublist _ _), ?_, ?_⟩
  · rw [List.pairwise_cons]
    refine ⟨fun b hb' => ?_, h.sublist (List.drop_sublist _ _)⟩
    obtain ⟨j, hj, rfl⟩ := List.getElem_of_mem hb'
    rw [List.length_drop] at hj
    have := hb (p + j) (by omega) (by omega)
    rw [tabAt_get (by omega)] at this
    rw [List.getElem_drop]
    exact lessT_asym this
  · intro a ha' b hb'
    obtain ⟨i, hi, rfl⟩ := List.getElem_of_mem ha'
    rw [List.length_take] at hi
    rw [List.getElem_take]
    rcases List.mem_cons.1 hb' with rfl | hb'
    · have h1 := ha (by omega)
      rw [tabAt_get (by omega)] at h1
      by_cases e : i = p - 1
      · subst e; exact h1
      · have h2 := List.pairwise_iff_getElem.1 h i (p - 1) (by omega) (by omega) (by omega)
        exact lessT_ntrans h1 h2
    · obtain ⟨j, hj, rfl⟩ := List.getElem_of_mem hb'
      rw [List.length_drop] at hj
      rw [List.getElem_drop]
      exact List.pairwise_iff_getElem.1 h i (p + j) (by omega) (by omega) (by omega)
theorem ordT_snoc (l : List Tb) (x : Tb) : ordT (l ++ [x]) = insT (ordT l) x := by unfold ordT; rw [List.foldl_append]; rfl
theorem ordT_both (l : List Tb) : (ordT l).Perm l ∧ Stands (ordT l) := by
  have key : ∀ (l acc : List Tb), Stands acc → (l.foldl insT acc).Perm (acc ++ l) ∧ Stands (l.foldl insT acc) := by
    intro l
    induction l with
    | nil => intro acc h; exact ⟨by simp, h⟩
    | cons x l ih =>
      intro acc h
      obtain ⟨h1, h2⟩ := ih (insT acc x) (insT_stands h)
      refine ⟨h1.trans ?_, h2⟩
      have := List.Perm.append_right l (insT_perm acc x)
      rwa [List.append_assoc] at this
  have := key l [] List.Pairwise.nil
  simpa [ordT] using this
/-- An edit. -/
structure Ed where
  log : Int
  next : Int
  seq : Nat
  add : List Tb
  drop : List Int
def there (ts : List Tb) (n : Int) : Bool := ts.any fun t => t.n == n
def leftT (ts : List Tb) (ns : List Int) : List Tb := ts.filter fun t => !ns.contains t.n
def nextV (v : Vr) (e : Ed) : Vr := ⟨max v.log e.log, max v.next e.next, max v.seq e.seq, ordT (leftT v.ts e.drop ++ e.add)⟩
/-- Does an edit make a right version? -/
def Applies (v : Vr) (e : Ed) : Prop := (∀ n ∈ e.drop, there v.ts n = true) ∧ RightV (nextV v e)
def wholeE (v : Vr) : Ed := ⟨v.log, v.next, v.seq, v.ts, []⟩
theorem nextV_look {v : Vr} {e : Ed} {S : List Tb} (hp : S.Perm (leftT v.ts e.drop ++ e.add)) (hs : Stands S) : LookV { nextV v e with ts := S } ↔ RightV (nextV v e) := by
  rw [look_iff _ hs]
  have ho := ordT_both (leftT v.ts e.drop ++ e.add)
  constructor
  · intro h
    have := h.perm (ts := (nextV v e).ts) (ho.1.trans hp.symm)
    exact this
  · intro h
    exact h.perm (hp.trans ho.1.symm)
theorem nextV_one {v : Vr} {e : Ed} {S : List Tb} (hp : S.Perm (leftT v.ts e.drop ++ e.add)) (hs : Stands S) (h : RightV (nextV v e)) : S = (nextV v e).ts :=
  stands_one h (ordT_both _).2 (hp.trans (ordT_both _).1.symm) hs
end Go.Proofs.YtlecffpjcjlabaaGreat
