/- merge, plain: lists as one, what is there at a number, pieces. -/
import Derived.Test.YtcbailiniigcnaaGreatV2
namespace Go.Proofs.YtcbailiniigcnaaGreat
open Go.Lib

/-- Of one key and one number. -/
def SameE (x y : Ent) : Prop := x.k = y.k ∧ x.s = y.s
theorem sameE_cmp {x y : Ent} : cmpE x.k x.s y.k y.s = 0 ↔ SameE x y := cmpE_eq _ _ _ _
theorem SameE.symm {x y : Ent} (h : SameE x y) : SameE y x := ⟨h.1.symm, h.2.symm⟩
theorem SameE.trans {x y z : Ent} (h : SameE x y) (k : SameE y z) : SameE x z := ⟨h.1.trans k.1, h.2.trans k.2⟩
theorem SameE.lt {x y z : Ent} (h : SameE x y) : ltE x z ↔ ltE y z := by unfold ltE; rw [h.1, h.2]
theorem ltE_trans {x y z : Ent} (h : ltE x y) (k : ltE y z) : ltE x z := cmpE_trans _ _ _ _ _ _ h k
theorem ltE_not_same {x y : Ent} (h : ltE x y) : ¬ SameE x y := fun s => by
  have := sameE_cmp.2 s
  unfold ltE at h
  rw [this] at h
  cases h
theorem ltE_three (x y : Ent) : ltE x y ∨ SameE x y ∨ ltE y x := by
  rcases cmpE_vals x.k x.s y.k y.s with h | h | h
  · exact .inl h
  · exact .inr (.inl (sameE_cmp.1 h))
  · exact .inr (.inr (by unfold ltE; rw [cmpE_swap, h]))
/-- A version more, in its place, if none of its key and number is there. -/
def insE : List Ent → Ent → List Ent
  | [], x => [x]
  | y :: r, x => if cmpE y.k y.s x.k x.s = -1 then y :: insE r x else if cmpE y.k y.s x.k x.s = 0 then y :: r else x :: y :: r
theorem insE_mem : ∀ (o : List Ent) (x : Ent), o.Pairwise ltE → ∀ e, e ∈ insE o x ↔ e ∈ o ∨ (e = x ∧ ∀ y ∈ o, ¬ SameE y x)
  | [], x, _, e => by simp [insE]
  | y :: r, x, h, e => by
    rw [List.pairwise_cons] at h
    have ih := insE_mem r x h.2 e
    unfold insE
    split
    · rename_i h1
      rw [List.mem_cons, ih, List.mem_cons]
      have hn : ¬ SameE y x := ltE_not_same h1
      constructor
      · rintro (rfl | he | ⟨rfl, he⟩)
        · exact .inl (.inl rfl)
        · exact .inl (.inr he)
        · refine .inr ⟨rfl, fun z hz => ?_⟩
          rcases List.mem_cons.1 hz with rfl | hz
          · exact hn
          · exact he z hz
      · rintro ((rfl | he) | ⟨rfl, he⟩)
        · exact .inl rfl
        · exact .inr (.inl he)
        · exact .inr (.inr ⟨rfl, fun z hz => he z (List.mem_cons_of_mem _ hz)⟩)
    · split
      · rename_i h2
        constructor
        · exact .inl
        · rintro (he | ⟨-, he⟩)
          · exact he
          · exact absurd (sameE_cmp.1 h2) (he y (by simp))
      · rename_i h1 h2
        have hlt : ltE x y := by
          rcases ltE_three x y with h3 | h3 | h3
          · exact h3
          · exact absurd (sameE_cmp.2 h3.symm) h2
          · exact absurd h3 h1
        rw [List.mem_cons]
        constructor
        · rintro (rfl | he)
          · refine .inr ⟨rfl, fun z hz hs => ?_⟩
            rcases List.mem_cons.1 hz with rfl | hz
            · exact ltE_not_same hlt hs.symm
            · exact ltE_not_same (ltE_trans hlt (h.1 z hz)) hs.symm
          · exact .inl he
        · rintro (he | ⟨he, -⟩)
          · exact .inr he
          · exact .inl he
theorem insE_sorted : ∀ (o : List Ent) (x : Ent), o.Pairwise ltE → (insE o x).Pairwise ltE
  | [], x, _ => List.pairwise_singleton _ _
  | y :: r, x, h => by
    have h0 := h
    rw [List.pairwise_cons] at h
    have ih := insE_sorted r x h.2
    unfold insE
    split
    · rename_i h1
      rw [List.pairwise_cons]
      refine ⟨fun z hz => ?_, ih⟩
      rcases (insE_mem r x h.2 z).1 hz with hz | ⟨rfl, -⟩
      · exact h.1 z hz
      · exact h1
    · split
      · exact h0
      · rename_i h1 h2
        have hlt : ltE x y := by
          rcases ltE_three x y with h3 | h3 | h3
          · exact h3
          · exact absurd (sameE_cmp.2 h3.symm) h2
          · exact absurd h3 h1
        rw [List.pairwise_cons]
        refine ⟨fun z hz => ?_, h0⟩
        rcases List.mem_cons.1 hz with rfl | hz
        · exact hlt
        · exact ltE_trans hlt (h.1 z hz)
theorem insE_length (o : List Ent) (x : Ent) : (insE o x).length ≤ o.length + 1 := by
  induction o with
  | nil => simp [insE]
  | cons y r ih =>
    unfold insE
    split
    · simp only [List.length_cons]; omega
    · split <;> simp only [List.length_cons] <;> omega
/-- All of a list, in order, of several alike the first one. -/
def allE (l : List Ent) : List Ent := l.foldl insE []
theorem allE_snoc (l : List Ent) (x : Ent) : allE (l ++ [x]) = insE (allE l) x := by unfold allE; rw [List.foldl_append, List.foldl_cons, List.foldl_nil]
/-- It is the first one of its key and number. -/
def First (l : List Ent) (e : Ent) : Prop := ∃ a b, l = a ++ e :: b ∧ ∀ y ∈ a, ¬ SameE y e
theorem First.mem {l : List Ent} {e : Ent} (h : First l e) : e ∈ l := by
  obtain ⟨a, b, rfl, -⟩ := h
  simp
theorem first_append {u v : List Ent} {e : Ent} : First (u ++ v) e ↔ First u e ∨ (First v e ∧ ∀ y ∈ u, ¬ SameE y e) := by
  constructor
  · rintro ⟨a, b, hab, hno⟩
    rcases List.append_eq_append_iff.1 hab with ⟨c, rfl, hc⟩ | ⟨c, hc, hc2⟩
    · refine .inr ⟨⟨c, b, hc, fun y hy => hno y (List.mem_append_right _ hy)⟩, fun y hy => hno y (List.mem_append_left _ hy)⟩
    · cases c with
      | nil =>
        rw [List.append_nil] at hc
        subst hc
        exact .inr ⟨⟨[], b, hc2.symm, (fun y hy => by cases hy)⟩, hno⟩
      | cons x c =>
        rw [List.cons_append, List.cons.injEq] at hc2
        obtain ⟨rfl, rfl⟩ := hc2
        exact .inl ⟨a, c, hc, hno⟩
  · rintro (⟨a, b, rfl, hno⟩ | ⟨⟨a, b, rfl, hno⟩, hu⟩)
    · exact ⟨a, b ++ v, by simp, hno⟩
    · refine ⟨u ++ a, b, by simp, fun y hy => ?_⟩
      rcases List.mem_append.1 hy with hy | hy
      · exact hu y hy
      · exact hno y hy
theorem first_some : ∀ (l : List Ent) (x : Ent), x ∈ l → ∃ e, First l e ∧ SameE e x
  | y :: l, x, hx => by
    by_cases hs : SameE y x
    · exact ⟨y, ⟨[], l, rfl, (fun z hz => by cases hz)⟩, hs⟩
    · rcases List.mem_cons.1 hx with rfl | hx
      · exact absurd ⟨rfl, rfl⟩ hs
      · obtain ⟨e, ⟨a, b, rfl, hno⟩, he⟩ := first_some l x hx
        refine ⟨e, ⟨y :: a, b, rfl, fun z hz => ?_⟩, he⟩
        rcases List.mem_cons.1 hz with rfl | hz
        · exact fun h => hs (h.trans he)
        · exact hno z hz
theorem first_sorted {l : List Ent} (h : l.Pairwise ltE) {e : Ent} : First l e ↔ e ∈ l := by
  constructor
  · exact First.mem
  · intro he
    obtain ⟨a, b, rfl⟩ := List.append_of_mem he
    refine ⟨a, b, rfl, fun y hy => ?_⟩
    rw [List.pairwise_append] at h
    exact ltE_not_same (h.2.2 y hy e (by simp))
theorem snoc_ind {P : List Ent → Prop} (h0 : P []) (h1 : ∀ l x, P l → P (l ++ [x])) (l : List Ent) : P l := by
  have : ∀ n (l : List Ent), l.length = n → P l := by
    intro n
    induction n with
    | zero => intro l hl; rw [List.eq_nil_of_length_eq_zero hl]; exact h0
    | succ n ih =>
      intro l hl
      have hne : l ≠ [] := by intro e; rw [e] at hl; cases hl
      rw [← List.dropLast_concat_getLast hne]
      exact h1 _ _ (ih _ (by rw [List.length_dropLast]; omega))
  exact this _ l rfl
theorem allE_sorted (l : List Ent) : (allE l).Pairwise ltE := by
  refine snoc_ind (P := fun l => (allE l).Pairwise ltE) List.Pairwise.nil (fun l x h => ?_) l
  rw [allE_snoc]
  exact insE_sorted _ _ h
theorem allE_length (l : List Ent) : (allE l).length ≤ l.length := by
  refine snoc_ind (P := fun l => (allE l).length ≤ l.length) (Nat.le_refl _) (fun l x h => ?_) l
  rw [allE_snoc, List.length_append]
  have := insE_length (allE l) x
  simp
  omega
theorem allE_mem (l : List Ent) : ∀ e, e ∈ allE l ↔ First l e := by
  refine snoc_ind (P := fun l => ∀ e, e ∈ allE l ↔ First l e) (fun _ => ⟨(fun h => by cases h), fun h => by have := h.mem; cases this⟩) (fun l x ih e => ?_) l
  rw [allE_snoc, insE_mem _ _ (allE_sorted l), ih, first_append]
  have h1 : (∀ y ∈ allE l, ¬ SameE y x) ↔ ∀ y ∈ l, ¬ SameE y x := by
    constructor
    · intro h y hy hs
      obtain ⟨z, hz, hzy⟩ := first_some l y hy
      exact h z ((ih z).2 hz) (hzy.trans hs)
    · exact fun h y hy => h y ((ih y).1 hy).mem
  have h2 : First [x] e ↔ e = x := by
    constructor
    · intro h; simpa using h.mem
    · rintro rfl; exact ⟨[], [], rfl, (fun y hy => by cases hy)⟩
  rw [h1, h2]
  constructor
  · rintro (h | ⟨rfl, h⟩)
    · exact .inl h
    · exact .inr ⟨rfl, h⟩
  · rintro (h | ⟨rfl, h⟩)
    · exact .inl h
    · exact .inr ⟨rfl, h⟩
/-- What is sorted and has just the first ones is it. -/
theorem allE_ext {l r : List Ent} (hs : r.Pairwise ltE) (hm : ∀ e, e ∈ r ↔ First l e) : r = allE l := sorted_ext _ _ hs (allE_sorted l) fun e => (hm e).trans (allE_mem l e).symm
theorem allE_none (l : List Ent) (e : Ent) : (∀ y ∈ allE l, ¬ SameE y e) ↔ ∀ y ∈ l, ¬ SameE y e := by
  constructor
  · intro h y hy hs
    obtain ⟨z, hz, hzy⟩ := first_some l y hy
    exact h z ((allE_mem l z).2 hz) (hzy.trans hs)
  · exact fun h y hy => h y ((allE_mem l y).1 hy).mem
theorem allE_left (u v : List Ent) : allE (allE u ++ v) = allE (u ++ v) := by
  refine allE_ext (allE_sorted _) fun e => ?_
  rw [allE_mem, first_append, first_append, first_sorted (allE_sorted u), allE_mem, allE_none]
theorem allE_right (u v : List Ent) : allE (u ++ allE v) = allE (u ++ v) := by
  refine allE_ext (allE_sorted _) fun e => ?_
  rw [allE_mem, first_append, first_append, first_sorted (allE_sorted v), allE_mem]
theorem allE_of_sorted {l : List Ent} (h : l.Pairwise ltE) : allE l = l := (allE_ext h fun _ => (first_sorted h).symm).symm
theorem allE_twice {l : List Ent} (h : l.Pairwise ltE) : allE (l ++ l) = l := by
  refine (allE_ext h fun e => ?_).symm
  rw [first_append, first_sorted h]
  constructor
  · exact .inl
  · rintro (h1 | ⟨h1, -⟩) <;> exact h1
/-- What is there at a number: in the words of the document; p is the one ahead. -/
def latS (seq : Int) : Option Ent → List Ent → List (ByteArray × ByteArray)
  | _, [] => []
  | p, e :: r => (if decide (seq < e.s) || (match p with | some y => decide (y.k = e.k) && decide (y.s ≤ seq) | none => false) || decide (e.n = 2) then [] else [(e.k, e.v)]) ++ latS seq (some e) r
def latE (seq : Int) (l : List Ent) : List (ByteArray × ByteArray) := latS seq none l
/-- Pieces, in the words of the document; q is the one that is being made. -/
def cutS (most : Int) : List Ent → List Ent → List (List Ent)
  | _, [] => []
  | q, e :: r => if r = [] ∨ (most ≤ ((q ++ [e]).length : Int) ∧ (r.head?.map Ent.k) ≠ some e.k) then (q ++ [e]) :: cutS most [] r else cutS most (q ++ [e]) r
theorem cutS_flat (most : Int) : ∀ (l q : List Ent), l ≠ [] → (cutS most q l).flatten = q ++ l
  | e :: r, q, _ => by
    unfold cutS
    by_cases hr : r = []
    · subst hr
      rw [if_pos (.inl rfl)]
      simp [cutS]
    · split
      · rw [List.flatten_cons, cutS_flat most r [] hr]
        simp
      · rw [cutS_flat most r (q ++ [e]) hr]
        simp
theorem cutS_ne (most : Int) : ∀ (l q : List Ent), ∀ p ∈ cutS most q l, p ≠ []
  | [], _, p, h => by cases h
  | e :: r, q, p, h => by
    unfold cutS at h
    split at h
    · rcases List.mem_cons.1 h with rfl | h
      · simp
      · exact cutS_ne most r [] p h
    · exact cutS_ne most r (q ++ [e]) p h
theorem cutS_some (most : Int) : ∀ (l q : List Ent), l ≠ [] → cutS most q l ≠ []
  | e :: r, q, _ => by
    unfold cutS
    split
    · simp
    · rename_i h
      exact cutS_some most r (q ++ [e]) (fun hr => h (.inl hr))
/-- The first piece begins with what was being made, or with the first one. -/
theorem cutS_head (most : Int) : ∀ (l q : List Ent), l ≠ [] → ∃ p ps, cutS most q l = p :: ps ∧ p.head? = (q ++ l).head?
  | e :: r, q, _ => by
    unfold cutS
    split
    · exact ⟨_, _, rfl, by cases q <;> rfl⟩
    · rename_i h
      obtain ⟨p, ps, h1, h2⟩ := cutS_head most r (q ++ [e]) (fun hr => h (.inl hr))
      exact ⟨p, ps, h1, by rw [h2]; simp⟩
theorem cutS_steps (most : Int) : ∀ (l q : List Ent) (i : Nat) (h : i + 1 < (cutS most q l).length), most ≤ (((cutS most q l)[i]).length : Int) ∧ ((cutS most q l)[i].getLast?.map Ent.k) ≠ ((cutS most q l)[i + 1].head?.map Ent.k)
  | [], _, i, h => by simp [cutS] at h
  | e :: r, q, i, h => by
    by_cases hc : r = [] ∨ (most ≤ ((q ++ [e]).length : Int) ∧ (r.head?.map Ent.k) ≠ some e.k)
    · have e1 : cutS most q (e :: r) = (q ++ [e]) :: cutS most [] r := by
        conv => lhs; unfold cutS
        rw [if_pos hc]
      simp only [e1] at h ⊢
      match i, h with
      | 0, h =>
        have hr : r ≠ [] := by
          rintro rfl
          simp [cutS] at h
        rcases hc with hc | ⟨hc1, hc2⟩
        · exact absurd hc hr
        · obtain ⟨p, ps, h1, h2⟩ := cutS_head most r [] hr
          refine ⟨hc1, ?_⟩
          simp only [List.getElem_cons_zero, List.getElem_cons_succ, h1]
          rw [h2, List.nil_append, List.getLast?_append]
          simpa using fun h => hc2 h.symm
      | i + 1, h =>
        have := cutS_steps most r [] i (by simpa using h)
        simpa using this
    · have e1 : cutS most q (e :: r) = cutS most (q ++ [e]) r := by
        conv => lhs; unfold cutS
        rw [if_neg hc]
      simp only [e1] at h ⊢
      exact cutS_steps most r (q ++ [e]) i h
end Go.Proofs.YtcbailiniigcnaaGreat
