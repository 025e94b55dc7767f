/- Plain: a directory that is built name by name, in whatever order. -/
import Derived.Test.YtfndlfnlepndmaaGreatSE
namespace Go.Proofs.YtfndlfnlepndmaaGreat
open Go.RowKit

/-- What there is of l so far: the names that are not left, each with a file of its own. -/
def doneD (left : Lit → Bool) (g : Nm → Nat) (l : Dir) : Dir := (l.filter fun p => !left (.string p.1)).map fun p => (p.1, g p.1)
def lessL (left : Lit → Bool) (y : Nm) : Lit → Bool := fun z => left z && !z.sameKey (.string y)
def plusG {α : Type} (g : Nm → α) (y : Nm) (v : α) : Nm → α := fun n => if n = y then v else g n
theorem lessL_at (left : Lit → Bool) (y n : Nm) : lessL left y (.string n) = (left (.string n) && !(n == y)) := rfl
theorem ddel_noneG (l : Dir) (n : Nm) (h : ∀ p ∈ l, p.1 ≠ n) : ddel l n = l := by
  unfold ddel
  rw [List.filter_eq_self]
  intro p hp
  simpa using h p hp
theorem dins_first (x : Nm × Nat) (l : Dir) (h : ∀ p ∈ l, bytesBefore x.1 p.1 = true) : dins x l = x :: l := by
  cases l with
  | nil => rfl
  | cons p l => rw [dins, h p (by simp)]; rfl
theorem doneD_mem {left : Lit → Bool} {g : Nm → Nat} {l : Dir} {p : Nm × Nat} (h : p ∈ doneD left g l) : ∃ q ∈ l, left (.string q.1) = false ∧ p = (q.1, g q.1) := by
  unfold doneD at h
  obtain ⟨q, hq, rfl⟩ := List.mem_map.1 h
  have := List.mem_filter.1 hq
  exact ⟨q, this.1, by simpa using this.2, rfl⟩
theorem doneD_cons_left {left : Lit → Bool} {g : Nm → Nat} {p : Nm × Nat} {l : Dir} (h : left (.string p.1) = true) : doneD left g (p :: l) = doneD left g l := by
  unfold doneD
  rw [List.filter_cons_of_neg (by simp [h])]
theorem doneD_cons_done {left : Lit → Bool} {g : Nm → Nat} {p : Nm × Nat} {l : Dir} (h : left (.string p.1) = false) : doneD left g (p :: l) = (p.1, g p.1) :: doneD left g l := by
  unfold doneD
  rw [List.filter_cons_of_pos (by simp [h])]
  rfl
theorem doneD_same {left : Lit → Bool} {g : Nm → Nat} {y : Nm} {v : Nat} : ∀ {l : Dir}, (∀ q ∈ l, q.1 ≠ y) → doneD (lessL left y) (plusG g y v) l = doneD left g l
  | [], _ => rfl
  | p :: l, h => by
    have hp : p.1 ≠ y := h p (by simp)
    have ih := doneD_same (left := left) (g := g) (y := y) (v := v) (l := l) (fun q hq => h q (List.mem_cons_of_mem _ hq))
    have e : lessL left y (.string p.1) = left (.string p.1) := by
      rw [lessL_at]
      have : (p.1 == y) = false := by simpa using hp
      rw [this]
      simp
    have eg : plusG g y v p.1 = g p.1 := if_neg hp
    cases hl : left (.string p.1) with
    | true => rw [doneD_cons_left hl, doneD_cons_left (by rw [e, hl]), ih]
    | false => rw [doneD_cons_done hl, doneD_cons_done (by rw [e, hl]), ih, eg]
theorem doneD_ins {left : Lit → Bool} {g : Nm → Nat} {y : Nm} {i v : Nat} (hl : left (.string y) = true) : ∀ {l : Dir}, Rise l → (y, i) ∈ l → dins (y, v) (doneD left g l) = doneD (lessL left y) (plusG g y v) l
  | [], _, h => by cases h
  | p :: l, hr, h => by
    have h2 := List.pairwise_cons.1 hr
    by_cases he : p.1 = y
    · have hlt : ∀ q ∈ l, bytesBefore y q.1 = true := fun q hq => he ▸ h2.1 q hq
      have hne : ∀ q ∈ l, q.1 ≠ y := fun q hq e => by
        have := hlt q hq
        rw [e, WideAt.bytes_irrefl] at this
        cases this
      rw [doneD_cons_left (by rw [he]; exact hl), doneD_cons_done (by rw [lessL_at, he]; simp), doneD_same hne, dins_first]
      · rw [he]
        congr 2
        exact (if_pos rfl).symm
      · intro q hq
        obtain ⟨q', hq', -, rfl⟩ := doneD_mem hq
        exact hlt q' hq'
    · have h' : (y, i) ∈ l := by
        rcases List.mem_cons.1 h with h' | h'
        · exact absurd (by rw [← h']) he
        · exact h'
      have hlt : bytesBefore p.1 y = true := h2.1 _ h'
      have hnb : bytesBefore y p.1 = false := by
        cases hb : bytesBefore y p.1
        · rfl
        · have := WideShapes.bytes_trans _ _ _ hlt hb
          rw [WideAt.bytes_irrefl] at this
          cases this
      have ih := doneD_ins (g := g) (v := v) hl h2.2 h'
      have e : lessL left y (.string p.1) = left (.string p.1) := by
        rw [lessL_at]
        have : (p.1 == y) = false := by simpa using he
        rw [this]
        simp
      have eg : plusG g y v p.1 = g p.1 := if_neg he
      cases hlp : left (.string p.1) with
      | true => rw [doneD_cons_left hlp, doneD_cons_left (by rw [e, hlp]), ih]
      | false =>
        rw [doneD_cons_done hlp, doneD_cons_done (by rw [e, hlp]), eg, dins]
        simp only [hnb]
        rw [ih]
        rfl
theorem doneD_put {left : Lit → Bool} {g : Nm → Nat} {y : Nm} {i v : Nat} {l : Dir} (hl : left (.string y) = true) (hr : Rise l) (h : (y, i) ∈ l) : dput (doneD left g l) y v = doneD (lessL left y) (plusG g y v) l := by
  unfold dput
  rw [ddel_noneG _ _ (fun p hp => by
    obtain ⟨q, -, hq, rfl⟩ := doneD_mem hp
    intro e
    simp only at e
    rw [e, hl] at hq
    cases hq), doneD_ins hl hr h]
theorem doneD_start {left : Lit → Bool} {g : Nm → Nat} {l : Dir} (h : ∀ p ∈ l, left (.string p.1) = true) : doneD left g l = [] := by
  unfold doneD
  rw [List.filter_eq_nil_iff.2 (fun p hp => by simp [h p hp])]
  rfl
theorem doneD_end {left : Lit → Bool} {g : Nm → Nat} {l : Dir} (h : ∀ kl, left kl = false) : doneD left g l = l.map fun p => (p.1, g p.1) := by
  unfold doneD
  rw [List.filter_eq_self.2 (fun p _ => by simp [h])]
end Go.Proofs.YtfndlfnlepndmaaGreat
