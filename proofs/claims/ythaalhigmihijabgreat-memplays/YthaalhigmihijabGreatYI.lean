/- The document's own Path. -/
import Derived.Test.YthaalhigmihijabGreatYH
namespace Go.Proofs.YthaalhigmihijabGreat
open Go.RowKit

/-- A version and its level. -/
structure Tw where
  e : Ent
  l : Nat
def Tw.cells (t : Tw) : List Value := [.string t.e.k, .int .u64 t.e.s, .int .i64 t.e.n, .string t.e.v, .int .i64 (t.l : Int)]
def cellsT (l : List Tw) : List Value := l.flatMap Tw.cells
theorem cellsT_append (a b : List Tw) : cellsT (a ++ b) = cellsT a ++ cellsT b := by simp [cellsT]
theorem cellsT_get : ∀ (l : List Tw) (i : Nat) (h : i < l.length) (j : Nat) (u : Value), l[i].cells[j]? = some u → (cellsT l)[i * 5 + j]? = some u
  | [], _, h, _, _, _ => by cases h
  | x :: l, i, h, j, u, hu => by
    have hc : cellsT (x :: l) = x.cells ++ cellsT l := by simp [cellsT]
    have hl : x.cells.length = 5 := rfl
    rw [hc]
    match i, h, hu with
    | 0, _, hu =>
      have hu' : x.cells[j]? = some u := hu
      have hj := (List.getElem?_eq_some_iff.1 hu').1
      rw [Nat.zero_mul, Nat.zero_add, List.getElem?_append_left hj]
      exact hu'
    | i + 1, h, hu =>
      have ih := cellsT_get l i (by simpa using h) j u hu
      rw [List.getElem?_append_right (by rw [hl, Nat.add_mul]; omega), hl, show (i + 1) * 5 + j - 5 = i * 5 + j by rw [Nat.add_mul]; omega]
      exact ih
/-- A slice of them. -/
def TwsAt (n₀ : Nat) (w : World) (a : Option Addr) (len : Nat) (ts : List Tw) : Prop :=
  ts.length = len ∧ (len = 0 ∨ ∃ b off, a = some ⟨b, off, none⟩ ∧ b < n₀ ∧ ∀ i (h : i < ts.length), ∀ j u, ts[i].cells[j]? = some u → w.cell? ⟨b, off + i * 5 + j, none⟩ = some u)
def hgtT : List Tw → Nat
  | l => l.foldl (fun h t => max h t.l) 0
theorem hgtT_take (l : List Tw) (i : Nat) (h : i < l.length) : hgtT (l.take (i + 1)) = max (hgtT (l.take i)) l[i].l := by
  unfold hgtT
  rw [List.take_succ_eq_append_getElem h, List.foldl_append]
  rfl
def cntT (key : ByteArray) (v : Nat) (l : List Tw) : Nat := (l.filter fun t => decide (v ≤ t.l) && lessB t.e.k key).length
theorem cntT_take (key : ByteArray) (v : Nat) (l : List Tw) (i : Nat) (h : i < l.length) : cntT key v (l.take (i + 1)) = cntT key v (l.take i) + (if (decide (v ≤ l[i].l) && lessB l[i].e.k key) = true then 1 else 0) := by
  unfold cntT
  rw [List.take_succ_eq_append_getElem h, List.filter_append, List.length_append]
  congr 1
  by_cases hc : (decide (v ≤ l[i].l) && lessB l[i].e.k key) = true
  · rw [if_pos hc]
    simp only [List.filter_cons, hc, if_true]
    rfl
  · rw [if_neg hc]
    simp only [List.filter_cons, hc]
    rfl
theorem cntT_le (key : ByteArray) (v : Nat) (l : List Tw) : cntT key v l ≤ l.length := List.length_filter_le _ _
def pathT (key : ByteArray) (l : List Tw) (h k : Nat) : List Value := (List.range k).map fun j => Value.int .i64 ((cntT key (h - j) l : Nat) : Int)
theorem pathT_succ (key : ByteArray) (l : List Tw) (h k : Nat) : pathT key l h (k + 1) = pathT key l h k ++ [.int .i64 ((cntT key (h - k) l : Nat) : Int)] := by
  unfold pathT
  rw [List.range_succ, List.map_append]
  rfl
theorem hgtT_le {l : List Tw} {h : Nat} (hh : ∀ t ∈ l, t.l ≤ h) : hgtT l ≤ h := by
  unfold hgtT
  have : ∀ (l : List Tw) (a : Nat), a ≤ h → (∀ t ∈ l, t.l ≤ h) → l.foldl (fun h t => max h t.l) a ≤ h := by
    intro l
    induction l with
    | nil => intro a ha _; exact ha
    | cons t l ih =>
      intro a ha ht
      exact ih _ (by have := ht t (by simp); show max a t.l ≤ h; omega) (fun x hx => ht x (List.mem_cons_of_mem _ hx))
  exact this l 0 (Nat.zero_le _) hh
end Go.Proofs.YthaalhigmihijabGreat
