/- The document's own All; lists of lists of versions. -/
import Derived.Test.YtcbailiniigcnaaP14
import Derived.Lib.Hide
namespace Go.Proofs.Ytcbailiniigcnaa
open Go.RowKit

/-- Lists of versions that can be read. -/
def LsAt (w : World) (a : Option Addr) (n : Nat) (ls : List (List Ent)) : Prop :=
  ls.length = n ∧ (n = 0 ∨ ∃ b off, a = some ⟨b, off, none⟩ ∧ b < w.heap.size ∧ ∀ i (h : i < ls.length), ∃ ai ci, w.cell? ⟨b, off + i, none⟩ = some (.slice ai ls[i].length ci) ∧ EntsAt w.heap.size w ai ls[i].length ls[i] ∧ ls[i].length ≤ ci)
theorem LsAt.below {w w' : World} {a : Option Addr} {n : Nat} {ls : List (List Ent)} (h : LsAt w a n ls) (hb : Below w.heap.size w w') : LsAt w' a n ls := by
  refine ⟨h.1, ?_⟩
  rcases h.2 with h0 | ⟨b, off, e, hlt, hc⟩
  · exact .inl h0
  · refine .inr ⟨b, off, e, Nat.lt_of_lt_of_le hlt hb.size, fun i hi => ?_⟩
    obtain ⟨ai, ci, h1, h2, h3⟩ := hc i hi
    exact ⟨ai, ci, (hb.cell (p := ⟨b, off + i, none⟩) hlt).trans h1, (h2.below hb).mono hb.size, h3⟩
theorem insE_cut {x : Ent} : ∀ {es P Q : List Ent}, CutE x es P Q → (thereE x Q = true → insE es x = es) ∧ (thereE x Q = false → insE es x = P ++ x :: Q) := by
  intro es P
  induction P generalizing es with
  | nil =>
    intro Q h
    obtain rfl : es = Q := h.all
    cases es with
    | nil => exact ⟨(fun h => by cases h), fun _ => rfl⟩
    | cons y r =>
      have hn := h.behind y (by simp)
      unfold ltE at hn
      unfold thereE insE
      rw [if_neg hn]
      constructor
      · intro h1
        rw [if_pos (by simpa using h1)]
      · intro h1
        rw [if_neg (by simpa using h1)]
        rfl
  | cons y P ih =>
    intro Q h
    obtain rfl : es = y :: (P ++ Q) := h.all
    have hy := h.ahead y (by simp)
    unfold ltE at hy
    have h2 : CutE x (P ++ Q) P Q := ⟨rfl, fun z hz => h.ahead z (List.mem_cons_of_mem _ hz), h.behind⟩
    obtain ⟨i1, i2⟩ := ih h2
    unfold insE
    rw [if_pos hy]
    exact ⟨fun h => by rw [i1 h], fun h => by rw [i2 h]; rfl⟩
/-- A row of versions of the call's own (none: nil). -/
structure OwnE (B : Nat) (w : World) (v : Value) (l : List Ent) : Prop where
  row : Row w 29 4 v l.length (cellsE l)
  nil : l = [] → v = .slice none 0 0
  new : ∀ b, ob v = some b → B ≤ b
theorem flat_take (ls : List (List Ent)) (i : Nat) (h : i < ls.length) : (ls.take (i + 1)).flatten = (ls.take i).flatten ++ ls[i] := by
  have e : ls.take (i + 1) = ls.take i ++ [ls[i]] := by rw [List.take_add_one, List.getElem?_eq_getElem h]; rfl
  rw [e, List.flatten_append]
  simp
theorem ent_take (l : List Ent) (k : Nat) (h : k < l.length) : l.take (k + 1) = l.take k ++ [l[k]] := by
  rw [List.take_add_one, List.getElem?_eq_getElem h]
  rfl
end Go.Proofs.Ytcbailiniigcnaa
