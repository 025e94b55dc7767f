/- Twin's first loop: what is there of the copy so far. -/
import Derived.Test.YtfndlfnlepndmaaGreatSD
import Derived.Test.YtfndlfnlepndmaaGreatSG
namespace Go.Proofs.YtfndlfnlepndmaaGreat
open Go.RowKit

def tCells (r : Rep) (s : St) (mb : Nat) (pv : Value) : Array Value :=
  #[.bool s.made, .bool s.on, .int .i64 s.room, .int .i64 s.steps, .int .i64 s.fuse, .int .i64 s.bad, .map (some r.mn), .map (some mb), pv]
theorem FileOk.lt {w : World} {x : Nat × Value} {f : Fil} (h : FileOk w x f) : ∀ k ∈ fFoot x, k < w.heap.size := by
  intro k hk
  simp only [fFoot, List.mem_cons, Option.mem_toList] at hk
  rcases hk with rfl | hk
  · exact (Array.getElem?_eq_some_iff.1 h.cells).1
  · exact h.row.lt k hk
theorem uniq_of : ∀ {l : Dir}, l.Pairwise (fun p q => p.1 ≠ q.1) → ∀ {p q : Nm × Nat}, p ∈ l → q ∈ l → p.1 = q.1 → p = q
  | [], _, _, _, h, _, _ => by cases h
  | a :: l, hp, p, q, h1, h2, e => by
    have hc := List.pairwise_cons.1 hp
    rcases List.mem_cons.1 h1 with k1 | k1
    · rcases List.mem_cons.1 h2 with k2 | k2
      · rw [k1, k2]
      · exact absurd e (k1 ▸ hc.1 q k2)
    · rcases List.mem_cons.1 h2 with k2 | k2
      · exact absurd e.symm (k2 ▸ hc.1 p k1)
      · exact uniq_of hc.2 k1 k2 e
/-- Of the names that are not left the files are copied: G tells where. -/
structure Half (w wr : World) (r : Rep) (s : St) (left : Lit → Bool) (G : Nm → Nat × Value) : Prop where
  bel : Below w.heap.size w wr
  size : w.heap.size + 3 ≤ wr.heap.size
  tc : wr.heap[w.heap.size]? = some (.cells (tCells r s (w.heap.size + 1) r.pv) 70)
  dir : DirAt wr (w.heap.size + 1) (doneD left (fun n => (G n).1) s.last)
  ok : ∀ p ∈ s.last, left (.string p.1) = false → FileOk wr (G p.1) (s.files.getD p.2 nofil)
  far : ∀ p ∈ s.last, left (.string p.1) = false → ∀ k ∈ fFoot (G p.1), w.heap.size + 3 ≤ k
  nd : ∀ p ∈ s.last, left (.string p.1) = false → (fFoot (G p.1)).Nodup
  dj : ∀ p ∈ s.last, ∀ q ∈ s.last, left (.string p.1) = false → left (.string q.1) = false → p.1 ≠ q.1 → ∀ k ∈ fFoot (G p.1), k ∉ fFoot (G q.1)
section
variable {w wr : World} {r : Rep} {s : St} {left : Lit → Bool} {G : Nm → Nat × Value}
/-- Nothing of it was touched. -/
theorem Half.kept {w' : World} (h : Half w wr r s left G) (hb : Below w.heap.size w w') (hs : wr.heap.size ≤ w'.heap.size) (hk : ∀ k, w.heap.size ≤ k → k ≠ w.heap.size + 2 → k < wr.heap.size → w'.heap[k]? = wr.heap[k]?) : Half w w' r s left G where
  bel := hb
  size := Nat.le_trans h.size hs
  tc := (hk _ (Nat.le_refl _) (by omega) (by have := h.size; omega)).trans h.tc
  dir := h.dir.kept (hk _ (by omega) (by omega) (by have := h.size; omega))
  ok := fun p hp hl => (h.ok p hp hl).kept (fun k hm => by
    have h1 := h.far p hp hl k hm
    exact hk k (by omega) (by omega) ((h.ok p hp hl).lt k hm))
  far := h.far
  nd := h.nd
  dj := h.dj
theorem less_false {y n : Nm} (h : lessL left y (.string n) = false) : n = y ∨ (n ≠ y ∧ left (.string n) = false) := by
  rw [lessL_at] at h
  by_cases e : n = y
  · exact .inl e
  · have : (n == y) = false := by simpa using e
    rw [this] at h
    exact .inr ⟨e, by simpa using h⟩
/-- One name more: its file was copied in w3, and named in w4. -/
theorem Half.step {w3 w4 : World} (h : Half w wr r s left G) (hr : Rise s.last) {y : Nm} {i : Nat} (hy : (y, i) ∈ s.last) (hl : left (.string y) = true) {x' : Nat × Value}
    (hok : FileOk w3 x' (s.files.getD i nofil)) (hb3 : Below wr.heap.size wr w3) (hf : ∀ k ∈ fFoot x', wr.heap.size ≤ k) (hn : (fFoot x').Nodup)
    (hd : DirAt w4 (w.heap.size + 1) (dput (doneD left (fun n => (G n).1) s.last) y x'.1)) (hg : w3.grownBy w4 (some (w.heap.size + 1))) : Half w w4 r s (lessL left y) (plusG G y x') := by
  have hsz := h.size
  have h34 : ∀ k, k < w3.heap.size → k ≠ w.heap.size + 1 → w4.heap[k]? = w3.heap[k]? := fun k hk hne => hg.block k hk (by simpa using fun e => hne e)
  have h24 : ∀ k, k < wr.heap.size → k ≠ w.heap.size + 1 → w4.heap[k]? = wr.heap[k]? := fun k hk hne => (h34 k (Nat.lt_of_lt_of_le hk hb3.size) hne).trans (hb3.block k hk)
  have eqG : ∀ n, n ≠ y → plusG G y x' n = G n := fun n hn' => if_neg hn'
  have eqY : plusG G y x' y = x' := if_pos rfl
  have uniq : ∀ p ∈ s.last, p.1 = y → p.2 = i := fun p hp e => by
    have := uniq_of (rise_ne hr) hp hy e
    rw [this]
  refine ⟨?_, ?_, ?_, ?_, ?_, ?_, ?_, ?_⟩
  · refine h.bel.trans ?_
    have b1 := hb3.mono (show w.heap.size ≤ wr.heap.size by omega)
    exact b1.trans ⟨hg.os, hg.tape, hg.output, hg.size, fun k hk => h34 k (by have := hb3.size; omega) (by omega)⟩
  · have := hb3.size
    have := hg.size
    omega
  · exact (h24 _ (by omega) (by omega)).trans h.tc
  · rw [doneD_put hl hr hy] at hd
    have : (fun n => (plusG G y x' n).1) = plusG (fun n => (G n).1) y x'.1 := by
      funext n
      unfold plusG
      split <;> rfl
    rw [this]
    exact hd
  · intro p hp hlp
    rcases less_false hlp with e | ⟨e, hlp'⟩
    · rw [e, eqY, uniq p hp e]
      exact hok.kept (fun k hk => h34 k (hok.lt k hk) (by have := hf k hk; omega))
    · rw [eqG _ e]
      exact (h.ok p hp hlp').kept (fun k hk => h24 k ((h.ok p hp hlp').lt k hk) (by have := h.far p hp hlp' k hk; omega))
  · intro p hp hlp k hk
    rcases less_false hlp with e | ⟨e, hlp'⟩
    · rw [e, eqY] at hk
      have := hf k hk
      omega
    · rw [eqG _ e] at hk
      exact h.far p hp hlp' k hk
  · intro p hp hlp
    rcases less_false hlp with e | ⟨e, hlp'⟩
    · rw [e, eqY]; exact hn
    · rw [eqG _ e]; exact h.nd p hp hlp'
  · intro p hp q hq hlp hlq hne k hk hk2
    rcases less_false hlp with e | ⟨e, hlp'⟩
    · rcases less_false hlq with e2 | ⟨e2, hlq'⟩
      · exact hne (e.trans e2.symm)
      · rw [e, eqY] at hk
        rw [eqG _ e2] at hk2
        have := hf k hk
        have := (h.ok q hq hlq').lt k hk2
        omega
    · rcases less_false hlq with e2 | ⟨e2, hlq'⟩
      · rw [eqG _ e] at hk
        rw [e2, eqY] at hk2
        have := hf k hk2
        have := (h.ok p hp hlp').lt k hk
        omega
      · rw [eqG _ e] at hk
        rw [eqG _ e2] at hk2
        exact h.dj p hp q hq hlp' hlq' hne k hk hk2
end
end Go.Proofs.YtfndlfnlepndmaaGreat
