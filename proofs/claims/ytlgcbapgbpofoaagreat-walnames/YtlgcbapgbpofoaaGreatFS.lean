/- A System in memory: where its parts lie, what it is then, and what stays. -/
import Derived.Test.YtlgcbapgbpofoaaGreatRows
import Derived.Test.YtlgcbapgbpofoaaGreatFD
import Derived.Test.YtlgcbapgbpofoaaGreatFR
namespace Go.Proofs.YtlgcbapgbpofoaaGreat
open Go.RowKit

/-- Where the parts of a System lie: itself, its two maps, its pending changes, each file and its bytes. -/
structure Rep where
  p : Nat
  mn : Nat
  ml : Nat
  pv : Value
  fs : List (Nat × Value)
def nofile : Nat × Value := (0, .slice none 0 0)
def Rep.at (r : Rep) (i : Nat) : Nat := (r.fs.getD i nofile).1
def fFoot (x : Nat × Value) : List Nat := x.1 :: (ob x.2).toList
def Rep.rest (r : Rep) : List Nat := (ob r.pv).toList ++ r.fs.flatMap fFoot
def Rep.foot (r : Rep) : List Nat := r.p :: r.mn :: r.ml :: r.rest
def sysCells (r : Rep) (s : St) : Array Value :=
  #[.bool s.made, .bool s.on, .int .i64 s.room, .int .i64 s.steps, .int .i64 s.fuse, .int .i64 s.bad, .map (some r.mn), .map (some r.ml), r.pv]
def chgCells (f : Nat → Nat) (c : Chg) : List Value := [.string ⟨c.src.toArray⟩, .string ⟨c.dst.toArray⟩, pAt (c.made.map f)]
def byteVals (l : List UInt8) : List Value := l.map fun b => Value.int .u8 b.toNat
structure FileOk (w : World) (x : Nat × Value) (f : Fil) : Prop where
  cells : w.heap[x.1]? = some (.cells #[x.2, .int .i64 f.syn] 203)
  row : Row w 5 1 x.2 f.b.length (byteVals f.b)
  syn : f.syn ≤ f.b.length
/-- What a state keeps. -/
structure WF (s : St) : Prop where
  nids : ∀ p ∈ s.now, p.2 < s.files.length
  nnms : ∀ p ∈ s.now, isNm p.1 = true
  ids : ∀ p ∈ s.last, p.2 < s.files.length
  made : ∀ c ∈ s.pend, ∀ i, c.made = some i → i < s.files.length
  nms : ∀ p ∈ s.last, isNm p.1 = true
  cnms : ∀ c ∈ s.pend, (c.src = [] ∨ isNm c.src = true) ∧ (c.dst = [] ∨ isNm c.dst = true)
theorem WF.of {s s' : St} (h : WF s) (e1 : s'.now = s.now) (e2 : s'.last = s.last) (e3 : s'.pend = s.pend) (e4 : s'.files = s.files) : WF s' :=
  ⟨by rw [e1, e4]; exact h.nids, by rw [e1]; exact h.nnms, by rw [e2, e4]; exact h.ids, by rw [e3, e4]; exact h.made, by rw [e2]; exact h.nms, by rw [e3]; exact h.cnms⟩
structure Sys (w : World) (r : Rep) (s : St) : Prop where
  cells : w.heap[r.p]? = some (.cells (sysCells r s) 167)
  now : OwnsDir Tryz.prog 9 w r.mn (mapD r.at s.now)
  last : OwnsDir Tryz.prog 9 w r.ml (mapD r.at s.last)
  pend : Row w 205 3 r.pv s.pend.length (s.pend.flatMap (chgCells r.at))
  len : r.fs.length = s.files.length
  file : ∀ (i : Nat) (x : Nat × Value) (f : Fil), r.fs[i]? = some x → s.files[i]? = some f → FileOk w x f
  apart : r.foot.Nodup
  wf : WF s

section
variable {w : World} {r : Rep} {s : St}
theorem Sys.cell (h : Sys w r s) (j : Nat) (v : Value) (hj : (sysCells r s)[j]? = some v) : w.cell? ⟨r.p, j, none⟩ = some v := by
  simp only [World.cell?, h.cells]
  exact hj
theorem Sys.c0 (h : Sys w r s) : w.cell? ⟨r.p, 0, none⟩ = some (.bool s.made) := h.cell 0 _ rfl
theorem Sys.c1 (h : Sys w r s) : w.cell? ⟨r.p, 1, none⟩ = some (.bool s.on) := h.cell 1 _ rfl
theorem Sys.c2 (h : Sys w r s) : w.cell? ⟨r.p, 2, none⟩ = some (.int .i64 s.room) := h.cell 2 _ rfl
theorem Sys.c3 (h : Sys w r s) : w.cell? ⟨r.p, 3, none⟩ = some (.int .i64 s.steps) := h.cell 3 _ rfl
theorem Sys.c4 (h : Sys w r s) : w.cell? ⟨r.p, 4, none⟩ = some (.int .i64 s.fuse) := h.cell 4 _ rfl
theorem Sys.c5 (h : Sys w r s) : w.cell? ⟨r.p, 5, none⟩ = some (.int .i64 s.bad) := h.cell 5 _ rfl
theorem Sys.c6 (h : Sys w r s) : w.cell? ⟨r.p, 6, none⟩ = some (.map (some r.mn)) := h.cell 6 _ rfl
theorem Sys.c7 (h : Sys w r s) : w.cell? ⟨r.p, 7, none⟩ = some (.map (some r.ml)) := h.cell 7 _ rfl
theorem Sys.c8 (h : Sys w r s) : w.cell? ⟨r.p, 8, none⟩ = some r.pv := h.cell 8 _ rfl
theorem Sys.warm (h : Sys w r s) (j : Nat) : w.frozen? ⟨r.p, j, none⟩ = false := by simp [World.frozen?, h.cells]
theorem FileOk.kept {w' : World} {x : Nat × Value} {f : Fil} (h : FileOk w x f) (hk : ∀ k ∈ fFoot x, w'.heap[k]? = w.heap[k]?) : FileOk w' x f :=
  ⟨(hk x.1 (by simp [fFoot])).trans h.cells, h.row.kept (fun k e => hk k (by simp [fFoot, e])), h.syn⟩
theorem Rep.mem_pv (r : Rep) {k : Nat} (h : ob r.pv = some k) : k ∈ r.rest := by simp [Rep.rest, h]
theorem Rep.mem_fs (r : Rep) {i : Nat} {x : Nat × Value} (h : r.fs[i]? = some x) {k : Nat} (hk : k ∈ fFoot x) : k ∈ r.rest := by
  have := List.mem_of_getElem? h
  simp only [Rep.rest, List.mem_append, List.mem_flatMap]
  exact .inr ⟨x, this, hk⟩
theorem Sys.lt (h : Sys w r s) : ∀ k ∈ r.foot, k < w.heap.size := by
  intro k hk
  simp only [Rep.foot, List.mem_cons] at hk
  rcases hk with rfl | rfl | rfl | hk
  · exact (Array.getElem?_eq_some_iff.1 h.cells).1
  · exact h.now.lt
  · exact h.last.lt
  · simp only [Rep.rest, List.mem_append, List.mem_flatMap, Option.mem_toList] at hk
    rcases hk with hk | ⟨x, hx, hk⟩
    · exact h.pend.lt k hk
    · obtain ⟨i, hi⟩ := List.getElem?_of_mem hx
      have hil : i < s.files.length := by
        rw [← h.len]
        exact (List.getElem?_eq_some_iff.1 hi).1
      have hf := h.file i x _ hi (List.getElem?_eq_getElem hil)
      simp only [fFoot, List.mem_cons, Option.mem_toList] at hk
      rcases hk with rfl | hk
      · exact (Array.getElem?_eq_some_iff.1 hf.cells).1
      · exact hf.row.lt k hk
/-- Nothing of it was touched. -/
theorem Sys.kept {w' : World} (h : Sys w r s) (hk : ∀ k ∈ r.foot, w'.heap[k]? = w.heap[k]?) : Sys w' r s where
  cells := (hk _ (by simp [Rep.foot])).trans h.cells
  now := h.now.kept (hk _ (by simp [Rep.foot]))
  last := h.last.kept (hk _ (by simp [Rep.foot]))
  pend := h.pend.kept (fun k e => hk k (by simp [Rep.foot, r.mem_pv e]))
  len := h.len
  file := fun i x f hx hf => (h.file i x f hx hf).kept (fun k hk' => hk k (by simp [Rep.foot, r.mem_fs hx hk']))
  apart := h.apart
  wf := h.wf
theorem Sys.turned {w' : World} {F : List Nat} (h : Sys w r s) (ht : Turn F w w') (hF : ∀ k ∈ r.foot, k ∉ F) : Sys w' r s :=
  h.kept fun k hk => ht.block k (h.lt k hk) (hF k hk)
theorem Sys.below {w' : World} (h : Sys w r s) (hb : Below w.heap.size w w') : Sys w' r s := h.kept fun k hk => hb.block k (h.lt k hk)
/-- Its plain fields alone have turned. -/
theorem Sys.fields {w' : World} {s' : St} (h : Sys w r s) (hc : w'.heap[r.p]? = some (.cells (sysCells r s') 167)) (hk : ∀ k ∈ r.foot, k ≠ r.p → w'.heap[k]? = w.heap[k]?)
    (e1 : s'.now = s.now) (e2 : s'.last = s.last) (e3 : s'.pend = s.pend) (e4 : s'.files = s.files) : Sys w' r s' := by
  have hp := List.nodup_cons.1 h.apart
  have hk' : ∀ k ∈ r.mn :: r.ml :: r.rest, w'.heap[k]? = w.heap[k]? := fun k hm => hk k (List.mem_cons_of_mem _ hm) (fun e => hp.1 (e ▸ hm))
  refine ⟨hc, ?_, ?_, ?_, ?_, ?_, h.apart, ?_⟩
  · rw [e1]; exact h.now.kept (hk' _ (by simp))
  · rw [e2]; exact h.last.kept (hk' _ (by simp))
  · rw [e3]; exact h.pend.kept (fun k e => hk' k (by simp [r.mem_pv e]))
  · rw [e4]; exact h.len
  · rw [e4]; exact fun i x f hx hf => (h.file i x f hx hf).kept (fun k hm => hk' k (by simp [r.mem_fs hx hm]))
  · exact h.wf.of e1 e2 e3 e4
/-- What a call leaves: a System at the same place, and all outside it as it was. -/
def Next (w : World) (r : Rep) (s' : St) (w' : World) : Prop := ∃ r', Sys w' r' s' ∧ r'.p = r.p ∧ Turn r.foot w w' ∧ ∀ k ∈ r'.foot, k ∈ r.foot ∨ w.heap.size ≤ k
theorem Sys.next (h : Sys w r s) : Next w r s w := ⟨r, h, rfl, Turn.refl _ _, fun _ hk => .inl hk⟩
theorem Sys.drew (h : Sys w r s) : Sys w.drew r s := h.kept fun _ _ => rfl
theorem Sys.drewN (h : Sys w r s) (n : Nat) : Sys (w.drewN n) r s := h.kept fun _ _ => rfl
theorem Next.after {w0 w' : World} {r0 : Rep} {s' : St} (h : Next w0 r0 s' w') (ht : Turn r.foot w w0) (hf : ∀ k ∈ r0.foot, k ∈ r.foot ∨ w.heap.size ≤ k) (hp : r0.p = r.p) : Next w r s' w' := by
  obtain ⟨r', h1, h2, h3, h4⟩ := h
  refine ⟨r', h1, h2.trans hp, ht.trans h3 hf, fun x hx => ?_⟩
  rcases h4 x hx with h' | h'
  · exact hf x h'
  · exact .inr (Nat.le_trans ht.size h')
theorem Next.drew0 {w' : World} {s' : St} (h : Next w.drew r s' w') : Next w r s' w' := h.after (Turn.refl _ _).drew (fun _ hk => .inl hk) rfl
theorem Next.then {w' w'' : World} {s' s'' : St} (h : Next w r s' w') (k : ∀ r', Sys w' r' s' → r'.p = r.p → Next w' r' s'' w'') : Next w r s'' w'' := by
  obtain ⟨r', h1, h2, h3, h4⟩ := h
  obtain ⟨r'', k1, k2, k3, k4⟩ := k r' h1 h2
  refine ⟨r'', k1, k2.trans h2, h3.trans k3 h4, fun x hx => ?_⟩
  rcases k4 x hx with h' | h'
  · exact h4 x h'
  · exact .inr (Nat.le_trans h3.size h')
end
end Go.Proofs.YtlgcbapgbpofoaaGreat
