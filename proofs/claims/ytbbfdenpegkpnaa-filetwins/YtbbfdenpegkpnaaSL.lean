/- Twin's second loop: what is there of the copy so far. -/
import Derived.Test.YtbbfdenpegkpnaaSK
namespace Go.Proofs.Ytbbfdenpegkpnaa
open Go.RowKit

def FSof (s : St) (G : Nm → Nat × Value) : List (Nat × Value) := s.last.map fun p => G p.1
def atOf (fs : List (Nat × Value)) (i : Nat) : Nat := (fs.getD i nofile).1
def midFoot (w : World) (pv : Value) (fs : List (Nat × Value)) : List Nat := w.heap.size :: (w.heap.size + 1) :: ((ob pv).toList ++ fs.flatMap fFoot)
structure Mid (w wr : World) (r : Rep) (s : St) (G : Nm → Nat × Value) (pv : Value) (M : List (Nat × Value)) (k : Nat) : Prop where
  bel : Below w.heap.size w wr
  tc : wr.heap[w.heap.size]? = some (.cells (tCells r s (w.heap.size + 1) pv) 67)
  dir : DirAt wr (w.heap.size + 1) (s.last.map fun p => (p.1, (G p.1).1))
  len : M.length = (madeIds (s.pend.take k)).length
  ok : ∀ (i : Nat) (x : Nat × Value) (j : Nat), (FSof s G ++ M)[i]? = some x → (s.last.map (·.2) ++ madeIds (s.pend.take k))[i]? = some j → FileOk wr x (s.files.getD j default)
  row : Row wr 72 3 pv s.pend.length ((renum s.last.length (s.pend.take k)).flatMap (chgCells (atOf (FSof s G ++ M))) ++ (s.pend.drop k).flatMap (chgCells r.at))
  nod : (midFoot w pv (FSof s G ++ M)).Nodup
  far : ∀ k ∈ midFoot w pv (FSof s G ++ M), w.heap.size ≤ k
section
variable {w wr : World} {r : Rep} {s : St} {G : Nm → Nat × Value} {pv : Value} {M : List (Nat × Value)} {k : Nat}
theorem Mid.lt (h : Mid w wr r s G pv M k) : ∀ x ∈ midFoot w pv (FSof s G ++ M), x < wr.heap.size := by
  intro x hx
  simp only [midFoot, List.mem_cons, List.mem_append, Option.mem_toList] at hx
  rcases hx with rfl | rfl | hx | hx
  · exact (Array.getElem?_eq_some_iff.1 h.tc).1
  · exact h.dir.lt
  · exact h.row.lt x hx
  · obtain ⟨y, hy, hxy⟩ := List.mem_flatMap.1 hx
    obtain ⟨i, hi⟩ := List.getElem?_of_mem hy
    have hil : i < (s.last.map (·.2) ++ madeIds (s.pend.take k)).length := by
      have h1 := (List.getElem?_eq_some_iff.1 hi).1
      have h2 := h.len
      simp only [FSof, List.length_append, List.length_map] at h1 ⊢
      omega
    exact (h.ok i y _ hi (List.getElem?_eq_getElem hil)).lt x hxy
theorem Mid.kept {w' : World} (h : Mid w wr r s G pv M k) (hb : Below w.heap.size w w') (hk : ∀ x, w.heap.size ≤ x → x < wr.heap.size → w'.heap[x]? = wr.heap[x]?) : Mid w w' r s G pv M k := by
  have hx : ∀ x ∈ midFoot w pv (FSof s G ++ M), w'.heap[x]? = wr.heap[x]? := fun x hm => hk x (h.far x hm) (h.lt x hm)
  refine ⟨hb, (hx _ (by simp [midFoot])).trans h.tc, h.dir.kept (hx _ (by simp [midFoot])), h.len, fun i x j hi hj => (h.ok i x j hi hj).kept (fun y hy => hx y ?_), h.row.kept (fun y hy => hx y (by simp [midFoot, hy])), h.nod, h.far⟩
  simp only [midFoot, List.mem_cons, List.mem_append, List.mem_flatMap]
  exact .inr (.inr (.inr ⟨x, List.mem_append.1 (List.mem_of_getElem? hi), hy⟩))
/-- All names are done, and what is pending was cloned. -/
theorem Half.mid {left : Lit → Bool} {w5 : World} (h : Half w wr r s left G) (hr : Rise s.last) (hl : ∀ kl, left kl = false) (hb5 : Below wr.heap.size wr w5)
    (hrow : Row w5 72 3 pv s.pend.length (s.pend.flatMap (chgCells r.at))) (hob : ∀ x, ob pv = some x → wr.heap.size ≤ x) :
    Mid w (w5.setCell ⟨w.heap.size, 8, none⟩ pv) r s G pv [] 0 := by
  have hsz := h.size
  have hs5 := hb5.size
  have hoth : ∀ x, x ≠ w.heap.size → (w5.setCell ⟨w.heap.size, 8, none⟩ pv).heap[x]? = w5.heap[x]? := fun x hx => heap_setCell_other _ ⟨w.heap.size, 8, none⟩ _ _ hx
  have htc := heap_setCell_same w5 w.heap.size 8 _ _ pv ((hb5.block _ (by omega)).trans h.tc)
  refine ⟨?_, htc, ?_, rfl, ?_, ?_, ?_, ?_⟩
  · refine h.bel.trans ((hb5.mono (by omega)).trans ⟨rfl, rfl, rfl, by simp, fun x hx => hoth x (by omega)⟩)
  · have := h.dir
    rw [doneD_end hl] at this
    exact this.kept ((hoth _ (by omega)).trans (hb5.block _ (by omega)))
  · intro i x j hi hj
    simp only [FSof, List.append_nil, List.getElem?_map, List.take_zero] at hi hj
    have hj' : (s.last.map (·.2))[i]? = some j := by simpa [madeIds] using hj
    rw [List.getElem?_map] at hj'
    cases hp : s.last[i]? with
    | none => rw [hp] at hi; cases hi
    | some p =>
      rw [hp] at hi hj'
      simp only [Option.map_some, Option.some.injEq] at hi hj'
      subst hi hj'
      have hm := List.mem_of_getElem? hp
      have hok := h.ok p hm (hl _)
      refine hok.kept (fun y hy => ?_)
      have hf := h.far p hm (hl _) y hy
      exact (hoth y (by omega)).trans (hb5.block y (hok.lt y hy))
  · have e : ((renum s.last.length (s.pend.take 0)).flatMap (chgCells (atOf (FSof s G ++ []))) ++ (s.pend.drop 0).flatMap (chgCells r.at)) = s.pend.flatMap (chgCells r.at) := rfl
    rw [e]
    exact hrow.kept (fun y hy => hoth y (by have := hob y hy; omega))
  · have hn := nodup_files (G := G) (rise_ne hr) (fun p hp => h.nd p hp (hl _)) (fun p hp q hq => h.dj p hp q hq (hl _) (hl _))
    have hlt : ∀ y ∈ (FSof s G).flatMap fFoot, w.heap.size + 3 ≤ y ∧ y < wr.heap.size := by
      intro y hy
      obtain ⟨x, hx, hyx⟩ := List.mem_flatMap.1 hy
      obtain ⟨p, hp, rfl⟩ := List.mem_map.1 hx
      exact ⟨h.far p hp (hl _) y hyx, (h.ok p hp (hl _)).lt y hyx⟩
    unfold midFoot
    rw [List.append_nil, List.nodup_cons, List.nodup_cons, List.nodup_append]
    have key : ∀ y ∈ (ob pv).toList ++ (FSof s G).flatMap fFoot, w.heap.size + 3 ≤ y := by
      intro y hy
      rcases List.mem_append.1 hy with hy | hy
      · have := hob y (by simpa using hy)
        omega
      · exact (hlt y hy).1
    refine ⟨?_, ?_, ?_, hn, ?_⟩
    · intro hm
      rcases List.mem_cons.1 hm with hm | hm
      · omega
      · have := key _ hm
        omega
    · intro hm
      have := key _ hm
      omega
    · cases ob pv <;> simp
    · intro y hy z hz e
      have h1 := hob y (by simpa using hy)
      have h2 := (hlt z hz).2
      omega
  · intro y hy
    simp only [midFoot, List.append_nil, List.mem_cons, List.mem_append, Option.mem_toList] at hy
    rcases hy with rfl | rfl | hy | hy
    · omega
    · omega
    · have := hob y hy
      omega
    · obtain ⟨x, hx, hyx⟩ := List.mem_flatMap.1 hy
      obtain ⟨p, hp, rfl⟩ := List.mem_map.1 hx
      have := h.far p hp (hl _) y hyx
      omega
end
end Go.Proofs.Ytbbfdenpegkpnaa
