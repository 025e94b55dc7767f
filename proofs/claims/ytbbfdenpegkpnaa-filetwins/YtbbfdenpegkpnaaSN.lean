/- Twin: what its two loops and redo have made is a System, the twin. -/
import Derived.Test.YtbbfdenpegkpnaaSM
namespace Go.Proofs.Ytbbfdenpegkpnaa
open Go.RowKit

theorem idx_at (G : Nm → Nat × Value) (post : List (Nat × Value)) : ∀ (l : Dir) (pre : List (Nat × Value)), mapD (atOf (pre ++ ((l.map fun p => G p.1) ++ post))) (idxD pre.length l) = l.map fun p => (p.1, (G p.1).1)
  | [], _ => rfl
  | p :: l, pre => by
    have ih := idx_at G post l (pre ++ [G p.1])
    rw [List.length_append, List.length_singleton, List.append_assoc] at ih
    have key : ∀ F : Nat → Nat, mapD F (idxD pre.length (p :: l)) = (p.1, F pre.length) :: mapD F (idxD (pre.length + 1) l) := fun _ => rfl
    have e : atOf (pre ++ (((p :: l).map fun p => G p.1) ++ post)) pre.length = (G p.1).1 := by
      unfold atOf
      simp [List.getD_eq_getElem?_getD]
    rw [key, e]
    exact congrArg ((p.1, (G p.1).1) :: ·) ih
section
variable {w wr : World} {r : Rep} {s : St} {G : Nm → Nat × Value} {pv : Value} {M : List (Nat × Value)}
def twinRep (w : World) (mn : Nat) (pv : Value) (fs : List (Nat × Value)) : Rep := ⟨w.heap.size, mn, w.heap.size + 1, pv, fs⟩
theorem Mid.lastm (h : Mid w wr r s G pv M s.pend.length) : DirAt wr (w.heap.size + 1) (mapD (atOf (FSof s G ++ M)) (idxD 0 s.last)) := by
  have e := idx_at G M s.last []
  have := h.dir
  rw [← e] at this
  exact this
theorem Mid.pendm (h : Mid w wr r s G pv M s.pend.length) : Row wr 72 3 pv (renum s.last.length s.pend).length ((renum s.last.length s.pend).flatMap (chgCells (atOf (FSof s G ++ M)))) := by
  have := h.row
  rw [List.take_length, List.drop_length, List.flatMap_nil, List.append_nil] at this
  rw [renum_length]
  exact this
theorem Mid.sys (h : Mid w wr r s G pv M s.pend.length) (hw : WF s) (hC : Coh s) {w5 : World} {mn : Nat} (hb5 : Below wr.heap.size wr w5) (hmn : wr.heap.size ≤ mn) (hd : DirAt w5 mn (mapD (atOf (FSof s G ++ M)) (twinSt s).now)) :
    Sys (w5.setCell ⟨w.heap.size, 6, none⟩ (.map (some mn))) (twinRep w mn pv (FSof s G ++ M)) (twinSt s) := by
  have h5 := h.kept (w' := w5) (h.bel.trans (hb5.mono h.bel.size)) (fun x _ hx => hb5.block x hx)
  have hT : w.heap.size < wr.heap.size := h.lt _ (by simp [midFoot])
  have hoth : ∀ y, y ≠ w.heap.size → (w5.setCell ⟨w.heap.size, 6, none⟩ (.map (some mn))).heap[y]? = w5.heap[y]? := fun y hy => heap_setCell_other _ ⟨w.heap.size, 6, none⟩ _ _ hy
  have hne : ∀ y ∈ (w.heap.size + 1) :: ((ob pv).toList ++ (FSof s G ++ M).flatMap fFoot), y ≠ w.heap.size := fun y hy e => (List.nodup_cons.1 h.nod).1 (e ▸ hy)
  have hmnn : mn ∉ midFoot w pv (FSof s G ++ M) := fun hm => by have := h.lt mn hm; omega
  refine ⟨heap_setCell_same w5 w.heap.size 6 _ _ _ h5.tc, hd.kept (hoth mn (by omega)), h5.lastm.kept (hoth _ (by omega)), h5.pendm.kept (fun y hy => hoth y (hne y (by simp [hy]))), ?_, ?_, ?_, (twin_of hw).wf hw hC⟩
  · have := h.flen
    rw [List.take_length] at this
    show (FSof s G ++ M).length = _
    rw [this]
    simp [twinSt, oldIds]
  · intro i x f hx hf
    have hf' : ((oldIds s).map fun i => s.files.getD i default)[i]? = some f := hf
    rw [List.getElem?_map] at hf'
    cases ho : (oldIds s)[i]? with
    | none => rw [ho] at hf'; cases hf'
    | some j =>
      rw [ho] at hf'
      simp only [Option.map_some, Option.some.injEq] at hf'
      subst hf'
      have hx' : (FSof s G ++ M)[i]? = some x := hx
      refine (h5.ok i x j hx' (by rw [List.take_length]; exact ho)).kept (fun y hy => hoth y (hne y ?_))
      exact List.mem_cons_of_mem _ (List.mem_append.2 (.inr (List.mem_flatMap.2 ⟨x, List.mem_of_getElem? hx', hy⟩)))
  · show (w.heap.size :: mn :: (w.heap.size + 1) :: ((ob pv).toList ++ (FSof s G ++ M).flatMap fFoot)).Nodup
    have hn := List.nodup_cons.1 h.nod
    refine List.nodup_cons.2 ⟨fun hm => ?_, List.nodup_cons.2 ⟨fun hm => hmnn (List.mem_cons_of_mem _ hm), hn.2⟩⟩
    rcases List.mem_cons.1 hm with e | hm
    · exact hmnn (by rw [← e]; simp [midFoot])
    · exact hn.1 hm
end
end Go.Proofs.Ytbbfdenpegkpnaa
