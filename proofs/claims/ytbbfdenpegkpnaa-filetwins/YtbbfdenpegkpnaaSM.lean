/- Twin's second loop: its steps. -/
import Derived.Test.YtbbfdenpegkpnaaSL
namespace Go.Proofs.Ytbbfdenpegkpnaa
open Go.RowKit

section
variable {w wr : World} {r : Rep} {s : St} {G : Nm → Nat × Value} {pv : Value} {M : List (Nat × Value)} {k : Nat}
theorem take_succ {α : Type} {l : List α} {k : Nat} {c : α} (h : l[k]? = some c) : l.take (k + 1) = l.take k ++ [c] := by
  rw [List.take_add_one, h]
  rfl
theorem drop_succ {α : Type} {l : List α} {k : Nat} {c : α} (h : l[k]? = some c) : l.drop k = c :: l.drop (k + 1) := by
  obtain ⟨hk, rfl⟩ := List.getElem?_eq_some_iff.1 h
  exact List.drop_eq_getElem_cons hk
theorem Mid.flen (h : Mid w wr r s G pv M k) : (FSof s G ++ M).length = s.last.length + (madeIds (s.pend.take k)).length := by
  rw [List.length_append, h.len]
  simp [FSof]
theorem atOf_app {fs : List (Nat × Value)} {x : Nat × Value} {i : Nat} (h : i < fs.length) : atOf (fs ++ [x]) i = atOf fs i := by
  unfold atOf
  rw [List.getD_eq_getElem?_getD, List.getD_eq_getElem?_getD, List.getElem?_append_left h]
theorem atOf_new {fs : List (Nat × Value)} {x : Nat × Value} : atOf (fs ++ [x]) fs.length = x.1 := by
  unfold atOf
  simp [List.getD_eq_getElem?_getD]
/-- A change that made no file. -/
theorem Mid.step_none {w3 : World} (h : Mid w wr r s G pv M k) {c : Chg} (hk : s.pend[k]? = some c) (hm : c.made = none) (hb3 : Below wr.heap.size wr w3) {g cap : Nat} (hpv : pv = .slice (some ⟨g, 0, none⟩) s.pend.length cap) :
    Mid w (w3.setCell ⟨g, k * 3 + 2, none⟩ (.pointer none)) r s G pv M (k + 1) := by
  have hkl : k < s.pend.length := (List.getElem?_eq_some_iff.1 hk).1
  have h3 := h.kept (w' := w3) (h.bel.trans (hb3.mono h.bel.size)) (fun x _ hx => hb3.block x hx)
  have e1 : madeIds (s.pend.take (k + 1)) = madeIds (s.pend.take k) := by
    rw [take_succ hk, madeIds_append]
    simp [madeIds, hm]
  have e2 : renum s.last.length (s.pend.take (k + 1)) = renum s.last.length (s.pend.take k) ++ [⟨c.src, c.dst, none⟩] := by
    rw [take_succ hk, renum_append]
    simp [renum, hm]
  have hob : (∃ n, cap = n + 1) → ob pv = some g := by
    rintro ⟨n, rfl⟩
    rw [hpv]
    rfl
  have hcap : ∃ n, cap = n + 1 := by
    obtain ⟨a, c', h1, h2, -⟩ := h.row.le
    rw [hpv] at h1
    simp only [Value.slice.injEq] at h1
    exact ⟨cap - 1, by omega⟩
  have hg := hob hcap
  have hnod := h.nod
  have hoth : ∀ y ∈ midFoot w pv (FSof s G ++ M), y ≠ g → (w3.setCell ⟨g, k * 3 + 2, none⟩ (.pointer none)).heap[y]? = w3.heap[y]? := fun y _ hy => heap_setCell_other _ ⟨g, k * 3 + 2, none⟩ _ _ hy
  have hgm : g ∈ (ob pv).toList := by rw [hg]; simp
  have hT : w.heap.size ≠ g := fun e => by
    have := (List.nodup_cons.1 hnod).1
    exact this (by rw [e]; simp [hgm])
  have hMB : w.heap.size + 1 ≠ g := fun e => by
    have := (List.nodup_cons.1 (List.nodup_cons.1 hnod).2).1
    exact this (by rw [e]; simp [hgm])
  have hF : ∀ y ∈ (FSof s G ++ M).flatMap fFoot, y ≠ g := fun y hy e => by
    have := (List.nodup_append.1 (List.nodup_cons.1 (List.nodup_cons.1 hnod).2).2).2.2
    exact this g hgm y hy e.symm
  refine ⟨h3.bel.trans ⟨rfl, rfl, rfl, by simp, fun x hx => heap_setCell_other _ ⟨g, k * 3 + 2, none⟩ _ _ ?_⟩, ?_, ?_, by rw [e1]; exact h.len, ?_, ?_, h.nod, h.far⟩
  · have := h.far g (by simp [midFoot, hgm])
    show x ≠ g
    omega
  · exact (hoth _ (by simp [midFoot]) hT).trans h3.tc
  · exact h3.dir.kept (hoth _ (by simp [midFoot]) hMB)
  · intro i x j hi hj
    rw [e1] at hj
    refine (h3.ok i x j hi hj).kept (fun y hy => ?_)
    have hyf : y ∈ (FSof s G ++ M).flatMap fFoot := List.mem_flatMap.2 ⟨x, List.mem_of_getElem? hi, hy⟩
    exact hoth y (by simp only [midFoot, List.mem_cons, List.mem_append]; exact .inr (.inr (.inr hyf))) (hF y hyf)
  · have hr := h3.row.set hpv (k * 3 + 2) (by omega) (.pointer none)
    rw [drop_succ hk, List.flatMap_cons] at hr
    have hA : ((renum s.last.length (s.pend.take k)).flatMap (chgCells (atOf (FSof s G ++ M)))).length = k * 3 := by
      rw [chunks_length, renum_length, List.length_take, Nat.min_eq_left (by omega)]
    have ec : chgCells r.at c = [.string ⟨c.src.toArray⟩, .string ⟨c.dst.toArray⟩, pAt (c.made.map r.at)] := rfl
    rw [ec, set_third _ _ _ _ _ _ _ hA] at hr
    rw [e2, List.flatMap_append, List.append_assoc]
    exact hr
/-- A change that made a file: x' is its copy. -/
theorem Mid.step_some {w3 : World} (h : Mid w wr r s G pv M k) {c : Chg} {j : Nat} (hk : s.pend[k]? = some c) (hm : c.made = some j) (hb3 : Below wr.heap.size wr w3) {g cap : Nat} (hpv : pv = .slice (some ⟨g, 0, none⟩) s.pend.length cap)
    {x' : Nat × Value} (hok : FileOk w3 x' (s.files.getD j default)) (hf : ∀ y ∈ fFoot x', wr.heap.size ≤ y) (hn : (fFoot x').Nodup) :
    Mid w (w3.setCell ⟨g, k * 3 + 2, none⟩ (.pointer (some ⟨x'.1, 0, none⟩))) r s G pv (M ++ [x']) (k + 1) := by
  have hkl : k < s.pend.length := (List.getElem?_eq_some_iff.1 hk).1
  have h3 := h.kept (w' := w3) (h.bel.trans (hb3.mono h.bel.size)) (fun x _ hx => hb3.block x hx)
  have e1 : madeIds (s.pend.take (k + 1)) = madeIds (s.pend.take k) ++ [j] := by
    rw [take_succ hk, madeIds_append]
    simp [madeIds, hm]
  have hfl := h.flen
  have e2 : renum s.last.length (s.pend.take (k + 1)) = renum s.last.length (s.pend.take k) ++ [⟨c.src, c.dst, some (FSof s G ++ M).length⟩] := by
    rw [take_succ hk, renum_append, hfl]
    simp [renum, hm]
  have hcap : ∃ n, cap = n + 1 := by
    obtain ⟨a, c', h1, h2, -⟩ := h.row.le
    rw [hpv] at h1
    simp only [Value.slice.injEq] at h1
    exact ⟨cap - 1, by omega⟩
  have hg : ob pv = some g := by
    obtain ⟨n, rfl⟩ := hcap
    rw [hpv]
    rfl
  have hnod := h.nod
  have hoth : ∀ y, y ≠ g → (w3.setCell ⟨g, k * 3 + 2, none⟩ (.pointer (some ⟨x'.1, 0, none⟩))).heap[y]? = w3.heap[y]? := fun y hy => heap_setCell_other _ ⟨g, k * 3 + 2, none⟩ _ _ hy
  have hgm : g ∈ (ob pv).toList := by rw [hg]; simp
  have hglt : g < wr.heap.size := h.lt g (by simp [midFoot, hgm])
  have hT : w.heap.size ≠ g := fun e => by
    have := (List.nodup_cons.1 hnod).1
    exact this (by rw [e]; simp [hgm])
  have hMB : w.heap.size + 1 ≠ g := fun e => by
    have := (List.nodup_cons.1 (List.nodup_cons.1 hnod).2).1
    exact this (by rw [e]; simp [hgm])
  have hF : ∀ y ∈ (FSof s G ++ M).flatMap fFoot, y ≠ g := fun y hy e => by
    have := (List.nodup_append.1 (List.nodup_cons.1 (List.nodup_cons.1 hnod).2).2).2.2
    exact this g hgm y hy e.symm
  have efs : FSof s G ++ (M ++ [x']) = (FSof s G ++ M) ++ [x'] := (List.append_assoc _ _ _).symm
  have emf : midFoot w pv (FSof s G ++ (M ++ [x'])) = midFoot w pv (FSof s G ++ M) ++ fFoot x' := by
    unfold midFoot
    rw [efs, List.flatMap_append]
    simp
  refine ⟨h3.bel.trans ⟨rfl, rfl, rfl, by simp, fun x hx => hoth x ?_⟩, ?_, ?_, ?_, ?_, ?_, ?_, ?_⟩
  · have := h.far g (by simp [midFoot, hgm])
    omega
  · exact (hoth _ hT).trans h3.tc
  · exact h3.dir.kept (hoth _ hMB)
  · rw [e1, List.length_append, List.length_append, h.len]
    rfl
  · intro i x q hi hj
    rw [efs] at hi
    rw [e1, ← List.append_assoc] at hj
    have hll : (s.last.map (·.2) ++ madeIds (s.pend.take k)).length = (FSof s G ++ M).length := by
      rw [hfl, List.length_append, List.length_map]
    by_cases hlt : i < (FSof s G ++ M).length
    · rw [List.getElem?_append_left hlt] at hi
      rw [List.getElem?_append_left (by omega)] at hj
      refine (h3.ok i x q hi hj).kept (fun y hy => hoth y (hF y (List.mem_flatMap.2 ⟨x, List.mem_of_getElem? hi, hy⟩)))
    · rw [List.getElem?_append_right (by omega)] at hi
      rw [List.getElem?_append_right (by omega)] at hj
      have hi0 : i - (FSof s G ++ M).length = 0 := by
        have := (List.getElem?_eq_some_iff.1 hi).1
        simp only [List.length_cons, List.length_nil] at this
        omega
      rw [hi0] at hi
      rw [hll, hi0] at hj
      simp only [List.getElem?_cons_zero, Option.some.injEq] at hi hj
      subst hi hj
      exact hok.kept (fun y hy => hoth y (by have := hf y hy; omega))
  · have hr := h3.row.set hpv (k * 3 + 2) (by omega) (.pointer (some ⟨x'.1, 0, none⟩))
    rw [drop_succ hk, List.flatMap_cons] at hr
    have hA : ((renum s.last.length (s.pend.take k)).flatMap (chgCells (atOf (FSof s G ++ M)))).length = k * 3 := by
      rw [chunks_length, renum_length, List.length_take, Nat.min_eq_left (by omega)]
    have ec : chgCells r.at c = [.string ⟨c.src.toArray⟩, .string ⟨c.dst.toArray⟩, pAt (c.made.map r.at)] := rfl
    rw [ec, set_third _ _ _ _ _ _ _ hA] at hr
    have eA : (renum s.last.length (s.pend.take k)).flatMap (chgCells (atOf (FSof s G ++ M))) = (renum s.last.length (s.pend.take k)).flatMap (chgCells (atOf (FSof s G ++ (M ++ [x'])))) := by
      refine chunks_congr (fun d hd i hi => ?_)
      have := renum_lt _ _ d hd i hi
      rw [efs, atOf_app (by omega)]
    have eN : chgCells (atOf (FSof s G ++ (M ++ [x']))) ⟨c.src, c.dst, some (FSof s G ++ M).length⟩ = [.string ⟨c.src.toArray⟩, .string ⟨c.dst.toArray⟩, .pointer (some ⟨x'.1, 0, none⟩)] := by
      rw [efs]
      show [_, _, pAt (some (atOf ((FSof s G ++ M) ++ [x']) (FSof s G ++ M).length))] = _
      rw [atOf_new]
      rfl
    rw [eA] at hr
    rw [e2, List.flatMap_append, List.append_assoc, List.flatMap_cons, List.flatMap_nil, List.append_nil, eN]
    exact hr
  · rw [emf, List.nodup_append]
    refine ⟨hnod, hn, fun y hy z hz e => ?_⟩
    have h1 := h.lt y hy
    have h2 := hf z hz
    omega
  · intro y hy
    rw [emf] at hy
    rcases List.mem_append.1 hy with hy | hy
    · exact h.far y hy
    · have h1 := hf y hy
      have h2 := h.bel.size
      omega
end
end Go.Proofs.Ytbbfdenpegkpnaa
