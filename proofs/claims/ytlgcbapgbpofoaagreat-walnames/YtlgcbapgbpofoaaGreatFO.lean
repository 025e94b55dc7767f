/- The contract of (*System).do: something is done to the directory, and pending. -/
import Derived.Test.YtlgcbapgbpofoaaGreatFC
import Derived.Test.YtlgcbapgbpofoaaGreatShelf
import Derived.Deep.RegionLaw
import Derived.Deep.RegionHeld3
namespace Go.Proofs.YtlgcbapgbpofoaaGreat
open Go.RowKit

theorem sclone_any (s : ByteArray) (w : World) (h : s.size ≤ 281474976710656) :
    Calls Tryz.prog 232 #[.string s] w fun e w' => e = .returned (.string s) ∧ Below w.heap.size w w' := by
  go_enter Tryz.func232, Tryz.ntmps232
  go_wp2_with (go_at_call 249; refine (Tryz.stringslite_Clone s _ h).mono ?_; rintro e w' ⟨rfl, hb⟩)
  go_ret
  exact ⟨rfl, hb⟩

theorem mapD_congr {f g : Nat → Nat} {l : Dir} (h : ∀ p ∈ l, f p.2 = g p.2) : mapD f l = mapD g l := by
  unfold mapD
  exact List.map_congr_left fun p hp => by rw [h p hp]
theorem able_map {f : Nat → Nat} {c : Chg} {d : Dir} (h : c.able d) : (c.map f).able (mapD f d) := by
  rcases h with h | h
  · exact .inl h
  · refine .inr ?_
    rw [Chg.map_file, Option.isSome_map]
    exact h
/-- What may be done: a file that is there, and names that may be. -/
structure Chg.fits (c : Chg) (s : St) : Prop where
  able : c.able s.now
  made : ∀ i, c.made = some i → i < s.files.length
  src : c.src = [] ∨ isNm c.src = true
  dst : c.dst = [] ∨ isNm c.dst = true
theorem WF.doing {s : St} {c : Chg} (h : WF s) (hc : c.fits s) : WF (s.doing c) where
  nids := Chg.run_mem (Q := fun p => p.2 < s.files.length) h.nids (fun a _ ha => by
    unfold Chg.file at ha
    split at ha
    · exact hc.made a ha
    · exact h.nids (c.src, a) (mem_of_dget ha))
  nnms := Chg.run_mem (Q := fun p => isNm p.1 = true) h.nnms (fun a hne _ => by
    rcases hc.dst with h' | h'
    · exact absurd h' hne
    · exact h')
  ids := h.ids
  made := fun x hx i hi => by
    rcases List.mem_append.1 hx with hx | hx
    · exact h.made x hx i hi
    · simp at hx
      subst hx
      exact hc.made i hi
  nms := h.nms
  cnms := fun x hx => by
    rcases List.mem_append.1 hx with hx | hx
    · exact h.cnms x hx
    · simp at hx
      subst hx
      exact ⟨hc.src, hc.dst⟩
def Rep.pending (r : Rep) (v : Value) : Rep := { r with pv := v }
theorem foot_pending (r : Rep) (v : Value) (k : Nat) : k ∈ (r.pending v).foot ↔ k = r.p ∨ k = r.mn ∨ k = r.ml ∨ ob v = some k ∨ k ∈ r.fs.flatMap fFoot := by
  simp [Rep.foot, Rep.rest, Rep.pending]
theorem foot_iff (r : Rep) (k : Nat) : k ∈ r.foot ↔ k = r.p ∨ k = r.mn ∨ k = r.ml ∨ ob r.pv = some k ∨ k ∈ r.fs.flatMap fFoot := foot_pending r r.pv k
theorem nodup_pending {r : Rep} (h : r.foot.Nodup) {v : Value} {B : Nat} (hB : ∀ k ∈ r.foot, k < B) (hv : ob v = ob r.pv ∨ ob v = none ∨ ∃ g, ob v = some g ∧ B ≤ g) : (r.pending v).foot.Nodup := by
  rcases hv with hv | hv | ⟨g, hv, hg⟩
  · simpa [Rep.foot, Rep.rest, Rep.pending, hv] using h
  · refine List.Nodup.sublist ?_ h
    simp only [Rep.foot, Rep.rest, Rep.pending, hv]
    simp
  · have h' : (r.p :: r.mn :: r.ml :: r.fs.flatMap fFoot).Nodup := by
      refine List.Nodup.sublist ?_ h
      simp only [Rep.foot, Rep.rest]
      simp
    have hn : g ∉ r.p :: r.mn :: r.ml :: r.fs.flatMap fFoot := by
      intro hm
      have : g ∈ r.foot := by
        rw [foot_iff]
        simp only [List.mem_cons] at hm
        rcases hm with hm | hm | hm | hm
        · exact .inl hm
        · exact .inr (.inl hm)
        · exact .inr (.inr (.inl hm))
        · exact .inr (.inr (.inr (.inr hm)))
      have := hB g this
      omega
    have : (r.pending v).foot.Perm (g :: r.p :: r.mn :: r.ml :: r.fs.flatMap fFoot) := by
      simp only [Rep.foot, Rep.rest, Rep.pending, hv, Option.toList_some]
      exact (List.perm_middle (l₁ := [r.p, r.mn, r.ml])).trans (by simp)
    exact this.nodup_iff.2 (List.nodup_cons.2 ⟨hn, h'⟩)
theorem Sys.did {w w' : World} {r : Rep} {s : St} {c : Chg} {v : Value} (h : Sys w r s) (hc : w'.heap[r.p]? = some (.cells (sysCells (r.pending v) s) 167))
    (hmn : DirAt w' r.mn (mapD r.at (c.run s.now))) (hrow : Row w' 205 3 v (s.pend.length + 1) (s.pend.flatMap (chgCells r.at) ++ chgCells r.at c))
    (hv : ob v = ob r.pv ∨ ob v = none ∨ ∃ g, ob v = some g ∧ w.heap.size ≤ g) (hk : ∀ k, k = r.ml ∨ k ∈ r.fs.flatMap fFoot → w'.heap[k]? = w.heap[k]?) (hf : c.fits s) : Sys w' (r.pending v) (s.doing c) where
  cells := hc
  now := hmn
  last := h.last.kept (hk _ (.inl rfl))
  pend := by
    have : (s.doing c).pend.flatMap (chgCells r.at) = s.pend.flatMap (chgCells r.at) ++ chgCells r.at c := by simp [St.doing]
    show Row w' _ 3 v (s.pend ++ [c]).length _
    rw [List.length_append]
    rw [show (r.pending v).at = r.at from rfl, this]
    exact hrow
  len := h.len
  file := fun i x f hx hf => (h.file i x f hx hf).kept fun k hk' => hk k (.inr (List.mem_flatMap.2 ⟨x, List.mem_of_getElem? hx, hk'⟩))
  apart := nodup_pending h.apart h.lt hv
  wf := h.wf.doing hf
/-- What lies apart, in words. -/
structure Apart (r : Rep) : Prop where
  pn : r.p ≠ r.mn
  pl : r.p ≠ r.ml
  nl : r.mn ≠ r.ml
  pv : ∀ k, ob r.pv = some k → k ≠ r.p ∧ k ≠ r.mn ∧ k ≠ r.ml ∧ k ∉ r.fs.flatMap fFoot
  fs : ∀ k ∈ r.fs.flatMap fFoot, k ≠ r.p ∧ k ≠ r.mn ∧ k ≠ r.ml
theorem apart_of {r : Rep} (h : r.foot.Nodup) : Apart r := by
  obtain ⟨h1, h⟩ := List.nodup_cons.1 h
  obtain ⟨h2, h⟩ := List.nodup_cons.1 h
  obtain ⟨h3, h⟩ := List.nodup_cons.1 h
  simp only [List.mem_cons, not_or, Rep.rest, List.mem_append, Option.mem_toList] at h1 h2 h3
  refine ⟨h1.1, h1.2.1, h2.1, fun k hk => ⟨fun e => h1.2.2.1 (e ▸ hk), fun e => h2.2.1 (e ▸ hk), fun e => h3.1 (e ▸ hk), fun hm => ?_⟩, fun k hk => ⟨fun e => h1.2.2.2 (e ▸ hk), fun e => h2.2.2 (e ▸ hk), fun e => h3.2 (e ▸ hk)⟩⟩
  exact (List.nodup_append.1 h).2.2 k (by simp [hk]) k hm rfl
theorem do_end {w w3 w4 W w5 : World} {r : Rep} {s : St} {c : Chg} {v : Value} (h : Sys w r s) (ht3 : Turn [] w w3) (ht4 : Turn [r.mn] w3 w4) (hd4 : DirAt w4 r.mn ((c.map r.at).run (mapD r.at s.now))) (hW : Turn [] w4 W) (hgrow : W.grownBy w5 (ob r.pv))
    (hrow : Row w5 205 3 v (s.pend.length + 1) (s.pend.flatMap (chgCells r.at) ++ chgCells r.at c)) (hob : ob v = ob r.pv ∨ (ob v = some W.heap.size ∧ W.grownBy w5 none)) (hf : c.fits s) : Next w r (s.doing c) (w5.setCell ⟨r.p, 8, none⟩ v) := by
  have A := apart_of h.apart
  have hmnl := h.lt r.mn (by simp [Rep.foot])
  have hpl := h.lt r.p (by simp [Rep.foot])
  have hsz3 := ht3.size
  have hsz4 := ht4.size
  have hszW := hW.size
  have t4 : Turn [r.mn] w w4 := (ht3.mono (G := [r.mn]) (by simp)).trans ht4 (fun x hx => .inl hx)
  have t5 : Turn (r.mn :: (ob r.pv).toList) w w5 := ((t4.mono (G := r.mn :: (ob r.pv).toList) (by simp)).trans hW (by simp)).trans (turn_of_grown (F := (ob r.pv).toList) hgrow (fun k hk => .inl (by simp [hk]))) (fun x hx => .inl (by simp at hx ⊢; exact .inr hx))
  have t6 : Turn (r.p :: r.mn :: (ob r.pv).toList) w (w5.setCell ⟨r.p, 8, none⟩ v) := (t5.mono (G := r.p :: r.mn :: (ob r.pv).toList) (fun x hx => .inl (List.mem_cons_of_mem _ hx))).setCell (.inl (by simp)) v
  have hnp : some r.p ≠ ob r.pv := fun e => (A.pv r.p e.symm).1 rfl
  have hnm : some r.mn ≠ ob r.pv := fun e => (A.pv r.mn e.symm).2.1 rfl
  refine ⟨r.pending v, h.did ?_ ?_ ?_ ?_ ?_ hf, rfl, t6.mono (fun x hx => .inl ?_), fun k hk => ?_⟩
  · have : w5.heap[r.p]? = some (.cells (sysCells r s) 167) := by
      rw [t5.block r.p hpl (by simp [A.pn]; exact fun e => hnp e.symm)]
      exact h.cells
    exact heap_setCell_same w5 r.p 8 _ _ v this
  · have e1 : (w5.setCell ⟨r.p, 8, none⟩ v).heap[r.mn]? = w4.heap[r.mn]? := by
      rw [heap_setCell_other w5 ⟨r.p, 8, none⟩ r.mn v (fun e => A.pn e.symm), hgrow.block r.mn (by omega) hnm]
      exact hW.block r.mn (by omega) (by simp)
    have := hd4.kept e1
    rwa [Chg.map_run] at this
  · refine hrow.kept fun k hk => heap_setCell_other w5 ⟨r.p, 8, none⟩ k v fun e => ?_
    have e' : k = r.p := e
    rcases hob with hob | ⟨hob, -⟩
    · rw [hob, e'] at hk
      exact hnp hk.symm
    · rw [hob] at hk
      simp at hk
      omega
  · rcases hob with hob | ⟨hob, -⟩
    · exact .inl hob
    · exact .inr (.inr ⟨_, hob, by omega⟩)
  · intro k hk
    refine t6.block k (h.lt k ?_) ?_
    · rw [foot_iff]
      rcases hk with hk | hk
      · exact .inr (.inr (.inl hk))
      · exact .inr (.inr (.inr (.inr hk)))
    · simp only [List.mem_cons, Option.mem_toList, not_or]
      rcases hk with rfl | hk
      · exact ⟨fun e => A.pl e.symm, fun e => A.nl e.symm, fun e => (A.pv _ e).2.2.1 rfl⟩
      · exact ⟨(A.fs k hk).1, (A.fs k hk).2.1, fun e => (A.pv k e).2.2.2 hk⟩
  · rw [foot_iff]
    simp only [List.mem_cons, Option.mem_toList] at hx
    rcases hx with hx | hx | hx
    · exact .inl hx
    · exact .inr (.inl hx)
    · exact .inr (.inr (.inr (.inl hx)))
  · rw [foot_pending] at hk
    rw [foot_iff]
    rcases hk with hk | hk | hk | hk | hk
    · exact .inl (.inl hk)
    · exact .inl (.inr (.inl hk))
    · exact .inl (.inr (.inr (.inl hk)))
    · rcases hob with hob | ⟨hob, -⟩
      · exact .inl (.inr (.inr (.inr (.inl (hob ▸ hk)))))
      · rw [hob] at hk
        simp at hk
        exact .inr (by omega)
    · exact .inl (.inr (.inr (.inr (.inr hk))))
end Go.Proofs.YtlgcbapgbpofoaaGreat
