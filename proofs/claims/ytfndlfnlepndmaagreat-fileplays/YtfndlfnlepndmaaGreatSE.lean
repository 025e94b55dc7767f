/- Plain: a state that is another one's twin: the same but for the numbers of its files. -/
import Derived.Test.YtfndlfnlepndmaaGreatFG
namespace Go.Proofs.YtfndlfnlepndmaaGreat
open Go.RowKit

/-- s' is the same as s; f tells of which file of s each of its files is the copy. -/
structure TwinOf (s s' : St) (f : Nat → Nat) : Prop where
  made : s'.made = s.made
  on : s'.on = s.on
  room : s'.room = s.room
  steps : s'.steps = s.steps
  fuse : s'.fuse = s.fuse
  bad : s'.bad = s.bad
  last : mapD f s'.last = s.last
  pend : s'.pend.map (Chg.map f) = s.pend
  now : s'.now = redo s'.last s'.pend
  files : ∀ j x, s'.files[j]? = some x → s.files[f j]? = some x
  ids : ∀ p ∈ s'.last, p.2 < s'.files.length
  mids : ∀ c ∈ s'.pend, ∀ i, c.made = some i → i < s'.files.length
  len : s'.files.length ≤ s.last.length + s.pend.length

theorem file_map (f : Nat → Nat) (c : Chg) (d : Dir) : (c.map f).file (mapD f d) = (c.file d).map f := by
  unfold Chg.file Chg.map
  split
  · rfl
  · exact mapD_get f d _
theorem able_unmap {f : Nat → Nat} {c : Chg} {d : Dir} (h : (c.map f).able (mapD f d)) : c.able d := by
  rcases h with h | h
  · exact .inl h
  · rw [file_map, Option.isSome_map] at h
    exact .inr h
theorem ables_unmap (f : Nat → Nat) : ∀ (l : List Chg) (d : Dir), able (mapD f d) (l.map (Chg.map f)) → able d l
  | [], _, _ => trivial
  | c :: l, d, h => ⟨able_unmap h.1, ables_unmap f l _ (by have := h.2; rw [Chg.map_run] at this; exact this)⟩
section
variable {s s' : St} {f : Nat → Nat}
theorem TwinOf.nowm (h : TwinOf s s' f) (hc : Coh s) : mapD f s'.now = s.now := by
  rw [h.now, ← redo_map, h.last, h.pend, ← hc.now]
theorem TwinOf.coh (h : TwinOf s s' f) (hc : Coh s) : Coh s' :=
  ⟨ables_unmap f _ _ (by rw [h.last, h.pend]; exact hc.able), h.now⟩
theorem TwinOf.names (h : TwinOf s s' f) (hc : Coh s) : s'.names = s.names := by
  unfold St.names
  rw [h.on, ← h.nowm hc, mapD_names]
theorem TwinOf.nids (h : TwinOf s s' f) : ∀ p ∈ s'.now, p.2 < s'.files.length := by
  rw [h.now]
  exact redo_ids (Q := fun i => i < s'.files.length) _ _ h.ids h.mids
theorem TwinOf.read (h : TwinOf s s' f) (hc : Coh s) (n : Nm) : s'.read n = s.read n := by
  unfold St.read
  rw [h.on, ← h.nowm hc, mapD_get]
  cases hg : dget s'.now n with
  | none => rfl
  | some i =>
    have hi := h.nids _ (mem_of_dget hg)
    have hx := h.files i _ (List.getElem?_eq_getElem hi)
    simp only [Option.map_some, List.getD_eq_getElem?_getD, hx, List.getElem?_eq_getElem hi]
theorem TwinOf.wf (h : TwinOf s s' f) (hw : WF s) (hc : Coh s) : WF s' where
  nids := h.nids
  nnms := fun p hp => by
    have : (p.1, f p.2) ∈ s.now := by
      rw [← h.nowm hc]
      exact List.mem_map.2 ⟨p, hp, rfl⟩
    have h2 := hw.nnms _ this
    exact h2
  ids := h.ids
  made := h.mids
  nms := fun p hp => by
    have : (p.1, f p.2) ∈ s.last := by
      rw [← h.last]
      exact List.mem_map.2 ⟨p, hp, rfl⟩
    have h2 := hw.nms _ this
    exact h2
  cnms := fun c hcm => by
    have : c.map f ∈ s.pend := by
      rw [← h.pend]
      exact List.mem_map.2 ⟨c, hcm, rfl⟩
    have h2 := hw.cnms _ this
    exact h2
theorem TwinOf.lim {n m : Nat} (h : TwinOf s s' f) (hc : Coh s) (hl : Lim n m s) : Lim n m s' := by
  have h1 := congrArg List.length h.last
  have h2 := congrArg List.length h.pend
  have h3 := congrArg List.length (h.nowm hc)
  unfold mapD at h1 h3
  simp only [List.length_map] at h1 h2 h3
  have d := hl.dirs
  have e := hl.nowl
  have g := h.len
  refine ⟨by rw [h.steps]; exact hl.s0, by rw [h.steps]; exact hl.s1, by omega, by omega, by omega, fun x hx => ?_, by rw [h.fuse]; exact hl.fuse, by rw [h.bad]; exact hl.bad, by rw [h.room]; exact hl.room⟩
  obtain ⟨j, hj⟩ := List.getElem?_of_mem hx
  exact hl.bytes x (List.mem_of_getElem? (h.files j x hj))
end
end Go.Proofs.YtfndlfnlepndmaaGreat
