/- Plain: the twin itself: its files numbered anew, first those of last, then those that were made since. -/
import Derived.Test.YtfndlfnlepndmaaGreatSE
namespace Go.Proofs.YtfndlfnlepndmaaGreat
open Go.RowKit

def idxD (b : Nat) : Dir → Dir
  | [] => []
  | p :: l => (p.1, b) :: idxD (b + 1) l
def madeIds (cs : List Chg) : List Nat := cs.filterMap (·.made)
def renum (b : Nat) : List Chg → List Chg
  | [] => []
  | c :: cs => match c.made with
    | none => ⟨c.src, c.dst, none⟩ :: renum b cs
    | some _ => ⟨c.src, c.dst, some b⟩ :: renum (b + 1) cs
def oldIds (s : St) : List Nat := s.last.map (·.2) ++ madeIds s.pend
def twinSt (s : St) : St := { s with now := redo (idxD 0 s.last) (renum s.last.length s.pend), last := idxD 0 s.last, pend := renum s.last.length s.pend, files := (oldIds s).map fun i => s.files.getD i nofil }
theorem idxD_map (post : List Nat) : ∀ (l : Dir) (pre : List Nat), mapD (fun j => (pre ++ (l.map (·.2) ++ post)).getD j 0) (idxD pre.length l) = l
  | [], _ => rfl
  | p :: l, pre => by
    have ih := idxD_map post l (pre ++ [p.2])
    rw [List.length_append, List.length_singleton, List.append_assoc] at ih
    have e : (pre ++ ((p :: l).map (·.2) ++ post)).getD pre.length 0 = p.2 := by simp [List.getD_eq_getElem?_getD]
    have key : ∀ F : Nat → Nat, mapD F (idxD pre.length (p :: l)) = (p.1, F pre.length) :: mapD F (idxD (pre.length + 1) l) := fun _ => rfl
    rw [key, e]
    exact congrArg (p :: ·) ih
theorem renum_map : ∀ (cs : List Chg) (pre : List Nat), (renum pre.length cs).map (Chg.map fun j => (pre ++ madeIds cs).getD j 0) = cs
  | [], _ => rfl
  | ⟨src, dst, none⟩ :: cs, pre => by
    have ih := renum_map cs pre
    have em : madeIds (⟨src, dst, none⟩ :: cs) = madeIds cs := rfl
    rw [em]
    show Chg.map _ ⟨src, dst, none⟩ :: (renum pre.length cs).map _ = _
    rw [ih]
    rfl
  | ⟨src, dst, some i⟩ :: cs, pre => by
    have ih := renum_map cs (pre ++ [i])
    rw [List.length_append, List.length_singleton, List.append_assoc] at ih
    have em : madeIds (⟨src, dst, some i⟩ :: cs) = [i] ++ madeIds cs := rfl
    rw [em]
    show Chg.map _ ⟨src, dst, some pre.length⟩ :: (renum (pre.length + 1) cs).map _ = _
    rw [ih]
    unfold Chg.map
    simp [List.getD_eq_getElem?_getD]
theorem idxD_lt : ∀ (l : Dir) (b : Nat), ∀ p ∈ idxD b l, p.2 < b + l.length
  | [], _, _, h => by cases h
  | q :: l, b, p, h => by
    rcases List.mem_cons.1 h with rfl | h
    · simp
    · have := idxD_lt l (b + 1) p h
      simp only [List.length_cons]
      omega
theorem renum_lt : ∀ (cs : List Chg) (b : Nat), ∀ c ∈ renum b cs, ∀ i, c.made = some i → i < b + (madeIds cs).length
  | [], _, _, h, _, _ => by cases h
  | ⟨src, dst, none⟩ :: cs, b, c, h, i, hi => by
    have em : madeIds (⟨src, dst, none⟩ :: cs) = madeIds cs := rfl
    rw [em]
    rcases List.mem_cons.1 h with rfl | h
    · cases hi
    · exact renum_lt cs b c h i hi
  | ⟨src, dst, some k⟩ :: cs, b, c, h, i, hi => by
    have em : madeIds (⟨src, dst, some k⟩ :: cs) = k :: madeIds cs := rfl
    rw [em]
    rcases List.mem_cons.1 h with rfl | h
    · cases hi
      simp
    · have := renum_lt cs (b + 1) c h i hi
      simp only [List.length_cons]
      omega
theorem twin_of {s : St} (hw : WF s) : TwinOf s (twinSt s) (fun j => (oldIds s).getD j 0) where
  made := rfl
  on := rfl
  room := rfl
  steps := rfl
  fuse := rfl
  bad := rfl
  last := by
    have := idxD_map (madeIds s.pend) s.last []
    simpa [oldIds, twinSt] using this
  pend := by
    have := renum_map s.pend (s.last.map (·.2))
    rw [List.length_map] at this
    exact this
  now := rfl
  files := fun j x hj => by
    have hj' : ((oldIds s).map fun i => s.files.getD i nofil)[j]? = some x := hj
    rw [List.getElem?_map] at hj'
    cases ho : (oldIds s)[j]? with
    | none => rw [ho] at hj'; cases hj'
    | some i =>
      rw [ho] at hj'
      have hil : i < s.files.length := by
        have hm := List.mem_of_getElem? ho
        unfold oldIds madeIds at hm
        rcases List.mem_append.1 hm with hm | hm
        · obtain ⟨p, hp, rfl⟩ := List.mem_map.1 hm
          exact hw.ids p hp
        · obtain ⟨c, hc, hci⟩ := List.mem_filterMap.1 hm
          exact hw.made c hc i hci
      have e : (oldIds s).getD j 0 = i := by rw [List.getD_eq_getElem?_getD, ho]; rfl
      rw [e, List.getElem?_eq_getElem hil]
      simpa [List.getD_eq_getElem?_getD, List.getElem?_eq_getElem hil] using hj'
  ids := fun p hp => by
    have := idxD_lt s.last 0 p hp
    have hl : (twinSt s).files.length = s.last.length + (madeIds s.pend).length := by simp [twinSt, oldIds]
    omega
  mids := fun c hc i hi => by
    have := renum_lt s.pend s.last.length c hc i hi
    have hl : (twinSt s).files.length = s.last.length + (madeIds s.pend).length := by simp [twinSt, oldIds]
    omega
  len := by
    have hl : (twinSt s).files.length = s.last.length + (madeIds s.pend).length := by simp [twinSt, oldIds]
    have : (madeIds s.pend).length ≤ s.pend.length := List.length_filterMap_le _ _
    omega
end Go.Proofs.YtfndlfnlepndmaaGreat
