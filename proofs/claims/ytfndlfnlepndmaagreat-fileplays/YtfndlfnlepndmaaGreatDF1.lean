/- Plain: two states of files that are the same but for the numbers of their files (and for counts below none): every call answers the same, and leaves them so. -/
import Derived.Test.YtfndlfnlepndmaaGreatSJ
namespace Go.Proofs.YtfndlfnlepndmaaGreat
open Go.RowKit

def dids (d : Dir) : List Nat := d.map (·.2)
def Into (l m : List Nat) : Prop := ∃ l' : List Nat, l'.Perm l ∧ l'.Sublist m
theorem Into.nodup {l m X : List Nat} (h : Into l m) (hm : (m ++ X).Nodup) : (l ++ X).Nodup := by
  obtain ⟨l', hp, hs⟩ := h
  exact (hp.append_right X).nodup_iff.1 (hm.sublist (hs.append (List.Sublist.refl X)))
theorem Into.mem {l m : List Nat} (h : Into l m) {x : Nat} (hx : x ∈ l) : x ∈ m := by
  obtain ⟨l', hp, hs⟩ := h
  exact hs.subset (hp.mem_iff.2 hx)
theorem Into.of_sub {l m : List Nat} (h : l.Sublist m) : Into l m := ⟨l, List.Perm.refl _, h⟩
theorem dids_ins (x : Nm × Nat) : ∀ l : Dir, (dids (dins x l)).Perm (x.2 :: dids l)
  | [] => List.Perm.refl _
  | y :: r => by
    unfold dins
    split
    · exact List.Perm.refl _
    · exact ((dids_ins x r).cons y.2).trans (List.Perm.swap _ _ _)
theorem dids_del (l : Dir) (n : Nm) : (dids (ddel l n)).Sublist (dids l) := (List.filter_sublist).map _
theorem dids_put (l : Dir) (n : Nm) (a : Nat) : (dids (dput l n a)).Perm (a :: dids (ddel l n)) := dids_ins (n, a) _
theorem dids_move {l : Dir} {n : Nm} {a : Nat} (h : dget l n = some a) : Into (a :: dids (ddel l n)) (dids l) := by
  have hm := mem_of_dget h
  obtain ⟨s, t, rfl⟩ := List.append_of_mem hm
  have e : dids (ddel (s ++ (n, a) :: t) n) = dids (ddel s n) ++ dids (ddel t n) := by unfold dids ddel; simp
  rw [e]
  refine ⟨dids (ddel s n) ++ a :: dids (ddel t n), List.perm_middle, ?_⟩
  unfold dids
  rw [List.map_append, List.map_cons]
  exact (dids_del s n).append ((dids_del t n).cons_cons a)
theorem dids_run (c : Chg) (d : Dir) : Into (dids (c.run d)) (dids d ++ madeIds [c]) := by
  have hless : (dids (c.less d)).Sublist (dids d) := by
    unfold Chg.less
    split
    · exact List.Sublist.refl _
    · exact dids_del _ _
  have hbase : Into (dids (c.less d)) (dids d ++ madeIds [c]) := .of_sub (hless.trans (List.sublist_append_left _ _))
  unfold Chg.run
  split
  · exact hbase
  · split
    · rename_i a ha
      have hp := dids_put (c.less d) c.dst a
      unfold Chg.file at ha
      split at ha
      · rename_i h0
        have e : madeIds [c] = [a] := by unfold madeIds; simp [ha]
        have el : c.less d = d := by unfold Chg.less; rw [if_pos h0]
        rw [el] at hp ⊢
        rw [e]
        refine ⟨dids (ddel d c.dst) ++ [a], ?_, (dids_del _ _).append (List.Sublist.refl _)⟩
        exact (List.perm_append_comm).trans hp.symm
      · rename_i h0
        have el : c.less d = ddel d c.src := by unfold Chg.less; rw [if_neg h0]
        rw [el] at hp ⊢
        obtain ⟨l', h1, h2⟩ := dids_move ha
        have h3 : (a :: dids (ddel (ddel d c.src) c.dst)).Sublist (a :: dids (ddel d c.src)) := (dids_del _ _).cons_cons a
        obtain ⟨m', h4, h5⟩ := List.exists_perm_sublist h3 h1.symm
        exact ⟨m', h4.trans hp.symm, (h5.trans h2).trans (List.sublist_append_left _ _)⟩
    · exact hbase
theorem madeIds_cons (c : Chg) (l : List Chg) : madeIds (c :: l) = madeIds [c] ++ madeIds l := by
  unfold madeIds
  rw [← List.filterMap_append]
  rfl
theorem madeIds_append (l m : List Chg) : madeIds (l ++ m) = madeIds l ++ madeIds m := List.filterMap_append
theorem dids_redo : ∀ (l : List Chg) (d : Dir) (X : List Nat), (dids d ++ madeIds l ++ X).Nodup → (dids (redo d l) ++ X).Nodup
  | [], d, X, h => by simpa [madeIds, redo] using h
  | c :: l, d, X, h => by
    refine dids_redo l (c.run d) X ?_
    rw [madeIds_cons] at h
    rw [List.append_assoc]
    refine (dids_run c d).nodup ?_
    simpa only [List.append_assoc] using h
theorem dids_redo_mem : ∀ (l : List Chg) (d : Dir) (x : Nat), x ∈ dids (redo d l) → x ∈ dids d ++ madeIds l
  | [], d, x, h => by simpa [madeIds, redo] using h
  | c :: l, d, x, h => by
    have h1 := dids_redo_mem l (c.run d) x h
    rw [madeIds_cons]
    rcases List.mem_append.1 h1 with h2 | h2
    · have := (dids_run c d).mem h2
      rw [← List.append_assoc]
      exact List.mem_append_left _ this
    · exact List.mem_append_right _ (List.mem_append_right _ h2)
theorem dids_map (f : Nat → Nat) (d : Dir) : dids (mapD f d) = (dids d).map f := by
  unfold dids mapD
  rw [List.map_map, List.map_map]
  rfl
theorem madeIds_map (f : Nat → Nat) : ∀ l : List Chg, madeIds (l.map (Chg.map f)) = (madeIds l).map f
  | [] => rfl
  | ⟨src, dst, none⟩ :: l => by
    rw [List.map_cons, madeIds_cons, madeIds_cons ⟨src, dst, none⟩, List.map_append, madeIds_map f l]
    rfl
  | ⟨src, dst, some i⟩ :: l => by
    rw [List.map_cons, madeIds_cons, madeIds_cons ⟨src, dst, some i⟩, List.map_append, madeIds_map f l]
    rfl
theorem mapD_congrI {f g : Nat → Nat} {d : Dir} (h : ∀ i ∈ dids d, f i = g i) : mapD f d = mapD g d := by
  unfold mapD
  refine List.map_congr_left fun p hp => ?_
  rw [h p.2 (List.mem_map.2 ⟨p, hp, rfl⟩)]
theorem chgs_congr {f g : Nat → Nat} : ∀ {l : List Chg}, (∀ i ∈ madeIds l, f i = g i) → l.map (Chg.map f) = l.map (Chg.map g)
  | [], _ => rfl
  | ⟨src, dst, none⟩ :: l, h => by
    rw [List.map_cons, List.map_cons, chgs_congr (l := l) fun i hi => h i (by rw [madeIds_cons]; exact List.mem_append_right _ hi)]
    rfl
  | ⟨src, dst, some k⟩ :: l, h => by
    rw [List.map_cons, List.map_cons, chgs_congr (l := l) fun i hi => h i (by rw [madeIds_cons]; exact List.mem_append_right _ hi)]
    have : f k = g k := h k (by rw [madeIds_cons]; exact List.mem_append_left _ (by simp [madeIds]))
    unfold Chg.map
    simp [this]

/-- The files of the one, by f, are those of the other one; all that are in use are there. -/
structure SameF (U : List Nat) (S R : List Fil) (f : Nat → Nat) : Prop where
  atf : ∀ j ∈ U, j < S.length ∧ f j < R.length ∧ S.getD j nofil = R.getD (f j) nofil
  nd : (U.map f).Nodup
theorem inj_of_nodup {f : Nat → Nat} : ∀ {U : List Nat}, (U.map f).Nodup → ∀ i ∈ U, ∀ j ∈ U, f i = f j → i = j
  | [], _, _, h, _, _, _ => by cases h
  | x :: U, h, i, hi, j, hj, e => by
    rw [List.map_cons, List.nodup_cons] at h
    rcases List.mem_cons.1 hi with hi1 | hi1
    · rcases List.mem_cons.1 hj with hj1 | hj1
      · rw [hi1, hj1]
      · exact absurd (List.mem_map.2 ⟨j, hj1, by rw [← e, hi1]⟩) h.1
    · rcases List.mem_cons.1 hj with hj1 | hj1
      · exact absurd (List.mem_map.2 ⟨i, hi1, by rw [e, hj1]⟩) h.1
      · exact inj_of_nodup h.2 i hi1 j hj1 e
theorem getD_set (l : List Fil) (i j : Nat) (x : Fil) : (l.set i x).getD j nofil = if i = j ∧ i < l.length then x else l.getD j nofil := by
  rw [List.getD_eq_getElem?_getD, List.getD_eq_getElem?_getD, List.getElem?_set]
  split
  · rename_i h
    subst h
    split
    · rename_i h2; simp [h2]
    · rename_i h2; rw [if_neg (by omega), List.getElem?_eq_none (by omega)]
  · rename_i h
    rw [if_neg (by omega)]
theorem SameF.set {U : List Nat} {S R : List Fil} {f : Nat → Nat} (h : SameF U S R f) {i : Nat} (hi : i ∈ U) (x : Fil) : SameF U (S.set i x) (R.set (f i) x) f where
  atf := fun j hj => by
    obtain ⟨a, b, c⟩ := h.atf j hj
    obtain ⟨a', b', -⟩ := h.atf i hi
    refine ⟨by simpa using a, by simpa using b, ?_⟩
    rw [getD_set, getD_set]
    by_cases e : i = j
    · subst e
      rw [if_pos ⟨rfl, a'⟩, if_pos ⟨rfl, b'⟩]
    · rw [if_neg (fun h' => e h'.1), if_neg (fun h' => e (inj_of_nodup h.nd i hi j hj h'.1)), c]
  nd := h.nd
theorem SameF.sub {U V : List Nat} {S R : List Fil} {f : Nat → Nat} (h : SameF U S R f) (hm : ∀ x ∈ V, x ∈ U) (hn : V.Nodup) : SameF V S R f where
  atf := fun j hj => h.atf j (hm j hj)
  nd := by
    have hi := inj_of_nodup h.nd
    clear h
    induction V with
    | nil => exact List.nodup_nil
    | cons x V ih =>
      rw [List.nodup_cons] at hn
      rw [List.map_cons, List.nodup_cons]
      refine ⟨fun hx => ?_, ih (fun y hy => hm y (List.mem_cons_of_mem _ hy)) hn.2⟩
      obtain ⟨y, hy, e⟩ := List.mem_map.1 hx
      have := hi y (hm y (List.mem_cons_of_mem _ hy)) x (hm x List.mem_cons_self) e
      exact hn.1 (this ▸ hy)
theorem nodup_of_map {f : Nat → Nat} : ∀ {U : List Nat}, (U.map f).Nodup → U.Nodup
  | [], _ => List.nodup_nil
  | x :: U, h => by
    rw [List.map_cons, List.nodup_cons] at h
    exact List.nodup_cons.2 ⟨fun hx => h.1 (List.mem_map.2 ⟨x, hx, rfl⟩), nodup_of_map h.2⟩
theorem SameF.cutsF {U : List Nat} {f : Nat → Nat} : ∀ (d : Dir) (ks : List Int) (S R : List Fil), SameF U S R f → (∀ x ∈ dids d, x ∈ U) → SameF U (cuts S d ks) (cuts R (mapD f d) ks) f
  | [], _, _, _, h, _ => h
  | p :: d, ks, S, R, h, hd => by
    have hp := hd p.2 List.mem_cons_self
    show SameF U (cuts (S.set p.2 ((S.getD p.2 nofil).cut (ks.headD 0))) d ks.tail) (cuts (R.set (f p.2) ((R.getD (f p.2) nofil).cut (ks.headD 0))) (mapD f d) ks.tail) f
    rw [← (h.atf p.2 hp).2.2]
    exact SameF.cutsF d ks.tail _ _ (h.set hp _) (fun x hx => hd x (List.mem_cons_of_mem _ hx))

theorem over_max (c : Int) : over (max c (-1)) = over c := by
  unfold over
  have h1 : decide (max c (-1) < 0) = decide (c < 0) := decide_eq_decide.2 (by omega)
  by_cases hc : c < 0
  · rw [h1]
    simp [hc]
  · rw [show max c (-1) = c by omega]
/-- s is r, its files by f. -/
structure SameUp (r s : St) (f : Nat → Nat) : Prop where
  made : s.made = true ∧ r.made = true
  on : s.on = r.on
  room : s.room = r.room
  steps : s.steps = r.steps
  fuse : r.fuse = max s.fuse (-1)
  bad : r.bad = max s.bad (-1)
  last : mapD f s.last = r.last
  pend : s.pend.map (Chg.map f) = r.pend
  now : mapD f s.now = r.now
  coh : s.now = redo s.last s.pend
  files : SameF (oldIds s) s.files r.files f
section
variable {r s : St} {f : Nat → Nat}
theorem SameUp.nowids (h : SameUp r s f) : ∀ x ∈ dids s.now, x ∈ oldIds s := fun x hx => by
  rw [h.coh] at hx
  exact dids_redo_mem _ _ _ hx
theorem SameUp.rids (h : SameUp r s f) : oldIds r = (oldIds s).map f := by
  unfold oldIds
  rw [← h.last, ← h.pend, madeIds_map, List.map_append]
  exact congrArg (· ++ _) (dids_map f s.last)
theorem SameUp.get (h : SameUp r s f) (n : Nm) : dget r.now n = (dget s.now n).map f := by rw [← h.now, mapD_get]
theorem SameUp.file (h : SameUp r s f) {n : Nm} {i : Nat} (hg : dget s.now n = some i) : i ∈ oldIds s ∧ s.files.getD i nofil = r.files.getD (f i) nofil := by
  have := h.nowids i (List.mem_map.2 ⟨_, mem_of_dget hg, rfl⟩)
  exact ⟨this, (h.files.atf i this).2.2⟩
theorem SameUp.begun (h : SameUp r s f) : SameUp r.begun s.begun f where
  made := h.made
  on := by
    have := h.fuse
    show (!over s.fuse) = !over r.fuse
    rw [this]
    rw [over_max]
  room := h.room
  steps := by unfold St.begun; simp only; rw [h.steps]
  fuse := by
    have := h.fuse
    unfold St.begun tick
    simp only
    rw [this]
    split <;> split <;> omega
  bad := h.bad
  last := h.last
  pend := h.pend
  now := h.now
  coh := h.coh
  files := h.files
theorem SameUp.bads (h : SameUp r s f) : SameUp r.bads s.bads f where
  made := h.made
  on := h.on
  room := h.room
  steps := h.steps
  fuse := h.fuse
  bad := by
    have := h.bad
    unfold St.bads tick
    simp only
    rw [this]
    split <;> split <;> omega
  last := h.last
  pend := h.pend
  now := h.now
  coh := h.coh
  files := h.files
theorem SameUp.overbad (h : SameUp r s f) : over r.bad = over s.bad := by
  have := h.bad
  rw [this]
  exact over_max s.bad
/-- What stands behind a call on each: they are the same again, and both told the same. -/
def SameA (R S : St × Int) : Prop := (∃ f, SameUp R.1 S.1 f) ∧ R.2 = S.2
theorem SameUp.a (h : SameUp r s f) (e : Int) : SameA (r, e) (s, e) := ⟨⟨f, h⟩, rfl⟩
theorem SameUp.wr (h : SameUp r s f) (a b : St → St × Int) (hab : SameA (a r.begun) (b s.begun)) : SameA (wr r a) (wr s b) := by
  unfold Go.Proofs.YtfndlfnlepndmaaGreat.wr
  rw [h.on]
  split
  · refine ⟨hab.1, ?_⟩
    show (if r.begun.on = true then (a r.begun).2 else 14) = if s.begun.on = true then (b s.begun).2 else 14
    rw [h.begun.on, hab.2]
  · exact h.a 14
theorem SameUp.sy (h : SameUp r s f) (a b : St → St × Int) (hab : SameA (a r.begun.bads) (b s.begun.bads)) : SameA (sy r a) (sy s b) := by
  unfold Go.Proofs.YtfndlfnlepndmaaGreat.sy
  rw [h.on, h.begun.on, h.overbad]
  split
  · split
    · split
      · exact h.begun.bads.a 16
      · exact hab
    · exact h.begun.bads.a 14
  · exact h.a 14
theorem SameUp.doing (h : SameUp r s f) (a b : Nm) : SameUp (r.doing ⟨a, b, none⟩) (s.doing ⟨a, b, none⟩) f where
  made := h.made
  on := h.on
  room := h.room
  steps := h.steps
  fuse := h.fuse
  bad := h.bad
  last := h.last
  pend := by
    show (s.pend ++ [(⟨a, b, none⟩ : Chg)]).map (Chg.map f) = r.pend ++ [⟨a, b, none⟩]
    rw [List.map_append, h.pend]
    rfl
  now := by
    show mapD f ((⟨a, b, none⟩ : Chg).run s.now) = (⟨a, b, none⟩ : Chg).run r.now
    rw [← Chg.map_run, h.now]
    rfl
  coh := by
    show (⟨a, b, none⟩ : Chg).run s.now = redo s.last (s.pend ++ [⟨a, b, none⟩])
    rw [redo_snoc, ← h.coh]
  files := by
    have e : oldIds (s.doing ⟨a, b, none⟩) = oldIds s := by
      show dids s.last ++ madeIds (s.pend ++ [⟨a, b, none⟩]) = dids s.last ++ madeIds s.pend
      rw [madeIds_append]
      simp [madeIds]
    rw [e]
    exact h.files
theorem SameUp.create (h : SameUp r s f) (n : Nm) : SameA (r.create n) (s.create n) := by
  refine h.wr _ _ ?_
  have h := h.begun
  generalize r.begun = r at h
  generalize s.begun = s at h
  unfold actCreate
  rw [h.get, Option.isSome_map]
  split
  · split
    · exact h.a 8
    · refine ⟨⟨fun j => if j = s.files.length then r.files.length else f j, ?_⟩, rfl⟩
      have hlt : ∀ i ∈ oldIds s, i ≠ s.files.length := fun i hi e => by have := (h.files.atf i hi).1; omega
      have hf : ∀ i ∈ oldIds s, (if i = s.files.length then r.files.length else f i) = f i := fun i hi => if_neg (hlt i hi)
      refine ⟨h.made, h.on, h.room, h.steps, h.fuse, h.bad, ?_, ?_, ?_, ?_, ?_⟩
      · show mapD _ s.last = r.last
        rw [mapD_congrI (g := f) fun i hi => hf i (List.mem_append_left _ hi)]
        exact h.last
      · show (s.pend ++ [(⟨[], n, some s.files.length⟩ : Chg)]).map _ = r.pend ++ [⟨[], n, some r.files.length⟩]
        rw [List.map_append, chgs_congr (g := f) fun i hi => hf i (List.mem_append_right _ hi), h.pend]
        simp [Chg.map]
      · show mapD _ ((⟨[], n, some s.files.length⟩ : Chg).run s.now) = (⟨[], n, some r.files.length⟩ : Chg).run r.now
        rw [← Chg.map_run, mapD_congrI (g := f) fun i hi => hf i (h.nowids i hi), h.now]
        simp [Chg.map]
      · show (⟨[], n, some s.files.length⟩ : Chg).run s.now = redo s.last (s.pend ++ [⟨[], n, some s.files.length⟩])
        rw [redo_snoc, ← h.coh]
      · have e : oldIds (s.more.doing ⟨[], n, some s.files.length⟩) = oldIds s ++ [s.files.length] := by
          show dids s.last ++ madeIds (s.pend ++ [⟨[], n, some s.files.length⟩]) = dids s.last ++ madeIds s.pend ++ [s.files.length]
          rw [madeIds_append, List.append_assoc]
          rfl
        rw [e]
        refine ⟨fun j hj => ?_, ?_⟩
        · show j < (s.files ++ [(⟨[], 0⟩ : Fil)]).length ∧ (if j = s.files.length then r.files.length else f j) < (r.files ++ [(⟨[], 0⟩ : Fil)]).length ∧ (s.files ++ [(⟨[], 0⟩ : Fil)]).getD j nofil = (r.files ++ [(⟨[], 0⟩ : Fil)]).getD (if j = s.files.length then r.files.length else f j) nofil
          rcases List.mem_append.1 hj with hj | hj
          · obtain ⟨a, b, c⟩ := h.files.atf j hj
            rw [hf j hj, List.length_append, List.length_append, List.getD_eq_getElem?_getD, List.getD_eq_getElem?_getD, List.getElem?_append_left a, List.getElem?_append_left b, ← List.getD_eq_getElem?_getD, ← List.getD_eq_getElem?_getD]
            exact ⟨by omega, by omega, c⟩
          · have : j = s.files.length := by simpa using hj
            subst this
            rw [if_pos rfl]
            simp [List.getD_eq_getElem?_getD]
        · rw [List.map_append, List.map_congr_left (g := f) hf]
          refine List.nodup_append.2 ⟨h.files.nd, by simp, fun a ha b hb => ?_⟩
          obtain ⟨i, hi, rfl⟩ := List.mem_map.1 ha
          have hb' : b = r.files.length := by simpa using hb
          have := (h.files.atf i hi).2.1
          omega
  · exact h.a 1
theorem mapD_used {S R : List Fil} : ∀ {d : Dir}, (∀ i ∈ dids d, S.getD i nofil = R.getD (f i) nofil) → used R (mapD f d) = used S d
  | [], _ => rfl
  | p :: d, h => by
    have ih := mapD_used (S := S) (R := R) (d := d) fun i hi => h i (List.mem_cons_of_mem _ hi)
    have h0 := h p.2 List.mem_cons_self
    have key : ∀ (F : List Fil) (q : Nm × Nat) (e : Dir), used F (q :: e) = (F.getD q.2 nofil).b.length + used F e := fun F q e => by
      unfold used
      rw [List.map_cons, List.sum_cons]
    have em : mapD f (p :: d) = (p.1, f p.2) :: mapD f d := rfl
    rw [em, key, key, ih, h0]
theorem SameUp.used (h : SameUp r s f) : used r.files r.now = used s.files s.now := by
  rw [← h.now]
  exact mapD_used fun i hi => (h.files.atf i (h.nowids i hi)).2.2
theorem SameUp.put (h : SameUp r s f) {i : Nat} (hi : i ∈ oldIds s) (x : Fil) : SameUp { r with files := r.files.set (f i) x } { s with files := s.files.set i x } f where
  made := h.made
  on := h.on
  room := h.room
  steps := h.steps
  fuse := h.fuse
  bad := h.bad
  last := h.last
  pend := h.pend
  now := h.now
  coh := h.coh
  files := h.files.set hi x
theorem SameUp.append (h : SameUp r s f) (n : Nm) (d : List UInt8) : SameA (r.append n d) (s.append n d) := by
  refine h.wr _ _ ?_
  have h := h.begun
  generalize r.begun = r at h
  generalize s.begun = s at h
  unfold actAppend
  rw [h.get, h.used]
  cases hg : dget s.now n with
  | none => exact h.a 7
  | some i =>
    simp only [Option.map_some]
    obtain ⟨hi, e⟩ := h.file hg
    split
    · rename_i h1
      rw [if_pos (by rw [h.room]; exact h1)]
      exact h.a 10
    · rename_i h1
      rw [if_neg (by rw [h.room]; exact h1), e]
      exact (h.put hi _).a 0
theorem SameUp.sync (h : SameUp r s f) (n : Nm) : SameA (r.sync n) (s.sync n) := by
  refine h.sy _ _ ?_
  have h := h.begun.bads
  generalize r.begun.bads = r at h
  generalize s.begun.bads = s at h
  unfold actSync
  rw [h.get]
  cases hg : dget s.now n with
  | none => exact h.a 7
  | some i =>
    simp only [Option.map_some]
    obtain ⟨hi, e⟩ := h.file hg
    rw [e]
    exact (h.put hi _).a 0
theorem SameUp.settle (h : SameUp r s f) : SameUp r.settle s.settle f where
  made := h.made
  on := h.on
  room := h.room
  steps := h.steps
  fuse := h.fuse
  bad := h.bad
  last := h.now
  pend := rfl
  now := h.now
  coh := rfl
  files := by
    have e : oldIds s.settle = dids s.now := by
      show dids s.now ++ madeIds [] = dids s.now
      simp [madeIds]
    rw [e]
    refine h.files.sub h.nowids ?_
    have hn := nodup_of_map h.files.nd
    have := dids_redo s.pend s.last [] (by simpa [oldIds, dids] using hn)
    rw [h.coh]
    simpa using this
theorem SameUp.syncDir (h : SameUp r s f) : SameA r.syncDir s.syncDir := h.sy _ _ (h.begun.bads.settle.a 0)
theorem SameUp.rename (h : SameUp r s f) (a b : Nm) : SameA (r.rename a b) (s.rename a b) := by
  refine h.wr _ _ ?_
  have h := h.begun
  unfold actRename
  rw [h.get, Option.isSome_map]
  split
  · split
    · split
      · exact h.a 0
      · exact (h.doing a b).a 0
    · exact h.a 1
  · exact h.a 7
theorem SameUp.remove (h : SameUp r s f) (n : Nm) : SameA (r.remove n) (s.remove n) := by
  refine h.wr _ _ ?_
  have h := h.begun
  unfold actRemove
  rw [h.get, Option.isSome_map]
  split
  · exact (h.doing n []).a 0
  · exact h.a 7
theorem SameUp.read (h : SameUp r s f) (n : Nm) : r.read n = s.read n := by
  unfold St.read
  rw [h.on, h.get]
  split
  · cases hg : dget s.now n with
    | none => rfl
    | some i =>
      simp only [Option.map_some]
      rw [(h.file hg).2]
  · rfl
theorem SameUp.names (h : SameUp r s f) : r.names = s.names := by
  unfold St.names
  rw [h.on, ← h.now, mapD_names]
theorem SameUp.crash (h : SameUp r s f) (dir : Int) (ks : List Int) : SameUp (r.crash dir ks) (s.crash dir ks) f := by
  have el : r.pend.length = s.pend.length := by rw [← h.pend, List.length_map]
  have ed : redo r.last (r.pend.take (modn dir (r.pend.length + 1))) = mapD f (redo s.last (s.pend.take (modn dir (s.pend.length + 1)))) := by
    rw [el, ← redo_map, h.last, ← h.pend, List.map_take]
  have hmem : ∀ x ∈ dids (redo s.last (s.pend.take (modn dir (s.pend.length + 1)))), x ∈ oldIds s := fun x hx => by
    rcases List.mem_append.1 (dids_redo_mem _ _ _ hx) with h1 | h1
    · exact List.mem_append_left _ h1
    · refine List.mem_append_right _ ?_
      obtain ⟨c, hc, e⟩ := List.mem_filterMap.1 h1
      exact List.mem_filterMap.2 ⟨c, List.mem_of_mem_take hc, e⟩
  have hnd : (dids (redo s.last (s.pend.take (modn dir (s.pend.length + 1))))).Nodup := by
    have hn := nodup_of_map h.files.nd
    have hs : (dids s.last ++ madeIds (s.pend.take (modn dir (s.pend.length + 1))) ++ []).Sublist (oldIds s) := by
      rw [List.append_nil]
      exact (List.Sublist.refl _).append ((List.take_sublist _ _).filterMap _)
    simpa using dids_redo _ _ [] (hn.sublist hs)
  refine ⟨h.made, rfl, h.room, h.steps, rfl, rfl, ed.symm, rfl, ed.symm, rfl, ?_⟩
  have e : oldIds (s.crash dir ks) = dids (redo s.last (s.pend.take (modn dir (s.pend.length + 1)))) := by
    show dids (redo s.last (s.pend.take (modn dir (s.pend.length + 1)))) ++ madeIds [] = _
    simp [madeIds]
  rw [e]
  show SameF _ (cuts s.files (redo s.last (s.pend.take (modn dir (s.pend.length + 1)))) ks) (cuts r.files (redo r.last (r.pend.take (modn dir (r.pend.length + 1)))) ks) f
  rw [ed]
  exact (h.files.sub hmem hnd).cutsF _ _ _ _ fun x hx => hx
theorem SameUp.restore (h : SameUp r s f) : SameUp r.restore s.restore f := ⟨h.made, h.made.1.trans h.made.2.symm, h.room, h.steps, h.fuse, h.bad, h.last, h.pend, h.now, h.coh, h.files⟩
theorem SameUp.setFuse (h : SameUp r s f) (n : Int) : SameUp { r with fuse := max n (-1) } { s with fuse := n } f := ⟨h.made, h.on, h.room, h.steps, rfl, h.bad, h.last, h.pend, h.now, h.coh, h.files⟩
theorem SameUp.setBad (h : SameUp r s f) (n : Int) : SameUp { r with bad := max n (-1) } { s with bad := n } f := ⟨h.made, h.on, h.room, h.steps, h.fuse, rfl, h.last, h.pend, h.now, h.coh, h.files⟩
theorem SameUp.start (room : Int) : SameUp (St.new room) (St.new room) id := ⟨⟨rfl, rfl⟩, rfl, rfl, rfl, rfl, rfl, rfl, rfl, rfl, rfl, ⟨fun _ h => (by cases h), List.nodup_nil⟩⟩
/-- A twin of the one is the other one as well. -/
theorem SameUp.twin {s' : St} {g : Nat → Nat} (h : SameUp r s f) (ht : TwinOf s s' g) (hc : Coh s) : SameUp r s' (fun j => f (g j)) := by
  have eids : oldIds s = (oldIds s').map g := by
    unfold oldIds
    rw [← ht.last, ← ht.pend, madeIds_map, List.map_append]
    exact congrArg (· ++ _) (dids_map g s'.last)
  have em : ∀ d : Dir, mapD (fun j => f (g j)) d = mapD f (mapD g d) := fun d => by unfold mapD; rw [List.map_map]; rfl
  refine ⟨⟨ht.made.trans h.made.1, h.made.2⟩, ht.on.trans h.on, ht.room.trans h.room, ht.steps.trans h.steps, by rw [ht.fuse]; exact h.fuse, by rw [ht.bad]; exact h.bad, by rw [em, ht.last]; exact h.last, ?_, by rw [em, ht.nowm hc]; exact h.now, ht.now, ?_⟩
  · rw [← h.pend, ← ht.pend, List.map_map]
    refine List.map_congr_left fun c _ => ?_
    unfold Chg.map
    simp only [Function.comp_apply, Option.map_map]
    rfl
  · refine ⟨fun j hj => ?_, by have := h.files.nd; rw [eids, List.map_map] at this; exact this⟩
    have hj2 : g j ∈ oldIds s := by rw [eids]; exact List.mem_map.2 ⟨j, hj, rfl⟩
    obtain ⟨a, b, c⟩ := h.files.atf (g j) hj2
    have hl : j < s'.files.length := by
      rcases List.mem_append.1 hj with h1 | h1
      · obtain ⟨p, hp, rfl⟩ := List.mem_map.1 h1
        exact ht.ids p hp
      · obtain ⟨c', hc', e⟩ := List.mem_filterMap.1 h1
        exact ht.mids c' hc' j e
    refine ⟨hl, b, ?_⟩
    have hx := ht.files j _ (List.getElem?_eq_getElem hl)
    rw [← c, List.getD_eq_getElem?_getD, List.getD_eq_getElem?_getD, hx, List.getElem?_eq_getElem hl]
end
end Go.Proofs.YtfndlfnlepndmaaGreat
