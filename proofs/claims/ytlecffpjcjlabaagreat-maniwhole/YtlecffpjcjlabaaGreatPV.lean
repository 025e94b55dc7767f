/- Files under calm: what stands under each name, behind every call (plain). -/
import Derived.Test.YtlecffpjcjlabaaGreatF2
namespace Go.Proofs.YtlecffpjcjlabaaGreat

theorem dget_cons (p : Nm × Nat) (l : Dir) (m : Nm) : dget (p :: l) m = if p.1 = m then some p.2 else dget l m := by
  unfold dget
  rw [List.find?_cons]
  by_cases h : p.1 = m
  · simp [h]
  · have : (p.1 == m) = false := by simpa using h
    simp [this, h]
theorem dget_ddel : ∀ (l : Dir) (n m : Nm), dget (ddel l n) m = if m = n then none else dget l m
  | [], n, m => by simp [ddel, dget]
  | p :: l, n, m => by
    have ih := dget_ddel l n m
    by_cases h : p.1 = n
    · have e : ddel (p :: l) n = ddel l n := by simp [ddel, h]
      rw [e, ih, dget_cons]
      by_cases hm : m = n
      · rw [if_pos hm, if_pos hm]
      · rw [if_neg hm, if_neg hm, if_neg (by rw [h]; exact fun e => hm e.symm)]
    · have e : ddel (p :: l) n = p :: ddel l n := by simp [ddel, h]
      rw [e, dget_cons, ih, dget_cons]
      by_cases hp : p.1 = m
      · rw [if_pos hp, if_pos hp, if_neg (by rw [← hp]; exact h)]
      · rw [if_neg hp, if_neg hp]
theorem dget_dins : ∀ (l : Dir) (n : Nm) (a : Nat) (m : Nm), (∀ p ∈ l, p.1 ≠ n) → dget (dins (n, a) l) m = if m = n then some a else dget l m
  | [], n, a, m, _ => by
    rw [dins, dget_cons]
    by_cases h : m = n
    · rw [if_pos h, if_pos h.symm]
    · rw [if_neg h, if_neg (fun e => h e.symm)]
  | p :: l, n, a, m, h => by
    have ih := dget_dins l n a m (fun q hq => h q (by simp [hq]))
    have hp := h p (by simp)
    unfold dins
    split
    · rw [dget_cons]
      by_cases e : m = n
      · rw [if_pos e, if_pos e.symm]
      · rw [if_neg e, if_neg (fun x => e x.symm)]
    · rw [dget_cons, ih, dget_cons]
      by_cases e : m = n
      · rw [if_pos e, if_pos e, if_neg (by rw [e]; exact hp)]
      · rw [if_neg e, if_neg e]
theorem dget_dput (l : Dir) (n : Nm) (a : Nat) (m : Nm) : dget (dput l n a) m = if m = n then some a else dget l m := by
  unfold dput
  rw [dget_dins _ _ _ _ (fun p hp => (mem_ddel.1 hp).2), dget_ddel]
  by_cases e : m = n
  · rw [if_pos e, if_pos e]
  · rw [if_neg e, if_neg e, if_neg e]
theorem dget_none_of {l : Dir} {n : Nm} (h : dget l n = none) : ∀ p ∈ l, p.1 ≠ n := fun p hp e => by
  unfold dget at h
  simp only [Option.map_eq_none_iff, List.find?_eq_none] at h
  exact h p hp (by simpa using e)
/-- What stands under a name. -/
def St.look (s : St) (n : Nm) : Option (List UInt8) := (dget s.now n).map fun i => (s.files.getD i nofil).b
/-- The power is on, there is room, no sync will fail. -/
structure Calm (s : St) : Prop where
  made : s.made = true
  on : s.on = true
  room : s.room = 0
  fuse : s.fuse = -1
  bad : s.bad = -1
  ids : ∀ p ∈ s.now, p.2 < s.files.length
  inj : ∀ p ∈ s.now, ∀ q ∈ s.now, p.2 = q.2 → p = q
  rise : Rise s.now
section
variable {s : St}
theorem calm_new : Calm (St.new 0) := ⟨rfl, rfl, rfl, rfl, rfl, (fun p hp => by cases hp), (fun p hp => by cases hp), List.Pairwise.nil⟩
theorem look_new (n : Nm) : (St.new 0).look n = none := rfl
theorem Calm.begun (h : Calm s) : s.begun = { s with steps := s.steps + 1 } := by
  unfold St.begun
  rw [h.fuse]
  have := h.on
  cases s
  simp only at this
  subst this
  rfl
theorem Calm.begun_calm (h : Calm s) : Calm s.begun := by
  rw [h.begun]
  exact ⟨h.made, h.on, h.room, h.fuse, h.bad, h.ids, h.inj, h.rise⟩
theorem Calm.begun_look (h : Calm s) (n : Nm) : s.begun.look n = s.look n := by rw [h.begun]; rfl
theorem Calm.bads (h : Calm s) : s.bads = s := by
  unfold St.bads
  have := h.bad
  cases s
  simp only at this
  subst this
  rfl
theorem Calm.wr (h : Calm s) (act : St → St × Int) : wr s act = act s.begun := by
  unfold Go.Proofs.YtlecffpjcjlabaaGreat.wr
  rw [if_pos h.on]
  simp only
  rw [if_pos h.begun_calm.on]
theorem Calm.sy (h : Calm s) (act : St → St × Int) : sy s act = act s.begun := by
  unfold Go.Proofs.YtlecffpjcjlabaaGreat.sy
  rw [if_pos h.on, if_pos h.begun_calm.on, h.begun_calm.bads, h.bad]
  rfl
theorem look_read (h : Calm s) (n : Nm) : s.read n = match s.look n with | some b => (b, 0) | none => ([], 7) := by
  unfold St.read St.look
  rw [if_pos h.on]
  cases dget s.now n <;> rfl
theorem read_some (h : Calm s) {n : Nm} {b : List UInt8} (e : s.look n = some b) : s.read n = (b, 0) := by rw [look_read h, e]
theorem read_none (h : Calm s) {n : Nm} (e : s.look n = none) : s.read n = ([], 7) := by rw [look_read h, e]
theorem look_get {n : Nm} {b : List UInt8} (e : s.look n = some b) : ∃ i, dget s.now n = some i ∧ (s.files.getD i nofil).b = b := by
  unfold St.look at e
  cases hd : dget s.now n with
  | none => rw [hd] at e; cases e
  | some i => rw [hd] at e; exact ⟨i, rfl, Option.some.inj e⟩
theorem look_no {n : Nm} (e : s.look n = none) : dget s.now n = none := by
  unfold St.look at e
  cases hd : dget s.now n with
  | none => rfl
  | some i => rw [hd] at e; cases e
/-- The state and the error behind what was done. -/
def Told (r : St × Int) (f : Nm → Option (List UInt8)) : Prop := r.2 = 0 ∧ Calm r.1 ∧ ∀ m, r.1.look m = f m
theorem create_calm0 (h : Calm s) {n : Nm} (hn : isNm n = true) (e : s.look n = none) : Told (actCreate n s) fun m => if m = n then some [] else s.look m := by
  have hd := look_no e
  unfold actCreate
  rw [if_pos hn, hd]
  simp only [Option.isSome_none, Bool.false_eq_true, if_false]
  have hrun : (Chg.run ⟨[], n, some s.files.length⟩ s.now) = dput s.now n s.files.length := by
    have hn0 : n ≠ [] := by intro e; subst e; simp [isNm] at hn
    rw [Chg.run_put _ _ hn0 rfl]
    rfl
  unfold St.more St.doing
  refine ⟨rfl, ⟨h.made, h.on, h.room, h.fuse, h.bad, ?_, ?_, ?_⟩, fun m => ?_⟩
  · intro p hp
    simp only [hrun] at hp
    simp only [List.length_append, List.length_cons, List.length_nil]
    rcases mem_dput.1 hp with rfl | hp
    · simp
    · have := h.ids p hp.1; omega
  · intro p hp q hq
    simp only [hrun] at hp hq
    rcases mem_dput.1 hp with rfl | hp <;> rcases mem_dput.1 hq with rfl | hq
    · exact fun _ => rfl
    · intro e; have := h.ids q hq.1; simp at e; omega
    · intro e; have := h.ids p hp.1; simp at e; omega
    · exact h.inj p hp.1 q hq.1
  · simp only [hrun]
    exact h.rise.put _ _
  · unfold St.look
    simp only [hrun, dget_dput]
    by_cases hm : m = n
    · rw [if_pos hm, if_pos hm]
      simp
    · rw [if_neg hm, if_neg hm]
      cases hg : dget s.now m with
      | none => rfl
      | some i =>
        have hi := h.ids _ (mem_of_dget hg)
        simp only at hi
        simp [List.getElem?_append_left hi]
theorem create_calm (h : Calm s) {n : Nm} (hn : isNm n = true) (e : s.look n = none) : Told (s.create n) fun m => if m = n then some [] else s.look m := by
  unfold St.create
  rw [h.wr]
  have := create_calm0 h.begun_calm hn (by rw [h.begun_look]; exact e)
  simpa only [h.begun_look] using this
theorem files_look {s : St} (h : Calm s) {n : Nm} {i : Nat} (hg : dget s.now n = some i) (f : Fil) (m : Nm) : ({ s with files := s.files.set i f } : St).look m = if m = n then some f.b else s.look m := by
  unfold St.look
  simp only
  have hi := h.ids _ (mem_of_dget hg)
  simp only at hi
  by_cases hm : m = n
  · subst hm
    rw [if_pos rfl, hg]
    simp [hi]
  · rw [if_neg hm]
    cases hq : dget s.now m with
    | none => rfl
    | some j =>
      have hne : i ≠ j := fun e => by
        have := h.inj _ (mem_of_dget hg) _ (mem_of_dget hq) e
        exact hm (Prod.mk.inj this).1.symm
      simp [List.getElem?_set_ne hne]
theorem files_calm {s : St} (h : Calm s) (i : Nat) (f : Fil) : Calm { s with files := s.files.set i f } :=
  ⟨h.made, h.on, h.room, h.fuse, h.bad, fun p hp => by simpa using h.ids p hp, h.inj, h.rise⟩
theorem append_calm (h : Calm s) {n : Nm} {b : List UInt8} (d : List UInt8) (e : s.look n = some b) : Told (s.append n d) fun m => if m = n then some (b ++ d) else s.look m := by
  unfold St.append
  rw [h.wr]
  have hB := h.begun_calm
  obtain ⟨i, hg, hb⟩ := look_get (show s.begun.look n = some b by rw [h.begun_look]; exact e)
  unfold actAppend
  rw [hg]
  simp only
  rw [if_neg (by rw [hB.room]; omega), hb]
  refine ⟨rfl, files_calm hB _ _, fun m => ?_⟩
  rw [files_look hB hg, h.begun_look]
theorem sync_calm (h : Calm s) {n : Nm} {b : List UInt8} (e : s.look n = some b) : Told (s.sync n) s.look := by
  unfold St.sync
  rw [h.sy]
  have hB := h.begun_calm
  obtain ⟨i, hg, hb⟩ := look_get (show s.begun.look n = some b by rw [h.begun_look]; exact e)
  unfold actSync
  rw [hg]
  refine ⟨rfl, files_calm hB _ _, fun m => ?_⟩
  rw [files_look hB hg, h.begun_look]
  by_cases hm : m = n
  · rw [if_pos hm, hm, e, hb]
  · rw [if_neg hm]
theorem syncDir_calm (h : Calm s) : Told s.syncDir s.look := by
  unfold St.syncDir
  rw [h.sy]
  have hB := h.begun_calm
  exact ⟨rfl, ⟨hB.made, hB.on, hB.room, hB.fuse, hB.bad, hB.ids, hB.inj, hB.rise⟩, fun m => h.begun_look m⟩
theorem remove_calm (h : Calm s) {n : Nm} {b : List UInt8} (hn : isNm n = true) (e : s.look n = some b) : Told (s.remove n) fun m => if m = n then none else s.look m := by
  unfold St.remove
  rw [h.wr]
  have hB := h.begun_calm
  obtain ⟨i, hg, hb⟩ := look_get (show s.begun.look n = some b by rw [h.begun_look]; exact e)
  have hn0 : n ≠ [] := by intro e; subst e; simp [isNm] at hn
  unfold actRemove
  rw [hg]
  simp only [Option.isSome_some, if_true]
  have hrun : (Chg.run ⟨n, [], none⟩ s.begun.now) = ddel s.begun.now n := by
    unfold Chg.run Chg.less
    rw [if_pos rfl, if_neg hn0]
  unfold St.doing
  refine ⟨rfl, ⟨hB.made, hB.on, hB.room, hB.fuse, hB.bad, ?_, ?_, ?_⟩, fun m => ?_⟩
  · simp only [hrun]; exact fun p hp => hB.ids p (mem_ddel.1 hp).1
  · simp only [hrun]; exact fun p hp q hq => hB.inj p (mem_ddel.1 hp).1 q (mem_ddel.1 hq).1
  · simp only [hrun]; exact hB.rise.del _
  · show _ = if m = n then none else s.look m
    rw [← h.begun_look m]
    unfold St.look
    simp only [hrun, dget_ddel]
    by_cases hm : m = n
    · rw [if_pos hm, if_pos hm]; rfl
    · rw [if_neg hm, if_neg hm]
theorem rename_calm (h : Calm s) {a c : Nm} {b : List UInt8} (ha : isNm a = true) (hc : isNm c = true) (hac : a ≠ c) (e : s.look a = some b) : Told (s.rename a c) fun m => if m = c then some b else if m = a then none else s.look m := by
  unfold St.rename
  rw [h.wr]
  have hB := h.begun_calm
  obtain ⟨i, hg, hb⟩ := look_get (show s.begun.look a = some b by rw [h.begun_look]; exact e)
  have ha0 : a ≠ [] := by intro e; subst e; simp [isNm] at ha
  have hc0 : c ≠ [] := by intro e; subst e; simp [isNm] at hc
  unfold actRename
  rw [hg]
  simp only [Option.isSome_some, if_true]
  rw [if_pos hc, if_neg hac]
  have hrun : (Chg.run ⟨a, c, none⟩ s.begun.now) = dput (ddel s.begun.now a) c i := by
    rw [Chg.run_put (a := i) _ _ hc0 (by unfold Chg.file; simp only; rw [if_neg ha0]; exact hg)]
    unfold Chg.less
    simp only
    rw [if_neg ha0]
  have hm' : ∀ p ∈ dput (ddel s.begun.now a) c i, p = (c, i) ∨ (p ∈ s.begun.now ∧ p.1 ≠ a ∧ p.1 ≠ c) := fun p hp => by
    rcases mem_dput.1 hp with q | ⟨q, r⟩
    · exact .inl q
    · exact .inr ⟨(mem_ddel.1 q).1, (mem_ddel.1 q).2, r⟩
  have hai := mem_of_dget hg
  unfold St.doing
  refine ⟨rfl, ⟨hB.made, hB.on, hB.room, hB.fuse, hB.bad, ?_, ?_, ?_⟩, fun m => ?_⟩
  · simp only [hrun]
    intro p hp
    rcases hm' p hp with rfl | hp
    · exact (show i < _ from hB.ids (a, i) hai)
    · exact hB.ids p hp.1
  · simp only [hrun]
    intro p hp q hq e
    rcases hm' p hp with rfl | hp <;> rcases hm' q hq with rfl | hq
    · rfl
    · have := hB.inj _ hai q hq.1 e
      exact absurd (by rw [← this]) hq.2.1
    · have := hB.inj p hp.1 _ hai e
      exact absurd (by rw [this]) hp.2.1
    · exact hB.inj p hp.1 q hq.1 e
  · simp only [hrun]
    exact (hB.rise.del _).put _ _
  · show _ = if m = c then some b else if m = a then none else s.look m
    rw [← h.begun_look m]
    unfold St.look
    simp only [hrun, dget_dput, dget_ddel]
    by_cases hm : m = c
    · rw [if_pos hm, if_pos hm]; simpa using hb
    · rw [if_neg hm, if_neg hm]
      by_cases hma : m = a
      · rw [if_pos hma, if_pos hma]; rfl
      · rw [if_neg hma, if_neg hma]
theorem look_some_iff (n : Nm) : (s.look n).isSome = true ↔ ∃ i, dget s.now n = some i := by
  unfold St.look
  cases dget s.now n <;> simp
/-- The names that are there. -/
theorem names_mem (h : Calm s) (n : Nm) : n ∈ s.names ↔ (s.look n).isSome = true := by
  unfold St.names
  rw [if_pos h.on, look_some_iff, List.mem_map]
  constructor
  · rintro ⟨p, hp, rfl⟩
    cases hd : dget s.now p.1 with
    | some i => exact ⟨i, rfl⟩
    | none => exact absurd rfl (dget_none_of hd p hp)
  · rintro ⟨i, hi⟩
    exact ⟨_, mem_of_dget hi, rfl⟩
theorem names_rise (h : Calm s) : s.names.Pairwise fun a b => bytesBefore a b = true := by
  unfold St.names
  rw [if_pos h.on, List.pairwise_map]
  exact h.rise
end
/-- The second behind the first, if that told no error. -/
def seqS (r : St × Int) (f : St → St × Int) : St × Int := if r.2 = 0 then f r.1 else r
theorem seqS_ok {s : St} (f : St → St × Int) : seqS (s, 0) f = f s := rfl
theorem seqS_yes {r : St × Int} (h : r.2 = 0) (f : St → St × Int) : seqS r f = f r.1 := by unfold seqS; rw [if_pos h]
theorem seqS_no {r : St × Int} (h : r.2 ≠ 0) (f : St → St × Int) : seqS r f = r := by unfold seqS; rw [if_neg h]
end Go.Proofs.YtlecffpjcjlabaaGreat
