/- Files whose power may fail; mani on them: what is held, found again, ManiWhole's plain part (PVD PVE P13D P13E P13H P13J). -/
import Derived.Test.YtlecffpjcjlabaaGreatPV
import Derived.Test.YtlecffpjcjlabaaGreatP13S
import Derived.Test.YtlecffpjcjlabaaGreatIM3
namespace Go.Proofs.YtlecffpjcjlabaaGreat

/-- What stands under a name in a directory: bytes, and how many are synced. -/
abbrev View := Nm → Option Fil
def view (d : Dir) (fs : List Fil) : View := fun n => (dget d n).map fun i => fs.getD i nofil
def upd (f : View) (n : Nm) (x : Option Fil) : View := fun m => if m = n then x else f m
def St.pre (s : St) (k : Nat) : Dir := redo s.last (s.pend.take k)
def St.fv (s : St) : View := view s.now s.files
structure DirOk (nf : Nat) (d : Dir) : Prop where
  ids : ∀ p ∈ d, p.2 < nf
  inj : ∀ p ∈ d, ∀ q ∈ d, p.2 = q.2 → p = q
  rise : Rise d
theorem DirOk.lt {nf : Nat} {d : Dir} (h : DirOk nf d) {n : Nm} {i : Nat} (e : dget d n = some i) : i < nf := h.ids _ (mem_of_dget e)
theorem DirOk.one {nf : Nat} {d : Dir} (h : DirOk nf d) {n m : Nm} {i : Nat} (e : dget d n = some i) (e' : dget d m = some i) : n = m :=
  (Prod.mk.inj (h.inj _ (mem_of_dget e) _ (mem_of_dget e') rfl)).1
theorem DirOk.more {nf nf' : Nat} {d : Dir} (h : DirOk nf d) (hn : nf ≤ nf') : DirOk nf' d := ⟨fun p hp => Nat.lt_of_lt_of_le (h.ids p hp) hn, h.inj, h.rise⟩
theorem DirOk.del {nf : Nat} {d : Dir} (h : DirOk nf d) (n : Nm) : DirOk nf (ddel d n) :=
  ⟨fun p hp => h.ids p (mem_ddel.1 hp).1, fun p hp q hq => h.inj p (mem_ddel.1 hp).1 q (mem_ddel.1 hq).1, h.rise.del _⟩
/-- A name more, of a file that has none there. -/
theorem DirOk.put {nf : Nat} {d : Dir} (h : DirOk nf d) (n : Nm) {i : Nat} (hi : i < nf) (hno : ∀ p ∈ d, p.2 ≠ i) : DirOk nf (dput d n i) := by
  refine ⟨fun p hp => ?_, fun p hp q hq e => ?_, h.rise.put _ _⟩
  · rcases mem_dput.1 hp with rfl | hp
    · exact hi
    · exact h.ids p hp.1
  · rcases mem_dput.1 hp with rfl | hp <;> rcases mem_dput.1 hq with rfl | hq
    · rfl
    · exact absurd e.symm (hno q hq.1)
    · exact absurd e (hno p hp.1)
    · exact h.inj p hp.1 q hq.1 e
/-- Behind each first ones of what is pending the directory may be, and shows what is asked. -/
structure Sound (C : View → Prop) (s : St) : Prop where
  made : s.made = true
  room : s.room = 0
  bad : s.bad = -1
  coh : s.now = redo s.last s.pend
  dir : ∀ k, DirOk s.files.length (s.pre k)
  con : ∀ k, C (view (s.pre k) s.files)
/-- No file has two names, whenever. -/
def Uniq (s : St) : Prop := ∀ k k' n n' i, dget (s.pre k) n = some i → dget (s.pre k') n' = some i → n = n'
def Ign (nm : Nm) (C : View → Prop) : Prop := ∀ f g : View, (∀ n, n ≠ nm → g n = f n) → C f → C g
section
variable {C C' : View → Prop} {s : St}
theorem pre_all (s : St) : s.pre s.pend.length = redo s.last s.pend := by unfold St.pre; rw [List.take_length]
theorem Sound.now_pre (h : Sound C s) : s.now = s.pre s.pend.length := by rw [pre_all]; exact h.coh
theorem Sound.now_dir (h : Sound C s) : DirOk s.files.length s.now := by rw [h.now_pre]; exact h.dir _
theorem Sound.now_con (h : Sound C s) : C s.fv := by unfold St.fv; rw [h.now_pre]; exact h.con _
theorem Sound.mono (h : Sound C s) (k : ∀ f, C f → C' f) : Sound C' s := ⟨h.made, h.room, h.bad, h.coh, h.dir, fun i => k _ (h.con i)⟩
theorem Sound.begun (h : Sound C s) : Sound C s.begun := ⟨h.made, h.room, h.bad, h.coh, h.dir, h.con⟩
theorem Sound.bads (h : Sound C s) : Sound C s.bads := ⟨h.made, h.room, by show tick s.bad = -1; rw [h.bad]; rfl, h.coh, h.dir, h.con⟩
theorem Uniq.now (hu : Uniq s) (h : Sound C s) {k : Nat} {n n' : Nm} {i : Nat} (e : dget s.now n = some i) (e' : dget (s.pre k) n' = some i) : n' = n := by
  rw [h.now_pre] at e
  exact (hu _ _ _ _ _ e e').symm
theorem doing_pre (s : St) (c : Chg) (k : Nat) (hc : s.now = redo s.last s.pend) : (s.doing c).pre k = s.pre k ∨ (s.doing c).pre k = c.run s.now := by
  unfold St.pre St.doing
  simp only
  by_cases hk : k ≤ s.pend.length
  · left
    rw [List.take_append_of_le_length hk]
  · right
    rw [List.take_of_length_le (by simp; omega), redo_snoc, ← hc]
theorem doing_sound (h : Sound C s) (c : Chg) (hC : ∀ f, C f → C' f) (hd : DirOk s.files.length (c.run s.now)) (hv : C' (view (c.run s.now) s.files)) : Sound C' (s.doing c) := by
  refine ⟨h.made, h.room, h.bad, ?_, fun k => ?_, fun k => ?_⟩
  · show c.run s.now = redo s.last (s.pend ++ [c])
    rw [redo_snoc, ← h.coh]
  · rcases doing_pre s c k h.coh with e | e
    · rw [e]; exact h.dir k
    · rw [e]; exact hd
  · rcases doing_pre s c k h.coh with e | e
    · rw [e]; exact hC _ (h.con k)
    · rw [e]; exact hv
theorem more_sound (h : Sound C s) : Sound C s.more := by
  have hv : ∀ k, view (s.more.pre k) s.more.files = view (s.pre k) s.files := fun k => by
    funext n
    unfold view
    show (dget (s.pre k) n).map _ = (dget (s.pre k) n).map _
    cases hg : dget (s.pre k) n with
    | none => rfl
    | some i =>
      have hi := (h.dir k).lt hg
      simp [St.more, List.getElem?_append_left hi]
  exact ⟨h.made, h.room, h.bad, h.coh, fun k => (h.dir k).more (by simp [St.more]), fun k => by rw [hv]; exact h.con k⟩
theorem view_dput (d : Dir) (fs : List Fil) (n : Nm) (i : Nat) : view (dput d n i) fs = upd (view d fs) n (some (fs.getD i nofil)) := by
  funext m
  unfold view upd
  rw [dget_dput]
  by_cases e : m = n
  · rw [if_pos e, if_pos e]; rfl
  · rw [if_neg e, if_neg e]
theorem view_ddel (d : Dir) (fs : List Fil) (n : Nm) : view (ddel d n) fs = upd (view d fs) n none := by
  funext m
  unfold view upd
  rw [dget_ddel]
  by_cases e : m = n
  · rw [if_pos e, if_pos e]; rfl
  · rw [if_neg e, if_neg e]
theorem upd_ne (f : View) (nm : Nm) (x : Option Fil) : ∀ n, n ≠ nm → upd f nm x n = f n := fun _ h => if_neg h
theorem upd_eq (f : View) (nm : Nm) (x : Option Fil) : upd f nm x nm = x := if_pos rfl
theorem fv_get {n : Nm} {x : Fil} (e : s.fv n = some x) : ∃ i, dget s.now n = some i ∧ s.files.getD i nofil = x := by
  unfold St.fv view at e
  cases hd : dget s.now n with
  | none => rw [hd] at e; cases e
  | some i => rw [hd] at e; exact ⟨i, rfl, Option.some.inj e⟩
theorem fv_no {n : Nm} (e : s.fv n = none) : dget s.now n = none := by
  unfold St.fv view at e
  cases hd : dget s.now n with
  | none => rfl
  | some i => rw [hd] at e; cases e
/-- What was done: whatever it answered the files are sound; if it was OK the power is on, and they show what is told. -/
structure Ran (C : View → Prop) (r : St × Int) (f : View) : Prop where
  snd : Sound C r.1
  go : r.2 = 0 → r.1.on = true ∧ Uniq r.1 ∧ r.1.fv = f
  off : r.2 ≠ 0 → r.1.on = false
theorem Ran.mono {r : St × Int} {f : View} (h : Ran C r f) (k : ∀ f, C f → C' f) : Ran C' r f := ⟨h.snd.mono k, h.go, h.off⟩
theorem Ran.seq {r : St × Int} {f k : View} {g : St → St × Int} (h : Ran C r f) (hC : ∀ f, C f → C' f) (hg : ∀ s, Sound C s → Uniq s → s.on = true → s.fv = f → Ran C' (g s) k) : Ran C' (seqS r g) k := by
  by_cases e : r.2 = 0
  · rw [seqS_yes e]
    obtain ⟨h1, h2, h3⟩ := h.go e
    exact hg _ h.snd h2 h1 h3
  · rw [seqS_no e]
    exact ⟨h.snd.mono hC, fun x => absurd x e, h.off⟩
theorem wr_on (ho : s.on = true) (act : St → St × Int) : (wr s act).1 = (act s.begun).1 ∧ ((wr s act).2 = 0 → s.begun.on = true ∧ (act s.begun).2 = 0) ∧ ((act s.begun).2 = 0 → (wr s act).2 ≠ 0 → s.begun.on = false) := by
  unfold wr
  rw [if_pos ho]
  simp only
  refine ⟨trivial, fun h => ?_, fun h0 h => ?_⟩
  · split at h
    · rename_i hb; exact ⟨hb, h⟩
    · cases h
  · split at h
    · exact absurd h0 h
    · rename_i hb; simpa using hb
theorem sy_on (h : Sound C s) (ho : s.on = true) (act : St → St × Int) : (sy s act = act s.begun.bads ∧ s.begun.bads.on = true) ∨ (sy s act = (s.begun.bads, 14) ∧ s.begun.bads.on = false) := by
  unfold sy
  rw [if_pos ho]
  by_cases hb : s.begun.on = true
  · left
    rw [if_pos hb, h.bad]
    exact ⟨rfl, hb⟩
  · right
    rw [if_neg hb]
    refine ⟨rfl, ?_⟩
    show s.begun.on = false
    simpa using hb
theorem create_ran (h : Sound C s) (hu : Uniq s) (ho : s.on = true) {nm : Nm} (hn : isNm nm = true) (hx : s.fv nm = none) (hI : Ign nm C) : Ran C (s.create nm) (upd s.fv nm (some ⟨[], 0⟩)) := by
  obtain ⟨w1, w2, w3⟩ := wr_on ho (actCreate nm)
  have hd := fv_no hx
  have hn0 : nm ≠ [] := by intro e; subst e; simp [isNm] at hn
  have hact : actCreate nm s.begun = (s.begun.more.doing ⟨[], nm, some s.files.length⟩, 0) := by
    unfold actCreate
    rw [if_pos hn, show s.begun.now = s.now from rfl, hd]
    rfl
  have hrun : (Chg.run ⟨[], nm, some s.files.length⟩ s.begun.more.now) = dput s.now nm s.files.length := by
    rw [Chg.run_put _ _ hn0 rfl]
    rfl
  have hM := more_sound h.begun
  have hfl : s.begun.more.files = s.files ++ [⟨[], 0⟩] := rfl
  have hlast : (s.files ++ [(⟨[], 0⟩ : Fil)]).getD s.files.length nofil = ⟨[], 0⟩ := by simp
  have hvw : view s.begun.more.now s.begun.more.files = s.fv := by
    funext n
    unfold St.fv view
    show (dget s.now n).map _ = _
    cases hg : dget s.now n with
    | none => rfl
    | some i =>
      have hi := h.now_dir.lt hg
      simp [St.more, St.begun, List.getElem?_append_left hi]
  have hnv : view (dput s.now nm s.files.length) s.begun.more.files = upd s.fv nm (some ⟨[], 0⟩) := by
    rw [view_dput, show view s.now s.begun.more.files = s.fv from hvw, hfl, hlast]
  have hS : Sound C (s.begun.more.doing ⟨[], nm, some s.files.length⟩) := by
    refine doing_sound hM _ (fun _ x => x) ?_ ?_
    · rw [hrun]
      refine (h.now_dir.more (by simp [St.more, St.begun])).put _ (by simp [St.more, St.begun]) (fun p hp e => ?_)
      have := h.now_dir.ids p hp
      omega
    · rw [hrun, hnv]
      exact hI _ _ (upd_ne _ _ _) h.now_con
  unfold St.create
  refine ⟨by rw [w1, hact]; exact hS, fun h0 => ?_, fun hx => by rw [w1, hact]; exact w3 (by rw [hact]) hx⟩
  obtain ⟨b1, b2⟩ := w2 h0
  rw [w1, hact]
  refine ⟨b1, ?_, ?_⟩
  · have hp : ∀ k, (s.begun.more.doing ⟨[], nm, some s.files.length⟩).pre k = s.pre k ∨ (s.begun.more.doing ⟨[], nm, some s.files.length⟩).pre k = dput s.now nm s.files.length := fun k => by
      have := doing_pre s.begun.more ⟨[], nm, some s.files.length⟩ k hM.coh
      rwa [hrun] at this
    have key : ∀ k n i, dget ((s.begun.more.doing ⟨[], nm, some s.files.length⟩).pre k) n = some i → (∃ k', dget (s.pre k') n = some i) ∨ (n = nm ∧ i = s.files.length) := fun k n i e => by
      rcases hp k with q | q
      · rw [q] at e; exact .inl ⟨k, e⟩
      · rw [q, dget_dput] at e
        by_cases hnn : n = nm
        · rw [if_pos hnn] at e; exact .inr ⟨hnn, (Option.some.inj e).symm⟩
        · rw [if_neg hnn, h.now_pre] at e; exact .inl ⟨_, e⟩
    intro k k' n n' i e e'
    rcases key k n i e with ⟨a, ha⟩ | ⟨ha, hi⟩ <;> rcases key k' n' i e' with ⟨b, hb⟩ | ⟨hb, hj⟩
    · exact hu _ _ _ _ _ ha hb
    · have := (h.dir a).lt ha; omega
    · have := (h.dir b).lt hb; omega
    · rw [ha, hb]
  · unfold St.fv
    show view (Chg.run ⟨[], nm, some s.files.length⟩ s.begun.more.now) s.begun.more.files = _
    rw [hrun, hnv]
    rfl
theorem set_view {nf : Nat} {d : Dir} {fs : List Fil} (hd : DirOk nf d) (hf : nf = fs.length) (i : Nat) (x : Fil) (n : Nm) : view d (fs.set i x) n = if dget d n = some i then some x else view d fs n := by
  unfold view
  cases hg : dget d n with
  | none => rfl
  | some j =>
    have hj := hd.lt hg
    by_cases e : j = i
    · subst e
      rw [if_pos rfl]
      simp [show j < fs.length by omega]
    · rw [if_neg (fun h => e (Option.some.inj h))]
      simp [List.getElem?_set_ne (fun h => e h.symm)]
/-- A file is changed that has no other name. -/
theorem set_sound (h : Sound C s) (hu : Uniq s) {nm : Nm} {i : Nat} (hg : dget s.now nm = some i) (x : Fil) (hC : ∀ f g : View, C f → (∀ n, n ≠ nm → g n = f n) → (g nm = f nm ∨ g nm = some x) → C' g) : Sound C' { s with files := s.files.set i x } := by
  refine ⟨h.made, h.room, h.bad, h.coh, fun k => (h.dir k).more (by simp), fun k => ?_⟩
  refine hC _ _ (h.con k) (fun n hn => ?_) ?_
  · show view (s.pre k) (s.files.set i x) n = _
    rw [set_view (h.dir k) rfl, if_neg (fun e => hn (hu.now h hg e))]
  · show view (s.pre k) (s.files.set i x) nm = _ ∨ view (s.pre k) (s.files.set i x) nm = _
    rw [set_view (h.dir k) rfl]
    split
    · exact .inr rfl
    · exact .inl rfl
theorem set_fv (h : Sound C s) {nm : Nm} {i : Nat} (hg : dget s.now nm = some i) (x : Fil) : ({ s with files := s.files.set i x } : St).fv = upd s.fv nm (some x) := by
  funext n
  show view s.now (s.files.set i x) n = _
  rw [set_view h.now_dir rfl]
  unfold upd
  by_cases e : n = nm
  · subst e; rw [if_pos hg, if_pos rfl]
  · rw [if_neg e, if_neg (fun q => e (h.now_dir.one q hg))]; rfl
theorem append_act (h : Sound C s) {nm : Nm} {i : Nat} (hg : dget s.now nm = some i) (d : List UInt8) : actAppend nm d s.begun = ({ s.begun with files := s.files.set i ⟨(s.files.getD i nofil).b ++ d, (s.files.getD i nofil).syn⟩ }, 0) := by
  unfold actAppend
  rw [show s.begun.now = s.now from rfl, hg]
  simp only
  rw [if_neg (by rw [show s.begun.room = s.room from rfl, h.room]; omega)]
  rfl
theorem append_ran (h : Sound C s) (hu : Uniq s) (ho : s.on = true) {nm : Nm} {x : Fil} (hx : s.fv nm = some x) (hI : Ign nm C) (d : List UInt8) : Ran C (s.append nm d) (upd s.fv nm (some ⟨x.b ++ d, x.syn⟩)) := by
  obtain ⟨w1, w2, w3⟩ := wr_on ho (actAppend nm d)
  obtain ⟨i, hg, hb⟩ := fv_get hx
  have hact := append_act h hg d
  rw [hb] at hact
  unfold St.append
  refine ⟨?_, fun h0 => ?_, fun hx => by rw [w1, hact]; exact w3 (by rw [hact]) hx⟩
  · rw [w1, hact]
    exact set_sound h.begun hu hg _ fun f g hf hn _ => hI f g hn hf
  · obtain ⟨b1, b2⟩ := w2 h0
    rw [w1, hact]
    exact ⟨b1, hu, set_fv h.begun hg _⟩
theorem sync_act {nm : Nm} {i : Nat} (hg : dget s.now nm = some i) : actSync nm s.begun.bads = ({ s.begun.bads with files := s.files.set i ⟨(s.files.getD i nofil).b, (s.files.getD i nofil).b.length⟩ }, 0) := by
  unfold actSync
  rw [show s.begun.bads.now = s.now from rfl, hg]
  rfl
theorem sync_ran (h : Sound C s) (hu : Uniq s) (ho : s.on = true) {nm : Nm} {x : Fil} (hx : s.fv nm = some x) (hI : Ign nm C) : Ran C (s.sync nm) (upd s.fv nm (some ⟨x.b, x.b.length⟩)) := by
  obtain ⟨i, hg, hb⟩ := fv_get hx
  have hact := sync_act hg
  rw [hb] at hact
  unfold St.sync
  rcases sy_on h ho (actSync nm) with ⟨e, eo⟩ | ⟨e, eo⟩
  · rw [e, hact]
    exact ⟨set_sound h.begun.bads hu hg _ fun f g hf hn _ => hI f g hn hf, fun _ => ⟨eo, hu, set_fv h.begun.bads hg _⟩, fun x => absurd rfl x⟩
  · rw [e]
    exact ⟨h.begun.bads, (fun x => by cases x), fun _ => eo⟩
theorem syncDir_ran (h : Sound C s) (ho : s.on = true) : Ran C s.syncDir s.fv ∧ (s.syncDir.2 = 0 → s.syncDir.1.pend = []) := by
  unfold St.syncDir
  rcases sy_on h ho (fun s => (s.settle, 0)) with ⟨e, eo⟩ | ⟨e, eo⟩
  · rw [e]
    have hp : ∀ k, s.begun.bads.settle.pre k = s.now := fun k => by unfold St.pre St.settle; simp [redo]; rfl
    refine ⟨⟨⟨h.made, h.room, h.begun.bads.bad, rfl, fun k => ?_, fun k => ?_⟩, fun _ => ⟨eo, ?_, rfl⟩, fun x => absurd rfl x⟩, fun _ => rfl⟩
    · show DirOk s.files.length (s.begun.bads.settle.pre k)
      rw [hp]; exact h.now_dir
    · show C (view (s.begun.bads.settle.pre k) s.files)
      rw [hp]; exact h.now_con
    · intro k k' n n' i e e'
      simp only at e e'
      rw [hp] at e e'
      exact h.now_dir.one e e'
  · rw [e]
    exact ⟨⟨h.begun.bads, (fun x => by cases x), fun _ => eo⟩, fun x => by cases x⟩
theorem remove_run {nm : Nm} (hn : isNm nm = true) (d : Dir) : Chg.run ⟨nm, [], none⟩ d = ddel d nm := by
  have hn0 : nm ≠ [] := by intro e; subst e; simp [isNm] at hn
  unfold Chg.run Chg.less
  rw [if_pos rfl, if_neg hn0]
theorem remove_act {nm : Nm} {i : Nat} (hg : dget s.now nm = some i) : actRemove nm s.begun = (s.begun.doing ⟨nm, [], none⟩, 0) := by
  unfold actRemove
  rw [show s.begun.now = s.now from rfl, hg]
  rfl
theorem del_uniq (h : Sound C s) (hu : Uniq s) {nm : Nm} (hn : isNm nm = true) : Uniq (s.doing ⟨nm, [], none⟩) := by
  have key : ∀ k n i, dget ((s.doing ⟨nm, [], none⟩).pre k) n = some i → ∃ k', dget (s.pre k') n = some i := fun k n i e => by
    rcases doing_pre s ⟨nm, [], none⟩ k h.coh with q | q
    · rw [q] at e; exact ⟨k, e⟩
    · rw [q, remove_run hn, dget_ddel] at e
      split at e
      · cases e
      · rw [h.now_pre] at e; exact ⟨_, e⟩
  intro k k' n n' i e e'
  obtain ⟨a, ha⟩ := key k n i e
  obtain ⟨b, hb⟩ := key k' n' i e'
  exact hu _ _ _ _ _ ha hb
theorem remove_ran (h : Sound C s) (hu : Uniq s) (ho : s.on = true) {nm : Nm} (hn : isNm nm = true) {x : Fil} (hx : s.fv nm = some x) (hI : Ign nm C) : Ran C (s.remove nm) (upd s.fv nm none) := by
  obtain ⟨w1, w2, w3⟩ := wr_on ho (actRemove nm)
  obtain ⟨i, hg, hb⟩ := fv_get hx
  have hact := remove_act hg
  unfold St.remove
  refine ⟨?_, fun h0 => ?_, fun hx => by rw [w1, hact]; exact w3 (by rw [hact]) hx⟩
  · rw [w1, hact]
    refine doing_sound h.begun _ (fun _ x => x) ?_ ?_
    · rw [remove_run hn]; exact h.now_dir.del _
    · rw [remove_run hn, view_ddel]; exact hI _ _ (upd_ne _ _ _) h.now_con
  · obtain ⟨b1, b2⟩ := w2 h0
    rw [w1, hact]
    refine ⟨b1, del_uniq h.begun hu hn, ?_⟩
    unfold St.fv
    show view (Chg.run ⟨nm, [], none⟩ s.now) s.files = _
    rw [remove_run hn, view_ddel]; try rfl
/-- A rename: the files are sound, if what it shows is fine. -/
theorem rename_ran (h : Sound C s) (ho : s.on = true) {a c : Nm} (ha : isNm a = true) (hc : isNm c = true) (hac : a ≠ c) {x : Fil} (hx : s.fv a = some x) (hC : ∀ f, C f → C' f) (hv : C' (upd (upd s.fv a none) c (some x))) :
    Sound C' (s.rename a c).1 ∧ ((s.rename a c).2 = 0 → (s.rename a c).1.on = true ∧ (s.rename a c).1.fv = upd (upd s.fv a none) c (some x)) ∧ ((s.rename a c).2 ≠ 0 → (s.rename a c).1.on = false) := by
  obtain ⟨w1, w2, w3⟩ := wr_on ho (actRename a c)
  obtain ⟨i, hg, hb⟩ := fv_get hx
  have ha0 : a ≠ [] := by intro e; subst e; simp [isNm] at ha
  have hc0 : c ≠ [] := by intro e; subst e; simp [isNm] at hc
  have hact : actRename a c s.begun = (s.begun.doing ⟨a, c, none⟩, 0) := by
    unfold actRename
    rw [show s.begun.now = s.now from rfl, hg]
    simp only [Option.isSome_some, if_true]
    rw [if_pos hc, if_neg hac]
  have hrun : (Chg.run ⟨a, c, none⟩ s.now) = dput (ddel s.now a) c i := by
    rw [Chg.run_put (a := i) _ _ hc0 (by unfold Chg.file; simp only; rw [if_neg ha0]; exact hg)]
    unfold Chg.less
    simp only
    rw [if_neg ha0]
  have hvw : view (dput (ddel s.now a) c i) s.files = upd (upd s.fv a none) c (some x) := by
    rw [view_dput, view_ddel, hb]; rfl
  unfold St.rename
  refine ⟨?_, fun h0 => ?_, fun hx => by rw [w1, hact]; exact w3 (by rw [hact]) hx⟩
  · rw [w1, hact]
    refine doing_sound h.begun _ hC ?_ ?_
    · show DirOk s.files.length (Chg.run ⟨a, c, none⟩ s.now)
      rw [hrun]
      refine (h.now_dir.del a).put c (h.now_dir.lt hg) (fun p hp e => ?_)
      have h1 := mem_ddel.1 hp
      have := h.now_dir.inj p h1.1 _ (mem_of_dget hg) e
      exact h1.2 (by rw [this])
    · show C' (view (Chg.run ⟨a, c, none⟩ s.now) s.files)
      rw [hrun, hvw]; exact hv
  · obtain ⟨b1, b2⟩ := w2 h0
    rw [w1, hact]
    refine ⟨b1, ?_⟩
    unfold St.fv
    show view (Chg.run ⟨a, c, none⟩ s.now) s.files = _
    rw [hrun, hvw]; rfl
theorem fv_read (ho : s.on = true) (n : Nm) : s.read n = match s.fv n with | some x => (x.b, 0) | none => ([], 7) := by
  unfold St.read St.fv view
  rw [if_pos ho]
  cases dget s.now n <;> rfl
theorem uniq_one (h : Sound C s) (hp : s.pend = []) : Uniq s := by
  have e : ∀ k, s.pre k = s.now := fun k => by rw [h.coh]; unfold St.pre; rw [hp]; simp
  intro k k' n n' i a b
  rw [e] at a b
  exact h.now_dir.one a b
/-- What the power's failure leaves of a file. -/
def CutOf (x y : Option Fil) : Prop := (x = none ∧ y = none) ∨ ∃ u c, x = some u ∧ u.syn ≤ c ∧ y = some ⟨u.b.take c, c⟩
theorem cuts_length : ∀ (d : Dir) (fs : List Fil) (ks : List Int), (cuts fs d ks).length = fs.length
  | [], _, _ => rfl
  | p :: d, fs, ks => by
    unfold cuts
    rw [cuts_length d]
    simp
theorem cuts_other : ∀ (d : Dir) (fs : List Fil) (ks : List Int) (i : Nat), (∀ p ∈ d, p.2 ≠ i) → (cuts fs d ks).getD i nofil = fs.getD i nofil
  | [], _, _, _, _ => rfl
  | p :: d, fs, ks, i, h => by
    unfold cuts
    rw [cuts_other d _ _ i (fun q hq => h q (by simp [hq]))]
    have := h p (by simp)
    simp [List.getElem?_set_ne this]
theorem cuts_at : ∀ (d : Dir) (fs : List Fil) (ks : List Int), (∀ p ∈ d, p.2 < fs.length) → (∀ p ∈ d, ∀ q ∈ d, p.2 = q.2 → p = q) → d.Nodup → ∀ p ∈ d, ∃ c, (fs.getD p.2 nofil).syn ≤ c ∧ (cuts fs d ks).getD p.2 nofil = ⟨(fs.getD p.2 nofil).b.take c, c⟩
  | [], _, _, _, _, _, p, hp => by cases hp
  | q :: d, fs, ks, hi, hj, hn, p, hp => by
    unfold cuts
    rw [List.nodup_cons] at hn
    rcases List.mem_cons.1 hp with rfl | hp
    · rw [cuts_other d _ _ p.2 (fun r hr e => hn.1 (by rw [← hj r (by simp [hr]) p (by simp) e]; exact hr))]
      have := hi p (by simp)
      have e : (fs.set p.2 ((fs.getD p.2 nofil).cut (ks.headD 0))).getD p.2 nofil = (fs.getD p.2 nofil).cut (ks.headD 0) := by simp [this]
      rw [e]
      exact ⟨_, Nat.le_add_right _ _, rfl⟩
    · have hne : q.2 ≠ p.2 := fun e => hn.1 (by rw [hj q (by simp) p (by simp [hp]) e]; exact hp)
      obtain ⟨c, h1, h2⟩ := cuts_at d (fs.set q.2 ((fs.getD q.2 nofil).cut (ks.headD 0))) ks.tail (fun r hr => by rw [List.length_set]; exact hi r (by simp [hr])) (fun r hr t ht => hj r (by simp [hr]) t (by simp [ht])) hn.2 p hp
      have e : (fs.set q.2 ((fs.getD q.2 nofil).cut (ks.headD 0))).getD p.2 nofil = fs.getD p.2 nofil := by simp [List.getElem?_set_ne hne]
      rw [e] at h1 h2
      exact ⟨c, h1, h2⟩
theorem rise_nodup {d : Dir} (h : Rise d) : d.Nodup := by
  refine List.Pairwise.imp (fun {p q} hb e => ?_) h
  subst e
  simp [WideAt.bytes_irrefl] at hb
/-- Behind a failure the files are sound, if what is asked holds of whatever is cut off. -/
theorem crash_sound (h : Sound C s) (hC : ∀ f g : View, C f → (∀ n, CutOf (f n) (g n)) → C g) (dir : Int) (keep : List Int) : Sound C (s.crash dir keep) ∧ (s.crash dir keep).pend = [] := by
  refine ⟨?_, rfl⟩
  unfold St.crash
  simp only
  obtain ⟨d, hd⟩ : ∃ d, redo s.last (s.pend.take (modn dir (s.pend.length + 1))) = d := ⟨_, rfl⟩
  have hD : DirOk s.files.length d := by rw [← hd]; exact h.dir _
  have hc : C (view d s.files) := by rw [← hd]; exact h.con _
  rw [hd]
  have hp : ∀ k, ({ s with on := false, fuse := -1, bad := -1, now := d, last := d, pend := [], files := cuts s.files d keep } : St).pre k = d := fun k => by unfold St.pre; simp [redo]
  refine ⟨h.made, h.room, rfl, rfl, fun k => ?_, fun k => ?_⟩
  · rw [hp]; exact hD.more (by simp [cuts_length])
  · rw [hp]
    refine hC _ _ hc fun n => ?_
    unfold view
    cases hg : dget d n with
    | none => exact .inl ⟨rfl, rfl⟩
    | some i =>
      obtain ⟨c, h1, h2⟩ := cuts_at d s.files keep hD.ids hD.inj (rise_nodup hD.rise) _ (mem_of_dget hg)
      exact .inr ⟨_, c, rfl, h1, by simp only [Option.map_some]; rw [h2]⟩
end
end Go.Proofs.YtlecffpjcjlabaaGreat

namespace Go.Proofs.YtlecffpjcjlabaaGreat

section
variable {C C' : View → Prop} {s : St}
theorem Ran.of {r : St × Int} {f k : View} (h : Ran C r f) (e : f = k) : Ran C r k := ⟨h.snd, fun x => e ▸ h.go x, h.off⟩
theorem upd_upd (f : View) (n : Nm) (x y : Option Fil) : upd (upd f n x) n y = upd f n y := by
  funext m
  unfold upd
  by_cases e : m = n
  · rw [if_pos e, if_pos e]
  · rw [if_neg e, if_neg e, if_neg e]
theorem upd_same (f : View) (n : Nm) {x : Option Fil} (h : f n = x) : upd f n x = f := by
  funext m
  unfold upd
  by_cases e : m = n
  · rw [if_pos e, e, h]
  · rw [if_neg e]
theorem away_ran (h : Sound C s) (hu : Uniq s) (ho : s.on = true) {nm : Nm} (hn : isNm nm = true) (hI : Ign nm C) : Ran C (awayM s nm) (upd s.fv nm none) := by
  unfold awayM
  rw [fv_read ho]
  cases e : s.fv nm with
  | none =>
    simp only
    rw [if_neg (by decide)]
    exact ⟨h, fun _ => ⟨ho, hu, (upd_same _ _ e).symm⟩, fun x => absurd rfl x⟩
  | some x =>
    simp only
    rw [if_pos trivial]
    exact remove_ran h hu ho hn e hI
theorem replace_ran (h : Sound C s) (hu : Uniq s) (ho : s.on = true) {nm : Nm} (hn : isNm nm = true) (hI : Ign nm C) (b : List UInt8) : Ran C (replaceM s nm b) (upd s.fv nm (some ⟨b, b.length⟩)) := by
  unfold replaceM
  refine (away_ran h hu ho hn hI).seq (fun _ x => x) fun s1 h1 u1 o1 v1 => ?_
  refine (create_ran h1 u1 o1 hn (by rw [v1, upd_eq]) hI).seq (fun _ x => x) fun s2 h2 u2 o2 v2 => ?_
  refine (append_ran h2 u2 o2 (x := ⟨[], 0⟩) (by rw [v2, upd_eq]) hI b).seq (fun _ x => x) fun s3 h3 u3 o3 v3 => ?_
  refine (sync_ran h3 u3 o3 (x := ⟨[] ++ b, 0⟩) (by rw [v3, upd_eq]) hI).of ?_
  rw [v3, upd_upd, v2, upd_upd, v1, upd_upd]
  rfl
theorem sound_one (h : Sound C s) (hp : s.pend = []) (hv : C' s.fv) : Sound C' s := by
  have e : ∀ k, s.pre k = s.now := fun k => by rw [h.coh]; unfold St.pre; rw [hp]; simp
  exact ⟨h.made, h.room, h.bad, h.coh, h.dir, fun k => by rw [e]; exact hv⟩
/-- A file of this name is made, and CURRENT is switched to it. -/
theorem lay_ran (h : Sound C s) (hu : Uniq s) (ho : s.on = true) {nm : Nm} (hn : isNm nm = true) (hn1 : nm ≠ curN) (hn2 : nm ≠ comN) (b : List UInt8) (hI1 : Ign nm C) (hI2 : Ign comN C) (hCC : ∀ f, C f → C' f)
    (hv : ∀ f : View, f curN = some ⟨nm, nm.length⟩ → f nm = some ⟨b, b.length⟩ → C' f) :
    Sound C' (layM s nm b).1 ∧ ((layM s nm b).2 = 0 → (layM s nm b).1.on = true ∧ (layM s nm b).1.pend = [] ∧ (layM s nm b).1.fv curN = some ⟨nm, nm.length⟩ ∧ (layM s nm b).1.fv nm = some ⟨b, b.length⟩) ∧ ((layM s nm b).2 ≠ 0 → (layM s nm b).1.on = false) := by
  unfold layM
  have R1 := replace_ran h hu ho hn hI1 b
  by_cases e1 : (replaceM s nm b).2 = 0
  rotate_left
  · rw [seqS_no e1]; exact ⟨R1.snd.mono hCC, fun x => absurd x e1, R1.off⟩
  rw [seqS_yes e1]
  obtain ⟨o1, u1, v1⟩ := R1.go e1
  have h1 := R1.snd
  generalize (replaceM s nm b).1 = s1 at *
  obtain ⟨R2, p2⟩ := syncDir_ran h1 o1
  by_cases e2 : s1.syncDir.2 = 0
  rotate_left
  · rw [seqS_no e2]; exact ⟨R2.snd.mono hCC, fun x => absurd x e2, R2.off⟩
  rw [seqS_yes e2]
  obtain ⟨o2, u2, v2⟩ := R2.go e2
  have h2 := R2.snd
  have q2 := p2 e2
  generalize s1.syncDir.1 = s2 at *
  have f2 : s2.fv nm = some ⟨b, b.length⟩ := by rw [v2, v1, upd_eq]
  have h2' : Sound (fun f => C f ∧ f nm = some ⟨b, b.length⟩) s2 := sound_one h2 q2 ⟨h2.now_con, f2⟩
  have hI3 : Ign comN (fun f => C f ∧ f nm = some ⟨b, b.length⟩) := fun f g hfg hf => ⟨hI2 f g hfg hf.1, by rw [hfg nm hn2]; exact hf.2⟩
  unfold switchM
  have R3 := replace_ran h2' u2 o2 (show isNm comN = true by decide) hI3 nm
  by_cases e3 : (replaceM s2 comN nm).2 = 0
  rotate_left
  · rw [seqS_no e3]; exact ⟨R3.snd.mono (fun f hf => hCC f hf.1), fun x => absurd x e3, R3.off⟩
  rw [seqS_yes e3]
  obtain ⟨o3, u3, v3⟩ := R3.go e3
  have h3 := R3.snd
  generalize (replaceM s2 comN nm).1 = s3 at *
  have f3 : s3.fv comN = some ⟨nm, nm.length⟩ := by rw [v3, upd_eq]
  have g3 : upd (upd s3.fv comN none) curN (some ⟨nm, nm.length⟩) nm = some ⟨b, b.length⟩ := by
    rw [upd_ne _ _ _ _ hn1, upd_ne _ _ _ _ hn2, v3, upd_ne _ _ _ _ hn2, f2]
  obtain ⟨h4, k4, x4⟩ := rename_ran (C' := C') h3 o3 (show isNm comN = true by decide) (show isNm curN = true by decide) (by decide) f3 (fun f hf => hCC f hf.1) (hv _ (upd_eq _ _ _) g3)
  by_cases e4 : (s3.rename comN curN).2 = 0
  rotate_left
  · rw [seqS_no e4]; exact ⟨h4, fun x => absurd x e4, x4⟩
  rw [seqS_yes e4]
  obtain ⟨o4, v4⟩ := k4 e4
  generalize (s3.rename comN curN).1 = s4 at *
  obtain ⟨R5, p5⟩ := syncDir_ran h4 o4
  refine ⟨R5.snd, fun e5 => ?_, R5.off⟩
  obtain ⟨o5, u5, v5⟩ := R5.go e5
  exact ⟨o5, p5 e5, by rw [v5, v4, upd_eq], by rw [v5, v4, g3]⟩
end
end Go.Proofs.YtlecffpjcjlabaaGreat

namespace Go.Proofs.YtlecffpjcjlabaaGreat

/-- CURRENT names a file that makes a version of P, whatever of its unsynced bytes stays; or there is none yet. -/
def ConM (P : Nat → Vr → Prop) (fr : Prop) (f : View) : Prop :=
  (fr ∧ f curN = none) ∨ ∃ k b y z, k < 100000000 ∧ 9 ≤ y ∧ b.length ≤ 90000000 ∧ f curN = some ⟨nmM k, y⟩ ∧ f (nmM k) = some ⟨b, z⟩ ∧ ∀ c, z ≤ c → ∃ v, replayM (scanF (b.take c)).1 = some v ∧ FineR (scanF (b.take c)).1 ∧ P k v
section
variable {P P' : Nat → Vr → Prop} {fr fr' : Prop} {f g : View}
theorem conM_mono (h : ConM P fr f) (hP : ∀ k v, P k v → P' k v) (hf : fr → fr') : ConM P' fr' f := by
  rcases h with ⟨h1, h2⟩ | ⟨k, b, y, z, hk, hy, hb, h1, h2, h3⟩
  · exact .inl ⟨hf h1, h2⟩
  · refine .inr ⟨k, b, y, z, hk, hy, hb, h1, h2, fun c hc => ?_⟩
    obtain ⟨v, h4, h6, h5⟩ := h3 c hc
    exact ⟨v, h4, h6, hP _ _ h5⟩
theorem conM_cut (h : ConM P fr f) (hc : ∀ n, CutOf (f n) (g n)) : ConM P fr g := by
  rcases h with ⟨h1, h2⟩ | ⟨k, b, y, z, hk, hy, hb, h1, h2, h3⟩
  · left
    refine ⟨h1, ?_⟩
    rcases hc curN with ⟨-, e⟩ | ⟨u, c, e, -⟩
    · exact e
    · rw [h2] at e; cases e
  · right
    rcases hc curN with ⟨e, -⟩ | ⟨u, c, e, hle, e'⟩
    · rw [h1] at e; cases e
    obtain rfl := Option.some.inj (h1.symm.trans e)
    simp only at hle e'
    rcases hc (nmM k) with ⟨q, -⟩ | ⟨u2, c2, q, hle2, q'⟩
    · rw [h2] at q; cases q
    obtain rfl := Option.some.inj (h2.symm.trans q)
    simp only at hle2 q'
    refine ⟨k, b.take c2, c, c2, hk, by omega, by rw [List.length_take]; omega, ?_, q', fun c3 hc3 => ?_⟩
    · rw [e', List.take_of_length_le (show (nmM k).length ≤ c from (show 9 ≤ c by omega))]
    · rw [List.take_take, Nat.min_eq_right hc3]
      exact h3 c2 hle2
theorem conM_ign {nm : Nm} (h1 : nm ≠ curN) (h2 : ∀ k v, P k v → nm ≠ nmM k) : Ign nm (ConM P fr) := fun f g hfg hf => by
  rcases hf with ⟨q1, q2⟩ | ⟨k, b, y, z, hk, hy, hb, q1, q2, q3⟩
  · exact .inl ⟨q1, (hfg _ (fun e => h1 e.symm)).trans q2⟩
  · obtain ⟨v, -, -, hv⟩ := q3 z (Nat.le_refl _)
    exact .inr ⟨k, b, y, z, hk, hy, hb, (hfg _ (fun e => h1 e.symm)).trans q1, (hfg _ (fun e => h2 k v hv e.symm)).trans q2, q3⟩
end
/-- A version of a file of this number. -/
structure FitV (k : Nat) (v : Vr) : Prop where
  num : k < 100000000
  right : RightV v
  stand : Stands v.ts
  few : v.ts.length ≤ 10000
  lt : (k : Int) < v.next
/-- CURRENT names this file, whatever of what is pending is done. -/
structure Held (s : St) (num : Nat) (b : List UInt8) (z : Nat) : Prop where
  snd : Sound (fun _ => True) s
  uni : Uniq s
  cur : ∃ y, 9 ≤ y ∧ s.fv curN = some ⟨nmM num, y⟩
  fil : s.fv (nmM num) = some ⟨b, z⟩
  same : ∀ k, dget (s.pre k) curN = dget s.now curN ∧ dget (s.pre k) (nmM num) = dget s.now (nmM num)
section
variable {P P' : Nat → Vr → Prop} {fr : Prop} {C : View → Prop} {s : St} {num : Nat} {b d : List UInt8} {z : Nat}
theorem Held.con (h : Held s num b z) (hn : num < 100000000) (fr : Prop) (hb : b.length ≤ 90000000) (hP : ∀ c, z ≤ c → ∃ v, replayM (scanF (b.take c)).1 = some v ∧ FineR (scanF (b.take c)).1 ∧ P num v) : Sound (ConM P fr) s := by
  obtain ⟨y, hy, hc⟩ := h.cur
  refine ⟨h.snd.made, h.snd.room, h.snd.bad, h.snd.coh, h.snd.dir, fun k => .inr ⟨num, b, y, z, hn, hy, hb, ?_, ?_, hP⟩⟩
  · unfold view
    rw [(h.same k).1]
    exact hc
  · unfold view
    rw [(h.same k).2]
    exact h.fil
theorem held_of (h : Sound C s) (hp : s.pend = []) {y : Nat} (hy : 9 ≤ y) (hc : s.fv curN = some ⟨nmM num, y⟩) (hf : s.fv (nmM num) = some ⟨b, z⟩) : Held s num b z := by
  have e : ∀ k, s.pre k = s.now := fun k => by rw [h.coh]; unfold St.pre; rw [hp]; simp
  exact ⟨h.mono fun _ _ => trivial, uniq_one h hp, ⟨y, hy, hc⟩, hf, fun k => by rw [e]; exact ⟨rfl, rfl⟩⟩
theorem Held.begun (h : Held s num b z) : Held s.begun num b z := ⟨h.snd.begun, h.uni, h.cur, h.fil, h.same⟩
theorem Held.bads (h : Held s num b z) : Held s.bads num b z := ⟨h.snd.bads, h.uni, h.cur, h.fil, h.same⟩
theorem held_set (h : Held s num b z) {i : Nat} (hg : dget s.now (nmM num) = some i) (x : Fil) : Held { s with files := s.files.set i x } num x.b x.syn := by
  obtain ⟨y, hy, hc⟩ := h.cur
  have e := set_fv h.snd hg x
  exact ⟨set_sound h.snd h.uni hg x (fun _ _ _ _ _ => trivial), h.uni, ⟨y, hy, by rw [e, upd_ne _ _ _ _ (fun q => nmM_cur _ q.symm)]; exact hc⟩, by rw [e, upd_eq], h.same⟩
theorem held_append (h : Held s num b z) (ho : s.on = true) (d : List UInt8) : Held (s.append (nmM num) d).1 num (b ++ d) z ∧ ((s.append (nmM num) d).2 = 0 → (s.append (nmM num) d).1.on = true) ∧ ((s.append (nmM num) d).2 ≠ 0 → (s.append (nmM num) d).1.on = false) := by
  obtain ⟨w1, w2, w3⟩ := wr_on ho (actAppend (nmM num) d)
  obtain ⟨i, hg, hb⟩ := fv_get h.fil
  have hact := append_act h.snd hg d
  rw [hb] at hact
  unfold St.append
  refine ⟨?_, fun h0 => ?_, fun hx => ?_⟩
  · rw [w1, hact]
    exact held_set h.begun hg _
  · rw [w1, hact]; exact (w2 h0).1
  · rw [w1, hact]; exact w3 (by rw [hact]) hx
theorem held_sync (h : Held s num b z) (ho : s.on = true) : ((s.sync (nmM num)).2 = 0 ∧ (s.sync (nmM num)).1.on = true ∧ Held (s.sync (nmM num)).1 num b b.length) ∨ ((s.sync (nmM num)).2 ≠ 0 ∧ (s.sync (nmM num)).1.on = false ∧ Held (s.sync (nmM num)).1 num b z) := by
  obtain ⟨i, hg, hb⟩ := fv_get h.fil
  have hact := sync_act hg
  rw [hb] at hact
  unfold St.sync
  rcases sy_on h.snd ho (actSync (nmM num)) with ⟨e, eo⟩ | ⟨e, eo⟩
  · left
    rw [e, hact]
    exact ⟨rfl, eo, held_set h.begun.bads hg ⟨b, b.length⟩⟩
  · right
    rw [e]
    exact ⟨by simp, eo, h.begun.bads⟩
theorem held_syncDir (h : Held s num b z) (ho : s.on = true) : (s.syncDir.2 = 0 ∧ s.syncDir.1.on = true ∧ Held s.syncDir.1 num b z ∧ s.syncDir.1.pend = [] ∧ s.syncDir.1.fv = s.fv) ∨ (s.syncDir.2 ≠ 0 ∧ s.syncDir.1.on = false ∧ Held s.syncDir.1 num b z) := by
  obtain ⟨R, p⟩ := syncDir_ran h.snd ho
  by_cases e : s.syncDir.2 = 0
  · left
    obtain ⟨o1, u1, v1⟩ := R.go e
    obtain ⟨y, hy, hc⟩ := h.cur
    exact ⟨e, o1, held_of R.snd (p e) hy (by rw [v1]; exact hc) (by rw [v1]; exact h.fil), p e, v1⟩
  · right
    refine ⟨e, R.off e, ?_⟩
    unfold St.syncDir at e ⊢
    rcases sy_on h.snd ho (fun s => (s.settle, 0)) with ⟨q, eo⟩ | ⟨q, eo⟩
    · rw [q] at e; exact absurd rfl e
    · rw [q]; exact h.begun.bads
theorem held_remove (h : Held s num b z) (ho : s.on = true) {nm : Nm} (hn : isNm nm = true) (h1 : nm ≠ curN) (h2 : nm ≠ nmM num) : Held (s.remove nm).1 num b z := by
  obtain ⟨w1, -, -⟩ := wr_on ho (actRemove nm)
  unfold St.remove
  rw [w1]
  cases hd : dget s.now nm with
  | none =>
    have : actRemove nm s.begun = (s.begun, 7) := by
      unfold actRemove
      rw [show s.begun.now = s.now from rfl, hd]
      rfl
    rw [this]
    exact h.begun
  | some i =>
    rw [remove_act hd]
    obtain ⟨y, hy, hc⟩ := h.cur
    have hH := h.begun
    have hnow : (s.begun.doing ⟨nm, [], none⟩).now = ddel s.now nm := remove_run hn s.now
    have hfv : (s.begun.doing ⟨nm, [], none⟩).fv = upd s.fv nm none := by
      unfold St.fv
      rw [hnow, show (s.begun.doing ⟨nm, [], none⟩).files = s.files from rfl, view_ddel]
    refine ⟨doing_sound hH.snd _ (fun _ x => x) ?_ trivial, del_uniq hH.snd hH.uni hn, ⟨y, hy, ?_⟩, ?_, fun k => ?_⟩
    · show DirOk s.files.length (Chg.run ⟨nm, [], none⟩ s.now)
      rw [remove_run hn]; exact h.snd.now_dir.del _
    · rw [hfv, upd_ne _ _ _ _ (fun e => h1 e.symm)]; exact hc
    · rw [hfv, upd_ne _ _ _ _ (fun e => h2 e.symm)]; exact h.fil
    · rw [hnow, dget_ddel, dget_ddel, if_neg (fun e => h1 e.symm), if_neg (fun e => h2 e.symm)]
      rcases doing_pre s.begun ⟨nm, [], none⟩ k hH.snd.coh with q | q
      · rw [q]; exact h.same k
      · rw [q, show s.begun.now = s.now from rfl, remove_run hn, dget_ddel, dget_ddel, if_neg (fun e => h1 e.symm), if_neg (fun e => h2 e.symm)]
        exact ⟨rfl, rfl⟩
/-- A manifest on its files, all that it has synced. -/
structure HeldM (s : St) (m : Mf) (rs : List (List UInt8)) (z : Nat) : Prop where
  held : Held s m.num (frames rs) z
  syn : (frames rs).length ≤ z
  make : replayM rs = some m.v
  few : ∀ r ∈ rs, r.length ≤ 16777216
  fit : FitV m.num m.v
  fine : FineR rs
  size : (frames rs).length ≤ 90000000
theorem HeldM.con {m : Mf} {rs : List (List UInt8)} (h : HeldM s m rs z) (fr : Prop) (hP : P m.num m.v) : Sound (ConM P fr) s :=
  h.held.con h.fit.num fr h.size fun c hc => ⟨m.v, by rw [List.take_of_length_le (Nat.le_trans h.syn hc), scan_all rs h.few]; exact h.make, by rw [List.take_of_length_le (Nat.le_trans h.syn hc), scan_all rs h.few]; exact h.fine, hP⟩
/-- A version laid whole. -/
theorem whole_fine {v : Vr} (h : RightV v) (hl : v.ts.length ≤ 10000) : FineR [putE (wholeE v)] := (EdsC.one h hl).fine (by show v.ts.length + 0 ≤ _; omega) (show 1 ≤ _ by omega)
theorem whole_size {v : Vr} (h : RightV v) (hl : v.ts.length ≤ 10000) : (wholeB v).length ≤ 7000000 := by have := wholeB_small h hl; omega
theorem FineR.more {rs : List (List UInt8)} {v : Vr} {e : Ed} (h : FineR rs) (hm : replayM rs = some v) (he : e.Fits) (ha : Applies v e) (hl : (nextV v e).ts.length ≤ 10000) (hn : rs.length < 100000000) : FineR (rs ++ [putE e]) := by
  obtain ⟨hm1, hm2⟩ := replayM_some hm
  refine ⟨fun r hr => ?_, fun i u hu => ?_, fun r hr => ?_, by rw [List.length_append]; exact hn⟩
  · rcases List.mem_append.1 hr with hr | hr
    · exact h.fit r hr
    · rw [List.mem_singleton.1 hr, getP_laid e he]
      exact fun _ => he
  · by_cases hi : i ≤ rs.length
    · rw [List.take_append_of_le_length hi] at hu
      exact h.few i u hu
    · rw [List.take_of_length_le (by rw [List.length_append]; show rs.length + 1 ≤ i; omega), replayN_snoc, hm2] at hu
      simp only at hu
      rw [replayN_one he ha] at hu
      obtain rfl := Option.some.inj hu
      exact hl
  · rcases List.mem_append.1 hr with hr | hr
    · exact h.len r hr
    · rw [List.mem_singleton.1 hr]
      exact Nat.le_trans (putE_small he) (by omega)
theorem frames_many : ∀ rs : List (List UInt8), 8 * rs.length ≤ (frames rs).length
  | [] => Nat.zero_le _
  | r :: rs => by
    have := frames_many rs
    rw [frames_cons, List.length_append, frm_length, List.length_cons]
    omega
/-- Laid anew. -/
theorem anew_held {k : Nat} {v : Vr} (h : Held s k b z) (ho : s.on = true) (v0 : Vr) (hF : FitV k v) (hmost : v.next < 100000000) (hb : b.length ≤ 90000000) (hP : ∀ c, z ≤ c → ∃ v', replayM (scanF (b.take c)).1 = some v' ∧ FineR (scanF (b.take c)).1 ∧ P' k v') (hU : P' v.next.toNat v.up) (fr : Prop) :
    Sound (ConM P' fr) (anewM s ⟨k, v0⟩ v).1 ∧ ((anewM s ⟨k, v0⟩ v).2.1 = 0 → (anewM s ⟨k, v0⟩ v).2.2 = ⟨v.next.toNat, v.up⟩ ∧ HeldM (anewM s ⟨k, v0⟩ v).1 ⟨v.next.toNat, v.up⟩ [putE (wholeE v.up)] (wholeB v.up).length) ∧ ((anewM s ⟨k, v0⟩ v).2.1 ≠ 0 → (anewM s ⟨k, v0⟩ v).2.2 = ⟨k, v0⟩ ∧ (anewM s ⟨k, v0⟩ v).1.on = false) := by
  have h0 := hF.right.1
  have hlt := hF.lt
  have hne : nmM v.next.toNat ≠ nmM k := fun e => by have := nmM_inj (by omega) hF.num e; omega
  have hUR := up_right hF.right hmost
  have hfewW : ∀ r ∈ [putE (wholeE v.up)], r.length ≤ 16777216 := fun r hr => by
    rw [List.mem_singleton.1 hr]
    exact putE_small (whole_fits hUR hF.few)
  have hmk : replayM [putE (wholeE v.up)] = some v.up := replayM_whole hUR hF.stand hF.few
  have hscan : ∀ c, (wholeB v.up).length ≤ c → replayM (scanF ((wholeB v.up).take c)).1 = some v.up := fun c hc => by
    rw [List.take_of_length_le hc]
    unfold wholeB
    rw [scan_all _ hfewW]
    exact hmk
  have hwf := whole_fine hUR hF.few
  have hws := whole_size hUR hF.few
  have hscanF : ∀ c, (wholeB v.up).length ≤ c → FineR (scanF ((wholeB v.up).take c)).1 := fun c hc => by
    rw [List.take_of_length_le hc]
    unfold wholeB
    rw [scan_all _ hfewW]
    exact hwf
  have hS : Sound (ConM (fun k' v' => k' = k ∧ P' k' v') False) s := h.con hF.num False hb fun c hc => by
    obtain ⟨v', q1, q3, q2⟩ := hP c hc
    exact ⟨v', q1, q3, rfl, q2⟩
  obtain ⟨L1, L2, L3⟩ := lay_ran (C' := ConM P' fr) hS h.uni ho (nmM_nm v.next.toNat) (nmM_cur _) (nmM_com _) (wholeB v.up)
    (conM_ign (nmM_cur _) fun k' v' hp e => hne (by rw [e, hp.1])) (conM_ign com_cur fun k' v' hp e => nmM_com k' e.symm)
    (fun f hf => conM_mono hf (fun _ _ q => q.2) False.elim)
    (fun f f1 f2 => .inr ⟨v.next.toNat, wholeB v.up, _, _, by omega, Nat.le_refl 9, by omega, f1, f2, fun c hc => ⟨v.up, hscan c hc, hscanF c hc, hU⟩⟩)
  have e0 : anewM s ⟨k, v0⟩ v = if (layM s (nmM v.next.toNat) (wholeB v.up)).2 = 0 then (((layM s (nmM v.next.toNat) (wholeB v.up)).1.remove (nmM k)).1, 0, ⟨v.next.toNat, v.up⟩) else ((layM s (nmM v.next.toNat) (wholeB v.up)).1, (layM s (nmM v.next.toNat) (wholeB v.up)).2, ⟨k, v0⟩) := by
    unfold anewM layV
    rw [if_neg (by omega)]
    simp only
    split
    · rw [if_neg (by omega)]
    · rfl
  rw [e0]
  by_cases hz : (layM s (nmM v.next.toNat) (wholeB v.up)).2 = 0
  · rw [if_pos hz]
    obtain ⟨l1, l2, l3, l4⟩ := L2 hz
    have hH : Held (layM s (nmM v.next.toNat) (wholeB v.up)).1 v.next.toNat (wholeB v.up) (wholeB v.up).length := held_of L1 l2 (Nat.le_refl 9) l3 l4
    have hR := held_remove hH l1 (nmM_nm k) (nmM_cur k) (fun e => hne e.symm)
    have hfit : FitV v.next.toNat v.up := ⟨by omega, hUR, hF.stand, hF.few, by show ((v.next.toNat : Nat) : Int) < v.next + 1; omega⟩
    have hM : HeldM ((layM s (nmM v.next.toNat) (wholeB v.up)).1.remove (nmM k)).1 ⟨v.next.toNat, v.up⟩ [putE (wholeE v.up)] (wholeB v.up).length := ⟨hR, Nat.le_refl _, hmk, hfewW, hfit, hwf, Nat.le_trans hws (by omega)⟩
    exact ⟨hM.con fr hU, fun _ => ⟨rfl, hM⟩, fun x => absurd rfl x⟩
  · rw [if_neg hz]
    exact ⟨L1, fun x => absurd x hz, fun x => ⟨rfl, L3 x⟩⟩
theorem scan_frames : ∀ (n : Nat) (b : List UInt8), b.length ≤ n → (frames (scanF b).1).length = (scanF b).2 ∧ b.take (scanF b).2 = frames (scanF b).1 ∧ ∀ r ∈ (scanF b).1, r.length ≤ 16777216
  | n, b, hn => by
    cases h : cutF b with
    | none =>
      rw [scanF_none h]
      exact ⟨rfl, rfl, fun r hr => by cases hr⟩
    | some t =>
      have hl := cutF_length h
      have hc := cutF_frm h
      have h16 := (cutF_some h).2.1
      match n with
      | 0 => omega
      | n + 1 =>
        obtain ⟨h1, h2, h3⟩ := scan_frames n (b.drop (8 + t.length)) (by rw [List.length_drop]; omega)
        rw [scanF_some h]
        simp only
        rw [frames_cons, List.length_append, frm_length, h1]
        refine ⟨rfl, ?_, fun r hr => ?_⟩
        · rw [← h2]
          have e1 : ∀ q, b.take (8 + t.length + q) = frm t ++ (b.drop (8 + t.length)).take q := fun q => by
            conv => lhs; rw [hc]
            rw [List.take_append, List.take_of_length_le (by rw [frm_length]; omega), frm_length, Nat.add_sub_cancel_left]
          exact e1 _
        · rcases List.mem_cons.1 hr with rfl | hr
          · rw [hl.1]; exact h16
          · exact h3 r hr
/-- Opened: behind a failure, or of nothing. -/
theorem open_held (h : Sound (ConM P fr) s) (hp : s.pend = []) (ho : s.on = true) (hPP : ∀ k v, P k v → P' k v) (hF : ∀ k v, P k v → FitV k v ∧ v.next < 100000000) (hU : ∀ k v, P k v → P' v.next.toNat v.up) (hS : fr → P' 1 vStart) :
    Sound (ConM P' fr) (openM s).1 ∧ ((openM s).2.1 = 0 → P' (openM s).2.2.num (openM s).2.2.v ∧ ∃ rs z, HeldM (openM s).1 (openM s).2.2 rs z ∧ ((∀ k v, ¬ P k v) → (frames rs).length ≤ 7000000)) ∧ ((openM s).2.1 ≠ 0 → (openM s).1.on = false) := by
  have hfew : ∀ r ∈ [putE (wholeE vStart)], r.length ≤ 16777216 := fun r hr => by
    rw [List.mem_singleton.1 hr]
    exact putE_small (whole_fits vStart_right.1 (by decide))
  have hmk : replayM [putE (wholeE vStart)] = some vStart := replayM_whole vStart_right.1 vStart_right.2 (by decide)
  have hwf : FineR [putE (wholeE vStart)] := whole_fine vStart_right.1 (Nat.zero_le _)
  have hws : (wholeB vStart).length ≤ 7000000 := whole_size vStart_right.1 (Nat.zero_le _)
  rcases h.now_con with ⟨q1, q2⟩ | ⟨k, b, y, z, hk, hy, hbl, q1, q2, q3⟩
  · have e : openM s = layV s 1 vStart ⟨0, Vr.zero⟩ := by
      unfold openM
      rw [fv_read ho, q2]
      simp
    have hX : Sound (fun f => f curN = none) s := sound_one h hp q2
    obtain ⟨L1, L2, L3⟩ := lay_ran (C' := ConM P' fr) hX (uniq_one h hp) ho (nmM_nm 1) (nmM_cur _) (nmM_com _) (wholeB vStart)
      (fun f g hfg hf => (hfg _ (fun e => nmM_cur _ e.symm)).trans hf) (fun f g hfg hf => (hfg _ (fun e => com_cur e.symm)).trans hf)
      (fun f hf => .inl ⟨q1, hf⟩)
      (fun f f1 f2 => .inr ⟨1, wholeB vStart, _, _, by omega, Nat.le_refl 9, by omega, f1, f2, fun c hc => ⟨vStart, by
        rw [List.take_of_length_le hc]
        unfold wholeB
        rw [scan_all _ hfew]
        exact hmk, by
        rw [List.take_of_length_le hc]
        unfold wholeB
        rw [scan_all _ hfew]
        exact hwf, hS q1⟩⟩)
    have e0 : openM s = ((layM s (nmM 1) (wholeB vStart)).1, (layM s (nmM 1) (wholeB vStart)).2, if (layM s (nmM 1) (wholeB vStart)).2 = 0 then ⟨1, vStart⟩ else ⟨0, Vr.zero⟩) := by
      rw [e]; rfl
    rw [e0]
    refine ⟨L1, fun hz => ?_, L3⟩
    simp only at hz ⊢
    rw [if_pos hz]
    obtain ⟨l1, l2, l3, l4⟩ := L2 hz
    exact ⟨hS q1, [putE (wholeE vStart)], (wholeB vStart).length, ⟨held_of L1 l2 (Nat.le_refl 9) l3 l4, Nat.le_refl _, hmk, hfew, ⟨by show 1 < _; omega, vStart_right.1, vStart_right.2, by show (0 : Nat) ≤ _; omega, by decide⟩, hwf, Nat.le_trans hws (by omega)⟩, fun _ => hws⟩
  · have e : openM s = loadM s (nmM k) ⟨0, Vr.zero⟩ := by
      unfold openM
      rw [fv_read ho, q1]
      simp
    rw [e]
    have hH : Held s k b z := held_of h hp hy q1 q2
    have hPk : ∀ c, z ≤ c → ∃ v', replayM (scanF (b.take c)).1 = some v' ∧ FineR (scanF (b.take c)).1 ∧ P' k v' := fun c hc => by
      obtain ⟨v', a1, a3, a2⟩ := q3 c hc
      exact ⟨v', a1, a3, hPP _ _ a2⟩
    obtain ⟨v, hv1, hv3, hv2⟩ : ∃ v, replayM (scanF b).1 = some v ∧ FineR (scanF b).1 ∧ P k v := by
      obtain ⟨v, a1, a3, a2⟩ := q3 (max z b.length) (Nat.le_max_left _ _)
      rw [List.take_of_length_le (Nat.le_max_right _ _)] at a1 a3
      exact ⟨v, a1, a3, a2⟩
    obtain ⟨hFv, hmost⟩ := hF k v hv2
    rcases held_syncDir hH ho with ⟨d1, d2, d3, d4, d5⟩ | ⟨d1, d2, d3⟩
    rotate_left
    · have e1 : loadM s (nmM k) ⟨0, Vr.zero⟩ = (s.syncDir.1, s.syncDir.2, ⟨0, Vr.zero⟩) := by
        unfold loadM
        simp only
        rw [if_pos d1]
      rw [e1]
      exact ⟨d3.con hk fr hbl hPk, fun x => absurd x d1, fun _ => d2⟩
    have hrd : s.syncDir.1.read (nmM k) = (b, 0) := by rw [fv_read d2, d3.fil]
    obtain ⟨f1, f2, f3⟩ := scan_frames b.length b (Nat.le_refl _)
    have hle := (scanF_le b.length b (Nat.le_refl _)).1
    by_cases hj : (scanF b).2 < b.length
    · have e1 : loadM s (nmM k) ⟨0, Vr.zero⟩ = anewM s.syncDir.1 ⟨k, v⟩ v := by
        unfold loadM
        simp only
        rw [if_neg (by rw [d1]; simp), numM_of _ hk]
        simp only
        rw [hrd]
        simp only
        rw [if_neg (by simp), hv1]
        simp only
        rw [if_pos hj]
      rw [e1]
      obtain ⟨a1, a2, a3⟩ := anew_held d3 d2 v hFv hmost hbl hPk (hU k v hv2) fr
      refine ⟨a1, fun hz => ?_, fun hz => (a3 hz).2⟩
      obtain ⟨b1, b2⟩ := a2 hz
      rw [b1]
      exact ⟨hU k v hv2, _, _, b2, fun x => absurd hv2 (x k v)⟩
    · have hfb : frames (scanF b).1 = b := by rw [← f2, List.take_of_length_le (by omega)]
      have e1 : loadM s (nmM k) ⟨0, Vr.zero⟩ = ((s.syncDir.1.sync (nmM k)).1, (s.syncDir.1.sync (nmM k)).2, ⟨k, v⟩) := by
        unfold loadM
        simp only
        rw [if_neg (by rw [d1]; simp), numM_of _ hk]
        simp only
        rw [hrd]
        simp only
        rw [if_neg (by simp), hv1]
        simp only
        rw [if_neg hj]
      rw [e1]
      rcases held_sync d3 d2 with ⟨y1, y2, y3⟩ | ⟨y1, y2, y3⟩
      · have hM : HeldM (s.syncDir.1.sync (nmM k)).1 ⟨k, v⟩ (scanF b).1 b.length := ⟨by rw [hfb]; exact y3, by rw [hfb]; exact Nat.le_refl _, hv1, f3, hFv, hv3, by rw [hfb]; exact hbl⟩
        exact ⟨hM.con fr (hPP _ _ hv2), fun _ => ⟨hPP _ _ hv2, _, _, hM, fun x => absurd hv2 (x k v)⟩, fun x => absurd y1 x⟩
      · exact ⟨y3.con hk fr hbl hPk, fun x => absurd x y1, fun _ => y2⟩
/-- An edit more. -/
theorem add_held {m : Mf} {rs : List (List UInt8)} {e : Ed} (h : HeldM s m rs z) (ho : s.on = true) (hc : canB e = true) (ha : Applies m.v e) (h1 : e.add.length ≤ 10000) (h2 : e.drop.length ≤ 10000) (hl : (nextV m.v e).ts.length ≤ 10000) (hnx : (nextV m.v e).next < 100000000) (hrs : (frames rs).length ≤ 70000000)
    (hP0 : P' m.num m.v) (hP1 : P' m.num (nextV m.v e)) (hP2 : P' (nextV m.v e).next.toNat (nextV m.v e).up) (fr : Prop) :
    Sound (ConM P' fr) (addM s m false e).1 ∧
      ((addM s m false e).2.1 = 0 → (addM s m false e).2.2.2 = false ∧ ((addM s m false e).2.2.1 = ⟨m.num, nextV m.v e⟩ ∨ (addM s m false e).2.2.1 = ⟨(nextV m.v e).next.toNat, (nextV m.v e).up⟩) ∧ ∃ rs z, HeldM (addM s m false e).1 (addM s m false e).2.2.1 rs z ∧ (frames rs).length ≤ 7000000) ∧
      ((addM s m false e).2.1 ≠ 0 → (addM s m false e).1.on = false) := by
  have hfit := fits_of h.fit.right hc ha h1 h2
  have hmore := replayM_more h.make hfit ha
  have hfew : ∀ r ∈ rs ++ [putE e], r.length ≤ 16777216 := fun r hr => by
    rcases List.mem_append.1 hr with hr | hr
    · exact h.few r hr
    · rw [List.mem_singleton.1 hr]; exact putE_small hfit
  have hp3 := putE_len3 e hfit
  have hsz2 : (frames (rs ++ [putE e])).length ≤ 80000000 := by rw [frames_snoc, List.length_append, frm_length]; omega
  have hmany := frames_many rs
  have hfine : FineR (rs ++ [putE e]) := h.fine.more h.make hfit ha hl (by omega)
  have hfv : FitV m.num (nextV m.v e) := ⟨h.fit.num, ha.2, next_stands _ _, hl, by have := h.fit.lt; show (m.num : Int) < max m.v.next e.next; omega⟩
  obtain ⟨a1, a2, a3⟩ := held_append h.held ho (frames [putE e])
  rw [← frames_append] at a1
  have hcut : ∀ c, (frames rs).length ≤ c → ∃ v, replayM (scanF ((frames (rs ++ [putE e])).take c)).1 = some v ∧ FineR (scanF ((frames (rs ++ [putE e])).take c)).1 ∧ P' m.num v := fun c hc => by
    by_cases hcl : (frames (rs ++ [putE e])).length ≤ c
    · rw [List.take_of_length_le hcl, scan_all _ hfew]
      exact ⟨_, hmore, hfine, hP1⟩
    · have e1 : (frames (rs ++ [putE e])).take c = frames rs ++ (frm (putE e)).take (c - (frames rs).length) := by
        rw [frames_snoc, List.take_append, List.take_of_length_le hc]
      rw [frames_snoc, List.length_append, frm_length] at hcl
      have hx := cutF_cut (putE e) [] (c - (frames rs).length) (putE_small hfit) (by omega)
      rw [List.append_nil] at hx
      rw [e1, scan_app rs _ h.few hx]
      exact ⟨m.v, h.make, h.fine, hP0⟩
  have hsz : (frames rs).length ≤ z := h.syn
  have hadd : addM s m false e = ((addOn s m e).1, (addOn s m e).2.1, (addOn s m e).2.2, decide ((addOn s m e).2.1 ≠ 0)) := by
    unfold addM
    rw [if_neg (by simp), if_neg (by rw [hc]; simp), if_neg (by rw [appliesB_iff.2 ha]; simp)]
  rw [hadd]
  by_cases ea : (s.append (nmM m.num) (frames [putE e])).2 = 0
  rotate_left
  · have e0 : addOn s m e = ((s.append (nmM m.num) (frames [putE e])).1, (s.append (nmM m.num) (frames [putE e])).2, m) := by
      unfold addOn
      simp only
      rw [seqS_no ea, if_pos ea]
    rw [e0]
    exact ⟨a1.con h.fit.num fr (by omega) fun c hc => hcut c (Nat.le_trans hsz hc), fun x => absurd x ea, a3⟩
  have o1 := a2 ea
  generalize hs1 : (s.append (nmM m.num) (frames [putE e])).1 = s1 at *
  have hsq : seqS (s.append (nmM m.num) (frames [putE e])) (fun s => s.sync (nmM m.num)) = s1.sync (nmM m.num) := by rw [seqS_yes ea, hs1]
  rcases held_sync a1 o1 with ⟨y1, y2, y3⟩ | ⟨y1, y2, y3⟩
  rotate_left
  · have e0 : addOn s m e = ((s1.sync (nmM m.num)).1, (s1.sync (nmM m.num)).2, m) := by
      unfold addOn
      simp only
      rw [hsq, if_pos y1]
    rw [e0]
    exact ⟨y3.con h.fit.num fr (by omega) fun c hc => hcut c (Nat.le_trans hsz hc), fun x => absurd x y1, fun _ => y2⟩
  have hrd : (s1.sync (nmM m.num)).1.read (nmM m.num) = (frames (rs ++ [putE e]), 0) := by rw [fv_read y2, y3.fil]
  have hM : HeldM (s1.sync (nmM m.num)).1 ⟨m.num, nextV m.v e⟩ (rs ++ [putE e]) (frames (rs ++ [putE e])).length := ⟨y3, Nat.le_refl _, hmore, hfew, hfv, hfine, by omega⟩
  by_cases hlen : (frames (rs ++ [putE e])).length ≤ 20000
  · have e0 : addOn s m e = ((s1.sync (nmM m.num)).1, 0, ⟨m.num, nextV m.v e⟩) := by
      unfold addOn
      simp only
      rw [hsq, if_neg (by rw [y1]; simp), hrd]
      simp only
      rw [if_pos (.inr hlen)]
    rw [e0]
    exact ⟨hM.con fr hP1, fun _ => ⟨rfl, .inl rfl, _, _, hM, by omega⟩, fun x => absurd rfl x⟩
  · have e0 : addOn s m e = anewM (s1.sync (nmM m.num)).1 ⟨m.num, nextV m.v e⟩ (nextV m.v e) := by
      unfold addOn
      simp only
      rw [hsq, if_neg (by rw [y1]; simp), hrd]
      simp only
      rw [if_neg (by simp; omega)]
    rw [e0]
    obtain ⟨b1, b2, b3⟩ := anew_held y3 y2 (nextV m.v e) hfv hnx (by omega) (fun c hc => ⟨_, by rw [List.take_of_length_le hc, scan_all _ hfew]; exact hmore, by rw [List.take_of_length_le hc, scan_all _ hfew]; exact hfine, hP1⟩) hP2 fr
    refine ⟨b1, fun hz => ?_, fun hz => (b3 hz).2⟩
    obtain ⟨c1, c2⟩ := b2 hz
    exact ⟨decide_eq_false (fun x => x hz), .inr c1, _, _, by rw [c1]; exact c2, whole_size (v := (nextV m.v e).up) (up_right hfv.right hnx) hl⟩
end
end Go.Proofs.YtlecffpjcjlabaaGreat

namespace Go.Proofs.YtlecffpjcjlabaaGreat

/-- Two versions that are alike but for their next numbers, of which the first one's is no less. -/
structure Like (v u : Vr) : Prop where
  log : v.log = u.log
  seq : v.seq = u.seq
  ts : v.ts = u.ts
theorem Like.refl (v : Vr) : Like v v := ⟨rfl, rfl, rfl⟩
theorem Like.trans {a b c : Vr} (h : Like a b) (k : Like b c) : Like a c := ⟨h.log.trans k.log, h.seq.trans k.seq, h.ts.trans k.ts⟩
theorem Like.up (v : Vr) : Like v.up v := ⟨rfl, rfl, rfl⟩
theorem Like.next {v u : Vr} (h : Like v u) (e : Ed) : Like (nextV v e) (nextV u e) := by
  refine ⟨?_, ?_, ?_⟩
  · show max v.log e.log = max u.log e.log; rw [h.log]
  · show max v.seq e.seq = max u.seq e.seq; rw [h.seq]
  · show ordT (leftT v.ts e.drop ++ e.add) = ordT (leftT u.ts e.drop ++ e.add); rw [h.ts]
/-- With a greater next number a version is right as well. -/
theorem Like.right {v u : Vr} (h : Like v u) (hn : u.next ≤ v.next) (hm : v.next ≤ 100000000) (hr : RightV u) : RightV v := by
  obtain ⟨⟨h1, h2, h3, h4, h5⟩, ht, hp⟩ := hr
  refine ⟨⟨by rw [h.log]; exact h1, by rw [h.log]; exact h2, by omega, hm, by rw [h.seq]; exact h5⟩, fun t hh => ?_, by rw [h.ts]; exact hp⟩
  rw [h.ts] at hh
  have := ht t hh
  unfold TabOk at this ⊢
  omega
theorem Like.applies {v u : Vr} {e : Ed} (h : Like v u) (hn : u.next ≤ v.next) (hm : max v.next e.next ≤ 100000000) (ha : Applies u e) : Applies v e := by
  refine ⟨fun n hk => by rw [h.ts]; exact ha.1 n hk, (h.next e).right ?_ hm ha.2⟩
  show max u.next e.next ≤ max v.next e.next
  omega
/-- What a version may be that is found: like the last one, or the one under way; N bounds its next number. -/
def MayV (now nx : Vr) (N : Int) (k : Nat) (v : Vr) : Prop := FitV k v ∧ (Like v now ∨ Like v nx) ∧ now.next ≤ v.next ∧ v.next ≤ N
theorem MayV.up {now nx : Vr} {N : Int} {k : Nat} {v : Vr} (h : MayV now nx N k v) (hN : N < 100000000) : MayV now nx (N + 1) v.next.toNat v.up := by
  obtain ⟨h1, h2, h3, h4⟩ := h
  have h0 := h1.right.1
  refine ⟨⟨by omega, up_right h1.right (by omega), h1.stand, h1.few, by show ((v.next.toNat : Nat) : Int) < v.next + 1; omega⟩, h2.imp (fun x => (Like.up v).trans x) (fun x => (Like.up v).trans x), by show now.next ≤ v.next + 1; omega, by show v.next + 1 ≤ N + 1; omega⟩
theorem MayV.more {now nx : Vr} {N N' : Int} {k : Nat} {v : Vr} (h : MayV now nx N k v) (hN : N ≤ N') : MayV now nx N' k v := ⟨h.1, h.2.1, h.2.2.1, Int.le_trans h.2.2.2 hN⟩
/-- The power comes on again. -/
theorem sound_restore {C : View → Prop} {s : St} (h : Sound C s) : Sound C s.restore ∧ s.restore.on = true := ⟨⟨h.made, h.room, h.bad, h.coh, h.dir, h.con⟩, h.made⟩
theorem sound_fuse {C : View → Prop} {s : St} (h : Sound C s) (k : Int) : Sound C { s with fuse := k } := ⟨h.made, h.room, h.bad, h.coh, h.dir, h.con⟩
/-- Failed, on again, with a fuse. -/
def again (s : St) (dir : Int) (keep : List Int) : St := (s.crash dir keep).restore
theorem sound_again {P : Nat → Vr → Prop} {fr : Prop} {s : St} (h : Sound (ConM P fr) s) (dir : Int) (keep : List Int) : Sound (ConM P fr) (again s dir keep) ∧ (again s dir keep).pend = [] ∧ (again s dir keep).on = true := by
  obtain ⟨h1, h2⟩ := crash_sound h (fun f g hf hc => conM_cut hf hc) dir keep
  obtain ⟨h3, h4⟩ := sound_restore h1
  exact ⟨h3, h2, h4⟩
/-- With no fuse the power stays on. -/
def NoFuse (s : St) : Prop := s.on = true ∧ s.fuse = -1
def KeepsOn (act : St → St × Int) : Prop := ∀ s, (act s).1.on = s.on ∧ (act s).1.fuse = s.fuse
theorem NoFuse.begun {s : St} (h : NoFuse s) : NoFuse s.begun := by
  obtain ⟨h1, h2⟩ := h
  unfold NoFuse St.begun
  rw [h2]
  exact ⟨rfl, rfl⟩
theorem NoFuse.wr {s : St} {act : St → St × Int} (h : NoFuse s) (hk : KeepsOn act) : NoFuse (wr s act).1 := by
  have hb := h.begun
  unfold Go.Proofs.YtlecffpjcjlabaaGreat.wr
  rw [if_pos h.1]
  exact ⟨(hk _).1.trans hb.1, (hk _).2.trans hb.2⟩
theorem NoFuse.sy {s : St} {act : St → St × Int} (h : NoFuse s) (hk : KeepsOn act) : NoFuse (sy s act).1 := by
  have hb := h.begun
  unfold Go.Proofs.YtlecffpjcjlabaaGreat.sy
  rw [if_pos h.1, if_pos hb.1]
  split
  · exact hb
  · exact ⟨(hk _).1.trans hb.1, (hk _).2.trans hb.2⟩
theorem keeps_create (n : Nm) : KeepsOn (actCreate n) := fun s => by
  unfold actCreate
  repeat' split
  all_goals exact ⟨rfl, rfl⟩
theorem keeps_append (n : Nm) (d : List UInt8) : KeepsOn (actAppend n d) := fun s => by
  unfold actAppend
  repeat' split
  all_goals exact ⟨rfl, rfl⟩
theorem keeps_sync (n : Nm) : KeepsOn (actSync n) := fun s => by
  unfold actSync
  repeat' split
  all_goals exact ⟨rfl, rfl⟩
theorem keeps_rename (a b : Nm) : KeepsOn (actRename a b) := fun s => by
  unfold actRename
  repeat' split
  all_goals exact ⟨rfl, rfl⟩
theorem keeps_remove (n : Nm) : KeepsOn (actRemove n) := fun s => by
  unfold actRemove
  repeat' split
  all_goals exact ⟨rfl, rfl⟩
section
variable {s : St}
theorem NoFuse.create (h : NoFuse s) (n : Nm) : NoFuse (s.create n).1 := h.wr (keeps_create n)
theorem NoFuse.append (h : NoFuse s) (n : Nm) (d : List UInt8) : NoFuse (s.append n d).1 := h.wr (keeps_append n d)
theorem NoFuse.sync (h : NoFuse s) (n : Nm) : NoFuse (s.sync n).1 := h.sy (keeps_sync n)
theorem NoFuse.syncDir (h : NoFuse s) : NoFuse s.syncDir.1 := h.sy fun _ => ⟨rfl, rfl⟩
theorem NoFuse.rename (h : NoFuse s) (a b : Nm) : NoFuse (s.rename a b).1 := h.wr (keeps_rename a b)
theorem NoFuse.remove (h : NoFuse s) (n : Nm) : NoFuse (s.remove n).1 := h.wr (keeps_remove n)
theorem NoFuse.seq {r : St × Int} {g : St → St × Int} (h : NoFuse r.1) (hg : ∀ s, NoFuse s → NoFuse (g s).1) : NoFuse (seqS r g).1 := by
  unfold seqS
  split
  · exact hg _ h
  · exact h
theorem NoFuse.away (h : NoFuse s) (n : Nm) : NoFuse (awayM s n).1 := by
  unfold awayM
  split
  · exact h.remove n
  · exact h
theorem NoFuse.replace (h : NoFuse s) (n : Nm) (b : List UInt8) : NoFuse (replaceM s n b).1 :=
  (h.away n).seq fun _ h => (h.create n).seq fun _ h => (h.append n b).seq fun _ h => h.sync n
theorem NoFuse.lay (h : NoFuse s) (n : Nm) (b : List UInt8) : NoFuse (layM s n b).1 :=
  (h.replace n b).seq fun _ h => h.syncDir.seq fun _ h => (h.replace comN n).seq fun _ h => (h.rename comN curN).seq fun _ h => h.syncDir
theorem NoFuse.layV (h : NoFuse s) (num : Nat) (v : Vr) (m : Mf) : NoFuse (layV s num v m).1 := h.lay _ _
theorem NoFuse.anew (h : NoFuse s) (m : Mf) (v : Vr) : NoFuse (anewM s m v).1 := by
  unfold anewM
  split
  · exact h
  · simp only
    split
    · simp only
      split
      · exact h.layV _ _ _
      · exact (h.layV _ _ _).remove _
    · exact h.layV _ _ _
theorem NoFuse.open (h : NoFuse s) : NoFuse (openM s).1 := by
  unfold openM loadM
  repeat' (first | split | simp only)
  all_goals first | exact h | exact h.syncDir | exact h.layV _ _ _ | exact h.syncDir.anew _ _ | exact h.syncDir.sync _
end
theorem again_nofuse {s : St} (hm : s.made = true) (dir : Int) (keep : List Int) : NoFuse (again s dir keep) := ⟨hm, rfl⟩
/-- Behind two failures, an Open between them: what is found. -/
theorem found_again {P0 P1 P2 : Nat → Vr → Prop} {fr : Prop} {s : St} (h : Sound (ConM P0 fr) s) (dir dir2 again1 : Int) (keep keep2 : List Int) (hF0 : ∀ k v, P0 k v → FitV k v ∧ v.next < 100000000) (hF1 : ∀ k v, P1 k v → FitV k v ∧ v.next < 100000000)
    (h01 : ∀ k v, P0 k v → P1 k v) (h12 : ∀ k v, P1 k v → P2 k v) (hU0 : ∀ k v, P0 k v → P1 v.next.toNat v.up) (hU1 : ∀ k v, P1 k v → P2 v.next.toNat v.up) (hS1 : fr → P1 1 vStart) (hS2 : fr → P2 1 vStart) :
    (openM (again (openM { again s dir keep with fuse := again1 }).1 dir2 keep2)).2.1 = 0 ∧ P2 (openM (again (openM { again s dir keep with fuse := again1 }).1 dir2 keep2)).2.2.num (openM (again (openM { again s dir keep with fuse := again1 }).1 dir2 keep2)).2.2.v := by
  obtain ⟨a1, a2, a3⟩ := sound_again h dir keep
  obtain ⟨b1, -, -⟩ := open_held (P' := P1) (sound_fuse a1 again1) a2 a3 h01 hF0 hU0 hS1
  obtain ⟨c1, c2, c3⟩ := sound_again b1 dir2 keep2
  obtain ⟨-, d2, d3⟩ := open_held (P' := P2) c1 c2 c3 h12 hF1 hU1 hS2
  have hnf := (again_nofuse (s := (openM { again s dir keep with fuse := again1 }).1) b1.made dir2 keep2).open
  have h0 : (openM (again (openM { again s dir keep with fuse := again1 }).1 dir2 keep2)).2.1 = 0 := Classical.byContradiction fun hx => by
    have := d3 hx
    rw [hnf.1] at this
    cases this
  exact ⟨h0, (d2 h0).1⟩
end Go.Proofs.YtlecffpjcjlabaaGreat

namespace Go.Proofs.YtlecffpjcjlabaaGreat

/-- A manifest that goes on: its version is like the one that is told, its next number no less. -/
structure WholeI (now : Vr) (N : Int) (T : Nat) (s : St) (m : Mf) (rs : List (List UInt8)) (z : Nat) : Prop where
  held : HeldM s m rs z
  like : Like m.v now
  low : now.next ≤ m.v.next
  high : m.v.next ≤ N
  few : m.v.ts.length ≤ T
  size : (frames rs).length ≤ 7000000
section
variable {now : Vr} {N : Int} {T : Nat} {s : St} {m : Mf} {rs : List (List UInt8)} {z : Nat}
theorem WholeI.may (h : WholeI now N T s m rs z) (nx : Vr) : MayV now nx N m.num m.v := ⟨h.held.fit, .inl h.like, h.low, h.high⟩
theorem WholeI.sound (h : WholeI now N T s m rs z) (nx : Vr) (fr : Prop) : Sound (ConM (MayV now nx N) fr) s := h.held.con fr (h.may nx)
theorem WholeI.step (h : WholeI now N T s m rs z) (ho : s.on = true) {e : Ed} (hc : canB e = true) (ha : Applies now e) (h1 : e.add.length ≤ 40) (h2 : e.drop.length ≤ 10000) (hT : T ≤ 9000) (hN0 : 1000000 ≤ N) (hN : N ≤ 50000000) (he : e.next ≤ 1000000) :
    Sound (ConM (MayV now (nextV now e) (N + 1)) False) (addM s m false e).1 ∧
      ((addM s m false e).2.1 = 0 → (addM s m false e).2.2.2 = false ∧ ∃ rs' z', WholeI (nextV now e) (N + 1) (T + 40) (addM s m false e).1 (addM s m false e).2.2.1 rs' z') ∧
      ((addM s m false e).2.1 ≠ 0 → (addM s m false e).1.on = false) := by
  have hlow := h.low
  have hhigh := h.high
  have hfew := h.few
  have hmx : max m.v.next e.next ≤ N := by omega
  have hap : Applies m.v e := h.like.applies hlow (by omega) ha
  have hlk : Like (nextV m.v e) (nextV now e) := h.like.next e
  have hnl := next_len m.v e
  have hnn : (nextV m.v e).next = max m.v.next e.next := rfl
  have hno : (nextV now e).next = max now.next e.next := rfl
  have hfit : FitV m.num (nextV m.v e) := ⟨h.held.fit.num, hap.2, next_stands _ _, by omega, by have := h.held.fit.lt; rw [hnn]; omega⟩
  have h0 := hap.2.1
  have hfu : FitV (nextV m.v e).next.toNat (nextV m.v e).up := ⟨by omega, up_right hap.2 (by omega), next_stands _ _, by show (nextV m.v e).ts.length ≤ _; omega, by show (((nextV m.v e).next.toNat : Nat) : Int) < (nextV m.v e).next + 1; omega⟩
  obtain ⟨a1, a2, a3⟩ := add_held (P' := MayV now (nextV now e) (N + 1)) h.held ho hc hap (by omega) h2 (by omega) (by omega) (Nat.le_trans h.size (by omega))
    ((h.may _).more (by omega))
    ⟨hfit, .inr hlk, by omega, by omega⟩
    ⟨hfu, .inr ((Like.up _).trans hlk), by show now.next ≤ (nextV m.v e).next + 1; omega, by show (nextV m.v e).next + 1 ≤ N + 1; omega⟩ False
  refine ⟨a1, fun hz => ?_, a3⟩
  obtain ⟨b1, b2, rs', z', b3, b4⟩ := a2 hz
  refine ⟨b1, rs', z', b3, ?_, ?_, ?_, ?_, b4⟩
  all_goals clear b4 a2
  · rcases b2 with b2 | b2 <;> rw [b2]
    · exact hlk
    · exact (Like.up _).trans hlk
  · rcases b2 with b2 | b2 <;> rw [b2]
    · show (nextV now e).next ≤ (nextV m.v e).next; omega
    · show (nextV now e).next ≤ (nextV m.v e).next + 1; omega
  · rcases b2 with b2 | b2 <;> rw [b2]
    · show (nextV m.v e).next ≤ N + 1; omega
    · show (nextV m.v e).next + 1 ≤ N + 1; omega
  · rcases b2 with b2 | b2 <;> rw [b2]
    · show (nextV m.v e).ts.length ≤ T + 40; omega
    · show (nextV m.v e).ts.length ≤ T + 40; omega
/-- Opened first, the power failing or not. -/
theorem whole_start (k : Int) : (∃ C, Sound (ConM C True) (openM { St.new 0 with fuse := k }).1 ∧ (∀ j v, C j v → v = vStart ∧ FitV j v)) ∧
    ((openM { St.new 0 with fuse := k }).2.1 = 0 → ∃ rs z, WholeI vStart 1000000 0 (openM { St.new 0 with fuse := k }).1 (openM { St.new 0 with fuse := k }).2.2 rs z) ∧ ((openM { St.new 0 with fuse := k }).2.1 ≠ 0 → (openM { St.new 0 with fuse := k }).1.on = false) := by
  have hS : Sound (ConM (fun _ _ => False) True) { St.new 0 with fuse := k } := by
    have hv : ∀ j, ({ St.new 0 with fuse := k } : St).pre j = [] := fun j => by unfold St.pre St.new; simp [redo]
    refine ⟨rfl, rfl, rfl, rfl, fun j => ?_, fun j => .inl ⟨trivial, ?_⟩⟩
    · rw [hv]; exact ⟨(fun p hp => by cases hp), (fun p hp => by cases hp), List.Pairwise.nil⟩
    · rw [hv]; rfl
  have hfv : FitV 1 vStart := ⟨by omega, vStart_right.1, vStart_right.2, Nat.zero_le _, by decide⟩
  obtain ⟨a1, a2, a3⟩ := open_held (P' := fun j v => v = vStart ∧ FitV j v) hS rfl rfl (fun _ _ h => h.elim) (fun _ _ h => h.elim) (fun _ _ h => h.elim) (fun _ => ⟨rfl, hfv⟩)
  refine ⟨⟨_, a1, fun j v h => h⟩, fun hz => ?_, a3⟩
  obtain ⟨⟨b1, -⟩, rs, z, b2, b3⟩ := a2 hz
  exact ⟨rs, z, b2, by rw [b1]; exact Like.refl _, by rw [b1]; exact Int.le_refl _, by rw [b1]; decide, by rw [b1]; exact Nat.le_refl _, b3 fun _ _ h => h⟩
end
end Go.Proofs.YtlecffpjcjlabaaGreat

namespace Go.Proofs.YtlecffpjcjlabaaGreat

/-- Files behind a failure may be opened. -/
theorem goodO_con {P : Nat → Vr → Prop} {fr : Prop} {s : St} (h : Sound (ConM P fr) s) (ho : s.on = true) (hF : ∀ k v, P k v → FitV k v ∧ v.next < 100000000) : GoodO 7000000 s := by
  refine ⟨whole_size vStart_right.1 (Nat.zero_le _), fun name b hr => ?_⟩
  rcases h.now_con with ⟨-, q2⟩ | ⟨k, b', y, z, hk, hy, hb, q1, q2, q3⟩
  · rw [fv_read ho, q2] at hr
    simp at hr
  · rw [fv_read ho, q1] at hr
    simp only at hr
    obtain ⟨rfl, -⟩ := Prod.mk.inj hr
    refine ⟨show (9 : Nat) ≤ _ by omega, fun hb2 _ => ?_⟩
    obtain ⟨R, -⟩ := syncDir_ran h ho
    by_cases e : s.syncDir.2 = 0
    · obtain ⟨o1, -, v1⟩ := R.go e
      rw [fv_read o1, v1, q2] at hb2
      simp only at hb2
      obtain ⟨rfl, -⟩ := Prod.mk.inj hb2
      obtain ⟨v, a1, a2, a3⟩ := q3 (max z b'.length) (Nat.le_max_left _ _)
      rw [List.take_of_length_le (Nat.le_max_right _ _)] at a1 a2
      refine ⟨by omega, a2, fun u hu => ?_⟩
      obtain rfl := Option.some.inj (a1.symm.trans hu)
      obtain ⟨hf, hn⟩ := hF k v a3
      exact ⟨hf.few, whole_size (up_right hf.right hn) hf.few⟩
    · have ho1 := R.off e
      unfold St.read at hb2
      rw [ho1] at hb2
      simp at hb2
section
variable {P0 P1 P2 : Nat → Vr → Prop} {fr : Prop} {s : St}
/-- Behind two failures, an Open between them. -/
theorem found_all (h : Sound (ConM P0 fr) s) (dir dir2 again1 : Int) (keep keep2 : List Int) (hF0 : ∀ k v, P0 k v → FitV k v ∧ v.next < 100000000) (hF1 : ∀ k v, P1 k v → FitV k v ∧ v.next < 100000000)
    (h01 : ∀ k v, P0 k v → P1 k v) (h12 : ∀ k v, P1 k v → P2 k v) (hU0 : ∀ k v, P0 k v → P1 v.next.toNat v.up) (hU1 : ∀ k v, P1 k v → P2 v.next.toNat v.up) (hS1 : fr → P1 1 vStart) (hS2 : fr → P2 1 vStart) :
    GoodO 7000000 { again s dir keep with fuse := again1 } ∧ ((openM { again s dir keep with fuse := again1 }).2.1 = 0 → (openM { again s dir keep with fuse := again1 }).2.2.v.ts.length ≤ 10000) ∧
      GoodO 7000000 (again (openM { again s dir keep with fuse := again1 }).1 dir2 keep2) ∧ (openM (again (openM { again s dir keep with fuse := again1 }).1 dir2 keep2)).2.1 = 0 ∧
      P2 (openM (again (openM { again s dir keep with fuse := again1 }).1 dir2 keep2)).2.2.num (openM (again (openM { again s dir keep with fuse := again1 }).1 dir2 keep2)).2.2.v := by
  obtain ⟨a1, a2, a3⟩ := sound_again h dir keep
  have a4 := sound_fuse a1 again1
  obtain ⟨b1, b2, -⟩ := open_held (P' := P1) a4 a2 a3 h01 hF0 hU0 hS1
  obtain ⟨c1, c2, c3⟩ := sound_again b1 dir2 keep2
  obtain ⟨d1, d2⟩ := found_again h dir dir2 again1 keep keep2 hF0 hF1 h01 h12 hU0 hU1 hS1 hS2
  exact ⟨goodO_con a4 a3 hF0, fun hz => (hF1 _ _ (b2 hz).1).1.few, goodO_con c1 c3 hF1, d1, d2⟩
end
/-- Behind the loop. -/
theorem whole_found {now nx : Vr} {N : Int} {s : St} (hN : N ≤ 50000000) (h : Sound (ConM (MayV now nx N) False) s) (dir dir2 again1 : Int) (keep keep2 : List Int) :
    GoodO 7000000 { again s dir keep with fuse := again1 } ∧ ((openM { again s dir keep with fuse := again1 }).2.1 = 0 → (openM { again s dir keep with fuse := again1 }).2.2.v.ts.length ≤ 10000) ∧
      GoodO 7000000 (again (openM { again s dir keep with fuse := again1 }).1 dir2 keep2) ∧ (openM (again (openM { again s dir keep with fuse := again1 }).1 dir2 keep2)).2.1 = 0 ∧
      MayV now nx (N + 2) (openM (again (openM { again s dir keep with fuse := again1 }).1 dir2 keep2)).2.2.num (openM (again (openM { again s dir keep with fuse := again1 }).1 dir2 keep2)).2.2.v :=
  found_all (P1 := MayV now nx (N + 1)) (P2 := MayV now nx (N + 2)) h dir dir2 again1 keep keep2 (fun k v hv => ⟨hv.1, by have := hv.2.2.2; omega⟩) (fun k v hv => ⟨hv.1, by have := hv.2.2.2; omega⟩)
    (fun k v hv => hv.more (by omega)) (fun k v hv => hv.more (by omega)) (fun k v hv => hv.up (by omega)) (fun k v hv => by
      have := hv.up (by omega)
      rwa [Int.add_assoc] at this) False.elim False.elim
/-- Where it is not known whether it was made. -/
def FirstV (N : Int) (k : Nat) (v : Vr) : Prop := FitV k v ∧ v.ts = [] ∧ 2 ≤ v.next ∧ v.next ≤ N
theorem FirstV.up {N : Int} {k : Nat} {v : Vr} (h : FirstV N k v) (hN : N < 100000000) : FirstV (N + 1) v.next.toNat v.up := by
  obtain ⟨h1, h2, h3, h4⟩ := h
  exact ⟨⟨by omega, up_right h1.right (by omega), h1.stand, h1.few, by show ((v.next.toNat : Nat) : Int) < v.next + 1; omega⟩, h2, by show 2 ≤ v.next + 1; omega, by show v.next + 1 ≤ N + 1; omega⟩
theorem FirstV.more {N M : Int} {k : Nat} {v : Vr} (h : FirstV N k v) (hN : N ≤ M) : FirstV M k v := ⟨h.1, h.2.1, h.2.2.1, Int.le_trans h.2.2.2 hN⟩
theorem firstV_start (N : Int) (hN : 2 ≤ N) : FirstV N 1 vStart := ⟨⟨by omega, vStart_right.1, vStart_right.2, Nat.zero_le _, by decide⟩, rfl, by decide, hN⟩
theorem first_found {C : Nat → Vr → Prop} {s : St} (h : Sound (ConM C True) s) (hC : ∀ j v, C j v → v = vStart ∧ FitV j v) (dir dir2 again1 : Int) (keep keep2 : List Int) :
    GoodO 7000000 { again s dir keep with fuse := again1 } ∧ ((openM { again s dir keep with fuse := again1 }).2.1 = 0 → (openM { again s dir keep with fuse := again1 }).2.2.v.ts.length ≤ 10000) ∧
      GoodO 7000000 (again (openM { again s dir keep with fuse := again1 }).1 dir2 keep2) ∧ (openM (again (openM { again s dir keep with fuse := again1 }).1 dir2 keep2)).2.1 = 0 ∧
      FirstV 4 (openM (again (openM { again s dir keep with fuse := again1 }).1 dir2 keep2)).2.2.num (openM (again (openM { again s dir keep with fuse := again1 }).1 dir2 keep2)).2.2.v := by
  have h0 : ∀ k v, C k v → FirstV 2 k v := fun k v hv => by
    obtain ⟨rfl, hf⟩ := hC k v hv
    exact ⟨hf, rfl, by decide, by decide⟩
  exact found_all (P1 := FirstV 3) (P2 := FirstV 4) (h.mono fun f hf => conM_mono hf h0 fun x => x) dir dir2 again1 keep keep2 (fun k v hv => ⟨hv.1, by have := hv.2.2.2; omega⟩) (fun k v hv => ⟨hv.1, by have := hv.2.2.2; omega⟩)
    (fun k v hv => hv.more (by omega)) (fun k v hv => hv.more (by omega)) (fun k v hv => hv.up (by omega)) (fun k v hv => hv.up (by omega)) (fun _ => firstV_start 3 (by omega)) (fun _ => firstV_start 4 (by omega))
end Go.Proofs.YtlecffpjcjlabaaGreat
