/- Joined: DFD DFE DFF DFG. -/
import Derived.Test.YtfndlfnlepndmaaGreatDFBC
import Derived.Test.YtfndlfnlepndmaaGreatDFA
import Derived.Test.YtfndlfnlepndmaaGreatDF1
import Derived.Test.YtfndlfnlepndmaaGreatWH
namespace Go.Proofs.YtfndlfnlepndmaaGreat
open Go.RowKit

theorem SameUp.wf {r s : St} {f : Nat → Nat} (h : SameUp r s f) (hs : WF s) : WF r := by
  have hin : ∀ j ∈ oldIds s, f j < r.files.length := fun j hj => (h.files.atf j hj).2.1
  have hnow : ∀ p ∈ r.now, ∃ p0 ∈ s.now, p = (p0.1, f p0.2) := fun p hp => by
    rw [← h.now] at hp
    obtain ⟨p0, h0, e⟩ := List.mem_map.1 hp
    exact ⟨p0, h0, e.symm⟩
  have hlast : ∀ p ∈ r.last, ∃ p0 ∈ s.last, p = (p0.1, f p0.2) := fun p hp => by
    rw [← h.last] at hp
    obtain ⟨p0, h0, e⟩ := List.mem_map.1 hp
    exact ⟨p0, h0, e.symm⟩
  refine ⟨fun p hp => ?_, fun p hp => ?_, fun p hp => ?_, fun c hc i hi => ?_, fun p hp => ?_, fun c hc => ?_⟩
  · obtain ⟨p0, h0, rfl⟩ := hnow p hp
    exact hin _ (h.nowids _ (List.mem_map.2 ⟨p0, h0, rfl⟩))
  · obtain ⟨p0, h0, rfl⟩ := hnow p hp
    exact hs.nnms p0 h0
  · obtain ⟨p0, h0, rfl⟩ := hlast p hp
    exact hin _ (List.mem_append_left _ (List.mem_map.2 ⟨p0, h0, rfl⟩))
  · rw [← h.pend] at hc
    obtain ⟨c0, h0, rfl⟩ := List.mem_map.1 hc
    cases hm : c0.made with
    | none => simp [Chg.map, hm] at hi
    | some j =>
      have : f j = i := by simpa [Chg.map, hm] using hi
      rw [← this]
      exact hin _ (List.mem_append_right _ (List.mem_filterMap.2 ⟨c0, h0, hm⟩))
  · obtain ⟨p0, h0, rfl⟩ := hlast p hp
    exact hs.nms p0 h0
  · rw [← h.pend] at hc
    obtain ⟨c0, h0, rfl⟩ := List.mem_map.1 hc
    exact hs.cnms c0 h0
theorem FilOk.wr {s : St} {act : St → St × Int} (h : FilOk s.files) (ha : ∀ t : St, FilOk t.files → FilOk (act t).1.files) : FilOk (wr s act).1.files := by
  unfold Go.Proofs.YtfndlfnlepndmaaGreat.wr
  split
  · exact ha _ h
  · exact h
theorem FilOk.sy {s : St} {act : St → St × Int} (h : FilOk s.files) (ha : ∀ t : St, FilOk t.files → FilOk (act t).1.files) : FilOk (sy s act).1.files := by
  unfold Go.Proofs.YtfndlfnlepndmaaGreat.sy
  split
  · split
    · split
      · exact h
      · exact ha _ h
    · exact h
  · exact h
theorem FilOk.at {F : List Fil} (h : FilOk F) (i : Nat) : (F.getD i nofil).syn ≤ (F.getD i nofil).b.length := by
  rw [List.getD_eq_getElem?_getD]
  cases e : F[i]? with
  | none => exact Nat.le_refl _
  | some f => exact h f (List.mem_of_getElem? e)
theorem FilOk.create {s : St} (h : FilOk s.files) (n : Nm) : FilOk (s.create n).1.files := h.wr fun t ht => by
  unfold actCreate
  split
  · split
    · exact ht
    · intro f hf
      rcases List.mem_append.1 hf with h1 | h1
      · exact ht f h1
      · have : f = ⟨[], 0⟩ := by simpa using h1
        rw [this]
        exact Nat.le_refl _
  · exact ht
theorem FilOk.append {s : St} (h : FilOk s.files) (n : Nm) (d : List UInt8) : FilOk (s.append n d).1.files := h.wr fun t ht => by
  unfold actAppend
  split
  · exact ht
  · split
    · exact ht
    · refine ht.set _ ?_
      show _ ≤ (_ ++ d).length
      rw [List.length_append]
      exact Nat.le_trans (ht.at _) (Nat.le_add_right _ _)
theorem FilOk.sync {s : St} (h : FilOk s.files) (n : Nm) : FilOk (s.sync n).1.files := h.sy fun t ht => by
  unfold actSync
  split
  · exact ht
  · exact ht.set _ (Nat.le_refl _)
theorem FilOk.syncDir {s : St} (h : FilOk s.files) : FilOk s.syncDir.1.files := h.sy fun _ ht => ht
theorem FilOk.rename {s : St} (h : FilOk s.files) (a b : Nm) : FilOk (s.rename a b).1.files := h.wr fun t ht => by
  unfold actRename
  split
  · split
    · split
      · exact ht
      · exact ht
    · exact ht
  · exact ht
theorem FilOk.remove {s : St} (h : FilOk s.files) (a : Nm) : FilOk (s.remove a).1.files := h.wr fun t ht => by
  unfold actRemove
  split
  · exact ht
  · exact ht
theorem FilOk.cuts : ∀ (d : Dir) (ks : List Int) (F : List Fil), FilOk F → FilOk (cuts F d ks)
  | [], _, _, h => h
  | p :: d, ks, F, h => FilOk.cuts d ks.tail _ (h.set p.2 (by
      obtain ⟨h1, h2, -⟩ := cut_len (F.getD p.2 nofil) (ks.headD 0) (h.at p.2)
      omega))
theorem FilOk.crash {s : St} (h : FilOk s.files) (dir : Int) (ks : List Int) : FilOk (s.crash dir ks).files := FilOk.cuts _ _ _ h

/-- The document's state, and the program's that is the same up to the files' numbers. -/
structure Pair2 (n m : Nat) (s r : St) : Prop where
  up : ∃ f, SameUp r s f
  lim : Lim n m r
  coh : Coh r
  ok : FilOk r.files
theorem Pair2.doc {n m : Nat} {s r : St} (h : Pair2 n m s r) (hs : WF s) : DocOk n m r := by
  obtain ⟨f, hf⟩ := h.up
  exact ⟨h.lim, hf.wf hs, h.coh.now⟩
theorem Lim.up2 {n m n' m' : Nat} {s : St} (h : Lim n m s) (hn : n ≤ n') (hm : m ≤ m') : Lim n' m' s := h.up hn hm
section
variable {n m : Nat} {s r : St}
theorem Pair2.create (h : Pair2 n m s r) (a : Nm) : Pair2 (n + 2) m (s.create a).1 (r.create a).1 ∧ (r.create a).2 = (s.create a).2 := by
  obtain ⟨f, hf⟩ := h.up
  obtain ⟨h1, h2⟩ := hf.create a
  exact ⟨⟨h1, create_lim h.lim a, create_coh h.coh a, h.ok.create a⟩, h2⟩
theorem Pair2.append (h : Pair2 n m s r) (a : Nm) (d : List UInt8) : Pair2 (n + 2) (m + d.length) (s.append a d).1 (r.append a d).1 ∧ (r.append a d).2 = (s.append a d).2 := by
  obtain ⟨f, hf⟩ := h.up
  obtain ⟨h1, h2⟩ := hf.append a d
  exact ⟨⟨h1, (append_lim h.lim a d).up (by omega) (Nat.le_refl _), append_coh h.coh a d, h.ok.append a d⟩, h2⟩
theorem Pair2.sync (h : Pair2 n m s r) (a : Nm) : Pair2 (n + 2) m (s.sync a).1 (r.sync a).1 ∧ (r.sync a).2 = (s.sync a).2 := by
  obtain ⟨f, hf⟩ := h.up
  obtain ⟨h1, h2⟩ := hf.sync a
  exact ⟨⟨h1, (sync_lim h.lim a).up (by omega) (Nat.le_refl _), sync_coh h.coh a, h.ok.sync a⟩, h2⟩
theorem Pair2.syncDir (h : Pair2 n m s r) : Pair2 (n + 2) m s.syncDir.1 r.syncDir.1 ∧ r.syncDir.2 = s.syncDir.2 := by
  obtain ⟨f, hf⟩ := h.up
  obtain ⟨h1, h2⟩ := hf.syncDir
  exact ⟨⟨h1, (syncDir_lim h.lim).up (by omega) (Nat.le_refl _), syncDir_coh h.coh, h.ok.syncDir⟩, h2⟩
theorem Pair2.rename (h : Pair2 n m s r) (hs : WF s) (a b : Nm) : Pair2 (n + 2) m (s.rename a b).1 (r.rename a b).1 ∧ (r.rename a b).2 = (s.rename a b).2 := by
  obtain ⟨f, hf⟩ := h.up
  obtain ⟨h1, h2⟩ := hf.rename a b
  exact ⟨⟨h1, rename_lim h.lim a b, rename_coh h.coh (hf.wf hs).nnms a b, h.ok.rename a b⟩, h2⟩
theorem Pair2.remove (h : Pair2 n m s r) (a : Nm) : Pair2 (n + 2) m (s.remove a).1 (r.remove a).1 ∧ (r.remove a).2 = (s.remove a).2 := by
  obtain ⟨f, hf⟩ := h.up
  obtain ⟨h1, h2⟩ := hf.remove a
  exact ⟨⟨h1, remove_lim h.lim a, remove_coh h.coh a, h.ok.remove a⟩, h2⟩
theorem Pair2.crash (h : Pair2 n m s r) (dir : Int) (ks : List Int) : Pair2 n m (s.crash dir ks) (r.crash dir ks) := by
  obtain ⟨f, hf⟩ := h.up
  exact ⟨⟨f, hf.crash dir ks⟩, crash_lim h.lim dir ks, crash_coh r dir ks, h.ok.crash dir ks⟩
theorem Pair2.restore (h : Pair2 n m s r) : Pair2 n m s.restore r.restore := by
  obtain ⟨f, hf⟩ := h.up
  exact ⟨⟨f, hf.restore⟩, restore_lim h.lim, restore_coh h.coh, h.ok⟩
theorem Pair2.fuse (h : Pair2 n m s r) (k : Int) (hk : k ≤ 9223372036854775807) : Pair2 n m { s with fuse := k } { r with fuse := max k (-1) } := by
  obtain ⟨f, hf⟩ := h.up
  exact ⟨⟨f, hf.setFuse k⟩, ⟨h.lim.s0, h.lim.s1, h.lim.dirs, h.lim.nowl, h.lim.files, h.lim.bytes, by show max k (-1) ≤ _; omega, h.lim.bad, h.lim.room⟩, h.coh.of rfl rfl rfl, h.ok⟩
theorem Pair2.bad (h : Pair2 n m s r) (k : Int) (hk : k ≤ 9223372036854775807) : Pair2 n m { s with bad := k } { r with bad := max k (-1) } := by
  obtain ⟨f, hf⟩ := h.up
  exact ⟨⟨f, hf.setBad k⟩, ⟨h.lim.s0, h.lim.s1, h.lim.dirs, h.lim.nowl, h.lim.files, h.lim.bytes, h.lim.fuse, by show max k (-1) ≤ _; omega, h.lim.room⟩, h.coh.of rfl rfl rfl, h.ok⟩
theorem Pair2.start (room : Int) (hr : room ≤ 9223372036854775807) : Pair2 0 0 (St.new room) (St.new room) :=
  ⟨⟨id, SameUp.start room⟩, ⟨Int.le_refl _, Int.le_refl _, Nat.le_refl _, Nat.le_refl _, Nat.le_refl _, fun _ hf => (by cases hf), (by show (-1 : Int) ≤ _; omega), (by show (-1 : Int) ≤ _; omega), hr⟩, ⟨trivial, rfl⟩, fun _ hf => (by cases hf)⟩
theorem Pair2.twin {s' : St} {g : Nat → Nat} (h : Pair2 n m s r) (ht : TwinOf s s' g) (hc : Coh s) : Pair2 n m s' r := by
  obtain ⟨f, hf⟩ := h.up
  exact ⟨⟨_, hf.twin ht hc⟩, h.lim, h.coh, h.ok⟩
theorem Pair2.more {n' m' : Nat} (h : Pair2 n m s r) (hn : n ≤ n') (hm : m ≤ m') : Pair2 n' m' s r := ⟨h.up, h.lim.up hn hm, h.coh, h.ok⟩
end
end Go.Proofs.YtfndlfnlepndmaaGreat

namespace Go.Proofs.YtfndlfnlepndmaaGreat
open Go.RowKit

theorem Hs.wf {F : Nat → Prop} {B p n m : Nat} {s : St} {w : World} (h : Hs F B p n m s w) : WF s := by
  obtain ⟨r, h1, -⟩ := h
  exact h1.wf
theorem Hs.coh {F : Nat → Prop} {B p n m : Nat} {s : St} {w : World} (h : Hs F B p n m s w) : Coh s := by
  obtain ⟨r, -, -, -, -, h5, -⟩ := h
  exact h5
/-- One block of F was written. -/
theorem Hs.turnq {F G : Nat → Prop} {B p n m : Nat} {s : St} {w w' : World} (h : Hs F B p n m s w) {q : Nat} (hq : F q) (ht : Turn [q] w w') (hG : ∀ k, G k → F k ∨ (w.heap.size ≤ k ∧ k < w'.heap.size)) : Hs G B p n m s w' := by
  obtain ⟨r, h1, h2, h3, h4, h5, h6⟩ := h
  refine ⟨r, h1.kept (fun k hm => ht.block k (h1.lt k hm) (fun e => by
    have e' : k = q := by simpa using e
    exact (h6 q hq).1 (e' ▸ hm))), h2, h3, h4, h5, fun k hk => ?_⟩
  rcases hG k hk with hf | ⟨ha, hc⟩
  · exact ⟨(h6 k hf).1, Nat.lt_of_lt_of_le (h6 k hf).2 ht.size⟩
  · exact ⟨fun hm => by have := h1.lt k hm; omega, hc⟩
/-- The program's System at p and the document's at q, beside the blocks F. -/
def Fx (F : Nat → Prop) (q : Nat) (x : RefV) : Nat → Prop := fun k => F k ∨ k = q ∨ k ∈ x.foot
structure Two (F : Nat → Prop) (B p q n m : Nat) (s r : St) (w : World) : Prop where
  lay : ∃ x, Hs (Fx F q x) B p n m s w ∧ RefAt w q r x ∧ ∀ k, F k → k ∉ x.foot
  pair : Pair2 n m s r
  hq : B ≤ q
  nq : ∀ k, F k → k ≠ q
section
variable {F G : Nat → Prop} {B p q n m n' m' : Nat} {s r s' r' : St} {w w' : World}
theorem Two.below (h : Two F B p q n m s r w) (hb : Below w.heap.size w w') (hG : ∀ k, G k → F k ∨ (w.heap.size ≤ k ∧ k < w'.heap.size)) : Two G B p q n m s r w' := by
  obtain ⟨⟨x, h1, h2, h6⟩, h3, h4, h5⟩ := h
  refine ⟨⟨x, h1.below hb fun k hk => ?_, h2.below hb, fun k hk hm => ?_⟩, h3, h4, fun k hk e => ?_⟩
  · rcases hk with hk | hk
    · rcases hG k hk with h' | h'
      · exact .inl (.inl h')
      · exact .inr h'
    · exact .inl (.inr hk)
  · rcases hG k hk with h' | h'
    · exact h6 k h' hm
    · have := h2.foot_lt k hm
      omega
  · rcases hG k hk with h' | h'
    · exact h5 k h' e
    · have := h2.lt
      omega
theorem Two.same (h : Two F B p q n m s r w) (hb : Below w.heap.size w w') : Two F B p q n m s r w' := h.below hb fun _ hk => .inl hk
theorem Two.fewer (h : Two F B p q n m s r w) (hG : ∀ k, G k → F k) : Two G B p q n m s r w := h.below (Below.refl _ _) fun k hk => .inl (hG k hk)
theorem Two.up (h : Two F B p q n m s r w) (hn : n ≤ n') (hm : m ≤ m') : Two F B p q n' m' s r w := by
  obtain ⟨⟨x, h1, h2, h6⟩, h3, h4, h5⟩ := h
  exact ⟨⟨x, h1.up hn hm, h2, h6⟩, h3.more hn hm, h4, h5⟩
theorem Two.size (h : Two F B p q n m s r w) : B ≤ w.heap.size := by
  obtain ⟨⟨x, h1, h2, h6⟩, h3, h4, h5⟩ := h
  exact h1.size
theorem Two.lt (h : Two F B p q n m s r w) : ∀ k, F k → k < w.heap.size := by
  obtain ⟨⟨x, h1, h2, h6⟩, h3, h4, h5⟩ := h
  exact fun k hk => h1.lt k (.inl hk)
theorem kept_of_kp {x : RefV} (h : RefAt w q r x) (hk : Kp (Fx F q x) w w') : RefAt w' q r x := h.kept (hk q (.inr (.inl rfl))) fun k hf => hk k (.inr (.inr hf))
/-- What stands behind a call on the document's alone. -/
theorem Two.ref {w1 w2 : World} {x : RefV} (h1 : Hs (Fx F q x) B p n m s w1) (hq : B ≤ q) (hnq : ∀ k, F k → k ≠ q) (hnf : ∀ k, F k → k ∉ x.foot) (hn : NextR w1 q x r' w2) (hp : Pair2 n m s r') : Two F B p q n m s r' w2 ∧ Kp F w1 w2 ∧ Below B w1 w2 := by
  obtain ⟨y, h2, h3, h4⟩ := hn
  have hlt := h1.lt
  refine ⟨⟨⟨y, h1.turnq (.inr (.inl rfl)) h3 fun k hk => ?_, h2, fun k hk hm => (h4 k hm).elim (hnf k hk) fun h' => by have := hlt k (.inl hk); omega⟩, hp, hq, hnq⟩, fun k hk => h3.block k (hlt k (.inl hk)) (by simpa using hnq k hk), h3.below h1.size (by simpa using hq)⟩
  rcases hk with hk | hk | hk
  · exact .inl (.inl hk)
  · exact .inl (.inr (.inl hk))
  · rcases h4 k hk with h' | h'
    · exact .inl (.inr (.inr h'))
    · exact .inr ⟨h', h2.foot_lt k hk⟩
theorem Two.both {PF DF : FuncId} {argsP argsD : Array Value} {a : Int} (h : Two F B p q n m s r w)
    (hP : ∀ x, Hs (Fx F q x) B p n m s w → Calls Tryz.prog PF argsP w fun e w' => e = .returned (.int .i64 a) ∧ Hs (Fx F q x) B p n' m' s' w' ∧ Below B w w' ∧ Kp (Fx F q x) w w')
    (hD : ∀ x w1, RefAt w1 q r x → Calls Tryz.prog DF argsD w1 fun e w' => e = .returned (.int .i64 a) ∧ NextR w1 q x r' w') (hp : Pair2 n' m' s' r') :
    Calls Tryz.prog PF argsP w fun e w1 => e = .returned (.int .i64 a) ∧ Kp F w w1 ∧ Below B w w1 ∧ Calls Tryz.prog DF argsD w1 fun e w2 => e = .returned (.int .i64 a) ∧ Two F B p q n' m' s' r' w2 ∧ Kp F w w2 ∧ Below B w w2 := by
  obtain ⟨⟨x, h1, h2, h6⟩, h3, h4, h5⟩ := h
  refine (hP x h1).mono ?_
  rintro e w1 ⟨rfl, hs1, hb1, hk1⟩
  have hkF : Kp F w w1 := hk1.mono fun k hk => .inl hk
  refine ⟨rfl, hkF, hb1, (hD x w1 (kept_of_kp h2 hk1)).mono ?_⟩
  rintro e w2 ⟨rfl, hn2⟩
  obtain ⟨ht, hk2, hb2⟩ := Two.ref hs1 h4 h5 h6 hn2 hp
  exact ⟨rfl, ht, hkF.trans hk2, hb1.trans hb2⟩
theorem Two.wf (h : Two F B p q n m s r w) : WF s := by
  obtain ⟨x, h1, -⟩ := h.lay
  exact h1.wf
theorem Two.doc (h : Two F B p q n m s r w) : DocOk n m r := h.pair.doc h.wf
theorem hs_rename4 (h : Hs F B p n m s w) (hN : n ≤ 100000) (a : ByteArray) (ha : a.size ≤ maxLen) (b : ByteArray) (hb : b.size ≤ maxLen) :
    Calls Tryz.prog 22 #[.pointer (some ⟨p, 0, none⟩), .string a, .string b] w fun e w' => e = .returned (.int .i64 (s.rename a.data.toList b.data.toList).2) ∧ Hs F B p (n + 2) m (s.rename a.data.toList b.data.toList).1 w' ∧ Below B w w' ∧ Kp F w w' := by
  have hB := h.size
  obtain ⟨r, h1, rfl, h3, h4, h5, h6⟩ := h
  refine (rename_any h1 h4 hN a ha b hb).mono ?_
  rintro e w' ⟨rfl, hn'⟩
  exact ⟨rfl, Hs.next hB h3 rfl hn' (rename_lim h4 _ _) (rename_coh h5 h1.wf.nnms _ _) h6⟩
theorem hs_remove4 (h : Hs F B p n m s w) (hN : n ≤ 100000) (name : ByteArray) (hn : name.size ≤ maxLen) :
    Calls Tryz.prog 11 #[.pointer (some ⟨p, 0, none⟩), .string name] w fun e w' => e = .returned (.int .i64 (s.remove name.data.toList).2) ∧ Hs F B p (n + 2) m (s.remove name.data.toList).1 w' ∧ Below B w w' ∧ Kp F w w' := by
  have hB := h.size
  obtain ⟨r, h1, rfl, h3, h4, h5, h6⟩ := h
  refine (remove_any h1 h4 hN name hn).mono ?_
  rintro e w' ⟨rfl, hn'⟩
  exact ⟨rfl, Hs.next hB h3 rfl hn' (remove_lim h4 _) (remove_coh h5 _) h6⟩
theorem len_max {a : ByteArray} (h : a.size ≤ 1000000) : a.size ≤ maxLen := by unfold maxLen; omega
theorem Two.create (h : Two F B p q n m s r w) (hN : n ≤ 90000) (a : ByteArray) (ha : a.size ≤ 1000000) :
    Calls Tryz.prog 9 #[.pointer (some ⟨p, 0, none⟩), .string a] w fun e w1 => e = .returned (.int .i64 (s.create a.data.toList).2) ∧ Kp F w w1 ∧ Below B w w1 ∧ Calls Tryz.prog 39 #[.pointer (some ⟨q, 0, none⟩), .string a] w1 fun e w2 => e = .returned (.int .i64 (s.create a.data.toList).2) ∧ Two F B p q (n + 2) m (s.create a.data.toList).1 (r.create a.data.toList).1 w2 ∧ Kp F w w2 ∧ Below B w w2 := by
  have hp := h.pair.create a.data.toList
  have hd := h.doc
  refine h.both (fun x hx => hs_create hx (by omega) a (len_max ha)) (fun x w1 hx => ?_) hp.1
  have := rcreate_any hx hd (by omega) a (by omega)
  rw [hp.2] at this
  exact this
theorem Two.append (h : Two F B p q n m s r w) (hN : n ≤ 90000) (hM : m ≤ 1000000000) (a d : ByteArray) (ha : a.size ≤ 1000000) (hd' : d.size ≤ 1000000) :
    Calls Tryz.prog 10 #[.pointer (some ⟨p, 0, none⟩), .string a, .string d] w fun e w1 => e = .returned (.int .i64 (s.append a.data.toList d.data.toList).2) ∧ Kp F w w1 ∧ Below B w w1 ∧ Calls Tryz.prog 40 #[.pointer (some ⟨q, 0, none⟩), .string a, .string d] w1 fun e w2 => e = .returned (.int .i64 (s.append a.data.toList d.data.toList).2) ∧ Two F B p q (n + 2) (m + d.size) (s.append a.data.toList d.data.toList).1 (r.append a.data.toList d.data.toList).1 w2 ∧ Kp F w w2 ∧ Below B w w2 := by
  have hp := h.pair.append a.data.toList d.data.toList
  have hd := h.doc
  refine h.both (fun x hx => (hs_append hx (by omega) a (len_max ha) d hM (by omega)).mono fun e w' h => ⟨h.1, h.2.1.up (by omega) (Nat.le_refl _), h.2.2⟩) (fun x w1 hx => ?_) hp.1
  have := rappend_any hx hd (by omega) hM a d (by omega)
  rw [hp.2] at this
  exact this
theorem Two.sync (h : Two F B p q n m s r w) (hN : n ≤ 90000) (a : ByteArray) (ha : a.size ≤ 1000000) :
    Calls Tryz.prog 41 #[.pointer (some ⟨p, 0, none⟩), .string a] w fun e w1 => e = .returned (.int .i64 (s.sync a.data.toList).2) ∧ Kp F w w1 ∧ Below B w w1 ∧ Calls Tryz.prog 42 #[.pointer (some ⟨q, 0, none⟩), .string a] w1 fun e w2 => e = .returned (.int .i64 (s.sync a.data.toList).2) ∧ Two F B p q (n + 2) m (s.sync a.data.toList).1 (r.sync a.data.toList).1 w2 ∧ Kp F w w2 ∧ Below B w w2 := by
  have hp := h.pair.sync a.data.toList
  have hd := h.doc
  refine h.both (fun x hx => (hs_sync hx (by omega) a (len_max ha)).mono fun e w' h => ⟨h.1, h.2.1.up (by omega) (Nat.le_refl _), h.2.2⟩) (fun x w1 hx => ?_) hp.1
  have := rsync_any hx hd (by omega) a
  rw [hp.2] at this
  exact this
theorem Two.syncDir (h : Two F B p q n m s r w) (hN : n ≤ 90000) :
    Calls Tryz.prog 21 #[.pointer (some ⟨p, 0, none⟩)] w fun e w1 => e = .returned (.int .i64 s.syncDir.2) ∧ Kp F w w1 ∧ Below B w w1 ∧ Calls Tryz.prog 43 #[.pointer (some ⟨q, 0, none⟩)] w1 fun e w2 => e = .returned (.int .i64 s.syncDir.2) ∧ Two F B p q (n + 2) m s.syncDir.1 r.syncDir.1 w2 ∧ Kp F w w2 ∧ Below B w w2 := by
  have hp := h.pair.syncDir
  have hd := h.doc
  refine h.both (fun x hx => (hs_syncDir hx (by omega)).mono fun e w' h => ⟨h.1, h.2.1.up (by omega) (Nat.le_refl _), h.2.2⟩) (fun x w1 hx => ?_) hp.1
  have := rsyncDir_any hx hd (by omega)
  rw [hp.2] at this
  exact this
theorem Two.rename (h : Two F B p q n m s r w) (hN : n ≤ 90000) (a b : ByteArray) (ha : a.size ≤ 1000000) (hb : b.size ≤ 1000000) :
    Calls Tryz.prog 22 #[.pointer (some ⟨p, 0, none⟩), .string a, .string b] w fun e w1 => e = .returned (.int .i64 (s.rename a.data.toList b.data.toList).2) ∧ Kp F w w1 ∧ Below B w w1 ∧ Calls Tryz.prog 44 #[.pointer (some ⟨q, 0, none⟩), .string a, .string b] w1 fun e w2 => e = .returned (.int .i64 (s.rename a.data.toList b.data.toList).2) ∧ Two F B p q (n + 2) m (s.rename a.data.toList b.data.toList).1 (r.rename a.data.toList b.data.toList).1 w2 ∧ Kp F w w2 ∧ Below B w w2 := by
  have hp := h.pair.rename h.wf a.data.toList b.data.toList
  have hd := h.doc
  refine h.both (fun x hx => hs_rename4 hx (by omega) a (len_max ha) b (len_max hb)) (fun x w1 hx => ?_) hp.1
  have := rrename_any hx hd (by omega) a (by omega) b (by omega)
  rw [hp.2] at this
  exact this
theorem Two.remove (h : Two F B p q n m s r w) (hN : n ≤ 90000) (a : ByteArray) (ha : a.size ≤ 1000000) :
    Calls Tryz.prog 11 #[.pointer (some ⟨p, 0, none⟩), .string a] w fun e w1 => e = .returned (.int .i64 (s.remove a.data.toList).2) ∧ Kp F w w1 ∧ Below B w w1 ∧ Calls Tryz.prog 45 #[.pointer (some ⟨q, 0, none⟩), .string a] w1 fun e w2 => e = .returned (.int .i64 (s.remove a.data.toList).2) ∧ Two F B p q (n + 2) m (s.remove a.data.toList).1 (r.remove a.data.toList).1 w2 ∧ Kp F w w2 ∧ Below B w w2 := by
  have hp := h.pair.remove a.data.toList
  have hd := h.doc
  refine h.both (fun x hx => hs_remove4 hx (by omega) a (len_max ha)) (fun x w1 hx => ?_) hp.1
  have := rremove_any hx hd (by omega) a (by omega)
  rw [hp.2] at this
  exact this
end
end Go.Proofs.YtfndlfnlepndmaaGreat

namespace Go.Proofs.YtfndlfnlepndmaaGreat
open Go.RowKit

section
variable {F G : Nat → Prop} {B p q n m n' m' : Nat} {s r s' r' : St} {w w' : World}
/-- What stands behind a step. -/
def Done (F : Nat → Prop) (B p q n m : Nat) (w w' : World) : Prop := ∃ s' r', Two F B p q n m s' r' w' ∧ Kp F w w' ∧ Below B w w'
theorem Done.of (hbW : Below w.heap.size w w') {w2 : World} (hB : B ≤ w.heap.size) (hF : ∀ k, F k → k < w.heap.size) (ht : Two (fun k => F k ∨ k = w.heap.size) B p q n m s' r' w2) (hk : Kp (fun k => F k ∨ k = w.heap.size) w' w2) (hb : Below B w' w2) : Done F B p q n m w w2 :=
  ⟨s', r', ht.fewer fun _ h => .inl h, fun k hf => (hk k (.inl hf)).trans (hbW.block k (hF k hf)), (hbW.mono hB).trans hb⟩
set_option maxHeartbeats 2000000 in
set_option maxRecDepth 100000 in
theorem do1_any (h : Two F B p q n m s r w) (hN : n ≤ 90000) (_hM : m ≤ 1000000000) (N : Int) (A Bn D : ByteArray) (hA : A.size ≤ 1000000) (_hBn : Bn.size ≤ 1000000) (_hD : D.size ≤ 1000000) (La : Option Addr) (Ll Lc : Nat) :
    Calls Tryz.prog 13 #[.pointer (some ⟨p, 0, none⟩), .pointer (some ⟨q, 0, none⟩), .agg #[.int .i64 1, .int .i64 N, .string A, .string Bn, .string D, .slice La Ll Lc]] w fun e w' => e = .returned (.bool true) ∧ Done F B p q (n + 2) (m + D.size) w w' := by
  have hB := h.size
  have hF := h.lt
  obtain ⟨W, hW⟩ : ∃ W, w.alloc (.cells #[.int .i64 1, .int .i64 N, .string A, .string Bn, .string D, .slice La Ll Lc] 48) = W := ⟨_, rfl⟩
  have hbW : Below w.heap.size w W := by rw [← hW]; exact (Below.refl _ _).alloc (Nat.le_refl _) _
  have hblk : W.heap[w.heap.size]? = some (.cells #[.int .i64 1, .int .i64 N, .string A, .string Bn, .string D, .slice La Ll Lc] 48) := by rw [← hW]; exact blockZ _ _ rfl
  have y0 : W.cell? ⟨w.heap.size, 0, none⟩ = some (.int .i64 1) := by simp [World.cell?, hblk]
  have y1 : W.cell? ⟨w.heap.size, 1, none⟩ = some (.int .i64 N) := by simp [World.cell?, hblk]
  have y2 : W.cell? ⟨w.heap.size, 2, none⟩ = some (.string A) := by simp [World.cell?, hblk]
  have y3 : W.cell? ⟨w.heap.size, 3, none⟩ = some (.string Bn) := by simp [World.cell?, hblk]
  have y4 : W.cell? ⟨w.heap.size, 4, none⟩ = some (.string D) := by simp [World.cell?, hblk]
  have y5 : W.cell? ⟨w.heap.size, 5, none⟩ = some (.slice La Ll Lc) := by simp [World.cell?, hblk]
  have hsz : w.heap.size < W.heap.size := by rw [← hW]; simp
  have HT := Lib.hid (h.below (G := fun k => F k ∨ k = w.heap.size) hbW fun k hk => hk.elim .inl fun e => .inr ⟨by omega, by omega⟩)
  have HBW := Lib.hid hbW
  have HB := Lib.hid hB
  have HF := Lib.hid hF
  have CP := Lib.hid (fun W' (hb : Below W.heap.size W W') => (HT.out.same hb).create hN A hA)
  clear h hbW hblk hB hF
  go_enter Tryz.func13, Tryz.ntmps13
  go_wp2_with fail
  go_region_held3 (fun w' => w'.cell? ⟨w.heap.size, 2, none⟩ = some (.string A)) (first | exact y2 | exact k2 | exact l2) (first | (go_at_call 9; (with_reducible refine (CP.out _ (Below.refl _ _).drew).mono ?_); rintro e w1 ⟨rfl, hk1, hb1, hc1⟩; have HC1 := Lib.hid hc1; have k2 := (World.cell?_of_block (hk1 w.heap.size (.inr rfl))).trans y2) | (go_at_call 39; (with_reducible refine HC1.out.mono ?_); rintro e w2 ⟨rfl, ht2, hk2, hb2⟩; have l2 := (World.cell?_of_block (hk2 w.heap.size (.inr rfl))).trans y2) | fail)
  all_goals go_wp2
  all_goals go_ret
  all_goals
    refine ⟨by simp, ?_⟩
    exact Done.of (w' := W.drew) HBW.out.drew HB.out HF.out (ht2.up (Nat.le_refl _) (Nat.le_add_right _ _)) hk2 hb2
set_option maxHeartbeats 2000000 in
set_option maxRecDepth 100000 in
theorem do2_any (h : Two F B p q n m s r w) (hN : n ≤ 90000) (hM : m ≤ 1000000000) (N : Int) (A Bn D : ByteArray) (hA : A.size ≤ 1000000) (_hBn : Bn.size ≤ 1000000) (hD : D.size ≤ 1000000) (La : Option Addr) (Ll Lc : Nat) :
    Calls Tryz.prog 13 #[.pointer (some ⟨p, 0, none⟩), .pointer (some ⟨q, 0, none⟩), .agg #[.int .i64 2, .int .i64 N, .string A, .string Bn, .string D, .slice La Ll Lc]] w fun e w' => e = .returned (.bool true) ∧ Done F B p q (n + 2) (m + D.size) w w' := by
  have hB := h.size
  have hF := h.lt
  obtain ⟨W, hW⟩ : ∃ W, w.alloc (.cells #[.int .i64 2, .int .i64 N, .string A, .string Bn, .string D, .slice La Ll Lc] 48) = W := ⟨_, rfl⟩
  have hbW : Below w.heap.size w W := by rw [← hW]; exact (Below.refl _ _).alloc (Nat.le_refl _) _
  have hblk : W.heap[w.heap.size]? = some (.cells #[.int .i64 2, .int .i64 N, .string A, .string Bn, .string D, .slice La Ll Lc] 48) := by rw [← hW]; exact blockZ _ _ rfl
  have y0 : W.cell? ⟨w.heap.size, 0, none⟩ = some (.int .i64 2) := by simp [World.cell?, hblk]
  have y1 : W.cell? ⟨w.heap.size, 1, none⟩ = some (.int .i64 N) := by simp [World.cell?, hblk]
  have y2 : W.cell? ⟨w.heap.size, 2, none⟩ = some (.string A) := by simp [World.cell?, hblk]
  have y3 : W.cell? ⟨w.heap.size, 3, none⟩ = some (.string Bn) := by simp [World.cell?, hblk]
  have y4 : W.cell? ⟨w.heap.size, 4, none⟩ = some (.string D) := by simp [World.cell?, hblk]
  have y5 : W.cell? ⟨w.heap.size, 5, none⟩ = some (.slice La Ll Lc) := by simp [World.cell?, hblk]
  have hsz : w.heap.size < W.heap.size := by rw [← hW]; simp
  have HT := Lib.hid (h.below (G := fun k => F k ∨ k = w.heap.size) hbW fun k hk => hk.elim .inl fun e => .inr ⟨by omega, by omega⟩)
  have HBW := Lib.hid hbW
  have HB := Lib.hid hB
  have HF := Lib.hid hF
  have CP := Lib.hid (fun W' (hb : Below W.heap.size W W') => (HT.out.same hb).append hN hM A D hA hD)
  clear h hbW hblk hB hF
  go_enter Tryz.func13, Tryz.ntmps13
  go_wp2_with fail
  go_region_held3 (fun w' => w'.cell? ⟨w.heap.size, 2, none⟩ = some (.string A) ∧ w'.cell? ⟨w.heap.size, 4, none⟩ = some (.string D)) (first | exact ⟨y2, y4⟩ | exact ⟨k2, k4⟩ | exact ⟨l2, l4⟩) (first | (go_at_call 10; (with_reducible refine (CP.out _ (Below.refl _ _).drew).mono ?_); rintro e w1 ⟨rfl, hk1, hb1, hc1⟩; have HC1 := Lib.hid hc1; have k2 := (World.cell?_of_block (hk1 w.heap.size (.inr rfl))).trans y2; have k4 := (World.cell?_of_block (hk1 w.heap.size (.inr rfl))).trans y4) | (go_at_call 40; (with_reducible refine HC1.out.mono ?_); rintro e w2 ⟨rfl, ht2, hk2, hb2⟩; have l2 := (World.cell?_of_block (hk2 w.heap.size (.inr rfl))).trans y2; have l4 := (World.cell?_of_block (hk2 w.heap.size (.inr rfl))).trans y4) | fail)
  all_goals go_wp2
  all_goals go_ret
  all_goals
    refine ⟨by simp, ?_⟩
    exact Done.of (w' := W.drew) HBW.out.drew HB.out HF.out (ht2.up (Nat.le_refl _) (Nat.le_refl _)) hk2 hb2
set_option maxHeartbeats 2000000 in
set_option maxRecDepth 100000 in
theorem do3_any (h : Two F B p q n m s r w) (hN : n ≤ 90000) (_hM : m ≤ 1000000000) (N : Int) (A Bn D : ByteArray) (hA : A.size ≤ 1000000) (_hBn : Bn.size ≤ 1000000) (_hD : D.size ≤ 1000000) (La : Option Addr) (Ll Lc : Nat) :
    Calls Tryz.prog 13 #[.pointer (some ⟨p, 0, none⟩), .pointer (some ⟨q, 0, none⟩), .agg #[.int .i64 3, .int .i64 N, .string A, .string Bn, .string D, .slice La Ll Lc]] w fun e w' => e = .returned (.bool true) ∧ Done F B p q (n + 2) (m + D.size) w w' := by
  have hB := h.size
  have hF := h.lt
  obtain ⟨W, hW⟩ : ∃ W, w.alloc (.cells #[.int .i64 3, .int .i64 N, .string A, .string Bn, .string D, .slice La Ll Lc] 48) = W := ⟨_, rfl⟩
  have hbW : Below w.heap.size w W := by rw [← hW]; exact (Below.refl _ _).alloc (Nat.le_refl _) _
  have hblk : W.heap[w.heap.size]? = some (.cells #[.int .i64 3, .int .i64 N, .string A, .string Bn, .string D, .slice La Ll Lc] 48) := by rw [← hW]; exact blockZ _ _ rfl
  have y0 : W.cell? ⟨w.heap.size, 0, none⟩ = some (.int .i64 3) := by simp [World.cell?, hblk]
  have y1 : W.cell? ⟨w.heap.size, 1, none⟩ = some (.int .i64 N) := by simp [World.cell?, hblk]
  have y2 : W.cell? ⟨w.heap.size, 2, none⟩ = some (.string A) := by simp [World.cell?, hblk]
  have y3 : W.cell? ⟨w.heap.size, 3, none⟩ = some (.string Bn) := by simp [World.cell?, hblk]
  have y4 : W.cell? ⟨w.heap.size, 4, none⟩ = some (.string D) := by simp [World.cell?, hblk]
  have y5 : W.cell? ⟨w.heap.size, 5, none⟩ = some (.slice La Ll Lc) := by simp [World.cell?, hblk]
  have hsz : w.heap.size < W.heap.size := by rw [← hW]; simp
  have HT := Lib.hid (h.below (G := fun k => F k ∨ k = w.heap.size) hbW fun k hk => hk.elim .inl fun e => .inr ⟨by omega, by omega⟩)
  have HBW := Lib.hid hbW
  have HB := Lib.hid hB
  have HF := Lib.hid hF
  have CP := Lib.hid (fun W' (hb : Below W.heap.size W W') => (HT.out.same hb).sync hN A hA)
  clear h hbW hblk hB hF
  go_enter Tryz.func13, Tryz.ntmps13
  go_wp2_with fail
  go_region_held3 (fun w' => w'.cell? ⟨w.heap.size, 2, none⟩ = some (.string A)) (first | exact y2 | exact k2 | exact l2) (first | (go_at_call 41; (with_reducible refine (CP.out _ (Below.refl _ _).drew).mono ?_); rintro e w1 ⟨rfl, hk1, hb1, hc1⟩; have HC1 := Lib.hid hc1; have k2 := (World.cell?_of_block (hk1 w.heap.size (.inr rfl))).trans y2) | (go_at_call 42; (with_reducible refine HC1.out.mono ?_); rintro e w2 ⟨rfl, ht2, hk2, hb2⟩; have l2 := (World.cell?_of_block (hk2 w.heap.size (.inr rfl))).trans y2) | fail)
  all_goals go_wp2
  all_goals go_ret
  all_goals
    refine ⟨by simp, ?_⟩
    exact Done.of (w' := W.drew) HBW.out.drew HB.out HF.out (ht2.up (Nat.le_refl _) (Nat.le_add_right _ _)) hk2 hb2
set_option maxHeartbeats 2000000 in
set_option maxRecDepth 100000 in
theorem do4_any (h : Two F B p q n m s r w) (hN : n ≤ 90000) (_hM : m ≤ 1000000000) (N : Int) (A Bn D : ByteArray) (_hA : A.size ≤ 1000000) (_hBn : Bn.size ≤ 1000000) (_hD : D.size ≤ 1000000) (La : Option Addr) (Ll Lc : Nat) :
    Calls Tryz.prog 13 #[.pointer (some ⟨p, 0, none⟩), .pointer (some ⟨q, 0, none⟩), .agg #[.int .i64 4, .int .i64 N, .string A, .string Bn, .string D, .slice La Ll Lc]] w fun e w' => e = .returned (.bool true) ∧ Done F B p q (n + 2) (m + D.size) w w' := by
  have hB := h.size
  have hF := h.lt
  obtain ⟨W, hW⟩ : ∃ W, w.alloc (.cells #[.int .i64 4, .int .i64 N, .string A, .string Bn, .string D, .slice La Ll Lc] 48) = W := ⟨_, rfl⟩
  have hbW : Below w.heap.size w W := by rw [← hW]; exact (Below.refl _ _).alloc (Nat.le_refl _) _
  have hblk : W.heap[w.heap.size]? = some (.cells #[.int .i64 4, .int .i64 N, .string A, .string Bn, .string D, .slice La Ll Lc] 48) := by rw [← hW]; exact blockZ _ _ rfl
  have y0 : W.cell? ⟨w.heap.size, 0, none⟩ = some (.int .i64 4) := by simp [World.cell?, hblk]
  have y1 : W.cell? ⟨w.heap.size, 1, none⟩ = some (.int .i64 N) := by simp [World.cell?, hblk]
  have y2 : W.cell? ⟨w.heap.size, 2, none⟩ = some (.string A) := by simp [World.cell?, hblk]
  have y3 : W.cell? ⟨w.heap.size, 3, none⟩ = some (.string Bn) := by simp [World.cell?, hblk]
  have y4 : W.cell? ⟨w.heap.size, 4, none⟩ = some (.string D) := by simp [World.cell?, hblk]
  have y5 : W.cell? ⟨w.heap.size, 5, none⟩ = some (.slice La Ll Lc) := by simp [World.cell?, hblk]
  have hsz : w.heap.size < W.heap.size := by rw [← hW]; simp
  have HT := Lib.hid (h.below (G := fun k => F k ∨ k = w.heap.size) hbW fun k hk => hk.elim .inl fun e => .inr ⟨by omega, by omega⟩)
  have HBW := Lib.hid hbW
  have HB := Lib.hid hB
  have HF := Lib.hid hF
  have CP := Lib.hid (fun W' (hb : Below W.heap.size W W') => (HT.out.same hb).syncDir hN)
  clear h hbW hblk hB hF
  go_enter Tryz.func13, Tryz.ntmps13
  go_wp2_with (first | (go_at_call 21; (with_reducible refine (CP.out _ (Below.refl _ _)).mono ?_); rintro e w1 ⟨rfl, hk1, hb1, hc1⟩; have HC1 := Lib.hid hc1) | (go_at_call 43; (with_reducible refine HC1.out.mono ?_); rintro e w2 ⟨rfl, ht2, hk2, hb2⟩) | fail)
  go_ret
  all_goals
    refine ⟨by simp, ?_⟩
    exact Done.of (w' := W) HBW.out HB.out HF.out (ht2.up (Nat.le_refl _) (Nat.le_add_right _ _)) hk2 hb2
set_option maxHeartbeats 2000000 in
set_option maxRecDepth 100000 in
theorem do5_any (h : Two F B p q n m s r w) (hN : n ≤ 90000) (_hM : m ≤ 1000000000) (N : Int) (A Bn D : ByteArray) (hA : A.size ≤ 1000000) (hBn : Bn.size ≤ 1000000) (_hD : D.size ≤ 1000000) (La : Option Addr) (Ll Lc : Nat) :
    Calls Tryz.prog 13 #[.pointer (some ⟨p, 0, none⟩), .pointer (some ⟨q, 0, none⟩), .agg #[.int .i64 5, .int .i64 N, .string A, .string Bn, .string D, .slice La Ll Lc]] w fun e w' => e = .returned (.bool true) ∧ Done F B p q (n + 2) (m + D.size) w w' := by
  have hB := h.size
  have hF := h.lt
  obtain ⟨W, hW⟩ : ∃ W, w.alloc (.cells #[.int .i64 5, .int .i64 N, .string A, .string Bn, .string D, .slice La Ll Lc] 48) = W := ⟨_, rfl⟩
  have hbW : Below w.heap.size w W := by rw [← hW]; exact (Below.refl _ _).alloc (Nat.le_refl _) _
  have hblk : W.heap[w.heap.size]? = some (.cells #[.int .i64 5, .int .i64 N, .string A, .string Bn, .string D, .slice La Ll Lc] 48) := by rw [← hW]; exact blockZ _ _ rfl
  have y0 : W.cell? ⟨w.heap.size, 0, none⟩ = some (.int .i64 5) := by simp [World.cell?, hblk]
  have y1 : W.cell? ⟨w.heap.size, 1, none⟩ = some (.int .i64 N) := by simp [World.cell?, hblk]
  have y2 : W.cell? ⟨w.heap.size, 2, none⟩ = some (.string A) := by simp [World.cell?, hblk]
  have y3 : W.cell? ⟨w.heap.size, 3, none⟩ = some (.string Bn) := by simp [World.cell?, hblk]
  have y4 : W.cell? ⟨w.heap.size, 4, none⟩ = some (.string D) := by simp [World.cell?, hblk]
  have y5 : W.cell? ⟨w.heap.size, 5, none⟩ = some (.slice La Ll Lc) := by simp [World.cell?, hblk]
  have hsz : w.heap.size < W.heap.size := by rw [← hW]; simp
  have HT := Lib.hid (h.below (G := fun k => F k ∨ k = w.heap.size) hbW fun k hk => hk.elim .inl fun e => .inr ⟨by omega, by omega⟩)
  have HBW := Lib.hid hbW
  have HB := Lib.hid hB
  have HF := Lib.hid hF
  have CP := Lib.hid (fun W' (hb : Below W.heap.size W W') => (HT.out.same hb).rename hN A Bn hA hBn)
  clear h hbW hblk hB hF
  go_enter Tryz.func13, Tryz.ntmps13
  go_wp2_with fail
  go_region_held3 (fun w' => w'.cell? ⟨w.heap.size, 2, none⟩ = some (.string A) ∧ w'.cell? ⟨w.heap.size, 3, none⟩ = some (.string Bn)) (first | exact ⟨y2, y3⟩ | exact ⟨k2, k3⟩ | exact ⟨l2, l3⟩) (first | (go_at_call 22; (with_reducible refine (CP.out _ (Below.refl _ _).drew).mono ?_); rintro e w1 ⟨rfl, hk1, hb1, hc1⟩; have HC1 := Lib.hid hc1; have k2 := (World.cell?_of_block (hk1 w.heap.size (.inr rfl))).trans y2; have k3 := (World.cell?_of_block (hk1 w.heap.size (.inr rfl))).trans y3) | (go_at_call 44; (with_reducible refine HC1.out.mono ?_); rintro e w2 ⟨rfl, ht2, hk2, hb2⟩; have l2 := (World.cell?_of_block (hk2 w.heap.size (.inr rfl))).trans y2; have l3 := (World.cell?_of_block (hk2 w.heap.size (.inr rfl))).trans y3) | fail)
  all_goals go_wp2
  all_goals go_ret
  all_goals
    refine ⟨by simp, ?_⟩
    exact Done.of (w' := W.drew) HBW.out.drew HB.out HF.out (ht2.up (Nat.le_refl _) (Nat.le_add_right _ _)) hk2 hb2
set_option maxHeartbeats 2000000 in
set_option maxRecDepth 100000 in
theorem do6_any (h : Two F B p q n m s r w) (hN : n ≤ 90000) (_hM : m ≤ 1000000000) (N : Int) (A Bn D : ByteArray) (hA : A.size ≤ 1000000) (_hBn : Bn.size ≤ 1000000) (_hD : D.size ≤ 1000000) (La : Option Addr) (Ll Lc : Nat) :
    Calls Tryz.prog 13 #[.pointer (some ⟨p, 0, none⟩), .pointer (some ⟨q, 0, none⟩), .agg #[.int .i64 6, .int .i64 N, .string A, .string Bn, .string D, .slice La Ll Lc]] w fun e w' => e = .returned (.bool true) ∧ Done F B p q (n + 2) (m + D.size) w w' := by
  have hB := h.size
  have hF := h.lt
  obtain ⟨W, hW⟩ : ∃ W, w.alloc (.cells #[.int .i64 6, .int .i64 N, .string A, .string Bn, .string D, .slice La Ll Lc] 48) = W := ⟨_, rfl⟩
  have hbW : Below w.heap.size w W := by rw [← hW]; exact (Below.refl _ _).alloc (Nat.le_refl _) _
  have hblk : W.heap[w.heap.size]? = some (.cells #[.int .i64 6, .int .i64 N, .string A, .string Bn, .string D, .slice La Ll Lc] 48) := by rw [← hW]; exact blockZ _ _ rfl
  have y0 : W.cell? ⟨w.heap.size, 0, none⟩ = some (.int .i64 6) := by simp [World.cell?, hblk]
  have y1 : W.cell? ⟨w.heap.size, 1, none⟩ = some (.int .i64 N) := by simp [World.cell?, hblk]
  have y2 : W.cell? ⟨w.heap.size, 2, none⟩ = some (.string A) := by simp [World.cell?, hblk]
  have y3 : W.cell? ⟨w.heap.size, 3, none⟩ = some (.string Bn) := by simp [World.cell?, hblk]
  have y4 : W.cell? ⟨w.heap.size, 4, none⟩ = some (.string D) := by simp [World.cell?, hblk]
  have y5 : W.cell? ⟨w.heap.size, 5, none⟩ = some (.slice La Ll Lc) := by simp [World.cell?, hblk]
  have hsz : w.heap.size < W.heap.size := by rw [← hW]; simp
  have HT := Lib.hid (h.below (G := fun k => F k ∨ k = w.heap.size) hbW fun k hk => hk.elim .inl fun e => .inr ⟨by omega, by omega⟩)
  have HBW := Lib.hid hbW
  have HB := Lib.hid hB
  have HF := Lib.hid hF
  have CP := Lib.hid (fun W' (hb : Below W.heap.size W W') => (HT.out.same hb).remove hN A hA)
  clear h hbW hblk hB hF
  go_enter Tryz.func13, Tryz.ntmps13
  go_wp2_with fail
  go_region_held3 (fun w' => w'.cell? ⟨w.heap.size, 2, none⟩ = some (.string A)) (first | exact y2 | exact k2 | exact l2) (first | (go_at_call 11; (with_reducible refine (CP.out _ (Below.refl _ _).drew).mono ?_); rintro e w1 ⟨rfl, hk1, hb1, hc1⟩; have HC1 := Lib.hid hc1; have k2 := (World.cell?_of_block (hk1 w.heap.size (.inr rfl))).trans y2) | (go_at_call 45; (with_reducible refine HC1.out.mono ?_); rintro e w2 ⟨rfl, ht2, hk2, hb2⟩; have l2 := (World.cell?_of_block (hk2 w.heap.size (.inr rfl))).trans y2) | fail)
  all_goals go_wp2
  all_goals go_ret
  all_goals
    refine ⟨by simp, ?_⟩
    exact Done.of (w' := W.drew) HBW.out.drew HB.out HF.out (ht2.up (Nat.le_refl _) (Nat.le_add_right _ _)) hk2 hb2
end
end Go.Proofs.YtfndlfnlepndmaaGreat

namespace Go.Proofs.YtfndlfnlepndmaaGreat
open Go.RowKit

section
variable {F G : Nat → Prop} {B p q n m n' m' : Nat} {s r s' r' : St} {w w' : World}
theorem hs_fuse4 (h : Hs F B p n m s w) (k : Int) (hk : k ≤ 9223372036854775807) : Calls Tryz.prog 46 #[.pointer (some ⟨p, 0, none⟩), .int .i64 k] w fun e w' => e = .returned (.tuple #[]) ∧ Hs F B p n m { s with fuse := k } w' ∧ Below B w w' ∧ Kp F w w' := by
  have hB := h.size
  obtain ⟨r, h1, rfl, h3, h4, h5, h6⟩ := h
  refine (fuse_any h1 k).mono ?_
  rintro e w' ⟨rfl, hn'⟩
  exact ⟨rfl, Hs.next hB h3 rfl hn' ⟨h4.s0, h4.s1, h4.dirs, h4.nowl, h4.files, h4.bytes, hk, h4.bad, h4.room⟩ (h5.of rfl rfl rfl) h6⟩
theorem hs_bad4 (h : Hs F B p n m s w) (k : Int) (hk : k ≤ 9223372036854775807) : Calls Tryz.prog 47 #[.pointer (some ⟨p, 0, none⟩), .int .i64 k] w fun e w' => e = .returned (.tuple #[]) ∧ Hs F B p n m { s with bad := k } w' ∧ Below B w w' ∧ Kp F w w' := by
  have hB := h.size
  obtain ⟨r, h1, rfl, h3, h4, h5, h6⟩ := h
  refine (bad_any h1 k).mono ?_
  rintro e w' ⟨rfl, hn'⟩
  exact ⟨rfl, Hs.next hB h3 rfl hn' ⟨h4.s0, h4.s1, h4.dirs, h4.nowl, h4.files, h4.bytes, h4.fuse, hk, h4.room⟩ (h5.of rfl rfl rfl) h6⟩
/-- A call on the program's, and a store into the document's. -/
theorem Two.poke {PF : FuncId} {argsP : Array Value} (j : Nat) (v0 v : Value) (h : Two F B p q n m s r w)
    (hP : ∀ x, Hs (Fx F q x) B p n m s w → Calls Tryz.prog PF argsP w fun e w' => e = .returned (.tuple #[]) ∧ Hs (Fx F q x) B p n' m' s' w' ∧ Below B w w' ∧ Kp (Fx F q x) w w')
    (h0 : ∀ x, (refCells r x)[j]? = some v0) (hs : ∀ x, (refCells r x).setIfInBounds j v = refCells r' x) (e1 : r'.now = r.now) (e2 : r'.last = r.last) (e3 : r'.pend = r.pend) (e4 : r'.files = r.files) (hp : Pair2 n' m' s' r') :
    Calls Tryz.prog PF argsP w fun e w1 => e = .returned (.tuple #[]) ∧ Kp F w w1 ∧ w1.cell? ⟨q, j, none⟩ = some v0 ∧ w1.frozen? ⟨q, j, none⟩ = false ∧ Two F B p q n' m' s' r' (w1.setCell ⟨q, j, none⟩ v) ∧ Kp F w (w1.setCell ⟨q, j, none⟩ v) ∧ Below B w (w1.setCell ⟨q, j, none⟩ v) := by
  obtain ⟨⟨x, h1, h2, h6⟩, h3, h4, h5⟩ := h
  refine (hP x h1).mono ?_
  rintro e w1 ⟨rfl, hs1, hb1, hk1⟩
  have hkF : Kp F w w1 := hk1.mono fun k hk => .inl hk
  have hr := kept_of_kp h2 hk1
  obtain ⟨ht, hk2, hb2⟩ := Two.ref hs1 h4 h5 h6 (NextR.one (hr.set j v (hs x) e1 e2 e3 e4) ((Turn.refl _ _).setCell (.inl (by simp)) v)) hp
  exact ⟨rfl, hkF, hr.cell j v0 (h0 x), hr.warm j, ht, hkF.trans hk2, hb1.trans hb2⟩
set_option maxHeartbeats 2000000 in
set_option maxRecDepth 100000 in
theorem do7_any (h : Two F B p q n m s r w) (_hN : n ≤ 90000) (_hM : m ≤ 1000000000) (N : Int) (A Bn D : ByteArray) (_hA : A.size ≤ 1000000) (_hBn : Bn.size ≤ 1000000) (_hD : D.size ≤ 1000000) (La : Option Addr) (Ll Lc : Nat) (hNk : N ≤ 9223372036854775807) :
    Calls Tryz.prog 13 #[.pointer (some ⟨p, 0, none⟩), .pointer (some ⟨q, 0, none⟩), .agg #[.int .i64 7, .int .i64 N, .string A, .string Bn, .string D, .slice La Ll Lc]] w fun e w' => e = .returned (.bool true) ∧ Done F B p q (n + 2) (m + D.size) w w' := by
  have hB := h.size
  have hF := h.lt
  obtain ⟨W, hW⟩ : ∃ W, w.alloc (.cells #[.int .i64 7, .int .i64 N, .string A, .string Bn, .string D, .slice La Ll Lc] 48) = W := ⟨_, rfl⟩
  have hbW : Below w.heap.size w W := by rw [← hW]; exact (Below.refl _ _).alloc (Nat.le_refl _) _
  have hblk : W.heap[w.heap.size]? = some (.cells #[.int .i64 7, .int .i64 N, .string A, .string Bn, .string D, .slice La Ll Lc] 48) := by rw [← hW]; exact blockZ _ _ rfl
  have y0 : W.cell? ⟨w.heap.size, 0, none⟩ = some (.int .i64 7) := by simp [World.cell?, hblk]
  have y1 : W.cell? ⟨w.heap.size, 1, none⟩ = some (.int .i64 N) := by simp [World.cell?, hblk]
  have y2 : W.cell? ⟨w.heap.size, 2, none⟩ = some (.string A) := by simp [World.cell?, hblk]
  have y3 : W.cell? ⟨w.heap.size, 3, none⟩ = some (.string Bn) := by simp [World.cell?, hblk]
  have y4 : W.cell? ⟨w.heap.size, 4, none⟩ = some (.string D) := by simp [World.cell?, hblk]
  have y5 : W.cell? ⟨w.heap.size, 5, none⟩ = some (.slice La Ll Lc) := by simp [World.cell?, hblk]
  have hsz : w.heap.size < W.heap.size := by rw [← hW]; simp
  have HT := Lib.hid (h.below (G := fun k => F k ∨ k = w.heap.size) hbW fun k hk => hk.elim .inl fun e => .inr ⟨by omega, by omega⟩)
  have HBW := Lib.hid hbW
  have HB := Lib.hid hB
  have HF := Lib.hid hF
  have CP := Lib.hid (Two.poke (PF := 46) (argsP := #[.pointer (some ⟨p, 0, none⟩), .int .i64 N]) 2 (.int .i64 r.fuse) (.int .i64 (max N (-1))) HT.out (fun x hx => hs_fuse4 hx N hNk) (fun _ => rfl) (r' := { r with fuse := max N (-1) }) (fun _ => rfl) rfl rfl rfl rfl (HT.out.pair.fuse N hNk))
  clear h hbW hblk hB hF
  go_enter Tryz.func13, Tryz.ntmps13
  go_wp2_with (first | (go_at_call 46; (with_reducible refine CP.out.mono ?_); rintro e w1 ⟨rfl, hk1, z0, z1, ht2, hk2, hb2⟩; have k1 := (World.cell?_of_block (hk1 w.heap.size (.inr rfl))).trans y1) | fail)
  go_ret
  exact ⟨rfl, Done.of (w' := W) HBW.out HB.out HF.out (ht2.up (Nat.le_add_right _ _) (Nat.le_add_right _ _)) hk2 hb2⟩
set_option maxHeartbeats 2000000 in
set_option maxRecDepth 100000 in
theorem do8_any (h : Two F B p q n m s r w) (_hN : n ≤ 90000) (_hM : m ≤ 1000000000) (N : Int) (A Bn D : ByteArray) (_hA : A.size ≤ 1000000) (_hBn : Bn.size ≤ 1000000) (_hD : D.size ≤ 1000000) (La : Option Addr) (Ll Lc : Nat) (hNk : N ≤ 9223372036854775807) :
    Calls Tryz.prog 13 #[.pointer (some ⟨p, 0, none⟩), .pointer (some ⟨q, 0, none⟩), .agg #[.int .i64 8, .int .i64 N, .string A, .string Bn, .string D, .slice La Ll Lc]] w fun e w' => e = .returned (.bool true) ∧ Done F B p q (n + 2) (m + D.size) w w' := by
  have hB := h.size
  have hF := h.lt
  obtain ⟨W, hW⟩ : ∃ W, w.alloc (.cells #[.int .i64 8, .int .i64 N, .string A, .string Bn, .string D, .slice La Ll Lc] 48) = W := ⟨_, rfl⟩
  have hbW : Below w.heap.size w W := by rw [← hW]; exact (Below.refl _ _).alloc (Nat.le_refl _) _
  have hblk : W.heap[w.heap.size]? = some (.cells #[.int .i64 8, .int .i64 N, .string A, .string Bn, .string D, .slice La Ll Lc] 48) := by rw [← hW]; exact blockZ _ _ rfl
  have y0 : W.cell? ⟨w.heap.size, 0, none⟩ = some (.int .i64 8) := by simp [World.cell?, hblk]
  have y1 : W.cell? ⟨w.heap.size, 1, none⟩ = some (.int .i64 N) := by simp [World.cell?, hblk]
  have y2 : W.cell? ⟨w.heap.size, 2, none⟩ = some (.string A) := by simp [World.cell?, hblk]
  have y3 : W.cell? ⟨w.heap.size, 3, none⟩ = some (.string Bn) := by simp [World.cell?, hblk]
  have y4 : W.cell? ⟨w.heap.size, 4, none⟩ = some (.string D) := by simp [World.cell?, hblk]
  have y5 : W.cell? ⟨w.heap.size, 5, none⟩ = some (.slice La Ll Lc) := by simp [World.cell?, hblk]
  have hsz : w.heap.size < W.heap.size := by rw [← hW]; simp
  have HT := Lib.hid (h.below (G := fun k => F k ∨ k = w.heap.size) hbW fun k hk => hk.elim .inl fun e => .inr ⟨by omega, by omega⟩)
  have HBW := Lib.hid hbW
  have HB := Lib.hid hB
  have HF := Lib.hid hF
  have CP := Lib.hid (Two.poke (PF := 47) (argsP := #[.pointer (some ⟨p, 0, none⟩), .int .i64 N]) 3 (.int .i64 r.bad) (.int .i64 (max N (-1))) HT.out (fun x hx => hs_bad4 hx N hNk) (fun _ => rfl) (r' := { r with bad := max N (-1) }) (fun _ => rfl) rfl rfl rfl rfl (HT.out.pair.bad N hNk))
  clear h hbW hblk hB hF
  go_enter Tryz.func13, Tryz.ntmps13
  go_wp2_with (first | (go_at_call 47; (with_reducible refine CP.out.mono ?_); rintro e w1 ⟨rfl, hk1, z0, z1, ht2, hk2, hb2⟩; have k1 := (World.cell?_of_block (hk1 w.heap.size (.inr rfl))).trans y1) | fail)
  go_ret
  exact ⟨rfl, Done.of (w' := W) HBW.out HB.out HF.out (ht2.up (Nat.le_add_right _ _) (Nat.le_add_right _ _)) hk2 hb2⟩
set_option maxHeartbeats 2000000 in
set_option maxRecDepth 100000 in
theorem do10_any (h : Two F B p q n m s r w) (_hN : n ≤ 90000) (_hM : m ≤ 1000000000) (N : Int) (A Bn D : ByteArray) (_hA : A.size ≤ 1000000) (_hBn : Bn.size ≤ 1000000) (_hD : D.size ≤ 1000000) (La : Option Addr) (Ll Lc : Nat) :
    Calls Tryz.prog 13 #[.pointer (some ⟨p, 0, none⟩), .pointer (some ⟨q, 0, none⟩), .agg #[.int .i64 10, .int .i64 N, .string A, .string Bn, .string D, .slice La Ll Lc]] w fun e w' => e = .returned (.bool true) ∧ Done F B p q (n + 2) (m + D.size) w w' := by
  have hB := h.size
  have hF := h.lt
  obtain ⟨W, hW⟩ : ∃ W, w.alloc (.cells #[.int .i64 10, .int .i64 N, .string A, .string Bn, .string D, .slice La Ll Lc] 48) = W := ⟨_, rfl⟩
  have hbW : Below w.heap.size w W := by rw [← hW]; exact (Below.refl _ _).alloc (Nat.le_refl _) _
  have hblk : W.heap[w.heap.size]? = some (.cells #[.int .i64 10, .int .i64 N, .string A, .string Bn, .string D, .slice La Ll Lc] 48) := by rw [← hW]; exact blockZ _ _ rfl
  have y0 : W.cell? ⟨w.heap.size, 0, none⟩ = some (.int .i64 10) := by simp [World.cell?, hblk]
  have y1 : W.cell? ⟨w.heap.size, 1, none⟩ = some (.int .i64 N) := by simp [World.cell?, hblk]
  have y2 : W.cell? ⟨w.heap.size, 2, none⟩ = some (.string A) := by simp [World.cell?, hblk]
  have y3 : W.cell? ⟨w.heap.size, 3, none⟩ = some (.string Bn) := by simp [World.cell?, hblk]
  have y4 : W.cell? ⟨w.heap.size, 4, none⟩ = some (.string D) := by simp [World.cell?, hblk]
  have y5 : W.cell? ⟨w.heap.size, 5, none⟩ = some (.slice La Ll Lc) := by simp [World.cell?, hblk]
  have hsz : w.heap.size < W.heap.size := by rw [← hW]; simp
  have HT := Lib.hid (h.below (G := fun k => F k ∨ k = w.heap.size) hbW fun k hk => hk.elim .inl fun e => .inr ⟨by omega, by omega⟩)
  have HBW := Lib.hid hbW
  have HB := Lib.hid hB
  have HF := Lib.hid hF
  have hmade : r.made = true := by
    obtain ⟨f, hf⟩ := h.pair.up
    exact hf.made.2
  have CP := Lib.hid (Two.poke (PF := 23) (argsP := #[.pointer (some ⟨p, 0, none⟩)]) 1 (.bool r.on) (.bool true) HT.out (fun x hx => hs_restore hx) (fun _ => rfl) (r' := r.restore) (fun x => by simp [refCells, St.restore, hmade]) rfl rfl rfl rfl HT.out.pair.restore)
  clear h hbW hblk hB hF hmade
  go_enter Tryz.func13, Tryz.ntmps13
  go_wp2_with (first | (go_at_call 23; (with_reducible refine CP.out.mono ?_); rintro e w1 ⟨rfl, hk1, z0, z1, ht2, hk2, hb2⟩) | fail)
  go_ret
  exact ⟨rfl, Done.of (w' := W) HBW.out HB.out HF.out (ht2.up (Nat.le_add_right _ _) (Nat.le_add_right _ _)) hk2 hb2⟩
set_option maxHeartbeats 2000000 in
set_option maxRecDepth 100000 in
theorem doX_any (h : Two F B p q n m s r w) (K : Int) (hK : K < 1 ∨ 10 < K) (N : Int) (A Bn D : ByteArray) (La : Option Addr) (Ll Lc : Nat) :
    Calls Tryz.prog 13 #[.pointer (some ⟨p, 0, none⟩), .pointer (some ⟨q, 0, none⟩), .agg #[.int .i64 K, .int .i64 N, .string A, .string Bn, .string D, .slice La Ll Lc]] w fun e w' => e = .returned (.bool true) ∧ Done F B p q (n + 2) (m + D.size) w w' := by
  have hB := h.size
  have hF := h.lt
  obtain ⟨W, hW⟩ : ∃ W, w.alloc (.cells #[.int .i64 K, .int .i64 N, .string A, .string Bn, .string D, .slice La Ll Lc] 48) = W := ⟨_, rfl⟩
  have hbW : Below w.heap.size w W := by rw [← hW]; exact (Below.refl _ _).alloc (Nat.le_refl _) _
  have hblk : W.heap[w.heap.size]? = some (.cells #[.int .i64 K, .int .i64 N, .string A, .string Bn, .string D, .slice La Ll Lc] 48) := by rw [← hW]; exact blockZ _ _ rfl
  have y0 : W.cell? ⟨w.heap.size, 0, none⟩ = some (.int .i64 K) := by simp [World.cell?, hblk]
  have _y1 : W.cell? ⟨w.heap.size, 1, none⟩ = some (.int .i64 N) := by simp [World.cell?, hblk]
  have _y2 : W.cell? ⟨w.heap.size, 2, none⟩ = some (.string A) := by simp [World.cell?, hblk]
  have y3 : W.cell? ⟨w.heap.size, 3, none⟩ = some (.string Bn) := by simp [World.cell?, hblk]
  have y4 : W.cell? ⟨w.heap.size, 4, none⟩ = some (.string D) := by simp [World.cell?, hblk]
  have y5 : W.cell? ⟨w.heap.size, 5, none⟩ = some (.slice La Ll Lc) := by simp [World.cell?, hblk]
  have hsz : w.heap.size < W.heap.size := by rw [← hW]; simp
  have HT := Lib.hid (h.below (G := fun k => F k ∨ k = w.heap.size) hbW fun k hk => hk.elim .inl fun e => .inr ⟨by omega, by omega⟩)
  have HBW := Lib.hid hbW
  have HB := Lib.hid hB
  have HF := Lib.hid hF
  have n1 : (K == 1) = false := by simp; omega
  have n2 : (K == 2) = false := by simp; omega
  have n3 : (K == 3) = false := by simp; omega
  have n4 : (K == 4) = false := by simp; omega
  have n5 : (K == 5) = false := by simp; omega
  have n6 : (K == 6) = false := by simp; omega
  have n7 : (K == 7) = false := by simp; omega
  have n8 : (K == 8) = false := by simp; omega
  have n9 : (K == 9) = false := by simp; omega
  have n10 : (K == 10) = false := by simp; omega
  clear h hbW hblk hB hF
  go_enter Tryz.func13, Tryz.ntmps13
  go_wp2
  go_ret
  exact ⟨rfl, Done.of (w' := W) HBW.out HB.out HF.out (HT.out.up (Nat.le_add_right _ _) (Nat.le_add_right _ _)) (Kp.refl _ _) (Below.refl _ _)⟩
end
end Go.Proofs.YtfndlfnlepndmaaGreat
