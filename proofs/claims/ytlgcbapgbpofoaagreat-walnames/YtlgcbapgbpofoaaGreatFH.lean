/- A System of the call's own: what each call answers, and what it is then. -/
import Derived.Test.YtlgcbapgbpofoaaGreatFN
namespace Go.Proofs.YtlgcbapgbpofoaaGreat
open Go.RowKit

/-- At p lies a System in state s, all of it from block B on. -/
def Has (B p n m : Nat) (s : St) (w : World) : Prop := ∃ r, Sys w r s ∧ r.p = p ∧ (∀ k ∈ r.foot, B ≤ k) ∧ Lim n m s ∧ Coh s
section
variable {B p n m : Nat} {s : St} {w : World}
theorem Has.size (h : Has B p n m s w) : B ≤ w.heap.size := by
  obtain ⟨r, h1, -, h3, -⟩ := h
  have a := h3 r.p (by simp [Rep.foot])
  have b := h1.lt r.p (by simp [Rep.foot])
  omega
theorem Has.next {w' : World} {r : Rep} {s' : St} {n' m' : Nat} (hB : B ≤ w.heap.size) (hf : ∀ k ∈ r.foot, B ≤ k) (hp : r.p = p) (h : Next w r s' w') (hl : Lim n' m' s') (hc : Coh s') : Has B p n' m' s' w' ∧ Below B w w' := by
  obtain ⟨r', h1, h2, h3, h4⟩ := h
  refine ⟨⟨r', h1, h2.trans hp, fun k hk => ?_, hl, hc⟩, h3.below hB hf⟩
  rcases h4 k hk with h' | h'
  · exact hf k h'
  · omega
theorem Has.below {w' : World} (h : Has B p n m s w) (hb : Below w.heap.size w w') : Has B p n m s w' := by
  obtain ⟨r, h1, h2, h3, h4⟩ := h
  exact ⟨r, h1.below hb, h2, h3, h4⟩
theorem Has.drew (h : Has B p n m s w) : Has B p n m s w.drew := by
  obtain ⟨r, h1, h2, h3, h4⟩ := h
  exact ⟨r, h1.drew, h2, h3, h4⟩
theorem Has.up {n' m' : Nat} (h : Has B p n m s w) (hn : n ≤ n') (hm : m ≤ m') : Has B p n' m' s w := by
  obtain ⟨r, h1, h2, h3, h4, h5⟩ := h
  exact ⟨r, h1, h2, h3, h4.up hn hm, h5⟩
theorem has_new (room : Int) (hr : room ≤ 9223372036854775807) (w : World) : Calls Tryz.prog 24 #[.int .i64 room] w fun e w' => ∃ p, e = .returned (.pointer (some ⟨p, 0, none⟩)) ∧ Has w.heap.size p 0 0 (St.new room) w' ∧ Below w.heap.size w w' := by
  refine (new_any room w).mono ?_
  rintro e w' ⟨r, rfl, h1, h2, h3⟩
  exact ⟨r.p, rfl, ⟨r, h1, rfl, h3, new_lim room hr, new_coh room⟩, h2⟩
theorem has_create (h : Has B p n m s w) (hN : n ≤ 100000) (name : ByteArray) (hn : name.size ≤ maxLen) :
    Calls Tryz.prog 49 #[.pointer (some ⟨p, 0, none⟩), .string name] w fun e w' => e = .returned (.int .i64 (s.create name.data.toList).2) ∧ Has B p (n + 2) m (s.create name.data.toList).1 w' ∧ Below B w w' := by
  have hB := h.size
  obtain ⟨r, h1, rfl, h3, h4, h5⟩ := h
  refine (create_any h1 h4 hN name hn).mono ?_
  rintro e w' ⟨rfl, hn'⟩
  exact ⟨rfl, Has.next hB h3 rfl hn' (create_lim h4 _) (create_coh h5 _)⟩
theorem has_append (h : Has B p n m s w) (hN : n ≤ 100000) (name : ByteArray) (hn : name.size ≤ maxLen) (data : ByteArray) (hM : m ≤ 1000000000) (hD : data.size ≤ 1000000000) :
    Calls Tryz.prog 137 #[.pointer (some ⟨p, 0, none⟩), .string name, .string data] w fun e w' => e = .returned (.int .i64 (s.append name.data.toList data.data.toList).2) ∧ Has B p (n + 1) (m + data.size) (s.append name.data.toList data.data.toList).1 w' ∧ Below B w w' := by
  have hB := h.size
  obtain ⟨r, h1, rfl, h3, h4, h5⟩ := h
  refine (append_any h1 h4 hN name hn data (by unfold maxLen; omega) hM hD).mono ?_
  rintro e w' ⟨rfl, hn'⟩
  exact ⟨rfl, Has.next hB h3 rfl hn' (append_lim h4 _ data.data.toList) (append_coh h5 _ _)⟩
theorem has_rename (h : Has B p n m s w) (hN : n ≤ 100000) (a : ByteArray) (ha : a.size ≤ maxLen) (b : ByteArray) (hb : b.size ≤ maxLen) :
    Calls Tryz.prog 143 #[.pointer (some ⟨p, 0, none⟩), .string a, .string b] w fun e w' => e = .returned (.int .i64 (s.rename a.data.toList b.data.toList).2) ∧ Has B p (n + 2) m (s.rename a.data.toList b.data.toList).1 w' ∧ Below B w w' := by
  have hB := h.size
  obtain ⟨r, h1, rfl, h3, h4, h5⟩ := h
  refine (rename_any h1 h4 hN a ha b hb).mono ?_
  rintro e w' ⟨rfl, hn'⟩
  exact ⟨rfl, Has.next hB h3 rfl hn' (rename_lim h4 _ _) (rename_coh h5 h1.wf.nnms _ _)⟩
theorem has_remove (h : Has B p n m s w) (hN : n ≤ 100000) (name : ByteArray) (hn : name.size ≤ maxLen) :
    Calls Tryz.prog 145 #[.pointer (some ⟨p, 0, none⟩), .string name] w fun e w' => e = .returned (.int .i64 (s.remove name.data.toList).2) ∧ Has B p (n + 2) m (s.remove name.data.toList).1 w' ∧ Below B w w' := by
  have hB := h.size
  obtain ⟨r, h1, rfl, h3, h4, h5⟩ := h
  refine (remove_any h1 h4 hN name hn).mono ?_
  rintro e w' ⟨rfl, hn'⟩
  exact ⟨rfl, Has.next hB h3 rfl hn' (remove_lim h4 _) (remove_coh h5 _)⟩
theorem has_sync (h : Has B p n m s w) (hN : n ≤ 100000) (name : ByteArray) (hn : name.size ≤ maxLen) :
    Calls Tryz.prog 140 #[.pointer (some ⟨p, 0, none⟩), .string name] w fun e w' => e = .returned (.int .i64 (s.sync name.data.toList).2) ∧ Has B p (n + 1) m (s.sync name.data.toList).1 w' ∧ Below B w w' := by
  have hB := h.size
  obtain ⟨r, h1, rfl, h3, h4, h5⟩ := h
  refine (sync_any h1 h4 hN name hn).mono ?_
  rintro e w' ⟨rfl, hn'⟩
  exact ⟨rfl, Has.next hB h3 rfl hn' (sync_lim h4 _) (sync_coh h5 _)⟩
theorem has_syncDir (h : Has B p n m s w) (hN : n ≤ 100000) :
    Calls Tryz.prog 142 #[.pointer (some ⟨p, 0, none⟩)] w fun e w' => e = .returned (.int .i64 s.syncDir.2) ∧ Has B p (n + 1) m s.syncDir.1 w' ∧ Below B w w' := by
  have hB := h.size
  obtain ⟨r, h1, rfl, h3, h4, h5⟩ := h
  refine (syncDir_any h1 h4 hN).mono ?_
  rintro e w' ⟨rfl, hn'⟩
  exact ⟨rfl, Has.next hB h3 rfl hn' (syncDir_lim h4) (syncDir_coh h5)⟩
theorem has_restore (h : Has B p n m s w) :
    Calls Tryz.prog 48 #[.pointer (some ⟨p, 0, none⟩)] w fun e w' => e = .returned (.tuple #[]) ∧ Has B p n m s.restore w' ∧ Below B w w' := by
  have hB := h.size
  obtain ⟨r, h1, rfl, h3, h4, h5⟩ := h
  refine (restore_any h1).mono ?_
  rintro e w' ⟨rfl, hn'⟩
  exact ⟨rfl, Has.next hB h3 rfl hn' (restore_lim h4) (restore_coh h5)⟩
/-- Numbers that are handed in, in one block that is no part of what lies from B on, or in none. -/
theorem has_crash (h : Has B p n m s w) (hN : n ≤ 100000) (hM : m ≤ 1000000000) (dir : Int) (kv : Value) (ks : List Int) (hks : ∀ r, Sys w r s → KeepAt w r.foot kv ks) :
    Calls Tryz.prog 47 #[.pointer (some ⟨p, 0, none⟩), .int .i64 dir, kv] w fun e w' => e = .returned (.tuple #[]) ∧ Has B p n m (s.crash dir ks) w' ∧ Below B w w' := by
  have hB := h.size
  obtain ⟨r, h1, rfl, h3, h4, h5⟩ := h
  refine (crash_any h1 h4 hN hM h5 dir kv ks (hks r h1)).mono ?_
  rintro e w' ⟨rfl, hn'⟩
  exact ⟨rfl, Has.next hB h3 rfl hn' (crash_lim h4 _ _) (crash_coh _ _ _)⟩
/-- One number, just laid. -/
theorem has_crash1 (h : Has B p n m s w) (hN : n ≤ 100000) (hM : m ≤ 1000000000) (dir k : Int) :
    Calls Tryz.prog 47 #[.pointer (some ⟨p, 0, none⟩), .int .i64 dir, .slice (some ⟨w.heap.size, 0, none⟩) 1 1] (w.alloc (.cells #[.int .i64 k] 3)) fun e w' => e = .returned (.tuple #[]) ∧ Has B p n m (s.crash dir [k]) w' ∧ Below B w w' := by
  have hB := h.size
  obtain ⟨r, h1, rfl, h3, h4, h5⟩ := h
  have hb : Below w.heap.size w (w.alloc (.cells #[.int .i64 k] 3)) := (Below.refl _ _).alloc (Nat.le_refl _) _
  refine (crash_any (h1.below hb) h4 hN hM h5 dir _ [k] ⟨some ⟨w.heap.size, 0, none⟩, 1, rfl, by unfold maxLen; omega, Nat.le_refl _, fun i hi => ⟨w.heap.size, 0, rfl, fun hm => Nat.lt_irrefl _ (h1.lt _ hm), ?_⟩⟩).mono ?_
  · obtain rfl : i = 0 := by simp at hi; omega
    exact ncell rfl rfl
  rintro e w' ⟨rfl, hn'⟩
  have hx := Has.next (B := B) (p := r.p) (by simp; omega) h3 rfl hn' (crash_lim h4 _ _) (crash_coh _ _ _)
  exact ⟨rfl, hx.1, (hb.mono hB).trans hx.2⟩
theorem has_crash0 (h : Has B p n m s w) (hN : n ≤ 100000) (hM : m ≤ 1000000000) (dir : Int) :
    Calls Tryz.prog 47 #[.pointer (some ⟨p, 0, none⟩), .int .i64 dir, .slice none 0 0] w fun e w' => e = .returned (.tuple #[]) ∧ Has B p n m (s.crash dir []) w' ∧ Below B w w' :=
  has_crash h hN hM dir _ [] (fun _ _ => keep_nil _ _)
theorem has_read (h : Has B p n m s w) (name : ByteArray) (hn : name.size ≤ maxLen) :
    Calls Tryz.prog 50 #[.pointer (some ⟨p, 0, none⟩), .string name] w fun e w' => e = .returned (readV (s.read name.data.toList)) ∧ w = w' := by
  obtain ⟨r, h1, rfl, -⟩ := h
  exact read_any h1 name hn
theorem has_names (h : Has B p n m s w) (hN : n ≤ 1000000) :
    Calls Tryz.prog 161 #[.pointer (some ⟨p, 0, none⟩)] w fun e w' => ∃ v, e = .returned v ∧ Row w' 9 1 v s.names.length (nmVals s.names) ∧ Has B p n m s w' ∧ Below w.heap.size w w' := by
  have h0 := h
  obtain ⟨r, h1, rfl, -, h4, -⟩ := h
  refine (namesS_any h1 h4 hN).mono ?_
  rintro e w' ⟨v, rfl, hr, hb, -⟩
  exact ⟨v, rfl, hr, h0.below hb, hb⟩
theorem has_steps (h : Has B p n m s w) : Calls Tryz.prog 164 #[.pointer (some ⟨p, 0, none⟩)] w fun e w' => e = .returned (.int .i64 s.steps) ∧ w = w' := by
  obtain ⟨r, h1, rfl, -⟩ := h
  exact steps_any h1
theorem has_on (h : Has B p n m s w) : Calls Tryz.prog 46 #[.pointer (some ⟨p, 0, none⟩)] w fun e w' => e = .returned (.bool s.on) ∧ w = w' := by
  obtain ⟨r, h1, rfl, -⟩ := h
  exact on_at _ _ _ h1.c1
theorem has_used (h : Has B p n m s w) (hN : n ≤ 1000000) (hM : m ≤ 1000000000) : Calls Tryz.prog 162 #[.pointer (some ⟨p, 0, none⟩)] w fun e w' => e = .returned (.int .i64 (used s.files s.now : Nat)) ∧ Has B p n m s w' ∧ Below w.heap.size w w' := by
  have h0 := h
  obtain ⟨r, h1, rfl, -, h4, -⟩ := h
  refine (used_any h1 h4 hN hM).mono ?_
  rintro e w' ⟨rfl, hb⟩
  exact ⟨rfl, h0.below hb, hb⟩
theorem has_fuse (h : Has B p n m s w) (k : Int) (hk : k ≤ 9223372036854775807) : Calls Tryz.prog 45 #[.pointer (some ⟨p, 0, none⟩), .int .i64 k] w fun e w' => e = .returned (.tuple #[]) ∧ Has B p n m { s with fuse := k } w' ∧ Below B w w' := by
  have hB := h.size
  obtain ⟨r, h1, rfl, h3, h4, h5⟩ := h
  refine (fuse_any h1 k).mono ?_
  rintro e w' ⟨rfl, hn'⟩
  exact ⟨rfl, Has.next hB h3 rfl hn' ⟨h4.s0, h4.s1, h4.dirs, h4.nowl, h4.files, h4.bytes, hk, h4.bad, h4.room⟩ (h5.of rfl rfl rfl)⟩
theorem has_bad (h : Has B p n m s w) (k : Int) (hk : k ≤ 9223372036854775807) : Calls Tryz.prog 147 #[.pointer (some ⟨p, 0, none⟩), .int .i64 k] w fun e w' => e = .returned (.tuple #[]) ∧ Has B p n m { s with bad := k } w' ∧ Below B w w' := by
  have hB := h.size
  obtain ⟨r, h1, rfl, h3, h4, h5⟩ := h
  refine (bad_any h1 k).mono ?_
  rintro e w' ⟨rfl, hn'⟩
  exact ⟨rfl, Has.next hB h3 rfl hn' ⟨h4.s0, h4.s1, h4.dirs, h4.nowl, h4.files, h4.bytes, h4.fuse, hk, h4.room⟩ (h5.of rfl rfl rfl)⟩
end
end Go.Proofs.YtlgcbapgbpofoaaGreat
