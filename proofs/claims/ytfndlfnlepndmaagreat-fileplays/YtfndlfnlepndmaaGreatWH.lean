/- A System of the call's own beside blocks that are no part of it. -/
import Derived.Test.YtfndlfnlepndmaaGreatF4
namespace Go.Proofs.YtfndlfnlepndmaaGreat
open Go.RowKit

/-- The blocks F stay. -/
def Kp (F : Nat → Prop) (w w' : World) : Prop := ∀ k, F k → w'.heap[k]? = w.heap[k]?
theorem Kp.refl (F : Nat → Prop) (w : World) : Kp F w w := fun _ _ => rfl
theorem Kp.trans {F : Nat → Prop} {a b c : World} (h : Kp F a b) (k : Kp F b c) : Kp F a c := fun x hx => (k x hx).trans (h x hx)
theorem Kp.mono {F G : Nat → Prop} {a b : World} (h : Kp F a b) (hG : ∀ k, G k → F k) : Kp G a b := fun x hx => h x (hG x hx)
/-- At p lies a System in state s, all of it from block B on; the blocks F are no part of it. -/
def Hs (F : Nat → Prop) (B p n m : Nat) (s : St) (w : World) : Prop :=
  ∃ r, Sys w r s ∧ r.p = p ∧ (∀ k ∈ r.foot, B ≤ k) ∧ Lim n m s ∧ Coh s ∧ ∀ k, F k → k ∉ r.foot ∧ k < w.heap.size
section
variable {F G : Nat → Prop} {B p n m : Nat} {s : St} {w : World}
theorem Hs.has (h : Hs F B p n m s w) : Has B p n m s w := by
  obtain ⟨r, h1, h2, h3, h4, h5, -⟩ := h
  exact ⟨r, h1, h2, h3, h4, h5⟩
theorem Hs.size (h : Hs F B p n m s w) : B ≤ w.heap.size := h.has.size
theorem Hs.lt (h : Hs F B p n m s w) : ∀ k, F k → k < w.heap.size := by
  obtain ⟨r, h1, h2, h3, h4, h5, h6⟩ := h
  exact fun k hk => (h6 k hk).2
theorem Has.hs (h : Has B p n m s w) : Hs (fun _ => False) B p n m s w := by
  obtain ⟨r, h1, h2, h3, h4, h5⟩ := h
  exact ⟨r, h1, h2, h3, h4, h5, fun _ hk => hk.elim⟩
theorem Hs.below {w' : World} (h : Hs F B p n m s w) (hb : Below w.heap.size w w') (hG : ∀ k, G k → F k ∨ (w.heap.size ≤ k ∧ k < w'.heap.size)) : Hs G B p n m s w' := by
  obtain ⟨r, h1, h2, h3, h4, h5, h6⟩ := h
  refine ⟨r, h1.below hb, h2, h3, h4, h5, fun k hk => ?_⟩
  rcases hG k hk with hf | ⟨ha, hc⟩
  · exact ⟨(h6 k hf).1, Nat.lt_of_lt_of_le (h6 k hf).2 hb.size⟩
  · exact ⟨fun hm => by have := h1.lt k hm; omega, hc⟩
theorem Hs.same {w' : World} (h : Hs F B p n m s w) (hb : Below w.heap.size w w') : Hs F B p n m s w' := h.below hb fun _ hk => .inl hk
theorem Hs.fewer (h : Hs F B p n m s w) (hG : ∀ k, G k → F k) : Hs G B p n m s w := by
  obtain ⟨r, h1, h2, h3, h4, h5, h6⟩ := h
  exact ⟨r, h1, h2, h3, h4, h5, fun k hk => h6 k (hG k hk)⟩
theorem Hs.up {n' m' : Nat} (h : Hs F B p n m s w) (hn : n ≤ n') (hm : m ≤ m') : Hs F B p n' m' s w := by
  obtain ⟨r, h1, h2, h3, h4, h5, h6⟩ := h
  exact ⟨r, h1, h2, h3, h4.up hn hm, h5, h6⟩
/-- Blocks of F were written. -/
theorem Hs.wrote {w' : World} (h : Hs F B p n m s w) (hs : w.heap.size ≤ w'.heap.size) (hk : ∀ k, k < w.heap.size → ¬ F k → w'.heap[k]? = w.heap[k]?) : Hs F B p n m s w' := by
  obtain ⟨r, h1, h2, h3, h4, h5, h6⟩ := h
  exact ⟨r, h1.kept (fun k hm => hk k (h1.lt k hm) (fun hf => (h6 k hf).1 hm)), h2, h3, h4, h5, fun k hf => ⟨(h6 k hf).1, Nat.lt_of_lt_of_le (h6 k hf).2 hs⟩⟩
theorem Hs.next {w' : World} {r : Rep} {s' : St} {n' m' : Nat} (hB : B ≤ w.heap.size) (hf : ∀ k ∈ r.foot, B ≤ k) (hp : r.p = p) (h : Next w r s' w') (hl : Lim n' m' s') (hc : Coh s')
    (h6 : ∀ k, F k → k ∉ r.foot ∧ k < w.heap.size) : Hs F B p n' m' s' w' ∧ Below B w w' ∧ Kp F w w' := by
  obtain ⟨r', h1, h2, h3, h4⟩ := h
  refine ⟨⟨r', h1, h2.trans hp, fun k hk => ?_, hl, hc, fun k hk => ?_⟩, h3.below hB hf, fun k hk => h3.block k (h6 k hk).2 (h6 k hk).1⟩
  · rcases h4 k hk with h' | h'
    · exact hf k h'
    · omega
  · obtain ⟨a, b⟩ := h6 k hk
    refine ⟨fun hm => ?_, Nat.lt_of_lt_of_le b h3.size⟩
    rcases h4 k hm with h' | h'
    · exact a h'
    · omega
theorem hs_create (h : Hs F B p n m s w) (hN : n ≤ 100000) (name : ByteArray) (hn : name.size ≤ maxLen) :
    Calls Tryz.prog 9 #[.pointer (some ⟨p, 0, none⟩), .string name] w fun e w' => e = .returned (.int .i64 (s.create name.data.toList).2) ∧ Hs F B p (n + 2) m (s.create name.data.toList).1 w' ∧ Below B w w' ∧ Kp F w w' := by
  have hB := h.size
  obtain ⟨r, h1, rfl, h3, h4, h5, h6⟩ := h
  refine (create_any h1 h4 hN name hn).mono ?_
  rintro e w' ⟨rfl, hn'⟩
  exact ⟨rfl, Hs.next hB h3 rfl hn' (create_lim h4 _) (create_coh h5 _) h6⟩
theorem hs_append (h : Hs F B p n m s w) (hN : n ≤ 100000) (name : ByteArray) (hn : name.size ≤ maxLen) (data : ByteArray) (hM : m ≤ 1000000000) (hD : data.size ≤ 1000000000) :
    Calls Tryz.prog 10 #[.pointer (some ⟨p, 0, none⟩), .string name, .string data] w fun e w' => e = .returned (.int .i64 (s.append name.data.toList data.data.toList).2) ∧ Hs F B p (n + 1) (m + data.size) (s.append name.data.toList data.data.toList).1 w' ∧ Below B w w' ∧ Kp F w w' := by
  have hB := h.size
  obtain ⟨r, h1, rfl, h3, h4, h5, h6⟩ := h
  refine (append_any h1 h4 hN name hn data (by unfold maxLen; omega) hM hD).mono ?_
  rintro e w' ⟨rfl, hn'⟩
  exact ⟨rfl, Hs.next hB h3 rfl hn' (append_lim h4 _ data.data.toList) (append_coh h5 _ _) h6⟩
theorem hs_sync (h : Hs F B p n m s w) (hN : n ≤ 100000) (name : ByteArray) (hn : name.size ≤ maxLen) :
    Calls Tryz.prog 41 #[.pointer (some ⟨p, 0, none⟩), .string name] w fun e w' => e = .returned (.int .i64 (s.sync name.data.toList).2) ∧ Hs F B p (n + 1) m (s.sync name.data.toList).1 w' ∧ Below B w w' ∧ Kp F w w' := by
  have hB := h.size
  obtain ⟨r, h1, rfl, h3, h4, h5, h6⟩ := h
  refine (sync_any h1 h4 hN name hn).mono ?_
  rintro e w' ⟨rfl, hn'⟩
  exact ⟨rfl, Hs.next hB h3 rfl hn' (sync_lim h4 _) (sync_coh h5 _) h6⟩
theorem hs_syncDir (h : Hs F B p n m s w) (hN : n ≤ 100000) :
    Calls Tryz.prog 21 #[.pointer (some ⟨p, 0, none⟩)] w fun e w' => e = .returned (.int .i64 s.syncDir.2) ∧ Hs F B p (n + 1) m s.syncDir.1 w' ∧ Below B w w' ∧ Kp F w w' := by
  have hB := h.size
  obtain ⟨r, h1, rfl, h3, h4, h5, h6⟩ := h
  refine (syncDir_any h1 h4 hN).mono ?_
  rintro e w' ⟨rfl, hn'⟩
  exact ⟨rfl, Hs.next hB h3 rfl hn' (syncDir_lim h4) (syncDir_coh h5) h6⟩
theorem hs_restore (h : Hs F B p n m s w) :
    Calls Tryz.prog 23 #[.pointer (some ⟨p, 0, none⟩)] w fun e w' => e = .returned (.tuple #[]) ∧ Hs F B p n m s.restore w' ∧ Below B w w' ∧ Kp F w w' := by
  have hB := h.size
  obtain ⟨r, h1, rfl, h3, h4, h5, h6⟩ := h
  refine (restore_any h1).mono ?_
  rintro e w' ⟨rfl, hn'⟩
  exact ⟨rfl, Hs.next hB h3 rfl hn' (restore_lim h4) (restore_coh h5) h6⟩
/-- One number, just laid. -/
theorem hs_crash1 (h : Hs F B p n m s w) (hN : n ≤ 100000) (hM : m ≤ 1000000000) (dir k : Int) :
    Calls Tryz.prog 12 #[.pointer (some ⟨p, 0, none⟩), .int .i64 dir, .slice (some ⟨w.heap.size, 0, none⟩) 1 1] (w.alloc (.cells #[.int .i64 k] 3)) fun e w' => e = .returned (.tuple #[]) ∧ Hs F B p n m (s.crash dir [k]) w' ∧ Below B w w' ∧ Kp F w w' := by
  have hB := h.size
  have hlt := h.lt
  obtain ⟨r, h1, rfl, h3, h4, h5, h6⟩ := h
  have hb : Below w.heap.size w (w.alloc (.cells #[.int .i64 k] 3)) := (Below.refl _ _).alloc (Nat.le_refl _) _
  refine (crash_any (h1.below hb) h4 hN hM h5 dir _ [k] ⟨some ⟨w.heap.size, 0, none⟩, 1, rfl, by unfold maxLen; omega, Nat.le_refl _, fun i hi => ⟨w.heap.size, 0, rfl, fun hm => Nat.lt_irrefl _ (h1.lt _ hm), ?_⟩⟩).mono ?_
  · obtain rfl : i = 0 := by simp at hi; omega
    exact ncell rfl rfl
  rintro e w' ⟨rfl, hn'⟩
  have hx := Hs.next (F := F) (B := B) (p := r.p) (by simp; omega) h3 rfl hn' (crash_lim h4 _ _) (crash_coh _ _ _) (fun k hk => ⟨(h6 k hk).1, by have := (h6 k hk).2; simp; omega⟩)
  exact ⟨rfl, hx.1, (hb.mono hB).trans hx.2.1, fun k hk => (hx.2.2 k hk).trans (hb.block k (hlt k hk))⟩
theorem hs_new (room : Int) (hr : room ≤ 9223372036854775807) (w : World) : Calls Tryz.prog 6 #[.int .i64 room] w fun e w' => ∃ p, e = .returned (.pointer (some ⟨p, 0, none⟩)) ∧ Hs (fun k => k < w.heap.size) w.heap.size p 0 0 (St.new room) w' ∧ Below w.heap.size w w' := by
  refine (has_new room hr w).mono ?_
  rintro e w' ⟨p, rfl, ⟨r, h1, h2, h3, h4, h5⟩, hb⟩
  exact ⟨p, rfl, ⟨r, h1, h2, h3, h4, h5, fun k hk => ⟨fun hm => by have := h3 k hm; omega, Nat.lt_of_lt_of_le hk hb.size⟩⟩, hb⟩
theorem hs_read (h : Hs F B p n m s w) (name : ByteArray) (hn : name.size ≤ maxLen) :
    Calls Tryz.prog 16 #[.pointer (some ⟨p, 0, none⟩), .string name] w fun e w' => e = .returned (readV (s.read name.data.toList)) ∧ w = w' := has_read h.has name hn
theorem hs_names (h : Hs F B p n m s w) (hN : n ≤ 1000000) :
    Calls Tryz.prog 15 #[.pointer (some ⟨p, 0, none⟩)] w fun e w' => ∃ v, e = .returned v ∧ Row w' 9 1 v s.names.length (nmVals s.names) ∧ Hs F B p n m s w' ∧ Below w.heap.size w w' := by
  refine (has_names h.has hN).mono ?_
  rintro e w' ⟨v, rfl, hr, -, hb⟩
  exact ⟨v, rfl, hr, h.same hb, hb⟩
theorem hs_on (h : Hs F B p n m s w) : Calls Tryz.prog 52 #[.pointer (some ⟨p, 0, none⟩)] w fun e w' => e = .returned (.bool s.on) ∧ w = w' := has_on h.has
end
end Go.Proofs.YtfndlfnlepndmaaGreat
