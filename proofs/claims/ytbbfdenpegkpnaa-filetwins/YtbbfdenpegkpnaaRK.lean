/- A System of the call's own beside blocks that stay; run beside them. -/
import Derived.Test.YtbbfdenpegkpnaaRN
namespace Go.Proofs.Ytbbfdenpegkpnaa
open Go.RowKit

/-- At p lies a System in state s, all of it from block B on; the blocks K are no part of it and are as they were in w1. -/
def HasK (K : Nat → Prop) (w1 : World) (B p n m : Nat) (s : St) (w : World) : Prop :=
  ∃ r, Sys w r s ∧ r.p = p ∧ (∀ k ∈ r.foot, B ≤ k) ∧ Lim n m s ∧ Coh s ∧ ∀ k, K k → k ∉ r.foot ∧ k < w.heap.size ∧ w.heap[k]? = w1.heap[k]?
section
variable {K : Nat → Prop} {w1 : World} {B p n m : Nat} {s : St} {w : World}
theorem HasK.has (h : HasK K w1 B p n m s w) : Has B p n m s w := by
  obtain ⟨r, h1, h2, h3, h4, h5, -⟩ := h
  exact ⟨r, h1, h2, h3, h4, h5⟩
theorem HasK.size (h : HasK K w1 B p n m s w) : B ≤ w.heap.size := h.has.size
theorem HasK.kept (h : HasK K w1 B p n m s w) : ∀ k, K k → w.heap[k]? = w1.heap[k]? := by
  obtain ⟨r, h1, h2, h3, h4, h5, h6⟩ := h
  exact fun k hk => (h6 k hk).2.2
theorem HasK.next {w' : World} {r : Rep} {s' : St} {n' m' : Nat} (hB : B ≤ w.heap.size) (hf : ∀ k ∈ r.foot, B ≤ k) (hp : r.p = p) (h : Next w r s' w') (hl : Lim n' m' s') (hc : Coh s')
    (h6 : ∀ k, K k → k ∉ r.foot ∧ k < w.heap.size ∧ w.heap[k]? = w1.heap[k]?) : HasK K w1 B p n' m' s' w' ∧ Below B w w' := by
  obtain ⟨r', h1, h2, h3, h4⟩ := h
  refine ⟨⟨r', h1, h2.trans hp, fun k hk => ?_, hl, hc, fun k hk => ?_⟩, h3.below hB hf⟩
  · rcases h4 k hk with h' | h'
    · exact hf k h'
    · omega
  · obtain ⟨a, b, c⟩ := h6 k hk
    refine ⟨fun hm => ?_, Nat.lt_of_lt_of_le b h3.size, (h3.block k b a).trans c⟩
    rcases h4 k hm with h' | h'
    · exact a h'
    · omega
theorem HasK.drew (h : HasK K w1 B p n m s w) : HasK K w1 B p n m s w.drew := by
  obtain ⟨r, h1, h2, h3, h4, h5, h6⟩ := h
  exact ⟨r, h1.drew, h2, h3, h4, h5, h6⟩
theorem HasK.up {n' m' : Nat} (h : HasK K w1 B p n m s w) (hn : n ≤ n') (hm : m ≤ m') : HasK K w1 B p n' m' s w := by
  obtain ⟨r, h1, h2, h3, h4, h5, h6⟩ := h
  exact ⟨r, h1, h2, h3, h4.up hn hm, h5, h6⟩
theorem hasK_create (h : HasK K w1 B p n m s w) (hN : n ≤ 100000) (name : ByteArray) (hn : name.size ≤ maxLen) :
    Calls Try.prog 29 #[.pointer (some ⟨p, 0, none⟩), .string name] w fun e w' => e = .returned (.int .i64 (s.create name.data.toList).2) ∧ HasK K w1 B p (n + 2) m (s.create name.data.toList).1 w' ∧ Below B w w' := by
  have hB := h.size
  obtain ⟨r, h1, rfl, h3, h4, h5, h6⟩ := h
  refine (create_any h1 h4 hN name hn).mono ?_
  rintro e w' ⟨rfl, hn'⟩
  exact ⟨rfl, HasK.next hB h3 rfl hn' (create_lim h4 _) (create_coh h5 _) h6⟩
theorem hasK_append (h : HasK K w1 B p n m s w) (hN : n ≤ 100000) (name : ByteArray) (hn : name.size ≤ maxLen) (data : ByteArray) (hM : m ≤ 1000000000) (hD : data.size ≤ 1000000000) :
    Calls Try.prog 31 #[.pointer (some ⟨p, 0, none⟩), .string name, .string data] w fun e w' => e = .returned (.int .i64 (s.append name.data.toList data.data.toList).2) ∧ HasK K w1 B p (n + 1) (m + data.size) (s.append name.data.toList data.data.toList).1 w' ∧ Below B w w' := by
  have hB := h.size
  obtain ⟨r, h1, rfl, h3, h4, h5, h6⟩ := h
  refine (append_any h1 h4 hN name hn data (by unfold maxLen; omega) hM hD).mono ?_
  rintro e w' ⟨rfl, hn'⟩
  exact ⟨rfl, HasK.next hB h3 rfl hn' (append_lim h4 _ data.data.toList) (append_coh h5 _ _) h6⟩
theorem hasK_rename (h : HasK K w1 B p n m s w) (hN : n ≤ 100000) (a : ByteArray) (ha : a.size ≤ maxLen) (b : ByteArray) (hb : b.size ≤ maxLen) :
    Calls Try.prog 32 #[.pointer (some ⟨p, 0, none⟩), .string a, .string b] w fun e w' => e = .returned (.int .i64 (s.rename a.data.toList b.data.toList).2) ∧ HasK K w1 B p (n + 2) m (s.rename a.data.toList b.data.toList).1 w' ∧ Below B w w' := by
  have hB := h.size
  obtain ⟨r, h1, rfl, h3, h4, h5, h6⟩ := h
  refine (rename_any h1 h4 hN a ha b hb).mono ?_
  rintro e w' ⟨rfl, hn'⟩
  exact ⟨rfl, HasK.next hB h3 rfl hn' (rename_lim h4 _ _) (rename_coh h5 h1.wf.nnms _ _) h6⟩
theorem hasK_remove (h : HasK K w1 B p n m s w) (hN : n ≤ 100000) (name : ByteArray) (hn : name.size ≤ maxLen) :
    Calls Try.prog 36 #[.pointer (some ⟨p, 0, none⟩), .string name] w fun e w' => e = .returned (.int .i64 (s.remove name.data.toList).2) ∧ HasK K w1 B p (n + 2) m (s.remove name.data.toList).1 w' ∧ Below B w w' := by
  have hB := h.size
  obtain ⟨r, h1, rfl, h3, h4, h5, h6⟩ := h
  refine (remove_any h1 h4 hN name hn).mono ?_
  rintro e w' ⟨rfl, hn'⟩
  exact ⟨rfl, HasK.next hB h3 rfl hn' (remove_lim h4 _) (remove_coh h5 _) h6⟩
theorem hasK_sync (h : HasK K w1 B p n m s w) (hN : n ≤ 100000) (name : ByteArray) (hn : name.size ≤ maxLen) :
    Calls Try.prog 35 #[.pointer (some ⟨p, 0, none⟩), .string name] w fun e w' => e = .returned (.int .i64 (s.sync name.data.toList).2) ∧ HasK K w1 B p (n + 1) m (s.sync name.data.toList).1 w' ∧ Below B w w' := by
  have hB := h.size
  obtain ⟨r, h1, rfl, h3, h4, h5, h6⟩ := h
  refine (sync_any h1 h4 hN name hn).mono ?_
  rintro e w' ⟨rfl, hn'⟩
  exact ⟨rfl, HasK.next hB h3 rfl hn' (sync_lim h4 _) (sync_coh h5 _) h6⟩
theorem hasK_syncDir (h : HasK K w1 B p n m s w) (hN : n ≤ 100000) :
    Calls Try.prog 30 #[.pointer (some ⟨p, 0, none⟩)] w fun e w' => e = .returned (.int .i64 s.syncDir.2) ∧ HasK K w1 B p (n + 1) m s.syncDir.1 w' ∧ Below B w w' := by
  have hB := h.size
  obtain ⟨r, h1, rfl, h3, h4, h5, h6⟩ := h
  refine (syncDir_any h1 h4 hN).mono ?_
  rintro e w' ⟨rfl, hn'⟩
  exact ⟨rfl, HasK.next hB h3 rfl hn' (syncDir_lim h4) (syncDir_coh h5) h6⟩
theorem hasK_restore (h : HasK K w1 B p n m s w) :
    Calls Try.prog 34 #[.pointer (some ⟨p, 0, none⟩)] w fun e w' => e = .returned (.tuple #[]) ∧ HasK K w1 B p n m s.restore w' ∧ Below B w w' := by
  have hB := h.size
  obtain ⟨r, h1, rfl, h3, h4, h5, h6⟩ := h
  refine (restore_any h1).mono ?_
  rintro e w' ⟨rfl, hn'⟩
  exact ⟨rfl, HasK.next hB h3 rfl hn' (restore_lim h4) (restore_coh h5) h6⟩
theorem hasK_crashB (h : HasK K w1 B p n m s w) (hN : n ≤ 100000) (hM : m ≤ 1000000000) (dir : Int) (kv : Value) (ks : List Int) (hks : ∀ F : List Nat, (∀ k ∈ F, B ≤ k) → KeepAt w F kv ks) :
    Calls Try.prog 33 #[.pointer (some ⟨p, 0, none⟩), .int .i64 dir, kv] w fun e w' => e = .returned (.tuple #[]) ∧ HasK K w1 B p n m (s.crash dir ks) w' ∧ Below B w w' := by
  have hB := h.size
  obtain ⟨r, h1, rfl, h3, h4, h5, h6⟩ := h
  refine (crash_any h1 h4 hN hM h5 dir kv ks (hks r.foot h3)).mono ?_
  rintro e w' ⟨rfl, hn'⟩
  exact ⟨rfl, HasK.next hB h3 rfl hn' (crash_lim h4 _ _) (crash_coh _ _ _) h6⟩
end
/-- What one step leaves: some state that is little greater. -/
def SomeK (K : Nat → Prop) (w1 : World) (B p n m : Nat) (w w' : World) : Prop := ∃ s', HasK K w1 B p n m s' w' ∧ Below B w w'
set_option maxHeartbeats 8000000 in
set_option maxRecDepth 100000 in
theorem runK_any {K : Nat → Prop} {w1 : World} {B p n m : Nat} {s : St} {w0 w : World} (h : HasK K w1 B p n m s w) (hB : w0.heap.size ≤ B) (hb : Below w0.heap.size w0 w) (a : Option Addr) (len cap : Nat) (l : List Stp) (hO : IsOs w0 a len l)
    (hN : n ≤ 10000) (hM : m ≤ 100000000) (hl : len ≤ 200) (hd : ∀ x ∈ l, x.d.size ≤ 9000) :
    Calls Try.prog 10 #[.pointer (some ⟨p, 0, none⟩), .slice a len cap] w fun e w' => e = .returned (.tuple #[]) ∧ SomeK K w1 B p (n + 2 * len) (m + 9000 * len) w w' := by
  have HO := Lib.hid hO
  have HD := Lib.hid hd
  have HH := Lib.hid h
  clear hO hd h
  go_enter Try.func10, Try.ntmps10
  go_wp2
  go_loopw [4] (fun iv wr => ∃ (i : Nat) (s' : St), i ≤ len ∧ iv = .int .i64 (i : Int) ∧ HasK K w1 B p (n + 2 * i) (m + 9000 * i) s' wr ∧ Below B w wr) (fun iv _ => len - (intOf iv).toNat)
  case atStart => exact ⟨0, s, Nat.zero_le _, rfl, HH.out, Below.refl _ _⟩
  case round =>
    obtain ⟨i, s', hi, rfl, hh, hbl⟩ := hrel
    by_cases hlt : i < len
    · obtain ⟨st, b, off, rfl, hmem, hok, hcell⟩ : ∃ (st : Stp) (b off : Nat), a = some ⟨b, off, none⟩ ∧ st ∈ l ∧ st.Ok w0 ∧ ∀ j u, st.cells[j]? = some u → w0.cell? ⟨b, off + i * 6 + j, none⟩ = some u := by
        obtain ⟨-, hll, hz1, hz2⟩ := HO.out
        rcases hz2 with h0 | ⟨b, off, e, hc⟩
        · rw [h0] at hll; simp at hll; omega
        · exact ⟨l[i]'(by omega), b, off, e, List.getElem_mem _, hz1 _ (List.getElem_mem _), fun j u hu => hc i (by omega) j u hu⟩
      have hdd := HD.out st hmem
      obtain ⟨hk, hn, ha, hbs, hds, hlc, hcm, hli⟩ := hok
      have hbw : Below w0.heap.size w0 wr := hb.trans (hbl.mono hB)
      have HQ := Lib.hid (fun j u (hu : st.cells[j]? = some u) => ((hbw.cell (p := ⟨b, off + i * 6 + j, none⟩) (World.block_lt_of_cell? w0 _ (hcell j u hu))).trans (hcell j u hu)))
      clear hcell
      have q0 : wr.cell? ⟨b, off + i * 6, none⟩ = some (.int .i64 st.k) := HQ.out 0 _ rfl
      have q1 : wr.cell? ⟨b, off + i * 6 + 1, none⟩ = some (.int .i64 st.n) := HQ.out 1 _ rfl
      have q2 : wr.cell? ⟨b, off + i * 6 + 2, none⟩ = some (.string st.a) := HQ.out 2 _ rfl
      have q3 : wr.cell? ⟨b, off + i * 6 + 3, none⟩ = some (.string st.b) := HQ.out 3 _ rfl
      have q4 : wr.cell? ⟨b, off + i * 6 + 4, none⟩ = some (.string st.d) := HQ.out 4 _ rfl
      have q5 : wr.cell? ⟨b, off + i * 6 + 5, none⟩ = some (.slice st.la st.ll st.lc) := HQ.out 5 _ rfl
      have hil : (i : Int) < (len : Int) := by omega
      have c1 := Lib.hid (hasK_create hh (by omega) st.a ha)
      have c2 := Lib.hid (fun W (h : HasK K w1 B p (n + 2 * i) (m + 9000 * i) s' W) => hasK_append h (by omega) st.a ha st.d (by omega) (by omega))
      have c3 := Lib.hid (hasK_sync hh (by omega) st.a ha)
      have c4 := Lib.hid (hasK_syncDir hh (by omega))
      have c5 := Lib.hid (fun W (h : HasK K w1 B p (n + 2 * i) (m + 9000 * i) s' W) => hasK_rename h (by omega) st.a ha st.b hbs)
      have c6 := Lib.hid (hasK_remove hh (by omega) st.a ha)
      have c9 := Lib.hid (fun W (h : HasK K w1 B p (n + 2 * i) (m + 9000 * i) s' W) (hW : Below B wr W) => hasK_crashB h (by omega) (by omega) st.n (.slice st.la st.ll st.lc) st.lz (keep_in hB (hbw.trans (hW.mono hB)) hli hlc hcm))
      have c10 := Lib.hid (hasK_restore hh)
      have hHS := Lib.hid (show ∀ (n' m' : Nat) (s2 : St) (w2 : World), HasK K w1 B p n' m' s2 w2 → n' ≤ n + 2 * (i + 1) → m' ≤ m + 9000 * (i + 1) → Below B wr w2 → ∃ s3, HasK K w1 B p (n + 2 * (i + 1)) (m + 9000 * (i + 1)) s3 w2 ∧ Below B w w2 from fun _ _ _ _ h1 h2 h3 h4 => ⟨_, h1.up h2 h3, hbl.trans h4⟩)
      clear hli hlc hcm hmem
      obtain ⟨k, nn, A, Bb, D, la, ll, lc, lz⟩ := st
      dsimp only at *
      by_cases k1 : k = 1
      · subst k1
        go_wp2_with (go_at_call 29; refine c1.out.mono ?_; rintro e W1 ⟨rfl, g1, b1⟩)
        obtain ⟨s3, g3, b3⟩ := hHS.out _ _ _ _ g1 (by omega) (by omega) b1
        go_roundw
        case rel => exact ⟨i + 1, s3, by omega, by go_num, g3, b3⟩
        case measure => simp [intOf]; omega
      have f1 : (k == 1) = false := by simpa using k1
      by_cases k2 : k = 2
      · subst k2
        go_wp2
        go_region_with (go_at_call 31; refine (c2.out _ hh.drew).mono ?_; rintro e W1 ⟨rfl, g1, b1⟩)
        all_goals go_wp2
        all_goals obtain ⟨s3, g3, b3⟩ := hHS.out _ _ _ _ g1 (by omega) (by omega) ((Below.refl _ _).drew.trans b1)
        all_goals go_roundw
        all_goals first
          | exact ⟨i + 1, s3, by omega, by go_num, g3, b3⟩
          | (simp [intOf]; omega)
      have f2 : (k == 2) = false := by simpa using k2
      by_cases k3 : k = 3
      · subst k3
        go_wp2_with (go_at_call 35; refine c3.out.mono ?_; rintro e W1 ⟨rfl, g1, b1⟩)
        obtain ⟨s3, g3, b3⟩ := hHS.out _ _ _ _ g1 (by omega) (by omega) b1
        go_roundw
        case rel => exact ⟨i + 1, s3, by omega, by go_num, g3, b3⟩
        case measure => simp [intOf]; omega
      have f3 : (k == 3) = false := by simpa using k3
      by_cases k4 : k = 4
      · subst k4
        go_wp2_with (go_at_call 30; refine c4.out.mono ?_; rintro e W1 ⟨rfl, g1, b1⟩)
        obtain ⟨s3, g3, b3⟩ := hHS.out _ _ _ _ g1 (by omega) (by omega) b1
        go_roundw
        case rel => exact ⟨i + 1, s3, by omega, by go_num, g3, b3⟩
        case measure => simp [intOf]; omega
      have f4 : (k == 4) = false := by simpa using k4
      by_cases k5 : k = 5
      · subst k5
        go_wp2
        go_region_with (go_at_call 32; refine (c5.out _ hh.drew).mono ?_; rintro e W1 ⟨rfl, g1, b1⟩)
        all_goals go_wp2
        all_goals obtain ⟨s3, g3, b3⟩ := hHS.out _ _ _ _ g1 (by omega) (by omega) ((Below.refl _ _).drew.trans b1)
        all_goals go_roundw
        all_goals first
          | exact ⟨i + 1, s3, by omega, by go_num, g3, b3⟩
          | (simp [intOf]; omega)
      have f5 : (k == 5) = false := by simpa using k5
      by_cases k6 : k = 6
      · subst k6
        go_wp2_with (go_at_call 36; refine c6.out.mono ?_; rintro e W1 ⟨rfl, g1, b1⟩)
        obtain ⟨s3, g3, b3⟩ := hHS.out _ _ _ _ g1 (by omega) (by omega) b1
        go_roundw
        case rel => exact ⟨i + 1, s3, by omega, by go_num, g3, b3⟩
        case measure => simp [intOf]; omega
      have f6 : (k == 6) = false := by simpa using k6
      by_cases k9 : k = 9
      · subst k9
        go_wp2
        go_region_with (go_at_call 33; refine (c9.out _ hh.drew (Below.refl _ _).drew).mono ?_; rintro e W1 ⟨rfl, g1, b1⟩)
        all_goals go_wp2
        all_goals obtain ⟨s3, g3, b3⟩ := hHS.out _ _ _ _ g1 (by omega) (by omega) ((Below.refl _ _).drew.trans b1)
        all_goals go_roundw
        all_goals first
          | exact ⟨i + 1, s3, by omega, by go_num, g3, b3⟩
          | (simp [intOf]; omega)
      have f9 : (k == 9) = false := by simpa using k9
      by_cases k10 : k = 10
      · subst k10
        go_wp2_with (go_at_call 34; refine c10.out.mono ?_; rintro e W1 ⟨rfl, g1, b1⟩)
        obtain ⟨s3, g3, b3⟩ := hHS.out _ _ _ _ g1 (by omega) (by omega) b1
        go_roundw
        case rel => exact ⟨i + 1, s3, by omega, by go_num, g3, b3⟩
        case measure => simp [intOf]; omega
      have f10 : (k == 10) = false := by simpa using k10
      go_wp2
      obtain ⟨s3, g3, b3⟩ := hHS.out _ _ _ _ hh (by omega) (by omega) (Below.refl _ _)
      go_roundw
      case rel => exact ⟨i + 1, s3, by omega, by go_num, g3, b3⟩
      case measure => simp [intOf]; omega
    · obtain rfl : i = len := by omega
      go_wp2
      go_end0
      exact ⟨rfl, s', hh, hbl⟩
end Go.Proofs.Ytbbfdenpegkpnaa
