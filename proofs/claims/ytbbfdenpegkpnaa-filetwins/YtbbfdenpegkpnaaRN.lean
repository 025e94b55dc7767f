/- Steps of files, one behind the other: run. -/
import Derived.Test.YtbbfdenpegkpnaaFG
import Derived.Test.YtbbfdenpegkpnaaTO
import Derived.Deep.RegionHeld3
namespace Go.Proofs.Ytbbfdenpegkpnaa
open Go.RowKit

theorem has_crashB {B p n m : Nat} {s : St} {w : World} (h : Has B p n m s w) (hN : n ≤ 100000) (hM : m ≤ 1000000000) (dir : Int) (kv : Value) (ks : List Int) (hks : ∀ F : List Nat, (∀ k ∈ F, B ≤ k) → KeepAt w F kv ks) :
    Calls Try.prog 33 #[.pointer (some ⟨p, 0, none⟩), .int .i64 dir, kv] w fun e w' => e = .returned (.tuple #[]) ∧ Has B p n m (s.crash dir ks) w' ∧ Below B w w' := by
  have hB := h.size
  obtain ⟨r, h1, rfl, h3, h4, h5⟩ := h
  refine (crash_any h1 h4 hN hM h5 dir kv ks (hks r.foot h3)).mono ?_
  rintro e w' ⟨rfl, hn'⟩
  exact ⟨rfl, Has.next hB h3 rfl hn' (crash_lim h4 _ _) (crash_coh _ _ _)⟩
theorem keep_in {w0 w : World} {B : Nat} (hB : w0.heap.size ≤ B) (hb : Below w0.heap.size w0 w) {a : Option Addr} {len cap : Nat} {ks : List Int} (h : IsIs w0 a len ks) (h1 : len ≤ cap) (h2 : cap ≤ maxLen) (F : List Nat) (hF : ∀ k ∈ F, B ≤ k) : KeepAt w F (.slice a len cap) ks := by
  obtain ⟨-, hl, -, hr⟩ := h
  refine ⟨a, cap, by rw [hl], h2, by omega, fun i hi => ?_⟩
  rcases hr with h0 | ⟨g, o, e, hc⟩
  · rw [h0] at hi; cases hi
  · have hg := World.block_lt_of_cell? w0 _ (hc i hi)
    have hg' : g < w0.heap.size := hg
    exact ⟨g, o, e, fun hm => by have := hF g hm; omega, (hb.cell (p := ⟨g, o + i, none⟩) hg).trans (hc i hi)⟩
/-- What one step leaves: some state that is little greater. -/
def Some1 (B p n m : Nat) (w w' : World) : Prop := ∃ s', Has B p n m s' w' ∧ Below B w w'
set_option maxHeartbeats 8000000 in
set_option maxRecDepth 100000 in
theorem run_any {B p n m : Nat} {s : St} {w0 w : World} (h : Has B p n m s w) (hB : w0.heap.size ≤ B) (hb : Below w0.heap.size w0 w) (a : Option Addr) (len cap : Nat) (l : List Stp) (hO : IsOs w0 a len l)
    (hN : n ≤ 10000) (hM : m ≤ 100000000) (hl : len ≤ 200) (hd : ∀ x ∈ l, x.d.size ≤ 9000) :
    Calls Try.prog 10 #[.pointer (some ⟨p, 0, none⟩), .slice a len cap] w fun e w' => e = .returned (.tuple #[]) ∧ Some1 B p (n + 2 * len) (m + 9000 * len) w w' := by
  have HO := Lib.hid hO
  have HD := Lib.hid hd
  have HH := Lib.hid h
  clear hO hd h
  go_enter Try.func10, Try.ntmps10
  go_wp2
  go_loopw [4] (fun iv wr => ∃ (i : Nat) (s' : St), i ≤ len ∧ iv = .int .i64 (i : Int) ∧ Has B p (n + 2 * i) (m + 9000 * i) s' wr ∧ Below B w wr) (fun iv _ => len - (intOf iv).toNat)
  case atStart => exact ⟨0, s, Nat.zero_le _, rfl, HH.out, Below.refl _ _⟩
  case round =>
    obtain ⟨i, s', hi, rfl, hh, hbl⟩ := hrel
    by_cases hlt : i < len
    · obtain ⟨st, b, off, rfl, hmem, hok, hcell⟩ : ∃ (st : Stp) (b off : Nat), a = some ⟨b, off, none⟩ ∧ st ∈ l ∧ st.Ok w0 ∧ ∀ j u, st.cells[j]? = some u → w0.cell? ⟨b, off + i * 6 + j, none⟩ = some u := by
        obtain ⟨-, hll, hz1, hz2⟩ := HO.out
        rcases hz2 with h0 | ⟨b, off, e, hc⟩
        · rw [h0] at hll; simp at hll; omega
        · exact ⟨l[i]'(by omega), b, off, e, List.getElem_mem _, hz1 _ (List.getElem_mem _), fun j u hu => hc i (by omega) j u hu⟩
      have hdd := HD.out st hmem
      obtain ⟨hk, hn, ha, hbs, hds, hlc, hcm, hli⟩ := hok
      have hbw : Below w0.heap.size w0 wr := hb.trans (hbl.mono hB)
      have HQ := Lib.hid (fun j u (hu : st.cells[j]? = some u) => ((hbw.cell (p := ⟨b, off + i * 6 + j, none⟩) (World.block_lt_of_cell? w0 _ (hcell j u hu))).trans (hcell j u hu)))
      clear hcell
      have q0 : wr.cell? ⟨b, off + i * 6, none⟩ = some (.int .i64 st.k) := HQ.out 0 _ rfl
      have q1 : wr.cell? ⟨b, off + i * 6 + 1, none⟩ = some (.int .i64 st.n) := HQ.out 1 _ rfl
      have q2 : wr.cell? ⟨b, off + i * 6 + 2, none⟩ = some (.string st.a) := HQ.out 2 _ rfl
      have q3 : wr.cell? ⟨b, off + i * 6 + 3, none⟩ = some (.string st.b) := HQ.out 3 _ rfl
      have q4 : wr.cell? ⟨b, off + i * 6 + 4, none⟩ = some (.string st.d) := HQ.out 4 _ rfl
      have q5 : wr.cell? ⟨b, off + i * 6 + 5, none⟩ = some (.slice st.la st.ll st.lc) := HQ.out 5 _ rfl
      have hil : (i : Int) < (len : Int) := by omega
      have c1 := Lib.hid (has_create hh (by omega) st.a ha)
      have c2 := Lib.hid (fun W (h : Has B p (n + 2 * i) (m + 9000 * i) s' W) => has_append h (by omega) st.a ha st.d (by omega) (by omega))
      have c3 := Lib.hid (has_sync hh (by omega) st.a ha)
      have c4 := Lib.hid (has_syncDir hh (by omega))
      have c5 := Lib.hid (fun W (h : Has B p (n + 2 * i) (m + 9000 * i) s' W) => has_rename h (by omega) st.a ha st.b hbs)
      have c6 := Lib.hid (has_remove hh (by omega) st.a ha)
      have c9 := Lib.hid (fun W (h : Has B p (n + 2 * i) (m + 9000 * i) s' W) (hW : Below B wr W) => has_crashB h (by omega) (by omega) st.n (.slice st.la st.ll st.lc) st.lz (keep_in hB (hbw.trans (hW.mono hB)) hli hlc hcm))
      have c10 := Lib.hid (has_restore hh)
      have hHS := Lib.hid (show ∀ (n' m' : Nat) (s2 : St) (w2 : World), Has B p n' m' s2 w2 → n' ≤ n + 2 * (i + 1) → m' ≤ m + 9000 * (i + 1) → Below B wr w2 → ∃ s3, Has B p (n + 2 * (i + 1)) (m + 9000 * (i + 1)) s3 w2 ∧ Below B w w2 from fun _ _ _ _ h1 h2 h3 h4 => ⟨_, h1.up h2 h3, hbl.trans h4⟩)
      clear hli hlc hcm hmem
      obtain ⟨k, nn, A, Bb, D, la, ll, lc, lz⟩ := st
      dsimp only at *
      by_cases k1 : k = 1
      · subst k1
        go_wp2_with (go_at_call 29; refine c1.out.mono ?_; rintro e W1 ⟨rfl, g1, b1⟩)
        obtain ⟨s3, g3, b3⟩ := hHS.out _ _ _ _ g1 (by omega) (by omega) b1
        go_roundw
        case rel => exact ⟨i + 1, s3, by omega, by go_num, g3, b3⟩
        case measure => simp [intOf]; omega
      have f1 : (k == 1) = false := by simpa using k1
      by_cases k2 : k = 2
      · subst k2
        go_wp2
        go_region_with (go_at_call 31; refine (c2.out _ hh.drew).mono ?_; rintro e W1 ⟨rfl, g1, b1⟩)
        all_goals go_wp2
        all_goals obtain ⟨s3, g3, b3⟩ := hHS.out _ _ _ _ g1 (by omega) (by omega) ((Below.refl _ _).drew.trans b1)
        all_goals go_roundw
        all_goals first
          | exact ⟨i + 1, s3, by omega, by go_num, g3, b3⟩
          | (simp [intOf]; omega)
      have f2 : (k == 2) = false := by simpa using k2
      by_cases k3 : k = 3
      · subst k3
        go_wp2_with (go_at_call 35; refine c3.out.mono ?_; rintro e W1 ⟨rfl, g1, b1⟩)
        obtain ⟨s3, g3, b3⟩ := hHS.out _ _ _ _ g1 (by omega) (by omega) b1
        go_roundw
        case rel => exact ⟨i + 1, s3, by omega, by go_num, g3, b3⟩
        case measure => simp [intOf]; omega
      have f3 : (k == 3) = false := by simpa using k3
      by_cases k4 : k = 4
      · subst k4
        go_wp2_with (go_at_call 30; refine c4.out.mono ?_; rintro e W1 ⟨rfl, g1, b1⟩)
        obtain ⟨s3, g3, b3⟩ := hHS.out _ _ _ _ g1 (by omega) (by omega) b1
        go_roundw
        case rel => exact ⟨i + 1, s3, by omega, by go_num, g3, b3⟩
        case measure => simp [intOf]; omega
      have f4 : (k == 4) = false := by simpa using k4
      by_cases k5 : k = 5
      · subst k5
        go_wp2
        go_region_with (go_at_call 32; refine (c5.out _ hh.drew).mono ?_; rintro e W1 ⟨rfl, g1, b1⟩)
        all_goals go_wp2
        all_goals obtain ⟨s3, g3, b3⟩ := hHS.out _ _ _ _ g1 (by omega) (by omega) ((Below.refl _ _).drew.trans b1)
        all_goals go_roundw
        all_goals first
          | exact ⟨i + 1, s3, by omega, by go_num, g3, b3⟩
          | (simp [intOf]; omega)
      have f5 : (k == 5) = false := by simpa using k5
      by_cases k6 : k = 6
      · subst k6
        go_wp2_with (go_at_call 36; refine c6.out.mono ?_; rintro e W1 ⟨rfl, g1, b1⟩)
        obtain ⟨s3, g3, b3⟩ := hHS.out _ _ _ _ g1 (by omega) (by omega) b1
        go_roundw
        case rel => exact ⟨i + 1, s3, by omega, by go_num, g3, b3⟩
        case measure => simp [intOf]; omega
      have f6 : (k == 6) = false := by simpa using k6
      by_cases k9 : k = 9
      · subst k9
        go_wp2
        go_region_with (go_at_call 33; refine (c9.out _ hh.drew (Below.refl _ _).drew).mono ?_; rintro e W1 ⟨rfl, g1, b1⟩)
        all_goals go_wp2
        all_goals obtain ⟨s3, g3, b3⟩ := hHS.out _ _ _ _ g1 (by omega) (by omega) ((Below.refl _ _).drew.trans b1)
        all_goals go_roundw
        all_goals first
          | exact ⟨i + 1, s3, by omega, by go_num, g3, b3⟩
          | (simp [intOf]; omega)
      have f9 : (k == 9) = false := by simpa using k9
      by_cases k10 : k = 10
      · subst k10
        go_wp2_with (go_at_call 34; refine c10.out.mono ?_; rintro e W1 ⟨rfl, g1, b1⟩)
        obtain ⟨s3, g3, b3⟩ := hHS.out _ _ _ _ g1 (by omega) (by omega) b1
        go_roundw
        case rel => exact ⟨i + 1, s3, by omega, by go_num, g3, b3⟩
        case measure => simp [intOf]; omega
      have f10 : (k == 10) = false := by simpa using k10
      go_wp2
      obtain ⟨s3, g3, b3⟩ := hHS.out _ _ _ _ hh (by omega) (by omega) (Below.refl _ _)
      go_roundw
      case rel => exact ⟨i + 1, s3, by omega, by go_num, g3, b3⟩
      case measure => simp [intOf]; omega
    · obtain rfl : i = len := by omega
      go_wp2
      go_end0
      exact ⟨rfl, s', hh, hbl⟩
end Go.Proofs.Ytbbfdenpegkpnaa
