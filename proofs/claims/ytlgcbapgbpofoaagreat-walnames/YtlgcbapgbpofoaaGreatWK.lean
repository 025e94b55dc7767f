/- wal's Log: Add that refuses, Sync. -/
import Derived.Test.YtlgcbapgbpofoaaGreatWJ
namespace Go.Proofs.YtlgcbapgbpofoaaGreat
open Go.RowKit

section
variable {F : Nat → Prop} {B p n m : Nat} {s : St} {w w' : World}
set_option maxHeartbeats 2000000 in
set_option maxRecDepth 100000 in
theorem add_broken (L num : Nat) (size : Int) (hL : LogAt w L p (num : Int) size true) (first : Nat) (v : Value) :
    Calls Tryz.prog 26 #[.pointer (some ⟨L, 0, none⟩), .int .u64 (first : Int), v] w fun e w' => e = .returned (.int .i64 17) ∧ w = w' := by
  have CR := Lib.hid (refuses_any L p (num : Int) size true w hL)
  go_enter Tryz.func26, Tryz.ntmps26
  go_wp2_with (go_at_call 135; refine CR.out.mono ?_; rintro _ _ ⟨rfl, rfl⟩)
  go_ret
  exact ⟨rfl, rfl⟩
set_option maxHeartbeats 2000000 in
set_option maxRecDepth 100000 in
theorem add_bad (L num : Nat) (size : Int) (hL : LogAt w L p (num : Int) size false) (first : Nat) (hf : first < 18446744073709551616) (a : Option Addr) (len cap : Nat) (ws : List Wr) (hE : WrsAt w.heap.size w a len ws) (hl : len ≤ 1000) (hsz : sizeWs ws ≤ 100000) (hok : wrsOk ws = false) :
    Calls Tryz.prog 26 #[.pointer (some ⟨L, 0, none⟩), .int .u64 (first : Int), .slice a len cap] w fun e w' => e = .returned (.int .i64 1) ∧ Below w.heap.size w w' := by
  have CR := Lib.hid (refuses_any L p (num : Int) size false w hL)
  have CP := Lib.hid (putBatch_any first a len cap ws w hE hl (by omega) hf)
  rw [putV_no first hok] at CP
  clear hE hok
  go_enter Tryz.func26, Tryz.ntmps26
  go_wp2_with (first
    | (go_at_call 135; refine CR.out.mono ?_; rintro _ _ ⟨rfl, rfl⟩)
    | (go_at_call 12; refine CP.out.mono ?_; rintro _ w1 ⟨rfl, b1⟩))
  go_ret
  exact ⟨rfl, b1⟩
set_option maxHeartbeats 2000000 in
set_option maxRecDepth 100000 in
theorem logSync_broken (L num : Nat) (size : Int) (hL : LogAt w L p (num : Int) size true) :
    Calls Tryz.prog 28 #[.pointer (some ⟨L, 0, none⟩)] w fun e w' => e = .returned (.int .i64 17) ∧ w = w' := by
  have CR := Lib.hid (refuses_any L p (num : Int) size true w hL)
  go_enter Tryz.func28, Tryz.ntmps28
  go_wp2_with (go_at_call 135; refine CR.out.mono ?_; rintro _ _ ⟨rfl, rfl⟩)
  go_ret
  exact ⟨rfl, rfl⟩
set_option maxHeartbeats 4000000 in
set_option maxRecDepth 100000 in
theorem logSync_ok (h : Hs F B p n m s w) (hN : n ≤ 90000) (L num : Nat) (hn : num < 100000000) (size : Int) (hL : LogAt w L p (num : Int) size false) (hFL : F L) (hBL : B ≤ L) :
    Calls Tryz.prog 28 #[.pointer (some ⟨L, 0, none⟩)] w fun e w' => e = .returned (.int .i64 (s.sync (nameB num)).2) ∧ Added F B p (n + 1) m L (num : Int) size ((s.sync (nameB num)).2 != 0) (s.sync (nameB num)).1 w w' := by
  have hB := h.size
  have hLlt := hL.lt
  have hmod : (num : Int) % 100000000 = (num : Int) := by omega
  have CNM := Lib.hid (fun W => name_any (num : Int) W (by omega) (by omega))
  rw [hmod, Int.toNat_natCast] at CNM
  obtain ⟨NM, hNM⟩ : ∃ NM : ByteArray, (⟨(nameB num).toArray⟩ : ByteArray) = NM := ⟨_, rfl⟩
  have hNs : NM.size ≤ maxLen := by rw [← hNM]; exact name_size num
  have hNl : NM.data.toList = nameB num := by rw [← hNM]
  rw [hNM] at CNM
  have CR := Lib.hid (refuses_any L p (num : Int) size false w hL)
  have CA := Lib.hid (fun W (h : Hs F B p n m s W) => hs_sync h (by omega) NM hNs)
  rw [hNl] at CA
  have HH := Lib.hid h
  generalize hA : s.sync (nameB num) = A at CA ⊢
  obtain ⟨s', E⟩ := A
  simp only at CA ⊢
  have lg2 := hL
  have HK := Lib.hid (fun (W : World) (w3 : World) (b3 : Below W.heap.size W w3) (hW : Below w.heap.size w W) => (show Hs F B p n m s w3 ∧ LogAt w3 L p (num : Int) size false ∧ Below w.heap.size w w3 by
    have hb := hW.trans (b3.mono hW.size)
    exact ⟨h.same hb, hL.kept (hb.block L hLlt), hb⟩))
  have HF := Lib.hid (fun (w3 w4 : World) (q : Hs F B p n m s w3 ∧ LogAt w3 L p (num : Int) size false ∧ Below w.heap.size w w3) (hs4 : Hs F B p (n + 1) m s' w4) (b4 : Below B w3 w4) (k4 : Kp F w3 w4) => (show Hid (Hs F B p (n + 1) m s' w4 ∧ LogAt w4 L p (num : Int) size false ∧ Below B w w4 ∧ Kp F w w4) from Lib.hid (by
    exact ⟨hs4, q.2.1.kept (k4 L hFL), (q.2.2.mono hB).trans b4, fun k hk => (k4 k hk).trans (q.2.2.block k (HH.out.lt k hk))⟩)))
  have c0 := lg2.c0
  have c1 := lg2.c1
  clear h hL hNM hNl hA hmod
  go_enter Tryz.func28, Tryz.ntmps28
  go_upto_region 4 with (go_at_call 135; refine CR.out.mono ?_; rintro _ _ ⟨rfl, rfl⟩)
  go_cut [4] (fun v wx => v = .int .i64 E ∧ Hid (Hs F B p (n + 1) m s' wx ∧ LogAt wx L p (num : Int) size false ∧ Below B w wx ∧ Kp F w wx))
  case first =>
    go_region_with (first
      | (go_at_call 19; refine (CNM.out _).mono ?_; rintro _ w3 ⟨rfl, b3⟩; have q3 := HK.out _ _ b3 ⟨rfl, rfl, rfl, Nat.le_refl _, fun _ _ => rfl⟩; have c3 := q3.2.1.c0)
      | (go_at_call 140; refine (CA.out _ (q3.1.heq rfl)).mono ?_; rintro _ w4 ⟨rfl, hs4, b4, k4⟩)
      | fail)
    all_goals (go_wp2_with fail; go_meet; exact ⟨rfl, HF.out _ _ q3 hs4 ⟨b4.os, b4.tape, b4.output, b4.size, b4.block⟩ (fun k hk => k4 k hk)⟩)
  case rest =>
    obtain ⟨rfl, HC⟩ := hcut
    obtain ⟨hs5, lg5, bl5, kp5⟩ := HC.out
    have x2 := lg5.c3
    have f3 := lg5.warm 3
    have S3 := Lib.hid (fun t => added_set hs5 bl5 kp5 hFL hBL 3 (.bool t) (lg5.set3 t))
    clear lg5 hs5 bl5 kp5 HC HF HK c0 c1
    go_wp2
    go_ret
    exact ⟨rfl, S3.out _⟩
end
end Go.Proofs.YtlgcbapgbpofoaaGreat
