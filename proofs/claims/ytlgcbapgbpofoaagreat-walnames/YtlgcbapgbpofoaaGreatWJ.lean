/- wal's Log: Add. -/
import Derived.Test.YtlgcbapgbpofoaaGreatWI
import Derived.Test.YtlgcbapgbpofoaaGreatWC
import Derived.Deep.DeepCutAuto
namespace Go.Proofs.YtlgcbapgbpofoaaGreat
open Go.RowKit

section
variable {F : Nat → Prop} {B p n m : Nat} {s : St} {w w' : World}
theorem Hs.heq (h : Hs F B p n m s w) (e : w'.heap = w.heap) : Hs F B p n m s w' := by
  obtain ⟨r, h1, h2, h3, h4, h5, h6⟩ := h
  exact ⟨r, h1.kept (fun k _ => by rw [e]), h2, h3, h4, h5, fun k hk => ⟨(h6 k hk).1, by rw [e]; exact (h6 k hk).2⟩⟩
theorem frames_one (l : List UInt8) : frames [l] = frm l := by simp [frames]
/-- The bytes that a batch adds. -/
def recB (first : Nat) (ws : List Wr) : List UInt8 := frm (putB first ws)
/-- What is known behind Add. -/
structure Added (F : Nat → Prop) (B p n m L : Nat) (num size : Int) (brk : Bool) (s' : St) (w w' : World) : Prop where
  hs : Hs F B p n m s' w'
  log : LogAt w' L p num size brk
  bel : Below B w w'
  kp : ∀ k, F k → k ≠ L → w'.heap[k]? = w.heap[k]?
theorem added_of {L : Nat} {num size : Int} {brk : Bool} (hs : Hs F B p n m s w') (lg : LogAt w' L p num size brk) (bel : Below B w w') (kp : Kp F w w') : Added F B p n m L num size brk s w w' := ⟨hs, lg, bel, fun k hk _ => kp k hk⟩
theorem added_set {L : Nat} {num size : Int} {brk : Bool} (hs : Hs F B p n m s w') (bel : Below B w w') (kp : Kp F w w') (hFL : F L) (hBL : B ≤ L) (j : Nat) (v : Value) (lg : LogAt (w'.setCell ⟨L, j, none⟩ v) L p num size brk) : Added F B p n m L num size brk s w (w'.setCell ⟨L, j, none⟩ v) := by
  have st : ∀ k, k ≠ L → (w'.setCell ⟨L, j, none⟩ v).heap[k]? = w'.heap[k]? := fun k hk => Below.heap_setCell w' ⟨L, j, none⟩ v k hk
  exact ⟨hs.wrote (by simp) (fun k _ hk => st k (fun e => hk (by rw [e]; exact hFL))), lg, ⟨bel.os, bel.tape, bel.output, by simpa using bel.size, fun k hk => (st k (by omega)).trans (bel.block k hk)⟩, fun k hk hne => (st k hne).trans (kp k hk)⟩
theorem int_ne {a : Int} {b : Int} (h : a ≠ b) : (a == b) = false := by simpa using h
set_option maxHeartbeats 4000000 in
set_option maxRecDepth 100000 in
theorem add_ok (h : Hs F B p n m s w) (hN : n ≤ 90000) (hM : m ≤ 900000000) (L num : Nat) (hn : num < 100000000) (size : Nat) (hsz9 : size ≤ 1000000000) (hL : LogAt w L p (num : Int) (size : Int) false) (hFL : F L) (hBL : B ≤ L)
    (first : Nat) (hf : first < 18446744073709551616) (a : Option Addr) (len cap : Nat) (ws : List Wr) (hE : WrsAt w.heap.size w a len ws) (hl : len ≤ 1000) (hsz : sizeWs ws ≤ 100000) (hok : wrsOk ws = true) :
    Calls Tryz.prog 26 #[.pointer (some ⟨L, 0, none⟩), .int .u64 (first : Int), .slice a len cap] w fun e w' => e = .returned (.int .i64 (s.append (nameB num) (recB first ws)).2) ∧
      Added F B p (n + 1) (m + (recB first ws).length) L (num : Int) (if (s.append (nameB num) (recB first ws)).2 = 0 then (size : Int) + ((recB first ws).length : Int) else (size : Int)) (decide ((s.append (nameB num) (recB first ws)).2 ≠ 0 ∧ (s.append (nameB num) (recB first ws)).2 ≠ 10)) (s.append (nameB num) (recB first ws)).1 w w' := by
  have hB := h.size
  have hLlt := hL.lt
  have hmod : (num : Int) % 100000000 = (num : Int) := by omega
  have CNM := Lib.hid (fun W => name_any (num : Int) W (by omega) (by omega))
  rw [hmod, Int.toNat_natCast] at CNM
  obtain ⟨NM, hNM⟩ : ∃ NM : ByteArray, (⟨(nameB num).toArray⟩ : ByteArray) = NM := ⟨_, rfl⟩
  have hNs : NM.size ≤ maxLen := by rw [← hNM]; exact name_size num
  have hNl : NM.data.toList = nameB num := by rw [← hNM]
  rw [hNM] at CNM
  have CR := Lib.hid (refuses_any L p (num : Int) (size : Int) false w hL)
  have CP := Lib.hid (putBatch_any first a len cap ws w hE hl (by omega) hf)
  rw [putV_yes first hok] at CP
  have hel := hE.1
  have hpl : (putB first ws).length ≤ 200000 := by
    have h1 := putWs_length ws (by omega)
    have h2 := vars_length [first, ws.length] (fun z hz => by simp at hz; rcases hz with rfl | rfl <;> omega)
    unfold putB
    rw [List.length_append]
    simp at h2
    omega
  obtain ⟨PB, hPB⟩ : ∃ PB : ByteArray, (⟨(putB first ws).toArray⟩ : ByteArray) = PB := ⟨_, rfl⟩
  have hPs : PB.size ≤ 200000 := by rw [← hPB, show (⟨(putB first ws).toArray⟩ : ByteArray).size = (putB first ws).length by simp [ByteArray.size]]; exact hpl
  have hPl : PB.data.toList = putB first ws := by rw [← hPB]
  rw [hPB] at CP
  have CF := Lib.hid (fun (b : Nat) (W : World) (hc : W.cell? ⟨b, 0, none⟩ = some (.string PB)) => frame_rows b 0 1 [PB] W (World.block_lt_of_cell? W _ hc) (by simp) (by simp [total]; omega) (fun i hi => by
    obtain rfl : i = 0 := by simp at hi; omega
    exact hc))
  obtain ⟨FR, hFR⟩ : ∃ FR : ByteArray, (⟨(frames (texts [PB])).toArray⟩ : ByteArray) = FR := ⟨_, rfl⟩
  have hFl : FR.data.toList = recB first ws := by
    rw [← hFR, List.toList_toArray]
    show frames [PB.data.toList] = _
    rw [hPl, frames_one]
    rfl
  have hFs : FR.size = (recB first ws).length := by rw [← hFl, len_data']
  have hFs2 : FR.size ≤ 300000 := by
    have h1 := frames_length [PB]
    rw [← hFR, show (⟨(frames (texts [PB])).toArray⟩ : ByteArray).size = (frames (texts [PB])).length by simp [ByteArray.size], h1]
    simp [total]
    omega
  rw [hFR] at CF
  have CA := Lib.hid (fun W (h : Hs F B p n m s W) => hs_append h (by omega) NM hNs FR (by omega) (by omega))
  rw [hNl, hFl, hFs] at CA
  have HH := Lib.hid h
  have HL := Lib.hid hL
  have HR := Lib.hid hFs
  obtain ⟨RL, hRL⟩ : ∃ RL, recB first ws = RL := ⟨_, rfl⟩
  rw [hRL] at CA HR ⊢
  generalize hA : s.append (nameB num) RL = A at CA ⊢
  obtain ⟨s', E⟩ := A
  simp only at CA ⊢
  clear h hL hE hNM hNl hPB hPl hFR hFl hFs hRL hA hok hmod
  go_enter Tryz.func26, Tryz.ntmps26
  go_wp2_with (fail)
  go_at_call 135
  refine CR.out.mono ?_
  rintro _ _ ⟨rfl, rfl⟩
  go_wp2_with (fail)
  go_at_call 12
  refine CP.out.mono ?_
  rintro _ w1 ⟨rfl, b1⟩
  go_wp2_with (fail)
  go_at_call 136
  refine (CF.out _ _ (ncell rfl rfl)).mono ?_
  rintro _ w2 ⟨rfl, b2⟩
  have b12 : Below w.heap.size w w2 := by
    have h1 := b1.alloc b1.size (.cells #[.string PB] 9)
    exact h1.trans (b2.mono h1.size)
  have hs2 := HH.out.same b12
  have lg2 := HL.out.kept (b12.block L hLlt)
  have hlt2 : L < w2.heap.size := lg2.lt
  have BL2 := Lib.hid b12
  clear CR CP CF b1 b2 b12
  have HK := Lib.hid (fun (W : World) (w3 : World) (b3 : Below W.heap.size W w3) (hW : Below w2.heap.size w2 W) => (show Hs F B p n m s w3 ∧ LogAt w3 L p (num : Int) (size : Int) false ∧ Below w2.heap.size w2 w3 by
    have hb := hW.trans (b3.mono hW.size)
    exact ⟨hs2.same hb, lg2.kept (hb.block L hlt2), hb⟩))
  have HF := Lib.hid (fun (w3 w4 : World) (q : Hs F B p n m s w3 ∧ LogAt w3 L p (num : Int) (size : Int) false ∧ Below w2.heap.size w2 w3) (hs4 : Hs F B p (n + 1) (m + RL.length) s' w4) (b4 : Below B w3 w4) (k4 : Kp F w3 w4) => (show Hid (Hs F B p (n + 1) (m + RL.length) s' w4 ∧ LogAt w4 L p (num : Int) (size : Int) false ∧ Below B w w4 ∧ Kp F w w4) from Lib.hid (by
    have hb3 : Below w.heap.size w w3 := BL2.out.trans (q.2.2.mono BL2.out.size)
    exact ⟨hs4, q.2.1.kept (k4 L hFL), (hb3.mono hB).trans b4, fun k hk => (k4 k hk).trans (hb3.block k (HH.out.lt k hk))⟩)))
  have c0 := lg2.c0
  have c1 := lg2.c1
  go_upto_region 8 with fail
  go_cut [9] (fun v wx => v = .int .i64 E ∧ Hid (Hs F B p (n + 1) (m + RL.length) s' wx ∧ LogAt wx L p (num : Int) (size : Int) false ∧ Below B w wx ∧ Kp F w wx))
  case first =>
    go_region_with (first
      | (go_at_call 19; refine (CNM.out _).mono ?_; rintro _ w3 ⟨rfl, b3⟩; have q3 := HK.out _ _ b3 ⟨rfl, rfl, rfl, Nat.le_refl _, fun _ _ => rfl⟩; have c3 := q3.2.1.c0)
      | (go_at_call 137; refine (CA.out _ (q3.1.heq rfl)).mono ?_; rintro _ w4 ⟨rfl, hs4, b4, k4⟩)
      | fail)
    all_goals (go_wp2_with fail; go_meet; exact ⟨rfl, HF.out _ _ q3 hs4 ⟨b4.os, b4.tape, b4.output, b4.size, b4.block⟩ (fun k hk => k4 k hk)⟩)
  case rest =>
    obtain ⟨rfl, HC⟩ := hcut
    obtain ⟨hs5, lg5, bl5, kp5⟩ := HC.out
    have x2 := lg5.c2
    have x3 := lg5.c3
    have f2 := lg5.warm 2
    have f3 := lg5.warm 3
    have wz : IntKind.i64.wrap ((size : Int) + (FR.size : Int)) = (size : Int) + (FR.size : Int) := by rw [IntKind.wrap_i64]; omega
    have S2 := Lib.hid (fun z => added_set hs5 bl5 kp5 hFL hBL 2 (.int .i64 z) (lg5.set2 z))
    have S3 := Lib.hid (added_set hs5 bl5 kp5 hFL hBL 3 (.bool true) (lg5.set3 true))
    have S0 := Lib.hid (added_of hs5 lg5 bl5 kp5)
    clear lg5 hs5 bl5 kp5 HC HF HK c0 c1
    by_cases h0 : E = 0
    · subst h0
      go_wp2
      go_ret
      refine ⟨rfl, ?_⟩
      have e := S2.out ((size : Int) + (FR.size : Int))
      rw [← HR.out] at e ⊢
      exact e
    · have e0 := int_ne h0
      by_cases h10 : E = 10
      · subst h10
        go_wp2
        go_ret
        refine ⟨rfl, ?_⟩
        exact S0.out
      · have e10 := int_ne h10
        go_wp2
        go_ret
        refine ⟨rfl, ?_⟩
        exact S3.out
end
end Go.Proofs.YtlgcbapgbpofoaaGreat
