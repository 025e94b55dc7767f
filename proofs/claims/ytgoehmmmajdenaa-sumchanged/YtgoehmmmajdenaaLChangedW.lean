/- The walk of SumChanged: a sealed text of which one byte is changed is refused. -/
import Derived.Test.YtgoehmmmajdenaaS4
import Derived.Lib.ConvBytes
namespace Go.Proofs.Ytgoehmmmajdenaa
open Go.RowKit

theorem bytes_of (s : ByteArray) (w : World) : ∃ (C : Nat) (w1 : World), (convert 9 30 (.string s)).run Try.prog w = .ok (.slice (some ⟨w.heap.size, 0, none⟩) s.size C) w1 ∧ Below w.heap.size w w1 ∧ s.size ≤ C ∧
    (∀ i, i < s.size → w1.cell? ⟨w.heap.size, i, none⟩ = some (.int .u8 (s.data.toList.getD i 0).toNat)) ∧ (∀ i, i < s.size → w1.frozen? ⟨w.heap.size, i, none⟩ = false) ∧ w.heap.size < w1.heap.size := by
  have hz : s.size ≤ (Lib.bytesCells w 5 s).size := by
    unfold Lib.bytesCells
    rw [Array.size_append, Array.size_map]
    exact Nat.le_add_right _ _
  refine ⟨_, _, Lib.run_convert_string_bytes w _ _ _ s Try.underlying9 Try.underlying30 Try.underlying5, ?_, ?_, ?_, ?_, ?_⟩
  · refine ⟨rfl, rfl, rfl, ?_, fun k hk => Lib.bytesWorld_at_old w _ s k hk⟩
    rw [Lib.bytesWorld_size]; omega
  · exact grownCap_ge _ _ _ _
  · intro i hi
    exact Lib.bytesWorld_cell w _ s i hi
  · intro i hi
    simp only [World.frozen?, Lib.bytesWorld_at_new]
    simp
    omega
  · rw [Lib.bytesWorld_size]; omega

theorem xor_byte (x : UInt8) (b : Int) : ∃ c : UInt8, bits .xor .u8 (x.toNat : Int) (b % 256) = (c.toNat : Int) ∧ (b % 256 ≠ 0 → c ≠ x) := by
  have hx := x.toNat_lt
  obtain ⟨m, hm⟩ : ∃ m : Nat, b % 256 = (m : Int) := ⟨(b % 256).toNat, by omega⟩
  have hl : x.toNat ^^^ m < 256 := Nat.xor_lt_two_pow (n := 8) (by omega) (by omega)
  refine ⟨UInt8.ofNat (x.toNat ^^^ m), ?_, ?_⟩
  · rw [hm, u8_xor_nat _ _ (by omega) (by omega), UInt8.toNat_ofNat', Nat.mod_eq_of_lt (by omega)]
  · intro h0 e
    have h1 := congrArg UInt8.toNat e
    rw [UInt8.toNat_ofNat', Nat.mod_eq_of_lt (by omega)] at h1
    have h2 : m = 0 := by
      have := congrArg (x.toNat ^^^ ·) h1
      simpa [← Nat.xor_assoc] using this
    omega
theorem addr0 (b j : Nat) : (⟨b, 0, none⟩ : Addr).add j = ⟨b, j, none⟩ := by
  rw [addr_plain, Nat.zero_add]

theorem back_of (w : World) (b C n : Nat) (l : List UInt8) (hn : n = l.length) (h : ∀ i (hi : i < l.length), w.cell? ⟨b, i, none⟩ = some (.int .u8 (l[i].toNat : Int))) :
    (convert 30 9 (.slice (some ⟨b, 0, none⟩) n C)).run Try.prog w = .ok (.string ⟨l.toArray⟩) w := by
  subst hn
  exact run_convert_bytes_back (P := Try.prog) w 30 9 5 ⟨b, 0, none⟩ C l Try.underlying30 Try.underlying5 Try.underlying9 (fun j hj => by rw [addr0]; exact h j hj)

set_option maxHeartbeats 2000000 in
set_option maxRecDepth 100000 in
theorem changed_easy (s : ByteArray) (hs : s.size ≤ maxLen) (a b : Int) (w : World) (h : 3000 < s.size ∨ b % 256 = 0) :
    Calls Try.prog 4 #[.string s, .int .i64 a, .int .i64 b] w fun e w' => e = .returned (.bool true) ∧ Below w.heap.size w w' := by
  unfold maxLen at hs
  by_cases h1 : 3000 < s.size
  · go_enter Try.func4, Try.ntmps4
    go_wp2_with (go_at_call 7; refine (alive_any _).mono ?_; rintro e w1 ⟨rfl, hb1⟩)
    go_ret
    exact ⟨rfl, hb1⟩
  · have h2 : b % 256 = 0 := by omega
    have hd : decide (3000 < s.size) = false := by simpa using h1
    go_enter Try.func4, Try.ntmps4
    go_wp2_with (go_at_call 7; refine (alive_any _).mono ?_; rintro e w1 ⟨rfl, hb1⟩)
    go_ret
    exact ⟨rfl, hb1⟩

set_option maxHeartbeats 2000000 in
set_option maxRecDepth 100000 in
theorem changed_hard (s : ByteArray) (a b : Int) (w : World) (hs : s.size ≤ 3000) (hb : b % 256 ≠ 0) :
    Calls Try.prog 4 #[.string s, .int .i64 a, .int .i64 b] w fun e w' => e = .returned (.bool true) ∧ Below w.heap.size w w' := by
  obtain ⟨S, hS⟩ : ∃ S : ByteArray, S = ⟨(sealF s.data.toList).toArray⟩ := ⟨_, rfl⟩
  have hse := Lib.hid (fun w' : World => seal_any s w' (by omega))
  rw [← hS] at hse
  have hSl : S.data.toList = sealF s.data.toList := by rw [hS]
  have hln : s.data.toList.length = s.size := rfl
  have hSs : S.size = s.size + 4 := by
    have : S.size = S.data.toList.length := rfl
    rw [this, hSl]
    simp [sealF, be_length]
  obtain ⟨q, hq⟩ : ∃ q : Int, a.tmod ((s.size : Int) + 4) = q := ⟨_, rfl⟩
  have hSi : (S.size : Int) = (s.size : Int) + 4 := by omega
  have hq1 : q < (s.size : Int) + 4 := by rw [← hq]; exact Int.tmod_lt_of_pos a (by omega)
  have hq2 : -((s.size : Int) + 4) < q := by
    have h1 := Int.tmod_lt_of_pos (-a) (show (0 : Int) < (s.size : Int) + 4 by omega)
    rw [Int.neg_tmod, hq] at h1
    omega
  obtain ⟨j, hj⟩ : ∃ j : Nat, (j : Int) = if q < 0 then q + ((s.size : Int) + 4) else q := ⟨(if q < 0 then q + ((s.size : Int) + 4) else q).toNat, by split <;> omega⟩
  have hjl : j < S.size := by split at hj <;> omega
  have hjs : j < (sealF s.data.toList).length := by rw [← hSl]; exact hjl
  have hgd : S.data.toList.getD j 0 = (sealF s.data.toList)[j] := by rw [hSl]; simp [List.getD, hjs]
  obtain ⟨c, hc, hcne⟩ := xor_byte (sealF s.data.toList)[j] b
  have hch := seal_change s.data.toList j c hjs (hcne hb)
  obtain ⟨M, hM⟩ : ∃ M : ByteArray, M = ⟨((sealF s.data.toList).set j c).toArray⟩ := ⟨_, rfl⟩
  have hMl : M.data.toList = (sealF s.data.toList).set j c := by rw [hM]
  have hMs : M.size = s.size + 4 := by
    have : M.size = M.data.toList.length := rfl
    rw [this, hMl]
    simp [sealF, be_length]
  have hop := Lib.hid (fun w' : World => open_any M w' (by omega))
  have hov : openV M.data.toList = .tuple #[.string ⟨#[]⟩, .int .i64 6] := by
    have hl : M.data.toList.length = s.size + 4 := hMs
    unfold openV
    rw [if_neg (by omega), hl, show s.size + 4 - 4 = s.data.toList.length by omega, hMl, if_neg hch]
  rw [hov] at hop
  obtain ⟨T, hT⟩ : ∃ T : ByteArray, T = ⟨(((sealF s.data.toList).set j c).take 3).toArray⟩ := ⟨_, rfl⟩
  have hTl : T.data.toList = ((sealF s.data.toList).set j c).take 3 := by rw [hT]
  have hT3 : (((sealF s.data.toList).set j c).take 3).length = 3 := by
    rw [List.length_take, ← hMl]
    show min 3 M.size = 3
    omega
  have hTs : T.size = 3 := by
    have : T.size = T.data.toList.length := rfl
    rw [this, hTl, hT3]
  have hop2 := Lib.hid (fun w' : World => open_any T w' (by omega))
  have hov2 : openV T.data.toList = .tuple #[.string ⟨#[]⟩, .int .i64 5] := by
    have hl : T.data.toList.length = 3 := hTs
    unfold openV
    rw [if_pos (by omega)]
  rw [hov2] at hop2
  have hset : ∀ (w2 : World) (B : Nat), (∀ i, i < S.size → w2.cell? ⟨B, i, none⟩ = some (.int .u8 (S.data.toList.getD i 0).toNat)) →
      ∀ i (hi : i < ((sealF s.data.toList).set j c).length), (w2.setCell ⟨B, j, none⟩ (.int .u8 (c.toNat : Int))).cell? ⟨B, i, none⟩ = some (.int .u8 ((((sealF s.data.toList).set j c)[i]).toNat : Int)) := by
    intro w2 B hcells i hi
    have hi2 : i < (sealF s.data.toList).length := by simpa using hi
    by_cases hij : i = j
    · subst hij
      rw [World.cell?_setCell_same _ _ _ (hcells i hjl)]
      simp
    · rw [World.cell?_setCell_other _ _ _ _ (by intro h; cases h; exact hij rfl), hcells i (by have : S.size = S.data.toList.length := rfl; rw [this, hSl]; exact hi2), hSl]
      rw [List.getElem_set_ne (fun e => hij e.symm)]
      simp [List.getD, hi2]
  have HSET := Lib.hid hset
  have hd0 : decide (3000 < s.size) = false := by simp; omega
  have hd1 : (b % 256 == 0) = false := by simpa using hb
  have hr : ∀ (w1 w2 : World) (C : Nat), S.size ≤ C → Below w1.heap.size w1 w2 → w1.heap.size < w2.heap.size → (∀ i, i < S.size → w2.cell? ⟨w1.heap.size, i, none⟩ = some (.int .u8 (S.data.toList.getD i 0).toNat)) →
      w2.cell? ⟨w1.heap.size, j, none⟩ = some (.int .u8 ((sealF s.data.toList)[j].toNat : Int)) := by
    intro w1 w2 C h1 h2 h3 h4
    rw [h4 j hjl, hgd]
  have HR := Lib.hid hr
  have HM := Lib.hid hM
  clear hset hr hSi hov hov2 hch hcne hgd hTl hMl hSl hS hM hb
  generalize hx : (sealF s.data.toList)[j] = x at hc HR
  have HT := Lib.hid hT
  have hM3 : 3 ≤ ((sealF s.data.toList).set j c).length := by
    have := hT3
    rw [List.length_take] at this
    omega
  have hset3 : ∀ (w2 w3 : World) (B : Nat), B < w2.heap.size → (∀ i, i < S.size → w2.cell? ⟨B, i, none⟩ = some (.int .u8 (S.data.toList.getD i 0).toNat)) → Below (w2.setCell ⟨B, j, none⟩ (.int .u8 (c.toNat : Int))).heap.size (w2.setCell ⟨B, j, none⟩ (.int .u8 (c.toNat : Int))) w3 →
      ∀ i (hi : i < (((sealF s.data.toList).set j c).take 3).length), w3.cell? ⟨B, i, none⟩ = some (.int .u8 (((((sealF s.data.toList).set j c).take 3)[i]).toNat : Int)) := by
    intro w2 w3 B hB hcells hb i hi
    have hi2 : i < ((sealF s.data.toList).set j c).length := by rw [List.length_take] at hi; omega
    rw [hb.cell (by simpa using hB), HSET.out w2 B hcells i hi2]
    simp
  have HSET3 := Lib.hid hset3
  have HLM : Hid (s.size + 4 = ((sealF s.data.toList).set j c).length) := by
    show _ = _
    simp [sealF, be_length]
  clear hset3
  clear hT hx hTs hMs
  have hC3 : ∀ C : Nat, S.size ≤ C → 3 ≤ C := fun C h => by omega
  by_cases hneg : q < 0
  · rw [if_pos hneg] at hj
    have hqs : q + ((s.size : Int) + 4) = (j : Int) := hj.symm
    clear hj
    go_enter Try.func4, Try.ntmps4
    go_wp2_with (first | (go_at_call 11; refine (hse.out _).mono ?_; rintro e w1 ⟨rfl, hb1⟩; obtain ⟨C, w2, hcv, hb2, hC, hcells, hfr, hgr⟩ := bytes_of S w1; have hcx := HR.out w1 w2 C hC hb2 hgr hcells; have hfz := hfr j hjl; have HCL := Lib.hid hcells; clear hcells hfr; have hcv2 : (convert 30 9 (.slice (some ⟨w1.heap.size, 0, none⟩) (s.size + 4) C)).run Try.prog (w2.setCell ⟨w1.heap.size, j, none⟩ (.int .u8 (c.toNat : Int))) = .ok (.string M) (w2.setCell ⟨w1.heap.size, j, none⟩ (.int .u8 (c.toNat : Int))) := by (rw [HM.out]; exact back_of _ _ _ _ _ HLM.out (HSET.out w2 _ HCL.out))) | (go_at_call 12; first | (with_reducible refine (hop.out _).mono ?_; rintro e w3 ⟨rfl, hb3⟩; have hcv3 : (convert 30 9 (.slice (some ⟨w1.heap.size, 0, none⟩) 3 C)).run Try.prog w3 = .ok (.string T) w3 := by (rw [HT.out]; exact back_of _ _ _ _ _ hT3.symm (HSET3.out w2 w3 _ hgr HCL.out hb3))) | (with_reducible refine (hop2.out _).mono ?_; rintro e w4 ⟨rfl, hb4⟩)) | (go_at_call 7; refine (alive_any _).mono ?_; rintro e w5 ⟨rfl, hb5⟩))
    go_ret
    refine ⟨rfl, ?_⟩
    have k2 : Below w.heap.size w w2 := hb1.trans (hb2.mono hb1.size)
    have k3 := k2.setCell (p := ⟨w1.heap.size, j, none⟩) hb1.size (.int .u8 (c.toNat : Int))
    have k4 := k3.trans (hb3.mono k3.size)
    have k5 := k4.trans (hb4.mono k4.size)
    exact k5.trans (hb5.mono k5.size)
  · rw [if_neg hneg] at hj
    have hqj : q = (j : Int) := hj.symm
    subst hqj
    clear hj
    go_enter Try.func4, Try.ntmps4
    go_wp2_with (first | (go_at_call 11; refine (hse.out _).mono ?_; rintro e w1 ⟨rfl, hb1⟩; obtain ⟨C, w2, hcv, hb2, hC, hcells, hfr, hgr⟩ := bytes_of S w1; have hcx := HR.out w1 w2 C hC hb2 hgr hcells; have hfz := hfr j hjl; have HCL := Lib.hid hcells; clear hcells hfr; have hcv2 : (convert 30 9 (.slice (some ⟨w1.heap.size, 0, none⟩) (s.size + 4) C)).run Try.prog (w2.setCell ⟨w1.heap.size, j, none⟩ (.int .u8 (c.toNat : Int))) = .ok (.string M) (w2.setCell ⟨w1.heap.size, j, none⟩ (.int .u8 (c.toNat : Int))) := by (rw [HM.out]; exact back_of _ _ _ _ _ HLM.out (HSET.out w2 _ HCL.out))) | (go_at_call 12; first | (with_reducible refine (hop.out _).mono ?_; rintro e w3 ⟨rfl, hb3⟩; have hcv3 : (convert 30 9 (.slice (some ⟨w1.heap.size, 0, none⟩) 3 C)).run Try.prog w3 = .ok (.string T) w3 := by (rw [HT.out]; exact back_of _ _ _ _ _ hT3.symm (HSET3.out w2 w3 _ hgr HCL.out hb3))) | (with_reducible refine (hop2.out _).mono ?_; rintro e w4 ⟨rfl, hb4⟩)) | (go_at_call 7; refine (alive_any _).mono ?_; rintro e w5 ⟨rfl, hb5⟩))
    go_ret
    refine ⟨rfl, ?_⟩
    have k2 : Below w.heap.size w w2 := hb1.trans (hb2.mono hb1.size)
    have k3 := k2.setCell (p := ⟨w1.heap.size, j, none⟩) hb1.size (.int .u8 (c.toNat : Int))
    have k4 := k3.trans (hb3.mono k3.size)
    have k5 := k4.trans (hb4.mono k4.size)
    exact k5.trans (hb5.mono k5.size)

theorem sumChanged_walk (s : ByteArray) (hs : s.size ≤ maxLen) (a : Int) (_ : -9223372036854775808 ≤ a) (_ : a ≤ 9223372036854775807) (b : Int) (_ : -9223372036854775808 ≤ b) (_ : b ≤ 9223372036854775807) (w : World) :
    Calls Try.prog 4 #[.string s, .int .i64 a, .int .i64 b] w fun e w' => e = .returned (.bool true) ∧ Below w.heap.size w w' := by
  by_cases h : 3000 < s.size ∨ b % 256 = 0
  · exact changed_easy s hs a b w h
  · exact changed_hard s a b w (by omega) (by omega)
end Go.Proofs.Ytgoehmmmajdenaa
