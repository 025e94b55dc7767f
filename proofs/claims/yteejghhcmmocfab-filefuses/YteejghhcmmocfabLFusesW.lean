/- The walk of FileFuses: at the operation at which the power fails ErrOff is told, and just so many were done ahead of it. -/
import Derived.Test.YteejghhcmmocfabFG
namespace Go.Proofs.Yteejghhcmmocfab
open Go.RowKit

def U (n i : Nat) : St := ⟨true, true, 0, 1 + (i : Int), (n : Int) - (i : Int), -1, [([97], 0)], [], [⟨[], [97], some 0⟩], [⟨List.replicate i 120, 0⟩]⟩
def V (n : Nat) : St := ⟨true, false, 0, 2 + (n : Int), -1, -1, [([97], 0)], [], [⟨[], [97], some 0⟩], [⟨List.replicate (n + 1) 120, 0⟩]⟩
def X (n j : Nat) (on : Bool) : St := ⟨true, on, 0, 2 + (n : Int), -1, -1, [([97], 0)], [([97], 0)], [], [⟨List.replicate j 120, j⟩]⟩
theorem u_fuse (n : Nat) : { A1 with fuse := (n : Int) } = U n 0 := by simp [A1, U]
theorem u_step (n i : Nat) (h : i < n) : (U n i).append [97] [120] = (U n (i + 1), 0) := by
  have h1 : ¬ ((n : Int) - (i : Int) < 0) := by omega
  have h2 : ¬ ((n : Int) - (i : Int) - 1 < 0) := by omega
  have e1 : over ((n : Int) - (i : Int)) = false := by simp [over]; omega
  have e2 : tick ((n : Int) - (i : Int)) = (n : Int) - (i : Int) - 1 := by simp [tick]; omega
  have e3 : (U n i).begun = ⟨true, true, 0, 1 + (i : Int) + 1, (n : Int) - (i : Int) - 1, -1, [([97], 0)], [], [⟨[], [97], some 0⟩], [⟨List.replicate i 120, 0⟩]⟩ := by
    unfold St.begun U
    simp only [e1, e2, Bool.not_false]
  unfold St.append wr
  rw [if_pos (show (U n i).on = true from rfl), e3]
  show ((⟨true, true, 0, 1 + (i : Int) + 1, (n : Int) - (i : Int) - 1, -1, [([97], 0)], [], [⟨[], [97], some 0⟩], [⟨List.replicate i 120 ++ [120], 0⟩]⟩ : St), (0 : Int)) = _
  rw [← List.replicate_succ']
  unfold U
  have g1 : 1 + (i : Int) + 1 = 1 + ((i + 1 : Nat) : Int) := by omega
  have g2 : (n : Int) - (i : Int) - 1 = (n : Int) - ((i + 1 : Nat) : Int) := by omega
  rw [g1, g2]
theorem u_last (n : Nat) : (U n n).append [97] [120] = (V n, 14) := by
  have e0 : (n : Int) - (n : Int) = 0 := by omega
  have e3 : (U n n).begun = ⟨true, false, 0, 1 + (n : Int) + 1, -1, -1, [([97], 0)], [], [⟨[], [97], some 0⟩], [⟨List.replicate n 120, 0⟩]⟩ := by
    unfold St.begun U
    simp only [e0]
    rfl
  unfold St.append wr
  rw [if_pos (show (U n n).on = true from rfl), e3]
  show ((⟨true, false, 0, 1 + (n : Int) + 1, -1, -1, [([97], 0)], [], [⟨[], [97], some 0⟩], [⟨List.replicate n 120 ++ [120], 0⟩]⟩ : St), (14 : Int)) = _
  rw [← List.replicate_succ']
  unfold V
  have g1 : 1 + (n : Int) + 1 = 2 + (n : Int) := by omega
  rw [g1]
theorem v_off (n : Nat) : (V n).append [97] [120] = (V n, 14) := rfl
theorem v_crash (n : Nat) : (V n).crash 1 [1099511627776] = X n (1099511627776 % (n + 2)) false := by
  have hj : modn 1099511627776 (n + 1 - 0 + 1) = 1099511627776 % (n + 2) := by
    rw [show n + 1 - 0 + 1 = n + 2 by omega]
    unfold modn
    rw [show (1099511627776 : Int) = ((1099511627776 : Nat) : Int) from rfl, ← Int.natCast_emod, Int.toNat_natCast]
  have hlt : 1099511627776 % (n + 2) < n + 2 := Nat.mod_lt _ (by omega)
  show (⟨true, false, 0, 2 + (n : Int), -1, -1, [([97], 0)], [([97], 0)], [], [(Fil.mk (List.replicate (n + 1) 120) 0).cut 1099511627776]⟩ : St) = _
  unfold X Fil.cut
  simp only [List.length_replicate]
  rw [hj, List.take_replicate]
  simp only [Nat.zero_add]
  rw [Nat.min_eq_left (by omega)]
theorem x_restore (n j : Nat) : (X n j false).restore = X n j true := rfl
theorem x_read (n j : Nat) : (X n j true).read [97] = (List.replicate j 120, 0) := rfl
theorem readV_str (s : ByteArray) (e : Int) : readV (s.data.toList, e) = .tuple #[.string s, .int .i64 e] := by
  rcases s with ⟨a⟩
  rfl
set_option maxHeartbeats 8000000 in
set_option maxRecDepth 100000 in
theorem fuses_hard (n : Nat) (w : World) (hn : n ≤ 40) :
    Calls Try.prog 6 #[.int .i64 (n : Int)] w fun e w' => e = .returned (.bool true) ∧ Below w.heap.size w w' := by
  have C0 := Lib.hid (has_new 0 (by omega) w)
  have C1 := Lib.hid (fun p w1 (h : Has w.heap.size p 0 0 (St.new 0) w1) => by
    have := has_create h (by omega) ⟨#[97]⟩ (by unfold maxLen; decide)
    rw [show (St.new 0).create (⟨#[97]⟩ : ByteArray).data.toList = (A1, 0) from a1] at this
    exact this)
  have C2 := Lib.hid (fun p w1 (h : Has w.heap.size p 2 0 A1 w1) => by
    have := has_fuse h (n : Int) (by omega)
    rw [u_fuse] at this
    exact this)
  have C3 := Lib.hid (fun i (hi : i < n) p w1 (h : Has w.heap.size p (2 + i) i (U n i) w1) => by
    have := has_append h (by omega) ⟨#[97]⟩ (by unfold maxLen; decide) ⟨#[120]⟩ (by omega) (by decide)
    rw [show (U n i).append (⟨#[97]⟩ : ByteArray).data.toList (⟨#[120]⟩ : ByteArray).data.toList = (U n (i + 1), 0) from u_step n i hi] at this
    exact this)
  have C4 := Lib.hid (fun p w1 (h : Has w.heap.size p (2 + n) n (U n n) w1) => by
    have := has_append h (by omega) ⟨#[97]⟩ (by unfold maxLen; decide) ⟨#[120]⟩ (by omega) (by decide)
    rw [show (U n n).append (⟨#[97]⟩ : ByteArray).data.toList (⟨#[120]⟩ : ByteArray).data.toList = (V n, 14) from u_last n] at this
    exact this)
  have C5 := Lib.hid (fun p w1 (h : Has w.heap.size p (2 + n + 1) (n + 1) (V n) w1) => by
    have := has_append h (by omega) ⟨#[97]⟩ (by unfold maxLen; decide) ⟨#[120]⟩ (by omega) (by decide)
    rw [show (V n).append (⟨#[97]⟩ : ByteArray).data.toList (⟨#[120]⟩ : ByteArray).data.toList = (V n, 14) from v_off n] at this
    exact this)
  have C6 := Lib.hid (fun i p w1 (h : Has w.heap.size p (2 + (i + 1)) (i + 1) (U n (i + 1)) w1) => show Calls Try.prog 13 #[.pointer (some ⟨p, 0, none⟩)] w1 fun e w' => e = .returned (.bool true) ∧ w1 = w' from has_on h)
  have C7 := Lib.hid (fun p w1 (h : Has w.heap.size p (2 + n + 1 + 1) (n + 1 + 1) (V n) w1) => show Calls Try.prog 13 #[.pointer (some ⟨p, 0, none⟩)] w1 fun e w' => e = .returned (.bool false) ∧ w1 = w' from has_on h)
  obtain ⟨j, hj⟩ : ∃ j, j = 1099511627776 % (n + 2) := ⟨_, rfl⟩
  have C8 := Lib.hid (fun p w1 (h : Has w.heap.size p (2 + n + 1 + 1) (n + 1 + 1) (V n) w1) => by
    have := has_crash1 h (by omega) (by omega) 1 1099511627776
    rw [v_crash, ← hj] at this
    exact this)
  have C9 := Lib.hid (fun p w1 (h : Has w.heap.size p (2 + n + 1 + 1) (n + 1 + 1) (X n j false) w1) => by
    have := has_restore h
    rw [x_restore] at this
    exact this)
  obtain ⟨T, hT⟩ : ∃ T : ByteArray, T = ⟨(List.replicate j 120).toArray⟩ := ⟨_, rfl⟩
  have hTs : T.size = j := by rw [hT]; simp [ByteArray.size]
  have C10 := Lib.hid (fun p w1 (h : Has w.heap.size p (2 + n + 1 + 1) (n + 1 + 1) (X n j true) w1) => by
    have := has_read h ⟨#[97]⟩ (by unfold maxLen; decide)
    rw [show (X n j true).read (⟨#[97]⟩ : ByteArray).data.toList = (T.data.toList, 0) by rw [hT]; exact x_read n j, readV_str] at this
    exact this)
  have C11 := Lib.hid (fun p w1 (h : Has w.heap.size p (2 + n + 1 + 1) (n + 1 + 1) (X n j true) w1) => show Calls Try.prog 12 #[.pointer (some ⟨p, 0, none⟩)] w1 fun e w' => e = .returned (.int .i64 (2 + (n : Int))) ∧ w1 = w' from has_steps h)
  have hq1 : ((T.size : Int) == (1099511627776 : Int) % ((n : Int) + 2)) = true := by
    rw [hTs, hj, beq_iff_eq, Int.natCast_emod]
    simp
  have hq2 : ((2 + (n : Int)) == ((n : Int) + 2)) = true := by rw [beq_iff_eq]; omega
  have hd1 : decide ((n : Int) < 0) = false := by simp
  have hd2 : decide (40 < (n : Int)) = false := by simp; omega
  clear hT hTs hj
  go_enter Try.func6, Try.ntmps6
  go_wp2_with (first | (go_at_call 9; refine C0.out.mono ?_; rintro e W0 ⟨p, rfl, h0, b0⟩) | (go_at_call 17; refine (C1.out _ _ h0).mono ?_; rintro e W1 ⟨rfl, h1, b1⟩) | (go_at_call 24; refine (C2.out _ _ h1).mono ?_; rintro e W2 ⟨rfl, h2, b2⟩))
  go_loopw [4] (fun iv wr => ∃ i : Nat, i ≤ n ∧ iv = .int .i64 (i : Int) ∧ Has w.heap.size p (2 + i) i (U n i) wr ∧ Below w.heap.size w wr) (fun iv _ => n - (intOf iv).toNat)
  case atStart => exact ⟨0, Nat.zero_le _, rfl, h2, (b0.trans b1).trans b2⟩
  case round =>
    obtain ⟨i, hi, rfl, hh, hb⟩ := hrel
    by_cases hlt : i < n
    · go_wp2_with (first | (go_at_call 22; refine (C3.out i hlt _ _ hh).mono ?_; rintro e W3 ⟨rfl, h3, b3⟩) | (go_at_call 13; refine (C6.out i _ _ h3).mono ?_; rintro e W9 ⟨rfl, rfl⟩))
      go_roundw
      case rel => exact ⟨i + 1, by omega, by go_num, h3, hb.trans b3⟩
      case measure => simp [intOf]; omega
    · obtain rfl : i = n := by omega
      go_wp2_with (first | (go_at_call 22; first | ((with_reducible refine (C4.out _ _ hh).mono ?_); rintro e W4 ⟨rfl, h4, b4⟩) | ((with_reducible refine (C5.out _ _ h4).mono ?_); rintro e W5 ⟨rfl, h5, b5⟩)) | (go_at_call 13; refine (C7.out _ _ h5).mono ?_; rintro e W9 ⟨rfl, rfl⟩) | (go_at_call 18; refine (C8.out _ _ h5).mono ?_; rintro e W6 ⟨rfl, h6, b6⟩) | (go_at_call 19; refine (C9.out _ _ h6).mono ?_; rintro e W7 ⟨rfl, h7, b7⟩) | (go_at_call 16; refine (C10.out _ _ h7).mono ?_; rintro e W9 ⟨rfl, rfl⟩) | (go_at_call 8; refine (alive4_any _).mono ?_; rintro e WA ⟨rfl, bA⟩; have h8 := h7.below bA) | (go_at_call 12; refine (C11.out _ _ h8).mono ?_; rintro e W9 ⟨rfl, rfl⟩))
      go_ret
      refine ⟨rfl, ?_⟩
      exact ((((hb.trans b4).trans b5).trans b6).trans b7).trans (bA.mono h7.size)
theorem fileFuses_walk (n : Int) (_ : -9223372036854775808 ≤ n) (_ : n ≤ 9223372036854775807) (w : World) :
    Calls Try.prog 6 #[.int .i64 n] w fun e w' => e = .returned (.bool true) ∧ Below w.heap.size w w' := by
  by_cases h1 : n < 0
  · have hd1 : decide (n < 0) = true := by simpa using h1
    go_enter Try.func6, Try.ntmps6
    go_wp2_with (go_at_call 8; refine (alive4_any _).mono ?_; rintro e w1 ⟨rfl, hb1⟩)
    go_ret
    exact ⟨rfl, hb1⟩
  · by_cases h2 : 40 < n
    · have hd1 : decide (n < 0) = false := by simpa using h1
      have hd2 : decide (40 < n) = true := by simpa using h2
      go_enter Try.func6, Try.ntmps6
      go_wp2_with (go_at_call 8; refine (alive4_any _).mono ?_; rintro e w1 ⟨rfl, hb1⟩)
      go_ret
      exact ⟨rfl, hb1⟩
    · obtain ⟨k, rfl⟩ : ∃ k : Nat, n = (k : Int) := ⟨n.toNat, by omega⟩
      exact fuses_hard k w (by omega)
end Go.Proofs.Yteejghhcmmocfab
