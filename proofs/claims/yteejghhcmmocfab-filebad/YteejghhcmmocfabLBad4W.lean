/- The walk of FileBad: a sync that fails makes nothing last; all others do. -/
import Derived.Test.YteejghhcmmocfabFG
namespace Go.Proofs.Yteejghhcmmocfab
open Go.RowKit

def rep (d : List UInt8) (i : Nat) : List UInt8 := (List.replicate i d).flatten
theorem rep_succ (d : List UInt8) (i : Nat) : rep d (i + 1) = rep d i ++ d := by
  unfold rep
  rw [List.replicate_succ', List.flatten_append]
  simp
theorem rep_len (d : List UInt8) (i : Nat) : (rep d i).length = i * d.length := by
  unfold rep
  simp
theorem rep_take (d : List UInt8) : ∀ (n i : Nat), i ≤ n → (rep d n).take (i * d.length) = rep d i
  | 0, i, h => by
    obtain rfl : i = 0 := by omega
    simp [rep]
  | n + 1, i, h => by
    by_cases hi : i = n + 1
    · subst hi
      rw [List.take_of_length_le (by rw [rep_len]; exact Nat.le_refl _)]
    · rw [rep_succ, List.take_append, rep_take d n i (by omega)]
      have : i * d.length - (rep d n).length = 0 := by
        rw [rep_len]
        have : i * d.length ≤ n * d.length := Nat.mul_le_mul_right _ (by omega)
        omega
      rw [this]
      simp
/-- How many rounds lasted. -/
def lastf (bad i : Nat) : Nat := if i = bad + 1 then bad else i
def badv (bad i : Nat) : Int := if i ≤ bad then (bad : Int) - (i : Int) else -1
def G (bad : Nat) (d : List UInt8) (i : Nat) : St := ⟨true, true, 0, 2 + 2 * (i : Int), -1, badv bad i, [([97], 0)], [([97], 0)], [], [⟨rep d i, lastf bad i * d.length⟩]⟩
def G1 (bad : Nat) (d : List UInt8) (i : Nat) : St := ⟨true, true, 0, 3 + 2 * (i : Int), -1, badv bad i, [([97], 0)], [([97], 0)], [], [⟨rep d (i + 1), lastf bad i * d.length⟩]⟩
theorem lastf_le (bad i : Nat) : lastf bad i ≤ i := by
  unfold lastf
  split <;> omega
theorem g_bad (bad : Nat) (d : List UInt8) : { A2 with bad := (bad : Int) } = G bad d 0 := by
  have h1 : badv bad 0 = (bad : Int) := by simp [badv]
  have h2 : lastf bad 0 = 0 := by simp [lastf]
  unfold G
  rw [h1, h2]
  simp [A2, rep]
theorem g_app (bad : Nat) (d : List UInt8) (i : Nat) : (G bad d i).append [97] d = (G1 bad d i, 0) := by
  show ((⟨true, true, 0, 2 + 2 * (i : Int) + 1, -1, badv bad i, [([97], 0)], [([97], 0)], [], [⟨rep d i ++ d, lastf bad i * d.length⟩]⟩ : St), (0 : Int)) = _
  rw [← rep_succ]
  unfold G1
  rw [show 2 + 2 * (i : Int) + 1 = 3 + 2 * (i : Int) by omega]
theorem g_begun (bad : Nat) (d : List UInt8) (i : Nat) : (G1 bad d i).begun.bads = ⟨true, true, 0, 3 + 2 * (i : Int) + 1, -1, badv bad (i + 1), [([97], 0)], [([97], 0)], [], [⟨rep d (i + 1), lastf bad i * d.length⟩]⟩ := by
  have h : tick (badv bad i) = badv bad (i + 1) := by
    unfold tick badv
    split <;> split <;> (try split) <;> omega
  show (⟨true, true, 0, 3 + 2 * (i : Int) + 1, -1, tick (badv bad i), [([97], 0)], [([97], 0)], [], [⟨rep d (i + 1), lastf bad i * d.length⟩]⟩ : St) = _
  rw [h]
theorem g_syn (bad : Nat) (d : List UInt8) (i : Nat) (h : i ≠ bad) : (G1 bad d i).sync [97] = (G bad d (i + 1), 0) := by
  have ho : over (G1 bad d i).bad = false := by
    show over (badv bad i) = false
    unfold over badv
    split <;> simp <;> omega
  have hl : lastf bad (i + 1) = i + 1 := by unfold lastf; rw [if_neg (by omega)]
  unfold St.sync sy
  rw [if_pos (show (G1 bad d i).on = true from rfl), if_pos (show (G1 bad d i).begun.on = true from rfl), ho, g_begun]
  show ((⟨true, true, 0, 3 + 2 * (i : Int) + 1, -1, badv bad (i + 1), [([97], 0)], [([97], 0)], [], [⟨rep d (i + 1), (rep d (i + 1)).length⟩]⟩ : St), (0 : Int)) = _
  unfold G
  rw [rep_len, hl, show 3 + 2 * (i : Int) + 1 = 2 + 2 * ((i + 1 : Nat) : Int) by omega]
theorem g_io (d : List UInt8) (i : Nat) : (G1 i d i).sync [97] = (G i d (i + 1), 16) := by
  have ho : over (G1 i d i).bad = true := by
    show over (badv i i) = true
    unfold over badv
    simp
  have hl : lastf i (i + 1) = i := by unfold lastf; rw [if_pos rfl]
  have hl2 : lastf i i = i := by unfold lastf; rw [if_neg (by omega)]
  unfold St.sync sy
  rw [if_pos (show (G1 i d i).on = true from rfl), if_pos (show (G1 i d i).begun.on = true from rfl), ho, g_begun]
  unfold G
  rw [hl, hl2, show 3 + 2 * (i : Int) + 1 = 2 + 2 * ((i + 1 : Nat) : Int) by omega]
  rfl
def G2 (n k : Nat) (d : List UInt8) (on : Bool) : St := ⟨true, on, 0, 2 + 2 * (n : Int), -1, -1, [([97], 0)], [([97], 0)], [], [⟨rep d k, k * d.length⟩]⟩
theorem g_crash (bad n : Nat) (d : List UInt8) : (G bad d n).crash 0 [] = G2 n (lastf bad n) d false := by
  show (⟨true, false, 0, 2 + 2 * (n : Int), -1, -1, [([97], 0)], [([97], 0)], [], [(Fil.mk (rep d n) (lastf bad n * d.length)).cut 0]⟩ : St) = _
  have hz : ∀ x, modn 0 x = 0 := by intro x; simp [modn]
  unfold Fil.cut
  simp only [hz, Nat.add_zero]
  rw [rep_take d n _ (lastf_le bad n)]
  rfl
theorem readV_str (s : ByteArray) (e : Int) : readV (s.data.toList, e) = .tuple #[.string s, .int .i64 e] := by
  rcases s with ⟨a⟩
  rfl
set_option maxHeartbeats 8000000 in
set_option maxRecDepth 100000 in
theorem bad_hard (n bad : Nat) (data : ByteArray) (w : World) (hn1 : 1 ≤ n) (hn : n ≤ 20) (hb : bad ≤ 30) (hd1 : 1 ≤ data.size) (hd : data.size ≤ 100) :
    Calls Try.prog 5 #[.int .i64 (n : Int), .int .i64 (bad : Int), .string data] w fun e w' => e = .returned (.bool true) ∧ Below w.heap.size w w' := by
  have hmul : ∀ i, i ≤ 20 → i * data.size ≤ 2000 := fun i hi => by
    have := Nat.mul_le_mul hi hd
    omega
  have C0 := Lib.hid (has_new 0 (by omega) w)
  have C1 := Lib.hid (fun p w1 (h : Has w.heap.size p 0 0 (St.new 0) w1) => by
    have := has_create h (by omega) ⟨#[97]⟩ (by unfold maxLen; decide)
    rw [show (St.new 0).create (⟨#[97]⟩ : ByteArray).data.toList = (A1, 0) from a1] at this
    exact this)
  have C2 := Lib.hid (fun p w1 (h : Has w.heap.size p 2 0 A1 w1) => by
    have := has_syncDir h (by omega)
    rw [a2] at this
    exact this)
  have C3 := Lib.hid (fun p w1 (h : Has w.heap.size p 3 0 A2 w1) => by
    have := has_bad h (bad : Int) (by omega)
    rw [g_bad bad data.data.toList] at this
    exact this)
  have C4 := Lib.hid (fun i (hi : i < n) p w1 (h : Has w.heap.size p (3 + 2 * i) (i * data.size) (G bad data.data.toList i) w1) => by
    have := has_append h (by omega) ⟨#[97]⟩ (by unfold maxLen; decide) data (by have := hmul i (by omega); omega) (by omega)
    rw [show (G bad data.data.toList i).append (⟨#[97]⟩ : ByteArray).data.toList data.data.toList = (G1 bad data.data.toList i, 0) from g_app _ _ _] at this
    exact this)
  have C5 := Lib.hid (fun i (hi : i < n) (hne : i ≠ bad) p w1 (h : Has w.heap.size p (3 + 2 * i + 1) (i * data.size + data.size) (G1 bad data.data.toList i) w1) => by
    have := has_sync h (by omega) ⟨#[97]⟩ (by unfold maxLen; decide)
    rw [show (G1 bad data.data.toList i).sync (⟨#[97]⟩ : ByteArray).data.toList = (G bad data.data.toList (i + 1), 0) from g_syn _ _ _ hne] at this
    exact this)
  have C6 := Lib.hid (fun (hi : bad < n) p w1 (h : Has w.heap.size p (3 + 2 * bad + 1) (bad * data.size + data.size) (G1 bad data.data.toList bad) w1) => by
    have := has_sync h (by omega) ⟨#[97]⟩ (by unfold maxLen; decide)
    rw [show (G1 bad data.data.toList bad).sync (⟨#[97]⟩ : ByteArray).data.toList = (G bad data.data.toList (bad + 1), 16) from g_io _ _] at this
    exact this)
  obtain ⟨k, hk⟩ : ∃ k, k = lastf bad n := ⟨_, rfl⟩
  have hkn : k ≤ n := by rw [hk]; exact lastf_le _ _
  have C7 := Lib.hid (fun p w1 (h : Has w.heap.size p (3 + 2 * n) (n * data.size) (G bad data.data.toList n) w1) => by
    have := has_crash0 h (by omega) (by have := hmul n (by omega); omega) 0
    rw [g_crash, ← hk] at this
    exact this)
  have C8 := Lib.hid (fun p w1 (h : Has w.heap.size p (3 + 2 * n) (n * data.size) (G2 n k data.data.toList false) w1) => by
    have := has_restore h
    rw [show (G2 n k data.data.toList false).restore = G2 n k data.data.toList true from rfl] at this
    exact this)
  obtain ⟨T, hT⟩ : ∃ T : ByteArray, T = ⟨(rep data.data.toList k).toArray⟩ := ⟨_, rfl⟩
  have hTs : T.size = k * data.size := by
    rw [hT]
    show (rep data.data.toList k).toArray.size = _
    rw [List.size_toArray, rep_len]
    rfl
  have C9 := Lib.hid (fun p w1 (h : Has w.heap.size p (3 + 2 * n) (n * data.size) (G2 n k data.data.toList true) w1) => by
    have := has_read h ⟨#[97]⟩ (by unfold maxLen; decide)
    rw [show (G2 n k data.data.toList true).read (⟨#[97]⟩ : ByteArray).data.toList = (T.data.toList, 0) by rw [hT]; rfl, readV_str] at this
    exact this)
  have hq : ((T.size : Int) == (k : Int) * (data.size : Int)) = true := by
    rw [hTs, beq_iff_eq]
    simp
  have hprod : (0 : Int) ≤ (k : Int) * (data.size : Int) := Int.mul_nonneg (by omega) (by omega)
  have hprod2 : (k : Int) * (data.size : Int) ≤ 2000 := by
    have := hmul k (by omega)
    rw [← Int.natCast_mul]
    omega
  have Hk := Lib.hid hk
  have e1 : decide ((n : Int) < 1) = false := by simp; omega
  have e2 : decide (20 < (n : Int)) = false := by simp; omega
  have e3 : decide ((bad : Int) < 0) = false := by simp
  have e4 : decide (30 < (bad : Int)) = false := by simp; omega
  have e5 : decide ((data.size : Int) < 1) = false := by simp; omega
  have e6 : decide (100 < (data.size : Int)) = false := by simp; omega
  clear hT hTs hk hmul
  go_enter Try.func5, Try.ntmps5
  go_wp2_with (first | (go_at_call 9; refine C0.out.mono ?_; rintro e W0 ⟨p, rfl, h0, b0⟩) | (go_at_call 17; refine (C1.out _ _ h0).mono ?_; rintro e W1 ⟨rfl, h1, b1⟩) | (go_at_call 20; refine (C2.out _ _ h1).mono ?_; rintro e W2 ⟨rfl, h2, b2⟩) | (go_at_call 21; refine (C3.out _ _ h2).mono ?_; rintro e W3 ⟨rfl, h3, b3⟩))
  go_loopw [8, 9, 10] (fun lv iv _ wr => ∃ i : Nat, i ≤ n ∧ lv = .int .i64 ((lastf bad i : Nat) : Int) ∧ iv = .int .i64 (i : Int) ∧ Has w.heap.size p (3 + 2 * i) (i * data.size) (G bad data.data.toList i) wr ∧ Below w.heap.size w wr) (fun _ iv _ _ => n - (intOf iv).toNat)
  case atStart => exact ⟨0, Nat.zero_le _, by simp [lastf], rfl, by simpa using h3, ((b0.trans b1).trans b2).trans b3⟩
  case round =>
    obtain ⟨i, hi, rfl, rfl, hh, hbl⟩ := hrel
    by_cases hlt : i < n
    · have hll := lastf_le bad i
      by_cases hib : i = bad
      · subst hib
        have hl1 := Lib.hid (show lastf i (i + 1) = i by unfold lastf; rw [if_pos rfl])
        have hl2 : lastf i i = i := by unfold lastf; rw [if_neg (by omega)]
        rw [hl2]
        clear hl2
        go_wp2_with (first | (go_at_call 22; refine (C4.out i hlt _ _ hh).mono ?_; rintro e W4 ⟨rfl, h4, b4⟩) | (go_at_call 23; refine (C6.out hlt _ _ h4).mono ?_; rintro e W5 ⟨rfl, h5, b5⟩))
        go_roundw
        case rel => exact ⟨i + 1, by omega, by rw [hl1.out], by go_num, h5.up (by omega) (Nat.le_of_eq (Nat.succ_mul i data.size).symm), (hbl.trans b4).trans b5⟩
        case measure => simp [intOf]; omega
      · have hl1 := Lib.hid (show lastf bad (i + 1) = i + 1 by unfold lastf; rw [if_neg (by omega)])
        have hne : ((i : Int) == (bad : Int)) = false := by simp; omega
        have hne2 : (i == bad) = false := by simp; omega
        generalize lastf bad i = li at *
        go_wp2_with (first | (go_at_call 22; refine (C4.out i hlt _ _ hh).mono ?_; rintro e W4 ⟨rfl, h4, b4⟩) | (go_at_call 23; refine (C5.out i hlt hib _ _ h4).mono ?_; rintro e W5 ⟨rfl, h5, b5⟩))
        go_roundw
        case rel => exact ⟨i + 1, by omega, by rw [hl1.out]; go_num, by go_num, h5.up (by omega) (Nat.le_of_eq (Nat.succ_mul i data.size).symm), (hbl.trans b4).trans b5⟩
        case measure => simp [intOf]; omega
    · obtain rfl : i = n := by omega
      rw [← Hk.out]
      go_wp2_with (first | (go_at_call 18; refine (C7.out _ _ hh).mono ?_; rintro e W6 ⟨rfl, h6, b6⟩) | (go_at_call 19; refine (C8.out _ _ h6).mono ?_; rintro e W7 ⟨rfl, h7, b7⟩) | (go_at_call 16; refine (C9.out _ _ h7).mono ?_; rintro e W9 ⟨rfl, rfl⟩) | (go_at_call 8; refine (alive4_any _).mono ?_; rintro e WA ⟨rfl, bA⟩))
      go_ret
      refine ⟨rfl, ?_⟩
      exact ((hbl.trans b6).trans b7).trans (bA.mono h7.size)
set_option maxHeartbeats 2000000 in
theorem fileBad_walk (n : Int) (_ : -9223372036854775808 ≤ n) (_ : n ≤ 9223372036854775807) (bad : Int) (_ : -9223372036854775808 ≤ bad) (_ : bad ≤ 9223372036854775807) (data : ByteArray) (_ : data.size ≤ maxLen) (w : World) :
    Calls Try.prog 5 #[.int .i64 n, .int .i64 bad, .string data] w fun e w' => e = .returned (.bool true) ∧ Below w.heap.size w w' := by
  by_cases h : n < 1 ∨ 20 < n ∨ bad < 0 ∨ 30 < bad ∨ data.size < 1 ∨ 100 < data.size
  · skip
    by_cases c0 : n < 1
    · have q0 : decide (n < 1) = true := decide_eq_true c0
      clear h
      go_enter Try.func5, Try.ntmps5
      go_wp2_with (go_at_call 8; refine (alive4_any _).mono ?_; rintro e w1 ⟨rfl, hb1⟩)
      go_ret
      exact ⟨rfl, hb1⟩
    have q0 : decide (n < 1) = false := decide_eq_false c0
    by_cases c1 : 20 < n
    · have q1 : decide (20 < n) = true := decide_eq_true c1
      clear h
      go_enter Try.func5, Try.ntmps5
      go_wp2_with (go_at_call 8; refine (alive4_any _).mono ?_; rintro e w1 ⟨rfl, hb1⟩)
      go_ret
      exact ⟨rfl, hb1⟩
    have q1 : decide (20 < n) = false := decide_eq_false c1
    by_cases c2 : bad < 0
    · have q2 : decide (bad < 0) = true := decide_eq_true c2
      clear h
      go_enter Try.func5, Try.ntmps5
      go_wp2_with (go_at_call 8; refine (alive4_any _).mono ?_; rintro e w1 ⟨rfl, hb1⟩)
      go_ret
      exact ⟨rfl, hb1⟩
    have q2 : decide (bad < 0) = false := decide_eq_false c2
    by_cases c3 : 30 < bad
    · have q3 : decide (30 < bad) = true := decide_eq_true c3
      clear h
      go_enter Try.func5, Try.ntmps5
      go_wp2_with (go_at_call 8; refine (alive4_any _).mono ?_; rintro e w1 ⟨rfl, hb1⟩)
      go_ret
      exact ⟨rfl, hb1⟩
    have q3 : decide (30 < bad) = false := decide_eq_false c3
    by_cases c4 : (data.size : Int) < 1
    · have q4 : decide ((data.size : Int) < 1) = true := decide_eq_true c4
      clear h
      go_enter Try.func5, Try.ntmps5
      go_wp2_with (go_at_call 8; refine (alive4_any _).mono ?_; rintro e w1 ⟨rfl, hb1⟩)
      go_ret
      exact ⟨rfl, hb1⟩
    have q4 : decide ((data.size : Int) < 1) = false := decide_eq_false c4
    have q5 : decide (100 < (data.size : Int)) = true := decide_eq_true (by omega)
    clear h
    go_enter Try.func5, Try.ntmps5
    go_wp2_with (go_at_call 8; refine (alive4_any _).mono ?_; rintro e w1 ⟨rfl, hb1⟩)
    go_ret
    exact ⟨rfl, hb1⟩
  · obtain ⟨k, rfl⟩ : ∃ k : Nat, n = (k : Int) := ⟨n.toNat, by omega⟩
    obtain ⟨b, rfl⟩ : ∃ b : Nat, bad = (b : Int) := ⟨bad.toNat, by omega⟩
    exact bad_hard k b data w (by omega) (by omega) (by omega) (by omega) (by omega)
end Go.Proofs.Yteejghhcmmocfab
