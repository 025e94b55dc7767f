/- The walk of FileRenames: a rename that was made for good has the new bytes under the name, one that was not the old ones or the new ones. -/
import Derived.Test.YteejghhcmmocfaaFG
namespace Go.Proofs.Yteejghhcmmocfaa
open Go.RowKit

theorem readV_str (s : ByteArray) (e : Int) : readV (s.data.toList, e) = .tuple #[.string s, .int .i64 e] := by
  rcases s with ⟨a⟩
  rfl
theorem modn_one (k : Int) : modn k 1 = 0 := by
  have := modn_lt k 1 (by omega)
  omega
theorem cut_whole {b : List UInt8} (k : Int) : (Fil.mk b b.length).cut k = ⟨b, b.length⟩ := by
  unfold Fil.cut
  simp only [Nat.sub_self, Nat.zero_add, modn_one, Nat.add_zero, List.take_length]
def R1 : St := ⟨true, true, 0, 1, -1, -1, [([110], 0)], [], [⟨[], [110], some 0⟩], [⟨[], 0⟩]⟩
def R2 (a : List UInt8) : St := ⟨true, true, 0, 2, -1, -1, [([110], 0)], [], [⟨[], [110], some 0⟩], [⟨a, 0⟩]⟩
def R3 (a : List UInt8) : St := ⟨true, true, 0, 3, -1, -1, [([110], 0)], [], [⟨[], [110], some 0⟩], [⟨a, a.length⟩]⟩
def R4 (a : List UInt8) : St := ⟨true, true, 0, 4, -1, -1, [([110], 0), ([110, 126], 1)], [], [⟨[], [110], some 0⟩, ⟨[], [110, 126], some 1⟩], [⟨a, a.length⟩, ⟨[], 0⟩]⟩
def R5 (a b : List UInt8) : St := ⟨true, true, 0, 5, -1, -1, [([110], 0), ([110, 126], 1)], [], [⟨[], [110], some 0⟩, ⟨[], [110, 126], some 1⟩], [⟨a, a.length⟩, ⟨b, 0⟩]⟩
def R6 (a b : List UInt8) : St := ⟨true, true, 0, 6, -1, -1, [([110], 0), ([110, 126], 1)], [], [⟨[], [110], some 0⟩, ⟨[], [110, 126], some 1⟩], [⟨a, a.length⟩, ⟨b, b.length⟩]⟩
def R7 (a b : List UInt8) : St := ⟨true, true, 0, 7, -1, -1, [([110], 0), ([110, 126], 1)], [([110], 0), ([110, 126], 1)], [], [⟨a, a.length⟩, ⟨b, b.length⟩]⟩
def R8 (a b : List UInt8) : St := ⟨true, true, 0, 8, -1, -1, [([110], 1)], [([110], 0), ([110, 126], 1)], [⟨[110, 126], [110], none⟩], [⟨a, a.length⟩, ⟨b, b.length⟩]⟩
def R9 (a b : List UInt8) : St := ⟨true, true, 0, 9, -1, -1, [([110], 1)], [([110], 1)], [], [⟨a, a.length⟩, ⟨b, b.length⟩]⟩
def R10 (a b : List UInt8) : St := ⟨true, false, 0, 9, -1, -1, [([110], 1)], [([110], 1)], [], [⟨a, a.length⟩, ⟨b, b.length⟩]⟩
def R11 (a b : List UInt8) : St := ⟨true, true, 0, 9, -1, -1, [([110], 1)], [([110], 1)], [], [⟨a, a.length⟩, ⟨b, b.length⟩]⟩
def R10' (a b : List UInt8) : St := ⟨true, false, 0, 8, -1, -1, [([110], 1)], [([110], 1)], [], [⟨a, a.length⟩, ⟨b, b.length⟩]⟩
def R11' (a b : List UInt8) : St := ⟨true, true, 0, 8, -1, -1, [([110], 1)], [([110], 1)], [], [⟨a, a.length⟩, ⟨b, b.length⟩]⟩
def R12 (a b : List UInt8) : St := ⟨true, false, 0, 8, -1, -1, [([110], 0), ([110, 126], 1)], [([110], 0), ([110, 126], 1)], [], [⟨a, a.length⟩, ⟨b, b.length⟩]⟩
def R13 (a b : List UInt8) : St := ⟨true, true, 0, 8, -1, -1, [([110], 0), ([110, 126], 1)], [([110], 0), ([110, 126], 1)], [], [⟨a, a.length⟩, ⟨b, b.length⟩]⟩
theorem r1 : (St.new 0).create [110] = (R1, 0) := by decide
theorem r2 (a : List UInt8) : R1.append [110] a = (R2 a, 0) := rfl
theorem r3 (a : List UInt8) : (R2 a).sync [110] = (R3 a, 0) := rfl
theorem r4 (a : List UInt8) : (R3 a).create [110, 126] = (R4 a, 0) := rfl
theorem r5 (a b : List UInt8) : (R4 a).append [110, 126] b = (R5 a b, 0) := rfl
theorem r6 (a b : List UInt8) : (R5 a b).sync [110, 126] = (R6 a b, 0) := rfl
theorem r7 (a b : List UInt8) : (R6 a b).syncDir = (R7 a b, 0) := rfl
theorem r8 (a b : List UInt8) : (R7 a b).rename [110, 126] [110] = (R8 a b, 0) := rfl
theorem r9 (a b : List UInt8) : (R8 a b).syncDir = (R9 a b, 0) := rfl
theorem rd8 (a b : List UInt8) : (R8 a b).read [110] = (b, 0) := rfl
theorem rd9 (a b : List UInt8) : (R9 a b).read [110] = (b, 0) := rfl
theorem rd11 (a b : List UInt8) : (R11 a b).read [110] = (b, 0) := rfl
theorem rd13 (a b : List UInt8) : (R13 a b).read [110] = (a, 0) := rfl
theorem rd15 (a b : List UInt8) : (R11' a b).read [110] = (b, 0) := rfl
theorem r11 (a b : List UInt8) : (R10 a b).restore = R11 a b := rfl
theorem r13 (a b : List UInt8) : (R12 a b).restore = R13 a b := rfl
theorem r15 (a b : List UInt8) : (R10' a b).restore = R11' a b := rfl
theorem r10 (a b : List UInt8) (dir : Int) : (R9 a b).crash dir [] = R10 a b := by
  have hk : modn dir ((R9 a b).pend.length + 1) = 0 := modn_one dir
  unfold St.crash
  rw [hk]
  show (⟨true, false, 0, 9, -1, -1, [([110], 1)], [([110], 1)], [], [⟨a, a.length⟩, (Fil.mk b b.length).cut 0]⟩ : St) = _
  rw [cut_whole]
  rfl
theorem r12 (a b : List UInt8) (dir : Int) (h : modn dir 2 = 0) : (R8 a b).crash dir [] = R12 a b := by
  have hk : modn dir ((R8 a b).pend.length + 1) = 0 := h
  unfold St.crash
  rw [hk]
  show (⟨true, false, 0, 8, -1, -1, [([110], 0), ([110, 126], 1)], [([110], 0), ([110, 126], 1)], [], [(Fil.mk a a.length).cut 0, (Fil.mk b b.length).cut 0]⟩ : St) = _
  rw [cut_whole, cut_whole]
  rfl
theorem r14 (a b : List UInt8) (dir : Int) (h : modn dir 2 = 1) : (R8 a b).crash dir [] = R10' a b := by
  have hk : modn dir ((R8 a b).pend.length + 1) = 1 := h
  unfold St.crash
  rw [hk]
  show (⟨true, false, 0, 8, -1, -1, [([110], 1)], [([110], 1)], [], [⟨a, a.length⟩, (Fil.mk b b.length).cut 0]⟩ : St) = _
  rw [cut_whole]
  rfl

set_option maxHeartbeats 8000000 in
set_option maxRecDepth 100000 in
theorem renames_sync (old fresh : ByteArray) (dir : Int) (w : World) (ho : old.size ≤ 1000) (hf : fresh.size ≤ 1000) :
    Calls Try.prog 6 #[.string old, .string fresh, .bool true, .int .i64 dir] w fun e w' => e = .returned (.bool true) ∧ Below w.heap.size w w' := by
  have C0 := Lib.hid (has_new 0 (by omega) w)
  have C1 := Lib.hid (fun p w1 (h : Has w.heap.size p (0) (0) (St.new 0) w1) => by
    have := has_create h (by omega) ⟨#[110]⟩ (by unfold maxLen; decide)
    rw [show (St.new 0).create (⟨#[110]⟩ : ByteArray).data.toList = (R1, 0) from r1] at this
    exact this)
  have C2 := Lib.hid (fun p w1 (h : Has w.heap.size p (0 + 2) (0) (R1) w1) => by
    have := has_append h (by omega) ⟨#[110]⟩ (by unfold maxLen; decide) old (by omega) (by omega)
    rw [show (R1).append (⟨#[110]⟩ : ByteArray).data.toList old.data.toList = (R2 old.data.toList, 0) from r2 _] at this
    exact this)
  have C3 := Lib.hid (fun p w1 (h : Has w.heap.size p (0 + 2 + 1) (0 + old.size) (R2 old.data.toList) w1) => by
    have := has_sync h (by omega) ⟨#[110]⟩ (by unfold maxLen; decide)
    rw [show (R2 old.data.toList).sync (⟨#[110]⟩ : ByteArray).data.toList = (R3 old.data.toList, 0) from r3 _] at this
    exact this)
  have C4 := Lib.hid (fun p w1 (h : Has w.heap.size p (0 + 2 + 1 + 1) (0 + old.size) (R3 old.data.toList) w1) => by
    have := has_create h (by omega) ⟨#[110, 126]⟩ (by unfold maxLen; decide)
    rw [show (R3 old.data.toList).create (⟨#[110, 126]⟩ : ByteArray).data.toList = (R4 old.data.toList, 0) from r4 _] at this
    exact this)
  have C5 := Lib.hid (fun p w1 (h : Has w.heap.size p (0 + 2 + 1 + 1 + 2) (0 + old.size) (R4 old.data.toList) w1) => by
    have := has_append h (by omega) ⟨#[110, 126]⟩ (by unfold maxLen; decide) fresh (by omega) (by omega)
    rw [show (R4 old.data.toList).append (⟨#[110, 126]⟩ : ByteArray).data.toList fresh.data.toList = (R5 old.data.toList fresh.data.toList, 0) from r5 _ _] at this
    exact this)
  have C6 := Lib.hid (fun p w1 (h : Has w.heap.size p (0 + 2 + 1 + 1 + 2 + 1) (0 + old.size + fresh.size) (R5 old.data.toList fresh.data.toList) w1) => by
    have := has_sync h (by omega) ⟨#[110, 126]⟩ (by unfold maxLen; decide)
    rw [show (R5 old.data.toList fresh.data.toList).sync (⟨#[110, 126]⟩ : ByteArray).data.toList = (R6 old.data.toList fresh.data.toList, 0) from r6 _ _] at this
    exact this)
  have C7 := Lib.hid (fun p w1 (h : Has w.heap.size p (0 + 2 + 1 + 1 + 2 + 1 + 1) (0 + old.size + fresh.size) (R6 old.data.toList fresh.data.toList) w1) => by
    have := has_syncDir h (by omega)
    rw [show (R6 old.data.toList fresh.data.toList).syncDir  = (R7 old.data.toList fresh.data.toList, 0) from r7 _ _] at this
    exact this)
  have C8 := Lib.hid (fun p w1 (h : Has w.heap.size p (0 + 2 + 1 + 1 + 2 + 1 + 1 + 1) (0 + old.size + fresh.size) (R7 old.data.toList fresh.data.toList) w1) => by
    have := has_rename h (by omega) ⟨#[110, 126]⟩ (by unfold maxLen; decide) ⟨#[110]⟩ (by unfold maxLen; decide)
    rw [show (R7 old.data.toList fresh.data.toList).rename (⟨#[110, 126]⟩ : ByteArray).data.toList (⟨#[110]⟩ : ByteArray).data.toList = (R8 old.data.toList fresh.data.toList, 0) from r8 _ _] at this
    exact this)
  have C9 := Lib.hid (fun p w1 (h : Has w.heap.size p (0 + 2 + 1 + 1 + 2 + 1 + 1 + 1 + 2) (0 + old.size + fresh.size) (R8 old.data.toList fresh.data.toList) w1) => by
    have := has_syncDir h (by omega)
    rw [show (R8 old.data.toList fresh.data.toList).syncDir  = (R9 old.data.toList fresh.data.toList, 0) from r9 _ _] at this
    exact this)
  have C10 := Lib.hid (fun p w1 (h : Has w.heap.size p (0 + 2 + 1 + 1 + 2 + 1 + 1 + 1 + 2 + 1) (0 + old.size + fresh.size) (R9 old.data.toList fresh.data.toList) w1) => by
    have := has_read h ⟨#[110]⟩ (by unfold maxLen; decide)
    rw [show (R9 old.data.toList fresh.data.toList).read (⟨#[110]⟩ : ByteArray).data.toList = (fresh.data.toList, 0) from rd9 _ _, readV_str] at this
    exact this)
  have C11 := Lib.hid (fun p w1 (h : Has w.heap.size p (0 + 2 + 1 + 1 + 2 + 1 + 1 + 1 + 2 + 1) (0 + old.size + fresh.size) (R9 old.data.toList fresh.data.toList) w1) => by
    have := has_crash0 h (by omega) (by omega) (dir)
    rw [show (R9 old.data.toList fresh.data.toList).crash (dir) [] = R10 old.data.toList fresh.data.toList from r10 _ _ _] at this
    exact this)
  have C12 := Lib.hid (fun p w1 (h : Has w.heap.size p (0 + 2 + 1 + 1 + 2 + 1 + 1 + 1 + 2 + 1) (0 + old.size + fresh.size) (R10 old.data.toList fresh.data.toList) w1) => by
    have := has_restore h
    rw [show (R10 old.data.toList fresh.data.toList).restore = R11 old.data.toList fresh.data.toList from r11 _ _] at this
    exact this)
  have C13 := Lib.hid (fun p w1 (h : Has w.heap.size p (0 + 2 + 1 + 1 + 2 + 1 + 1 + 1 + 2 + 1) (0 + old.size + fresh.size) (R11 old.data.toList fresh.data.toList) w1) => by
    have := has_read h ⟨#[110]⟩ (by unfold maxLen; decide)
    rw [show (R11 old.data.toList fresh.data.toList).read (⟨#[110]⟩ : ByteArray).data.toList = (fresh.data.toList, 0) from rd11 _ _, readV_str] at this
    exact this)
  have hd1 : decide (1000 < (old.size : Int)) = false := by simp; omega
  have hd2 : decide (1000 < (fresh.size : Int)) = false := by simp; omega
  go_enter Try.func6, Try.ntmps6
  go_wp2_with (first | (go_at_call 28; refine C0.out.mono ?_; rintro e W0 ⟨p, rfl, h0, b0⟩) | (go_at_call 17; (with_reducible refine (C1.out _ _ h0).mono ?_); rintro e W1 ⟨rfl, h1, bC1⟩) | (go_at_call 18; (with_reducible refine (C2.out _ _ h1).mono ?_); rintro e W2 ⟨rfl, h2, bC2⟩) | (go_at_call 19; (with_reducible refine (C3.out _ _ h2).mono ?_); rintro e W3 ⟨rfl, h3, bC3⟩) | (go_at_call 17; (with_reducible refine (C4.out _ _ h3).mono ?_); rintro e W4 ⟨rfl, h4, bC4⟩) | (go_at_call 18; (with_reducible refine (C5.out _ _ h4).mono ?_); rintro e W5 ⟨rfl, h5, bC5⟩) | (go_at_call 19; (with_reducible refine (C6.out _ _ h5).mono ?_); rintro e W6 ⟨rfl, h6, bC6⟩) | (go_at_call 20; (with_reducible refine (C7.out _ _ h6).mono ?_); rintro e W7 ⟨rfl, h7, bC7⟩) | (go_at_call 21; (with_reducible refine (C8.out _ _ h7).mono ?_); rintro e W8 ⟨rfl, h8, bC8⟩) | (go_at_call 20; (with_reducible refine (C9.out _ _ h8).mono ?_); rintro e W9 ⟨rfl, h9, bC9⟩) | (go_at_call 13; (with_reducible refine (C10.out _ _ h9).mono ?_); rintro e W10 ⟨rfl, rfl⟩) | (go_at_call 14; (with_reducible refine (C11.out _ _ h9).mono ?_); rintro e W11 ⟨rfl, h11, bC11⟩) | (go_at_call 12; (with_reducible refine (C12.out _ _ h11).mono ?_); rintro e W12 ⟨rfl, h12, bC12⟩) | (go_at_call 13; (with_reducible refine (C13.out _ _ h12).mono ?_); rintro e W13 ⟨rfl, rfl⟩) | (go_at_call 11; refine (alive4_any _).mono ?_; rintro e WA ⟨rfl, bA⟩))
  go_ret
  refine ⟨by simp, ?_⟩
  exact (((((((((((b0.trans bC1).trans bC2).trans bC3).trans bC4).trans bC5).trans bC6).trans bC7).trans bC8).trans bC9).trans bC11).trans bC12).trans (bA.mono h12.size)
set_option maxHeartbeats 8000000 in
set_option maxRecDepth 100000 in
theorem renames_old (old fresh : ByteArray) (dir : Int) (w : World) (ho : old.size ≤ 1000) (hf : fresh.size ≤ 1000) (hk : modn dir 2 = 0) :
    Calls Try.prog 6 #[.string old, .string fresh, .bool false, .int .i64 dir] w fun e w' => e = .returned (.bool true) ∧ Below w.heap.size w w' := by
  have C0 := Lib.hid (has_new 0 (by omega) w)
  have C1 := Lib.hid (fun p w1 (h : Has w.heap.size p (0) (0) (St.new 0) w1) => by
    have := has_create h (by omega) ⟨#[110]⟩ (by unfold maxLen; decide)
    rw [show (St.new 0).create (⟨#[110]⟩ : ByteArray).data.toList = (R1, 0) from r1] at this
    exact this)
  have C2 := Lib.hid (fun p w1 (h : Has w.heap.size p (0 + 2) (0) (R1) w1) => by
    have := has_append h (by omega) ⟨#[110]⟩ (by unfold maxLen; decide) old (by omega) (by omega)
    rw [show (R1).append (⟨#[110]⟩ : ByteArray).data.toList old.data.toList = (R2 old.data.toList, 0) from r2 _] at this
    exact this)
  have C3 := Lib.hid (fun p w1 (h : Has w.heap.size p (0 + 2 + 1) (0 + old.size) (R2 old.data.toList) w1) => by
    have := has_sync h (by omega) ⟨#[110]⟩ (by unfold maxLen; decide)
    rw [show (R2 old.data.toList).sync (⟨#[110]⟩ : ByteArray).data.toList = (R3 old.data.toList, 0) from r3 _] at this
    exact this)
  have C4 := Lib.hid (fun p w1 (h : Has w.heap.size p (0 + 2 + 1 + 1) (0 + old.size) (R3 old.data.toList) w1) => by
    have := has_create h (by omega) ⟨#[110, 126]⟩ (by unfold maxLen; decide)
    rw [show (R3 old.data.toList).create (⟨#[110, 126]⟩ : ByteArray).data.toList = (R4 old.data.toList, 0) from r4 _] at this
    exact this)
  have C5 := Lib.hid (fun p w1 (h : Has w.heap.size p (0 + 2 + 1 + 1 + 2) (0 + old.size) (R4 old.data.toList) w1) => by
    have := has_append h (by omega) ⟨#[110, 126]⟩ (by unfold maxLen; decide) fresh (by omega) (by omega)
    rw [show (R4 old.data.toList).append (⟨#[110, 126]⟩ : ByteArray).data.toList fresh.data.toList = (R5 old.data.toList fresh.data.toList, 0) from r5 _ _] at this
    exact this)
  have C6 := Lib.hid (fun p w1 (h : Has w.heap.size p (0 + 2 + 1 + 1 + 2 + 1) (0 + old.size + fresh.size) (R5 old.data.toList fresh.data.toList) w1) => by
    have := has_sync h (by omega) ⟨#[110, 126]⟩ (by unfold maxLen; decide)
    rw [show (R5 old.data.toList fresh.data.toList).sync (⟨#[110, 126]⟩ : ByteArray).data.toList = (R6 old.data.toList fresh.data.toList, 0) from r6 _ _] at this
    exact this)
  have C7 := Lib.hid (fun p w1 (h : Has w.heap.size p (0 + 2 + 1 + 1 + 2 + 1 + 1) (0 + old.size + fresh.size) (R6 old.data.toList fresh.data.toList) w1) => by
    have := has_syncDir h (by omega)
    rw [show (R6 old.data.toList fresh.data.toList).syncDir  = (R7 old.data.toList fresh.data.toList, 0) from r7 _ _] at this
    exact this)
  have C8 := Lib.hid (fun p w1 (h : Has w.heap.size p (0 + 2 + 1 + 1 + 2 + 1 + 1 + 1) (0 + old.size + fresh.size) (R7 old.data.toList fresh.data.toList) w1) => by
    have := has_rename h (by omega) ⟨#[110, 126]⟩ (by unfold maxLen; decide) ⟨#[110]⟩ (by unfold maxLen; decide)
    rw [show (R7 old.data.toList fresh.data.toList).rename (⟨#[110, 126]⟩ : ByteArray).data.toList (⟨#[110]⟩ : ByteArray).data.toList = (R8 old.data.toList fresh.data.toList, 0) from r8 _ _] at this
    exact this)
  have C9 := Lib.hid (fun p w1 (h : Has w.heap.size p (0 + 2 + 1 + 1 + 2 + 1 + 1 + 1 + 2) (0 + old.size + fresh.size) (R8 old.data.toList fresh.data.toList) w1) => by
    have := has_read h ⟨#[110]⟩ (by unfold maxLen; decide)
    rw [show (R8 old.data.toList fresh.data.toList).read (⟨#[110]⟩ : ByteArray).data.toList = (fresh.data.toList, 0) from rd8 _ _, readV_str] at this
    exact this)
  have C10 := Lib.hid (fun p w1 (h : Has w.heap.size p (0 + 2 + 1 + 1 + 2 + 1 + 1 + 1 + 2) (0 + old.size + fresh.size) (R8 old.data.toList fresh.data.toList) w1) => by
    have := has_crash0 h (by omega) (by omega) (dir)
    rw [show (R8 old.data.toList fresh.data.toList).crash (dir) [] = R12 old.data.toList fresh.data.toList from r12 _ _ _ hk] at this
    exact this)
  have C11 := Lib.hid (fun p w1 (h : Has w.heap.size p (0 + 2 + 1 + 1 + 2 + 1 + 1 + 1 + 2) (0 + old.size + fresh.size) (R12 old.data.toList fresh.data.toList) w1) => by
    have := has_restore h
    rw [show (R12 old.data.toList fresh.data.toList).restore = R13 old.data.toList fresh.data.toList from r13 _ _] at this
    exact this)
  have C12 := Lib.hid (fun p w1 (h : Has w.heap.size p (0 + 2 + 1 + 1 + 2 + 1 + 1 + 1 + 2) (0 + old.size + fresh.size) (R13 old.data.toList fresh.data.toList) w1) => by
    have := has_read h ⟨#[110]⟩ (by unfold maxLen; decide)
    rw [show (R13 old.data.toList fresh.data.toList).read (⟨#[110]⟩ : ByteArray).data.toList = (old.data.toList, 0) from rd13 _ _, readV_str] at this
    exact this)
  have hd1 : decide (1000 < (old.size : Int)) = false := by simp; omega
  have hd2 : decide (1000 < (fresh.size : Int)) = false := by simp; omega
  clear hk
  go_enter Try.func6, Try.ntmps6
  go_wp2_with (first | (go_at_call 28; refine C0.out.mono ?_; rintro e W0 ⟨p, rfl, h0, b0⟩) | (go_at_call 17; (with_reducible refine (C1.out _ _ h0).mono ?_); rintro e W1 ⟨rfl, h1, bC1⟩) | (go_at_call 18; (with_reducible refine (C2.out _ _ h1).mono ?_); rintro e W2 ⟨rfl, h2, bC2⟩) | (go_at_call 19; (with_reducible refine (C3.out _ _ h2).mono ?_); rintro e W3 ⟨rfl, h3, bC3⟩) | (go_at_call 17; (with_reducible refine (C4.out _ _ h3).mono ?_); rintro e W4 ⟨rfl, h4, bC4⟩) | (go_at_call 18; (with_reducible refine (C5.out _ _ h4).mono ?_); rintro e W5 ⟨rfl, h5, bC5⟩) | (go_at_call 19; (with_reducible refine (C6.out _ _ h5).mono ?_); rintro e W6 ⟨rfl, h6, bC6⟩) | (go_at_call 20; (with_reducible refine (C7.out _ _ h6).mono ?_); rintro e W7 ⟨rfl, h7, bC7⟩) | (go_at_call 21; (with_reducible refine (C8.out _ _ h7).mono ?_); rintro e W8 ⟨rfl, h8, bC8⟩) | (go_at_call 13; (with_reducible refine (C9.out _ _ h8).mono ?_); rintro e W9 ⟨rfl, rfl⟩) | (go_at_call 14; (with_reducible refine (C10.out _ _ h8).mono ?_); rintro e W10 ⟨rfl, h10, bC10⟩) | (go_at_call 12; (with_reducible refine (C11.out _ _ h10).mono ?_); rintro e W11 ⟨rfl, h11, bC11⟩) | (go_at_call 13; (with_reducible refine (C12.out _ _ h11).mono ?_); rintro e W12 ⟨rfl, rfl⟩) | (go_at_call 11; refine (alive4_any _).mono ?_; rintro e WA ⟨rfl, bA⟩))
  all_goals go_ret
  all_goals refine ⟨by simp [*], ?_⟩
  all_goals exact ((((((((((b0.trans bC1).trans bC2).trans bC3).trans bC4).trans bC5).trans bC6).trans bC7).trans bC8).trans bC10).trans bC11).trans (bA.mono h11.size)
set_option maxHeartbeats 8000000 in
set_option maxRecDepth 100000 in
theorem renames_new (old fresh : ByteArray) (dir : Int) (w : World) (ho : old.size ≤ 1000) (hf : fresh.size ≤ 1000) (hk : modn dir 2 = 1) :
    Calls Try.prog 6 #[.string old, .string fresh, .bool false, .int .i64 dir] w fun e w' => e = .returned (.bool true) ∧ Below w.heap.size w w' := by
  have C0 := Lib.hid (has_new 0 (by omega) w)
  have C1 := Lib.hid (fun p w1 (h : Has w.heap.size p (0) (0) (St.new 0) w1) => by
    have := has_create h (by omega) ⟨#[110]⟩ (by unfold maxLen; decide)
    rw [show (St.new 0).create (⟨#[110]⟩ : ByteArray).data.toList = (R1, 0) from r1] at this
    exact this)
  have C2 := Lib.hid (fun p w1 (h : Has w.heap.size p (0 + 2) (0) (R1) w1) => by
    have := has_append h (by omega) ⟨#[110]⟩ (by unfold maxLen; decide) old (by omega) (by omega)
    rw [show (R1).append (⟨#[110]⟩ : ByteArray).data.toList old.data.toList = (R2 old.data.toList, 0) from r2 _] at this
    exact this)
  have C3 := Lib.hid (fun p w1 (h : Has w.heap.size p (0 + 2 + 1) (0 + old.size) (R2 old.data.toList) w1) => by
    have := has_sync h (by omega) ⟨#[110]⟩ (by unfold maxLen; decide)
    rw [show (R2 old.data.toList).sync (⟨#[110]⟩ : ByteArray).data.toList = (R3 old.data.toList, 0) from r3 _] at this
    exact this)
  have C4 := Lib.hid (fun p w1 (h : Has w.heap.size p (0 + 2 + 1 + 1) (0 + old.size) (R3 old.data.toList) w1) => by
    have := has_create h (by omega) ⟨#[110, 126]⟩ (by unfold maxLen; decide)
    rw [show (R3 old.data.toList).create (⟨#[110, 126]⟩ : ByteArray).data.toList = (R4 old.data.toList, 0) from r4 _] at this
    exact this)
  have C5 := Lib.hid (fun p w1 (h : Has w.heap.size p (0 + 2 + 1 + 1 + 2) (0 + old.size) (R4 old.data.toList) w1) => by
    have := has_append h (by omega) ⟨#[110, 126]⟩ (by unfold maxLen; decide) fresh (by omega) (by omega)
    rw [show (R4 old.data.toList).append (⟨#[110, 126]⟩ : ByteArray).data.toList fresh.data.toList = (R5 old.data.toList fresh.data.toList, 0) from r5 _ _] at this
    exact this)
  have C6 := Lib.hid (fun p w1 (h : Has w.heap.size p (0 + 2 + 1 + 1 + 2 + 1) (0 + old.size + fresh.size) (R5 old.data.toList fresh.data.toList) w1) => by
    have := has_sync h (by omega) ⟨#[110, 126]⟩ (by unfold maxLen; decide)
    rw [show (R5 old.data.toList fresh.data.toList).sync (⟨#[110, 126]⟩ : ByteArray).data.toList = (R6 old.data.toList fresh.data.toList, 0) from r6 _ _] at this
    exact this)
  have C7 := Lib.hid (fun p w1 (h : Has w.heap.size p (0 + 2 + 1 + 1 + 2 + 1 + 1) (0 + old.size + fresh.size) (R6 old.data.toList fresh.data.toList) w1) => by
    have := has_syncDir h (by omega)
    rw [show (R6 old.data.toList fresh.data.toList).syncDir  = (R7 old.data.toList fresh.data.toList, 0) from r7 _ _] at this
    exact this)
  have C8 := Lib.hid (fun p w1 (h : Has w.heap.size p (0 + 2 + 1 + 1 + 2 + 1 + 1 + 1) (0 + old.size + fresh.size) (R7 old.data.toList fresh.data.toList) w1) => by
    have := has_rename h (by omega) ⟨#[110, 126]⟩ (by unfold maxLen; decide) ⟨#[110]⟩ (by unfold maxLen; decide)
    rw [show (R7 old.data.toList fresh.data.toList).rename (⟨#[110, 126]⟩ : ByteArray).data.toList (⟨#[110]⟩ : ByteArray).data.toList = (R8 old.data.toList fresh.data.toList, 0) from r8 _ _] at this
    exact this)
  have C9 := Lib.hid (fun p w1 (h : Has w.heap.size p (0 + 2 + 1 + 1 + 2 + 1 + 1 + 1 + 2) (0 + old.size + fresh.size) (R8 old.data.toList fresh.data.toList) w1) => by
    have := has_read h ⟨#[110]⟩ (by unfold maxLen; decide)
    rw [show (R8 old.data.toList fresh.data.toList).read (⟨#[110]⟩ : ByteArray).data.toList = (fresh.data.toList, 0) from rd8 _ _, readV_str] at this
    exact this)
  have C10 := Lib.hid (fun p w1 (h : Has w.heap.size p (0 + 2 + 1 + 1 + 2 + 1 + 1 + 1 + 2) (0 + old.size + fresh.size) (R8 old.data.toList fresh.data.toList) w1) => by
    have := has_crash0 h (by omega) (by omega) (dir)
    rw [show (R8 old.data.toList fresh.data.toList).crash (dir) [] = R10' old.data.toList fresh.data.toList from r14 _ _ _ hk] at this
    exact this)
  have C11 := Lib.hid (fun p w1 (h : Has w.heap.size p (0 + 2 + 1 + 1 + 2 + 1 + 1 + 1 + 2) (0 + old.size + fresh.size) (R10' old.data.toList fresh.data.toList) w1) => by
    have := has_restore h
    rw [show (R10' old.data.toList fresh.data.toList).restore = R11' old.data.toList fresh.data.toList from r15 _ _] at this
    exact this)
  have C12 := Lib.hid (fun p w1 (h : Has w.heap.size p (0 + 2 + 1 + 1 + 2 + 1 + 1 + 1 + 2) (0 + old.size + fresh.size) (R11' old.data.toList fresh.data.toList) w1) => by
    have := has_read h ⟨#[110]⟩ (by unfold maxLen; decide)
    rw [show (R11' old.data.toList fresh.data.toList).read (⟨#[110]⟩ : ByteArray).data.toList = (fresh.data.toList, 0) from rd15 _ _, readV_str] at this
    exact this)
  have hd1 : decide (1000 < (old.size : Int)) = false := by simp; omega
  have hd2 : decide (1000 < (fresh.size : Int)) = false := by simp; omega
  clear hk
  go_enter Try.func6, Try.ntmps6
  go_wp2_with (first | (go_at_call 28; refine C0.out.mono ?_; rintro e W0 ⟨p, rfl, h0, b0⟩) | (go_at_call 17; (with_reducible refine (C1.out _ _ h0).mono ?_); rintro e W1 ⟨rfl, h1, bC1⟩) | (go_at_call 18; (with_reducible refine (C2.out _ _ h1).mono ?_); rintro e W2 ⟨rfl, h2, bC2⟩) | (go_at_call 19; (with_reducible refine (C3.out _ _ h2).mono ?_); rintro e W3 ⟨rfl, h3, bC3⟩) | (go_at_call 17; (with_reducible refine (C4.out _ _ h3).mono ?_); rintro e W4 ⟨rfl, h4, bC4⟩) | (go_at_call 18; (with_reducible refine (C5.out _ _ h4).mono ?_); rintro e W5 ⟨rfl, h5, bC5⟩) | (go_at_call 19; (with_reducible refine (C6.out _ _ h5).mono ?_); rintro e W6 ⟨rfl, h6, bC6⟩) | (go_at_call 20; (with_reducible refine (C7.out _ _ h6).mono ?_); rintro e W7 ⟨rfl, h7, bC7⟩) | (go_at_call 21; (with_reducible refine (C8.out _ _ h7).mono ?_); rintro e W8 ⟨rfl, h8, bC8⟩) | (go_at_call 13; (with_reducible refine (C9.out _ _ h8).mono ?_); rintro e W9 ⟨rfl, rfl⟩) | (go_at_call 14; (with_reducible refine (C10.out _ _ h8).mono ?_); rintro e W10 ⟨rfl, h10, bC10⟩) | (go_at_call 12; (with_reducible refine (C11.out _ _ h10).mono ?_); rintro e W11 ⟨rfl, h11, bC11⟩) | (go_at_call 13; (with_reducible refine (C12.out _ _ h11).mono ?_); rintro e W12 ⟨rfl, rfl⟩) | (go_at_call 11; refine (alive4_any _).mono ?_; rintro e WA ⟨rfl, bA⟩))
  go_ret
  refine ⟨by simp, ?_⟩
  exact ((((((((((b0.trans bC1).trans bC2).trans bC3).trans bC4).trans bC5).trans bC6).trans bC7).trans bC8).trans bC10).trans bC11).trans (bA.mono h11.size)
theorem fileRenames_walk (old : ByteArray) (ho : old.size ≤ maxLen) (fresh : ByteArray) (hf : fresh.size ≤ maxLen) (sync : Bool) (dir : Int) (_ : -9223372036854775808 ≤ dir) (_ : dir ≤ 9223372036854775807) (w : World) :
    Calls Try.prog 6 #[.string old, .string fresh, .bool sync, .int .i64 dir] w fun e w' => e = .returned (.bool true) ∧ Below w.heap.size w w' := by
  unfold maxLen at ho hf
  by_cases h1 : 1000 < old.size
  · go_enter Try.func6, Try.ntmps6
    go_wp2_with (go_at_call 11; refine (alive4_any _).mono ?_; rintro e w1 ⟨rfl, hb1⟩)
    go_ret
    exact ⟨rfl, hb1⟩
  · have hd1 : decide (1000 < (old.size : Int)) = false := by simp; omega
    by_cases h2 : 1000 < fresh.size
    · go_enter Try.func6, Try.ntmps6
      go_wp2_with (go_at_call 11; refine (alive4_any _).mono ?_; rintro e w1 ⟨rfl, hb1⟩)
      go_ret
      exact ⟨rfl, hb1⟩
    · cases sync
      · have := modn_lt dir 2 (by omega)
        by_cases hk : modn dir 2 = 0
        · exact renames_old old fresh dir w (by omega) (by omega) hk
        · exact renames_new old fresh dir w (by omega) (by omega) (by omega)
      · exact renames_sync old fresh dir w (by omega) (by omega)
end Go.Proofs.Yteejghhcmmocfaa
