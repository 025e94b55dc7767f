/- The statements' own first call: alive. -/
import Derived.Test.YtfndlfnlepndmaaGreatF4
namespace Go.Proofs.YtfndlfnlepndmaaGreat
open Go.RowKit

def A1 : St := ⟨true, true, 0, 1, -1, -1, [([97], 0)], [], [⟨[], [97], some 0⟩], [⟨[], 0⟩]⟩
def A2 : St := ⟨true, true, 0, 2, -1, -1, [([97], 0)], [([97], 0)], [], [⟨[], 0⟩]⟩
def A3 : St := ⟨true, true, 0, 3, -1, -1, [([97], 0)], [([97], 0)], [], [⟨[120, 121, 122], 0⟩]⟩
def A4 : St := ⟨true, true, 0, 4, -1, -1, [([98], 0)], [([97], 0)], [⟨[97], [98], none⟩], [⟨[120, 121, 122], 0⟩]⟩
def A5 : St := ⟨true, false, 0, 4, -1, -1, [([97], 0)], [([97], 0)], [], [⟨[120, 121], 2⟩]⟩
def A6 : St := ⟨true, true, 0, 4, -1, -1, [([97], 0)], [([97], 0)], [], [⟨[120, 121], 2⟩]⟩
theorem a1 : (St.new 0).create [97] = (A1, 0) := by rfl
theorem a2 : A1.syncDir = (A2, 0) := by rfl
theorem a3 : A2.append [97] [120, 121, 122] = (A3, 0) := by rfl
theorem a4 : A3.rename [97] [98] = (A4, 0) := by rfl
theorem a5 : A4.crash 0 [2] = A5 := by rfl
theorem a6 : A5.restore = A6 := by rfl
theorem a7 : A6.names = [[97]] := by rfl
theorem a8 : A6.read [97] = ([120, 121], 0) := by rfl
theorem row_one {w : World} {v : Value} {x : Value} (h : Row w 9 1 v 1 [x]) : ∃ g o c, v = .slice (some ⟨g, o, none⟩) 1 c ∧ w.cell? ⟨g, o, none⟩ = some x := by
  have hc := h.cell
  rcases h.2 with ⟨h0, -⟩ | ⟨g, cap, cur, rfl, -⟩
  · omega
  · exact ⟨g, 0, cap + 1, rfl, hc g 0 (cap + 1) rfl 0 x rfl⟩
set_option maxHeartbeats 4000000 in
set_option maxRecDepth 100000 in
theorem alive4_any (w : World) : Calls Tryz.prog 5 #[] w fun e w' => e = .returned (.bool true) ∧ Below w.heap.size w w' := by
  have C0 := Lib.hid (has_new 0 (by omega) w)
  have C1 := Lib.hid (fun p w1 (h : Has w.heap.size p 0 0 (St.new 0) w1) => by
    have := has_create h (by omega) ⟨#[97]⟩ (by unfold maxLen; decide)
    rw [show (St.new 0).create (⟨#[97]⟩ : ByteArray).data.toList = (A1, 0) from a1] at this
    exact this)
  have C2 := Lib.hid (fun p w1 (h : Has w.heap.size p 2 0 A1 w1) => by
    have := has_syncDir h (by omega)
    rw [a2] at this
    exact this)
  have C3 := Lib.hid (fun p w1 (h : Has w.heap.size p 3 0 A2 w1) => by
    have := has_append h (by omega) ⟨#[97]⟩ (by unfold maxLen; decide) ⟨#[120, 121, 122]⟩ (by omega) (by decide)
    rw [show A2.append (⟨#[97]⟩ : ByteArray).data.toList (⟨#[120, 121, 122]⟩ : ByteArray).data.toList = (A3, 0) from a3] at this
    exact this)
  have C4 := Lib.hid (fun p w1 (h : Has w.heap.size p 4 3 A3 w1) => by
    have := has_rename h (by omega) ⟨#[97]⟩ (by unfold maxLen; decide) ⟨#[98]⟩ (by unfold maxLen; decide)
    rw [show A3.rename (⟨#[97]⟩ : ByteArray).data.toList (⟨#[98]⟩ : ByteArray).data.toList = (A4, 0) from a4] at this
    exact this)
  have C5 := Lib.hid (fun p w1 (h : Has w.heap.size p 6 3 A4 w1) => by
    have := has_crash1 h (by omega) (by omega) 0 2
    rw [a5] at this
    exact this)
  have C6 := Lib.hid (fun p w1 (h : Has w.heap.size p 6 3 A5 w1) => by
    have := has_restore h
    rw [a6] at this
    exact this)
  have C7 := Lib.hid (fun p w1 (h : Has w.heap.size p 6 3 A6 w1) => by
    have := has_names h (by omega)
    rw [a7] at this
    exact this)
  have C8 := Lib.hid (fun p w1 (h : Has w.heap.size p 6 3 A6 w1) => by
    have := has_read h ⟨#[97]⟩ (by unfold maxLen; decide)
    rw [show A6.read (⟨#[97]⟩ : ByteArray).data.toList = ([120, 121], 0) from a8, show readV ([120, 121], 0) = .tuple #[.string ⟨#[120, 121]⟩, .int .i64 0] from rfl] at this
    exact this)
  have C9 := Lib.hid (fun p w1 (h : Has w.heap.size p 6 3 A6 w1) => has_steps h)
  go_enter Tryz.func5, Tryz.ntmps5
  go_wp2_with (first | (go_at_call 6; refine C0.out.mono ?_; rintro e w1 ⟨p, rfl, h1, b1⟩) | (go_at_call 9; refine (C1.out _ _ h1).mono ?_; rintro e w2 ⟨rfl, h2, b2⟩) | (go_at_call 21; refine (C2.out _ _ h2).mono ?_; rintro e w3 ⟨rfl, h3, b3⟩) | (go_at_call 10; refine (C3.out _ _ h3).mono ?_; rintro e w4 ⟨rfl, h4, b4⟩) | (go_at_call 22; refine (C4.out _ _ h4).mono ?_; rintro e w5 ⟨rfl, h5, b5⟩) | (go_at_call 12; refine (C5.out _ _ h5).mono ?_; rintro e w6 ⟨rfl, h6, b6⟩) | (go_at_call 23; refine (C6.out _ _ h6).mono ?_; rintro e w7 ⟨rfl, h7, b7⟩) | (go_at_call 15; refine (C7.out _ _ h7).mono ?_; rintro e w8 ⟨v8, rfl, hr8, h8, b8⟩; obtain ⟨g8, o8, c8, rfl, q8⟩ := row_one hr8) | (go_at_call 16; refine (C8.out _ _ h8).mono ?_; rintro e w9 ⟨rfl, rfl⟩) | (go_at_call 24; refine (C9.out _ _ h8).mono ?_; rintro e w9 ⟨rfl, rfl⟩))
  go_ret
  refine ⟨rfl, ?_⟩
  have b07 : Below w.heap.size w w7 := (((((b1.trans b2).trans b3).trans b4).trans b5).trans b6).trans b7
  exact b07.trans (b8.mono h7.size)
end Go.Proofs.YtfndlfnlepndmaaGreat
