/- Two files of zeros, under a room: plain. -/
import Derived.Test.YteejghhcmmocfaaFG
import Derived.Lib.BufferRead
import Derived.Deep.OwnRows
namespace Go.Proofs.Yteejghhcmmocfaa
open Go.RowKit

def zeros (n : Nat) : List UInt8 := List.replicate n 0
theorem zeros_add (a b : Nat) : zeros a ++ zeros b = zeros (a + b) := by simp [zeros]
theorem zeros_len (a : Nat) : (zeros a).length = a := by simp [zeros]
def D2 : Dir := [([97], 0), ([98], 1)]
def R (room x y k : Nat) : St := ⟨true, true, (room : Int), (k : Int) + 2, -1, -1, D2, [], [⟨[], [97], some 0⟩, ⟨[], [98], some 1⟩], [⟨zeros x, 0⟩, ⟨zeros y, 0⟩]⟩
def R1 (room : Nat) : St := ⟨true, true, (room : Int), 1, -1, -1, [([97], 0)], [], [⟨[], [97], some 0⟩], [⟨[], 0⟩]⟩
theorem r1_new (room : Nat) : (St.new (room : Int)).create [97] = (R1 room, 0) := rfl
theorem r2_new (room : Nat) : (R1 room).create [98] = (R room 0 0 0, 0) := rfl
theorem r_used (room x y k : Nat) : used (R room x y k).files (R room x y k).now = x + y := by
  show (zeros x).length + ((zeros y).length + 0) = _
  rw [zeros_len, zeros_len]
  rfl
def nmR (i : Nat) : Nm := if i % 2 = 0 then [97] else [98]
def nxX (i z x : Nat) : Nat := if i % 2 = 0 then x + z else x
def nxY (i z y : Nat) : Nat := if i % 2 = 0 then y else y + z
theorem r_app_ok (room x y k i z : Nat) (h : x + y + z ≤ room) : (R room x y k).append (nmR i) (zeros z) = (R room (nxX i z x) (nxY i z y) (k + 1), 0) := by
  have hu : (R room x y k).begun = R room x y (k + 1) := by
    show (⟨true, true, (room : Int), (k : Int) + 2 + 1, -1, -1, D2, [], [⟨[], [97], some 0⟩, ⟨[], [98], some 1⟩], [⟨zeros x, 0⟩, ⟨zeros y, 0⟩]⟩ : St) = _
    unfold R
    rw [show (k : Int) + 2 + 1 = ((k + 1 : Nat) : Int) + 2 by omega]
  unfold St.append wr
  rw [if_pos (show (R room x y k).on = true from rfl), hu]
  have hn : ¬ (0 < (R room x y (k + 1)).room ∧ (R room x y (k + 1)).room - used (R room x y (k + 1)).files (R room x y (k + 1)).now < (zeros z).length) := by
    rw [r_used, zeros_len]
    show ¬ (0 < (room : Int) ∧ (room : Int) - ((x + y : Nat) : Int) < z)
    omega
  unfold actAppend nmR nxX nxY
  by_cases hi : i % 2 = 0
  · simp only [if_pos hi]
    rw [show dget (R room x y (k + 1)).now [97] = some 0 from rfl]
    simp only [if_neg hn]
    show ((⟨true, true, (room : Int), _, -1, -1, D2, [], _, [⟨zeros x ++ zeros z, 0⟩, ⟨zeros y, 0⟩]⟩ : St), (0 : Int)) = _
    rw [zeros_add]
    rfl
  · simp only [if_neg hi]
    rw [show dget (R room x y (k + 1)).now [98] = some 1 from rfl]
    simp only [if_neg hn]
    show ((⟨true, true, (room : Int), _, -1, -1, D2, [], _, [⟨zeros x, 0⟩, ⟨zeros y ++ zeros z, 0⟩]⟩ : St), (0 : Int)) = _
    rw [zeros_add]
    rfl
theorem r_app_full (room x y k i z : Nat) (h1 : 1 ≤ room) (h : room < x + y + z) : (R room x y k).append (nmR i) (zeros z) = (R room x y (k + 1), 10) := by
  have hu : (R room x y k).begun = R room x y (k + 1) := by
    show (⟨true, true, (room : Int), (k : Int) + 2 + 1, -1, -1, D2, [], [⟨[], [97], some 0⟩, ⟨[], [98], some 1⟩], [⟨zeros x, 0⟩, ⟨zeros y, 0⟩]⟩ : St) = _
    unfold R
    rw [show (k : Int) + 2 + 1 = ((k + 1 : Nat) : Int) + 2 by omega]
  unfold St.append wr
  rw [if_pos (show (R room x y k).on = true from rfl), hu]
  have hn : (0 < (R room x y (k + 1)).room ∧ (R room x y (k + 1)).room - used (R room x y (k + 1)).files (R room x y (k + 1)).now < (zeros z).length) := by
    rw [r_used, zeros_len]
    show (0 < (room : Int) ∧ (room : Int) - ((x + y : Nat) : Int) < z)
    omega
  unfold actAppend nmR
  by_cases hi : i % 2 = 0
  · simp only [if_pos hi]
    rw [show dget (R room x y (k + 1)).now [97] = some 0 from rfl]
    simp only [if_pos hn]
    rfl
  · simp only [if_neg hi]
    rw [show dget (R room x y (k + 1)).now [98] = some 1 from rfl]
    simp only [if_pos hn]
    rfl
def R3 (room x y k : Nat) : St := ⟨true, true, (room : Int), (k : Int) + 2 + 1, -1, -1, [([98], 1)], [], [⟨[], [97], some 0⟩, ⟨[], [98], some 1⟩, ⟨[97], [], none⟩], [⟨zeros x, 0⟩, ⟨zeros y, 0⟩]⟩
theorem r_remove (room x y k : Nat) : (R room x y k).remove [97] = (R3 room x y k, 0) := rfl
theorem r3_used (room x y k : Nat) : used (R3 room x y k).files (R3 room x y k).now = y := by
  show (zeros y).length + 0 = _
  rw [zeros_len]
  rfl
theorem r_read (room x y k : Nat) : (R room x y k).read [97] = (zeros x, 0) := rfl
def ZB (z : Nat) : ByteArray := ⟨(zeros z).toArray⟩
theorem ZB_list (z : Nat) : (ZB z).data.toList = zeros z := rfl
theorem ZB_size (z : Nat) : (ZB z).size = z := by
  show (zeros z).toArray.size = z
  simp [zeros]
def nmB (i : Nat) : ByteArray := ⟨(nmR i).toArray⟩
theorem nmB_list (i : Nat) : (nmB i).data.toList = nmR i := rfl
theorem nmB_size (i : Nat) : (nmB i).size = 1 := by
  unfold nmB nmR
  split <;> rfl
/-- string(make([]byte, z)): whatever else was laid meanwhile. -/
theorem conv_zero (z b : Nat) (w : World) (h : ∀ j, j < z → w.cell? ⟨b, j, none⟩ = some (.int .u8 0)) : (convert 52 9 (.slice (some ⟨b, 0, none⟩) z z)).run Try.prog w = .ok (.string (ZB z)) w := by
  have hh := run_convert_bytes_back (P := Try.prog) w 52 9 5 ⟨b, 0, none⟩ z (zeros z) Try.underlying52 Try.underlying5 Try.underlying9 (fun j hj => by
    rw [zeros_len] at hj
    have hv : (((zeros z)[j]'(by rw [zeros_len]; exact hj)).toNat : Int) = 0 := by simp [zeros]
    rw [hv]
    have hadd : (⟨b, 0, none⟩ : Addr).add j = ⟨b, j, none⟩ := by unfold Addr.add; split <;> simp_all
    rw [hadd]
    exact h j hj)
  rw [zeros_len] at hh
  exact hh
theorem info_u8 : (Try.prog.info? 5).map (fun i => (i.zero, i.size, i.bytes)) = some (some (.int .u8 0), 1, 1) := by kernel_rfl
def CZ (z : Nat) : Obj := .cells (madeCells #[.int .u8 0] z) 5
theorem make_zero (z : Nat) (hz : z ≤ 1000) (w : World) : (Instr.makeSlice 52 (.int .i64 (z : Int)) (.int .i64 (z : Int))).run Try.prog w = .ok (.slice (some ⟨w.heap.size, 0, none⟩) z z) (w.alloc (CZ z)) :=
  run_make_row' 52 5 (.int .u8 0) 1 Try.underlying52 info_u8 rfl .i64 .i64 z (by omega) (by omega) w
theorem made_cell (z : Nat) (w : World) (j : Nat) (hj : j < z) : (w.alloc (CZ z)).cell? ⟨w.heap.size, j, none⟩ = some (.int .u8 0) := by
  have := (World.rowIs_made w (.int .u8 0) z 5)
  exact this.cell hj
end Go.Proofs.Yteejghhcmmocfaa
