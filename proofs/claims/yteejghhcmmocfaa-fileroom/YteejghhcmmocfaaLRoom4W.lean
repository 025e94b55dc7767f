/- The walk of FileRoom: bytes have just so much room; what is removed gives its room back. -/
import Derived.Test.YteejghhcmmocfaaTR
import Derived.Test.YteejghhcmmocfaaTI
import Derived.Deep.RegionHeld3
namespace Go.Proofs.Yteejghhcmmocfaa
open Go.RowKit

theorem bits_par : ∀ i : Fin 41, bits BinOp.and IntKind.i64 ((i.val : Nat) : Int) 1 = ((i.val % 2 : Nat) : Int) := by decide
theorem bits_pari (i : Nat) (h : i ≤ 40) : bits BinOp.and IntKind.i64 (i : Int) 1 = ((i % 2 : Nat) : Int) := bits_par ⟨i, by omega⟩
def STR : Obj := .cells #[.string ⟨#[97]⟩, .string ⟨#[98]⟩] 9
/-- What one Append does. -/
theorem r_app (room x y i z : Nat) (h1 : 1 ≤ room) : ∃ (err : Int) (x' y' : Nat), (R room x y i).append (nmR i) (zeros z) = (R room x' y' (i + 1), err) ∧ ((x + y + z ≤ room ∧ err = 0 ∧ x' + y' = x + y + z) ∨ (room < x + y + z ∧ err = 10 ∧ x' + y' = x + y)) := by
  by_cases h : x + y + z ≤ room
  · refine ⟨0, nxX i z x, nxY i z y, r_app_ok room x y i i z h, .inl ⟨h, rfl, ?_⟩⟩
    unfold nxX nxY
    split <;> omega
  · exact ⟨10, x, y, r_app_full room x y i i z h1 (by omega), .inr ⟨by omega, rfl, rfl⟩⟩
set_option maxHeartbeats 8000000 in
set_option maxRecDepth 100000 in
theorem room_hard (room : Nat) (a : Option Addr) (len cap : Nat) (zs : List Int) (w : World) (h1 : 1 ≤ room) (h2 : room ≤ 2000) (hl : len ≤ 40) (his : IsIs w a len zs) :
    Calls Try.prog 7 #[.int .i64 (room : Int), .slice a len cap] w fun e w' => e = .returned (.bool true) ∧ Below w.heap.size w w' := by
  have C0 := Lib.hid (has_new (room : Int) (by omega) w)
  have C1 := Lib.hid (fun p w1 (h : Has w.heap.size p 0 0 (St.new (room : Int)) w1) => by
    have := has_create h (by omega) ⟨#[97]⟩ (by unfold maxLen; decide)
    rw [show (St.new (room : Int)).create (⟨#[97]⟩ : ByteArray).data.toList = (R1 room, 0) from r1_new room] at this
    exact this)
  have C2 := Lib.hid (fun p w1 (h : Has w.heap.size p 2 0 (R1 room) w1) => by
    have := has_create h (by omega) ⟨#[98]⟩ (by unfold maxLen; decide)
    rw [show (R1 room).create (⟨#[98]⟩ : ByteArray).data.toList = (R room 0 0 0, 0) from r2_new room] at this
    exact this)
  have e1 : decide ((room : Int) < 1) = false := by simp; omega
  have e2 : decide (2000 < (room : Int)) = false := by simp; omega
  have e3 : decide (40 < (len : Int)) = false := by simp; omega
  have HI := Lib.hid his
  obtain ⟨-, hzl, -, -⟩ := his
  go_enter Try.func7, Try.ntmps7
  go_wp2_with (first | (go_at_call 28; refine C0.out.mono ?_; rintro e W0 ⟨p, rfl, h0, b0⟩) | (go_at_call 17; refine (C1.out _ _ h0).mono ?_; rintro e W1 ⟨rfl, g1, b1⟩) | (go_at_call 17; refine (C2.out _ _ g1).mono ?_; rintro e W2 ⟨rfl, g2, b2⟩))
  go_loopw [6, 7, 8] (fun uv iv _ wr => ∃ i x y u : Nat, i ≤ len ∧ uv = .int .i64 (u : Int) ∧ iv = .int .i64 (i : Int) ∧ x + y = u ∧ u ≤ room ∧ Has w.heap.size p (4 + i) (i * 1000) (R room x y i) wr ∧ Below w.heap.size w wr) (fun _ iv _ _ => len - (intOf iv).toNat)
  case atStart => exact ⟨0, 0, 0, 0, Nat.zero_le _, rfl, rfl, rfl, Nat.zero_le _, g2, (b0.trans b1).trans b2⟩
  case round =>
    obtain ⟨i, x, y, u, hi, rfl, rfl, hxy, hur, hh, hbl⟩ := hrel
    by_cases hlt : i < len
    · obtain ⟨v, hv, b, off, rfl, hcw⟩ : ∃ v : Int, fitsI v ∧ ∃ b off, a = some ⟨b, off, none⟩ ∧ w.cell? ⟨b, off + i, none⟩ = some (.int .i64 v) := by
        obtain ⟨-, hzl, hz1, hz2⟩ := HI.out
        rcases hz2 with h0 | ⟨b, off, e, hc⟩
        · rw [h0] at hzl; simp at hzl; omega
        · exact ⟨zs[i]'(by omega), hz1 _ (List.getElem_mem _), b, off, e, hc i (by omega)⟩
      have hbw := World.block_lt_of_cell? w _ hcw
      have HQ := Lib.hid (fun W (hW : Below w.heap.size w W) => ((hW.cell (p := ⟨b, off + i, none⟩) hbw).trans hcw : W.cell? ⟨b, off + i, none⟩ = some (.int .i64 v)))
      clear hcw
      have q := HQ.out wr hbl
      have hil : (i : Int) < (len : Int) := by omega
      by_cases hv0 : v < 0
      · have d0 : decide (v < 0) = true := decide_eq_true hv0
        go_wp2_with (go_at_call 11; refine (alive4_any _).mono ?_; rintro e WA ⟨rfl, bA⟩)
        go_ret
        exact ⟨rfl, hbl.trans (bA.mono hbl.size)⟩
      have d0 : decide (v < 0) = false := decide_eq_false hv0
      by_cases hv1 : 1000 < v
      · have d1 : decide (1000 < v) = true := decide_eq_true hv1
        go_wp2_with (go_at_call 11; refine (alive4_any _).mono ?_; rintro e WA ⟨rfl, bA⟩)
        go_ret
        exact ⟨rfl, hbl.trans (bA.mono hbl.size)⟩
      have d1 : decide (1000 < v) = false := decide_eq_false hv1
      obtain ⟨z, rfl⟩ : ∃ z : Nat, v = (z : Int) := ⟨v.toNat, by omega⟩
      have hz : z ≤ 1000 := by omega
      obtain ⟨err, x', y', happ, hcase⟩ := r_app room x y i z h1
      have HC := Lib.hid (fun W (h : Has w.heap.size p (4 + i) (i * 1000) (R room x y i) W) => by
        have := has_append h (by omega) (nmB i) (by rw [nmB_size]; unfold maxLen; omega) (ZB z) (by omega) (by rw [ZB_size]; omega)
        rw [nmB_list, ZB_list, happ, ZB_size] at this
        exact this)
      clear happ
      have hbp := bits_pari i (by omega)
      have hB := hbl.size
      have hS := hh.size
      have hsz : (wr.alloc (.cells #[.string ⟨#[97]⟩, .string ⟨#[98]⟩] 9)).drew.heap.size = wr.heap.size + 1 := by simp
      have m1 : (Instr.makeSlice 52 (.int .i64 (z : Int)) (.int .i64 (z : Int))).run Try.prog wr.drew = .ok (.slice (some ⟨wr.heap.size, 0, none⟩) z z) (wr.alloc (CZ z)).drew := make_zero z hz wr.drew
      have m2 : (Instr.makeSlice 52 (.int .i64 (z : Int)) (.int .i64 (z : Int))).run Try.prog (wr.alloc (.cells #[.string ⟨#[97]⟩, .string ⟨#[98]⟩] 9)).drew = .ok (.slice (some ⟨wr.heap.size + 1, 0, none⟩) z z) ((wr.alloc (.cells #[.string ⟨#[97]⟩, .string ⟨#[98]⟩] 9)).alloc (CZ z)).drew := by
        have := make_zero z hz (wr.alloc (.cells #[.string ⟨#[97]⟩, .string ⟨#[98]⟩] 9)).drew
        rw [hsz] at this
        exact this
      have k1 : (convert 52 9 (.slice (some ⟨wr.heap.size, 0, none⟩) z z)).run Try.prog (wr.alloc (CZ z)).drew = .ok (.string (ZB z)) (wr.alloc (CZ z)).drew := conv_zero z _ _ (fun j hj => made_cell z wr.drew j hj)
      have k2 : (convert 52 9 (.slice (some ⟨wr.heap.size, 0, none⟩) z z)).run Try.prog ((wr.alloc (CZ z)).alloc (.cells #[.string ⟨#[97]⟩, .string ⟨#[98]⟩] 9)).drew = .ok (.string (ZB z)) ((wr.alloc (CZ z)).alloc (.cells #[.string ⟨#[97]⟩, .string ⟨#[98]⟩] 9)).drew := conv_zero z _ _ (fun j hj => ocell (W := (wr.alloc (CZ z)).drew) (by simp) (made_cell z wr.drew j hj))
      have k3 : (convert 52 9 (.slice (some ⟨wr.heap.size + 1, 0, none⟩) z z)).run Try.prog ((wr.alloc (.cells #[.string ⟨#[97]⟩, .string ⟨#[98]⟩] 9)).alloc (CZ z)).drew = .ok (.string (ZB z)) ((wr.alloc (.cells #[.string ⟨#[97]⟩, .string ⟨#[98]⟩] 9)).alloc (CZ z)).drew := conv_zero z _ _ (fun j hj => by
        have := made_cell z (wr.alloc (.cells #[.string ⟨#[97]⟩, .string ⟨#[98]⟩] 9)).drew j hj
        rw [hsz] at this
        exact this)
      clear hsz
      generalize CZ z = CC at m1 m2 k1 k2 k3
      generalize ZB z = ZZ at k1 k2 k3 HC
      have hbr : b < wr.heap.size := Nat.lt_of_lt_of_le hbw hB
      have qa : ∀ ob, (wr.alloc ob).cell? ⟨b, off + i, none⟩ = some (.int .i64 (z : Int)) := fun _ => ocell hbr q
      have HN := Lib.hid (fun W (hb : Below wr.heap.size wr W) => HC.out W (hh.below hb))
      have HX := Lib.hid hcase
      clear hcase
      have HW := Lib.hid (fun o1 o2 => ((((Below.refl wr.heap.size wr).alloc (Nat.le_refl _) o1).alloc (by simp) o2).drew : Below wr.heap.size wr ((wr.alloc o1).alloc o2).drew))
      go_upto_region 12 with fail
      go_cut [8] from 37 to 99 (fun ev wx => ev = .int .i64 err ∧ Has w.heap.size p (4 + i + 1) (i * 1000 + z) (R room x' y' (i + 1)) wx ∧ Below w.heap.size w wx)
      case first =>
        rcases Nat.mod_two_eq_zero_or_one i with hpar | hpar
        · have hnm : nmB i = ⟨#[97]⟩ := by unfold nmB nmR; rw [if_pos hpar]
          rw [hnm] at HN
          rw [hpar] at hbp
          have s1 : ∀ ob, ((wr.alloc (.cells #[.string ⟨#[97]⟩, .string ⟨#[98]⟩] 9)).alloc ob).cell? ⟨wr.heap.size, 0, none⟩ = some (.string ⟨#[97]⟩) := fun ob => ocell (by simp) (ncell rfl rfl)
          have s2 : ∀ ob, ((wr.alloc ob).alloc (.cells #[.string ⟨#[97]⟩, .string ⟨#[98]⟩] 9)).cell? ⟨wr.heap.size + 1, 0, none⟩ = some (.string ⟨#[97]⟩) := fun ob => ncell (by simp) rfl
          go_region_with (go_at_call 18; refine (HN.out _ (HW.out _ _)).mono ?_; rintro e W3 ⟨rfl, h3, b3⟩)
          all_goals (go_wp2_with fail; go_meet; exact ⟨rfl, h3, hbl.trans (((HW.out _ _).mono hB).trans b3)⟩)
        · have hnm : nmB i = ⟨#[98]⟩ := by unfold nmB nmR; rw [if_neg (by omega)]
          rw [hnm] at HN
          rw [hpar] at hbp
          have s1 : ∀ ob, ((wr.alloc (.cells #[.string ⟨#[97]⟩, .string ⟨#[98]⟩] 9)).alloc ob).cell? ⟨wr.heap.size, 1, none⟩ = some (.string ⟨#[98]⟩) := fun ob => ocell (by simp) (ncell rfl rfl)
          have s2 : ∀ ob, ((wr.alloc ob).alloc (.cells #[.string ⟨#[97]⟩, .string ⟨#[98]⟩] 9)).cell? ⟨wr.heap.size + 1, 1, none⟩ = some (.string ⟨#[98]⟩) := fun ob => ncell (by simp) rfl
          go_region_with (go_at_call 18; refine (HN.out _ (HW.out _ _)).mono ?_; rintro e W3 ⟨rfl, h3, b3⟩)
          all_goals (go_wp2_with fail; go_meet; exact ⟨rfl, h3, hbl.trans (((HW.out _ _).mono hB).trans b3)⟩)
      case rest =>
        obtain ⟨rfl, h3, b3⟩ := hcut
        have q3 := HQ.out _ b3
        have CU := Lib.hid (has_used h3 (by omega) (by omega))
        rw [r_used] at CU
        have HM := Lib.hid (show i * 1000 + z ≤ (i + 1) * 1000 by omega)
        have HS := Lib.hid h3.size
        clear hbp qa m1 m2 k1 k2 k3 HN HW HC q
        rcases HX.out with ⟨hle, rfl, hu'⟩ | ⟨hgt, rfl, hu'⟩
        · rw [show ((x' + y' : Nat) : Int) = (u : Int) + (z : Int) by omega] at CU
          have d3 : decide ((u : Int) + (z : Int) ≤ (room : Int)) = true := by simp; omega
          have HU := Lib.hid hu'
          clear hu'
          go_wp2_with (go_at_call 24; refine CU.out.mono ?_; rintro e W4 ⟨rfl, h4, b4⟩)
          go_roundw
          case rel => exact ⟨i + 1, x', y', u + z, by omega, by go_num, by go_num, by have := HU.out; omega, by omega, h4.up (by omega) HM.out, b3.trans (b4.mono HS.out)⟩
          case measure => simp [intOf]; omega
        · rw [show ((x' + y' : Nat) : Int) = (u : Int) by omega] at CU
          have d3 : decide ((u : Int) + (z : Int) ≤ (room : Int)) = false := by simp; omega
          have HU := Lib.hid hu'
          clear hu'
          go_wp2_with (go_at_call 24; refine CU.out.mono ?_; rintro e W4 ⟨rfl, h4, b4⟩)
          go_roundw
          case rel => exact ⟨i + 1, x', y', u, by omega, by go_num, by go_num, by have := HU.out; omega, by omega, h4.up (by omega) HM.out, b3.trans (b4.mono HS.out)⟩
          case measure => simp [intOf]; omega
    · obtain rfl : i = len := by omega
      obtain ⟨ZX, hZX⟩ : ∃ Z : ByteArray, Z = ZB x := ⟨_, rfl⟩
      have hzs : ZX.size = x := by rw [hZX, ZB_size]
      have hq : ((y : Int) == (u : Int) - (x : Int)) = true := by rw [beq_iff_eq]; omega
      have C5 := Lib.hid (has_read hh ⟨#[97]⟩ (by unfold maxLen; decide))
      rw [show (R room x y i).read (⟨#[97]⟩ : ByteArray).data.toList = ((ZB x).data.toList, 0) from r_read room x y i, ← hZX, show readV (ZX.data.toList, 0) = .tuple #[.string ZX, .int .i64 0] by rcases ZX with ⟨_⟩; rfl] at C5
      have C6 := Lib.hid (fun W (h : Has w.heap.size p (4 + i) (i * 1000) (R room x y i) W) => by
        have := has_remove h (by omega) ⟨#[97]⟩ (by unfold maxLen; decide)
        rw [show (R room x y i).remove (⟨#[97]⟩ : ByteArray).data.toList = (R3 room x y i, 0) from r_remove room x y i] at this
        exact this)
      have C7 := Lib.hid (fun W (h : Has w.heap.size p (4 + i + 2) (i * 1000) (R3 room x y i) W) => by
        have := has_used h (by omega) (by omega)
        rw [r3_used] at this
        exact this)
      have hzu : ZX.size ≤ u := by omega
      clear hZX
      go_wp2_with (first | (go_at_call 13; refine C5.out.mono ?_; rintro e W5 ⟨rfl, rfl⟩) | (go_at_call 11; refine (alive4_any _).mono ?_; rintro e WA ⟨rfl, bA⟩) | (go_at_call 22; refine (C6.out _ (hh.below bA)).mono ?_; rintro e W6 ⟨rfl, h6, b6⟩) | (go_at_call 24; refine (C7.out _ h6).mono ?_; rintro e W7 ⟨rfl, h7, b7⟩))
      go_ret
      refine ⟨rfl, ?_⟩
      have j1 := (hbl.trans (bA.mono hbl.size)).trans b6
      exact j1.trans (b7.mono j1.size)
set_option maxHeartbeats 2000000 in
theorem fileRoom_walk (room : Int) (_ : -9223372036854775808 ≤ room) (_ : room ≤ 9223372036854775807) (a : Option Addr) (len cap : Nat) (zs : List Int) (w : World) (his : IsIs w a len zs) :
    Calls Try.prog 7 #[.int .i64 room, .slice a len cap] w fun e w' => e = .returned (.bool true) ∧ Below w.heap.size w w' := by
  have hlm : len ≤ 9223372036854775807 := by have := his.1; unfold maxLen at this; omega
  by_cases c0 : room < 1
  · have q0 : decide (room < 1) = true := decide_eq_true c0
    go_enter Try.func7, Try.ntmps7
    go_wp2_with (go_at_call 11; refine (alive4_any _).mono ?_; rintro e w1 ⟨rfl, hb1⟩)
    go_ret
    exact ⟨rfl, hb1⟩
  have q0 : decide (room < 1) = false := decide_eq_false c0
  by_cases c1 : 2000 < room
  · have q1 : decide (2000 < room) = true := decide_eq_true c1
    go_enter Try.func7, Try.ntmps7
    go_wp2_with (go_at_call 11; refine (alive4_any _).mono ?_; rintro e w1 ⟨rfl, hb1⟩)
    go_ret
    exact ⟨rfl, hb1⟩
  have q1 : decide (2000 < room) = false := decide_eq_false c1
  by_cases c2 : 40 < len
  · have q2 : decide (40 < (len : Int)) = true := by simp; omega
    go_enter Try.func7, Try.ntmps7
    go_wp2_with (go_at_call 11; refine (alive4_any _).mono ?_; rintro e w1 ⟨rfl, hb1⟩)
    go_ret
    exact ⟨rfl, hb1⟩
  obtain ⟨r, rfl⟩ : ∃ r : Nat, room = (r : Int) := ⟨room.toNat, by omega⟩
  exact room_hard r a len cap zs w (by omega) (by omega) (by omega) his
end Go.Proofs.Yteejghhcmmocfaa
