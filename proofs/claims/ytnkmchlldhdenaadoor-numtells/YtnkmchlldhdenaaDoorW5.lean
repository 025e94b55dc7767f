/- The first call that every statement of chapter 1 makes (alive) answers true, in every world in which the library's table of powers reads as its text lays it. -/
import Derived.Test.YtnkmchlldhdenaaDoorW4
namespace Go.Proofs.YtnkmchlldhdenaaDoor
open Go.RowKit

theorem fix258 (w : World) : Calls Tryd.prog 11 #[.int .u64 258, .int .i64 2] w fun e w' => e = .returned (.tuple #[.string ⟨#[1, 2]⟩, .int .i64 0]) ∧ Below w.heap.size w w' :=
  fix_ok 258 2 w (by omega) (by omega) (by decide)
theorem unfix258 (w : World) : Calls Tryd.prog 13 #[.string ⟨#[120, 1, 2]⟩, .int .i64 1, .int .i64 2] w fun e w' => e = .returned (.tuple #[.int .u64 258, .int .i64 0]) ∧ w = w' :=
  unfix_ok ⟨#[120, 1, 2]⟩ 1 2 w (by decide) (by omega) (by omega) (by decide)
theorem var300 (b : Nat) (w : World) (h0 : w.cell? ⟨b, 0, none⟩ = some (.int .u64 0)) (h1 : w.cell? ⟨b, 1, none⟩ = some (.int .u64 300)) (hb : b < w.heap.size) :
    Calls Tryd.prog 20 #[.slice (some ⟨b, 0, none⟩) 2 2] w fun e w' => e = .returned (.string ⟨#[0, 172, 2]⟩) ∧ Below w.heap.size w w' := by
  have h := var_any b 0 2 [0, 300] w (by intro z hz; simp at hz; omega) (by simp) (by
    intro i hi
    match i, hi with
    | 0, _ => exact h0
    | 1, _ => exact h1) hb
  have e : vars [0, 300] = [0, 172, 2] := by
    simp [vars, Lib.uvarint_small (x := 0) (by omega), Lib.uvarint_big (x := 300) (by omega), Lib.uvarint_small (x := 2) (by omega)]
  rw [e] at h
  exact h
theorem zigm1 (w : World) : Calls Tryd.prog 23 #[.int .i64 (-1)] w fun e w' => e = .returned (.int .u64 1) ∧ w = w' :=
  zig_any (-1) w (by omega) (by omega)
theorem zag4 (w : World) : Calls Tryd.prog 25 #[.int .u64 4] w fun e w' => e = .returned (.int .i64 2) ∧ w = w' :=
  zag_any 4 w (by omega)
theorem dec300 : decV 0 0 [172, 2] = (300, [], 0) := by decide
theorem itoam7 : Lib.itoa (-7) = [45, 55] := by
  unfold Lib.itoa
  rw [if_pos (by omega), show (-7 : Int).natAbs = 7 from rfl, Lib.decDigits_one (by omega)]
  rfl
theorem digitsm7 (B : Nat) (w : World) (htab : Tab B w) : Calls Tryd.prog 27 #[.int .i64 (-7)] w fun e w' => e = .returned (.string ⟨#[45, 55]⟩) ∧ Below w.heap.size w w' := by
  have h := digits_any (-7) (by omega) (by omega) B w htab
  rw [itoam7] at h
  exact h

set_option maxHeartbeats 2000000 in
set_option maxRecDepth 100000 in
theorem alive_any (B : Nat) (w : World) (hB : B ≤ w.heap.size) (htab : Tab B w) :
    Calls Tryd.prog 10 #[] w fun e w' => e = .returned (.bool true) ∧ Below w.heap.size w w' := by
  have HT := Lib.hid htab
  clear htab
  go_enter Tryd.func10, Tryd.ntmps10
  go_wp2_with fail
  refine (fix258 _).mono ?_
  rintro e w1 ⟨rfl, hb1⟩
  go_wp2_with fail
  refine (unfix258 _).mono ?_
  rintro e w1' ⟨rfl, rfl⟩
  go_wp2_with fail
  refine (newReader_any _ _).mono ?_
  rintro e w2 ⟨rfl, hr2, hb2, -⟩
  go_wp2_with fail
  refine (var300 w2.heap.size _ (by simp) (by simp) (by simp)).mono ?_
  rintro e w3 ⟨rfl, hb3⟩
  have hb23 : Below w2.heap.size w2 w3 := ((Below.refl _ _).alloc (Nat.le_refl _) _).trans (hb3.mono (by simp))
  have hr3 := hr2.below hb23 hr2.lt
  clear hb3 hr2
  go_wp2_with fail
  refine (zigm1 _).mono ?_
  rintro e w3' ⟨rfl, rfl⟩
  go_wp2_with fail
  refine (zag4 _).mono ?_
  rintro e w3' ⟨rfl, rfl⟩
  go_wp2_with fail
  refine (rvar_ok _ _ _ hr3 (by decide) dec300).mono ?_
  rintro e w4 ⟨rfl, hr4, hg4⟩
  go_wp2_with fail
  refine (end_ok _ _ _ hr4 rfl).mono ?_
  rintro e w4' ⟨rfl, rfl⟩
  have hw14 : Below w1.heap.size w1 w4 := (hb2.trans (hb23.mono hb2.size)).trans (below_of_grownBy hg4 (Nat.le_refl _) (Nat.le_trans hb2.size hb23.size))
  have hw4 : Below w.heap.size w w4 := hb1.trans (hw14.mono hb1.size)
  clear hr3 hr4 hg4 hb23 hb2 hw14 hb1
  go_wp2_with fail
  refine (digitsm7 B _ (HT.out.on (hw4.mono hB))).mono ?_
  rintro e w5 ⟨rfl, hb5⟩
  go_wp2
  go_ret
  exact ⟨rfl, hw4.trans (hb5.mono hw4.size)⟩
end Go.Proofs.YtnkmchlldhdenaaDoor
