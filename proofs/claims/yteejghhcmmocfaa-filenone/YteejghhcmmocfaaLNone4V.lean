/- FileNone at texts that are short. -/
import Derived.Test.YteejghhcmmocfaaLNone4U
namespace Go.Proofs.Yteejghhcmmocfaa
open Go.RowKit

set_option maxHeartbeats 8000000 in
set_option maxRecDepth 100000 in
theorem none_hard (a b : ByteArray) (w : World) (h : a.size + b.size ≤ 3000) :
    Calls Try.prog 4 #[.string a, .string b] w fun e w' => e = .returned (.bool true) ∧ Below w.heap.size w w' := by
  have hd1 : decide (3000 < (a.size : Int) + (b.size : Int)) = false := by simp; omega
  have hd2 : decide (3000 < (a.size : Int)) = false := by simp; omega
  have hd3 : decide (3000 < (b.size : Int)) = false := by simp; omega
  have hz0 : Zero w.heap.size (w.alloc (.cells zeroCells 33)) := heap_alloc_new w _
  have HZ0 := Lib.hid hz0
  have hbz : Below w.heap.size w (w.alloc (.cells zeroCells 33)) := (Below.refl _ _).alloc (Nat.le_refl _) _
  have HBz := Lib.hid hbz
  clear hz0 hbz
  unfold zeroCells at HZ0 HBz
  go_enter Try.func4, Try.ntmps4
  go_wp2_with (first
    | (go_at_call 12; first | ((with_reducible refine (zero_restore HZ0.out).mono ?_); rintro e w1 ⟨rfl, z1, t1⟩; have z2 := Zero.below z1 ((Below.refl _ _).alloc (Nat.le_refl _) (.cells #[Value.int .i64 2] 3))) | ((with_reducible refine (restore_nil _).mono ?_); rintro e w9 ⟨rfl, rfl⟩))
    | (go_at_call 13; first | ((with_reducible refine (read_nil' _ _).mono ?_); rintro e w9 ⟨rfl, rfl⟩) | ((with_reducible refine (zero_read z1 _).mono ?_); rintro e w9 ⟨rfl, rfl⟩))
    | (go_at_call 14; (with_reducible refine (crash_nil _ _ _).mono ?_); rintro e w9 ⟨rfl, rfl⟩)
    | (go_at_call 15; (with_reducible refine (fuse_nil _ _).mono ?_); rintro e w9 ⟨rfl, rfl⟩)
    | (go_at_call 16; (with_reducible refine (bad_nil _ _).mono ?_); rintro e w9 ⟨rfl, rfl⟩)
    | (go_at_call 11; refine (alive4_any _).mono ?_; rintro e w3 ⟨rfl, b3⟩; have z3 := Zero.below z2 b3)
    | (go_at_call 17; first | ((with_reducible refine (create_nil _ _).mono ?_); rintro e w4 ⟨rfl, b4⟩; have z4 := Zero.below z3 b4) | ((with_reducible refine (zero_create z4 _).mono ?_); rintro e w5 ⟨rfl, z5, b5⟩))
    | (go_at_call 18; refine (append_nil _ _ _).mono ?_; rintro e w6 ⟨rfl, b6⟩; have z6 := Zero.below z5 b6)
    | (go_at_call 19; refine (sync_nil' _ _).mono ?_; rintro e w7 ⟨rfl, b7⟩; have z7 := Zero.below z6 b7)
    | (go_at_call 20; refine (syncDir_nil _).mono ?_; rintro e w8 ⟨rfl, b8⟩; have z8 := Zero.below z7 b8)
    | (go_at_call 21; refine (rename_nil _ _ _).mono ?_; rintro e w10 ⟨rfl, b10⟩; have z10 := Zero.below z8 b10)
    | (go_at_call 22; refine (remove_nil _ _).mono ?_; rintro e w11 ⟨rfl, b11⟩; have z11 := Zero.below z10 b11)
    | (go_at_call 23; first | ((with_reducible refine (namesS_nil _).mono ?_); rintro e w9 ⟨rfl, rfl⟩) | ((with_reducible refine (zero_names z11).mono ?_); rintro e w9 ⟨rfl, rfl⟩))
    | (go_at_call 24; first | ((with_reducible refine (used_nil _).mono ?_); rintro e w9 ⟨rfl, rfl⟩) | ((with_reducible refine (zero_used z11).mono ?_); rintro e w12 ⟨rfl, b12⟩; have z12 := Zero.below z11 b12))
    | (go_at_call 25; (with_reducible refine (steps_nil _).mono ?_); rintro e w9 ⟨rfl, rfl⟩)
    | (go_at_call 26; first | ((with_reducible refine (on_nil _).mono ?_); rintro e w9 ⟨rfl, rfl⟩) | ((with_reducible refine (zero_on z12).mono ?_); rintro e w9 ⟨rfl, rfl⟩))
    | (go_at_call 27; (with_reducible refine (twin_nil _).mono ?_); rintro e w9 ⟨rfl, rfl⟩))
  go_ret
  refine ⟨rfl, ?_⟩
  have k1 : Below w.heap.size w w1 := HBz.out.trans (t1.below (by simp) (by simp))
  have s1 := k1.size
  have k2 : Below w.heap.size w w3 := (k1.alloc s1 _).trans (b3.mono (by simp; omega))
  have k4 := k2.trans (b4.mono k2.size)
  have k5 := k4.trans (b5.mono k4.size)
  have k6 := k5.trans (b6.mono k5.size)
  have k7 := k6.trans (b7.mono k6.size)
  have k8 := k7.trans (b8.mono k7.size)
  have k10 := k8.trans (b10.mono k8.size)
  have k11 := k10.trans (b11.mono k10.size)
  exact k11.trans (b12.mono k11.size)
end Go.Proofs.Yteejghhcmmocfaa
