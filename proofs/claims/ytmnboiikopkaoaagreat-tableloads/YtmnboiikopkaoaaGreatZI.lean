/- The program: ikey.Valid and Compare. -/
import Derived.Test.YtmnboiikopkaoaaGreatBR3
import Derived.Test.YtmnboiikopkaoaaGreatShelf
import Derived.Deep.RegionHeld3
namespace Go.Proofs.YtmnboiikopkaoaaGreat
open Go.RowKit

set_option maxHeartbeats 1000000 in
theorem cmpU_any (x y : Int) (w : World) :
    Calls Tryz.prog 75 #[.int .u64 x, .int .u64 y] w fun e w' => e = .returned (.int .i64 (cmpU x y)) ∧ w = w' := by
  unfold cmpU
  go_enter Tryz.func75, Tryz.ntmps75
  go_wp2
  all_goals (go_ret; refine ⟨?_, rfl⟩; (repeat' split) <;> first | rfl | (exfalso; omega))
set_option maxHeartbeats 1000000 in
theorem or2_any (b cap : Nat) (x y : Int) (w : World) (h0 : w.cell? ⟨b, 0, none⟩ = some (.int .i64 x)) (h1 : w.cell? ⟨b, 1, none⟩ = some (.int .i64 y)) :
    Calls Tryz.prog 73 #[.slice (some ⟨b, 0, none⟩) 2 cap] w fun e w' => e = .returned (.int .i64 (if x = 0 then y else x)) ∧ w = w' := by
  by_cases hx : x = 0
  · subst hx
    by_cases hy : y = 0
    · subst hy
      go_enter Tryz.func73, Tryz.ntmps73
      go_wp2
      refine wp_loop_rounds 3 ?_
      rw [rounds_succ]
      go_wp2
      rw [rounds_succ]
      go_wp2
      rw [rounds_succ]
      go_wp2
      go_ret
      exact ⟨rfl, rfl⟩
    · have hd : (y == 0) = false := by simpa using hy
      go_enter Tryz.func73, Tryz.ntmps73
      go_wp2
      refine wp_loop_rounds 2 ?_
      rw [rounds_succ]
      go_wp2
      rw [rounds_succ]
      go_wp2
      go_ret
      exact ⟨rfl, rfl⟩
  · have hd : (x == 0) = false := by simpa using hx
    rw [if_neg hx]
    go_enter Tryz.func73, Tryz.ntmps73
    go_wp2
    refine wp_loop_rounds 1 ?_
    rw [rounds_succ]
    go_wp2
    go_ret
    exact ⟨rfl, rfl⟩
set_option maxHeartbeats 2000000 in
set_option maxRecDepth 100000 in
theorem valid_any (k : ByteArray) (s n : Int) (v : ByteArray) (w : World) (hk : k.size ≤ maxLen) (hv : v.size ≤ maxLen) :
    Calls Tryz.prog 110 #[ev k s n v] w fun e w' => e = .returned (.bool (validB k n v)) ∧ Below w.heap.size w w' := by
  have h1 : k.size ≤ 9223372036854775807 := by unfold maxLen at hk; omega
  have h2 : v.size ≤ 9223372036854775807 := by unfold maxLen at hv; omega
  have hB : Below w.heap.size w (w.alloc (.cells #[.string k, .int .u64 s, .int .i64 n, .string v] 48)) := (Below.refl _ _).alloc (Nat.le_refl _) _
  unfold ev validB
  by_cases c1 : 300 < k.size
  · have d1 : decide (300 < (k.size : Int)) = true := by simp; omega
    go_enter Tryz.func110, Tryz.ntmps110
    go_wp2
    go_ret
    exact ⟨by rw [decide_eq_false (by omega)]; rfl, hB⟩
  have d1 : decide (300 < (k.size : Int)) = false := by simp; omega
  by_cases c2 : 60000 < v.size
  · have d2 : decide (60000 < (v.size : Int)) = true := by simp; omega
    go_enter Tryz.func110, Tryz.ntmps110
    go_wp2
    go_ret
    exact ⟨by rw [decide_eq_true (by omega), decide_eq_false (by omega)]; rfl, hB⟩
  have d2 : decide (60000 < (v.size : Int)) = false := by simp; omega
  rw [decide_eq_true (show k.size ≤ 300 by omega), decide_eq_true (show v.size ≤ 60000 by omega)]
  cases e1 : (n == 1) with
  | true =>
    go_enter Tryz.func110, Tryz.ntmps110
    go_wp2
    go_ret
    exact ⟨rfl, hB⟩
  | false =>
    cases e2 : (n == 2) with
    | false =>
      go_enter Tryz.func110, Tryz.ntmps110
      go_wp2
      go_ret
      exact ⟨rfl, hB⟩
    | true =>
      cases e3 : v.toList.isEmpty with
      | true =>
        go_enter Tryz.func110, Tryz.ntmps110
        go_wp2
        go_ret
        exact ⟨rfl, hB⟩
      | false =>
        go_enter Tryz.func110, Tryz.ntmps110
        go_wp2
        go_ret
        exact ⟨rfl, hB⟩
set_option maxHeartbeats 4000000 in
set_option maxRecDepth 100000 in
theorem compare_any (k1 : ByteArray) (s1 n1 : Int) (v1 k2 : ByteArray) (s2 n2 : Int) (v2 : ByteArray) (w : World) :
    Calls Tryz.prog 40 #[ev k1 s1 n1 v1, ev k2 s2 n2 v2] w fun e w' => e = .returned (.int .i64 (cmpE k1 s1 k2 s2)) ∧ Below w.heap.size w w' := by
  unfold ev cmpE
  have C1 := Lib.hid (fun w => Tryz.strings_Compare k1 k2 w)
  have C2 := Lib.hid (fun w => cmpU_any s2 s1 w)
  generalize Lib.compareBytes k1.data.toList k2.data.toList = X at *
  generalize cmpU s2 s1 = Y at *
  have C3 := Lib.hid (fun (w1 : World) => or2_any w1.heap.size 2 X Y (w1.alloc (.cells #[.int .i64 X, .int .i64 Y] 3)).drew (nce rfl rfl) (nce rfl rfl))
  generalize (if X = 0 then Y else X) = Z at *
  go_enter Tryz.func40, Tryz.ntmps40
  go_wp2
  obtain ⟨W, hW⟩ : ∃ W, ((w.alloc (.cells #[.string k1, .int .u64 s1, .int .i64 n1, .string v1] 48)).alloc (.cells #[.string k2, .int .u64 s2, .int .i64 n2, .string v2] 48)) = W := ⟨_, rfl⟩
  have hB : Below w.heap.size w W := by rw [← hW]; exact ((Below.refl _ _).alloc (Nat.le_refl _) _).alloc (by simp) _
  have hz : w.heap.size + 2 = W.heap.size := by rw [← hW]; simp
  have c0 : W.cell? ⟨w.heap.size, 0, none⟩ = some (.string k1) := by rw [← hW]; exact oce (by simp) (nce rfl rfl)
  have c1 : W.cell? ⟨w.heap.size, 1, none⟩ = some (.int .u64 s1) := by rw [← hW]; exact oce (by simp) (nce rfl rfl)
  have c2 : W.cell? ⟨w.heap.size + 1, 0, none⟩ = some (.string k2) := by rw [← hW]; exact nce (by simp) rfl
  have c3 : W.cell? ⟨w.heap.size + 1, 1, none⟩ = some (.int .u64 s2) := by rw [← hW]; exact nce (by simp) rfl
  rw [hW]
  clear hW
  have hl1 : w.heap.size < W.heap.size := by omega
  have hl2 : w.heap.size + 1 < W.heap.size := by omega
  go_region_held3 (fun w' => w'.cell? ⟨w.heap.size, 0, none⟩ = some (.string k1) ∧ w'.cell? ⟨w.heap.size, 1, none⟩ = some (.int .u64 s1) ∧ w'.cell? ⟨w.heap.size + 1, 0, none⟩ = some (.string k2) ∧ w'.cell? ⟨w.heap.size + 1, 1, none⟩ = some (.int .u64 s2)) (first | go_keep | exact ⟨oce hl1 c0, oce hl1 c1, oce hl2 c2, oce hl2 c3⟩) (first | (go_at_call 74; refine (C1.out _).mono ?_; rintro e w1 ⟨rfl, rfl⟩) | (go_at_call 75; refine (C2.out _).mono ?_; rintro e w1 ⟨rfl, rfl⟩) | (go_at_call 73; refine (C3.out _).mono ?_; rintro e w1 ⟨rfl, rfl⟩) | fail)
  all_goals go_wp2
  all_goals go_ret
  all_goals exact ⟨rfl, (hB.alloc hB.size _).drew⟩
end Go.Proofs.YtmnboiikopkaoaaGreat
