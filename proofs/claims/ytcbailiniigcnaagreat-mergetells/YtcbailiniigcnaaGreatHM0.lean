/- The program's ikey.Compare and Fresh, cmp's Compare and Or. -/
import Derived.Test.YtcbailiniigcnaaGreatP14H
import Derived.Test.YtcbailiniigcnaaGreatShelf
import Derived.Deep.RegionHeld3
import Derived.Carry
import Derived.BigQuiet
namespace Go.Proofs.YtcbailiniigcnaaGreat
open Go.RowKit Go.Shelf

set_option maxHeartbeats 1000000 in
theorem cmpU_any (x y : Int) (w : World) :
    Calls Tryz.prog 147 #[.int .u64 x, .int .u64 y] w fun e w' => e = .returned (.int .i64 (cmpU x y)) ∧ w = w' := by
  unfold cmpU
  go_enter Tryz.func147, Tryz.ntmps147
  go_wp2
  all_goals (go_ret; refine ⟨?_, rfl⟩; (repeat' split) <;> first | rfl | (exfalso; omega))
set_option maxHeartbeats 1000000 in
theorem or2_any (b cap : Nat) (x y : Int) (w : World) (h0 : w.cell? ⟨b, 0, none⟩ = some (.int .i64 x)) (h1 : w.cell? ⟨b, 1, none⟩ = some (.int .i64 y)) :
    Calls Tryz.prog 143 #[.slice (some ⟨b, 0, none⟩) 2 cap] w fun e w' => e = .returned (.int .i64 (if x = 0 then y else x)) ∧ w = w' := by
  by_cases hx : x = 0
  · subst hx
    by_cases hy : y = 0
    · subst hy
      go_enter Tryz.func143, Tryz.ntmps143
      go_wp2
      refine wp_loop_rounds 3 ?_
      rw [rounds_succ]
      go_wp2
      rw [rounds_succ]
      go_wp2
      rw [rounds_succ]
      go_wp2
      go_ret
      exact ⟨rfl, rfl⟩
    · have hd : (y == 0) = false := by simpa using hy
      go_enter Tryz.func143, Tryz.ntmps143
      go_wp2
      refine wp_loop_rounds 2 ?_
      rw [rounds_succ]
      go_wp2
      rw [rounds_succ]
      go_wp2
      go_ret
      exact ⟨rfl, rfl⟩
  · have hd : (x == 0) = false := by simpa using hx
    rw [if_neg hx]
    go_enter Tryz.func143, Tryz.ntmps143
    go_wp2
    refine wp_loop_rounds 1 ?_
    rw [rounds_succ]
    go_wp2
    go_ret
    exact ⟨rfl, rfl⟩
set_option maxHeartbeats 4000000 in
set_option maxRecDepth 100000 in
theorem compare_any (k1 : ByteArray) (s1 n1 : Int) (v1 k2 : ByteArray) (s2 n2 : Int) (v2 : ByteArray) (w : World) :
    Calls Tryz.prog 144 #[ev k1 s1 n1 v1, ev k2 s2 n2 v2] w fun e w' => e = .returned (.int .i64 (cmpE k1 s1 k2 s2)) ∧ Below w.heap.size w w' := by
  unfold ev cmpE
  have C1 := Lib.hid (fun w => Tryz.strings_Compare k1 k2 w)
  have C2 := Lib.hid (fun w => cmpU_any s2 s1 w)
  generalize Lib.compareBytes k1.data.toList k2.data.toList = X at *
  generalize cmpU s2 s1 = Y at *
  have C3 := Lib.hid (fun (w1 : World) => or2_any w1.heap.size 2 X Y (w1.alloc (.cells #[.int .i64 X, .int .i64 Y] 3)).drew (nce rfl rfl) (nce rfl rfl))
  generalize (if X = 0 then Y else X) = Z at *
  go_enter Tryz.func144, Tryz.ntmps144
  go_wp2
  obtain ⟨W, hW⟩ : ∃ W, ((w.alloc (.cells #[.string k1, .int .u64 s1, .int .i64 n1, .string v1] 56)).alloc (.cells #[.string k2, .int .u64 s2, .int .i64 n2, .string v2] 56)) = W := ⟨_, rfl⟩
  have hB : Below w.heap.size w W := by rw [← hW]; exact ((Below.refl _ _).alloc (Nat.le_refl _) _).alloc (by simp) _
  have hz : w.heap.size + 2 = W.heap.size := by rw [← hW]; simp
  have c0 : W.cell? ⟨w.heap.size, 0, none⟩ = some (.string k1) := by rw [← hW]; exact oce (by simp) (nce rfl rfl)
  have c1 : W.cell? ⟨w.heap.size, 1, none⟩ = some (.int .u64 s1) := by rw [← hW]; exact oce (by simp) (nce rfl rfl)
  have c2 : W.cell? ⟨w.heap.size + 1, 0, none⟩ = some (.string k2) := by rw [← hW]; exact nce (by simp) rfl
  have c3 : W.cell? ⟨w.heap.size + 1, 1, none⟩ = some (.int .u64 s2) := by rw [← hW]; exact nce (by simp) rfl
  rw [hW]
  clear hW
  have hl1 : w.heap.size < W.heap.size := by omega
  have hl2 : w.heap.size + 1 < W.heap.size := by omega
  go_region_held3 (fun w' => w'.cell? ⟨w.heap.size, 0, none⟩ = some (.string k1) ∧ w'.cell? ⟨w.heap.size, 1, none⟩ = some (.int .u64 s1) ∧ w'.cell? ⟨w.heap.size + 1, 0, none⟩ = some (.string k2) ∧ w'.cell? ⟨w.heap.size + 1, 1, none⟩ = some (.int .u64 s2)) (first | go_keep | exact ⟨oce hl1 c0, oce hl1 c1, oce hl2 c2, oce hl2 c3⟩) (first | (go_at_call 146; refine (C1.out _).mono ?_; rintro e w1 ⟨rfl, rfl⟩) | (go_at_call 147; refine (C2.out _).mono ?_; rintro e w1 ⟨rfl, rfl⟩) | (go_at_call 143; refine (C3.out _).mono ?_; rintro e w1 ⟨rfl, rfl⟩) | fail)
  all_goals go_wp2
  all_goals go_ret
  all_goals exact ⟨rfl, (hB.alloc hB.size _).drew⟩
set_option maxHeartbeats 1000000 in
theorem cmpI_any (x y : Int) (w : World) :
    Calls Tryz.prog 145 #[.int .i64 x, .int .i64 y] w fun e w' => e = .returned (.int .i64 (cmpU x y)) ∧ w = w' := by
  unfold cmpU
  go_enter Tryz.func145, Tryz.ntmps145
  go_wp2
  all_goals (go_ret; refine ⟨?_, rfl⟩; (repeat' split) <;> first | rfl | (exfalso; omega))
theorem clone_any (s : ByteArray) (w : World) (h : s.size ≤ 281474976710656) :
    Calls Tryz.prog 88 #[.string s] w fun e w' => e = .returned (.string s) ∧ Below w.heap.size w w' := by
  go_enter Tryz.func88, Tryz.ntmps88
  go_wp2_with (go_at_call 118; refine (Tryz.stringslite_Clone s _ h).mono ?_; rintro e w' ⟨rfl, hb⟩)
  go_ret
  exact ⟨rfl, hb⟩
theorem soeU {w : World} {b i j : Nat} {u v : Value} (h : w.cell? ⟨b, j, none⟩ = some v) (hne : i ≠ j) : (w.setCell ⟨b, i, none⟩ u).cell? ⟨b, j, none⟩ = some v :=
  (World.cell?_setCell_other w _ _ u (fun e => hne (by cases e; rfl))).trans h
theorem sceU {w : World} {b i : Nat} {u v : Value} (h : w.cell? ⟨b, i, none⟩ = some u) : (w.setCell ⟨b, i, none⟩ v).cell? ⟨b, i, none⟩ = some v := World.cell?_setCell_same w _ v h
set_option maxHeartbeats 4000000 in
set_option maxRecDepth 100000 in
theorem freshU_any (k : ByteArray) (s n : Int) (v : ByteArray) (w : World) (hk : k.size ≤ 281474976710656) (hv : v.size ≤ 281474976710656) :
    Calls Tryz.prog 23 #[ev k s n v] w fun e w' => e = .returned (ev k s n v) ∧ Below w.heap.size w w' := by
  have C1 := Lib.hid (fun w => clone_any k w hk)
  have C2 := Lib.hid (fun w => clone_any v w hv)
  unfold ev
  go_enter Tryz.func23, Tryz.ntmps23
  go_wp2
  obtain ⟨W, hW⟩ : ∃ W, ((w.alloc (.cells #[.string k, .int .u64 s, .int .i64 n, .string v] 56)).alloc (.cells #[.string ⟨#[]⟩, .int .u64 0, .int .i64 0, .string ⟨#[]⟩] 56)) = W := ⟨_, rfl⟩
  have hB : Below w.heap.size w W := by rw [← hW]; exact ((Below.refl _ _).alloc (Nat.le_refl _) _).alloc (by simp) _
  have x0 : Boxe w.heap.size k s n v W := by rw [← hW]; exact (Below.heap_alloc _ _ _ (by simp)).trans (new_block _ _ rfl)
  have y0 : Boxe (w.heap.size + 1) ⟨#[]⟩ 0 0 ⟨#[]⟩ W := by rw [← hW]; exact new_block _ _ (by simp)
  rw [hW]
  clear hW
  have c0 := x0.c0
  have c3 := x0.c3
  go_region_held3 (fun w' => w'.cell? ⟨w.heap.size, 0, none⟩ = some (.string k) ∧ w'.cell? ⟨w.heap.size, 3, none⟩ = some (.string v)) (first | go_keep | exact ⟨c10, c13⟩ | exact ⟨c20, c23⟩ | exact ⟨sceU c20, soeU c23 (by decide)⟩ | exact ⟨soeU (sceU c20) (by decide), sceU (soeU c23 (by decide))⟩) (first | (go_at_call 88; refine (C1.out _).mono ?_; rintro e w1 ⟨rfl, hb1⟩; have x1 := x0.drew.below hb1; have y1 := y0.drew.below hb1; have c10 := x1.c0; have c13 := x1.c3) | (go_at_call 88; refine (C2.out _).mono ?_; rintro e w2 ⟨rfl, hb2⟩; have x2 := x1.below hb2; have y2 := y1.below hb2; have c20 := x2.c0; have c21 := x2.c1; have c22 := x2.c2; have c23 := x2.c3; have f20 := x2.f 0; have f23 := x2.f 3; have d20 := y2.c0; have d21 := y2.c1; have d22 := y2.c2; have d23 := y2.c3; have g20 := y2.f 0; have g21 := y2.f 1; have g22 := y2.f 2; have g23 := y2.f 3) | fail)
  all_goals go_wp2
  all_goals
    have hs : w.heap.size < w1.heap.size := x1.lt
    have h1 : Below w.heap.size w w2 := (hB.drew.trans (hb1.mono hB.size)).trans (hb2.mono (by omega))
    refine bodyPost_ret (by simp [results, Tryz.results23, go_sem, d20, d21, d22, d23]; try rfl) rfl ?_
    exact ⟨rfl, (((((h1.setCell (Nat.le_refl _) _).setCell (Nat.le_refl _) _).setCell (Nat.le_succ _) _).setCell (Nat.le_succ _) _).setCell (Nat.le_succ _) _).setCell (Nat.le_succ _) _⟩
end Go.Proofs.YtcbailiniigcnaaGreat
