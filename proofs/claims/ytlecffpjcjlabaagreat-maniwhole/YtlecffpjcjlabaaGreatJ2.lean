/- cmp's Compare and Or, edit's compare. -/
import Derived.Test.YtlecffpjcjlabaaGreatJ1
import Derived.Sort.Grow
import Derived.Laws.Cover1
import Derived.Deep.RegionHeld3
namespace Go.Proofs.YtlecffpjcjlabaaGreat
open Go.RowKit

theorem less_cb : ∀ a b : List UInt8, Op.bytesLess a b = decide (Lib.compareBytes a b = -1)
  | [], [] => rfl
  | [], _ :: _ => rfl
  | _ :: _, [] => rfl
  | a :: l, b :: r => by
    unfold Op.bytesLess Lib.compareBytes
    by_cases h1 : a < b
    · simp [h1]
    · by_cases h2 : b < a
      · have h3 : ¬ a = b := fun e => by subst e; exact h1 h2
        simp [h1, h2, h3]
      · have h3 : a = b := UInt8.le_antisymm (UInt8.not_lt.1 h2) (UInt8.not_lt.1 h1)
        rw [less_cb l r]
        simp [h3]
theorem bl_cmp (a b : ByteArray) : Op.bytesLess a.toList b.toList = decide (cmpS a b = -1) := by
  rw [less_cb, ByteArray.toList_eq, ByteArray.toList_eq]
  rfl
theorem str_eqT {a b : ByteArray} (h : (a.toList == b.toList) = true) : a = b := by
  rw [ByteArray.toList_eq, ByteArray.toList_eq] at h
  exact bytes_ext (by simpa using h)
theorem less3 (a b : ByteArray) : (Op.bytesLess a.toList b.toList = true ∧ cmpS a b = -1) ∨ a = b ∨ (Op.bytesLess a.toList b.toList = false ∧ (a.toList == b.toList) = false ∧ cmpS a b = 1) := by
  rw [bl_cmp]
  rcases cmpS_vals a b with h | h | h
  · exact .inl ⟨decide_eq_true h, h⟩
  · exact .inr (.inl (cmpS_eq h))
  · refine .inr (.inr ⟨decide_eq_false (by omega), ?_, h⟩)
    cases he : (a.toList == b.toList) with
    | false => rfl
    | true => rw [str_eqT he, cmpS_refl] at h; omega
/-- The world has drawn, and new blocks lie behind it; no more. -/
def Grows (w w' : World) : Prop := ∃ q os, w' = Go.Sort.grow (w.drewN q) os
theorem Grows.refl (w : World) : Grows w w := ⟨0, #[], by rw [Go.Sort.grow_empty]; rfl⟩
theorem Grows.alloc {w w' : World} (h : Grows w w') (o : Obj) : Grows w (w'.alloc o) := by
  obtain ⟨q, os, rfl⟩ := h
  exact ⟨q, os ++ #[o], by rw [Go.Sort.alloc_eq_grow, Go.Sort.grow_grow]⟩
theorem Grows.drewN {w w' : World} (h : Grows w w') (n : Nat) : Grows w (w'.drewN n) := by
  obtain ⟨q, os, rfl⟩ := h
  exact ⟨q + n, os, by show Go.Sort.grow ((w.drewN q).drewN n) os = _; rw [World.drewN_drewN]⟩
theorem Grows.drew {w w' : World} (h : Grows w w') : Grows w w'.drew := h.drewN 1
set_option maxHeartbeats 1000000 in
theorem cmpI_any (x y : Int) (w : World) :
    Calls Tryz.prog 215 #[.int .i64 x, .int .i64 y] w fun e w' => e = .returned (.int .i64 (cmpI x y)) ∧ w = w' := by
  unfold cmpI
  go_enter Tryz.func215, Tryz.ntmps215
  go_wp2
  all_goals (go_ret; refine ⟨?_, rfl⟩; (repeat' split) <;> first | rfl | (exfalso; omega))
set_option maxHeartbeats 1000000 in
theorem cmpStr_any (x y : ByteArray) (w : World) :
    Calls Tryz.prog 217 #[.string x, .string y] w fun e w' => e = .returned (.int .i64 (cmpS x y)) ∧ w = w' := by
  rcases less3 x y with ⟨h1, h2⟩ | h1 | ⟨h1, h2, h3⟩
  · rw [h2]
    clear h2
    go_enter Tryz.func217, Tryz.ntmps217
    go_wp2
    go_ret
    exact ⟨rfl, rfl⟩
  · subst h1
    have h1 : Op.bytesLess x.toList x.toList = false := by rw [bl_cmp, cmpS_refl]; rfl
    rw [cmpS_refl]
    go_enter Tryz.func217, Tryz.ntmps217
    go_wp2
    go_ret
    exact ⟨rfl, rfl⟩
  · rw [h3]
    clear h3
    go_enter Tryz.func217, Tryz.ntmps217
    go_wp2
    go_ret
    exact ⟨rfl, rfl⟩
set_option maxHeartbeats 1000000 in
theorem or2_any (b cap : Nat) (x y : Int) (w : World) (h0 : w.cell? ⟨b, 0, none⟩ = some (.int .i64 x)) (h1 : w.cell? ⟨b, 1, none⟩ = some (.int .i64 y)) :
    Calls Tryz.prog 216 #[.slice (some ⟨b, 0, none⟩) 2 cap] w fun e w' => e = .returned (.int .i64 (if x = 0 then y else x)) ∧ w = w' := by
  by_cases hx : x = 0
  · subst hx
    by_cases hy : y = 0
    · subst hy
      go_enter Tryz.func216, Tryz.ntmps216
      go_wp2
      refine wp_loop_rounds 3 ?_
      rw [rounds_succ]
      go_wp2
      rw [rounds_succ]
      go_wp2
      rw [rounds_succ]
      go_wp2
      go_ret
      exact ⟨rfl, rfl⟩
    · have hd : (y == 0) = false := by simpa using hy
      go_enter Tryz.func216, Tryz.ntmps216
      go_wp2
      refine wp_loop_rounds 2 ?_
      rw [rounds_succ]
      go_wp2
      rw [rounds_succ]
      go_wp2
      go_ret
      exact ⟨rfl, rfl⟩
  · have hd : (x == 0) = false := by simpa using hx
    rw [if_neg hx]
    go_enter Tryz.func216, Tryz.ntmps216
    go_wp2
    refine wp_loop_rounds 1 ?_
    rw [rounds_succ]
    go_wp2
    go_ret
    exact ⟨rfl, rfl⟩
set_option maxHeartbeats 4000000 in
set_option maxRecDepth 100000 in
theorem compareT_any (x y : Tb) (w : World) :
    Calls Tryz.prog 136 #[x.val, y.val] w fun e w' => e = .returned (.int .i64 (cmpT x y)) ∧ Grows w w' := by
  obtain ⟨n1, l1, z1, f1, g1⟩ := x
  obtain ⟨n2, l2, z2, f2, g2⟩ := y
  unfold Tb.val cmpT
  simp only
  obtain ⟨W, hW⟩ : ∃ W, ((w.alloc (.cells #[.int .i64 n1, .int .i64 l1, .int .i64 z1, .string f1, .string g1] 89)).alloc (.cells #[.int .i64 n2, .int .i64 l2, .int .i64 z2, .string f2, .string g2] 89)) = W := ⟨_, rfl⟩
  have hG : Grows w W := by rw [← hW]; exact ((Grows.refl w).alloc _).alloc _
  have hx : BoxB w.heap.size ⟨n1, l1, z1, f1, g1⟩ W := by rw [← hW]; exact (Below.heap_alloc _ _ _ (by simp)).trans (new_block _ _ rfl)
  have hy : BoxB (w.heap.size + 1) ⟨n2, l2, z2, f2, g2⟩ W := by rw [← hW]; exact new_block _ _ (by simp)
  have a0 := hx.c0
  have a1 := hx.c1
  have a3 := hx.c3
  have b0 := hy.c0
  have b1 := hy.c1
  have b3 := hy.c3
  simp only at a0 a1 a3 b0 b1 b3
  have hl1 := hx.lt
  have hl2 := hy.lt
  have HG := Lib.hid hG
  clear hG hx hy
  by_cases h0 : l1 = 0 ∧ l2 = 0
  · obtain ⟨rfl, rfl⟩ := h0
    rw [if_pos ⟨rfl, rfl⟩]
    have C1 := Lib.hid (fun w => cmpI_any n2 n1 w)
    generalize cmpI n2 n1 = Y at *
    go_enter Tryz.func136, Tryz.ntmps136
    go_wp2_with (first | (go_at_call 215; (with_reducible refine (C1.out _).mono ?_); rintro e w1 ⟨rfl, rfl⟩) | fail)
    go_ret
    exact ⟨rfl, HG.out⟩
  · rw [if_neg h0]
    have C1 := Lib.hid (fun w => cmpI_any l1 l2 w)
    have C2 := Lib.hid (fun w => cmpStr_any f1 f2 w)
    generalize cmpI l1 l2 = X at *
    generalize cmpS f1 f2 = Y at *
    have C3 := Lib.hid (fun (w1 : World) => or2_any w1.heap.size 2 X Y (w1.alloc (.cells #[.int .i64 X, .int .i64 Y] 3)).drew (nce rfl rfl) (nce rfl rfl))
    generalize (if X = 0 then Y else X) = Z at *
    go_enter Tryz.func136, Tryz.ntmps136
    have hc : (∃ t : Bool, (l1 == 0) = t) := ⟨_, rfl⟩
    by_cases e1 : l1 = 0
    · have d1 : (l1 == 0) = true := by simpa using e1
      have d2 : (l2 == 0) = false := by
        have : ¬ l2 = 0 := fun h => h0 ⟨e1, h⟩
        simpa using this
      clear e1 h0 hc
      go_wp2
      try rw [hW]
      clear hW
      go_region_held3 (fun w' => w'.cell? ⟨w.heap.size, 1, none⟩ = some (.int .i64 l1) ∧ w'.cell? ⟨w.heap.size, 3, none⟩ = some (.string f1) ∧ w'.cell? ⟨w.heap.size + 1, 1, none⟩ = some (.int .i64 l2) ∧ w'.cell? ⟨w.heap.size + 1, 3, none⟩ = some (.string f2)) (first | go_keep | exact ⟨oce hl1 a1, oce hl1 a3, oce hl2 b1, oce hl2 b3⟩) (first | (go_at_call 215; refine (C1.out _).mono ?_; rintro e w1 ⟨rfl, rfl⟩) | (go_at_call 217; refine (C2.out _).mono ?_; rintro e w1 ⟨rfl, rfl⟩) | (go_at_call 216; refine (C3.out _).mono ?_; rintro e w1 ⟨rfl, rfl⟩) | fail)
      all_goals go_wp2
      all_goals go_ret
      all_goals exact ⟨rfl, (HG.out.alloc _).drew⟩
    · have d1 : (l1 == 0) = false := by simpa using e1
      clear e1 h0 hc
      go_wp2
      try rw [hW]
      clear hW
      go_region_held3 (fun w' => w'.cell? ⟨w.heap.size, 1, none⟩ = some (.int .i64 l1) ∧ w'.cell? ⟨w.heap.size, 3, none⟩ = some (.string f1) ∧ w'.cell? ⟨w.heap.size + 1, 1, none⟩ = some (.int .i64 l2) ∧ w'.cell? ⟨w.heap.size + 1, 3, none⟩ = some (.string f2)) (first | go_keep | exact ⟨oce hl1 a1, oce hl1 a3, oce hl2 b1, oce hl2 b3⟩) (first | (go_at_call 215; refine (C1.out _).mono ?_; rintro e w1 ⟨rfl, rfl⟩) | (go_at_call 217; refine (C2.out _).mono ?_; rintro e w1 ⟨rfl, rfl⟩) | (go_at_call 216; refine (C3.out _).mono ?_; rintro e w1 ⟨rfl, rfl⟩) | fail)
      all_goals go_wp2
      all_goals go_ret
      all_goals exact ⟨rfl, (HG.out.alloc _).drew⟩
end Go.Proofs.YtlecffpjcjlabaaGreat
