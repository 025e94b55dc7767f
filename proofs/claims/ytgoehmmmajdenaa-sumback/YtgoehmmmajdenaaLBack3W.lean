/- The walk of SumBack: frames are found as they were, whatever of the next one is cut off. -/
import Derived.Test.YtgoehmmmajdenaaS5
import Derived.Deep.DrawnRows
import Derived.Deep.RegionHeld3
namespace Go.Proofs.Ytgoehmmmajdenaa
open Go.RowKit
attribute [local go_sem ↓] Go.wp_at_zero Go.wp_at_succ

theorem texts_back (ss : List ByteArray) : (texts ss).map (fun t => (⟨t.toArray⟩ : ByteArray)) = ss := by
  unfold texts
  rw [List.map_map]
  conv => rhs; rw [← List.map_id ss]
  apply List.map_congr_left
  intro s _
  exact (arr_eq s).symm
theorem texts_length (ss : List ByteArray) : (texts ss).length = ss.length := by simp [texts]
theorem texts_take (ss : List ByteArray) (k : Nat) : (texts ss).take k = texts (ss.take k) := by simp [texts]

set_option maxHeartbeats 2000000 in
set_option maxRecDepth 100000 in
theorem back_neg (a : Option Addr) (len cap : Nat) (ss : List ByteArray) (c : Int) (w : World) (h : IsRowS w a len ss) (hc : c < 0) :
    Calls Try.prog 3 #[.slice a len cap, .int .i64 c] w fun e w' => e = .returned (.bool true) ∧ Below w.heap.size w w' := by
  have hsh := Lib.hid (short_any 60 6000 a len cap ss w (by omega) (by omega) (by omega) (by omega) h)
  go_enter Try.func3, Try.ntmps3
  go_wp2_with (first | (go_at_call 6; refine hsh.out.mono ?_; rintro e w1 ⟨⟨t, rfl, -⟩, hb1⟩; cases t) | (go_at_call 7; refine (alive_any _).mono ?_; rintro e w2 ⟨rfl, hb2⟩))
  all_goals go_ret
  all_goals exact ⟨rfl, hb1.trans (hb2.mono hb1.size)⟩

theorem slice_nil (k len cap : Nat) (h : (k : Int) ≤ (cap : Int)) (w' : World) : (Instr.slice 22 (.slice none len cap) none (some (.int .i64 (k : Int))) none).run Try.prog w' = .ok (.slice none k cap) w' := by
  have h0 : (0 : Int) ≤ (k : Int) := by omega
  go_simp

set_option maxHeartbeats 1000000 in
set_option maxRecDepth 100000 in
theorem back_pos (a : Option Addr) (len cap : Nat) (ss : List ByteArray) (c : Nat) (hc : c ≤ 9223372036854775807) (w : World) (h : IsRowS w a len ss) (hcap : len ≤ cap ∧ cap ≤ maxLen) :
    Calls Try.prog 3 #[.slice a len cap, .int .i64 (c : Int)] w fun e w' => e = .returned (.bool true) ∧ Below w.heap.size w w' := by
  have hsh := Lib.hid (short_any 60 6000 a len cap ss w (by omega) (by omega) (by omega) (by omega) h)
  have hd0 : decide ((c : Int) < 0) = false := by simp
  go_enter Try.func3, Try.ntmps3
  go_wp2_with (go_at_call 6; refine hsh.out.mono ?_; rintro e w1 ⟨⟨t, rfl, ht⟩, hb1⟩; replace ht := Lib.hid ht; cases t)
  · clear ht
    go_wp2_with (go_at_call 7; refine (alive_any _).mono ?_; rintro e w2 ⟨rfl, hb2⟩)
    go_ret
    exact ⟨rfl, hb1.trans (hb2.mono hb1.size)⟩
  · obtain ⟨ht1, ht2⟩ := ht.out (by trivial)
    have hn60 : ss.length ≤ 60 := by omega
    have ht60 : total ss ≤ 6000 := by omega
    have hlen : ss.length = len := h.1
    have hbig : ∀ s ∈ texts ss, s.length ≤ 16777216 := by
      intro s hs
      obtain ⟨x, hx, rfl⟩ := List.mem_map.1 hs
      have : x.data.toList.length = x.size := rfl
      have := total_mem hx
      omega
    obtain ⟨F, hF⟩ : ∃ F : ByteArray, F = ⟨(frames (texts ss)).toArray⟩ := ⟨_, rfl⟩
    have hFl : F.data.toList = frames (texts ss) := by rw [hF]
    have hFs : F.size = 8 * ss.length + total ss := by
      have : F.size = F.data.toList.length := rfl
      rw [this, hFl, frames_length]
    have hfr := Lib.hid (fun w' hr => frame_any a len cap ss w' hr (by omega) (by omega))
    rw [← hF] at hfr
    have hsc := Lib.hid (fun w' : World => scan_any F w' (by omega))
    have hsv : scanF F.data.toList = (texts ss, F.size) := by
      obtain ⟨k, h1, h2, h3, h4⟩ := scan_cut (texts ss) F.size hbig
      have hk := h4 (by rw [← hFl]; exact Nat.le_refl _)
      have e1 : (frames (texts ss)).take F.size = F.data.toList := by rw [← hFl]; exact List.take_of_length_le (Nat.le_refl _)
      rw [e1, hk, List.take_length, ← hFl] at h2
      exact h2
    rw [hsv] at hsc
    have hR1 := Lib.hid (rowS_below h hb1)
    have hts : ∀ t ∈ texts ss, t.length ≤ maxLen := fun t ht => by have := hbig t ht; unfold maxLen; omega
    have HTS := Lib.hid hts
    by_cases hcut : (F.size : Int) < (c : Int)
    · clear hFl hF hsv hbig ht1 ht2 hFs hts
      go_wp2_with (first | (go_at_call 8; refine (hfr.out _ hR1.out).mono ?_; rintro e w2 ⟨rfl, hb2⟩) | (go_at_call 9; refine (hsc.out _).mono ?_; rintro e w3 ⟨v, rfl, hrow, hb3⟩; obtain ⟨a3, cap3, rfl, hr3, -, -⟩ := rowT_rowS hrow HTS.out; rw [texts_length] at hr3; rw [texts_back] at hr3; have hr4 := rowS_below (rowS_below hR1.out hb2) hb3; rw [hlen] at hr3; clear hrow) | (go_at_call 10; rw [texts_length]; rw [hlen]; refine (same_any _ _ _ _ _ ss _ hr3 hr4 (by omega)).mono ?_; rintro e w4 ⟨rfl, hb4⟩) | (go_at_call 7; refine (alive_any _).mono ?_; rintro e w5 ⟨rfl, hb5⟩))
      go_ret
      have k2 := hb1.trans (hb2.mono hb1.size)
      have k3 := k2.trans (hb3.mono k2.size)
      have k4 := k3.trans (hb4.mono k3.size)
      exact ⟨rfl, k4.trans (hb5.mono k4.size)⟩
    · obtain ⟨k, hk1, hk2, hk3, -⟩ := scan_cut (texts ss) c hbig
      rw [texts_length] at hk1
      rw [texts_take] at hk2 hk3
      have hcl : c ≤ F.size := by omega
      obtain ⟨G, hG⟩ : ∃ G : ByteArray, F.extract 0 c = G := ⟨_, rfl⟩
      have hGl : G.data.toList = (frames (texts ss)).take c := by rw [← hG, ext_to, hFl]
      have hGs : G.size = c := by
        have : G.size = G.data.toList.length := rfl
        have : F.data.toList.length = F.size := rfl
        rw [‹G.size = _›, hGl, List.length_take, ← hFl]
        omega
      have hsc2 := Lib.hid (fun w' : World => scan_any G w' (by omega))
      rw [hGl, hk2] at hsc2
      obtain ⟨Y, hY⟩ : ∃ Y : ByteArray, Y = ⟨(frames (texts (ss.take k))).toArray⟩ := ⟨_, rfl⟩
      have hYl : Y.data.toList = frames (texts (ss.take k)) := by rw [hY]
      have hYs : Y.size = (frames (texts (ss.take k))).length := by
        have : Y.size = Y.data.toList.length := rfl
        rw [this, hYl]
      have htk := total_take_le ss k
      have hlk : (ss.take k).length = k := by rw [List.length_take]; omega
      have hfr2 := Lib.hid (fun w' a' cap' hr => frame_any a' k cap' (ss.take k) w' hr (by omega) (by omega))
      rw [← hY] at hfr2
      rw [← hYs] at hsc2
      obtain ⟨m, hm⟩ : ∃ m, Y.size = m := ⟨_, rfl⟩
      have hmc : m ≤ c := by omega
      have hFY : F.extract 0 m = Y := by
        rw [arr_eq (F.extract 0 m), ext_to, hFl, arr_eq Y, hYl, ← hm, hYs]
        rw [← texts_take, frames_take]
      rw [hm] at hsc2
      have hts2 : ∀ t ∈ texts (ss.take k), t.length ≤ maxLen := fun t ht => hts t (by rw [← texts_take] at ht; exact List.mem_of_mem_take ht)
      have HTS2 := Lib.hid hts2
      have hlk2 : (texts (ss.take k)).length = k := by rw [texts_length]; exact hlk
      have hYY : (Y.toList == Y.toList) = true := by simp
      have hi1 : (m : Int) ≤ (c : Int) := by omega
      have hi2 : (m : Int) ≤ (F.size : Int) := by omega
      have hi3 : (k : Int) ≤ (len : Int) := by omega
      have hi4 : (k : Int) ≤ (cap : Int) := by omega
      clear hFl hF hsv hbig ht1 ht2 hFs hts hGl hYl hYs hY hts2 hk2 hk3 htk hm hcap
      rcases a with _ | ad
      · have hsl := fun w' => slice_nil k len cap hi4 w'
        go_wp2_with (first | (go_at_call 8; refine (hfr.out _ hR1.out).mono ?_; rintro e w2 ⟨rfl, hb2⟩) | (go_at_call 9; first | (with_reducible refine (hsc.out _).mono ?_; rintro e w3 ⟨v, rfl, hrow, hb3⟩; obtain ⟨a3, cap3, rfl, hr3, -, -⟩ := rowT_rowS hrow HTS.out; rw [texts_length] at hr3; rw [texts_back] at hr3; have hr4 := rowS_below (rowS_below hR1.out hb2) hb3; rw [hlen] at hr3; clear hrow) | (with_reducible refine (hsc2.out _).mono ?_; rintro e w5 ⟨v, rfl, hrow, hb5⟩; obtain ⟨a5, cap5, rfl, hr5, hcap5, -⟩ := rowT_rowS hrow HTS2.out; rw [hlk2] at hr5 hcap5; rw [texts_back] at hr5; have hr6 := rowS_below (rowS_below hr4 hb4) hb5; clear hrow)) | (go_at_call 10; rw [texts_length]; rw [hlen]; refine (same_any _ _ _ _ _ ss _ hr3 hr4 (by omega)).mono ?_; rintro e w4 ⟨rfl, hb4⟩))
        go_region_held3 (fun _ => True) (trivial) (first | (go_at_call 7; refine (alive_any _).mono ?_; rintro e w6 ⟨rfl, hb6⟩; have hr7 := rowS_below (rowS_below hr5 (drew_below _ 1)) hb6; have hr8 := rowS_take (rowS_below (rowS_below hr6 (drew_below _ 1)) hb6) k (by omega)) | (go_at_call 10; refine (same_any _ _ _ _ _ (ss.take k) _ hr7 hr8 (by omega)).mono ?_; rintro e w7 ⟨rfl, hb7⟩; have hr9 := rowS_below hr7 hb7) | (go_at_call 8; refine (hfr2.out _ _ _ hr9).mono ?_; rintro e w8 ⟨rfl, hb8⟩))
        go_wp2
        go_ret
        have k2 := hb1.trans (hb2.mono hb1.size)
        have k3 := k2.trans (hb3.mono k2.size)
        have k4 := k3.trans (hb4.mono k3.size)
        have k5 := k4.trans (hb5.mono k4.size)
        have k6 := k5.drew.trans (hb6.mono k5.size)
        have k7 := k6.trans (hb7.mono k6.size)
        exact ⟨rfl, k7.trans (hb8.mono k7.size)⟩
      · go_wp2_with (first | (go_at_call 8; refine (hfr.out _ hR1.out).mono ?_; rintro e w2 ⟨rfl, hb2⟩) | (go_at_call 9; first | (with_reducible refine (hsc.out _).mono ?_; rintro e w3 ⟨v, rfl, hrow, hb3⟩; obtain ⟨a3, cap3, rfl, hr3, -, -⟩ := rowT_rowS hrow HTS.out; rw [texts_length] at hr3; rw [texts_back] at hr3; have hr4 := rowS_below (rowS_below hR1.out hb2) hb3; rw [hlen] at hr3; clear hrow) | (with_reducible refine (hsc2.out _).mono ?_; rintro e w5 ⟨v, rfl, hrow, hb5⟩; obtain ⟨a5, cap5, rfl, hr5, hcap5, -⟩ := rowT_rowS hrow HTS2.out; rw [hlk2] at hr5 hcap5; rw [texts_back] at hr5; have hr6 := rowS_below (rowS_below hr4 hb4) hb5; clear hrow)) | (go_at_call 10; rw [texts_length]; rw [hlen]; refine (same_any _ _ _ _ _ ss _ hr3 hr4 (by omega)).mono ?_; rintro e w4 ⟨rfl, hb4⟩))
        go_region_held3 (fun _ => True) (trivial) (first | (go_at_call 7; refine (alive_any _).mono ?_; rintro e w6 ⟨rfl, hb6⟩; have hr7 := rowS_below (rowS_below hr5 (drew_below _ 1)) hb6; have hr8 := rowS_take (rowS_below (rowS_below hr6 (drew_below _ 1)) hb6) k (by omega)) | (go_at_call 10; refine (same_any _ _ _ _ _ (ss.take k) _ hr7 hr8 (by omega)).mono ?_; rintro e w7 ⟨rfl, hb7⟩; have hr9 := rowS_below hr7 hb7) | (go_at_call 8; refine (hfr2.out _ _ _ hr9).mono ?_; rintro e w8 ⟨rfl, hb8⟩))
        go_wp2
        go_ret
        have k2 := hb1.trans (hb2.mono hb1.size)
        have k3 := k2.trans (hb3.mono k2.size)
        have k4 := k3.trans (hb4.mono k3.size)
        have k5 := k4.trans (hb5.mono k4.size)
        have k6 := k5.drew.trans (hb6.mono k5.size)
        have k7 := k6.trans (hb7.mono k6.size)
        exact ⟨rfl, k7.trans (hb8.mono k7.size)⟩

theorem sumBack_walk (a : Option Addr) (len cap : Nat) (ss : List ByteArray) (c : Int) (_ : -9223372036854775808 ≤ c) (hc : c ≤ 9223372036854775807) (w : World) (h : IsRowS w a len ss) (_ : a = none → cap = 0) (hcap : len ≤ cap ∧ cap ≤ maxLen) :
    Calls Try.prog 3 #[.slice a len cap, .int .i64 c] w fun e w' => e = .returned (.bool true) ∧ Below w.heap.size w w' := by
  by_cases h0 : c < 0
  · exact back_neg a len cap ss c w h h0
  · obtain ⟨n, rfl⟩ : ∃ n : Nat, c = (n : Int) := ⟨c.toNat, by omega⟩
    exact back_pos a len cap ss n (by omega) w h hcap
end Go.Proofs.Ytgoehmmmajdenaa
