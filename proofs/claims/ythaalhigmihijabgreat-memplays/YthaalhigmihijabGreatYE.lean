/- The document's own order of versions, and its Valid. -/
import Derived.Test.YthaalhigmihijabGreatYD
import Derived.Laws.IdiomStrings
namespace Go.Proofs.YthaalhigmihijabGreat
open Go.RowKit Go.Lib

theorem cb_drop (a b : ByteArray) (i : Nat) (ha : i < a.size) (hb : i < b.size) : compareBytes (a.data.toList.drop i) (b.data.toList.drop i) = if a[i] < b[i] then -1 else if b[i] < a[i] then 1 else compareBytes (a.data.toList.drop (i + 1)) (b.data.toList.drop (i + 1)) := by
  have h1 : a.data.toList.drop i = a[i] :: a.data.toList.drop (i + 1) := List.drop_eq_getElem_cons (by rw [Array.length_toList]; exact ha)
  have h2 : b.data.toList.drop i = b[i] :: b.data.toList.drop (i + 1) := List.drop_eq_getElem_cons (by rw [Array.length_toList]; exact hb)
  rw [h1, h2]
  rfl
theorem cb_end (x y : List UInt8) (h : x = [] ∨ y = []) : decide (compareBytes x y = -1) = decide (x.length < y.length) := by
  rcases h with rfl | rfl
  · cases y <;> rfl
  · cases x <;> rfl
set_option maxHeartbeats 2000000 in
set_option maxRecDepth 100000 in
theorem less_any (a b : ByteArray) (w : World) (ha : a.size ≤ 9223372036854775807) (_hb : b.size ≤ 9223372036854775807) :
    Calls Tryz.prog 35 #[.string a, .string b] w fun e w' => e = .returned (.bool (decide (compareBytes a.data.toList b.data.toList = -1))) ∧ Below w.heap.size w w' := by
  go_enter Tryz.func35, Tryz.ntmps35
  go_wp2
  go_loopw [5] (fun iv wr => ∃ i : Nat, iv = .int .i64 (i : Int) ∧ i ≤ a.size ∧ i ≤ b.size ∧ compareBytes (a.data.toList.drop i) (b.data.toList.drop i) = compareBytes a.data.toList b.data.toList ∧ Below w.heap.size w wr) (fun iv _ => a.size - (RowKit.intOf iv).toNat)
  case atStart => exact ⟨0, rfl, Nat.zero_le _, Nat.zero_le _, rfl, Below.refl _ _⟩
  case round =>
    obtain ⟨i, rfl, hia, hib, he, hbl⟩ := hrel
    have HE := Lib.hid he
    have HBL := Lib.hid hbl
    clear he hbl
    by_cases hgo : i < a.size ∧ i < b.size
    · obtain ⟨h1, h2⟩ := hgo
      have hst := cb_drop a b i h1 h2
      have i1 : (i : Int) < (a.size : Int) := by omega
      have i2 : (i : Int) < (b.size : Int) := by omega
      have u1 : (i : Int) < (a.data.size : Int) := i1
      have u2 : (i : Int) < (b.data.size : Int) := i2
      generalize hX : a[i] = X at *
      generalize hY : b[i] = Y at *
      have HST := Lib.hid hst
      clear hst
      by_cases hxy : X = Y
      · subst hxy
        go_wp2
        go_quiet (fail)
        go_wp2
        go_roundw
        case rel => exact ⟨i + 1, by go_num, h1, h2, by rw [← HE.out, HST.out, if_neg (UInt8.lt_irrefl _), if_neg (UInt8.lt_irrefl _)], belowN HBL.out _⟩
        case measure => simp [RowKit.intOf]; omega
      · have hne : ((X.toNat : Int) == (Y.toNat : Int)) = false := by
          have : X.toNat ≠ Y.toNat := fun h => hxy (UInt8.toNat_inj.1 h)
          simp
          omega
        have hres : decide ((X.toNat : Int) < (Y.toNat : Int)) = decide (compareBytes a.data.toList b.data.toList = -1) := by
          rw [← HE.out, HST.out]
          by_cases hl : X < Y
          · rw [if_pos hl]
            have := UInt8.lt_iff_toNat_lt.1 hl
            simp
            omega
          · rw [if_neg hl]
            have h3 : ¬ X.toNat < Y.toNat := fun h => hl (UInt8.lt_iff_toNat_lt.2 h)
            have h4 : Y < X := UInt8.lt_iff_toNat_lt.2 (by
              have : X.toNat ≠ Y.toNat := fun h => hxy (UInt8.toNat_inj.1 h)
              omega)
            rw [if_pos h4]
            simp
            omega
        have HRES := Lib.hid hres
        clear hres
        go_wp2
        go_quiet (fail)
        go_wp2
        go_quiet (fail)
        go_wp2
        go_ret
        exact ⟨by rw [← HRES.out]; simp, belowN (belowN HBL.out _) _⟩
    · have hres : decide (a.size < b.size) = decide (compareBytes a.data.toList b.data.toList = -1) := by
        rw [← HE.out, cb_end]
        · rw [List.length_drop, List.length_drop]
          have e1 : a.data.toList.length = a.size := rfl
          have e2 : b.data.toList.length = b.size := rfl
          rw [e1, e2]
          apply decide_eq_decide.2
          omega
        · by_cases hl : i < a.size
          · exact .inr (List.drop_of_length_le (by show b.size ≤ i; omega))
          · exact .inl (List.drop_of_length_le (by show a.size ≤ i; omega))
      have HRES := Lib.hid hres
      clear hres
      by_cases h1 : i < a.size
      · have h2 : ¬ i < b.size := fun h => hgo ⟨h1, h⟩
        have i1 : (i : Int) < (a.size : Int) := by omega
        have d2 : decide ((i : Int) < (b.size : Int)) = false := by simp; omega
        clear hgo
        go_wp2
        go_ret
        exact ⟨by rw [← HRES.out]; simp, HBL.out⟩
      · have d1 : decide ((i : Int) < (a.size : Int)) = false := by simp; omega
        clear hgo
        go_wp2
        go_ret
        exact ⟨by rw [← HRES.out]; simp, HBL.out⟩
set_option maxHeartbeats 2000000 in
set_option maxRecDepth 100000 in
theorem cmp5_any (k1 : ByteArray) (s1 n1 : Int) (v1 k2 : ByteArray) (s2 n2 : Int) (v2 : ByteArray) (w : World) (h1 : k1.size ≤ 9223372036854775807) (h2 : k2.size ≤ 9223372036854775807) :
    Calls Tryz.prog 106 #[.agg #[.string k1, .int .u64 s1, .int .i64 n1, .string v1], .agg #[.string k2, .int .u64 s2, .int .i64 n2, .string v2]] w fun e w' => e = .returned (.int .i64 (cmpE k1 s1 k2 s2)) ∧ Below w.heap.size w w' := by
  have C1 := Lib.hid (fun W => less_any k1 k2 W h1 h2)
  have C2 := Lib.hid (fun W => less_any k2 k1 W h2 h1)
  rw [cb_swap k1.data.toList k2.data.toList] at C2
  have HV := cb_vals k1.data.toList k2.data.toList
  obtain ⟨W, hW⟩ : ∃ W, ((w.alloc (.cells #[.string k1, .int .u64 s1, .int .i64 n1, .string v1] 34)).alloc (.cells #[.string k2, .int .u64 s2, .int .i64 n2, .string v2] 34)) = W := ⟨_, rfl⟩
  have hB : Below w.heap.size w W := by rw [← hW]; exact ((Below.refl _ _).alloc (Nat.le_refl _) _).alloc (by simp) _
  have x0 : Boxe w.heap.size k1 s1 n1 v1 W := by rw [← hW]; exact (Below.heap_alloc _ _ _ (by simp)).trans (new_block _ _ rfl)
  have y0 : Boxe (w.heap.size + 1) k2 s2 n2 v2 W := by rw [← hW]; exact new_block _ _ (by simp)
  have a0 := x0.c0
  have a1 := x0.c1
  have b0 := y0.c0
  have b1 := y0.c1
  unfold cmpE
  generalize compareBytes k1.data.toList k2.data.toList = X at *
  rcases HV with rfl | rfl | rfl
  · go_enter Tryz.func106, Tryz.ntmps106
    go_wp2_with (first | (go_at_call 35; (with_reducible refine (C1.out _).mono ?_); rintro e W1 ⟨rfl, hb1⟩) | fail)
    go_ret
    exact ⟨rfl, hB.trans (hb1.mono hB.size)⟩
  · rcases Int.lt_trichotomy s1 s2 with hs | hs | hs
    · have hz : (if (0 : Int) = 0 then cmpU s2 s1 else 0) = 1 := by unfold cmpU; rw [if_pos rfl, if_neg (by omega), if_pos hs]
      rw [hz]
      have d1 : decide (s2 < s1) = false := by simp; omega
      have d2 : decide (s1 < s2) = true := by simp; omega
      go_enter Tryz.func106, Tryz.ntmps106
      go_wp2_with (first | (go_at_call 35; (with_reducible refine (C1.out _).mono ?_); rintro e W1 ⟨rfl, hb1⟩; have x1 := x0.below hb1; have y1 := y0.below hb1; have a10 := x1.c0; have b10 := y1.c0) | (go_at_call 35; (with_reducible refine (C2.out _).mono ?_); rintro e W2 ⟨rfl, hb2⟩; have x2 := x1.below hb2; have y2 := y1.below hb2; have a21 := x2.c1; have b21 := y2.c1) | fail)
      go_ret
      have k1 := hB.trans (hb1.mono hB.size)
      exact ⟨rfl, k1.trans (hb2.mono k1.size)⟩
    · subst hs
      have hz : (if (0 : Int) = 0 then cmpU s1 s1 else 0) = 0 := by unfold cmpU; rw [if_pos rfl, if_neg (by omega), if_neg (by omega)]
      rw [hz]
      go_enter Tryz.func106, Tryz.ntmps106
      go_wp2_with (first | (go_at_call 35; (with_reducible refine (C1.out _).mono ?_); rintro e W1 ⟨rfl, hb1⟩; have x1 := x0.below hb1; have y1 := y0.below hb1; have a10 := x1.c0; have b10 := y1.c0) | (go_at_call 35; (with_reducible refine (C2.out _).mono ?_); rintro e W2 ⟨rfl, hb2⟩; have x2 := x1.below hb2; have y2 := y1.below hb2; have a21 := x2.c1; have b21 := y2.c1) | fail)
      go_ret
      have k1 := hB.trans (hb1.mono hB.size)
      exact ⟨rfl, k1.trans (hb2.mono k1.size)⟩
    · have hz : (if (0 : Int) = 0 then cmpU s2 s1 else 0) = -1 := by unfold cmpU; rw [if_pos rfl, if_pos hs]
      rw [hz]
      have d1 : decide (s2 < s1) = true := by simp; omega
      go_enter Tryz.func106, Tryz.ntmps106
      go_wp2_with (first | (go_at_call 35; (with_reducible refine (C1.out _).mono ?_); rintro e W1 ⟨rfl, hb1⟩; have x1 := x0.below hb1; have y1 := y0.below hb1; have a10 := x1.c0; have b10 := y1.c0) | (go_at_call 35; (with_reducible refine (C2.out _).mono ?_); rintro e W2 ⟨rfl, hb2⟩; have x2 := x1.below hb2; have y2 := y1.below hb2; have a21 := x2.c1; have b21 := y2.c1) | fail)
      go_ret
      have k1 := hB.trans (hb1.mono hB.size)
      exact ⟨rfl, k1.trans (hb2.mono k1.size)⟩
  · go_enter Tryz.func106, Tryz.ntmps106
    go_wp2_with (first | (go_at_call 35; (with_reducible refine (C1.out _).mono ?_); rintro e W1 ⟨rfl, hb1⟩; have x1 := x0.below hb1; have y1 := y0.below hb1; have a10 := x1.c0; have b10 := y1.c0) | (go_at_call 35; (with_reducible refine (C2.out _).mono ?_); rintro e W2 ⟨rfl, hb2⟩) | fail)
    go_ret
    have k1 := hB.trans (hb1.mono hB.size)
    exact ⟨rfl, k1.trans (hb2.mono k1.size)⟩
end Go.Proofs.YthaalhigmihijabGreat
