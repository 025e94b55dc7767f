/- slices.heapSortOrdered at uint64. -/
import Derived.Test.YthaalhigmihijaaP4
namespace Go.Proofs.Ythaalhigmihijaa
open Go.RowKit

theorem heap_none (e : List Int) (f hi : Nat) : Heap e f ((hi - 1) / 2 + 1) hi := by
  intro x c h1 h2 h3
  unfold Kid at h2
  omega
theorem heap_top {e : List Int} {f m : Nat} (h : Heap e f 0 m) : ∀ x, x < m → e.getD (f + x) 0 ≤ e.getD f 0 := by
  intro x
  induction x using Nat.strongRecOn with
  | ind x ih =>
    intro hx
    by_cases h0 : x = 0
    · subst h0; exact Int.le_refl _
    · have h1 := h ((x - 1) / 2) x (Nat.zero_le _) (by unfold Kid; omega) hx
      have h2 := ih ((x - 1) / 2) (by omega) (by omega)
      omega
/-- What is behind i stands in order, and nothing ahead of it is greater. -/
def Done (e : List Int) (f i hi : Nat) : Prop := Srt e (f + i) (f + hi) ∧ ∀ x y, x < i → i ≤ y → y < hi → e.getD (f + x) 0 ≤ e.getD (f + y) 0
theorem done_start (e : List Int) (f hi : Nat) : Done e f hi hi := ⟨fun x h1 h2 => by omega, fun x y h1 h2 h3 => by omega⟩
theorem done_swap {e : List Int} {f i hi : Nat} (hd : Done e f (i + 1) hi) (hh : Heap e f 0 (i + 1)) (hi1 : i + 1 ≤ hi) (hl : f + hi ≤ e.length) : Done (swp e f (f + i)) f i hi ∧ Heap (swp e f (f + i)) f 1 i := by
  have top := heap_top hh
  have g : ∀ y, y < hi → (swp e f (f + i)).getD (f + y) 0 = if y = i then e.getD f 0 else if y = 0 then e.getD (f + i) 0 else e.getD (f + y) 0 := by
    intro y _
    rw [swp_get _ _ _ _ (by omega) (by omega)]
    by_cases h1 : y = i
    · rw [if_pos (by omega), if_pos h1]
    · rw [if_neg (by omega), if_neg h1]
      by_cases h2 : y = 0
      · rw [if_pos (by omega), if_pos h2]
      · rw [if_neg (by omega), if_neg h2]
  refine ⟨⟨?_, ?_⟩, ?_⟩
  · intro x h1 h2
    obtain ⟨y, rfl⟩ : ∃ y, x = f + y := ⟨x - f, by omega⟩
    rw [Nat.add_assoc, g y (by omega), g (y + 1) (by omega), if_neg (show ¬ y + 1 = i by omega), if_neg (show ¬ y + 1 = 0 by omega)]
    by_cases hy : y = i
    · rw [if_pos hy]
      have := hd.2 0 (y + 1) (by omega) (by omega) (by omega)
      rw [Nat.add_zero] at this
      exact this
    · rw [if_neg hy, if_neg (by omega)]
      have := hd.1 (f + y) (by omega) (by omega)
      rw [Nat.add_assoc] at this
      exact this
  · intro x y h1 h2 h3
    rw [g x (by omega), g y h3, if_neg (show ¬ x = i by omega)]
    have hy0 : ¬ y = 0 := by omega
    by_cases hy : y = i
    · rw [if_pos hy]
      by_cases hx : x = 0
      · rw [if_pos hx]; exact top i (by omega)
      · rw [if_neg hx]; exact top x (by omega)
    · rw [if_neg hy, if_neg hy0]
      by_cases hx : x = 0
      · rw [if_pos hx]; exact hd.2 i y (by omega) (by omega) h3
      · rw [if_neg hx]; exact hd.2 x y (by omega) (by omega) h3
  · intro x c h1 h2 h3
    have hxc : x < c := by unfold Kid at h2; omega
    rw [g c (by omega), g x (by omega), if_neg (by omega), if_neg (by omega), if_neg (by omega), if_neg (by omega)]
    exact hh x c (by omega) h2 (by omega)
/-- Exchanges ahead of i leave it so. -/
theorem done_keep {e e' : List Int} {f i hi : Nat} (h : Done e f i hi) (hs : Sw f (f + i) e e') (hih : i ≤ hi) (hl : f + hi ≤ e.length) : Done e' f i hi := by
  have ho := hs.out (by omega)
  refine ⟨fun x h1 h2 => ?_, fun x y h1 h2 h3 => ?_⟩
  · rw [ho x (by omega), ho (x + 1) (by omega)]
    exact h.1 x h1 h2
  · rw [ho (f + y) (by omega)]
    have := hs.all (by omega) (p := fun z => z ≤ e.getD (f + y) 0) (fun k k1 k2 => by
      have := h.2 (k - f) y (by omega) h2 h3
      rw [show f + (k - f) = k by omega] at this
      exact this) (f + x) (by omega) (by omega)
    exact this
theorem grown_two {w w1 w2 : World} {r : Option Nat} (h : w.grownBy w1 r) (k : w1.grownBy w2 r) : w.grownBy w2 r :=
  ⟨k.os.trans h.os, k.tape.trans h.tape, k.output.trans h.output, Nat.le_trans h.size k.size, fun i hi hr => (k.block i (Nat.lt_of_lt_of_le hi h.size) hr).trans (h.block i hi hr)⟩
set_option maxHeartbeats 8000000 in
set_option maxRecDepth 100000 in
theorem heapSort_any (g n cap a b : Nat) (d : List Int) (w : World) (h : Arr w g d) (hn : d.length = n) (hab : a < b) (hb : b ≤ n) (hN : n ≤ 1000) :
    Calls Try.prog 68 #[.slice (some ⟨g, 0, none⟩) n cap, .int .i64 (a : Int), .int .i64 (b : Int)] w fun e w' => e = .returned (.tuple #[]) ∧ ∃ d', Sw a b d d' ∧ Srt d' a b ∧ Arr w' g d' ∧ w.grownBy w' (some g) := by
  obtain ⟨hi, hhi⟩ : ∃ hi, hi = b - a := ⟨_, rfl⟩
  obtain ⟨m, hm⟩ : ∃ m, m = (hi - 1) / 2 := ⟨_, rfl⟩
  have e1 : (b : Int) - (a : Int) = (hi : Int) := by omega
  have e2 : ((hi : Int) - 1).tdiv 2 = (m : Int) := by rw [Int.tdiv_eq_ediv_of_nonneg (by omega)]; omega
  have w1 : IntKind.i64.wrap (hi : Int) = (hi : Int) := by rw [IntKind.wrap_i64]; omega
  have w2 : IntKind.i64.wrap ((hi : Int) - 1) = (hi : Int) - 1 := by rw [IntKind.wrap_i64]; omega
  have w3 : IntKind.i64.wrap (m : Int) = (m : Int) := by rw [IntKind.wrap_i64]; omega
  have HD := Lib.hid (show hi = b - a ∧ m = (hi - 1) / 2 from ⟨hhi, hm⟩)
  have HH := Lib.hid h
  have hab2 : a + hi = b := by omega
  clear hhi hm h
  go_enter Try.func68, Try.ntmps68
  go_wp2
  go_loopw [9] (fun iv wr => ∃ (k : Nat) (e : List Int), iv = .int .i64 ((k : Int) - 1) ∧ k ≤ m + 1 ∧ Sw a b d e ∧ Heap e a k hi ∧ Arr wr g e ∧ w.grownBy wr (some g)) (fun iv _ => (intOf iv + 1).toNat)
  case atStart => exact ⟨m + 1, d, by congr 1; omega, Nat.le_refl _, .refl, by rw [HD.out.2]; exact heap_none d a hi, HH.out, World.grownBy.refl _ _⟩
  case round =>
    obtain ⟨k, e, rfl, hk, hsw, hhp, har, hgr⟩ := hrel
    have hel := hsw.length
    by_cases hk0 : k = 0
    · subst hk0
      rw [show ((((0 : Nat) : Int)) - 1) = -1 from rfl]
      have HSW := Lib.hid hsw
      have HHP := Lib.hid hhp
      have HAR := Lib.hid har
      have HGR := Lib.hid hgr
      clear hsw hhp har hgr
      go_wp2
      go_loopw [10] (fun iv wr => ∃ (k : Nat) (e : List Int), iv = .int .i64 ((k : Int) - 1) ∧ k ≤ hi ∧ Sw a b d e ∧ Heap e a 0 k ∧ Done e a k hi ∧ Arr wr g e ∧ w.grownBy wr (some g)) (fun iv _ => (intOf iv + 1).toNat)
      case atStart => exact ⟨hi, e, rfl, Nat.le_refl _, HSW.out, HHP.out, done_start e a hi, HAR.out, HGR.out⟩
      case round =>
        obtain ⟨k, e, rfl, hk, hsw, hhp, hdn, har, hgr⟩ := hrel
        have hel := hsw.length
        by_cases hk0 : k = 0
        · subst hk0
          have HDN := Lib.hid hdn
          clear hdn hhp
          go_wp2
          go_end0
          refine ⟨rfl, e, hsw, ?_, har, hgr⟩
          have := HDN.out.1
          rw [hab2] at this
          exact this
        · obtain ⟨j, rfl⟩ : ∃ j, k = j + 1 := ⟨k - 1, by omega⟩
          rw [show (((j + 1 : Nat) : Int) - 1) = (j : Int) by omega]
          obtain ⟨pj, hpj⟩ : ∃ pj, pj = a + j := ⟨_, rfl⟩
          have s1 : (a : Int) + (j : Int) = (pj : Int) := by omega
          have t1 : IntKind.i64.wrap (pj : Int) = (pj : Int) := by rw [IntKind.wrap_i64]; omega
          have u1 : (pj : Int) < (n : Int) := by omega
          have u2 : (a : Int) < (n : Int) := by omega
          have k1 := har.cell (i := a) (by omega)
          have k2 := har.cell (i := pj) (by omega)
          have f1 := har.warm a
          have f2 := har.warm pj
          have hb1 := done_swap hdn hhp hk (by omega)
          rw [← hpj] at hb1
          have HB := Lib.hid hb1
          have HSS := Lib.hid (show Sw a b d (swp e a pj) from .step hsw (Nat.le_refl _) hab (by omega) (by omega))
          have hl2 : (swp e a pj).length = n := by rw [swp_length]; omega
          have cs := fun W hW => sift_any g n cap 0 j a (swp e a pj) W hW hl2 (Nat.zero_le _) (by omega) hN (by rw [Nat.zero_add]; exact hb1.2)
          rw [show (((0 : Nat) : Int)) = 0 from rfl] at cs
          have CS := Lib.hid cs
          have HAD := Lib.hid (show Arr ((wr.drew.setCell ⟨g, a, none⟩ (.int .u64 (e.getD pj 0))).setCell ⟨g, pj, none⟩ (.int .u64 (e.getD a 0))) g (swp e a pj) from Arr.swap (w := wr.drew) har (by omega) (by omega))
          clear cs
          have HGR2 := Lib.hid hgr
          have HPJ := Lib.hid hpj
          clear hb1 hsw hhp hdn har hgr hpj hl2
          have hwj : wrap64 ((j : Int) - 1) = (j : Int) - 1 := by unfold wrap64; omega
          have hwk : IntKind.i64.wrap ((j : Int) - 1) = (j : Int) - 1 := by rw [IntKind.wrap_i64]; omega
          by_cases hj0 : j = 0
          · have hpa : pj = a := by have := HPJ.out; omega
            subst hpa
            generalize e.getD pj 0 = X at *
            have HJ0 := Lib.hid hj0
            clear hj0 s1
            have s1 : (pj : Int) + (j : Int) = (pj : Int) := by have := HJ0.out; omega
            go_wp2
            go_region_with (fail)
            all_goals go_wp2_with (first | (go_at_call 77; refine (CS.out _ HAD.out).mono ?_; rintro r W1 ⟨rfl, e', h1, h2, h3, h4⟩) | fail)
            all_goals go_roundw
            all_goals first
              | (refine ⟨j, e', ?_, by omega, HSS.out.trans (h1.mono (Nat.le_refl _) (by omega)), h2, done_keep HB.out.1 h1 (by omega) (by rw [swp_length]; omega), h3, ?_⟩
                 · first | rfl | (congr 1; omega)
                 · exact grown_two (show w.grownBy _ _ from grown_at (grown_at (HGR2.out.drewN1 1) _) _) h4)
              | (simp [intOf]; done)
              | (simp [intOf]; omega)
          · have hne1 : ¬ a = pj := by have := HPJ.out; omega
            have hne2 : ¬ pj = a := by have := HPJ.out; omega
            generalize e.getD a 0 = X at *
            generalize e.getD pj 0 = Y at *
            go_wp2
            go_region_with (fail)
            all_goals go_wp2_with (first | (go_at_call 77; refine (CS.out _ HAD.out).mono ?_; rintro r W1 ⟨rfl, e', h1, h2, h3, h4⟩) | fail)
            all_goals go_roundw
            all_goals first
              | (refine ⟨j, e', ?_, by omega, HSS.out.trans (h1.mono (Nat.le_refl _) (by omega)), h2, done_keep HB.out.1 h1 (by omega) (by rw [swp_length]; omega), h3, ?_⟩
                 · first | rfl | (congr 1; omega)
                 · exact grown_two (show w.grownBy _ _ from grown_at (grown_at (HGR2.out.drewN1 1) _) _) h4)
              | (simp [intOf]; done)
              | (simp [intOf]; omega)
    · obtain ⟨j, rfl⟩ : ∃ j, k = j + 1 := ⟨k - 1, by omega⟩
      rw [show (((j + 1 : Nat) : Int) - 1) = (j : Int) by omega]
      have hj9 : j ≤ 1000 := by have := HD.out; omega
      have hwj : wrap64 ((j : Int) - 1) = (j : Int) - 1 := by unfold wrap64; omega
      have hwk : IntKind.i64.wrap ((j : Int) - 1) = (j : Int) - 1 := by rw [IntKind.wrap_i64]; omega
      have CS := Lib.hid (sift_any g n cap j hi a e wr har (by omega) (by have := HD.out; omega) (by omega) hN hhp)
      have HSW := Lib.hid hsw
      have HGR := Lib.hid hgr
      clear hsw hhp har hgr
      go_wp2_with (first | (go_at_call 77; (with_reducible refine CS.out.mono ?_); rintro r W1 ⟨rfl, e', h1, h2, h3, h4⟩) | fail)
      go_roundw
      case rel => exact ⟨j, e', by first | rfl | (congr 1; omega), by omega, HSW.out.trans (by rw [hab2] at h1; exact h1), h2, h3, grown_two HGR.out h4⟩
      case measure => simp [intOf]
end Go.Proofs.Ythaalhigmihijaa
