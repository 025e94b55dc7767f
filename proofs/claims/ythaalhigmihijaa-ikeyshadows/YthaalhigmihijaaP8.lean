/- slices.partialInsertionSortOrdered at uint64, of fewer than 50 numbers: it looks, and changes nothing. -/
import Derived.Test.YthaalhigmihijaaP7
namespace Go.Proofs.Ythaalhigmihijaa
open Go.RowKit

theorem belN {B : Nat} {a b : World} (h : Below B a b) (n : Nat) : Below B a (b.drewN n) := ⟨h.os, h.tape, h.output, h.size, h.block⟩
set_option maxHeartbeats 4000000 in
set_option maxRecDepth 100000 in
theorem part_any (g n cap a b : Nat) (d : List Int) (w : World) (h : Arr w g d) (hn : d.length = n) (hab : a < b) (hab2 : b < a + 50) (hb : b ≤ n) (hN : n ≤ 1000) :
    Calls Try.prog 72 #[.slice (some ⟨g, 0, none⟩) n cap, .int .i64 (a : Int), .int .i64 (b : Int)] w fun e w' => ∃ t : Bool, e = .returned (.bool t) ∧ (t = true → Srt d a b) ∧ Below w.heap.size w w' := by
  have HH := Lib.hid h
  obtain ⟨l, hl⟩ : ∃ l, l = b - a := ⟨_, rfl⟩
  have e1 : (b : Int) - (a : Int) = (l : Int) := by omega
  have w1 : IntKind.i64.wrap (l : Int) = (l : Int) := by rw [IntKind.wrap_i64]; omega
  have d1 : decide ((l : Int) < 50) = true := by simp; omega
  have d2 : decide (l < 50) = true := by simp; omega
  clear hl h
  go_enter Try.func72, Try.ntmps72
  go_wp2
  refine wp_loop_rounds 1 ?_
  rw [rounds_succ]
  go_wp2
  go_loopw [7] (fun iv wr => ∃ i : Nat, iv = .int .i64 (i : Int) ∧ a + 1 ≤ i ∧ i ≤ b ∧ Srt d a i ∧ Arr wr g d ∧ Below w.heap.size w wr) (fun iv _ => b - (intOf iv).toNat)
  case atStart => exact ⟨a + 1, by simp, Nat.le_refl _, by omega, fun x h1 h2 => by omega, HH.out, Below.refl _ _⟩
  case round =>
    obtain ⟨i, rfl, hi1, hi2, hsr, har, hbl⟩ := hrel
    have HAR := Lib.hid har
    have HBL := Lib.hid hbl
    clear har hbl
    have HSR := Lib.hid hsr
    clear hsr
    by_cases hib : i < b
    · obtain ⟨k, hk⟩ : ∃ k, i = k + 1 := ⟨i - 1, by omega⟩
      have e2 : (i : Int) - 1 = (k : Int) := by omega
      have w2 : IntKind.i64.wrap (k : Int) = (k : Int) := by rw [IntKind.wrap_i64]; omega
      have k1 := HAR.out.cell (i := i) (by omega)
      have k2 := HAR.out.cell (i := k) (by omega)
      have u1 : (i : Int) < (n : Int) := by omega
      have u2 : (k : Int) < (n : Int) := by omega
      have g1 : decide ((i : Int) < (b : Int)) = true := by simp; omega
      have g2 : decide (i < b) = true := by simp; omega
      have n1 : ((i : Int) == (b : Int)) = false := by simp; omega
      have n2 : (i == b) = false := by simp; omega
      have CL := Lib.hid (fun W => lessU_any (d.getD i 0) (d.getD k 0) W)
      have HK := Lib.hid hk
      clear hk
      cases hd : decide (d.getD i 0 < d.getD k 0) with
      | true =>
        rw [hd] at CL
        clear hd
        generalize d.getD i 0 = X at *
        generalize d.getD k 0 = Y at *
        go_wp2
        go_quiet ((go_at_call 65; exact quietU (CL.out _)))
        go_wp2
        go_ret
        exact ⟨false, rfl, fun h => (by cases h), belN HBL.out _⟩
      | false =>
        have HN := Lib.hid (show Srt d a (i + 1) from fun x h1 h2 => by
          by_cases hx : x + 1 < i
          · exact HSR.out x h1 hx
          · have hle := of_decide_eq_false hd
            have hkk := HK.out
            obtain rfl : x = k := by omega
            rw [show x + 1 = i by omega]
            omega)
        rw [hd] at CL
        clear hd
        generalize d.getD i 0 = X at *
        generalize d.getD k 0 = Y at *
        go_wp2
        go_quiet ((go_at_call 65; exact quietU (CL.out _)))
        go_wp2
        go_roundw
        case rel => exact ⟨i + 1, by go_num, by omega, by omega, HN.out, HAR.out.drewN _, belN HBL.out _⟩
        case measure => simp [intOf]; omega
    · obtain rfl : i = b := by omega
      go_wp2
      go_quiet (fail)
      go_wp2
      go_ret
      exact ⟨true, rfl, fun _ => HSR.out, belN HBL.out _⟩
end Go.Proofs.Ythaalhigmihijaa
