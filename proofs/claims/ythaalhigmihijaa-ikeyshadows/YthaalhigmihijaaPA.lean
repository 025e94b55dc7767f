/- slices.breakPatternsOrdered at uint64, of fewer than 50 numbers. -/
import Derived.Test.YthaalhigmihijaaP9
namespace Go.Proofs.Ythaalhigmihijaa
open Go.RowKit

theorem grown_new {w w1 w2 : World} {r : Option Nat} {s : Nat} (h : w.grownBy w1 r) (k : w1.grownBy w2 (some s)) (hs : w.heap.size ≤ s) : w.grownBy w2 r :=
  ⟨k.os.trans h.os, k.tape.trans h.tape, k.output.trans h.output, Nat.le_trans h.size k.size, fun x hx hr => (k.block x (Nat.lt_of_lt_of_le hx h.size) (fun e => by cases e; omega)).trans (h.block x hx hr)⟩
theorem Rnd.lt {w : World} {s : Nat} {z : Int} (h : Rnd w s z) : s < w.heap.size := (Array.getElem?_eq_some_iff.mp h).1
theorem Rnd.beside {w w' : World} {g s : Nat} {z : Int} (h : Rnd w s z) (k : w.grownBy w' (some g)) (hne : s ≠ g) : Rnd w' s z := (k.block s h.lt (fun e => hne (by cases e; rfl))).trans h
set_option maxHeartbeats 4000000 in
set_option maxRecDepth 100000 in
theorem break_any (g n cap a b : Nat) (d : List Int) (w : World) (h : Arr w g d) (hn : d.length = n) (hab : a + 8 ≤ b) (hab2 : b < a + 50) (hb : b ≤ n) (hN : n ≤ 1000) :
    Calls Try.prog 69 #[.slice (some ⟨g, 0, none⟩) n cap, .int .i64 (a : Int), .int .i64 (b : Int)] w fun e w' => e = .returned (.tuple #[]) ∧ ∃ d', Sw a b d d' ∧ Arr w' g d' ∧ w.grownBy w' (some g) := by
  obtain ⟨l, hl⟩ : ∃ l, l = b - a := ⟨_, rfl⟩
  obtain ⟨q, hq⟩ : ∃ q, q = l / 4 := ⟨_, rfl⟩
  obtain ⟨j, hj⟩ : ∃ j, j = a + q * 2 := ⟨_, rfl⟩
  obtain ⟨i0, hi0⟩ : ∃ i0, i0 = j - 1 := ⟨_, rfl⟩
  have e1 : (b : Int) - (a : Int) = (l : Int) := by omega
  have e2 : (l : Int).tdiv 4 = (q : Int) := by rw [Int.tdiv_eq_ediv_of_nonneg (by omega)]; omega
  have e4 : (a : Int) + (q : Int) * 2 = (j : Int) := by omega
  have e5 : (j : Int) - 1 = (i0 : Int) := by omega
  have w1 : IntKind.i64.wrap (l : Int) = (l : Int) := by rw [IntKind.wrap_i64]; omega
  have w1' : IntKind.u64.wrap (l : Int) = (l : Int) := by rw [IntKind.wrap_u64]; omega
  have w2 : IntKind.i64.wrap (q : Int) = (q : Int) := by rw [IntKind.wrap_i64]; omega
  have w3 : IntKind.i64.wrap (i0 : Int) = (i0 : Int) := by rw [IntKind.wrap_i64]; omega
  have w4 : IntKind.i64.wrap (j : Int) = (j : Int) := by rw [IntKind.wrap_i64]; omega
  have w6 : IntKind.i64.wrap ((q : Int) * 2) = (q : Int) * 2 := by rw [IntKind.wrap_i64]; omega
  have d1 : decide (8 ≤ (l : Int)) = true := by simp; omega
  have d3 : decide (8 ≤ l) = true := by simp; omega
  have hlt := h.lt
  have CN := Lib.hid (fun W => npow_any l (by omega) (by omega) W)
  have CX := Lib.hid next_any
  have HP := Lib.hid (show l = b - a ∧ q = l / 4 ∧ j = a + q * 2 ∧ i0 = j - 1 from ⟨hl, hq, hj, hi0⟩)
  clear hl hq hj hi0
  go_enter Try.func69, Try.ntmps69
  go_wp2_with (fail)
  go_at_call 78
  refine (CN.out _).mono ?_
  rintro e W ⟨r, rfl, hr1, hr2, rfl⟩
  go_wp2_with (fail)
  have HA0 : Arr (w.alloc (.cells #[.int .u64 (l : Int)] 112)) g d := by
    obtain ⟨cur, h1, h2⟩ := h
    exact ⟨cur, (Below.heap_alloc w _ g hlt).trans h1, h2⟩
  have HR0 : Rnd (w.alloc (.cells #[.int .u64 (l : Int)] 112)) w.heap.size (l : Int) := new_block w _ rfl
  have HG0 : w.grownBy (w.alloc (.cells #[.int .u64 (l : Int)] 112)) (some g) := by
    have b1 : Below w.heap.size w (w.alloc (.cells #[.int .u64 (l : Int)] 112)) := (Below.refl _ _).alloc (Nat.le_refl _) _
    exact ⟨b1.os, b1.tape, b1.output, b1.size, fun k hk _ => b1.block k hk⟩
  have hsg : w.heap.size ≠ g := by omega
  generalize hS : w.heap.size = s at *
  have HS := Lib.hid hS
  have HH := Lib.hid (And.intro HA0 (And.intro HR0 HG0))
  clear HA0 HR0 HG0 hS h
  generalize w.alloc (.cells #[.int .u64 (l : Int)] 112) = W0 at *
  go_loopw [9, 10] (fun iv _ wr => ∃ (i : Nat) (e : List Int) (z : Int), iv = .int .i64 (i : Int) ∧ i0 ≤ i ∧ i ≤ i0 + 3 ∧ Sw a b d e ∧ Arr wr g e ∧ Rnd wr s z ∧ w.grownBy wr (some g)) (fun iv _ _ => i0 + 3 - (intOf iv).toNat)
  case atStart => exact ⟨i0, d, l, rfl, Nat.le_refl _, by omega, .refl, HH.out.1, HH.out.2.1, HH.out.2.2⟩
  case round =>
    obtain ⟨i, e, z, rfl, hi, hi3, hsw, har, hrn, hgr⟩ := hrel
    have hel := hsw.length
    have hP := HP.out
    obtain ⟨t, ht⟩ : ∃ t, t = j + 1 := ⟨_, rfl⟩
    have e6 : (j : Int) + 1 = (t : Int) := by omega
    have w7 : IntKind.i64.wrap (t : Int) = (t : Int) := by rw [IntKind.wrap_i64]; omega
    by_cases hij : i ≤ t
    · have s1 : (i : Int) ≤ (t : Int) := by omega
      have hib : i < b := by omega
      have hia : a ≤ i := by omega
      have HI := Lib.hid (show i < i0 + 3 by omega)
      clear hP ht hij
      go_wp2_with (fail)
      go_at_call 79
      refine (CX.out s z wr hrn).mono ?_
      rintro e' W1 ⟨y, rfl, hr', hg'⟩
      have har1 := har.beside hg' (Ne.symm hsg)
      have hgr1 : w.grownBy W1 (some g) := grown_new hgr hg' (by rw [HS.out]; exact Nat.le_refl _)
      clear har hrn hgr hg'
      obtain ⟨r1, hr1'⟩ : ∃ r1, r = r1 + 1 := ⟨r - 1, by omega⟩
      have e8 : (r : Int) - 1 = (r1 : Int) := by omega
      have w8 : IntKind.u64.wrap (r1 : Int) = (r1 : Int) := by rw [IntKind.wrap_u64]; omega
      obtain ⟨o, e9, ho⟩ := and_small y r1 (by omega)
      have w9 : IntKind.i64.wrap (o : Int) = (o : Int) := by rw [IntKind.wrap_i64]; omega
      have hol : o < 2 * l := by omega
      have hlb : a + l = b := by have := HP.out; omega
      clear hr1' ho
      by_cases hlo : l ≤ o
      · obtain ⟨o1, ho1⟩ : ∃ o1, o1 = o - l := ⟨_, rfl⟩
        obtain ⟨k, hk⟩ : ∃ k, k = a + o1 := ⟨_, rfl⟩
        have dl : decide ((l : Int) ≤ (o : Int)) = true := by simp; omega
        have dl' : decide (l ≤ o) = true := by simp; omega
        have ea : (o : Int) - (l : Int) = (o1 : Int) := by omega
        have wa : IntKind.i64.wrap (o1 : Int) = (o1 : Int) := by rw [IntKind.wrap_i64]; omega
        have eb : (a : Int) + (o1 : Int) = (k : Int) := by omega
        have wb : IntKind.i64.wrap (k : Int) = (k : Int) := by rw [IntKind.wrap_i64]; omega
        have hkb : a ≤ k ∧ k < b := by omega
        clear ho1 hk
        have k1 := har1.cell (i := i) (by omega)
        have k2 := har1.cell (i := k) (by omega)
        have f1 := har1.warm i
        have f2 := har1.warm k
        have u1 : (i : Int) < (n : Int) := by omega
        have u2 : (k : Int) < (n : Int) := by omega
        have HSS := Lib.hid (show Sw a b d (swp e i k) from .step hsw hia hib (by omega) (by omega))
        have HAD := Lib.hid (show Arr ((W1.drew.setCell ⟨g, i, none⟩ (.int .u64 (e.getD k 0))).setCell ⟨g, k, none⟩ (.int .u64 (e.getD i 0))) g (swp e i k) from Arr.swap (w := W1.drew) har1 (by omega) (by omega))
        have HGR := Lib.hid hgr1
        have HRN := Lib.hid (show ∀ v v', Rnd ((W1.drew.setCell ⟨g, i, none⟩ v).setCell ⟨g, k, none⟩ v') s y from fun v v' => Rnd.beside (w := W1.drew) hr' (grown_at (grown_at (World.grownBy.refl W1.drew (some g)) v) v') hsg)
        clear hsw har1 hgr1 hr' HH HP HS
        by_cases hik : i = k
        · subst hik
          generalize e.getD i 0 = X at *
          go_wp2
          go_region_with (fail)
          all_goals go_wp2
          all_goals go_roundw
          all_goals first
            | exact ⟨i + 1, swp e i i, y, by go_num, by omega, by have := HI.out; omega, HSS.out, HAD.out, HRN.out _ _, grown_at (grown_at (HGR.out.drewN1 1) _) _⟩
            | (have := HI.out; simp [intOf]; omega)
        · have n2 : ¬ k = i := fun q => hik q.symm
          generalize e.getD i 0 = X at *
          generalize e.getD k 0 = Y at *
          go_wp2
          go_region_with (fail)
          all_goals go_wp2
          all_goals go_roundw
          all_goals first
            | exact ⟨i + 1, swp e i k, y, by go_num, by omega, by have := HI.out; omega, HSS.out, HAD.out, HRN.out _ _, grown_at (grown_at (HGR.out.drewN1 1) _) _⟩
            | (have := HI.out; simp [intOf]; omega)
      · obtain ⟨k, hk⟩ : ∃ k, k = a + o := ⟨_, rfl⟩
        have dl : decide ((l : Int) ≤ (o : Int)) = false := by simp; omega
        have dl' : decide (l ≤ o) = false := by simp; omega
        have eb : (a : Int) + (o : Int) = (k : Int) := by omega
        have wb : IntKind.i64.wrap (k : Int) = (k : Int) := by rw [IntKind.wrap_i64]; omega
        have hkb : a ≤ k ∧ k < b := by omega
        clear hk
        have k1 := har1.cell (i := i) (by omega)
        have k2 := har1.cell (i := k) (by omega)
        have f1 := har1.warm i
        have f2 := har1.warm k
        have u1 : (i : Int) < (n : Int) := by omega
        have u2 : (k : Int) < (n : Int) := by omega
        have HSS := Lib.hid (show Sw a b d (swp e i k) from .step hsw hia hib (by omega) (by omega))
        have HAD := Lib.hid (show Arr ((W1.drew.setCell ⟨g, i, none⟩ (.int .u64 (e.getD k 0))).setCell ⟨g, k, none⟩ (.int .u64 (e.getD i 0))) g (swp e i k) from Arr.swap (w := W1.drew) har1 (by omega) (by omega))
        have HGR := Lib.hid hgr1
        have HRN := Lib.hid (show ∀ v v', Rnd ((W1.drew.setCell ⟨g, i, none⟩ v).setCell ⟨g, k, none⟩ v') s y from fun v v' => Rnd.beside (w := W1.drew) hr' (grown_at (grown_at (World.grownBy.refl W1.drew (some g)) v) v') hsg)
        clear hsw har1 hgr1 hr' HH HP HS
        by_cases hik : i = k
        · subst hik
          generalize e.getD i 0 = X at *
          go_wp2
          go_region_with (fail)
          all_goals go_wp2
          all_goals go_roundw
          all_goals first
            | exact ⟨i + 1, swp e i i, y, by go_num, by omega, by have := HI.out; omega, HSS.out, HAD.out, HRN.out _ _, grown_at (grown_at (HGR.out.drewN1 1) _) _⟩
            | (have := HI.out; simp [intOf]; omega)
        · have n2 : ¬ k = i := fun q => hik q.symm
          generalize e.getD i 0 = X at *
          generalize e.getD k 0 = Y at *
          go_wp2
          go_region_with (fail)
          all_goals go_wp2
          all_goals go_roundw
          all_goals first
            | exact ⟨i + 1, swp e i k, y, by go_num, by omega, by have := HI.out; omega, HSS.out, HAD.out, HRN.out _ _, grown_at (grown_at (HGR.out.drewN1 1) _) _⟩
            | (have := HI.out; simp [intOf]; omega)
    · have d1 : decide ((i : Int) ≤ (t : Int)) = false := by simp; omega
      clear hP ht
      go_wp2
      go_end0
      exact ⟨rfl, e, hsw, har, hgr⟩
end Go.Proofs.Ythaalhigmihijaa
