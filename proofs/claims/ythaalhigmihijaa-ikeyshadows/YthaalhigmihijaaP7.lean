/- slices.choosePivotOrdered at uint64, of fewer than 50 numbers. -/
import Derived.Test.YthaalhigmihijaaP6
namespace Go.Proofs.Ythaalhigmihijaa
open Go.RowKit

/-- A counter in a box. -/
def Cnt (w : World) (s : Nat) (z : Nat) : Prop := w.heap[s]? = some (.cells #[.int .i64 (z : Int)] 3)
theorem Cnt.cell {w : World} {s z : Nat} (h : Cnt w s z) : w.cell? ⟨s, 0, none⟩ = some (.int .i64 (z : Int)) := by unfold World.cell?; rw [show w.heap[s]? = _ from h]; rfl
theorem Cnt.warm {w : World} {s z : Nat} (h : Cnt w s z) : w.frozen? ⟨s, 0, none⟩ = false := by unfold World.frozen?; rw [show w.heap[s]? = _ from h]; simp
theorem Cnt.set {w : World} {s z : Nat} (h : Cnt w s z) (y : Nat) : Cnt (w.setCell ⟨s, 0, none⟩ (.int .i64 (y : Int))) s y := heap_setCell_same w s 0 #[.int .i64 (z : Int)] 3 _ h
theorem Arr.beside {w w' : World} {g s : Nat} {d : List Int} (h : Arr w g d) (k : w.grownBy w' (some s)) (hne : g ≠ s) : Arr w' g d := by
  have hlt := h.lt
  obtain ⟨cur, h1, h2⟩ := h
  exact ⟨cur, (k.block g hlt (fun e => hne (by cases e; rfl))).trans h1, h2⟩
set_option maxHeartbeats 4000000 in
set_option maxRecDepth 100000 in
theorem order2_any (g n cap i j s z : Nat) (d : List Int) (w : World) (h : Arr w g d) (hn : d.length = n) (hi : i < n) (hj : j < n) (_hN : n ≤ 1000) (hs : Cnt w s z) (hz : z ≤ 1000) :
    Calls Try.prog 82 #[.slice (some ⟨g, 0, none⟩) n cap, .int .i64 (i : Int), .int .i64 (j : Int), .pointer (some ⟨s, 0, none⟩)] w fun e w' => ∃ i' j' z' : Nat, e = .returned (.tuple #[.int .i64 (i' : Int), .int .i64 (j' : Int)]) ∧ ((i' = i ∧ j' = j) ∨ (i' = j ∧ j' = i)) ∧ z' ≤ z + 1 ∧ Cnt w' s z' ∧ w.grownBy w' (some s) := by
  have k1 := h.cell (i := i) (by omega)
  have k2 := h.cell (i := j) (by omega)
  have u1 : (i : Int) < (n : Int) := by omega
  have u2 : (j : Int) < (n : Int) := by omega
  have CL := Lib.hid (fun W => lessU_any (d.getD j 0) (d.getD i 0) W)
  have c := hs.cell
  have f := hs.warm
  have HS := Lib.hid hs
  clear h hs
  generalize d.getD i 0 = X at *
  generalize d.getD j 0 = Y at *
  cases hd : decide (Y < X) with
  | true =>
    rw [hd] at CL
    clear hd
    go_enter Try.func82, Try.ntmps82
    go_wp2
    go_quiet ((go_at_call 65; exact quietU (CL.out _)))
    go_wp2
    refine bodyPost_ret (results_tmp2 rfl _ _ _) rfl ?_
    refine ⟨j, i, z + 1, rfl, .inr ⟨rfl, rfl⟩, Nat.le_refl _, ?_, grown_at ((World.grownBy.refl w _).drewN1 _) _⟩
    have := Cnt.set (w := w.drewN nq) HS.out (z + 1)
    rw [show (((z + 1 : Nat)) : Int) = (z : Int) + 1 by omega] at this
    exact this
  | false =>
    rw [hd] at CL
    clear hd
    go_enter Try.func82, Try.ntmps82
    go_wp2
    go_quiet ((go_at_call 65; exact quietU (CL.out _)))
    go_wp2
    refine bodyPost_ret (results_tmp2 rfl _ _ _) rfl ?_
    exact ⟨i, j, z, rfl, .inl ⟨rfl, rfl⟩, by omega, HS.out, (World.grownBy.refl w _).drewN1 _⟩
set_option maxHeartbeats 4000000 in
set_option maxRecDepth 100000 in
theorem median_any (g n cap i j k s z : Nat) (d : List Int) (w : World) (h : Arr w g d) (hn : d.length = n) (hi : i < n) (hj : j < n) (hk : k < n) (hN : n ≤ 1000) (hs : Cnt w s z) (hz : z ≤ 900) (hne : g ≠ s) :
    Calls Try.prog 81 #[.slice (some ⟨g, 0, none⟩) n cap, .int .i64 (i : Int), .int .i64 (j : Int), .int .i64 (k : Int), .pointer (some ⟨s, 0, none⟩)] w fun e w' => ∃ m z' : Nat, e = .returned (.int .i64 (m : Int)) ∧ (m = i ∨ m = j ∨ m = k) ∧ z' ≤ z + 3 ∧ Cnt w' s z' ∧ w.grownBy w' (some s) := by
  have C := Lib.hid (fun i j z W (hA : Arr W g d) (hc : Cnt W s z) (hi : i < n) (hj : j < n) (hz : z ≤ 1000) => order2_any g n cap i j s z d W hA hn hi hj hN hc hz)
  go_enter Try.func81, Try.ntmps81
  go_wp2_with (fail)
  go_at_call 82
  refine (C.out i j z w h hs hi hj (by omega)).mono ?_
  rintro e W1 ⟨i1, j1, z1, rfl, h1, hz1, c1, g1⟩
  have a1 := h.beside g1 hne
  go_wp2_with (fail)
  go_at_call 82
  refine (C.out j1 k z1 W1 a1 c1 (by omega) hk (by omega)).mono ?_
  rintro e W2 ⟨j2, k2, z2, rfl, h2, hz2, c2, g2⟩
  have a2 := a1.beside g2 hne
  go_wp2_with (fail)
  go_at_call 82
  refine (C.out i1 j2 z2 W2 a2 c2 (by omega) (by omega) (by omega)).mono ?_
  rintro e W3 ⟨i3, j3, z3, rfl, h3, hz3, c3, g3⟩
  go_wp2
  go_ret
  exact ⟨j3, z3, rfl, by omega, by omega, c3, grown_two (grown_two g1 g2) g3⟩
set_option maxHeartbeats 4000000 in
set_option maxRecDepth 100000 in
theorem pivot_any (g n cap a b : Nat) (d : List Int) (w : World) (h : Arr w g d) (hn : d.length = n) (hab : a + 8 ≤ b) (hab2 : b < a + 50) (hb : b ≤ n) (hN : n ≤ 1000) :
    Calls Try.prog 70 #[.slice (some ⟨g, 0, none⟩) n cap, .int .i64 (a : Int), .int .i64 (b : Int)] w fun e w' => ∃ (p : Nat) (k : Int), e = .returned (.tuple #[.int .i64 (p : Int), .int .i64 k]) ∧ a ≤ p ∧ p < b ∧ (k = 0 ∨ k = 1 ∨ k = 2) ∧ Below w.heap.size w w' := by
  obtain ⟨l, hl⟩ : ∃ l, l = b - a := ⟨_, rfl⟩
  obtain ⟨q, hq⟩ : ∃ q, q = l / 4 := ⟨_, rfl⟩
  obtain ⟨i, hi⟩ : ∃ i, i = a + q := ⟨_, rfl⟩
  obtain ⟨j, hj⟩ : ∃ j, j = a + q * 2 := ⟨_, rfl⟩
  obtain ⟨k, hk⟩ : ∃ k, k = a + q * 3 := ⟨_, rfl⟩
  have e1 : (b : Int) - (a : Int) = (l : Int) := by omega
  have e2 : (l : Int).tdiv 4 = (q : Int) := by rw [Int.tdiv_eq_ediv_of_nonneg (by omega)]; omega
  have e3 : (a : Int) + (q : Int) = (i : Int) := by omega
  have e4 : (a : Int) + (q : Int) * 2 = (j : Int) := by omega
  have e5 : (a : Int) + (q : Int) * 3 = (k : Int) := by omega
  have w1 : IntKind.i64.wrap (l : Int) = (l : Int) := by rw [IntKind.wrap_i64]; omega
  have w2 : IntKind.i64.wrap (q : Int) = (q : Int) := by rw [IntKind.wrap_i64]; omega
  have w3 : IntKind.i64.wrap (i : Int) = (i : Int) := by rw [IntKind.wrap_i64]; omega
  have w4 : IntKind.i64.wrap (j : Int) = (j : Int) := by rw [IntKind.wrap_i64]; omega
  have w5 : IntKind.i64.wrap (k : Int) = (k : Int) := by rw [IntKind.wrap_i64]; omega
  have w6 : IntKind.i64.wrap ((q : Int) * 2) = (q : Int) * 2 := by rw [IntKind.wrap_i64]; omega
  have w7 : IntKind.i64.wrap ((q : Int) * 3) = (q : Int) * 3 := by rw [IntKind.wrap_i64]; omega
  have d1 : decide (8 ≤ (l : Int)) = true := by simp; omega
  have d2 : decide (50 ≤ (l : Int)) = false := by simp; omega
  have d3 : decide (8 ≤ l) = true := by simp; omega
  have d4 : decide (50 ≤ l) = false := by simp; omega
  have hlt := h.lt
  have b1 : ∀ o, Below w.heap.size w (w.alloc o) := fun o => (Below.refl _ _).alloc (Nat.le_refl _) _
  have C := Lib.hid (median_any g n cap i j k w.heap.size 0 d (w.alloc (.cells #[.int .i64 0] 3)) (by
    obtain ⟨cur, h1, h2⟩ := h
    exact ⟨cur, (Below.heap_alloc w _ g hlt).trans h1, h2⟩) hn (by omega) (by omega) (by omega) hN (new_block w _ rfl) (by omega) (by omega))
  have HP := Lib.hid (show a ≤ i ∧ i < b ∧ a ≤ j ∧ j < b ∧ a ≤ k ∧ k < b by omega)
  have HB := Lib.hid b1
  clear hl hq hi hj hk b1 h
  go_enter Try.func70, Try.ntmps70
  go_wp2_with (fail)
  go_at_call 81
  refine C.out.mono ?_
  rintro e W1 ⟨m, z', rfl, hm, hz, c1, g1⟩
  have cc := c1.cell
  have HM := Lib.hid (show a ≤ m ∧ m < b by have := HP.out; omega)
  have bb : Below w.heap.size w W1 := (HB.out _).trans ((turn_of_grown (F := [w.heap.size]) g1 (fun x hx => by cases hx; exact .inl (by simp))).below (by simp) (fun x hx => by simp at hx; omega))
  clear hm
  cases t0 : ((z' : Int) == 0) with
  | true =>
    go_wp2
    refine bodyPost_ret (results_tmp2 rfl _ _ _) rfl ?_
    exact ⟨m, 1, rfl, HM.out.1, HM.out.2, by omega, bb⟩
  | false =>
    cases t1 : ((z' : Int) == 12) with
    | true =>
      go_wp2
      refine bodyPost_ret (results_tmp2 rfl _ _ _) rfl ?_
      exact ⟨m, 2, rfl, HM.out.1, HM.out.2, by omega, bb⟩
    | false =>
      go_wp2
      refine bodyPost_ret (results_tmp2 rfl _ _ _) rfl ?_
      exact ⟨m, 0, rfl, HM.out.1, HM.out.2, by omega, bb⟩
end Go.Proofs.Ythaalhigmihijaa
