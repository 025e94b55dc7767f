/- slices.breakPatternsOrdered at uint64, of fewer than 50 numbers. -/
import Derived.Test.YthaalhigmihijaaP8
import Derived.Lib.Tables
namespace Go.Proofs.Ythaalhigmihijaa
open Go.RowKit

set_option maxRecDepth 10000 in
theorem tab_size : Lib.len8tab.size = 256 := by decide
set_option maxRecDepth 10000 in
theorem tab_small : ∀ x : Fin 64, 8 ≤ x.val → ((Lib.len8tab[x.val]?).getD 0).toNat < 10 ∧ 2 ^ ((Lib.len8tab[x.val]?).getD 0).toNat ≤ 2 * x.val := by decide
theorem tab_get (x : Nat) (h : x < Lib.len8tab.size) (hx : 8 ≤ x) (hx2 : x < 64) : (Lib.len8tab[x]'h).toNat < 10 ∧ 2 ^ (Lib.len8tab[x]'h).toNat ≤ 2 * x := by
  have := tab_small ⟨x, hx2⟩ hx
  simpa only [getElem?_pos Lib.len8tab x h, Option.getD_some] using this
set_option maxHeartbeats 4000000 in
set_option maxRecDepth 100000 in
theorem len64_any (x : Nat) (hx : 8 ≤ x) (hx2 : x < 64) (w : World) :
    Calls Try.prog 76 #[.int .u64 (x : Int)] w fun e w' => ∃ k : Nat, e = .returned (.int .i64 (k : Int)) ∧ k < 10 ∧ 2 ^ k ≤ 2 * x ∧ w' = w := by
  have d1 : decide (4294967296 ≤ (x : Int)) = false := by simp; omega
  have d2 : decide (65536 ≤ (x : Int)) = false := by simp; omega
  have d3 : decide (256 ≤ (x : Int)) = false := by simp; omega
  have w1 : IntKind.u8.wrap (x : Int) = (x : Int) := by rw [IntKind.wrap_u8]; omega
  have ht : x < Lib.len8tab.size := by rw [tab_size]; omega
  have w2 : IntKind.i64.wrap (((Lib.len8tab[x]'ht).toNat : Nat) : Int) = (((Lib.len8tab[x]'ht).toNat : Nat) : Int) := by have := tab_get x ht hx hx2; rw [IntKind.wrap_i64]; omega
  go_enter Try.func76, Try.ntmps76
  go_wp2
  all_goals first | (exact absurd ht ‹_›) | skip
  go_ret
  have := tab_get x ht hx hx2
  exact ⟨_, rfl, this.1, this.2, rfl⟩
set_option maxHeartbeats 4000000 in
set_option maxRecDepth 100000 in
theorem blen_any (x : Nat) (hx : 8 ≤ x) (hx2 : x < 64) (w : World) :
    Calls Try.prog 64 #[.int .u64 (x : Int)] w fun e w' => ∃ k : Nat, e = .returned (.int .i64 (k : Int)) ∧ k < 10 ∧ 2 ^ k ≤ 2 * x ∧ w' = w := by
  have C := Lib.hid (len64_any x hx hx2 w)
  have w1 : IntKind.u64.wrap (x : Int) = (x : Int) := by rw [IntKind.wrap_u64]; omega
  go_enter Try.func64, Try.ntmps64
  go_wp2_with (fail)
  go_at_call 76
  refine C.out.mono ?_
  rintro e W ⟨k, rfl, h1, h2, rfl⟩
  go_wp2
  go_ret
  exact ⟨k, rfl, h1, h2, rfl⟩
set_option maxHeartbeats 4000000 in
set_option maxRecDepth 100000 in
theorem npow_any (x : Nat) (hx : 8 ≤ x) (hx2 : x < 64) (w : World) :
    Calls Try.prog 78 #[.int .i64 (x : Int)] w fun e w' => ∃ r : Nat, e = .returned (.int .u64 (r : Int)) ∧ 1 ≤ r ∧ r ≤ 2 * x ∧ w' = w := by
  have C := Lib.hid (blen_any x hx hx2 w)
  have w1 : IntKind.u64.wrap (x : Int) = (x : Int) := by rw [IntKind.wrap_u64]; omega
  go_enter Try.func78, Try.ntmps78
  go_wp2_with (fail)
  go_at_call 64
  refine C.out.mono ?_
  rintro e W ⟨k, rfl, h1, h2, rfl⟩
  have w2 : IntKind.u64.wrap (2 ^ k : Int) = ((2 ^ k : Nat) : Int) := by
    have : (2 ^ k : Int) = ((2 ^ k : Nat) : Int) := by simp
    have h3 : 2 ^ k < 1000 := by omega
    rw [this, IntKind.wrap_u64]; generalize 2 ^ k = y at *; omega
  go_wp2
  go_ret
  exact ⟨2 ^ k, rfl, Nat.one_le_two_pow, h2, rfl⟩
/-- A place of the random order, in a box. -/
def Rnd (w : World) (s : Nat) (z : Int) : Prop := w.heap[s]? = some (.cells #[.int .u64 z] 112)
theorem Rnd.cell {w : World} {s : Nat} {z : Int} (h : Rnd w s z) : w.cell? ⟨s, 0, none⟩ = some (.int .u64 z) := by unfold World.cell?; rw [show w.heap[s]? = _ from h]; rfl
theorem Rnd.warm {w : World} {s : Nat} {z : Int} (h : Rnd w s z) : w.frozen? ⟨s, 0, none⟩ = false := by unfold World.frozen?; rw [show w.heap[s]? = _ from h]; simp
theorem Rnd.set {w : World} {s : Nat} {z : Int} (h : Rnd w s z) (y : Int) : Rnd (w.setCell ⟨s, 0, none⟩ (.int .u64 y)) s y := heap_setCell_same w s 0 #[.int .u64 z] 112 _ h
theorem and_small (x : Int) (m : Nat) (hm : m < 1000) : ∃ n : Nat, bits .and .u64 x (m : Int) = (n : Int) ∧ n ≤ m := by
  refine ⟨(BitVec.ofInt 64 x).toNat &&& m, ?_, Nat.and_le_right⟩
  have e : IntKind.u64.bits = 64 := rfl
  have h1 : (BitVec.ofInt 64 x).toNat &&& m ≤ m := Nat.and_le_right
  unfold bits
  simp only [BitVec.toNat_and, BitVec.ofInt_natCast, BitVec.toNat_ofNat]
  rw [show m % 2 ^ IntKind.u64.bits = m from Nat.mod_eq_of_lt (by rw [e]; omega)]
  show IntKind.u64.wrap (((BitVec.ofInt 64 x).toNat &&& m : Nat) : Int) = _
  generalize (BitVec.ofInt 64 x).toNat &&& m = y at *
  rw [IntKind.wrap_u64]; omega
set_option maxHeartbeats 4000000 in
set_option maxRecDepth 100000 in
theorem next_any (s : Nat) (z : Int) (w : World) (h : Rnd w s z) :
    Calls Try.prog 79 #[.pointer (some ⟨s, 0, none⟩)] w fun e w' => ∃ y : Int, e = .returned (.int .u64 y) ∧ Rnd w' s y ∧ w.grownBy w' (some s) := by
  have c := h.cell
  have f := h.warm
  go_enter Try.func79, Try.ntmps79
  go_wp2
  go_region_with (fail)
  all_goals (
    have h1 : Rnd (w.setCell ⟨s, 0, none⟩ (.int .u64 (bits BinOp.xor IntKind.u64 z (IntKind.u64.wrap (z * 8192))))).drew s _ := h.set (bits BinOp.xor IntKind.u64 z (IntKind.u64.wrap (z * 8192)))
    have g1 := (grown_at (i := 0) (World.grownBy.refl w (some s)) (Value.int .u64 (bits BinOp.xor IntKind.u64 z (IntKind.u64.wrap (z * 8192))))).drewN1 1
    rw [show ∀ W : World, W.drewN 1 = W.drew from fun _ => rfl] at g1
    generalize bits BinOp.xor IntKind.u64 z (IntKind.u64.wrap (z * 8192)) = z1 at *
    generalize (w.setCell ⟨s, 0, none⟩ (.int .u64 z1)).drew = W1 at *
    have c1 := h1.cell
    have f1 := h1.warm
    clear c f
    go_wp2
    go_region_with (fail))
  all_goals (
    have h2 : Rnd (W1.setCell ⟨s, 0, none⟩ (.int .u64 (bits BinOp.xor IntKind.u64 z1 (z1 / 128)))).drew s _ := h1.set (bits BinOp.xor IntKind.u64 z1 (z1 / 128))
    have g2 := (grown_at (i := 0) g1 (Value.int .u64 (bits BinOp.xor IntKind.u64 z1 (z1 / 128)))).drewN1 1
    rw [show ∀ W : World, W.drewN 1 = W.drew from fun _ => rfl] at g2
    generalize bits BinOp.xor IntKind.u64 z1 (z1 / 128) = z2 at *
    generalize (W1.setCell ⟨s, 0, none⟩ (.int .u64 z2)).drew = W2 at *
    have c2 := h2.cell
    have f2 := h2.warm
    clear c1 f1 g1 h1
    go_wp2
    go_region_with (fail))
  all_goals (
    have h3 : Rnd (W2.setCell ⟨s, 0, none⟩ (.int .u64 (bits BinOp.xor IntKind.u64 z2 (IntKind.u64.wrap (z2 * 131072))))).drew s _ := h2.set (bits BinOp.xor IntKind.u64 z2 (IntKind.u64.wrap (z2 * 131072)))
    have g3 := (grown_at (i := 0) g2 (Value.int .u64 (bits BinOp.xor IntKind.u64 z2 (IntKind.u64.wrap (z2 * 131072))))).drewN1 1
    rw [show ∀ W : World, W.drewN 1 = W.drew from fun _ => rfl] at g3
    generalize bits BinOp.xor IntKind.u64 z2 (IntKind.u64.wrap (z2 * 131072)) = z3 at *
    generalize (W2.setCell ⟨s, 0, none⟩ (.int .u64 z3)).drew = W3 at *
    have c3 := h3.cell
    clear c2 f2 g2 h2
    go_wp2
    go_ret
    exact ⟨z3, rfl, h3, g3⟩)
end Go.Proofs.Ythaalhigmihijaa
