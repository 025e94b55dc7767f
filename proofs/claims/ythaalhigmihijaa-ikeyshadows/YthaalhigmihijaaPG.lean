/- slices.Sort at uint64 sorts up to 30 numbers. -/
import Derived.Test.YthaalhigmihijaaPF
namespace Go.Proofs.Ythaalhigmihijaa
open Go.RowKit

set_option maxRecDepth 10000 in
theorem tab_all : ∀ x : Fin 64, ((Lib.len8tab[x.val]?).getD 0).toNat < 10 := by decide
theorem tab_get2 (x : Nat) (h : x < Lib.len8tab.size) (hx2 : x < 64) : (Lib.len8tab[x]'h).toNat < 10 := by
  have := tab_all ⟨x, hx2⟩
  simpa only [getElem?_pos Lib.len8tab x h, Option.getD_some] using this
set_option maxHeartbeats 4000000 in
set_option maxRecDepth 100000 in
theorem len64_few (x : Nat) (hx2 : x < 64) (w : World) :
    Calls Try.prog 76 #[.int .u64 (x : Int)] w fun e w' => ∃ k : Nat, e = .returned (.int .i64 (k : Int)) ∧ k < 10 ∧ w' = w := by
  have d1 : decide (4294967296 ≤ (x : Int)) = false := by simp; omega
  have d2 : decide (65536 ≤ (x : Int)) = false := by simp; omega
  have d3 : decide (256 ≤ (x : Int)) = false := by simp; omega
  have w1 : IntKind.u8.wrap (x : Int) = (x : Int) := by rw [IntKind.wrap_u8]; omega
  have ht : x < Lib.len8tab.size := by rw [tab_size]; omega
  have w2 : IntKind.i64.wrap (((Lib.len8tab[x]'ht).toNat : Nat) : Int) = (((Lib.len8tab[x]'ht).toNat : Nat) : Int) := by have := tab_get2 x ht hx2; rw [IntKind.wrap_i64]; omega
  go_enter Try.func76, Try.ntmps76
  go_wp2
  all_goals first | (exact absurd ht ‹_›) | skip
  go_ret
  exact ⟨_, rfl, tab_get2 x ht hx2, rfl⟩
set_option maxHeartbeats 4000000 in
set_option maxRecDepth 100000 in
theorem blen_few (x : Nat) (hx2 : x < 64) (w : World) :
    Calls Try.prog 64 #[.int .u64 (x : Int)] w fun e w' => ∃ k : Nat, e = .returned (.int .i64 (k : Int)) ∧ k < 10 ∧ w' = w := by
  have C := Lib.hid (len64_few x hx2 w)
  have w1 : IntKind.u64.wrap (x : Int) = (x : Int) := by rw [IntKind.wrap_u64]; omega
  go_enter Try.func64, Try.ntmps64
  go_wp2_with (fail)
  go_at_call 76
  refine C.out.mono ?_
  rintro e W ⟨k, rfl, h1, rfl⟩
  go_wp2
  go_ret
  exact ⟨k, rfl, h1, rfl⟩
set_option maxHeartbeats 4000000 in
set_option maxRecDepth 100000 in
theorem sort_few (g n cap : Nat) (d : List Int) (w : World) (h : Arr w g d) (hn : d.length = n) (hN : n < 50) :
    Calls Try.prog 56 #[.slice (some ⟨g, 0, none⟩) n cap] w fun e w' => e = .returned (.tuple #[]) ∧ ∃ d', Sw 0 n d d' ∧ Srt d' 0 n ∧ Arr w' g d' ∧ w.grownBy w' (some g) := by
  have C1 := Lib.hid (blen_few n (by omega) w)
  have C2 := Lib.hid (fun (k : Nat) (hk : k < 10) => pdq_any n cap g hN (n + 1) 0 n k d w (by omega) h hn (by omega) (by omega) (by omega) (.inl rfl))
  have hw : IntKind.u64.wrap (n : Int) = (n : Int) := by rw [IntKind.wrap_u64]; omega
  go_enter Try.func56, Try.ntmps56
  go_wp2_with (first | (go_at_call 64; refine C1.out.mono ?_; rintro _ w1 ⟨k, rfl, hk, rfl⟩) | (go_at_call 63; refine (C2.out _ hk).mono ?_; rintro _ w1 ⟨rfl, q⟩))
  go_end0
  exact ⟨rfl, q⟩
theorem pair_of_srt {ys : List Int} (h : Srt ys 0 ys.length) : ys.Pairwise (· ≤ ·) := by
  rw [List.pairwise_iff_getElem]
  intro i j hi hj hij
  have := h.le (Nat.zero_le i) (Nat.le_of_lt hij) hj
  simpa [List.getD, List.getElem?_eq_getElem hi, List.getElem?_eq_getElem hj] using this
theorem sortsU_30 : SortsU 30 := by
  intro v zs base w hl h
  rcases h.2 with ⟨rfl, h0⟩ | ⟨g, cap, cur, rfl, hg, hcur, -, -, hsz, htk⟩
  · refine (sort_one none 0 0 (by omega) w).mono ?_
    rintro e w' ⟨rfl, rfl⟩
    have : zs = [] := List.length_eq_zero_iff.mp h0
    subst this
    exact ⟨rfl, [], none, 0, rfl, List.Perm.refl _, List.Pairwise.nil, ⟨rfl, .inl rfl⟩, World.grownBy.refl _ _⟩
  · have ha : Arr w g zs := ⟨cur, hcur, by simpa using htk⟩
    refine (sort_few g zs.length cap zs w ha rfl (by omega)).mono ?_
    rintro e w' ⟨rfl, ys, q1, q2, q3, q4⟩
    have hyl := q1.length
    refine ⟨rfl, ys, _, _, rfl, q1.perm (Nat.le_refl _), pair_of_srt (by rw [hyl]; exact q2), ⟨hyl, .inr ⟨g, 0, rfl, q3.lt, fun j hj => ?_⟩⟩, q4⟩
    have := q3.cell hj
    rw [Nat.zero_add, this]
    simp [List.getD, List.getElem?_eq_getElem hj]
end Go.Proofs.Ythaalhigmihijaa
