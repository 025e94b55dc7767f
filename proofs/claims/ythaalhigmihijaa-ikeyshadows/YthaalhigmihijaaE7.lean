/- slices.Sorted of what slices.Values hands back, where slices.Sort sorts; slices.Sort of one number or none. -/
import Derived.Test.YthaalhigmihijaaE5
import Derived.Test.YthaalhigmihijaaE6
namespace Go.Proofs.Ythaalhigmihijaa
open Go.RowKit Go.Shelf

theorem nums_of_row {base : Nat} {v : Value} {zs : List Int} {w : World} (h : w.ownsRow base 24 1 v zs.length (zs.map (Value.int .u64))) :
    ∃ a cap, v = .slice a zs.length cap ∧ NumsAt w.heap.size w a zs.length zs ∧ ∀ k, v.ownBlock = some k → base ≤ k := by
  rcases h.2 with ⟨rfl, h0⟩ | ⟨g, cap, cur, rfl, hg, hcur, -, -, hsz, htk⟩
  · rw [h0]; exact ⟨_, _, rfl, ⟨by omega, .inl rfl⟩, fun k hk => by simp [Value.ownBlock] at hk⟩
  · refine ⟨_, _, rfl, ⟨rfl, .inr ⟨g, 0, rfl, (Array.getElem?_eq_some_iff.1 hcur).1, fun j hj => ?_⟩⟩, fun k hk => by simp [Value.ownBlock] at hk; omega⟩
    rw [Nat.zero_add, cell_of_row w g j cur 24 (0, 0) hcur]
    have : (cur.toList.take (zs.length * 1))[j]? = some (.int .u64 zs[j]) := by rw [htk]; simp [hj]
    rw [List.getElem?_take] at this
    split at this
    · simpa using this
    · cases this
/-- slices.Sort sorts lists of so many numbers. -/
def SortsU (N : Nat) : Prop := ∀ (v : Value) (zs : List Int) (base : Nat) (w : World), zs.length ≤ N → w.ownsRow base 24 1 v zs.length (zs.map (Value.int .u64)) →
  Calls Try.prog 56 #[v] w fun e w' => e = .returned (.tuple #[]) ∧ ∃ (ys : List Int) (a : Option Addr) (cap : Nat), v = .slice a zs.length cap ∧ ys.Perm zs ∧ ys.Pairwise (· ≤ ·) ∧ NumsAt w'.heap.size w' a zs.length ys ∧ w.grownBy w' v.ownBlock
set_option maxHeartbeats 1000000 in
set_option maxRecDepth 100000 in
theorem len_one (n : Int) (hn : n = 0 ∨ n = 1) (w : World) : Calls Try.prog 64 #[.int .u64 n] w fun e w' => (∃ z, e = .returned (.int .i64 z)) ∧ w = w' := by
  rcases hn with rfl | rfl
  · go_enter Try.func64, Try.ntmps64
    go_wp2
    go_ret
    exact ⟨⟨_, rfl⟩, rfl⟩
  · go_enter Try.func64, Try.ntmps64
    go_wp2
    go_ret
    exact ⟨⟨_, rfl⟩, rfl⟩
set_option maxHeartbeats 1000000 in
set_option maxRecDepth 100000 in
theorem ins_one (v : Value) (n : Nat) (hn : n ≤ 1) (w : World) : Calls Try.prog 67 #[v, .int .i64 0, .int .i64 (n : Int)] w fun e w' => e = .returned (.tuple #[]) ∧ w = w' := by
  have hd : decide (1 < (n : Int)) = false := by simp; omega
  go_enter Try.func67, Try.ntmps67
  go_wp2
  refine wp_loop_rounds 1 ?_
  rw [rounds_succ]
  go_wp2
  go_end0
  exact ⟨rfl, rfl⟩
set_option maxHeartbeats 1000000 in
set_option maxRecDepth 100000 in
theorem pdq_one (v : Value) (n : Nat) (hn : n ≤ 1) (z : Int) (w : World) : Calls Try.prog 63 #[v, .int .i64 0, .int .i64 (n : Int), .int .i64 z] w fun e w' => e = .returned (.tuple #[]) ∧ w = w' := by
  have hd : decide ((n : Int) ≤ 12) = true := by simp; omega
  have C := Lib.hid (ins_one v n hn w)
  go_enter Try.func63, Try.ntmps63
  go_wp2
  refine wp_loop_rounds 1 ?_
  rw [rounds_succ]
  go_wp2_with (go_at_call 67; refine C.out.mono ?_; rintro e w1 ⟨rfl, rfl⟩)
  first | go_end0 | refine bodyPost_ret (results_none rfl _ _ _) rfl ?_
  exact ⟨rfl, rfl⟩
set_option maxHeartbeats 1000000 in
set_option maxRecDepth 100000 in
theorem sort_one (a : Option Addr) (n cap : Nat) (hn : n ≤ 1) (w : World) : Calls Try.prog 56 #[.slice a n cap] w fun e w' => e = .returned (.tuple #[]) ∧ w = w' := by
  have C1 := Lib.hid (len_one (n : Int) (by omega) w)
  have C2 := Lib.hid (fun z => pdq_one (.slice a n cap) n hn z w)
  have hw : IntKind.u64.wrap (n : Int) = (n : Int) := by rw [IntKind.wrap_u64]; omega
  go_enter Try.func56, Try.ntmps56
  go_wp2_with (first | (go_at_call 64; refine C1.out.mono ?_; rintro e w1 ⟨⟨z, rfl⟩, rfl⟩) | (go_at_call 63; refine (C2.out _).mono ?_; rintro e w1 ⟨rfl, rfl⟩))
  go_end0
  exact ⟨rfl, rfl⟩
theorem sortsU_one : SortsU 1 := by
  intro v zs base w hl h
  obtain ⟨a, cap, rfl, hn, -⟩ := nums_of_row h
  refine (sort_one a zs.length cap hl w).mono ?_
  rintro e w' ⟨rfl, rfl⟩
  refine ⟨rfl, zs, a, cap, rfl, List.Perm.refl _, ?_, hn, World.grownBy.refl _ _⟩
  match zs, hl with
  | [], _ => exact List.Pairwise.nil
  | [z], _ => simp
set_option maxHeartbeats 1000000 in
theorem collect_any (Bs : Nat) (a : Option Addr) (len cap : Nat) (zs : List Int) (hlen : len ≤ 1000000) (w : World) (hBs : Bs < w.heap.size) (hc0 : w.cell? ⟨Bs, 0, none⟩ = some (.slice a len cap)) (hI : NumsAt w.heap.size w a len zs) :
    Calls Try.prog 55 #[.func (.func 57) #[] #[.pointer (some ⟨Bs, 0, none⟩)]] w fun e W' => ∃ v, e = .returned v ∧ W'.ownsRow w.heap.size 24 1 v zs.length (zs.map (Value.int .u64)) ∧ Below w.heap.size w W' := by
  have C := Lib.hid (callsIn_wide.1 (appendSeq_in Fence.wide 5 trivial trivial rfl (by omega) Bs a len cap zs hlen w hBs hc0 hI))
  go_enter Try.func55, Try.ntmps55
  go_wp2_with (go_at_call 62; refine C.out.mono ?_; rintro e w1 ⟨v, rfl, h1, h2⟩)
  go_ret
  exact ⟨v, rfl, h1, h2⟩
set_option maxHeartbeats 1000000 in
theorem sorted_any (N : Nat) (hS : SortsU N) (Bs : Nat) (a : Option Addr) (len cap : Nat) (zs : List Int) (hN : len ≤ N) (hlen : len ≤ 1000000) (w : World) (hBs : Bs < w.heap.size) (hc0 : w.cell? ⟨Bs, 0, none⟩ = some (.slice a len cap)) (hI : NumsAt w.heap.size w a len zs) :
    Calls Try.prog 45 #[.func (.func 57) #[] #[.pointer (some ⟨Bs, 0, none⟩)]] w fun e W' => ∃ a' cap' ys, e = .returned (.slice a' len cap') ∧ ys.Perm zs ∧ ys.Pairwise (· ≤ ·) ∧ NumsAt W'.heap.size W' a' len ys ∧ Below w.heap.size w W' := by
  have hzl := hI.1
  have C := Lib.hid (collect_any Bs a len cap zs hlen w hBs hc0 hI)
  have C2 := Lib.hid (fun v W (h : W.ownsRow w.heap.size 24 1 v zs.length (zs.map (Value.int .u64))) => hS v zs w.heap.size W (by omega) h)
  go_enter Try.func45, Try.ntmps45
  go_wp2_with (first | (go_at_call 55; refine C.out.mono ?_; rintro e w1 ⟨v, rfl, h1, h2⟩) | (go_at_call 56; refine (C2.out _ _ h1).mono ?_; rintro e w2 ⟨rfl, ys, a', cap', rfl, h3, h4, h5, h6⟩))
  go_ret
  obtain ⟨a2, cap2, e2, -, hk⟩ := nums_of_row h1
  rw [hzl] at *
  refine ⟨a', cap', ys, rfl, h3, h4, h5, h2.trans ?_⟩
  exact (turn_of_grown (F := (Value.slice a' len cap').ownBlock.toList) h6 (fun k hk => .inl (by simp [hk]))).below h2.size (fun k hk' => hk k (by simpa using hk'))
end Go.Proofs.Ythaalhigmihijaa
