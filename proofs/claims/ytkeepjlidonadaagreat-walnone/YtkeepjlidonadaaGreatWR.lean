/- A nil and a zero log; no files. -/
import Derived.Test.YtkeepjlidonadaaGreatWO
import Derived.Test.YtkeepjlidonadaaGreatWQ
namespace Go.Proofs.YtkeepjlidonadaaGreat
open Go.RowKit

/-- A zero log. -/
def LogZ (w : World) (L : Nat) : Prop := w.heap[L]? = some (.cells #[.pointer none, .int .i64 0, .int .i64 0, .bool false] 97)
theorem LogZ.c {w : World} {L : Nat} (h : LogZ w L) (j : Nat) (v : Value) (hj : (#[.pointer none, .int .i64 0, .int .i64 0, .bool false] : Array Value)[j]? = some v) : w.cell? ⟨L, j, none⟩ = some v := by
  unfold World.cell?; rw [show w.heap[L]? = _ from h]; exact hj
theorem LogZ.below {w w' : World} {L : Nat} (h : LogZ w L) (hb : Below w.heap.size w w') : LogZ w' L := (hb.block L (Array.getElem?_eq_some_iff.1 h).1).trans h
set_option maxHeartbeats 1000000 in
theorem refuses_nil (w : World) : Calls Tryz.prog 135 #[.pointer none] w fun e w' => e = .returned (.int .i64 1) ∧ w = w' := by
  go_enter Tryz.func135, Tryz.ntmps135
  go_wp2
  go_ret
  exact ⟨rfl, rfl⟩
set_option maxHeartbeats 1000000 in
theorem refuses_zero (L : Nat) (w : World) (h : LogZ w L) : Calls Tryz.prog 135 #[.pointer (some ⟨L, 0, none⟩)] w fun e w' => e = .returned (.int .i64 1) ∧ w = w' := by
  have c0 := h.c 0 _ rfl
  go_enter Tryz.func135, Tryz.ntmps135
  go_wp2
  go_ret
  exact ⟨rfl, rfl⟩
set_option maxHeartbeats 1000000 in
theorem add_none (pv : Value) (first : Int) (v : Value) (w : World) (CR : Calls Tryz.prog 135 #[pv] w fun e w' => e = .returned (.int .i64 1) ∧ w = w') :
    Calls Tryz.prog 26 #[pv, .int .u64 first, v] w fun e w' => e = .returned (.int .i64 1) ∧ w = w' := by
  have CR := Lib.hid CR
  go_enter Tryz.func26, Tryz.ntmps26
  go_wp2_with (go_at_call 135; refine CR.out.mono ?_; rintro _ _ ⟨rfl, rfl⟩)
  go_ret
  exact ⟨rfl, rfl⟩
set_option maxHeartbeats 1000000 in
theorem sync_none (pv : Value) (w : World) (CR : Calls Tryz.prog 135 #[pv] w fun e w' => e = .returned (.int .i64 1) ∧ w = w') :
    Calls Tryz.prog 28 #[pv] w fun e w' => e = .returned (.int .i64 1) ∧ w = w' := by
  have CR := Lib.hid CR
  go_enter Tryz.func28, Tryz.ntmps28
  go_wp2_with (go_at_call 135; refine CR.out.mono ?_; rintro _ _ ⟨rfl, rfl⟩)
  go_ret
  exact ⟨rfl, rfl⟩
set_option maxHeartbeats 1000000 in
theorem num_nil (w : World) : Calls Tryz.prog 34 #[.pointer none] w fun e w' => e = .returned (.int .i64 0) ∧ w = w' := by
  go_enter Tryz.func34, Tryz.ntmps34
  go_wp2
  go_ret
  exact ⟨rfl, rfl⟩
set_option maxHeartbeats 1000000 in
theorem size_nil (w : World) : Calls Tryz.prog 39 #[.pointer none] w fun e w' => e = .returned (.int .i64 0) ∧ w = w' := by
  go_enter Tryz.func39, Tryz.ntmps39
  go_wp2
  go_ret
  exact ⟨rfl, rfl⟩
set_option maxHeartbeats 1000000 in
theorem num_zero (L : Nat) (w : World) (h : LogZ w L) : Calls Tryz.prog 34 #[.pointer (some ⟨L, 0, none⟩)] w fun e w' => e = .returned (.int .i64 0) ∧ w = w' := by
  have c1 := h.c 1 _ rfl
  go_enter Tryz.func34, Tryz.ntmps34
  go_wp2
  go_ret
  exact ⟨rfl, rfl⟩
set_option maxHeartbeats 1000000 in
theorem size_zero (L : Nat) (w : World) (h : LogZ w L) : Calls Tryz.prog 39 #[.pointer (some ⟨L, 0, none⟩)] w fun e w' => e = .returned (.int .i64 0) ∧ w = w' := by
  have c2 := h.c 2 _ rfl
  go_enter Tryz.func39, Tryz.ntmps39
  go_wp2
  go_ret
  exact ⟨rfl, rfl⟩
end Go.Proofs.YtkeepjlidonadaaGreat
