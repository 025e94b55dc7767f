/- Of a nil and of a zero System; the walk of FileNone. -/
import Derived.Test.YteejghhcmmocfaaFG
namespace Go.Proofs.Yteejghhcmmocfaa
open Go.RowKit

theorem create_nil (a : ByteArray) (w : World) : Calls Try.prog 17 #[.pointer none, .string a] w fun e w' => e = .returned (.int .i64 14) ∧ Below w.heap.size w w' := by
  go_enter Try.func17, Try.ntmps17
  go_wp2_with (go_at_call 43; refine (write_nil _ _ _).mono ?_; rintro e w' ⟨rfl, rfl⟩)
  go_ret
  exact ⟨rfl, ((Below.refl _ _).alloc (Nat.le_refl _) _).alloc (by first | (simp; done) | (simp; omega)) _⟩
theorem append_nil (a : ByteArray) (b : ByteArray) (w : World) : Calls Try.prog 18 #[.pointer none, .string a, .string b] w fun e w' => e = .returned (.int .i64 14) ∧ Below w.heap.size w w' := by
  go_enter Try.func18, Try.ntmps18
  go_wp2_with (go_at_call 43; refine (write_nil _ _ _).mono ?_; rintro e w' ⟨rfl, rfl⟩)
  go_ret
  exact ⟨rfl, (((Below.refl _ _).alloc (Nat.le_refl _) _).alloc (by first | (simp; done) | (simp; omega)) _).alloc (by first | (simp; done) | (simp; omega)) _⟩
theorem sync_nil' (a : ByteArray) (w : World) : Calls Try.prog 19 #[.pointer none, .string a] w fun e w' => e = .returned (.int .i64 14) ∧ Below w.heap.size w w' := by
  go_enter Try.func19, Try.ntmps19
  go_wp2_with (go_at_call 48; refine (sync_nil _ _ _).mono ?_; rintro e w' ⟨rfl, rfl⟩)
  go_ret
  exact ⟨rfl, ((Below.refl _ _).alloc (Nat.le_refl _) _).alloc (by first | (simp; done) | (simp; omega)) _⟩
theorem syncDir_nil (w : World) : Calls Try.prog 20 #[.pointer none] w fun e w' => e = .returned (.int .i64 14) ∧ Below w.heap.size w w' := by
  go_enter Try.func20, Try.ntmps20
  go_wp2_with (go_at_call 48; refine (sync_nil _ _ _).mono ?_; rintro e w' ⟨rfl, rfl⟩)
  go_ret
  exact ⟨rfl, (Below.refl _ _).alloc (Nat.le_refl _) _⟩
theorem rename_nil (a : ByteArray) (b : ByteArray) (w : World) : Calls Try.prog 21 #[.pointer none, .string a, .string b] w fun e w' => e = .returned (.int .i64 14) ∧ Below w.heap.size w w' := by
  go_enter Try.func21, Try.ntmps21
  go_wp2_with (go_at_call 43; refine (write_nil _ _ _).mono ?_; rintro e w' ⟨rfl, rfl⟩)
  go_ret
  exact ⟨rfl, (((Below.refl _ _).alloc (Nat.le_refl _) _).alloc (by first | (simp; done) | (simp; omega)) _).alloc (by first | (simp; done) | (simp; omega)) _⟩
theorem remove_nil (a : ByteArray) (w : World) : Calls Try.prog 22 #[.pointer none, .string a] w fun e w' => e = .returned (.int .i64 14) ∧ Below w.heap.size w w' := by
  go_enter Try.func22, Try.ntmps22
  go_wp2_with (go_at_call 43; refine (write_nil _ _ _).mono ?_; rintro e w' ⟨rfl, rfl⟩)
  go_ret
  exact ⟨rfl, ((Below.refl _ _).alloc (Nat.le_refl _) _).alloc (by first | (simp; done) | (simp; omega)) _⟩
def zeroCells : Array Value := #[.bool false, .bool false, .int .i64 0, .int .i64 0, .int .i64 0, .int .i64 0, .map none, .map none, .slice none 0 0]
/-- At z lies a zero System. -/
def Zero (z : Nat) (w : World) : Prop := w.heap[z]? = some (.cells zeroCells 33)
theorem Zero.lt {z : Nat} {w : World} (h : Zero z w) : z < w.heap.size := (Array.getElem?_eq_some_iff.1 h).1
theorem Zero.below {z : Nat} {w w' : World} (h : Zero z w) (hb : Below w.heap.size w w') : Zero z w' := (hb.block z h.lt).trans h
theorem Zero.c {z : Nat} {w : World} (h : Zero z w) (j : Nat) (v : Value) (hj : zeroCells[j]? = some v) : w.cell? ⟨z, j, none⟩ = some v := by
  have h' : w.heap[z]? = some (.cells zeroCells 33) := h
  simp only [World.cell?, h']
  exact hj
theorem zero_restore {z : Nat} {w : World} (h : Zero z w) : Calls Try.prog 12 #[.pointer (some ⟨z, 0, none⟩)] w fun e w' => e = .returned (.tuple #[]) ∧ Zero z w' ∧ Turn [z] w w' := by
  have c0 : w.cell? ⟨z, 0, none⟩ = some (.bool false) := h.c 0 _ rfl
  have c1 : w.cell? ⟨z, 1, none⟩ = some (.bool false) := h.c 1 _ rfl
  have f1 : w.frozen? ⟨z, 1, none⟩ = false := by simp [World.frozen?, show w.heap[z]? = _ from h]
  go_enter Try.func12, Try.ntmps12
  go_wp2
  go_end0
  exact ⟨rfl, heap_setCell_same w z 1 _ _ (.bool false) h, (Turn.refl _ _).setCell (.inl (by simp)) _⟩
theorem zero_create {z : Nat} {w : World} (h : Zero z w) (a : ByteArray) : Calls Try.prog 17 #[.pointer (some ⟨z, 0, none⟩), .string a] w fun e w' => e = .returned (.int .i64 14) ∧ Zero z w' ∧ Below w.heap.size w w' := by
  have hlt := h.lt
  have hb : Below w.heap.size w ((w.alloc (.cells #[.pointer (some ⟨z, 0, none⟩)] 27)).alloc (.cells #[.string a] 9)) := ((Below.refl _ _).alloc (Nat.le_refl _) _).alloc (by simp) _
  have hc := Lib.hid ((h.below hb).c 1 (.bool false) rfl)
  have HB := Lib.hid hb
  clear hb
  go_enter Try.func17, Try.ntmps17
  go_wp2_with (go_at_call 43; refine (write_off _ _ _ _ hc.out).mono ?_; rintro e w' ⟨rfl, rfl⟩)
  go_ret
  exact ⟨rfl, h.below HB.out, HB.out⟩
theorem zero_read {z : Nat} {w : World} (h : Zero z w) (a : ByteArray) : Calls Try.prog 13 #[.pointer (some ⟨z, 0, none⟩), .string a] w fun e w' => e = .returned (.tuple #[.string ⟨#[]⟩, .int .i64 14]) ∧ w = w' := read_off z a w (h.c 1 _ rfl)
theorem zero_names {z : Nat} {w : World} (h : Zero z w) : Calls Try.prog 23 #[.pointer (some ⟨z, 0, none⟩)] w fun e w' => e = .returned (.slice none 0 0) ∧ w = w' := namesS_off z w (h.c 1 _ rfl)
theorem zero_on {z : Nat} {w : World} (h : Zero z w) : Calls Try.prog 26 #[.pointer (some ⟨z, 0, none⟩)] w fun e w' => e = .returned (.bool false) ∧ w = w' := on_at z false w (h.c 1 _ rfl)
set_option maxHeartbeats 1000000 in
set_option maxRecDepth 100000 in
theorem zero_used {z : Nat} {w : World} (h : Zero z w) : Calls Try.prog 24 #[.pointer (some ⟨z, 0, none⟩)] w fun e w' => e = .returned (.int .i64 0) ∧ Below w.heap.size w w' := by
  have c6 : w.cell? ⟨z, 6, none⟩ = some (.map none) := h.c 6 _ rfl
  have hrg := run_range_nilMap (P := Try.prog) w 30 9 67 dirT
  have hnx : ∀ ty, (Instr.next (.pointer (some ⟨w.heap.size, 0, none⟩)) false ty).run Try.prog (w.alloc (.mapIter none 0 #[] 0)) = _ := fun ty => run_next_nilMap w ty 0 0 #[]
  go_enter Try.func24, Try.ntmps24
  go_wp2
  refine wp_loop_rounds 1 ?_
  rw [rounds_succ]
  go_wp2
  go_ret
  exact ⟨rfl, (Below.refl _ _).alloc (Nat.le_refl _) _⟩
theorem twin_nil (w : World) : Calls Try.prog 27 #[.pointer none] w fun e w' => e = .returned (.pointer none) ∧ w = w' := by
  go_enter Try.func27, Try.ntmps27
  go_wp2
  go_ret
  exact ⟨rfl, rfl⟩
theorem read_nil' (name : ByteArray) (w : World) : Calls Try.prog 13 #[.pointer none, .string name] w fun e w' => e = .returned (.tuple #[.string ⟨#[]⟩, .int .i64 14]) ∧ w = w' := read_nil name w
theorem none_1 (a b : ByteArray) (w : World) (h1 : 3000 < a.size) :
    Calls Try.prog 4 #[.string a, .string b] w fun e w' => e = .returned (.bool true) ∧ Below w.heap.size w w' := by
  have hd2 : decide (3000 < (a.size : Int)) = true := by simp; omega
  clear h1
  cases hs : decide (3000 < wrap64 ((a.size : Int) + (b.size : Int)))
  · go_enter Try.func4, Try.ntmps4
    go_wp2_with (go_at_call 11; refine (alive4_any _).mono ?_; rintro e w1 ⟨rfl, hb1⟩)
    all_goals go_ret
    all_goals exact ⟨rfl, hb1⟩
  · go_enter Try.func4, Try.ntmps4
    go_wp2_with (go_at_call 11; refine (alive4_any _).mono ?_; rintro e w1 ⟨rfl, hb1⟩)
    all_goals go_ret
    all_goals exact ⟨rfl, hb1⟩
theorem none_2 (a b : ByteArray) (w : World) (h1 : a.size ≤ 3000) (h2 : 3000 < b.size) :
    Calls Try.prog 4 #[.string a, .string b] w fun e w' => e = .returned (.bool true) ∧ Below w.heap.size w w' := by
  have hd2 : decide (3000 < (a.size : Int)) = false := by simp; omega
  have hd3 : decide (3000 < (b.size : Int)) = true := by simp; omega
  clear h1 h2
  cases hs : decide (3000 < wrap64 ((a.size : Int) + (b.size : Int)))
  · go_enter Try.func4, Try.ntmps4
    go_wp2_with (go_at_call 11; refine (alive4_any _).mono ?_; rintro e w1 ⟨rfl, hb1⟩)
    all_goals go_ret
    all_goals exact ⟨rfl, hb1⟩
  · go_enter Try.func4, Try.ntmps4
    go_wp2_with (go_at_call 11; refine (alive4_any _).mono ?_; rintro e w1 ⟨rfl, hb1⟩)
    all_goals go_ret
    all_goals exact ⟨rfl, hb1⟩
theorem none_3 (a b : ByteArray) (w : World) (h1 : a.size ≤ 3000) (h2 : b.size ≤ 3000) (h : 3000 < a.size + b.size) :
    Calls Try.prog 4 #[.string a, .string b] w fun e w' => e = .returned (.bool true) ∧ Below w.heap.size w w' := by
  have hd1 : decide (3000 < (a.size : Int) + (b.size : Int)) = true := by simp; omega
  go_enter Try.func4, Try.ntmps4
  go_wp2_with (go_at_call 11; refine (alive4_any _).mono ?_; rintro e w1 ⟨rfl, hb1⟩)
  all_goals go_ret
  all_goals exact ⟨rfl, hb1⟩
theorem none_easy (a b : ByteArray) (w : World) (h : 3000 < a.size + b.size) :
    Calls Try.prog 4 #[.string a, .string b] w fun e w' => e = .returned (.bool true) ∧ Below w.heap.size w w' := by
  by_cases h1 : 3000 < a.size
  · exact none_1 a b w h1
  · by_cases h2 : 3000 < b.size
    · exact none_2 a b w (by omega) h2
    · exact none_3 a b w (by omega) (by omega) h
end Go.Proofs.Yteejghhcmmocfaa
