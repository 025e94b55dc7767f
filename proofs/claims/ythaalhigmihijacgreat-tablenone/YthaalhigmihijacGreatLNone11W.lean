/- TableNone's walk: a nil and a zero reader; no files. -/
import Derived.Test.YthaalhigmihijacGreatTM
import Derived.Test.YthaalhigmihijacGreatUD
import Derived.Test.YthaalhigmihijacGreatLAlive11
namespace Go.Proofs.YthaalhigmihijacGreat
open Go.RowKit

set_option maxHeartbeats 1000000 in
theorem isNone_nil (w : World) : Calls Tryz.prog 80 #[.pointer none] w fun e w' => e = .returned (.bool true) ∧ w = w' := by
  go_enter Tryz.func80, Tryz.ntmps80
  go_wp2
  go_ret
  exact ⟨rfl, rfl⟩
/-- A zero reader. -/
def ZeroR (z : Nat) (w : World) : Prop := w.heap[z]? = some (.cells #[.slice none 0 0, .string ⟨#[]⟩, .int .i64 0, .string ⟨#[]⟩, .int .i64 0] 81)
section
variable {z : Nat} {w w' : World}
theorem ZeroR.lt (h : ZeroR z w) : z < w.heap.size := (Array.getElem?_eq_some_iff.1 h).1
theorem ZeroR.below (h : ZeroR z w) (hb : Below w.heap.size w w') : ZeroR z w' := (hb.block z h.lt).trans h
theorem ZeroR.c0 (h : ZeroR z w) : w.cell? ⟨z, 0, none⟩ = some (.slice none 0 0) := by unfold World.cell?; rw [show w.heap[z]? = _ from h]; rfl
theorem ZeroR.c2 (h : ZeroR z w) : w.cell? ⟨z, 2, none⟩ = some (.int .i64 0) := by unfold World.cell?; rw [show w.heap[z]? = _ from h]; rfl
theorem ZeroR.c4 (h : ZeroR z w) : w.cell? ⟨z, 4, none⟩ = some (.int .i64 0) := by unfold World.cell?; rw [show w.heap[z]? = _ from h]; rfl
set_option maxHeartbeats 1000000 in
theorem isNone_zero (h : ZeroR z w) : Calls Tryz.prog 80 #[.pointer (some ⟨z, 0, none⟩)] w fun e w' => e = .returned (.bool true) ∧ w = w' := by
  have c0 := h.c0
  clear h
  go_enter Tryz.func80, Tryz.ntmps80
  go_wp2
  go_ret
  exact ⟨rfl, rfl⟩
set_option maxHeartbeats 1000000 in
theorem get_is (pv : Value) (key : ByteArray) (s : Int) (C : ∀ W : World, Below w.heap.size w W → Calls Tryz.prog 80 #[pv] W fun e w' => e = .returned (.bool true) ∧ W = w') :
    Calls Tryz.prog 24 #[pv, .string key, .int .u64 s] w fun e w' => e = .returned (.tuple #[.agg #[.string ⟨#[]⟩, .int .u64 0, .int .i64 0, .string ⟨#[]⟩], .bool false, .int .i64 1]) ∧ Below w.heap.size w w' := by
  obtain ⟨W, hW⟩ : ∃ W, w.alloc (.cells #[.string ⟨#[]⟩, .int .u64 0, .int .i64 0, .string ⟨#[]⟩] 52) = W := ⟨_, rfl⟩
  have hB : Below w.heap.size w W := by rw [← hW]; exact (Below.refl _ _).alloc (Nat.le_refl _) _
  have x2 : Boxe w.heap.size ⟨#[]⟩ 0 0 ⟨#[]⟩ W := by rw [← hW]; exact new_block _ _ rfl
  have C1 := Lib.hid (C W hB)
  have c0 := x2.c0
  have c1 := x2.c1
  have c2 := x2.c2
  have c3 := x2.c3
  have f0 := x2.f 0
  have f1 := x2.f 1
  have f2 := x2.f 2
  have f3 := x2.f 3
  clear x2 C
  go_enter Tryz.func24, Tryz.ntmps24
  go_upto_region 1 with fail
  try rw [hW]
  clear hW
  go_wp2_with (go_at_call 80; (with_reducible refine C1.out.mono ?_); rintro _ w1 ⟨rfl, rfl⟩)
  refine bodyPost_ret (by simp [results, Tryz.results24, go_sem, c0, c1, c2, c3]; try rfl) rfl ?_
  exact ⟨rfl, (((hB.setCell (Nat.le_refl _) _).setCell (Nat.le_refl _) _).setCell (Nat.le_refl _) _).setCell (Nat.le_refl _) _⟩
set_option maxHeartbeats 1000000 in
theorem range_is (pv : Value) (lo hi : ByteArray) (C : ∀ W : World, Below w.heap.size w W → Calls Tryz.prog 80 #[pv] W fun e w' => e = .returned (.bool true) ∧ W = w') :
    Calls Tryz.prog 26 #[pv, .string lo, .string hi] w fun e w' => e = .returned (.tuple #[.slice none 0 0, .int .i64 1]) ∧ Below w.heap.size w w' := by
  obtain ⟨W, hW⟩ : ∃ W, (w.alloc (.cells #[.string lo] 9)).alloc (.cells #[.string hi] 9) = W := ⟨_, rfl⟩
  have hB : Below w.heap.size w W := by rw [← hW]; exact ((Below.refl _ _).alloc (Nat.le_refl _) _).alloc (by simp) _
  have C1 := Lib.hid (C W hB)
  clear C
  go_enter Tryz.func26, Tryz.ntmps26
  go_upto_region 1 with fail
  try rw [hW]
  clear hW
  go_wp2_with (go_at_call 80; (with_reducible refine C1.out.mono ?_); rintro _ w1 ⟨rfl, rfl⟩)
  go_ret2
  exact ⟨rfl, hB⟩
set_option maxHeartbeats 1000000 in
theorem ends_nil (w : World) : Calls Tryz.prog 21 #[.pointer none] w fun e w' => e = .returned (.tuple #[.string ⟨#[]⟩, .string ⟨#[]⟩]) ∧ w = w' := by
  have C1 := Lib.hid (isNone_nil w)
  go_enter Tryz.func21, Tryz.ntmps21
  go_wp2_with (go_at_call 80; (with_reducible refine C1.out.mono ?_); rintro _ w1 ⟨rfl, rfl⟩)
  go_ret2
  exact ⟨rfl, rfl⟩
theorem len_nil (w : World) : Calls Tryz.prog 22 #[.pointer none] w fun e w' => e = .returned (.int .i64 0) ∧ w = w' := by
  go_enter Tryz.func22, Tryz.ntmps22
  go_wp2
  go_ret
  exact ⟨rfl, rfl⟩
theorem blocks_nil (w : World) : Calls Tryz.prog 23 #[.pointer none] w fun e w' => e = .returned (.int .i64 0) ∧ w = w' := by
  go_enter Tryz.func23, Tryz.ntmps23
  go_wp2
  go_ret
  exact ⟨rfl, rfl⟩
theorem tread_nil (w : World) : Calls Tryz.prog 32 #[.pointer none] w fun e w' => e = .returned (.int .i64 0) ∧ w = w' := by
  go_enter Tryz.func32, Tryz.ntmps32
  go_wp2
  go_ret
  exact ⟨rfl, rfl⟩
theorem len_zero (h : ZeroR z w) : Calls Tryz.prog 22 #[.pointer (some ⟨z, 0, none⟩)] w fun e w' => e = .returned (.int .i64 0) ∧ w = w' := by
  have c := h.c2
  go_enter Tryz.func22, Tryz.ntmps22
  go_wp2
  go_ret
  exact ⟨rfl, rfl⟩
theorem blocks_zero (h : ZeroR z w) : Calls Tryz.prog 23 #[.pointer (some ⟨z, 0, none⟩)] w fun e w' => e = .returned (.int .i64 0) ∧ w = w' := by
  have c := h.c0
  go_enter Tryz.func23, Tryz.ntmps23
  go_wp2
  go_ret
  exact ⟨rfl, rfl⟩
theorem tread_zero (h : ZeroR z w) : Calls Tryz.prog 32 #[.pointer (some ⟨z, 0, none⟩)] w fun e w' => e = .returned (.int .i64 0) ∧ w = w' := by
  have c := h.c4
  go_enter Tryz.func32, Tryz.ntmps32
  go_wp2
  go_ret
  exact ⟨rfl, rfl⟩
theorem on_nil (w : World) : Calls Tryz.prog 71 #[.pointer none] w fun e w' => e = .returned (.bool false) ∧ w = w' := by
  go_enter Tryz.func71, Tryz.ntmps71
  go_wp2
  go_ret
  exact ⟨rfl, rfl⟩
theorem fread_nil (s : ByteArray) (w : World) : Calls Tryz.prog 35 #[.pointer none, .string s] w fun e w' => e = .returned (.tuple #[.string ⟨#[]⟩, .int .i64 14]) ∧ w = w' := by
  have C1 := Lib.hid (on_nil w)
  go_enter Tryz.func35, Tryz.ntmps35
  go_wp2_with (go_at_call 71; (with_reducible refine C1.out.mono ?_); rintro _ w1 ⟨rfl, rfl⟩)
  go_ret2
  exact ⟨rfl, rfl⟩
set_option maxHeartbeats 1000000 in
theorem load_nil (w : World) : Calls Tryz.prog 31 #[.pointer none, .int .i64 1] w fun e w' => e = .returned (.tuple #[.pointer none, .int .i64 14]) ∧ Below w.heap.size w w' := by
  have C1 := Lib.hid (tname_any 1 w (by omega) (by omega))
  generalize (⟨(116 :: dig8 ((1 : Int) % 100000000).toNat).toArray⟩ : ByteArray) = S at C1
  have C2 := Lib.hid (fun W => fread_nil S W)
  go_enter Tryz.func31, Tryz.ntmps31
  go_wp2_with (first | (go_at_call 15; (with_reducible refine C1.out.mono ?_); rintro _ w1 ⟨rfl, b1⟩) | (go_at_call 35; (with_reducible refine (C2.out _).mono ?_); rintro _ w2 ⟨rfl, rfl⟩) | fail)
  go_ret2
  exact ⟨rfl, b1⟩
end
set_option maxHeartbeats 8000000 in
set_option maxRecDepth 100000 in
theorem tableNone_hard (key : ByteArray) (w : World) : Calls Tryz.prog 4 #[.string key] w fun e w' => e = .returned (.bool true) ∧ Below w.heap.size w w' := by
  have HA := Lib.hid (alive11 tabC name7)
  obtain ⟨W, hW⟩ : ∃ W, w.alloc (.cells #[.slice none 0 0, .string ⟨#[]⟩, .int .i64 0, .string ⟨#[]⟩, .int .i64 0] 81) = W := ⟨_, rfl⟩
  have hB : Below w.heap.size w W := by rw [← hW]; exact (Below.refl _ _).alloc (Nat.le_refl _) _
  have hz : ZeroR w.heap.size W := by rw [← hW]; exact new_block _ _ rfl
  obtain ⟨z, hze⟩ : ∃ z, w.heap.size = z := ⟨_, rfl⟩
  rw [hze] at hz
  have HZ := Lib.hid hz
  have HB := Lib.hid hB
  have HZE := Lib.hid hze
  have C1 := Lib.hid (fun W' => get_is (w := W') (.pointer none) key 1 (fun W _ => isNone_nil W))
  have C2 := Lib.hid (fun (W' : World) (h : ZeroR z W') => get_is (w := W') (.pointer (some ⟨z, 0, none⟩)) key 1 (fun W hb => isNone_zero (h.below hb)))
  have C3 := Lib.hid (fun W' => range_is (w := W') (.pointer none) key ⟨#[]⟩ (fun W _ => isNone_nil W))
  have C4 := Lib.hid (fun (W' : World) (h : ZeroR z W') => range_is (w := W') (.pointer (some ⟨z, 0, none⟩)) key ⟨#[]⟩ (fun W hb => isNone_zero (h.below hb)))
  clear hz hB hze
  go_enter Tryz.func4, Tryz.ntmps4
  go_upto_region 3 with fail
  try rw [hW]
  try rw [HZE.out]
  clear hW
  go_wp2_with fail
  go_at_call 24
  refine (C1.out _).mono ?_
  rintro _ w1 ⟨rfl, b1⟩
  have b1' := b1.alloc b1.size (.cells #[.string ⟨#[]⟩, .int .u64 0, .int .i64 0, .string ⟨#[]⟩] 52)
  have HZ1 := Lib.hid (HZ.out.below b1')
  have HB1 := Lib.hid (HB.out.trans (b1'.mono HB.out.size))
  have D2 := Lib.hid (C2.out _ HZ1.out)
  clear b1 b1' HZ HB C1 C2
  go_wp2_with fail
  go_at_call 24
  refine D2.out.mono ?_
  rintro _ w2 ⟨rfl, b2⟩
  have b2' := b2.alloc b2.size (.cells #[.string ⟨#[]⟩, .int .u64 0, .int .i64 0, .string ⟨#[]⟩] 52)
  have HZ2 := Lib.hid (HZ1.out.below b2')
  have HB2 := Lib.hid (HB1.out.trans (b2'.mono HB1.out.size))
  clear b2 b2' HZ1 HB1 D2
  go_wp2_with fail
  go_at_call 26
  refine (C3.out _).mono ?_
  rintro _ w3 ⟨rfl, b3⟩
  have HZ3 := Lib.hid (HZ2.out.below b3)
  have HB3 := Lib.hid (HB2.out.trans (b3.mono HB2.out.size))
  have D4 := Lib.hid (C4.out _ HZ3.out)
  clear b3 HZ2 HB2 C3 C4
  go_wp2_with fail
  go_at_call 26
  refine D4.out.mono ?_
  rintro _ w4 ⟨rfl, b4⟩
  have HZ4 := Lib.hid (HZ3.out.below b4)
  have HB4 := Lib.hid (HB3.out.trans (b4.mono HB3.out.size))
  clear b4 HZ3 HB3 D4
  go_wp2_with fail
  go_at_call 31
  refine (load_nil _).mono ?_
  rintro _ w5 ⟨rfl, b5⟩
  have HZ5 := Lib.hid (HZ4.out.below b5)
  have HB5 := Lib.hid (HB4.out.trans (b5.mono HB4.out.size))
  clear b5 HZ4 HB4
  go_wp2_with fail
  go_at_call 21
  refine (ends_nil _).mono ?_
  rintro _ w6 ⟨rfl, rfl⟩
  go_wp2_with fail
  go_at_call 8
  refine (HA.out _).mono ?_
  rintro _ w7 ⟨rfl, b7⟩
  have HB7 := Lib.hid (HB5.out.trans (b7.mono HB5.out.size))
  have L1 := Lib.hid (len_nil w7)
  have L2 := Lib.hid (blocks_nil w7)
  have L3 := Lib.hid (tread_nil w7)
  have hz7 := HZ5.out.below b7
  have L4 := Lib.hid (len_zero hz7)
  have L5 := Lib.hid (blocks_zero hz7)
  have L6 := Lib.hid (tread_zero hz7)
  have hem : ((⟨#[]⟩ : ByteArray) ++ ⟨#[]⟩).toList = [] := by rw [ByteArray.toList_eq]; rfl
  clear b7 hz7 HZ5 HB5 HA
  go_wp2_with (first | (go_at_call 22; (with_reducible refine L1.out.mono ?_); rintro _ w8 ⟨rfl, rfl⟩) | (go_at_call 23; (with_reducible refine L2.out.mono ?_); rintro _ w8 ⟨rfl, rfl⟩) | (go_at_call 32; (with_reducible refine L3.out.mono ?_); rintro _ w8 ⟨rfl, rfl⟩) | (go_at_call 22; (with_reducible refine L4.out.mono ?_); rintro _ w8 ⟨rfl, rfl⟩) | (go_at_call 23; (with_reducible refine L5.out.mono ?_); rintro _ w8 ⟨rfl, rfl⟩) | (go_at_call 32; (with_reducible refine L6.out.mono ?_); rintro _ w8 ⟨rfl, rfl⟩) | fail)
  go_ret
  exact ⟨rfl, HB7.out⟩
theorem tableNone_walk (key : ByteArray) (_ : key.size ≤ maxLen) (w : World) : Calls Tryz.prog 4 #[.string key] w fun e w' => e = .returned (.bool true) ∧ Below w.heap.size w w' := tableNone_hard key w
end Go.Proofs.YthaalhigmihijacGreat
