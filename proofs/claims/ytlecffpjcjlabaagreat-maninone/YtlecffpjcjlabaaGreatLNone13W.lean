/- ManiNone's walk: a nil and a zero manifest; no files. -/
import Derived.Test.YtlecffpjcjlabaaGreatIM3
import Derived.Test.YtlecffpjcjlabaaGreatJLM
namespace Go.Proofs.YtlecffpjcjlabaaGreat
open Go.RowKit Go.Shelf

set_option maxHeartbeats 1000000 in
theorem mnone_nil (w : World) : Calls Tryz.prog 39 #[.pointer none] w fun e w' => e = .returned (.bool true) ∧ w = w' := by
  go_enter Tryz.func39, Tryz.ntmps39
  go_wp2
  go_ret
  exact ⟨rfl, rfl⟩
/-- A zero manifest. -/
def ZeroM (z : Nat) (w : World) : Prop := w.heap[z]? = some (.cells #[.pointer none, .int .i64 0, .int .i64 0, .int .i64 0, .int .u64 0, .slice none 0 0, .bool false] 80)
section
variable {z : Nat} {w w' : World}
theorem ZeroM.lt (h : ZeroM z w) : z < w.heap.size := (Array.getElem?_eq_some_iff.1 h).1
theorem ZeroM.below (h : ZeroM z w) (hb : Below w.heap.size w w') : ZeroM z w' := (hb.block z h.lt).trans h
theorem ZeroM.c0 (h : ZeroM z w) : w.cell? ⟨z, 0, none⟩ = some (.pointer none) := by unfold World.cell?; rw [show w.heap[z]? = _ from h]; rfl
theorem ZeroM.c6 (h : ZeroM z w) : w.cell? ⟨z, 6, none⟩ = some (.bool false) := by unfold World.cell?; rw [show w.heap[z]? = _ from h]; rfl
set_option maxHeartbeats 1000000 in
theorem mnone_zero (h : ZeroM z w) : Calls Tryz.prog 39 #[.pointer (some ⟨z, 0, none⟩)] w fun e w' => e = .returned (.bool true) ∧ w = w' := by
  have c0 := h.c0
  clear h
  go_enter Tryz.func39, Tryz.ntmps39
  go_wp2
  go_ret
  exact ⟨rfl, rfl⟩
set_option maxHeartbeats 1000000 in
theorem mbroken_nil (w : World) : Calls Tryz.prog 23 #[.pointer none] w fun e w' => e = .returned (.bool false) ∧ w = w' := by
  go_enter Tryz.func23, Tryz.ntmps23
  go_wp2
  go_ret
  exact ⟨rfl, rfl⟩
set_option maxHeartbeats 1000000 in
theorem mbroken_zero (h : ZeroM z w) : Calls Tryz.prog 23 #[.pointer (some ⟨z, 0, none⟩)] w fun e w' => e = .returned (.bool false) ∧ w = w' := by
  have c6 := h.c6
  clear h
  go_enter Tryz.func23, Tryz.ntmps23
  go_wp2
  go_ret
  exact ⟨rfl, rfl⟩
set_option maxHeartbeats 1000000 in
theorem madd_is (pv : Value) (l n : Int) (q : Nat) (a d : Value) (C : ∀ W : World, Below w.heap.size w W → Calls Tryz.prog 39 #[pv] W fun e w' => e = .returned (.bool true) ∧ W = w') :
    Calls Tryz.prog 12 #[pv, .agg #[.int .i64 l, .int .i64 n, .int .u64 (q : Int), a, d]] w fun e w' => e = .returned (.int .i64 1) ∧ Below w.heap.size w w' := by
  obtain ⟨W, hW⟩ : ∃ W, w.alloc (.cells #[.int .i64 l, .int .i64 n, .int .u64 (q : Int), a, d] 52) = W := ⟨_, rfl⟩
  have hB : Below w.heap.size w W := by rw [← hW]; exact (Below.refl _ _).alloc (Nat.le_refl _) _
  have C1 := Lib.hid (C W hB)
  clear C
  go_enter Tryz.func12, Tryz.ntmps12
  go_upto_region 1 with fail
  try rw [hW]
  clear hW
  go_wp2_with (go_at_call 39; (with_reducible refine C1.out.mono ?_); rintro _ w1 ⟨rfl, rfl⟩)
  go_ret
  exact ⟨rfl, hB⟩
set_option maxHeartbeats 1000000 in
theorem mname_is (pv : Value) (C : Calls Tryz.prog 39 #[pv] w fun e w' => e = .returned (.bool true) ∧ w = w') :
    Calls Tryz.prog 22 #[pv] w fun e w' => e = .returned (.string ⟨#[]⟩) ∧ w = w' := by
  have C1 := Lib.hid C
  clear C
  go_enter Tryz.func22, Tryz.ntmps22
  go_wp2_with (go_at_call 39; (with_reducible refine C1.out.mono ?_); rintro _ w1 ⟨rfl, rfl⟩)
  go_ret
  exact ⟨rfl, rfl⟩
set_option maxHeartbeats 1000000 in
theorem mversion_is (pv : Value) (C : ∀ W : World, Below w.heap.size w W → Calls Tryz.prog 39 #[pv] W fun e w' => e = .returned (.bool true) ∧ W = w') :
    Calls Tryz.prog 20 #[pv] w fun e w' => e = .returned (.agg #[.int .i64 0, .int .i64 0, .int .u64 0, .slice none 0 0]) ∧ Below w.heap.size w w' := by
  obtain ⟨W, hW⟩ : ∃ W, w.alloc (.cells #[.int .i64 0, .int .i64 0, .int .u64 0, .slice none 0 0] 63) = W := ⟨_, rfl⟩
  have hB : Below w.heap.size w W := by rw [← hW]; exact (Below.refl _ _).alloc (Nat.le_refl _) _
  have x2 : BoxV w.heap.size 0 0 0 (.slice none 0 0) W := by rw [← hW]; exact new_block _ _ rfl
  have C1 := Lib.hid (C W hB)
  have f0 := x2.f 0
  have f1 := x2.f 1
  have f2 := x2.f 2
  have f3 := x2.f 3
  have c0 := x2.c0
  have c1 := x2.c1
  have c2 := x2.c2
  have c3 := x2.c3
  have HX := Lib.hid x2
  clear C x2
  go_enter Tryz.func20, Tryz.ntmps20
  go_upto_region 1 with fail
  try rw [hW]
  clear hW
  go_wp2_with (go_at_call 39; (with_reducible refine C1.out.mono ?_); rintro _ w1 ⟨rfl, rfl⟩)
  obtain ⟨WF, hWF⟩ : ∃ WF, set4V W w.heap.size 0 0 0 (.slice none 0 0) = WF := ⟨_, rfl⟩
  have hF1 : BoxV w.heap.size 0 0 0 (.slice none 0 0) WF := by rw [← hWF]; exact HX.out.set4 0 0 0 _
  have hF2 : Below w.heap.size w WF := by rw [← hWF]; exact set4V_below hB _ (Nat.le_refl _) _ _ _ _
  unfold set4V at hWF
  rw [hWF]
  have z0 := hF1.c0
  have z1 := hF1.c1
  have z2 := hF1.c2
  have z3 := hF1.c3
  refine bodyPost_ret (by simp [results, Tryz.results20, go_sem, z0, z1, z2, z3]; try rfl) rfl ?_
  exact ⟨rfl, hF2⟩
set_option maxHeartbeats 1000000 in
theorem mopen0_nil (h : ZeroM z w) : Calls Tryz.prog 51 #[.pointer (some ⟨z, 0, none⟩)] w fun e w' => e = .returned (.int .i64 14) ∧ w = w' := by
  have c0 := h.c0
  have C1 := Lib.hid (read_nil ⟨#[67, 85, 82, 82, 69, 78, 84]⟩ w)
  unfold readV at C1
  clear h
  go_enter Tryz.func51, Tryz.ntmps51
  go_wp2_with (go_at_call 32; (with_reducible refine C1.out.mono ?_); rintro _ w1 ⟨rfl, rfl⟩)
  go_ret
  exact ⟨rfl, rfl⟩
set_option maxHeartbeats 2000000 in
set_option maxRecDepth 100000 in
theorem mopen_nil (w : World) : Calls Tryz.prog 15 #[.pointer none] w fun e w' => e = .returned (.tuple #[.pointer none, .agg #[.int .i64 0, .int .i64 0, .int .u64 0, .slice none 0 0], .int .i64 14]) ∧ Below w.heap.size w w' := by
  obtain ⟨W1, hW1⟩ : ∃ W1, (w.alloc (.cells #[.int .i64 0, .int .i64 0, .int .u64 0, .slice none 0 0] 63)).alloc (.cells #[.pointer none, .int .i64 0, .int .i64 0, .int .i64 0, .int .u64 0, .slice none 0 0, .bool false] 80) = W1 := ⟨_, rfl⟩
  have b1 : Below w.heap.size w W1 := by rw [← hW1]; exact ((Below.refl _ _).alloc (Nat.le_refl _) _).alloc (by simp) _
  have x1 : BoxV w.heap.size 0 0 0 (.slice none 0 0) W1 := by rw [← hW1]; exact (Below.heap_alloc _ _ _ (by simp)).trans (new_block _ _ rfl)
  have m1 : ZeroM (w.heap.size + 1) W1 := by rw [← hW1]; exact new_block _ _ (by simp)
  have C1 := Lib.hid (mopen0_nil m1)
  have f0 := x1.f 0
  have f1 := x1.f 1
  have f2 := x1.f 2
  have f3 := x1.f 3
  have c0 := x1.c0
  have c1 := x1.c1
  have c2 := x1.c2
  have c3 := x1.c3
  have HX := Lib.hid x1
  clear x1 m1
  go_enter Tryz.func15, Tryz.ntmps15
  go_upto_region 2 with fail
  try rw [hW1]
  clear hW1
  go_wp2_with (go_at_call 51; (with_reducible refine C1.out.mono ?_); rintro _ w1 ⟨rfl, rfl⟩)
  obtain ⟨WF, hWF⟩ : ∃ WF, set4V W1 w.heap.size 0 0 0 (.slice none 0 0) = WF := ⟨_, rfl⟩
  have hF1 : BoxV w.heap.size 0 0 0 (.slice none 0 0) WF := by rw [← hWF]; exact HX.out.set4 0 0 0 _
  have hF2 : Below w.heap.size w WF := by rw [← hWF]; exact set4V_below b1 _ (Nat.le_refl _) _ _ _ _
  unfold set4V at hWF
  rw [hWF]
  have z0 := hF1.c0
  have z1 := hF1.c1
  have z2 := hF1.c2
  have z3 := hF1.c3
  refine bodyPost_ret (by simp [results, Tryz.results15, go_sem, z0, z1, z2, z3]; try rfl) rfl ?_
  exact ⟨rfl, hF2⟩
end
set_option maxHeartbeats 8000000 in
set_option maxRecDepth 100000 in
theorem maniNone_walk (e : Ed) (va vd : Value) (w : World) (he : EdW w e va vd) : Calls Tryz.prog 4 #[ediV e.log e.next e.seq va vd] w fun x w' => x = .returned (.bool true) ∧ Below w.heap.size w w' := by
  obtain ⟨aa, ac, rfl⟩ := he.a.len
  obtain ⟨da, dc, rfl⟩ := he.d.len
  obtain ⟨W1, hW1⟩ : ∃ W1, w.alloc (.cells #[.int .i64 e.log, .int .i64 e.next, .int .u64 (e.seq : Int), .slice aa e.add.length ac, .slice da e.drop.length dc] 52) = W1 := ⟨_, rfl⟩
  have b1 : Below w.heap.size w W1 := by rw [← hW1]; exact (Below.refl _ _).alloc (Nat.le_refl _) _
  have y1 : BoxEd w.heap.size e.log e.next e.seq (.slice aa e.add.length ac) (.slice da e.drop.length dc) W1 := by rw [← hW1]; exact new_block _ _ rfl
  have hE1 : EdW W1 e (.slice aa e.add.length ac) (.slice da e.drop.length dc) := ⟨he.l, he.n, he.s, he.a.below b1, he.d.below b1, he.la, he.ld, he.ka, he.kd⟩
  have CL := Lib.hid (light_any e _ _ W1 hE1)
  unfold ediV at *
  have HA := Lib.hid malive_any
  have e0 := y1.c0
  have e1 := y1.c1
  have e2 := y1.c2
  have e3 := y1.c3
  have e4 := y1.c4
  have HY1 := Lib.hid y1
  have HB1 := Lib.hid b1
  clear he hE1 y1 b1
  go_enter Tryz.func4, Tryz.ntmps4
  go_upto_region 1 with fail
  try rw [hW1]
  clear hW1
  go_wp2_with fail
  go_at_call 25
  (with_reducible refine CL.out.mono ?_)
  rintro _ w2 ⟨t, rfl, -, b2⟩
  have HB2 := Lib.hid (HB1.out.trans (b2.mono HB1.out.size))
  have HY2 := Lib.hid (HY1.out.below b2)
  clear b2 CL HY1 HB1 e0 e1 e2 e3 e4
  have hsz := HB2.out.size
  cases t with
  | false =>
    go_wp2_with (go_at_call 9; (with_reducible refine (HA.out _).mono ?_); rintro _ w3 ⟨rfl, b3⟩)
    go_ret
    exact ⟨rfl, HB2.out.trans (b3.mono hsz)⟩
  | true =>
    obtain ⟨W3, hW3⟩ : ∃ W3, w2.alloc (.cells #[.pointer none, .int .i64 0, .int .i64 0, .int .i64 0, .int .u64 0, .slice none 0 0, .bool false] 80) = W3 := ⟨_, rfl⟩
    have b3 : Below w2.heap.size w2 W3 := by rw [← hW3]; exact (Below.refl _ _).alloc (Nat.le_refl _) _
    have z3 : ZeroM w2.heap.size W3 := by rw [← hW3]; exact new_block _ _ rfl
    obtain ⟨z, hz⟩ : ∃ z, w2.heap.size = z := ⟨_, rfl⟩
    have HZ3 := Lib.hid z3
    have HB3 := Lib.hid b3
    have CO := Lib.hid (mopen_nil W3)
    have HZE := Lib.hid hz
    clear b3 z3 hz
    go_upto_region 5 with fail
    try rw [hW3]
    clear hW3
    go_wp2_with fail
    go_at_call 15
    (with_reducible refine CO.out.mono ?_)
    rintro _ w4 ⟨rfl, b4⟩
    obtain ⟨W5, hW5⟩ : ∃ W5, w4.alloc (.cells #[.int .i64 0, .int .i64 0, .int .u64 0, .slice none 0 0] 63) = W5 := ⟨_, rfl⟩
    have b5 : Below w4.heap.size w4 W5 := by rw [← hW5]; exact (Below.refl _ _).alloc (Nat.le_refl _) _
    have v5 : BoxV w4.heap.size 0 0 0 (.slice none 0 0) W5 := by rw [← hW5]; exact new_block _ _ rfl
    have b35 := b4.trans (b5.mono b4.size)
    have z5 := HZ3.out.below b35
    rw [HZE.out] at z5
    have y5 := (HY2.out.below HB3.out).below b35
    have HB5 := Lib.hid (HB2.out.trans ((HB3.out.trans (b35.mono HB3.out.size)).mono hsz))
    have HV5 := Lib.hid v5
    have HZ5 := Lib.hid z5
    have HY5 := Lib.hid y5
    have HW5 := Lib.hid hW5
    clear b4 b5 v5 b35 z5 y5 hW5 CO
    go_upto_region 6 with fail
    rw [HW5.out]
    try rw [HZE.out]
    clear HW5
    go_wp2_with fail
    go_at_call 9
    (with_reducible refine (HA.out _).mono ?_)
    rintro _ w6 ⟨rfl, b6⟩
    have HY6 := Lib.hid (HY5.out.below b6)
    have HZ6 := Lib.hid (HZ5.out.below b6)
    have HB6 := Lib.hid (HB5.out.trans (b6.mono HB5.out.size))
    have v3 := (HV5.out.below b6).c3
    have e0 := (HY6.out).c0
    have e1 := (HY6.out).c1
    have e2 := (HY6.out).c2
    have e3 := (HY6.out).c3
    have e4 := (HY6.out).c4
    have C1 := Lib.hid (madd_is (w := w6) (.pointer none) e.log e.next e.seq (.slice aa e.add.length ac) (.slice da e.drop.length dc) (fun W _ => mnone_nil W))
    clear b6 HA HV5 HY5 HZ5 HB5 HB3 HZ3
    go_wp2_with fail
    go_at_call 12
    (with_reducible refine C1.out.mono ?_)
    rintro _ w7 ⟨rfl, b7⟩
    have HY7 := Lib.hid (HY6.out.below b7)
    have HZ7 := Lib.hid (HZ6.out.below b7)
    have HB7 := Lib.hid (HB6.out.trans (b7.mono HB6.out.size))
    clear e0 e1 e2 e3 e4 v3 C1 b7
    have e0 := (HY7.out).c0
    have e1 := (HY7.out).c1
    have e2 := (HY7.out).c2
    have e3 := (HY7.out).c3
    have e4 := (HY7.out).c4
    have C1 := Lib.hid (madd_is (w := w7) (.pointer (some ⟨z, 0, none⟩)) e.log e.next e.seq (.slice aa e.add.length ac) (.slice da e.drop.length dc) (fun W hb => mnone_zero (HZ7.out.below hb)))
    go_wp2_with fail
    go_at_call 12
    (with_reducible refine C1.out.mono ?_)
    rintro _ w8 ⟨rfl, b8⟩
    have HZ8 := Lib.hid (HZ7.out.below b8)
    have HB8 := Lib.hid (HB7.out.trans (b8.mono HB7.out.size))
    have C1 := Lib.hid (mversion_is (w := w8) (.pointer none) (fun W _ => mnone_nil W))
    clear e0 e1 e2 e3 e4 b8
    go_wp2_with fail
    go_at_call 20
    (with_reducible refine C1.out.mono ?_)
    rintro _ w9 ⟨rfl, b9⟩
    have HZ9 := Lib.hid (HZ8.out.below b9)
    have HB9 := Lib.hid (HB8.out.trans (b9.mono HB8.out.size))
    have hcc : ((⟨#[]⟩ : ByteArray) ++ ⟨#[]⟩).toList = [] := by rw [ByteArray.toList_eq]; rfl
    have hfl : ∀ w : World, (Instr.field 63 (.agg #[.int .i64 0, .int .i64 0, .int .u64 0, .slice none 0 0]) 1).run Tryz.prog w = .ok (.int .i64 0) w := fun w => by kernel_rfl
    have C1 := Lib.hid (mversion_is (w := w9) (.pointer (some ⟨z, 0, none⟩)) (fun W hb => mnone_zero (HZ9.out.below hb)))
    clear b9
    go_wp2_with fail
    go_at_call 20
    (with_reducible refine C1.out.mono ?_)
    rintro _ w10 ⟨rfl, b10⟩
    have hz10 := HZ9.out.below b10
    have HB10 := Lib.hid (HB9.out.trans (b10.mono HB9.out.size))
    have C1 := Lib.hid (mname_is (w := w10) (.pointer none) (mnone_nil w10))
    have C2 := Lib.hid (mname_is (w := w10) (.pointer (some ⟨z, 0, none⟩)) (mnone_zero hz10))
    have C3 := Lib.hid (mbroken_nil w10)
    have C4 := Lib.hid (mbroken_zero hz10)
    clear b10 hz10
    go_wp2_with (first
      | (go_at_call 22; (with_reducible refine C1.out.mono ?_); rintro _ _ ⟨rfl, rfl⟩)
      | (go_at_call 22; (with_reducible refine C2.out.mono ?_); rintro _ _ ⟨rfl, rfl⟩)
      | (go_at_call 23; (with_reducible refine C3.out.mono ?_); rintro _ _ ⟨rfl, rfl⟩)
      | (go_at_call 23; (with_reducible refine C4.out.mono ?_); rintro _ _ ⟨rfl, rfl⟩)
      | fail)
    go_ret
    exact ⟨rfl, HB10.out⟩
end Go.Proofs.YtlecffpjcjlabaaGreat
