/- edit's Get. -/
import Derived.Test.YtlecffpjcjlabaaGreatJJ
namespace Go.Proofs.YtlecffpjcjlabaaGreat
open Go.RowKit Go.Shelf

/-- What is read of bytes: an edit, and the error. -/
def getP (l : List UInt8) : Ed × Int :=
  let a := rdI l 0
  let b := rdI a.2.1 a.2.2
  let c := rdV b.2.1 b.2.2
  let d := rdLT c.2.1 c.2.2
  let f := rdLI d.2.1 d.2.2
  (⟨(a.1 : Int), (b.1 : Int), c.1, d.1, f.1⟩, if f.2.2 ≠ 0 then f.2.2 else if f.2.1.length = 0 then 0 else 4)
/-- What Get answers. -/
def GetV (w w' : World) (x : Ending) (l : List UInt8) : Prop :=
  ((getP l).2 ≠ 0 ∧ x = .returned (.tuple #[.agg #[.int .i64 0, .int .i64 0, .int .u64 0, .slice none 0 0, .slice none 0 0], .int .i64 (getP l).2])) ∨
  ((getP l).2 = 0 ∧ ∃ va vd, x = .returned (.tuple #[ediV (getP l).1.log (getP l).1.next (getP l).1.seq va vd, .int .i64 0]) ∧ RowB w' va (getP l).1.add ∧ RowN w' vd (getP l).1.drop ∧ (∀ k, ob va = some k → w.heap.size ≤ k) ∧ (∀ k, ob vd = some k → w.heap.size ≤ k) ∧ (∀ k, ob va = some k → ob vd ≠ some k))
theorem BoxEd.grown {w w' : World} {B b : Nat} {log next : Int} {seq : Nat} {a d : Value} (h : BoxEd B log next seq a d w) (hg : w.grownBy w' (some b)) (hn : B ≠ b) : BoxEd B log next seq a d w' := (hg.block B h.lt (fun e => hn (by cases e; rfl))).trans h
theorem BoxEd.set {w : World} {B : Nat} {log next : Int} {seq : Nat} {a d : Value} (h : BoxEd B log next seq a d w) (o : Nat) (u : Value) (log' next' : Int) (seq' : Nat) (a' d' : Value) (he : #[Value.int .i64 log, .int .i64 next, .int .u64 (seq : Int), a, d].setIfInBounds o u = #[.int .i64 log', .int .i64 next', .int .u64 (seq' : Int), a', d']) : BoxEd B log' next' seq' a' d' (w.setCell ⟨B, o, none⟩ u) := by
  unfold BoxEd
  rw [heap_setCell_same w B o _ _ u h, he]
theorem BoxEd.setOther {w : World} {B X o : Nat} {log next : Int} {seq : Nat} {a d : Value} {u : Value} (h : BoxEd B log next seq a d w) (hX : X ≠ B) : BoxEd B log next seq a d (w.setCell ⟨X, o, none⟩ u) :=
  (heap_setCell_other w ⟨X, o, none⟩ B u (fun e => hX e.symm)).trans h
theorem grown_turn {w w' : World} {b : Nat} (h : w.grownBy w' (some b)) : Turn [b] w w' := turn_of_grown h (fun k hk => .inl (by cases hk; simp))
theorem var_turn {w : World} {b : Nat} {l : List UInt8} {e : Int} (h : Rdr w b l e) :
    Calls Tryz.prog 286 #[.pointer (some ⟨b, 0, none⟩)] w fun x w' => x = .returned (.int .u64 ((rdV l e).1 : Int)) ∧ Rdr w' b (rdV l e).2.1 (rdV l e).2.2 ∧ Turn [b] w w' := (pr_var h).mono fun _ _ ⟨a, b, c⟩ => ⟨a, b, grown_turn c⟩
theorem int_turn {w : World} {b : Nat} {l : List UInt8} {e : Int} (h : Rdr w b l e) :
    Calls Tryz.prog 285 #[.pointer (some ⟨b, 0, none⟩)] w fun x w' => x = .returned (.int .i64 ((rdI l e).1 : Int)) ∧ Rdr w' b (rdI l e).2.1 (rdI l e).2.2 ∧ Turn [b] w w' := (readInt_any h).mono fun _ _ ⟨a, b, c⟩ => ⟨a, b, grown_turn c⟩
theorem ts_turn {w : World} {b : Nat} {l : List UInt8} {e : Int} (h : Rdr w b l e) :
    Calls Tryz.prog 287 #[.pointer (some ⟨b, 0, none⟩), .func (.func 288) #[] #[]] w fun x w' => ∃ va vc, x = .returned (.slice va (rdLT l e).1.length vc) ∧ (RowB w' (.slice va (rdLT l e).1.length vc) (rdLT l e).1 ∧ ∀ k, ob (.slice va (rdLT l e).1.length vc) = some k → w.heap.size ≤ k) ∧ Rdr w' b (rdLT l e).2.1 (rdLT l e).2.2 ∧ Turn [b] w w' := (readTs_any h).mono fun _ _ ⟨v, h1, h2, h3, h4, h5⟩ => by
  obtain ⟨a, c, rfl⟩ := h2.short
  exact ⟨a, c, h1, ⟨h2, h3⟩, h4, h5⟩
theorem is_turn {w : World} {b : Nat} {l : List UInt8} {e : Int} (h : Rdr w b l e) :
    Calls Tryz.prog 289 #[.pointer (some ⟨b, 0, none⟩), .func (.func 285) #[] #[]] w fun x w' => ∃ va vc, x = .returned (.slice va (rdLI l e).1.length vc) ∧ (RowN w' (.slice va (rdLI l e).1.length vc) (rdLI l e).1 ∧ ∀ k, ob (.slice va (rdLI l e).1.length vc) = some k → w.heap.size ≤ k) ∧ Rdr w' b (rdLI l e).2.1 (rdLI l e).2.2 ∧ Turn [b] w w' := (readIs_any h).mono fun _ _ ⟨v, h1, h2, h3, h4, h5⟩ => by
  obtain ⟨a, c, rfl⟩ := h2.short
  exact ⟨a, c, h1, ⟨h2, h3⟩, h4, h5⟩
set_option maxHeartbeats 4000000 in
set_option maxRecDepth 100000 in
theorem get_any (s : ByteArray) (w : World) (hs : s.size ≤ 100000000) :
    Calls Tryz.prog 273 #[.string s] w fun x w' => GetV w w' x s.data.toList ∧ Below w.heap.size w w' := by
  unfold GetV getP
  obtain ⟨l, hl⟩ : ∃ l, s.data.toList = l := ⟨_, rfl⟩
  rw [hl]
  have C0 := Lib.hid (fun (W : World) (b : Nat) (h : Rdr W b l (0 : Int)) => int_turn h)
  obtain ⟨p0, hp0⟩ : ∃ p, rdI l (0 : Int) = p := ⟨_, rfl⟩
  rw [hp0] at C0 ⊢
  clear hp0
  obtain ⟨a0, l0, e0⟩ := p0
  simp only at C0 ⊢
  have C1 := Lib.hid (fun (W : World) (b : Nat) (h : Rdr W b l0 e0) => int_turn h)
  obtain ⟨p1, hp1⟩ : ∃ p, rdI l0 e0 = p := ⟨_, rfl⟩
  rw [hp1] at C1 ⊢
  clear hp1
  obtain ⟨a1, l1, e1⟩ := p1
  simp only at C1 ⊢
  have C2 := Lib.hid (fun (W : World) (b : Nat) (h : Rdr W b l1 e1) => var_turn h)
  obtain ⟨p2, hp2⟩ : ∃ p, rdV l1 e1 = p := ⟨_, rfl⟩
  rw [hp2] at C2 ⊢
  clear hp2
  obtain ⟨a2, l2, e2⟩ := p2
  simp only at C2 ⊢
  have C3 := Lib.hid (fun (W : World) (b : Nat) (h : Rdr W b l2 e2) => ts_turn h)
  obtain ⟨p3, hp3⟩ : ∃ p, rdLT l2 e2 = p := ⟨_, rfl⟩
  rw [hp3] at C3 ⊢
  clear hp3
  obtain ⟨a3, l3, e3⟩ := p3
  simp only at C3 ⊢
  have C4 := Lib.hid (fun (W : World) (b : Nat) (h : Rdr W b l3 e3) => is_turn h)
  obtain ⟨p4, hp4⟩ : ∃ p, rdLI l3 e3 = p := ⟨_, rfl⟩
  rw [hp4] at C4 ⊢
  clear hp4
  obtain ⟨a4, l4, e4⟩ := p4
  simp only at C4 ⊢
  obtain ⟨m3, hm3⟩ : ∃ m, a3.length = m := ⟨_, rfl⟩
  obtain ⟨m4, hm4⟩ : ∃ m, a4.length = m := ⟨_, rfl⟩
  rw [hm3] at C3
  rw [hm4] at C4
  obtain ⟨er, her⟩ : ∃ r : Int, (if e4 ≠ 0 then e4 else if l4.length = 0 then 0 else 4) = r := ⟨_, rfl⟩
  have CE := Lib.hid (fun (W : World) (b : Nat) (h : Rdr W b l4 e4) => pr_end h)
  rw [her] at CE ⊢
  clear her hm3 hm4
  have HL := Lib.hid hl
  clear hl
  have z1 : BoxEd w.heap.size 0 0 0 (.slice none 0 0) (.slice none 0 0) (w.alloc (.cells #[.int .i64 0, .int .i64 0, .int .u64 0, .slice none 0 0, .slice none 0 0] 52)) := new_block _ _ rfl
  have b1 : Below w.heap.size w (w.alloc (.cells #[.int .i64 0, .int .i64 0, .int .u64 0, .slice none 0 0, .slice none 0 0] 52)) := (Below.refl _ _).alloc (Nat.le_refl _) _
  have CN := Lib.hid (newReader_any s (w.alloc (.cells #[.int .i64 0, .int .i64 0, .int .u64 0, .slice none 0 0, .slice none 0 0] 52)))
  have HZ0 := Lib.hid z1
  have HB0 := Lib.hid b1
  clear z1 b1
  go_enter Tryz.func273, Tryz.ntmps273
  go_wp2_with fail
  go_at_call 284
  (with_reducible refine CN.out.mono ?_)
  rintro _ w1 ⟨rfl, r0, b0, s0⟩
  have e0' : (w.alloc (.cells #[.int .i64 0, .int .i64 0, .int .u64 0, .slice none 0 0, .slice none 0 0] 52)).heap.size = w.heap.size + 1 := by simp
  have z1 := HZ0.out.below b0
  have bb1 := HB0.out.trans (b0.mono HB0.out.size)
  rw [e0'] at r0 s0
  have hX : w1.heap.size = w.heap.size + 2 := s0
  have rr1 : Rdr w1 (w.heap.size + 1) l 0 := Rdr.of r0 (fun _ => HL.out) hs
  obtain ⟨X, hXX⟩ : ∃ X, w1.heap.size = X := ⟨_, rfl⟩
  obtain ⟨W1, hW1⟩ : ∃ W, w1.alloc (.cells #[.int .i64 0, .int .i64 0, .int .u64 0, .slice none 0 0, .slice none 0 0] 52) = W := ⟨_, rfl⟩
  have bw1 : Below w1.heap.size w1 W1 := by rw [← hW1]; exact (Below.refl _ _).alloc (Nat.le_refl _) _
  have HX1 := Lib.hid (show BoxEd X 0 0 0 (.slice none 0 0) (.slice none 0 0) W1 by rw [← hW1]; exact new_block _ _ hXX.symm)
  have HZ1 := Lib.hid (z1.below bw1)
  have HB1 := Lib.hid (bb1.trans (bw1.mono bb1.size))
  have HR1 := Lib.hid (rr1.below bw1 rr1.lt)
  have n1 : X ≠ w.heap.size + 1 := by omega
  have n2 : w.heap.size ≠ w.heap.size + 1 := by omega
  have n3 : X ≠ w.heap.size := by omega
  have hXl : w.heap.size + 2 ≤ X := by omega
  clear r0 b0 s0 hX z1 bb1 rr1 bw1 e0'
  go_wp2_with fail
  try rw [hW1]
  clear hW1 hXX
  go_at_call 285
  (with_reducible refine (C0.out _ _ HR1.out).mono ?_)
  rintro _ w2 ⟨rfl, r2, t2⟩
  have x2 := (HX1.out.turn t2 (by simp; omega))
  have z2 := (HZ1.out.turn t2 (by simp))
  have HB2 := Lib.hid ((HB1.out.trans (t2.below HB1.out.size (fun x hx => by simp at hx; omega))).setCell (p := ⟨X, 0, none⟩) (by show w.heap.size ≤ X; omega) (.int .i64 (a0 : Int)))
  have HX2 := Lib.hid (x2.set 0 (.int .i64 (a0 : Int)) (a0 : Int) 0 0 (.slice none 0 0) (.slice none 0 0) rfl)
  have HZ2 := Lib.hid (z2.setOther (X := X) (o := 0) (u := (.int .i64 (a0 : Int))) n3)
  have HR2 := Lib.hid (r2.setOther (X := X) (o := 0) (u := (.int .i64 (a0 : Int))) n1)
  have hXlt2 := HX1.out.lt
  obtain ⟨W2, hW2⟩ : ∃ W, w2.setCell ⟨X, 0, none⟩ (.int .i64 (a0 : Int)) = W := ⟨_, rfl⟩
  rw [hW2] at HB2 HX2 HZ2 HR2
  have c2 := x2.c0
  have f2 := x2.f 0
  clear x2 z2 r2 t2 C0 HR1 HX1 HZ1 HB1 hXlt2
  go_wp2_with fail
  try rw [hW2]
  clear hW2 c2 f2
  go_at_call 285
  (with_reducible refine (C1.out _ _ HR2.out).mono ?_)
  rintro _ w3 ⟨rfl, r3, t3⟩
  have x3 := (HX2.out.turn t3 (by simp; omega))
  have z3 := (HZ2.out.turn t3 (by simp))
  have HB3 := Lib.hid ((HB2.out.trans (t3.below HB2.out.size (fun x hx => by simp at hx; omega))).setCell (p := ⟨X, 1, none⟩) (by show w.heap.size ≤ X; omega) (.int .i64 (a1 : Int)))
  have HX3 := Lib.hid (x3.set 1 (.int .i64 (a1 : Int)) (a0 : Int) (a1 : Int) 0 (.slice none 0 0) (.slice none 0 0) rfl)
  have HZ3 := Lib.hid (z3.setOther (X := X) (o := 1) (u := (.int .i64 (a1 : Int))) n3)
  have HR3 := Lib.hid (r3.setOther (X := X) (o := 1) (u := (.int .i64 (a1 : Int))) n1)
  have hXlt3 := HX2.out.lt
  obtain ⟨W3, hW3⟩ : ∃ W, w3.setCell ⟨X, 1, none⟩ (.int .i64 (a1 : Int)) = W := ⟨_, rfl⟩
  rw [hW3] at HB3 HX3 HZ3 HR3
  have c3 := x3.c1
  have f3 := x3.f 1
  clear x3 z3 r3 t3 C1 HR2 HX2 HZ2 HB2 hXlt3
  go_wp2_with fail
  try rw [hW3]
  clear hW3 c3 f3
  go_at_call 286
  (with_reducible refine (C2.out _ _ HR3.out).mono ?_)
  rintro _ w4 ⟨rfl, r4, t4⟩
  have x4 := (HX3.out.turn t4 (by simp; omega))
  have z4 := (HZ3.out.turn t4 (by simp))
  have HB4 := Lib.hid ((HB3.out.trans (t4.below HB3.out.size (fun x hx => by simp at hx; omega))).setCell (p := ⟨X, 2, none⟩) (by show w.heap.size ≤ X; omega) (.int .u64 (a2 : Int)))
  have HX4 := Lib.hid (x4.set 2 (.int .u64 (a2 : Int)) (a0 : Int) (a1 : Int) a2 (.slice none 0 0) (.slice none 0 0) rfl)
  have HZ4 := Lib.hid (z4.setOther (X := X) (o := 2) (u := (.int .u64 (a2 : Int))) n3)
  have HR4 := Lib.hid (r4.setOther (X := X) (o := 2) (u := (.int .u64 (a2 : Int))) n1)
  have hXlt4 := HX3.out.lt
  obtain ⟨W4, hW4⟩ : ∃ W, w4.setCell ⟨X, 2, none⟩ (.int .u64 (a2 : Int)) = W := ⟨_, rfl⟩
  rw [hW4] at HB4 HX4 HZ4 HR4
  have c4 := x4.c2
  have f4 := x4.f 2
  clear x4 z4 r4 t4 C2 HR3 HX3 HZ3 HB3 hXlt4
  go_wp2_with fail
  try rw [hW4]
  clear hW4 c4 f4
  go_at_call 287
  (with_reducible refine (C3.out _ _ HR4.out).mono ?_)
  rintro _ w5 ⟨va, vc, rfl, hv5, r5, t5⟩
  have x5 := (HX4.out.turn t5 (by simp; omega))
  have z5 := (HZ4.out.turn t5 (by simp))
  have HB5 := Lib.hid ((HB4.out.trans (t5.below HB4.out.size (fun x hx => by simp at hx; omega))).setCell (p := ⟨X, 3, none⟩) (by show w.heap.size ≤ X; omega) (.slice va m3 vc))
  have HX5 := Lib.hid (x5.set 3 (.slice va m3 vc) (a0 : Int) (a1 : Int) a2 (.slice va m3 vc) (.slice none 0 0) rfl)
  have HZ5 := Lib.hid (z5.setOther (X := X) (o := 3) (u := (.slice va m3 vc)) n3)
  have HR5 := Lib.hid (r5.setOther (X := X) (o := 3) (u := (.slice va m3 vc)) n1)
  have hXlt5 := HX4.out.lt
  have HV5 := Lib.hid (show RowB (w5.setCell ⟨X, 3, none⟩ (.slice va m3 vc)) (.slice va m3 vc) a3 ∧ ∀ k, ob (.slice va m3 vc) = some k → X < k from ⟨Row.kept hv5.1 (fun k hk => heap_setCell_other w5 ⟨X, 3, none⟩ k _ (fun e => by have := hv5.2 k hk; have e' : k = X := e; omega)), fun k hk => by have := hv5.2 k hk; omega⟩)
  clear hv5
  obtain ⟨W5, hW5⟩ : ∃ W, w5.setCell ⟨X, 3, none⟩ (.slice va m3 vc) = W := ⟨_, rfl⟩
  rw [hW5] at HB5 HX5 HZ5 HR5 HV5
  have c5 := x5.c3
  have f5 := x5.f 3
  clear x5 z5 r5 t5 C3 HR4 HX4 HZ4 HB4 hXlt5
  go_wp2_with fail
  try rw [hW5]
  clear hW5 c5 f5
  go_at_call 289
  (with_reducible refine (C4.out _ _ HR5.out).mono ?_)
  rintro _ w6 ⟨da, dc, rfl, hv6, r6, t6⟩
  have x6 := (HX5.out.turn t6 (by simp; omega))
  have z6 := (HZ5.out.turn t6 (by simp))
  have HB6 := Lib.hid ((HB5.out.trans (t6.below HB5.out.size (fun x hx => by simp at hx; omega))).setCell (p := ⟨X, 4, none⟩) (by show w.heap.size ≤ X; omega) (.slice da m4 dc))
  have HX6 := Lib.hid (x6.set 4 (.slice da m4 dc) (a0 : Int) (a1 : Int) a2 (.slice va m3 vc) (.slice da m4 dc) rfl)
  have HZ6 := Lib.hid (z6.setOther (X := X) (o := 4) (u := (.slice da m4 dc)) n3)
  have HR6 := Lib.hid (r6.setOther (X := X) (o := 4) (u := (.slice da m4 dc)) n1)
  have hXlt6 := HX5.out.lt
  have HV6 := Lib.hid (show RowB (w6.setCell ⟨X, 4, none⟩ (.slice da m4 dc)) (.slice va m3 vc) a3 from Row.kept HV5.out.1 (fun k hk => (heap_setCell_other w6 ⟨X, 4, none⟩ k _ (fun e => by have := HV5.out.2 k hk; have e' : k = X := e; omega)).trans (t6.block k (Row.lt HV5.out.1 k hk) (by have := HV5.out.2 k hk; simp; omega))))
  have HD6 := Lib.hid (show RowN (w6.setCell ⟨X, 4, none⟩ (.slice da m4 dc)) (.slice da m4 dc) a4 ∧ (∀ k, ob (.slice da m4 dc) = some k → X < k) ∧ ∀ k, ob (.slice va m3 vc) = some k → ob (.slice da m4 dc) ≠ some k from ⟨Row.kept hv6.1 (fun k hk => heap_setCell_other w6 ⟨X, 4, none⟩ k _ (fun e => by have := hv6.2 k hk; have e' : k = X := e; omega)), fun k hk => by have := hv6.2 k hk; omega, fun k hk hk2 => by have := hv6.2 k hk2; have := Row.lt HV5.out.1 k hk; omega⟩)
  clear hv6
  obtain ⟨W6, hW6⟩ : ∃ W, w6.setCell ⟨X, 4, none⟩ (.slice da m4 dc) = W := ⟨_, rfl⟩
  rw [hW6] at HB6 HX6 HZ6 HR6 HV6 HD6
  have c6 := x6.c4
  have f6 := x6.f 4
  clear x6 z6 r6 t6 C4 HR5 HX5 HZ5 HB5 hXlt6
  go_wp2_with fail
  try rw [hW6]
  clear hW6 c6 f6
  go_at_call 290
  (with_reducible refine (CE.out _ _ HR6.out).mono ?_)
  rintro _ w7 ⟨rfl, rfl⟩
  have k0 := HX6.out.c0
  have k1 := HX6.out.c1
  have k2 := HX6.out.c2
  have k3 := HX6.out.c3
  have k4 := HX6.out.c4
  have m0 := HZ6.out.c0
  have m1 := HZ6.out.c1
  have m2 := HZ6.out.c2
  have m3' := HZ6.out.c3
  have m4' := HZ6.out.c4
  have q0 := HZ6.out.f 0
  have q1 := HZ6.out.f 1
  have q2 := HZ6.out.f 2
  have q3 := HZ6.out.f 3
  have q4 := HZ6.out.f 4
  by_cases he : er = 0
  · subst he
    go_wp2_with fail
    refine bodyPost_ret (by simp [results, Tryz.results273, go_sem, m0, m1, m2, m3', m4']; try rfl) rfl ?_
    refine ⟨⟨.slice va m3 vc, .slice da m4 dc, rfl, ?_, ?_, fun k hk => (by have := HV5.out.2 k hk; omega), fun k hk => (by have := HD6.out.2.1 k hk; omega), HD6.out.2.2⟩, below_set5 HB6.out _ (Nat.le_refl _) _ _ _ _ _⟩
    · exact Row.kept HV6.out (fun k hk => block_set5 _ _ _ _ _ _ _ k (by have := HV5.out.2 k hk; omega))
    · exact Row.kept HD6.out.1 (fun k hk => block_set5 _ _ _ _ _ _ _ k (by have := HD6.out.2.1 k hk; omega))
  · have d1 : (er != 0) = true := by simpa using he
    have HE := Lib.hid he
    clear he
    go_wp2_with fail
    refine bodyPost_ret (by simp [results, Tryz.results273, go_sem, m0, m1, m2, m3', m4']; try rfl) rfl ?_
    exact ⟨.inl ⟨HE.out, rfl⟩, below_set5 HB6.out _ (Nat.le_refl _) _ _ _ _ _⟩
end Go.Proofs.YtlecffpjcjlabaaGreat
