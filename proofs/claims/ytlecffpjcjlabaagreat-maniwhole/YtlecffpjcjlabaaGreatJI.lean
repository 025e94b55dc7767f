/- edit's readTable. -/
import Derived.Test.YtlecffpjcjlabaaGreatJH
import Derived.Test.YtlecffpjcjlabaaGreatJB
namespace Go.Proofs.YtlecffpjcjlabaaGreat
open Go.RowKit Go.Shelf

set_option maxHeartbeats 4000000 in
set_option maxRecDepth 100000 in
theorem readTable_any {w : World} {b : Nat} {l : List UInt8} {e : Int} (h : Rdr w b l e) :
    Calls Tryz.prog 288 #[.pointer (some ⟨b, 0, none⟩)] w fun x w' => x = .returned (rdTb l e).1.val ∧ Rdr w' b (rdTb l e).2.1 (rdTb l e).2.2 ∧ Turn [b] w w' := by
  have hbw := h.lt
  obtain ⟨W1, hW1⟩ : ∃ W1, (w.alloc (.cells #[.int .i64 0, .int .i64 0, .int .i64 0, .string ⟨#[]⟩, .string ⟨#[]⟩] 89)).alloc (.cells #[.int .i64 0, .int .i64 0, .int .i64 0, .string ⟨#[]⟩, .string ⟨#[]⟩] 89) = W1 := ⟨_, rfl⟩
  have b1 : Below w.heap.size w W1 := by rw [← hW1]; exact ((Below.refl _ _).alloc (Nat.le_refl _) _).alloc (by simp) _
  have z1 : BoxB w.heap.size Tb.zero W1 := by rw [← hW1]; exact (Below.heap_alloc _ _ _ (by simp)).trans (new_block _ _ rfl)
  have x1 : BoxB (w.heap.size + 1) Tb.zero W1 := by rw [← hW1]; exact new_block _ _ (by simp)
  have T1 : Turn [b] w W1 := turn_of_below b1
  have r1 : Rdr W1 b l e := h.below b1 hbw
  have n1 : w.heap.size ≠ b := by omega
  have n2 : w.heap.size + 1 ≠ b := by omega
  unfold rdTb
  have C0 := Lib.hid (fun (W : World) (h : Rdr W b l e) => readInt_any h)
  obtain ⟨p0, hp0⟩ : ∃ p, rdI l e = p := ⟨_, rfl⟩
  rw [hp0] at C0 ⊢
  clear hp0
  obtain ⟨a0, l0, e0⟩ := p0
  simp only at C0 ⊢
  have C1 := Lib.hid (fun (W : World) (h : Rdr W b l0 e0) => readInt_any h)
  obtain ⟨p1, hp1⟩ : ∃ p, rdI l0 e0 = p := ⟨_, rfl⟩
  rw [hp1] at C1 ⊢
  clear hp1
  obtain ⟨a1, l1, e1⟩ := p1
  simp only at C1 ⊢
  have C2 := Lib.hid (fun (W : World) (h : Rdr W b l1 e1) => readInt_any h)
  obtain ⟨p2, hp2⟩ : ∃ p, rdI l1 e1 = p := ⟨_, rfl⟩
  rw [hp2] at C2 ⊢
  clear hp2
  obtain ⟨a2, l2, e2⟩ := p2
  simp only at C2 ⊢
  have C3 := Lib.hid (fun (W : World) (h : Rdr W b l2 e2) => pr_text 300 (by omega) h)
  obtain ⟨p3, hp3⟩ : ∃ p, rdT 300 l2 e2 = p := ⟨_, rfl⟩
  rw [hp3] at C3 ⊢
  clear hp3
  obtain ⟨a3, l3, e3⟩ := p3
  simp only at C3 ⊢
  have C4 := Lib.hid (fun (W : World) (h : Rdr W b l3 e3) => pr_text 300 (by omega) h)
  obtain ⟨p4, hp4⟩ : ∃ p, rdT 300 l3 e3 = p := ⟨_, rfl⟩
  rw [hp4] at C4 ⊢
  clear hp4
  obtain ⟨a4, l4, e4⟩ := p4
  simp only at C4 ⊢
  have HZ1 := Lib.hid z1
  have HX1 := Lib.hid x1
  have HT1 := Lib.hid T1
  have HR1 := Lib.hid r1
  clear h b1 z1 x1 T1 r1
  go_enter Tryz.func288, Tryz.ntmps288
  go_wp2_with fail
  try rw [hW1]
  clear hW1
  go_at_call 285
  (with_reducible refine (C0.out _ HR1.out).mono ?_)
  rintro _ w2 ⟨rfl, r2, g2⟩
  have x2 := (HX1.out.grown g2 n2)
  have z2 := (HZ1.out.grown g2 n1)
  have HT2 := Lib.hid ((HT1.out.trans (turn_of_grown (F := [b]) g2 (fun k hk => .inl (by cases hk; simp))) (fun x hx => .inl hx)).setCell (p := ⟨w.heap.size + 1, 0, none⟩) (.inr (Nat.le_succ _)) (.int .i64 (a0 : Int)))
  have HX2 := Lib.hid (x2.set 0 (.int .i64 (a0 : Int)) ⟨(a0 : Int), 0, 0, ⟨#[]⟩, ⟨#[]⟩⟩ rfl)
  have HZ2 := Lib.hid (z2.setOther (X := w.heap.size + 1) (o := 0) (u := (.int .i64 (a0 : Int))) (by omega))
  have HR2 := Lib.hid (r2.setOther (X := w.heap.size + 1) (o := 0) (u := (.int .i64 (a0 : Int))) n2)
  obtain ⟨W2, hW2⟩ : ∃ W, w2.setCell ⟨w.heap.size + 1, 0, none⟩ (.int .i64 (a0 : Int)) = W := ⟨_, rfl⟩
  rw [hW2] at HT2 HX2 HZ2 HR2
  have c2 := x2.c0
  have f2 := x2.fz 0
  try simp only at c2
  clear x2 z2 r2 g2 C0 HR1 HX1 HZ1 HT1
  go_wp2_with fail
  try rw [hW2]
  clear hW2 c2 f2
  go_at_call 285
  (with_reducible refine (C1.out _ HR2.out).mono ?_)
  rintro _ w3 ⟨rfl, r3, g3⟩
  have x3 := (HX2.out.grown g3 n2)
  have z3 := (HZ2.out.grown g3 n1)
  have HT3 := Lib.hid ((HT2.out.trans (turn_of_grown (F := [b]) g3 (fun k hk => .inl (by cases hk; simp))) (fun x hx => .inl hx)).setCell (p := ⟨w.heap.size + 1, 1, none⟩) (.inr (Nat.le_succ _)) (.int .i64 (a1 : Int)))
  have HX3 := Lib.hid (x3.set 1 (.int .i64 (a1 : Int)) ⟨(a0 : Int), (a1 : Int), 0, ⟨#[]⟩, ⟨#[]⟩⟩ rfl)
  have HZ3 := Lib.hid (z3.setOther (X := w.heap.size + 1) (o := 1) (u := (.int .i64 (a1 : Int))) (by omega))
  have HR3 := Lib.hid (r3.setOther (X := w.heap.size + 1) (o := 1) (u := (.int .i64 (a1 : Int))) n2)
  obtain ⟨W3, hW3⟩ : ∃ W, w3.setCell ⟨w.heap.size + 1, 1, none⟩ (.int .i64 (a1 : Int)) = W := ⟨_, rfl⟩
  rw [hW3] at HT3 HX3 HZ3 HR3
  have c3 := x3.c1
  have f3 := x3.fz 1
  try simp only at c3
  clear x3 z3 r3 g3 C1 HR2 HX2 HZ2 HT2
  go_wp2_with fail
  try rw [hW3]
  clear hW3 c3 f3
  go_at_call 285
  (with_reducible refine (C2.out _ HR3.out).mono ?_)
  rintro _ w4 ⟨rfl, r4, g4⟩
  have x4 := (HX3.out.grown g4 n2)
  have z4 := (HZ3.out.grown g4 n1)
  have HT4 := Lib.hid ((HT3.out.trans (turn_of_grown (F := [b]) g4 (fun k hk => .inl (by cases hk; simp))) (fun x hx => .inl hx)).setCell (p := ⟨w.heap.size + 1, 2, none⟩) (.inr (Nat.le_succ _)) (.int .i64 (a2 : Int)))
  have HX4 := Lib.hid (x4.set 2 (.int .i64 (a2 : Int)) ⟨(a0 : Int), (a1 : Int), (a2 : Int), ⟨#[]⟩, ⟨#[]⟩⟩ rfl)
  have HZ4 := Lib.hid (z4.setOther (X := w.heap.size + 1) (o := 2) (u := (.int .i64 (a2 : Int))) (by omega))
  have HR4 := Lib.hid (r4.setOther (X := w.heap.size + 1) (o := 2) (u := (.int .i64 (a2 : Int))) n2)
  obtain ⟨W4, hW4⟩ : ∃ W, w4.setCell ⟨w.heap.size + 1, 2, none⟩ (.int .i64 (a2 : Int)) = W := ⟨_, rfl⟩
  rw [hW4] at HT4 HX4 HZ4 HR4
  have c4 := x4.c2
  have f4 := x4.fz 2
  try simp only at c4
  clear x4 z4 r4 g4 C2 HR3 HX3 HZ3 HT3
  go_wp2_with fail
  try rw [hW4]
  clear hW4 c4 f4
  go_at_call 307
  (with_reducible refine (C3.out _ HR4.out).mono ?_)
  rintro _ w5 ⟨rfl, r5, g5⟩
  have x5 := (HX4.out.grown g5 n2)
  have z5 := (HZ4.out.grown g5 n1)
  have HT5 := Lib.hid ((HT4.out.trans (turn_of_grown (F := [b]) g5 (fun k hk => .inl (by cases hk; simp))) (fun x hx => .inl hx)).setCell (p := ⟨w.heap.size + 1, 3, none⟩) (.inr (Nat.le_succ _)) (.string ⟨a3.toArray⟩))
  have HX5 := Lib.hid (x5.set 3 (.string ⟨a3.toArray⟩) ⟨(a0 : Int), (a1 : Int), (a2 : Int), ⟨a3.toArray⟩, ⟨#[]⟩⟩ rfl)
  have HZ5 := Lib.hid (z5.setOther (X := w.heap.size + 1) (o := 3) (u := (.string ⟨a3.toArray⟩)) (by omega))
  have HR5 := Lib.hid (r5.setOther (X := w.heap.size + 1) (o := 3) (u := (.string ⟨a3.toArray⟩)) n2)
  obtain ⟨W5, hW5⟩ : ∃ W, w5.setCell ⟨w.heap.size + 1, 3, none⟩ (.string ⟨a3.toArray⟩) = W := ⟨_, rfl⟩
  rw [hW5] at HT5 HX5 HZ5 HR5
  have c5 := x5.c3
  have f5 := x5.fz 3
  try simp only at c5
  clear x5 z5 r5 g5 C3 HR4 HX4 HZ4 HT4
  go_wp2_with fail
  try rw [hW5]
  clear hW5 c5 f5
  go_at_call 307
  (with_reducible refine (C4.out _ HR5.out).mono ?_)
  rintro _ w6 ⟨rfl, r6, g6⟩
  have x6 := (HX5.out.grown g6 n2)
  have z6 := (HZ5.out.grown g6 n1)
  have HT6 := Lib.hid ((HT5.out.trans (turn_of_grown (F := [b]) g6 (fun k hk => .inl (by cases hk; simp))) (fun x hx => .inl hx)).setCell (p := ⟨w.heap.size + 1, 4, none⟩) (.inr (Nat.le_succ _)) (.string ⟨a4.toArray⟩))
  have HX6 := Lib.hid (x6.set 4 (.string ⟨a4.toArray⟩) ⟨(a0 : Int), (a1 : Int), (a2 : Int), ⟨a3.toArray⟩, ⟨a4.toArray⟩⟩ rfl)
  have HZ6 := Lib.hid (z6.setOther (X := w.heap.size + 1) (o := 4) (u := (.string ⟨a4.toArray⟩)) (by omega))
  have HR6 := Lib.hid (r6.setOther (X := w.heap.size + 1) (o := 4) (u := (.string ⟨a4.toArray⟩)) n2)
  obtain ⟨W6, hW6⟩ : ∃ W, w6.setCell ⟨w.heap.size + 1, 4, none⟩ (.string ⟨a4.toArray⟩) = W := ⟨_, rfl⟩
  rw [hW6] at HT6 HX6 HZ6 HR6
  have c6 := x6.c4
  have f6 := x6.fz 4
  try simp only at c6
  clear x6 z6 r6 g6 C4 HR5 HX5 HZ5 HT5
  go_upto_region 7 with fail
  try rw [hW6]
  clear hW6 c6 f6
  have k0 := HX6.out.c0
  have k1 := HX6.out.c1
  have k2 := HX6.out.c2
  have k3 := HX6.out.c3
  have k4 := HX6.out.c4
  have m0 := HZ6.out.c0
  have m1 := HZ6.out.c1
  have m2 := HZ6.out.c2
  have m3 := HZ6.out.c3
  have m4 := HZ6.out.c4
  have q0 := HZ6.out.fz 0
  have q1 := HZ6.out.fz 1
  have q2 := HZ6.out.fz 2
  have q3 := HZ6.out.fz 3
  have q4 := HZ6.out.fz 4
  try simp only at k0 k1 k2 k3 k4
  go_wp2_with fail
  refine bodyPost_ret (by simp [results, Tryz.results288, go_sem, m0, m1, m2, m3, m4]; try rfl) rfl ?_
  refine ⟨rfl, ((((HR6.out.setOther n1).setOther n1).setOther n1).setOther n1).setOther n1, ?_⟩
  exact ((((HT6.out.setCell (p := ⟨w.heap.size, 0, none⟩) (.inr (Nat.le_refl _)) _).setCell (p := ⟨w.heap.size, 1, none⟩) (.inr (Nat.le_refl _)) _).setCell (p := ⟨w.heap.size, 2, none⟩) (.inr (Nat.le_refl _)) _).setCell (p := ⟨w.heap.size, 3, none⟩) (.inr (Nat.le_refl _)) _).setCell (p := ⟨w.heap.size, 4, none⟩) (.inr (Nat.le_refl _)) _
end Go.Proofs.YtlecffpjcjlabaaGreat
