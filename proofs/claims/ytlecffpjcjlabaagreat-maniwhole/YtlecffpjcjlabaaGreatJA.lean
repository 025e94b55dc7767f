/- edit's Apply. -/
import Derived.Test.YtlecffpjcjlabaaGreatJ9
namespace Go.Proofs.YtlecffpjcjlabaaGreat
open Go.RowKit Go.Shelf

def verV (log next : Int) (seq : Nat) (v : Value) : Value := .agg #[.int .i64 log, .int .i64 next, .int .u64 (seq : Int), v]
def ediV (log next : Int) (seq : Nat) (a d : Value) : Value := .agg #[.int .i64 log, .int .i64 next, .int .u64 (seq : Int), a, d]
/-- What Apply answers. -/
def ApplyV (w w' : World) (x : Ending) (v : Vr) (e : Ed) : Prop :=
  (¬ Applies v e ∧ x = .returned (.tuple #[.agg #[.int .i64 0, .int .i64 0, .int .u64 0, .slice none 0 0], .int .i64 4])) ∨
  (Applies v e ∧ ∃ r, x = .returned (.tuple #[verV (nextV v e).log (nextV v e).next (nextV v e).seq r, .int .i64 0]) ∧ RowB w' r (nextV v e).ts ∧ ∀ k, ob r = some k → w.heap.size ≤ k)
def BoxEd (B : Nat) (log next : Int) (seq : Nat) (a d : Value) (w : World) : Prop := w.heap[B]? = some (.cells #[.int .i64 log, .int .i64 next, .int .u64 (seq : Int), a, d] 52)
section
variable {B : Nat} {log next : Int} {seq : Nat} {a d : Value} {w w' : World}
theorem BoxEd.lt (h : BoxEd B log next seq a d w) : B < w.heap.size := (Array.getElem?_eq_some_iff.1 h).1
theorem BoxEd.c0 (h : BoxEd B log next seq a d w) : w.cell? ⟨B, 0, none⟩ = some (.int .i64 log) := by unfold World.cell?; rw [show w.heap[B]? = _ from h]; rfl
theorem BoxEd.c1 (h : BoxEd B log next seq a d w) : w.cell? ⟨B, 1, none⟩ = some (.int .i64 next) := by unfold World.cell?; rw [show w.heap[B]? = _ from h]; rfl
theorem BoxEd.c2 (h : BoxEd B log next seq a d w) : w.cell? ⟨B, 2, none⟩ = some (.int .u64 (seq : Int)) := by unfold World.cell?; rw [show w.heap[B]? = _ from h]; rfl
theorem BoxEd.c3 (h : BoxEd B log next seq a d w) : w.cell? ⟨B, 3, none⟩ = some a := by unfold World.cell?; rw [show w.heap[B]? = _ from h]; rfl
theorem BoxEd.c4 (h : BoxEd B log next seq a d w) : w.cell? ⟨B, 4, none⟩ = some d := by unfold World.cell?; rw [show w.heap[B]? = _ from h]; rfl
theorem BoxEd.f (h : BoxEd B log next seq a d w) (j : Nat) : w.frozen? ⟨B, j, none⟩ = false := by unfold World.frozen?; rw [show w.heap[B]? = _ from h]; simp
theorem BoxEd.below (h : BoxEd B log next seq a d w) (hb : Below w.heap.size w w') : BoxEd B log next seq a d w' := (hb.block B h.lt).trans h
theorem BoxEd.turn {F : List Nat} (h : BoxEd B log next seq a d w) (hb : Turn F w w') (hF : B ∉ F) : BoxEd B log next seq a d w' := (hb.block B h.lt hF).trans h
end
theorem below_set4 {B : Nat} {w0 w : World} (h : Below B w0 w) (X : Nat) (hX : B ≤ X) (v0 v1 v2 v3 : Value) : Below B w0 ((((w.setCell ⟨X, 0, none⟩ v0).setCell ⟨X, 1, none⟩ v1).setCell ⟨X, 2, none⟩ v2).setCell ⟨X, 3, none⟩ v3) :=
  (((h.setCell (p := ⟨X, 0, none⟩) hX v0).setCell (p := ⟨X, 1, none⟩) hX v1).setCell (p := ⟨X, 2, none⟩) hX v2).setCell (p := ⟨X, 3, none⟩) hX v3
theorem block_set4 (w : World) (X : Nat) (v0 v1 v2 v3 : Value) (k : Nat) (hk : k ≠ X) : ((((w.setCell ⟨X, 0, none⟩ v0).setCell ⟨X, 1, none⟩ v1).setCell ⟨X, 2, none⟩ v2).setCell ⟨X, 3, none⟩ v3).heap[k]? = w.heap[k]? := by
  rw [Below.heap_setCell _ _ _ _ hk, Below.heap_setCell _ _ _ _ hk, Below.heap_setCell _ _ _ _ hk, Below.heap_setCell _ _ _ _ hk]
set_option maxHeartbeats 8000000 in
set_option maxRecDepth 100000 in
theorem apply_any (v : Vr) (e : Ed) (vv va vd : Value) (w : World) (hT : TbsV w vv v.ts) (hA : TbsV w va e.add) (hD : IntsV w vd e.drop) (hl : v.ts.length ≤ 10000) (hl1 : e.add.length ≤ 10000) (hl2 : e.drop.length ≤ 10000)
    (hok : ∀ t ∈ v.ts, t.Ok ∧ t.Short) (hok1 : ∀ t ∈ e.add, t.Ok ∧ t.Short) (hok2 : ∀ k ∈ e.drop, -9223372036854775808 ≤ k ∧ k ≤ 9223372036854775807) :
    Calls Tryz.prog 28 #[verV v.log v.next v.seq vv, ediV e.log e.next e.seq va vd] w fun x w' => ApplyV w w' x v e ∧ Below w.heap.size w w' := by
  obtain ⟨W1, hW1⟩ : ∃ W1, ((w.alloc (.cells #[.int .i64 v.log, .int .i64 v.next, .int .u64 (v.seq : Int), vv] 63)).alloc (.cells #[.int .i64 e.log, .int .i64 e.next, .int .u64 (e.seq : Int), va, vd] 52)).alloc (.cells #[.int .i64 0, .int .i64 0, .int .u64 0, .slice none 0 0] 63) = W1 := ⟨_, rfl⟩
  have b1 : Below w.heap.size w W1 := by rw [← hW1]; exact (((Below.refl _ _).alloc (Nat.le_refl _) _).alloc (by simp) _).alloc (by simp; omega) _
  have x1 : BoxV w.heap.size v.log v.next v.seq vv W1 := by rw [← hW1]; exact (Below.heap_alloc _ _ _ (by simp; omega)).trans ((Below.heap_alloc _ _ _ (by simp)).trans (new_block _ _ rfl))
  have y1 : BoxEd (w.heap.size + 1) e.log e.next e.seq va vd W1 := by rw [← hW1]; exact (Below.heap_alloc _ _ _ (by simp)).trans (new_block _ _ (by simp))
  have z1 : BoxV (w.heap.size + 2) 0 0 0 (.slice none 0 0) W1 := by rw [← hW1]; exact new_block _ _ (by simp)
  have s1 : W1.heap.size = w.heap.size + 3 := by rw [← hW1]; simp
  have HS1 := Lib.hid s1
  obtain ⟨M1, hM1⟩ : ∃ M, max v.log e.log = M := ⟨_, rfl⟩
  obtain ⟨M2, hM2⟩ : ∃ M, max v.next e.next = M := ⟨_, rfl⟩
  obtain ⟨M3, hM3⟩ : ∃ M, max v.seq e.seq = M := ⟨_, rfl⟩
  have hx1 : ∀ (ts : Array TypeId) (t : TypeId) (w : World), (Builtin.max_ ts t #[.int .i64 v.log, .int .i64 e.log]).run Tryz.prog w = .ok (.int .i64 M1) w := fun ts t w => by
    rw [run_max_int2]; congr 2; split <;> omega
  have hx2 : ∀ (ts : Array TypeId) (t : TypeId) (w : World), (Builtin.max_ ts t #[.int .i64 v.next, .int .i64 e.next]).run Tryz.prog w = .ok (.int .i64 M2) w := fun ts t w => by
    rw [run_max_int2]; congr 2; split <;> omega
  have hx3 : ∀ (ts : Array TypeId) (t : TypeId) (w : World), (Builtin.max_ ts t #[.int .u64 (v.seq : Int), .int .u64 (e.seq : Int)]).run Tryz.prog w = .ok (.int .u64 (M3 : Int)) w := fun ts t w => by
    rw [run_max_int2]; congr 2; split <;> omega
  have HNV := Lib.hid (show nextV v e = ⟨M1, M2, M3, ordT (leftT v.ts e.drop ++ e.add)⟩ by unfold nextV; rw [hM1, hM2, hM3])
  have HAP := Lib.hid (show e.drop.all (there v.ts) = false → ¬ Applies v e from fun h hq => by
    rw [List.all_eq_false] at h
    obtain ⟨n, hn, h2⟩ := h
    exact h2 (hq.1 n hn))
  have HAQ := Lib.hid (show e.drop.all (there v.ts) = true → (Applies v e ↔ RightV (nextV v e)) from fun h => ⟨fun hq => hq.2, fun hq => ⟨List.all_eq_true.1 h, hq⟩⟩)
  have C1 := Lib.hid (without_any vv vd v.ts e.drop W1 (hT.below b1) (hD.below b1) (by omega) (by omega) (fun t ht => (hok t ht).1) hok2)
  have HA := Lib.hid (hA.below b1)
  have HKL := Lib.hid (show ∀ t ∈ leftT v.ts e.drop ++ e.add, t.Ok ∧ t.Short from fun t ht => by
    rcases List.mem_append.1 ht with h | h
    · exact hok t (List.mem_filter.1 h).1
    · exact hok1 t h)
  have HLL := Lib.hid (show (leftT v.ts e.drop).length ≤ 10000 from Nat.le_trans (leftT_len _ _) hl)
  have HLK := Lib.hid (show ∀ S : List Tb, S.Perm (leftT v.ts e.drop ++ e.add) → Stands S → (lookB ⟨M1, M2, M3, S⟩ = true ↔ RightV (nextV v e)) from fun S hp hs => by
    rw [lookB_iff, ← nextV_look hp hs, HNV.out])
  have HON := Lib.hid (show ∀ S : List Tb, S.Perm (leftT v.ts e.drop ++ e.add) → Stands S → RightV (nextV v e) → S = (nextV v e).ts from fun S hp hs h => nextV_one hp hs h)
  obtain ⟨aa, ac, hav⟩ := hA.len
  obtain ⟨ta, tc, htv⟩ := hT.len
  obtain ⟨da, dc, hdv⟩ := hD.len
  subst hav htv hdv
  have hla := hl1
  obtain ⟨L, hLL⟩ : ∃ L, leftT v.ts e.drop = L := ⟨_, rfl⟩
  rw [hLL] at HNV HKL HLL HLK HON
  have HLE := Lib.hid hLL
  clear hLL
  unfold verV ediV
  have c3 := x1.c3
  have f3 := y1.c3
  have f4 := y1.c4
  have HX1 := Lib.hid x1
  have HY1 := Lib.hid y1
  have HZ1 := Lib.hid z1
  have HB1 := Lib.hid b1
  obtain ⟨i0, hi0, hz0, hzs, hzb⟩ := info_partsT infoTab
  clear hT hA hD hok hok1 hok2 x1 y1 z1 b1 hM1 hM2 hM3
  go_enter Tryz.func28, Tryz.ntmps28
  go_wp2_with fail
  try rw [hW1]
  clear hW1 s1
  go_at_call 134
  (with_reducible refine C1.out.mono ?_)
  rintro _ w2 ⟨hwo, hb2⟩
  have x2 := HX1.out.below hb2
  have y2 := HY1.out.below hb2
  have z2 := HZ1.out.below hb2
  have HB2 := Lib.hid (HB1.out.trans (hb2.mono HB1.out.size))
  have HX2 := Lib.hid x2
  have HY2 := Lib.hid y2
  have HZ2 := Lib.hid z2
  have HA2 := Lib.hid (HA.out.below hb2)
  have hs2 := hb2.size
  rw [HS1.out] at hs2
  rcases hwo with ⟨hall, rfl⟩ | ⟨hall, v6, rfl, hr6, ho6⟩
  · have HNA := Lib.hid (HAP.out hall)
    have r0 := z2.c0
    have r1 := z2.c1
    have r2 := z2.c2
    have r3 := z2.c3
    have g0 := z2.f 0
    have g1 := z2.f 1
    have g2 := z2.f 2
    have g3 := z2.f 3
    clear x2 y2 z2 hall C1
    go_wp2
    refine bodyPost_ret (by simp [results, Tryz.results28, go_sem, r0, r1, r2, r3]; try rfl) rfl ?_
    exact ⟨.inl ⟨HNA.out, rfl⟩, below_set4 HB2.out _ (by omega) _ _ _ _⟩
  · rw [HLE.out] at hr6
    have HALL := Lib.hid (HAQ.out hall)
    obtain ⟨a6, c6, rfl⟩ := hr6.short
    have HR6 := Lib.hid hr6
    have HO6 := Lib.hid (show ∀ k, ob (.slice a6 L.length c6) = some k → w.heap.size + 3 ≤ k from fun k hk => by have h := ho6 k hk; have h2 := HS1.out; omega)
    have HSR := Lib.hid HA2.out.src
    have H1 := Lib.hid (show L.length + e.add.length ≤ maxLen by have := HLL.out; unfold maxLen; omega)
    have H2 := Lib.hid (show (L.length + e.add.length) * 56 ≤ 140737488355328 by have := HLL.out; omega)
    have k3 := y2.c3
    clear x2 y2 z2 hall C1 hr6 ho6
    go_wp2_with (at_builtin; refine wpList_append_row _ rfl _ _ 49 49 rfl 89 i0 _ 5 56 Tryz.underlying49 hi0 hz0 hzs hzb rfl (.slice a6 L.length c6) _ _ rfl HR6.out _ rfl e.add.length _ HSR.out H1.out H2.out ?_; intro v7 w3 hrow3 hgrow3 hob3)
    have hr7 : RowB w3 v7 (L ++ e.add) := by
      unfold RowB
      rw [List.length_append, cellsT_append]
      exact hrow3
    have t3 : Turn (ob (.slice a6 L.length c6)).toList w2 w3 := turn_of_grown hgrow3 (fun k hk => .inl (by rw [hk]; simp))
    have hn6 : ∀ k, k < w.heap.size + 3 → k ∉ (ob (.slice a6 L.length c6)).toList := fun k hk h => by have := HO6.out k (by simpa using h); omega
    have ho7 : ∀ k, ob v7 = some k → w.heap.size + 3 ≤ k := fun k hk => by
      rcases hob3 with q | ⟨q, -⟩
      · exact HO6.out k (by rw [← q]; exact hk)
      · rw [q] at hk; cases hk; exact hs2
    have HB3 := Lib.hid (show Below w.heap.size w w3 from HB2.out.trans (t3.below HB2.out.size (fun k hk => by have := HO6.out k (by simpa using hk); omega)))
    have hs3 : w.heap.size + 3 ≤ w3.heap.size := Nat.le_trans hs2 t3.size
    have x3 := HX2.out.turn t3 (hn6 _ (by omega))
    have y3 := HY2.out.turn t3 (hn6 _ (by omega))
    have z3 := HZ2.out.turn t3 (hn6 _ (by omega))
    obtain ⟨m7, hm7⟩ : ∃ m, (L ++ e.add).length = m := ⟨_, rfl⟩
    have hm7b : m7 ≤ 20000 := by rw [← hm7, List.length_append]; have := HLL.out; omega
    obtain ⟨a7, c7, h7⟩ := hr7.short
    rw [hm7] at h7
    subst h7
    have HM7 := Lib.hid hm7
    clear hm7
    have C2 := Lib.hid (sortT_any (L ++ e.add) _ w3 hr7 (by rw [List.length_append]; have := HLL.out; omega))
    have HO7 := Lib.hid ho7
    have HX3 := Lib.hid x3
    have HY3 := Lib.hid y3
    have HZ3 := Lib.hid z3
    clear hr7 hrow3 hgrow3 hob3 ho7 x3 y3 z3 hn6 t3 HSR HR6 k3
    go_wp2_with fail
    go_at_call 135
    (with_reducible refine C2.out.mono ?_)
    rintro _ w4 ⟨rfl, S, hp, hs, hr8, t4⟩
    have hn7 : ∀ k, k < w.heap.size + 3 → k ∉ (ob (.slice a7 m7 c7)).toList := fun k hk h => by have := HO7.out k (by simpa using h); omega
    have HB4 := Lib.hid (show Below w.heap.size w w4 from HB3.out.trans (t4.below HB3.out.size (fun k hk => by have := HO7.out k (by simpa using hk); omega)))
    have hs4 : w.heap.size + 3 ≤ w4.heap.size := Nat.le_trans hs3 t4.size
    have x4 := HX3.out.turn t4 (hn7 _ (by omega))
    have y4 := HY3.out.turn t4 (hn7 _ (by omega))
    have z4 := HZ3.out.turn t4 (hn7 _ (by omega))
    have p0 := x4.c0
    have p1 := x4.c1
    have p2 := x4.c2
    have q0 := y4.c0
    have q1 := y4.c1
    have q2 := y4.c2
    obtain ⟨W5, hW5⟩ : ∃ W5, w4.alloc (.cells #[.int .i64 M1, .int .i64 M2, .int .u64 (M3 : Int), .slice a7 m7 c7] 63) = W5 := ⟨_, rfl⟩
    have b5 : Below w4.heap.size w4 W5 := by rw [← hW5]; exact (Below.refl _ _).alloc (Nat.le_refl _) _
    have x5 : BoxV w4.heap.size M1 M2 M3 (.slice a7 m7 c7) W5 := by rw [← hW5]; exact new_block _ _ rfl
    have e0 := x5.c0
    have e1 := x5.c1
    have e2 := x5.c2
    have e3 := x5.c3
    have hr5 : RowB W5 (.slice a7 m7 c7) S := Row.kept hr8 (fun k hk => b5.block k (Row.lt hr8 k hk))
    have hSl : S.length ≤ 100000 := by rw [hp.length_eq, HM7.out]; omega
    have C3 := Lib.hid (isRight_any M1 M2 M3 _ S W5 hr5.v hSl (fun t ht => (HKL.out t (hp.mem_iff.1 ht)).1))
    have HRT := Lib.hid (HLK.out S hp hs)
    have HSE := Lib.hid (HON.out S hp hs)
    have HSS := Lib.hid (show ∀ t ∈ S, t.Short from fun t ht => (HKL.out t (hp.mem_iff.1 ht)).2)
    have HX5 := Lib.hid x5
    have HZ5 := Lib.hid (z4.below b5)
    have HB5 := Lib.hid (HB4.out.trans (b5.mono HB4.out.size))
    have HR5 := Lib.hid hr5
    have hs5 : W5.heap.size = w4.heap.size + 1 := by rw [← hW5]; simp
    have HS5 := Lib.hid hs5
    have HSL := Lib.hid hSl
    generalize lookB ⟨M1, M2, M3, S⟩ = R at *
    clear hp hs hr8 t4 hn7 x4 y4 z4 b5 x5 hr5 hs5 hSl C2
    go_wp2_with fail
    try rw [hW5]
    clear hW5 p0 p1 p2 q0 q1 q2
    go_at_call 137
    (with_reducible refine C3.out.mono ?_)
    rintro _ w6 ⟨rfl, hb6⟩
    have z6 := HZ5.out.below hb6
    have x6 := HX5.out.below hb6
    have HB6 := Lib.hid (HB5.out.trans (hb6.mono HB5.out.size))
    cases R with
    | false =>
      have HNA := Lib.hid (show ¬ Applies v e from fun h => by
        have := HRT.out.2 (HALL.out.1 h)
        cases this)
      have r0 := z6.c0
      have r1 := z6.c1
      have r2 := z6.c2
      have r3 := z6.c3
      have g0 := z6.f 0
      have g1 := z6.f 1
      have g2 := z6.f 2
      have g3 := z6.f 3
      clear z6 x6 C3
      go_wp2
      refine bodyPost_ret (by simp [results, Tryz.results28, go_sem, r0, r1, r2, r3]; try rfl) rfl ?_
      exact ⟨.inl ⟨HNA.out, rfl⟩, below_set4 HB6.out _ (by omega) _ _ _ _⟩
    | true =>
      have HYA := Lib.hid (HALL.out.2 (HRT.out.1 rfl))
      have hSE := HSE.out (HRT.out.1 rfl)
      have C4 := Lib.hid (copies_any _ S w6 (HR5.out.v.below hb6) HSL.out HSS.out)
      have HZ6 := Lib.hid z6
      have HX6 := Lib.hid x6
      have hs6 := hb6.size
      rw [HS5.out] at hs6
      have HSE' := Lib.hid hSE
      clear z6 x6 C3 hSE
      go_wp2_with fail
      go_at_call 138
      (with_reducible refine C4.out.mono ?_)
      rintro _ w7 ⟨v8, rfl, hr9, hb7, ho9⟩
      obtain ⟨a8, c8, rfl⟩ := hr9.short
      have x7 := HX6.out.below hb7
      have z7 := HZ6.out.below hb7
      have m3 := x7.c3
      have mf := x7.f 3
      have x8 := x7.set3 (.slice a8 S.length c8)
      have hne : w.heap.size + 2 ≠ w4.heap.size := by omega
      have z8 : BoxV (w.heap.size + 2) 0 0 0 (.slice none 0 0) (w7.setCell ⟨w4.heap.size, 3, none⟩ (.slice a8 S.length c8)) := (heap_setCell_other w7 ⟨w4.heap.size, 3, none⟩ _ _ hne).trans z7
      have HB8 := Lib.hid (show Below w.heap.size w (w7.setCell ⟨w4.heap.size, 3, none⟩ (.slice a8 S.length c8)) from (HB6.out.trans (hb7.mono HB6.out.size)).setCell (p := ⟨w4.heap.size, 3, none⟩) (by have := HB4.out.size; exact this) _)
      have hk8 : ∀ k, ob (.slice a8 S.length c8) = some k → k ≠ w4.heap.size ∧ k ≠ w.heap.size + 2 ∧ w.heap.size ≤ k := fun k hk => by have := ho9 k hk; omega
      have HR8 := Lib.hid (show RowB (w7.setCell ⟨w4.heap.size, 3, none⟩ (.slice a8 S.length c8)) (.slice a8 S.length c8) S from Row.kept hr9 (fun k hk => heap_setCell_other w7 ⟨w4.heap.size, 3, none⟩ k _ (hk8 k hk).1))
      obtain ⟨W8, hW8⟩ : ∃ W8, w7.setCell ⟨w4.heap.size, 3, none⟩ (.slice a8 S.length c8) = W8 := ⟨_, rfl⟩
      rw [hW8] at x8 z8 HB8 HR8
      have r0 := z8.c0
      have r1 := z8.c1
      have r2 := z8.c2
      have r3 := z8.c3
      have g0 := z8.f 0
      have g1 := z8.f 1
      have g2 := z8.f 2
      have g3 := z8.f 3
      have l0 := x8.c0
      have l1 := x8.c1
      have l2 := x8.c2
      have l3 := x8.c3
      have HK8 := Lib.hid hk8
      clear x7 z7 x8 z8 hr9 ho9 hk8 C4
      go_upto_region 10 with fail
      try rw [hW8]
      clear hW8 m3 mf
      go_wp2
      refine bodyPost_ret (by simp [results, Tryz.results28, go_sem, r0, r1, r2, r3]; try rfl) rfl ?_
      refine ⟨.inr ⟨HYA.out, .slice a8 S.length c8, ?_, ?_, fun k hk => (HK8.out k hk).2.2⟩, below_set4 HB8.out _ (by omega) _ _ _ _⟩
      · rw [HNV.out]
        rfl
      · rw [← HSE'.out]
        exact Row.kept HR8.out (fun k hk => block_set4 _ _ _ _ _ _ k (HK8.out k hk).2.1)
end Go.Proofs.YtlecffpjcjlabaaGreat
