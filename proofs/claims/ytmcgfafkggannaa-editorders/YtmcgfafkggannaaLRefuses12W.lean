/- EditRefuses, walked. -/
import Derived.Test.YtmcgfafkggannaaJL
namespace Go.Proofs.Ytmcgfafkggannaa
open Go.RowKit Go.Shelf

theorem applies_new (l nx : Int) (sq : Nat) (add : List Tb) (hl : 0 ≤ l) (hn : 0 ≤ nx) : Applies Vr.zero ⟨l, nx, sq, add, []⟩ ↔ RightV ⟨l, nx, sq, add⟩ := by
  have e : nextV Vr.zero ⟨l, nx, sq, add, []⟩ = ⟨l, nx, sq, ordT add⟩ := by
    unfold nextV
    have h1 : max Vr.zero.log l = l := by show max 0 l = l; omega
    have h2 : max Vr.zero.next nx = nx := by show max 0 nx = nx; omega
    have h3 : max Vr.zero.seq sq = sq := by show max 0 sq = sq; omega
    have h4 : leftT Vr.zero.ts [] ++ add = add := rfl
    simp only
    rw [h1, h2, h3, h4]
  unfold Applies
  rw [e]
  have hp := (ordT_both add).1
  constructor
  · rintro ⟨-, h⟩
    exact h.perm (ts := add) hp.symm
  · intro h
    exact ⟨(fun n hn => by cases hn), h.perm (ts := ordT add) hp⟩
/-- What EditRefuses goes on with. -/
structure GoodR (n sz : Int) (f l : ByteArray) : Prop where
  n0 : 0 ≤ n
  n1 : n ≤ 1000
  s0 : 1 ≤ sz
  s1 : sz ≤ 1099511627776
  fl : cmpS l f ≠ -1
  f3 : f.size ≤ 300
  l3 : l.size ≤ 300
section
variable {n sz : Int} {f l : ByteArray}
theorem GoodR.tab (h : GoodR n sz f l) {m lv : Int} (h1 : 0 ≤ m ∧ m ≤ 1001) (h2 : 0 ≤ lv ∧ lv ≤ 3) : TabOk 2000 ⟨m, lv, sz, f, l⟩ := by
  obtain ⟨a, b, c, d, e, g, i⟩ := h
  unfold TabOk
  simp only
  exact ⟨by omega, by omega, h2.1, h2.2, c, d, e, g, i⟩
theorem GoodR.okT (h : GoodR n sz f l) {m lv : Int} (h1 : 0 ≤ m ∧ m ≤ 1001) (h2 : 0 ≤ lv ∧ lv ≤ 3) : (⟨m, lv, sz, f, l⟩ : Tb).Ok ∧ (⟨m, lv, sz, f, l⟩ : Tb).Short := by
  obtain ⟨a, b, c, d, e, g, i⟩ := h
  unfold Tb.Ok Tb.Short maxLen
  simp only
  omega
theorem GoodR.a1 (h : GoodR n sz f l) : Applies Vr.zero ⟨0, 2000, 0, [⟨n, 0, sz, f, l⟩, ⟨n + 1, 0, sz, f, l⟩], []⟩ := by
  rw [applies_new _ _ _ _ (by omega) (by omega)]
  have h0 := h.n0
  have h1 := h.n1
  refine ⟨by simp, fun t ht => ?_, ?_⟩
  · simp at ht
    rcases ht with rfl | rfl
    · exact h.tab (by omega) (by omega)
    · exact h.tab (by omega) (by omega)
  · simp only [List.pairwise_cons, List.mem_cons, List.not_mem_nil, or_false, forall_eq, false_implies, implies_true, List.Pairwise.nil, and_true]
    exact ⟨by simp only; omega, fun _ h => absurd h (by simp)⟩
theorem GoodR.a2 (h : GoodR n sz f l) : ¬ Applies Vr.zero ⟨0, 2000, 0, [⟨n, 2, sz, f, l⟩, ⟨n + 1, 2, sz, f, l⟩], []⟩ := by
  rw [applies_new _ _ _ _ (by omega) (by omega)]
  rintro ⟨-, -, hp⟩
  simp only [List.pairwise_cons, List.mem_cons, List.not_mem_nil, or_false, forall_eq, false_implies, implies_true, List.Pairwise.nil, and_true] at hp
  rcases hp.2 rfl (by simp) with q | q
  · exact h.fl q
  · exact h.fl q
theorem GoodR.a3 : ¬ Applies Vr.zero ⟨0, 2000, 0, [⟨n, 2, sz, f, l⟩, ⟨n, 1, sz, f, l⟩], []⟩ := by
  rw [applies_new _ _ _ _ (by omega) (by omega)]
  rintro ⟨-, -, hp⟩
  simp only [List.pairwise_cons, List.mem_cons, List.not_mem_nil, or_false, forall_eq, false_implies, implies_true, List.Pairwise.nil, and_true] at hp
  exact hp.1 rfl
theorem GoodR.a4 (h : GoodR n sz f l) : ¬ Applies Vr.zero ⟨0, n, 0, [⟨n, 2, sz, f, l⟩], []⟩ := by
  rw [applies_new _ _ _ _ (by omega) h.n0]
  rintro ⟨-, ht, -⟩
  have := (ht ⟨n, 2, sz, f, l⟩ (by simp)).2.1
  simp only at this
  omega
theorem GoodR.a5 : ¬ Applies Vr.zero ⟨0, 0, 0, [], [n]⟩ := by
  rintro ⟨h, -⟩
  have := h n (by simp)
  cases this
end
theorem tbs_one (w : World) (x : Tb) : TbsV (w.alloc (.cells #[.int .i64 x.n, .int .i64 x.lv, .int .i64 x.sz, .string x.f, .string x.l] 28)) (.slice (some ⟨w.heap.size, 0, none⟩) 1 1) [x] :=
  .inr ⟨_, _, rfl, fun j u hu => by
    rw [add_plainT, Nat.zero_add]
    refine nce rfl ?_
    simpa [cellsT, Tb.cells] using hu⟩
theorem ints_one (w : World) (k : Int) : IntsV (w.alloc (.cells #[.int .i64 k] 3)) (.slice (some ⟨w.heap.size, 0, none⟩) 1 1) [k] :=
  .inr ⟨_, _, rfl, fun j hj => by
    rw [add_plainT, Nat.zero_add]
    have : j = 0 := by simpa using hj
    subst this
    exact nce rfl rfl⟩
theorem apply_yes (e : Ed) (va vd : Value) (W : World) (hA : TbsV W va e.add) (hD : IntsV W vd e.drop) (hl1 : e.add.length ≤ 10000) (hl2 : e.drop.length ≤ 10000) (hok1 : ∀ t ∈ e.add, t.Ok ∧ t.Short) (hok2 : ∀ k ∈ e.drop, -9223372036854775808 ≤ k ∧ k ≤ 9223372036854775807) (h : Applies Vr.zero e) :
    Calls Try.prog 9 #[.agg #[.int .i64 0, .int .i64 0, .int .u64 0, .slice none 0 0], ediV e.log e.next e.seq va vd] W fun x w' => ∃ (q1 q2 : Int) (q3 : Nat) (a : Option Addr) (m c : Nat), x = .returned (.tuple #[.agg #[.int .i64 q1, .int .i64 q2, .int .u64 (q3 : Int), .slice a m c], .int .i64 0]) ∧ Below W.heap.size W w' := by
  refine (apply_any Vr.zero e _ va vd W (tbsV_nil W) hA hD (by decide) hl1 hl2 (fun t ht => by cases ht) hok1 hok2).mono ?_
  rintro _ w' ⟨hap, hb⟩
  rcases hap with ⟨hn, -⟩ | ⟨-, r, rfl, hr, -⟩
  · exact absurd h hn
  obtain ⟨a, c, rfl⟩ := hr.short
  exact ⟨_, _, _, _, _, _, rfl, hb⟩
theorem apply_no (e : Ed) (va vd : Value) (W : World) (hA : TbsV W va e.add) (hD : IntsV W vd e.drop) (hl1 : e.add.length ≤ 10000) (hl2 : e.drop.length ≤ 10000) (hok1 : ∀ t ∈ e.add, t.Ok ∧ t.Short) (hok2 : ∀ k ∈ e.drop, -9223372036854775808 ≤ k ∧ k ≤ 9223372036854775807) (h : ¬ Applies Vr.zero e) :
    Calls Try.prog 9 #[.agg #[.int .i64 0, .int .i64 0, .int .u64 0, .slice none 0 0], ediV e.log e.next e.seq va vd] W fun x w' => x = .returned (.tuple #[.agg #[.int .i64 0, .int .i64 0, .int .u64 0, .slice none 0 0], .int .i64 4]) ∧ Below W.heap.size W w' := by
  refine (apply_any Vr.zero e _ va vd W (tbsV_nil W) hA hD (by decide) hl1 hl2 (fun t ht => by cases ht) hok1 hok2).mono ?_
  rintro _ w' ⟨hap, hb⟩
  rcases hap with ⟨-, rfl⟩ | ⟨hn, -⟩
  · exact ⟨rfl, hb⟩
  · exact absurd hn h
/-- Two tables of a call's own, each in its box. -/
structure TwoB (w0 : World) (x y : Tb) (w : World) : Prop where
  x : BoxB w0.heap.size x w
  y : BoxB (w0.heap.size + 1) y w
  b : Below w0.heap.size w0 w
theorem TwoB.below {w0 w w' : World} {x y : Tb} (h : TwoB w0 x y w) (hb : Below w.heap.size w w') : TwoB w0 x y w' := ⟨h.x.below hb, h.y.below hb, h.b.trans (hb.mono h.b.size)⟩
theorem TwoB.setx {w0 w : World} {x y x' : Tb} (h : TwoB w0 x y w) (o : Nat) (u : Value) (he : #[Value.int .i64 x.n, .int .i64 x.lv, .int .i64 x.sz, .string x.f, .string x.l].setIfInBounds o u = #[.int .i64 x'.n, .int .i64 x'.lv, .int .i64 x'.sz, .string x'.f, .string x'.l]) : TwoB w0 x' y (w.setCell ⟨w0.heap.size, o, none⟩ u) :=
  ⟨h.x.set o u x' he, h.y.setOther (by omega), h.b.setCell (p := ⟨w0.heap.size, o, none⟩) (Nat.le_refl _) u⟩
theorem TwoB.sety {w0 w : World} {x y y' : Tb} (h : TwoB w0 x y w) (o : Nat) (u : Value) (he : #[Value.int .i64 y.n, .int .i64 y.lv, .int .i64 y.sz, .string y.f, .string y.l].setIfInBounds o u = #[.int .i64 y'.n, .int .i64 y'.lv, .int .i64 y'.sz, .string y'.f, .string y'.l]) : TwoB w0 x y' (w.setCell ⟨w0.heap.size + 1, o, none⟩ u) :=
  ⟨h.x.setOther (by omega), h.y.set o u y' he, h.b.setCell (p := ⟨w0.heap.size + 1, o, none⟩) (Nat.le_succ _) u⟩
set_option maxHeartbeats 16000000 in
set_option maxRecDepth 100000 in
theorem editRefuses_walk (t : Tb) (ht : t.Ok) (w : World) : Calls Try.prog 5 #[t.val] w fun e w' => e = .returned (.bool true) ∧ Below w.heap.size w w' := by
  obtain ⟨n, lv, sz, f, l⟩ := t
  unfold Tb.Ok maxLen at ht
  simp only at ht
  have hfs : f.size ≤ 9223372036854775807 := by omega
  have hls : l.size ≤ 9223372036854775807 := by omega
  have CA := Lib.hid (fun W => alive12_any W)
  unfold Tb.val
  simp only
  obtain ⟨W1, hW1⟩ : ∃ W1, w.alloc (.cells #[.int .i64 n, .int .i64 lv, .int .i64 sz, .string f, .string l] 28) = W1 := ⟨_, rfl⟩
  have b1 : Below w.heap.size w W1 := by rw [← hW1]; exact (Below.refl _ _).alloc (Nat.le_refl _) _
  have x1 : BoxB w.heap.size ⟨n, lv, sz, f, l⟩ W1 := by rw [← hW1]; exact new_block _ _ rfl
  have s1 : W1.heap.size = w.heap.size + 1 := by rw [← hW1]; simp
  have c0 := x1.c0
  have c1 := x1.c1
  have c2 := x1.c2
  have c3 := x1.c3
  have c4 := x1.c4
  simp only at c0 c1 c2 c3 c4
  have HB1 := Lib.hid b1
  have HX1 := Lib.hid x1
  have HS1 := Lib.hid s1
  clear b1 x1 s1
  go_enter Try.func5, Try.ntmps5
  go_upto_region 1 with fail
  try rw [hW1]
  clear hW1
  go_cut [50] from 14 to 50 (fun t wx => ∃ c : Bool, t = .bool c ∧ Hid (c = false → GoodR n sz f l) ∧ W1 = wx)
  case first =>
    by_cases g1 : n < 0
    · have d1 : decide (n < 0) = true := decide_eq_true g1
      clear g1
      go_wp2_with fail
      go_meet
      exact ⟨true, rfl, Lib.hid (fun h => by cases h), rfl⟩
    have d1 : decide (n < 0) = false := decide_eq_false g1
    by_cases g2 : 1000 < n
    · have d2 : decide (1000 < n) = true := decide_eq_true g2
      clear g1 g2
      go_wp2_with fail
      go_meet
      exact ⟨true, rfl, Lib.hid (fun h => by cases h), rfl⟩
    have d2 : decide (1000 < n) = false := decide_eq_false g2
    by_cases g3 : sz < 1
    · have d3 : decide (sz < 1) = true := decide_eq_true g3
      clear g1 g2 g3
      go_wp2_with fail
      go_meet
      exact ⟨true, rfl, Lib.hid (fun h => by cases h), rfl⟩
    have d3 : decide (sz < 1) = false := decide_eq_false g3
    by_cases g4 : 1099511627776 < sz
    · have d4 : decide (1099511627776 < sz) = true := decide_eq_true g4
      clear g1 g2 g3 g4
      go_wp2_with fail
      go_meet
      exact ⟨true, rfl, Lib.hid (fun h => by cases h), rfl⟩
    have d4 : decide (1099511627776 < sz) = false := decide_eq_false g4
    have HG := Lib.hid (show cmpS l f ≠ -1 → f.size ≤ 300 → l.size ≤ 300 → GoodR n sz f l from fun a b c => ⟨by omega, by omega, by omega, by omega, a, b, c⟩)
    clear g1 g2 g3 g4
    rcases less3 f l with ⟨h1, h2⟩ | h1 | ⟨h1, h2, h3⟩
    · have HF := Lib.hid (show cmpS l f ≠ -1 by rw [cmpS_swap f l, h2]; decide)
      clear h2
      by_cases g6 : 300 < f.size
      · have d6 : decide (300 < (f.size : Int)) = true := by simp; omega
        clear g6
        go_wp2_with fail
        go_meet
        exact ⟨true, rfl, Lib.hid (fun h => by cases h), rfl⟩
      have d6 : decide (300 < (f.size : Int)) = false := by simp; omega
      by_cases g7 : 300 < l.size
      · have d7 : decide (300 < (l.size : Int)) = true := by simp; omega
        clear g6 g7
        go_wp2_with fail
        go_meet
        exact ⟨true, rfl, Lib.hid (fun h => by cases h), rfl⟩
      have d7 : decide (300 < (l.size : Int)) = false := by simp; omega
      have HQ := Lib.hid (HG.out HF.out (by omega) (by omega))
      clear g6 g7
      go_wp2_with fail
      go_meet
      exact ⟨false, rfl, Lib.hid (fun _ => HQ.out), rfl⟩
    · subst h1
      have HF := Lib.hid (show cmpS f f ≠ -1 by rw [cmpS_refl]; decide)
      by_cases g6 : 300 < f.size
      · have d6 : decide (300 < (f.size : Int)) = true := by simp; omega
        clear g6
        go_wp2_with fail
        go_meet
        exact ⟨true, rfl, Lib.hid (fun h => by cases h), rfl⟩
      have d6 : decide (300 < (f.size : Int)) = false := by simp; omega
      have HQ := Lib.hid (HG.out HF.out (by omega) (by omega))
      clear g6
      go_wp2_with fail
      go_meet
      exact ⟨false, rfl, Lib.hid (fun _ => HQ.out), rfl⟩
    · clear h3
      go_wp2_with fail
      go_meet
      exact ⟨true, rfl, Lib.hid (fun h => by cases h), rfl⟩
  case rest =>
    obtain ⟨c, rfl, HGD, rfl⟩ := hcut
    cases c with
    | true =>
      go_wp2_with (go_at_call 8; (with_reducible refine (CA.out _).mono ?_); rintro _ w2 ⟨rfl, hb2⟩)
      go_ret
      exact ⟨rfl, HB1.out.trans (hb2.mono HB1.out.size)⟩
    | false =>
      have gd := HGD.out rfl
      have HG := Lib.hid gd
      have hn0 := gd.n0
      have hn1 := gd.n1
      have hwn : IntKind.i64.wrap (n + 1) = n + 1 := by rw [IntKind.wrap_i64]; omega
      clear gd HGD
      have s1 := HS1.out
      have two1 : TwoB w ⟨n, 0, sz, f, l⟩ ⟨n + 1, 0, sz, f, l⟩ ((W1.setCell ⟨w.heap.size, 1, none⟩ (.int .i64 0)).alloc (.cells #[.int .i64 (n + 1), .int .i64 0, .int .i64 sz, .string f, .string l] 28)) := ⟨(HX1.out.set 1 _ ⟨n, 0, sz, f, l⟩ rfl).below ((Below.refl _ _).alloc (Nat.le_refl _) _), new_block _ _ (by simp [s1]), (HB1.out.setCell (p := ⟨w.heap.size, 1, none⟩) (Nat.le_refl _) _).alloc (by simp [s1]) _⟩
      obtain ⟨Wa, hWa⟩ : ∃ Wa, (W1.setCell ⟨w.heap.size, 1, none⟩ (.int .i64 0)).alloc (.cells #[.int .i64 (n + 1), .int .i64 0, .int .i64 sz, .string f, .string l] 28) = Wa := ⟨_, rfl⟩
      rw [hWa] at two1
      have j1 := HX1.out.fz 1
      have HTA := Lib.hid two1
      clear two1
      go_upto_region 6 with fail
      try rw [hWa]
      clear hWa s1 j1 c0 c1 c2 c3 c4
      have p0 := HTA.out.x.c0
      have py0 := HTA.out.y.c0
      have p1 := HTA.out.x.c1
      have py1 := HTA.out.y.c1
      have p2 := HTA.out.x.c2
      have py2 := HTA.out.y.c2
      have p3 := HTA.out.x.c3
      have py3 := HTA.out.y.c3
      have p4 := HTA.out.x.c4
      have py4 := HTA.out.y.c4
      simp only at p0 py0 p1 py1 p2 py2 p3 py3 p4 py4
      have C1 := Lib.hid (apply_yes ⟨0, 2000, 0, [⟨n, 0, sz, f, l⟩, ⟨n + 1, 0, sz, f, l⟩], []⟩ _ _ _ (tbs_two Wa ⟨n, 0, sz, f, l⟩ ⟨n + 1, 0, sz, f, l⟩) (intsV_nil _) (by simp) (by simp) (fun t ht => by simp at ht; rcases ht with rfl | rfl <;> exact HG.out.okT (by omega) (by omega)) (fun k hk => by cases hk) HG.out.a1)
      unfold ediV at C1
      simp only at C1
      rw [show ((0 : Nat) : Int) = 0 from rfl] at C1
      have HBB1 := Lib.hid (show ∀ o : Obj, ∀ w' : World, Below (Wa.alloc o).heap.size (Wa.alloc o) w' → Below Wa.heap.size Wa w' from fun o w' h => ((Below.refl _ _).alloc (Nat.le_refl _) o).trans (h.mono (by simp)))
      go_wp2_with fail
      go_at_call 9
      (with_reducible refine C1.out.mono ?_)
      rintro _ w2 ⟨q1, q2, q3, qa, qm, qc, rfl, hb2⟩
      obtain ⟨W2, hW2⟩ : ∃ W2, w2.alloc (.cells #[.int .i64 q1, .int .i64 q2, .int .u64 (q3 : Int), .slice qa qm qc] 33) = W2 := ⟨_, rfl⟩
      have two2 : TwoB w ⟨n, 0, sz, f, l⟩ ⟨n + 1, 0, sz, f, l⟩ W2 := by rw [← hW2]; exact (HTA.out.below (HBB1.out _ _ hb2)).below ((Below.refl _ _).alloc (Nat.le_refl _) _)
      have two3 : TwoB w ⟨n, 2, sz, f, l⟩ ⟨n + 1, 2, sz, f, l⟩ ((W2.setCell ⟨w.heap.size, 1, none⟩ (.int .i64 2)).setCell ⟨w.heap.size + 1, 1, none⟩ (.int .i64 2)) := (two2.setx (x' := ⟨n, 2, sz, f, l⟩) 1 _ rfl).sety (y' := ⟨n + 1, 2, sz, f, l⟩) 1 _ rfl
      obtain ⟨Wb, hWb⟩ : ∃ Wb, (W2.setCell ⟨w.heap.size, 1, none⟩ (.int .i64 2)).setCell ⟨w.heap.size + 1, 1, none⟩ (.int .i64 2) = Wb := ⟨_, rfl⟩
      rw [hWb] at two3
      have k0 := two2.x.c1
      have k1 := two2.y.c1
      have j0 := two2.x.fz 1
      have j1 := two2.y.fz 1
      simp only at k0 k1
      have HTB := Lib.hid two3
      have HWb := Lib.hid hWb
      clear two2 two3 hb2 C1 HTA hWb p0 py0 p1 py1 p2 py2 p3 py3 p4 py4
      go_upto_region 7 with fail
      try rw [hW2]
      clear hW2
      have hWb := HWb.out
      go_upto_region 8 with fail
      try rw [hWb]
      clear hWb k0 k1 j0 j1
      have r0 := HTB.out.x.c0
      have ry0 := HTB.out.y.c0
      have r1 := HTB.out.x.c1
      have ry1 := HTB.out.y.c1
      have r2 := HTB.out.x.c2
      have ry2 := HTB.out.y.c2
      have r3 := HTB.out.x.c3
      have ry3 := HTB.out.y.c3
      have r4 := HTB.out.x.c4
      have ry4 := HTB.out.y.c4
      simp only at r0 ry0 r1 ry1 r2 ry2 r3 ry3 r4 ry4
      have C2 := Lib.hid (apply_no ⟨0, 2000, 0, [⟨n, 2, sz, f, l⟩, ⟨n + 1, 2, sz, f, l⟩], []⟩ _ _ _ (tbs_two Wb ⟨n, 2, sz, f, l⟩ ⟨n + 1, 2, sz, f, l⟩) (intsV_nil _) (by simp) (by simp) (fun t ht => by simp at ht; rcases ht with rfl | rfl <;> exact HG.out.okT (by omega) (by omega)) (fun k hk => by cases hk) HG.out.a2)
      unfold ediV at C2
      simp only at C2
      rw [show ((0 : Nat) : Int) = 0 from rfl] at C2
      have HBB2 := Lib.hid (show ∀ o : Obj, ∀ w' : World, Below (Wb.alloc o).heap.size (Wb.alloc o) w' → Below Wb.heap.size Wb w' from fun o w' h => ((Below.refl _ _).alloc (Nat.le_refl _) o).trans (h.mono (by simp)))
      go_wp2_with fail
      go_at_call 9
      (with_reducible refine C2.out.mono ?_)
      rintro _ w3 ⟨rfl, hb3⟩
      obtain ⟨W3, hW3⟩ : ∃ W3, w3.alloc (.cells #[.int .i64 0, .int .i64 0, .int .u64 0, .slice none 0 0] 33) = W3 := ⟨_, rfl⟩
      have two4 : TwoB w ⟨n, 2, sz, f, l⟩ ⟨n + 1, 2, sz, f, l⟩ W3 := by rw [← hW3]; exact (HTB.out.below (HBB2.out _ _ hb3)).below ((Below.refl _ _).alloc (Nat.le_refl _) _)
      have two5 : TwoB w ⟨n, 2, sz, f, l⟩ ⟨n, 1, sz, f, l⟩ ((W3.setCell ⟨w.heap.size + 1, 0, none⟩ (.int .i64 n)).setCell ⟨w.heap.size + 1, 1, none⟩ (.int .i64 1)) := (two4.sety (y' := ⟨n, 2, sz, f, l⟩) 0 _ rfl).sety (y' := ⟨n, 1, sz, f, l⟩) 1 _ rfl
      obtain ⟨Wc, hWc⟩ : ∃ Wc, (W3.setCell ⟨w.heap.size + 1, 0, none⟩ (.int .i64 n)).setCell ⟨w.heap.size + 1, 1, none⟩ (.int .i64 1) = Wc := ⟨_, rfl⟩
      rw [hWc] at two5
      have k0 := two4.x.c0
      have k1 := two4.y.c0
      have k2 := two4.y.c1
      have j0 := two4.y.fz 0
      have j1 := two4.y.fz 1
      simp only at k0 k1 k2
      have HTC := Lib.hid two5
      have HWc := Lib.hid hWc
      have HW3 := Lib.hid hW3
      clear two4 two5 hb3 C2 HTB hWc hW3 r0 ry0 r1 ry1 r2 ry2 r3 ry3 r4 ry4
      go_upto_region 9 with fail
      rw [HW3.out]
      have hWc := HWc.out
      go_upto_region 10 with fail
      try rw [hWc]
      clear hWc k0 k1 k2 j0 j1
      have s0 := HTC.out.x.c0
      have sy0 := HTC.out.y.c0
      have s1 := HTC.out.x.c1
      have sy1 := HTC.out.y.c1
      have s2 := HTC.out.x.c2
      have sy2 := HTC.out.y.c2
      have s3 := HTC.out.x.c3
      have sy3 := HTC.out.y.c3
      have s4 := HTC.out.x.c4
      have sy4 := HTC.out.y.c4
      simp only at s0 sy0 s1 sy1 s2 sy2 s3 sy3 s4 sy4
      have C3 := Lib.hid (apply_no ⟨0, 2000, 0, [⟨n, 2, sz, f, l⟩, ⟨n, 1, sz, f, l⟩], []⟩ _ _ _ (tbs_two Wc ⟨n, 2, sz, f, l⟩ ⟨n, 1, sz, f, l⟩) (intsV_nil _) (by simp) (by simp) (fun t ht => by simp at ht; rcases ht with rfl | rfl <;> exact HG.out.okT (by omega) (by omega)) (fun k hk => by cases hk) GoodR.a3)
      unfold ediV at C3
      simp only at C3
      rw [show ((0 : Nat) : Int) = 0 from rfl] at C3
      have HBB3 := Lib.hid (show ∀ o : Obj, ∀ w' : World, Below (Wc.alloc o).heap.size (Wc.alloc o) w' → Below Wc.heap.size Wc w' from fun o w' h => ((Below.refl _ _).alloc (Nat.le_refl _) o).trans (h.mono (by simp)))
      go_wp2_with fail
      go_at_call 9
      (with_reducible refine C3.out.mono ?_)
      rintro _ w4 ⟨rfl, hb4⟩
      have two6 := HTC.out.below ((HBB3.out _ _ hb4).trans ((Below.refl w4.heap.size w4).alloc (Nat.le_refl _) (.cells #[.int .i64 0, .int .i64 0, .int .u64 0, .slice none 0 0] 33) |>.mono (HBB3.out _ _ hb4).size))
      obtain ⟨Wd, hWd⟩ : ∃ Wd, w4.alloc (.cells #[.int .i64 0, .int .i64 0, .int .u64 0, .slice none 0 0] 33) = Wd := ⟨_, rfl⟩
      rw [hWd] at two6
      have HTD := Lib.hid two6
      have m0 := two6.x.c0
      have m1 := two6.x.c1
      have m2 := two6.x.c2
      have m3 := two6.x.c3
      have m4 := two6.x.c4
      simp only at m0 m1 m2 m3 m4
      have C4 := Lib.hid (apply_no ⟨0, n, 0, [⟨n, 2, sz, f, l⟩], []⟩ _ _ _ (tbs_one Wd ⟨n, 2, sz, f, l⟩) (intsV_nil _) (by simp) (by simp) (fun t ht => by simp at ht; rw [ht]; exact HG.out.okT (by omega) (by omega)) (fun k hk => by cases hk) HG.out.a4)
      unfold ediV at C4
      simp only at C4
      rw [show ((0 : Nat) : Int) = 0 from rfl] at C4
      have HBB4 := Lib.hid (show ∀ o : Obj, ∀ w' : World, Below (Wd.alloc o).heap.size (Wd.alloc o) w' → Below Wd.heap.size Wd w' from fun o w' h => ((Below.refl _ _).alloc (Nat.le_refl _) o).trans (h.mono (by simp)))
      have HWd := Lib.hid hWd
      clear two6 hb4 C3 HTC hWd s0 sy0 s1 sy1 s2 sy2 s3 sy3 s4 sy4
      go_upto_region 11 with fail
      rw [HWd.out]
      go_wp2_with fail
      go_at_call 9
      (with_reducible refine C4.out.mono ?_)
      rintro _ w5 ⟨rfl, hb5⟩
      have two7 := HTD.out.below ((HBB4.out _ _ hb5).trans ((Below.refl w5.heap.size w5).alloc (Nat.le_refl _) (.cells #[.int .i64 0, .int .i64 0, .int .u64 0, .slice none 0 0] 33) |>.mono (HBB4.out _ _ hb5).size))
      obtain ⟨We, hWe⟩ : ∃ We, w5.alloc (.cells #[.int .i64 0, .int .i64 0, .int .u64 0, .slice none 0 0] 33) = We := ⟨_, rfl⟩
      rw [hWe] at two7
      have HTE := Lib.hid two7
      have e0 := two7.x.c0
      simp only at e0
      have C5 := Lib.hid (apply_no ⟨0, 0, 0, [], [n]⟩ _ _ _ (tbsV_nil _) (ints_one We n) (by simp) (by simp) (fun t ht => by cases ht) (fun k hk => by simp at hk; rw [hk]; omega) GoodR.a5)
      unfold ediV at C5
      simp only at C5
      rw [show ((0 : Nat) : Int) = 0 from rfl] at C5
      have HWe := Lib.hid hWe
      clear two7 hb5 C4 HTD hWe m0 m1 m2 m3 m4
      go_upto_region 12 with fail
      rw [HWe.out]
      go_wp2_with fail
      go_at_call 9
      (with_reducible refine C5.out.mono ?_)
      rintro _ w6 ⟨rfl, hb6⟩
      have HB6 := Lib.hid (show Below w.heap.size w w6 from HTE.out.b.trans (((Below.refl _ _).alloc (Nat.le_refl _) _).trans (hb6.mono (by simp)) |>.mono HTE.out.b.size))
      clear hb6 C5 e0
      go_wp2_with (go_at_call 8; (with_reducible refine (CA.out _).mono ?_); rintro _ w7 ⟨rfl, hb7⟩)
      go_ret
      exact ⟨rfl, (HB6.out.alloc HB6.out.size _).trans (hb7.mono (HB6.out.alloc HB6.out.size _).size)⟩
end Go.Proofs.Ytmcgfafkggannaa
