/- The statements' alive. -/
import Derived.Test.YtmcgfafkggannaaGreatJM
import Derived.Test.YtmcgfafkggannaaGreatJB
namespace Go.Proofs.YtmcgfafkggannaaGreat
open Go.RowKit Go.Shelf

def tA : Tb := ⟨1, 0, 9, ⟨#[97]⟩, ⟨#[99]⟩⟩
def tB : Tb := ⟨2, 0, 9, ⟨#[98]⟩, ⟨#[100]⟩⟩
def eAB : Ed := ⟨0, 3, 0, [tA, tB], []⟩
theorem nextAB : nextV Vr.zero eAB = ⟨0, 3, 0, [tB, tA]⟩ := by
  have h : ordT [tA, tB] = [tB, tA] := by
    have h1 : insT [] tA = [tA] := rfl
    have h2 : lessT tB tA = true := by decide
    show insT (insT [] tA) tB = _
    rw [h1]
    unfold insT
    have : posT tB [tA] [tA].length = 0 := by
      show (if lessT tB (tabAt [tA] 0) then posT tB [tA] 0 else 1) = 0
      rw [if_pos (show lessT tB (tabAt [tA] 0) = true from h2)]
      rfl
    rw [this]
    rfl
  unfold nextV
  have e : leftT Vr.zero.ts eAB.drop ++ eAB.add = [tA, tB] := rfl
  rw [e, h]
  rfl
theorem rightAB : RightV (nextV Vr.zero eAB) := by
  rw [nextAB]
  have h1 : TabOk 3 tA := by unfold TabOk tA; refine ⟨by decide, by decide, by decide, by decide, by decide, by decide, by decide, by decide, by decide⟩
  have h2 : TabOk 3 tB := by unfold TabOk tB; refine ⟨by decide, by decide, by decide, by decide, by decide, by decide, by decide, by decide, by decide⟩
  refine ⟨by simp, fun t ht => ?_, ?_⟩
  · simp at ht
    rcases ht with rfl | rfl
    · exact h2
    · exact h1
  · simp only [List.pairwise_cons, List.mem_cons, List.not_mem_nil, or_false, forall_eq, false_implies, implies_true, List.Pairwise.nil, and_true]
    exact ⟨by decide, fun _ h => by cases h⟩
theorem appAB : Applies Vr.zero eAB := ⟨(fun n hn => by cases hn), rightAB⟩
theorem tbs_two (w : World) (x y : Tb) : TbsV (w.alloc (.cells #[.int .i64 x.n, .int .i64 x.lv, .int .i64 x.sz, .string x.f, .string x.l, .int .i64 y.n, .int .i64 y.lv, .int .i64 y.sz, .string y.f, .string y.l] 80)) (.slice (some ⟨w.heap.size, 0, none⟩) 2 2) [x, y] :=
  .inr ⟨_, _, rfl, fun j u hu => by
    rw [add_plainT, Nat.zero_add]
    refine nce rfl ?_
    simpa [cellsT, Tb.cells] using hu⟩
theorem intsV_nil (w : World) : IntsV w (.slice none 0 0) [] := .inl ⟨rfl, rfl⟩
theorem tbsV_nil (w : World) : TbsV w (.slice none 0 0) [] := .inl ⟨rfl, rfl⟩
theorem putE_len {e : Ed} (h : e.Ok) (hl : 0 ≤ e.log) (hn : 0 ≤ e.next) : (putE e).length ≤ 50 + e.add.length * 18050 + e.drop.length * 10 := by
  obtain ⟨h1, h2, h3, h4, h5, h6, h7⟩ := h
  unfold putE
  rw [List.length_append, List.length_append, List.length_append, List.length_append]
  have a1 := three_vars e.log.toNat e.next.toNat e.seq (by omega) (by omega) h3
  have a2 := one_vars e.add.length (by omega)
  have a3 := putTs_len e.add h6
  have a4 := one_vars e.drop.length (by omega)
  have a5 := putI_len e.drop (fun k hk => (h7 k hk).2)
  omega
theorem right_ok {v : Vr} (h : RightV v) : ∀ t ∈ v.ts, t.Ok ∧ t.Short := fun t ht => by
  have a := h.2.1 t ht
  have b := h.1
  unfold TabOk at a
  unfold Tb.Ok Tb.Short maxLen
  omega
set_option maxHeartbeats 8000000 in
set_option maxRecDepth 100000 in
theorem alive12_any (w : World) : Calls Tryz.prog 6 #[] w fun e w' => e = .returned (.bool true) ∧ Below w.heap.size w w' := by
  obtain ⟨W1, hW1⟩ : ∃ W1, w.alloc (.cells #[.int .i64 1, .int .i64 0, .int .i64 9, .string ⟨#[97]⟩, .string ⟨#[99]⟩, .int .i64 2, .int .i64 0, .int .i64 9, .string ⟨#[98]⟩, .string ⟨#[100]⟩] 80) = W1 := ⟨_, rfl⟩
  have b1 : Below w.heap.size w W1 := by rw [← hW1]; exact (Below.refl _ _).alloc (Nat.le_refl _) _
  have hT1 : TbsV W1 (.slice (some ⟨w.heap.size, 0, none⟩) 2 2) [tA, tB] := by rw [← hW1]; exact tbs_two w tA tB
  have C1 := Lib.hid (apply_any Vr.zero eAB _ _ _ W1 (tbsV_nil W1) hT1 (intsV_nil W1) (by decide) (by decide) (by decide) (fun t ht => by cases ht) (fun t ht => right_ok rightAB t (by rw [nextAB]; simp [eAB] at ht ⊢; exact ht.symm)) (fun k hk => by cases hk))
  unfold verV ediV eAB Vr.zero at C1
  simp only at C1
  rw [show ((0 : Nat) : Int) = 0 from rfl] at C1
  have HB1 := Lib.hid b1
  clear b1 hT1
  go_enter Tryz.func6, Tryz.ntmps6
  go_wp2_with fail
  try rw [hW1]
  clear hW1
  go_at_call 14
  (with_reducible refine C1.out.mono ?_)
  rintro _ w2 ⟨hap, hb2⟩
  rcases hap with ⟨hn, -⟩ | ⟨-, r2, rfl, hr2, -⟩
  · exact absurd appAB hn
  have hnx : nextV { log := 0, next := 0, seq := 0, ts := [] } { log := 0, next := 3, seq := 0, add := [tA, tB], drop := [] } = ⟨0, 3, 0, [tB, tA]⟩ := nextAB
  rw [hnx] at hr2 ⊢
  unfold verV
  simp only at hr2 ⊢
  try rw [show ((0 : Nat) : Int) = 0 from rfl]
  obtain ⟨a2, c2, hs2⟩ := hr2.short
  have hs2' : r2 = .slice a2 2 c2 := hs2
  subst hs2'
  obtain ⟨W3, hW3⟩ : ∃ W3, w2.alloc (.cells #[.int .i64 0, .int .i64 3, .int .u64 0, .slice a2 2 c2] 25) = W3 := ⟨_, rfl⟩
  have b3 : Below w2.heap.size w2 W3 := by rw [← hW3]; exact (Below.refl _ _).alloc (Nat.le_refl _) _
  have x3 : BoxV w2.heap.size 0 3 0 (.slice a2 2 c2) W3 := by rw [← hW3]; exact new_block _ _ rfl
  have hr3 : RowB W3 (.slice a2 2 c2) [tB, tA] := Row.kept hr2 (fun k hk => b3.block k (Row.lt hr2 k hk))
  have HB3 := Lib.hid ((HB1.out.trans (hb2.mono HB1.out.size)).trans (b3.mono (HB1.out.trans (hb2.mono HB1.out.size)).size))
  have hRV : RightV ⟨0, 3, 0, [tB, tA]⟩ := nextAB ▸ rightAB
  have C2 := Lib.hid (whole_any ⟨0, 3, 0, [tB, tA]⟩ _ W3 hr3.v (by decide) (fun t ht => (right_ok hRV t ht).2))
  unfold verV ediV at C2
  simp only at C2
  rw [show ((0 : Nat) : Int) = 0 from rfl] at C2
  have p0 := x3.c0
  have p1 := x3.c1
  have p2 : W3.cell? ⟨w2.heap.size, 2, none⟩ = some (.int .u64 0) := x3.c2
  have p3 := x3.c3
  have HX3 := Lib.hid x3
  have HR3 := Lib.hid hr3
  have HRV := Lib.hid hRV
  clear hr2 hs2 b3 x3 hr3 hb2 hnx C1 hRV
  go_wp2_with fail
  try rw [hW3]
  clear hW3 p0 p1 p2 p3
  go_at_call 17
  (with_reducible refine C2.out.mono ?_)
  rintro _ w4 ⟨r4, rfl, hr4, -, hb4⟩
  have C3 := Lib.hid (put_any (wholeE ⟨0, 3, 0, [tB, tA]⟩) r4 (.slice none 0 0) w4 hr4.v (intsV_nil w4) ⟨by decide, by decide, by decide, by decide, by decide, fun t ht => right_ok HRV.out t ht, fun k hk => by cases hk⟩)
  have HFT := Lib.hid (whole_fits HRV.out (by decide))
  have HPV := Lib.hid (show PutV (wholeE ⟨0, 3, 0, [tB, tA]⟩) = .tuple #[.string ⟨(putE (wholeE ⟨0, 3, 0, [tB, tA]⟩)).toArray⟩, .int .i64 0] by unfold PutV; rw [canB_fits HFT.out]; rfl)
  rw [HPV.out] at C3
  have HGP := Lib.hid (getP_laid _ HFT.out)
  have hlen : (putE (wholeE ⟨0, 3, 0, [tB, tA]⟩)).length ≤ 100000000 := by
    refine Nat.le_trans (putE_len (e := wholeE ⟨0, 3, 0, [tB, tA]⟩) ⟨by decide, by decide, by decide, by decide, by decide, fun t ht => right_ok HRV.out t ht, fun k hk => by cases hk⟩ (by decide) (by decide)) ?_
    show 50 + 2 * 18050 + 0 * 10 ≤ 100000000
    omega
  generalize putE (wholeE ⟨0, 3, 0, [tB, tA]⟩) = BS at *
  unfold ediV wholeE at C3
  simp only at C3
  rw [show ((0 : Nat) : Int) = 0 from rfl] at C3
  have HB4 := Lib.hid (HB3.out.trans (hb4.mono HB3.out.size))
  have HX4 := Lib.hid (HX3.out.below hb4)
  have HR4 := Lib.hid (show RowB w4 (.slice a2 2 c2) [tB, tA] from Row.kept HR3.out (fun k hk => hb4.block k (Row.lt HR3.out k hk)))
  clear hr4 hb4 C2
  go_wp2_with fail
  go_at_call 9
  (with_reducible refine C3.out.mono ?_)
  rintro _ w5 ⟨rfl, hb5⟩
  have HB5 := Lib.hid (HB4.out.trans (hb5.mono HB4.out.size))
  have HX5 := Lib.hid (HX4.out.below hb5)
  have HR5 := Lib.hid (show RowB w5 (.slice a2 2 c2) [tB, tA] from Row.kept HR4.out (fun k hk => hb5.block k (Row.lt HR4.out k hk)))
  have C4 := Lib.hid (get_any ⟨BS.toArray⟩ w5 (by rw [ba_size]; exact hlen))
  clear hb5 C3
  go_wp2_with fail
  go_at_call 12
  (with_reducible refine C4.out.mono ?_)
  rintro _ w6 ⟨hgv, hb6⟩
  unfold GetV at hgv
  rw [HGP.out] at hgv
  rcases hgv with ⟨hn, -⟩ | ⟨-, va, vd, rfl, hva, hvd, -⟩
  · exact absurd rfl hn
  unfold ediV wholeE at *
  simp only at hva ⊢
  try rw [show ((0 : Nat) : Int) = 0 from rfl]
  obtain ⟨a6, c6, hs6⟩ := hva.short
  have hs6' : va = .slice a6 2 c6 := hs6
  subst hs6'
  obtain ⟨a9, c9, hs9⟩ := hvd.short
  have hs9' : vd = .slice a9 0 c9 := hs9
  subst hs9'
  have x6 := HX5.out.below hb6
  have HB6 := Lib.hid (HB5.out.trans (hb6.mono HB5.out.size))
  have hr6 : RowB w6 (.slice a2 2 c2) [tB, tA] := Row.kept HR5.out (fun k hk => hb6.block k (Row.lt HR5.out k hk))
  obtain ⟨W7, hW7⟩ : ∃ W7, w6.alloc (.cells #[.int .i64 0, .int .i64 3, .int .u64 0, .slice a6 2 c6, .slice a9 0 c9] 28) = W7 := ⟨_, rfl⟩
  have b7 : Below w6.heap.size w6 W7 := by rw [← hW7]; exact (Below.refl _ _).alloc (Nat.le_refl _) _
  have y7 : BoxEd w6.heap.size 0 3 0 (.slice a6 2 c6) (.slice a9 0 c9) W7 := by rw [← hW7]; exact new_block _ _ rfl
  have x7 := x6.below b7
  have hr7 : RowB W7 (.slice a2 2 c2) [tB, tA] := Row.kept hr6 (fun k hk => b7.block k (Row.lt hr6 k hk))
  obtain ⟨b, off, rfl, hblt, hcell⟩ := hr7.v.at (i := 0) (by decide)
  have q0 : W7.cell? ⟨b, off, none⟩ = some (.int .i64 2) := hcell 0 _ rfl
  have p0 := x7.c0
  have p1 := x7.c1
  have p2 : W7.cell? ⟨w2.heap.size, 2, none⟩ = some (.int .u64 0) := x7.c2
  have p3 := x7.c3
  have s1 := y7.c1
  have s3 := y7.c3
  have HB7 := Lib.hid (HB6.out.trans (b7.mono HB6.out.size))
  have C5 := Lib.hid (valid_any ⟨0, 3, 0, [tB, tA]⟩ _ W7 hr7.v (by decide) (fun t ht => (right_ok HRV.out t ht).1))
  have HV := Lib.hid HRV.out
  simp only at C5
  rw [show ((0 : Nat) : Int) = 0 from rfl] at C5
  clear hva hs6 hs9 hvd x6 hr6 b7 y7 x7 hr7 hcell hb6 C4
  go_wp2_with fail
  try rw [hW7]
  clear hW7
  go_at_call 23
  (with_reducible refine C5.out.mono ?_)
  rintro _ w8 ⟨bb, rfl, hbb, hb8⟩
  obtain rfl : bb = true := hbb.2 HV.out
  go_wp2_with fail
  go_ret
  exact ⟨rfl, HB7.out.trans (hb8.mono HB7.out.size)⟩
end Go.Proofs.YtmcgfafkggannaaGreat
