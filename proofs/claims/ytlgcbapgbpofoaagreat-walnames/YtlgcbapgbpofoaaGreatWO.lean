/- The statements' helper alive holds. -/
import Derived.Test.YtlgcbapgbpofoaaGreatWN
import Derived.Test.YtlgcbapgbpofoaaGreatWM
import Derived.Test.YtlgcbapgbpofoaaGreatWK
namespace Go.Proofs.YtlgcbapgbpofoaaGreat
open Go.RowKit

theorem wrs_one (K V : ByteArray) (D : Bool) (w : World) : WrsAt (w.alloc (.cells #[.string K, .string V, .bool D] 105)).heap.size (w.alloc (.cells #[.string K, .string V, .bool D] 105)) (some ⟨w.heap.size, 0, none⟩) 1 [⟨K, V, D⟩] := by
  refine ⟨rfl, .inr ⟨w.heap.size, 0, rfl, by simp, fun i hi j u hu => ?_⟩⟩
  obtain rfl : i = 0 := by simp at hi; omega
  simp only [List.getElem_cons_zero] at hu
  rw [show 0 + 0 * 3 + j = j by omega]
  match j, hu with
  | 0, hu => exact ncell rfl hu
  | 1, hu => exact ncell rfl hu
  | 2, hu => exact ncell rfl hu
/-- A write of one letter. -/
def wA : Wr := ⟨⟨#[97]⟩, ⟨#[]⟩, false⟩
def wB' : Wr := ⟨⟨#[98]⟩, ⟨#[]⟩, false⟩
theorem okA : wrsOk [wA] = true := by decide
theorem okB : wrsOk [wB'] = true := by decide
theorem recB_length (f : Nat) (ws : List Wr) (hf : f < 18446744073709551616) (hl : ws.length ≤ 1000) (hs : sizeWs ws ≤ 100000) : (recB f ws).length ≤ 300000 := by
  have h1 := putWs_length ws (by omega)
  have h2 := vars_length [f, ws.length] (fun z hz => by simp at hz; rcases hz with rfl | rfl <;> omega)
  unfold recB
  rw [frm_length]
  unfold putB
  rw [List.length_append]
  simp at h2
  omega
theorem scan_one (f : Nat) (ws : List Wr) (h : (recB f ws).length ≤ 300000) : (scanF (recB f ws)).1 = [putB f ws] := by
  have hl : (putB f ws).length ≤ 16777216 := by
    unfold recB at h
    rw [frm_length] at h
    omega
  obtain ⟨k, h1, h2, -, h4⟩ := scan_cut [putB f ws] (recB f ws).length (fun s hs => by simp at hs; subst hs; exact hl)
  have e : frames [putB f ws] = recB f ws := frames_one _
  rw [e] at h2 h4
  rw [List.take_length] at h2
  have hk := h4 (Nat.le_refl _)
  rw [h2, hk]
  rfl
set_option maxHeartbeats 8000000 in
set_option maxRecDepth 100000 in
theorem alive6_any (w : World) : Calls Tryz.prog 10 #[] w fun e w' => e = .returned (.bool true) ∧ Below w.heap.size w w' := by
  obtain ⟨R1, hR1⟩ : ∃ R1, recB 1 [wA] = R1 := ⟨_, rfl⟩
  obtain ⟨R2, hR2⟩ : ∃ R2, recB 2 [wB'] = R2 := ⟨_, rfl⟩
  have hl1 : R1.length ≤ 300000 := by rw [← hR1]; exact recB_length 1 [wA] (by omega) (by simp) (by decide)
  have hl2 : R2.length ≤ 300000 := by rw [← hR2]; exact recB_length 2 [wB'] (by omega) (by simp) (by decide)
  have C0 := Lib.hid (hs_new 0 (by omega) w)
  go_enter Tryz.func10, Tryz.ntmps10
  go_wp2_with (fail)
  go_at_call 24
  refine C0.out.mono ?_
  rintro _ w0 ⟨p, rfl, h0, b0⟩
  have C1 := logCreate_any h0 (by omega) 7 (by omega)
  rw [mkLog_new] at C1
  simp only [show ((7 : Nat) : Int) = 7 from rfl] at C1
  have C1 := Lib.hid C1
  go_wp2_with (fail)
  go_at_call 31
  refine C1.out.mono ?_
  rintro _ w1 ⟨pv, rfl, b1, k1, ⟨hx, -⟩ | ⟨-, L, rfl, hL0, lg1, hs1⟩⟩
  · exact absurd rfl hx
  have hB0 := h0.size
  have hLB : w.heap.size ≤ L := by omega
  clear C0 C1 h0
  obtain ⟨wa, hwa⟩ : ∃ wa, w1.alloc (.cells #[.string ⟨#[97]⟩, .string ⟨#[]⟩, .bool false] 105) = wa := ⟨_, rfl⟩
  have ba : Below w1.heap.size w1 wa := by rw [← hwa]; exact (Below.refl _ _).alloc (Nat.le_refl _) _
  have hsa := hs1.same ba
  have lga := lg1.kept (ba.block L lg1.lt)
  have hwA : WrsAt wa.heap.size wa (some ⟨w1.heap.size, 0, none⟩) 1 [wA] := by rw [← hwa]; exact wrs_one _ _ _ w1
  have C2 := add_ok hsa (by omega) (by omega) L 7 (by omega) 0 (by omega) lga (.inr rfl) hLB 1 (by omega) _ 1 1 [wA] hwA (by omega) (by decide) okA
  rw [hR1, St1.append, over_neg, tick_neg] at C2
  simp only [show ((7 : Nat) : Int) = 7 from rfl, show ((1 : Nat) : Int) = 1 from rfl, Bool.not_false, Bool.false_eq_true, if_false, if_true, List.nil_append, ne_eq, not_true_eq_false, false_and, decide_false] at C2
  have C2 := Lib.hid C2
  clear hsa lga hwA
  go_wp2_with (fail)
  go_at_call 26
  refine C2.out.mono ?_
  rintro _ w2 ⟨rfl, ad2⟩
  have C3 := logSync_ok ad2.hs (by omega) L 7 (by omega) _ ad2.log (.inr rfl) hLB
  rw [St1.sync, over_neg, tick_neg] at C3
  simp only [show ((7 : Nat) : Int) = 7 from rfl, Bool.not_false, Bool.false_eq_true, if_false, bne_self_eq_false] at C3
  have C3 := Lib.hid C3
  clear C2
  go_wp2_with (fail)
  go_at_call 28
  refine C3.out.mono ?_
  rintro _ w3 ⟨rfl, ad3⟩
  have bw3 : Below w.heap.size w w3 := ((b0.trans b1).trans ((ba.mono (by have := b1.size; have := b0.size; omega)).trans ad2.bel)).trans ad3.bel
  obtain ⟨wb, hwb⟩ : ∃ wb, w3.alloc (.cells #[.string ⟨#[98]⟩, .string ⟨#[]⟩, .bool false] 105) = wb := ⟨_, rfl⟩
  have bb : Below w3.heap.size w3 wb := by rw [← hwb]; exact (Below.refl _ _).alloc (Nat.le_refl _) _
  have hsb := ad3.hs.same bb
  have lgb := ad3.log.kept (bb.block L ad3.log.lt)
  have hwB : WrsAt wb.heap.size wb (some ⟨w3.heap.size, 0, none⟩) 1 [wB'] := by rw [← hwb]; exact wrs_one _ _ _ w3
  have lgb' : LogAt wb L p ((7 : Nat) : Int) ((R1.length : Nat) : Int) false := by
    have := lgb
    rw [show ((0 : Nat) : Int) + (R1.length : Int) = (R1.length : Int) by omega] at this
    exact this
  have C4 := add_ok hsb (by omega) (by omega) L 7 (by omega) R1.length (by omega) lgb' (.inr rfl) hLB 2 (by omega) _ 1 1 [wB'] hwB (by omega) (by decide) okB
  rw [hR2, St1.append, over_neg, tick_neg] at C4
  simp only [show ((7 : Nat) : Int) = 7 from rfl, show ((2 : Nat) : Int) = 2 from rfl, Bool.not_false, Bool.false_eq_true, if_false, if_true, ne_eq, not_true_eq_false, false_and, decide_false] at C4
  have C4 := Lib.hid C4
  clear hsb lgb lgb' hwB C3 ad2 hwa
  go_wp2_with (fail)
  go_at_call 26
  refine C4.out.mono ?_
  rintro _ w4 ⟨rfl, ad4⟩
  have bw4 : Below w.heap.size w w4 := (bw3.trans (bb.mono bw3.size)).trans ad4.bel
  have C5 := hs_crash1 ad4.hs (by omega) (by omega) 0 0
  rw [St1.crash, modn_zero] at C5
  simp only [Nat.add_zero, List.take_left] at C5
  have C5 := Lib.hid C5
  clear C4 hwb ad3
  go_wp2_with (fail)
  go_at_call 47
  refine C5.out.mono ?_
  rintro _ w5 ⟨rfl, hs5, b5, k5⟩
  have lg5 := ad4.log.kept (k5 L (.inr rfl))
  have C6 := Lib.hid (hs_restore hs5)
  clear C5
  go_wp2_with (fail)
  go_at_call 48
  refine C6.out.mono ?_
  rintro _ w6 ⟨rfl, hs6, b6, k6⟩
  have lg6 := lg5.kept (k6 L (.inr rfl))
  have bw6 := (bw4.trans b5).trans b6
  rw [St1.restore] at hs6
  have C7 := replay_ok hs6 7 (by omega) R1 (by omega) (by rw [St1.read]) [⟨1, [wA]⟩] (by simp) (fun b hb => by
    simp at hb
    subst hb
    exact ⟨by simp, by simp, by decide, okA⟩) (by rw [← hR1, scan_one 1 [wA] (by rw [hR1]; exact hl1)]; rfl)
  simp only [show ((7 : Nat) : Int) = 7 from rfl] at C7
  have C7 := Lib.hid C7
  clear C6 lg5
  go_wp2_with (fail)
  go_at_call 35
  refine C7.out.mono ?_
  rintro _ w7 ⟨V, gs, rfl, hbt⟩
  have hs7 := hs6.same hbt.bel
  have lg7 := lg6.kept (hbt.bel.block L lg6.lt)
  have bw7 : Below w.heap.size w w7 := bw6.trans (hbt.bel.mono bw6.size)
  have C8 := Lib.hid (segments_any (.pointer (some ⟨p, 0, none⟩)) [nameB 7] (by simp) w7 ((hs_names hs7 (by omega)).mono (by
    rintro _ w' ⟨v, rfl, h1, -, h3⟩
    exact ⟨v, rfl, h1, h3⟩)))
  clear C7
  go_wp2_with (fail)
  go_at_call 41
  refine C8.out.mono ?_
  rintro _ w8 ⟨U, rfl, hU, hUo, b8⟩
  have hsg : segs [nameB 7] = [7] := by
    unfold segs
    rw [List.filterMap_cons, numOf_name 7 (by omega)]
    rfl
  rw [hsg] at hU
  obtain ⟨gU, cU, rfl, xU, hgU⟩ : ∃ gU cU, U = .slice (some ⟨gU, 0, none⟩) 1 cU ∧ w8.cell? ⟨gU, 0, none⟩ = some (.int .i64 7) ∧ gU < w8.heap.size := by
    rcases hU.2 with ⟨h0, -⟩ | ⟨g, cap, cur, e, hg, -⟩
    · exact absurd h0 (by decide)
    · exact ⟨g, cap + 1, e, hU.cell g 0 _ e 0 _ rfl, (Array.getElem?_eq_some_iff.1 hg).1⟩
  obtain ⟨gV, cV, rfl, xV, hgV⟩ : ∃ gV cV, V = .slice (some ⟨gV, 0, none⟩) 1 cV ∧ w8.cell? ⟨gV, 0, none⟩ = some (.int .u64 1) ∧ gV < w8.heap.size := by
    rcases hbt.row.2 with ⟨h0, -⟩ | ⟨g, cap, cur, e, hg, -⟩
    · exact absurd h0 (by decide)
    · have hlt := (Array.getElem?_eq_some_iff.1 hg).1
      refine ⟨g, cap + 1, e, (b8.cell (p := ⟨g, 0, none⟩) hlt).trans (hbt.row.cell g 0 _ e 0 _ ?_), Nat.lt_of_lt_of_le hlt b8.size⟩
      have := (batCells_get [⟨1, [wA]⟩] gs 0 (by simp) (by rw [hbt.len]; simp)).1
      exact this
  have lg8 := lg7.kept (b8.block L lg7.lt)
  have bw8 : Below w.heap.size w w8 := bw7.trans (b8.mono bw7.size)
  have C9 := name_any 7 w8 (by omega) (by omega)
  rw [show (⟨(nameB ((7 : Int) % 100000000).toNat).toArray⟩ : ByteArray) = ⟨#[119, 48, 48, 48, 48, 48, 48, 48, 55]⟩ from rfl] at C9
  have C9 := Lib.hid C9
  clear C8 hU hUo hbt hs7 lg7 bw7 hs6 lg6
  go_wp2_with (first
    | (go_at_call 19; refine C9.out.mono ?_; rintro _ w9 ⟨rfl, b9⟩; have y1 := (b9.cell (p := ⟨gU, 0, none⟩) hgU).trans xU; have y2 := (b9.cell (p := ⟨gV, 0, none⟩) hgV).trans xV; have lg9 := lg8.kept (b9.block L lg8.lt))
    | (go_at_call 34; refine (logNum_any _ _ _ _ _ _ lg9).mono ?_; rintro _ _ ⟨rfl, rfl⟩)
    | fail)
  go_ret
  exact ⟨rfl, bw8.trans (b9.mono bw8.size)⟩
end Go.Proofs.YtlgcbapgbpofoaaGreat
