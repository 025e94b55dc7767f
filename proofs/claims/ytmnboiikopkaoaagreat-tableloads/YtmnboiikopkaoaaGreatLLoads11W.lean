/- TableLoads' walk. -/
import Derived.Test.YtmnboiikopkaoaaGreatWP
import Derived.Test.YtmnboiikopkaoaaGreatLAlive11
import Derived.Test.YtmnboiikopkaoaaGreatTE
import Derived.Test.YtmnboiikopkaoaaGreatBZ
namespace Go.Proofs.YtmnboiikopkaoaaGreat
open Go.RowKit

section
variable {F : Nat → Prop} {B p n m num : Nat} {w : World} {es : List Ent} {b : List UInt8}
set_option maxHeartbeats 2000000 in
theorem load_any (h : Hs F B p n m (Sft (nmT num) (tabB es)) w) (hF : FineT es) (hnum : num < 100000000) :
    Calls Tryz.prog 10 #[.pointer (some ⟨p, 0, none⟩), .int .i64 (num : Int)] w fun e w' => ∃ q R, e = .returned (.tuple #[.pointer (some ⟨q, 0, none⟩), .int .i64 0]) ∧ TblP w' q R es 0 ∧ (∀ k ∈ R, w.heap.size ≤ k) ∧ Below w.heap.size w w' := by
  have CN := Lib.hid (tname_any (num : Int) w (by omega) (by omega))
  rw [show ((num : Int) % 100000000).toNat = num by omega] at CN
  obtain ⟨NM, hNM⟩ : ∃ NM : ByteArray, ⟨(116 :: dig8 num).toArray⟩ = NM := ⟨_, rfl⟩
  have hNMd : NM.data.toList = nmT num := by rw [← hNM]; rfl
  have hNMs : NM.size ≤ maxLen := by rw [← len_data', hNMd]; unfold maxLen; show 9 ≤ _; omega
  rw [hNM] at CN
  obtain ⟨Z, hZ⟩ : ∃ Z : ByteArray, ⟨(tabB es).toArray⟩ = Z := ⟨_, rfl⟩
  have hZd : Z.data.toList = tabB es := by rw [← hZ]
  have CR := Lib.hid (fun (W : World) (hb : Below w.heap.size w W) => hs_read (h.same hb) NM hNMs)
  rw [hNMd, sft_read] at CR
  unfold readV at CR
  simp only at CR
  rw [hZ] at CR
  have CO := Lib.hid (fun W => tabC.opens es Z W hF hZd)
  clear h hF hNM hNMd hNMs hZ hZd
  go_enter Tryz.func10, Tryz.ntmps10
  go_wp2_with fail
  go_at_call 13
  refine CN.out.mono ?_
  rintro _ w1 ⟨rfl, b1⟩
  have HB1 := Lib.hid b1
  have D1 := Lib.hid (CR.out w1 b1)
  have hs1 := b1.size
  clear CN CR b1
  go_wp2_with (go_at_call 12; (with_reducible refine D1.out.mono ?_); rintro _ w2 ⟨rfl, rfl⟩)
  go_at_call 19
  refine (CO.out _).mono ?_
  rintro _ w3 ⟨q, R, rfl, hT, hR, b3⟩
  go_wp2_with fail
  go_ret2
  exact ⟨q, R, rfl, hT, fun k hk => Nat.le_trans hs1 (hR k hk), HB1.out.trans (b3.mono hs1)⟩
set_option maxHeartbeats 2000000 in
theorem load_not (h : Hs F B p n m (Sft (nmT num) b) w) (hnum : num < 100000000) (other : Nat) (ho : other < 100000000) (hne : num ≠ other) :
    Calls Tryz.prog 10 #[.pointer (some ⟨p, 0, none⟩), .int .i64 (other : Int)] w fun e w' => e = .returned (.tuple #[.pointer none, .int .i64 7]) ∧ Below w.heap.size w w' := by
  have CN := Lib.hid (tname_any (other : Int) w (by omega) (by omega))
  rw [show ((other : Int) % 100000000).toNat = other by omega] at CN
  obtain ⟨NM, hNM⟩ : ∃ NM : ByteArray, ⟨(116 :: dig8 other).toArray⟩ = NM := ⟨_, rfl⟩
  have hNMd : NM.data.toList = nmT other := by rw [← hNM]; rfl
  have hNMs : NM.size ≤ maxLen := by rw [← len_data', hNMd]; unfold maxLen; show 9 ≤ _; omega
  rw [hNM] at CN
  have CR := Lib.hid (fun (W : World) (hb : Below w.heap.size w W) => hs_read (h.same hb) NM hNMs)
  rw [hNMd, sft_other b (fun e => hne (nmT_inj hnum ho e))] at CR
  unfold readV at CR
  simp only at CR
  clear h hNM hNMd hNMs
  go_enter Tryz.func10, Tryz.ntmps10
  go_wp2_with fail
  go_at_call 13
  refine CN.out.mono ?_
  rintro _ w1 ⟨rfl, b1⟩
  have HB1 := Lib.hid b1
  have D1 := Lib.hid (CR.out w1 b1)
  clear CN CR b1
  go_wp2_with (go_at_call 12; (with_reducible refine D1.out.mono ?_); rintro _ w2 ⟨rfl, rfl⟩)
  go_ret2
  exact ⟨rfl, HB1.out⟩
set_option maxHeartbeats 1000000 in
/-- Write of versions that are not in order. -/
theorem write_no (h : Hs F B p 0 0 (St.new 0) w) (a : Option Addr) (len cap : Nat) (es : List Ent) (hE : EntsAt B w a len es) (hl : len ≤ 150) (hcap : len ≤ cap) (hok : ∀ x ∈ es, x.Ok) (hsz : sizeEs es ≤ 20000) (hno : ¬ (es ≠ [] ∧ ordB es es.length = true)) (num : Nat) (hnum : num < 100000000) (level : Int) :
    Calls Tryz.prog 7 #[.pointer (some ⟨p, 0, none⟩), .int .i64 (num : Int), .int .i64 level, .slice a len cap] w fun e w' => e = .returned (.tuple #[.agg #[.int .i64 0, .int .i64 0, .int .i64 0, .string ⟨#[]⟩, .string ⟨#[]⟩], .int .i64 1]) ∧ Below w.heap.size w w' := by
  have hB := h.size
  obtain ⟨W, hW⟩ : ∃ W, w.alloc (.cells #[.int .i64 0, .int .i64 0, .int .i64 0, .string ⟨#[]⟩, .string ⟨#[]⟩] 28) = W := ⟨_, rfl⟩
  have hbW : Below w.heap.size w W := by rw [← hW]; exact (Below.refl _ _).alloc (Nat.le_refl _) _
  have hxW : BoxT w.heap.size W := by rw [← hW]; exact new_block _ _ rfl
  have CP := Lib.hid (tput_any (w := W) a len cap es ((hE.below (hbW.mono hB)).mono (Nat.le_trans hB hbW.size)) hl hcap hok hsz)
  rw [tabV_not hno] at CP
  have d1 : decide ((num : Int) < 0) = false := by simp
  have d2 : decide ((99999999 : Int) < (num : Int)) = false := by simp; omega
  have d3 : decide (99999999 < num) = false := by simp; omega
  have HXW := Lib.hid hxW
  have HBW := Lib.hid hbW
  clear h hE hbW hxW hok hsz hno
  go_enter Tryz.func7, Tryz.ntmps7
  go_upto_region 1 with fail
  try rw [hW]
  clear hW
  go_wp2_with fail
  go_at_call 17
  refine CP.out.mono ?_
  rintro _ w2 ⟨rfl, b2⟩
  have x2 : BoxT w.heap.size w2 := (b2.block _ HXW.out.lt).trans HXW.out
  obtain ⟨c0, c1, c2, c3, c4⟩ := x2.c
  have f0 := x2.f 0
  have f1 := x2.f 1
  have f2 := x2.f 2
  have f3 := x2.f 3
  have f4 := x2.f 4
  have HB2 := Lib.hid (HBW.out.trans (b2.mono HBW.out.size))
  clear x2 b2
  go_wp2_with fail
  refine bodyPost_ret (by simp [results, Tryz.results7, go_sem, c0, c1, c2, c3, c4]; try rfl) rfl ?_
  exact ⟨rfl, ((((HB2.out.setCell (p := ⟨w.heap.size, 0, none⟩) (Nat.le_refl _) _).setCell (p := ⟨w.heap.size, 1, none⟩) (Nat.le_refl _) _).setCell (p := ⟨w.heap.size, 2, none⟩) (Nat.le_refl _) _).setCell (p := ⟨w.heap.size, 3, none⟩) (Nat.le_refl _) _).setCell (p := ⟨w.heap.size, 4, none⟩) (Nat.le_refl _) _⟩
end
theorem range_all (es : List Ent) : rangeE ⟨#[]⟩ ⟨#[]⟩ es = es := by
  unfold rangeE
  rw [List.filter_eq_self]
  intro x _
  unfold inRange
  have h1 : (⟨#[]⟩ : ByteArray).toList.isEmpty = true := by rw [ByteArray.toList_eq]; rfl
  have h2 : lessB x.k ⟨#[]⟩ = false := by
    unfold lessB
    rw [decide_eq_false_iff_not]
    intro hc
    have : ∀ l : List UInt8, Lib.compareBytes l [] ≠ -1 := fun l => by cases l <;> simp [Lib.compareBytes]
    exact this _ hc
  rw [h1, h2]
  rfl
/-- A Table in a box. -/
def BoxU (X : Nat) (n l s : Int) (a b : ByteArray) (w : World) : Prop := w.heap[X]? = some (.cells #[.int .i64 n, .int .i64 l, .int .i64 s, .string a, .string b] 28)
theorem BoxU.lt {X : Nat} {n l s : Int} {a b : ByteArray} {w : World} (h : BoxU X n l s a b w) : X < w.heap.size := (Array.getElem?_eq_some_iff.1 h).1
theorem BoxU.below {X : Nat} {n l s : Int} {a b : ByteArray} {w w' : World} (h : BoxU X n l s a b w) (hb : Below w.heap.size w w') : BoxU X n l s a b w' := (hb.block X h.lt).trans h
theorem BoxU.c {X : Nat} {n l s : Int} {a b : ByteArray} {w : World} (h : BoxU X n l s a b w) : w.cell? ⟨X, 0, none⟩ = some (.int .i64 n) ∧ w.cell? ⟨X, 1, none⟩ = some (.int .i64 l) ∧ w.cell? ⟨X, 2, none⟩ = some (.int .i64 s) ∧ w.cell? ⟨X, 3, none⟩ = some (.string a) ∧ w.cell? ⟨X, 4, none⟩ = some (.string b) := by
  refine ⟨?_, ?_, ?_, ?_, ?_⟩ <;> · unfold World.cell?; rw [show w.heap[X]? = _ from h]; rfl
set_option maxHeartbeats 8000000 in
set_option maxRecDepth 100000 in
theorem tableLoads_hard (a : Option Addr) (len cap : Nat) (es : List Ent) (num : Int) (level : Int) (dir : Int) (w : World) (hI : IsEs w a len es) (hcap : len ≤ cap) :
    Calls Tryz.prog 3 #[.slice a len cap, .int .i64 num, .int .i64 level, .int .i64 dir] w fun e w' => e = .returned (.bool true) ∧ Below w.heap.size w w' := by
  have HCA := Lib.hid (alive11 tabC name7)
  obtain ⟨hlm, hok, hE⟩ := hI
  have CS := Lib.hid (smallS_any a len cap es hE (by unfold maxLen at hlm; omega) hok)
  have hll : es.length = len := hE.1
  subst hll
  have HE := Lib.hid hE
  have HOK := Lib.hid hok
  clear hlm hok hE
  go_enter Tryz.func3, Tryz.ntmps3
  go_wp2_with fail
  go_at_call 4
  refine CS.out.mono ?_
  rintro _ w1 ⟨t, rfl, ht, b1⟩
  have HB1 := Lib.hid b1
  clear CS b1
  cases t with
  | false =>
    clear ht
    go_wp2_with (go_at_call 5; refine (HCA.out _).mono ?_; rintro _ w2 ⟨rfl, b2⟩)
    go_ret
    exact ⟨rfl, HB1.out.trans (b2.mono HB1.out.size)⟩
  | true =>
    obtain ⟨h150, hsz⟩ := ht rfl
    clear ht
    by_cases hnum : 0 ≤ num ∧ num ≤ 99999999
    · obtain ⟨N, rfl⟩ : ∃ N : Nat, num = (N : Int) := ⟨num.toNat, by omega⟩
      have hN : N < 100000000 := by omega
      have d1 : decide ((N : Int) < 0) = false := by simp
      have d2 : decide ((99999999 : Int) < (N : Int)) = false := by simp; omega
      have d3 : decide (99999999 < N) = false := by simp; omega
      have CF := Lib.hid (hs_new 0 (by omega) w1)
      clear hnum
      go_wp2_with fail
      go_at_call 6
      refine CF.out.mono ?_
      rintro _ w2 ⟨p, rfl, h2, b2⟩
      have HB2 := Lib.hid (HB1.out.trans (b2.mono HB1.out.size))
      have hE2 : EntsAt w1.heap.size w2 a es.length es := ((HE.out.below HB1.out).mono HB1.out.size).below b2
      have hs12 := b2.size
      clear CF b2
      by_cases hor : es ≠ [] ∧ ordB es es.length = true
      · have hF : FineT es := ⟨hor.1, hor.2, h150, hsz, HOK.out⟩
        obtain ⟨Z, hZd⟩ : ∃ Z : ByteArray, Z.data.toList = tabB es := ⟨⟨(tabB es).toArray⟩, rfl⟩
        obtain ⟨b, off, rfl⟩ : ∃ b off, a = some ⟨b, off, none⟩ := by
          rcases HE.out.2 with h | ⟨b, off, e, -⟩
          · exact absurd (List.eq_nil_of_length_eq_zero h) hor.1
          · exact ⟨b, off, e⟩
        have CW := Lib.hid (write_any h2 b off es.length cap es hE2 hcap hF N hN level Z hZd)
        obtain ⟨K0, hK0⟩ : ∃ K0, keyT es 0 = K0 := ⟨_, rfl⟩
        obtain ⟨K1, hK1⟩ : ∃ K1, keyT es (es.length - 1) = K1 := ⟨_, rfl⟩
        rw [hK0, hK1] at CW
        have HF := Lib.hid hF
        have HK0 := Lib.hid hK0
        have HK1 := Lib.hid hK1
        have HZD := Lib.hid hZd
        clear h2 hE2 hor hF hZd hK0 hK1
        go_wp2_with fail
        go_at_call 7
        refine CW.out.mono ?_
        rintro _ w3 ⟨rfl, h3, b3⟩
        have HB3 := Lib.hid (HB2.out.trans (b3.mono HB1.out.size))
        obtain ⟨W4, hW4⟩ : ∃ W4, w3.alloc (.cells #[.int .i64 (N : Int), .int .i64 level, .int .i64 (Z.size : Int), .string K0, .string K1] 28) = W4 := ⟨_, rfl⟩
        have b4 : Below w3.heap.size w3 W4 := by rw [← hW4]; exact (Below.refl _ _).alloc (Nat.le_refl _) _
        have x4 : BoxU w3.heap.size (N : Int) level (Z.size : Int) K0 K1 W4 := by rw [← hW4]; exact new_block _ _ rfl
        have hT1 := x4.lt
        obtain ⟨T1, hT1e⟩ : ∃ T1, w3.heap.size = T1 := ⟨_, rfl⟩
        have H4 := Lib.hid (show Hs (fun k => k = T1) w1.heap.size p 5 1000000 (Sft (nmT N) (tabB es)) W4 from h3.below b4 (fun k hk => .inr ⟨by omega, by omega⟩))
        have HB4 := Lib.hid (HB3.out.trans (b4.mono HB3.out.size))
        rw [hT1e] at x4
        have HX4 := Lib.hid x4
        have HTE := Lib.hid hT1e
        have hw1 := HB1.out.size
        have D5 := Lib.hid (hs_crash0 H4.out (by omega) (by omega) dir)
        clear CW h3 b3 b4 x4 hT1 hT1e
        go_upto_region 5 with fail
        try rw [hW4]
        try rw [HTE.out]
        clear hW4
        go_wp2_with fail
        go_at_call 8
        refine D5.out.mono ?_
        rintro _ w5 ⟨rfl, h5, b5, k5⟩
        have HX5 := Lib.hid (show BoxU T1 (N : Int) level (Z.size : Int) K0 K1 w5 from (k5 T1 rfl).trans HX4.out)
        have HB5 := Lib.hid (HB4.out.trans (b5.mono hw1))
        have D6 := Lib.hid (hs_restore h5)
        rw [sft_back] at D6
        clear D5 h5 b5 k5 H4 HX4 HB4
        go_wp2_with fail
        go_at_call 9
        refine D6.out.mono ?_
        rintro _ w6 ⟨rfl, h6, b6, k6⟩
        have HX6 := Lib.hid (show BoxU T1 (N : Int) level (Z.size : Int) K0 K1 w6 from (k6 T1 rfl).trans HX5.out)
        have HB6 := Lib.hid (HB5.out.trans (b6.mono hw1))
        have H6 := Lib.hid h6
        have D7 := Lib.hid (load_any h6 HF.out hN)
        clear D6 h6 b6 k6 HX5 HB5
        go_wp2_with fail
        go_at_call 10
        refine D7.out.mono ?_
        rintro _ w7 ⟨q, R, rfl, hT7, hR, b7⟩
        have HT7 := Lib.hid hT7
        have HR := Lib.hid hR
        have HB67 := Lib.hid b7
        obtain ⟨N2, hN2⟩ : ∃ N2, (N + 1) % 100000000 = N2 := ⟨_, rfl⟩
        have hN2t : ((N : Int) + 1).tmod 100000000 = (N2 : Int) := by rw [Int.tmod_eq_emod_of_nonneg (by omega)]; omega
        have hN2e : ((N : Int) + 1) % 100000000 = (N2 : Int) := by omega
        have D8 := Lib.hid (load_not (H6.out.same b7) hN N2 (by omega) (by omega))
        clear D7 hT7 hR b7 hN2
        go_wp2_with fail
        go_at_call 10
        refine D8.out.mono ?_
        rintro _ w8 ⟨rfl, b8⟩
        have HB68 := Lib.hid (HB67.out.trans (b8.mono HB67.out.size))
        have HT8 := Lib.hid (tabC.below HT7.out b8)
        have D9 := Lib.hid (tabC.range ⟨#[]⟩ ⟨#[]⟩ HT8.out (by omega) (by decide) (by decide))
        rw [range_all] at D9
        clear D8 b8 HT7 HB67
        go_wp2_with fail
        go_at_call 11
        refine D9.out.mono ?_
        rintro _ w9 ⟨v, R9, n9, rfl, hnl, hT9, -, -, t9, -⟩
        have HB69 := Lib.hid (show Below w6.heap.size w6 w9 from HB68.out.trans (t9.below HB68.out.size HR.out))
        have HNL := Lib.hid hnl.row
        have HT9 := Lib.hid hT9
        have CN := Lib.hid (tname_any (N : Int) w9 (by omega) (by omega))
        rw [show ((N : Int) % 100000000).toNat = N by omega] at CN
        obtain ⟨NM, hNM⟩ : ∃ NM : ByteArray, ⟨(116 :: dig8 N).toArray⟩ = NM := ⟨_, rfl⟩
        have hNMd : NM.data.toList = nmT N := by rw [← hNM]; rfl
        have hNMs : NM.size ≤ maxLen := by rw [← len_data', hNMd]; unfold maxLen; show 9 ≤ _; omega
        rw [hNM] at CN
        have CR := Lib.hid (fun (W : World) (hb : Below w9.heap.size w9 W) => hs_read (H6.out.same (HB69.out.trans (hb.mono HB69.out.size))) NM hNMs)
        rw [hNMd, sft_read] at CR
        unfold readV at CR
        simp only at CR
        rw [← HZD.out, ← arr_eq] at CR
        clear D9 hnl hT9 t9 HT8 HB68 HR hNM hNMd hNMs
        go_wp2_with fail
        go_at_call 13
        refine CN.out.mono ?_
        rintro _ w10 ⟨rfl, b10⟩
        have D10 := Lib.hid (CR.out w10 b10)
        have CE := Lib.hid (tabC.ends (tabC.below HT9.out b10))
        rw [HK0.out, HK1.out] at CE
        have HB610 := Lib.hid (HB69.out.trans (b10.mono HB69.out.size))
        have HNL10 := Lib.hid (row_below HNL.out b10)
        clear CN CR b10 HT9 HNL HB69
        go_wp2_with (go_at_call 12; (with_reducible refine D10.out.mono ?_); rintro _ wx ⟨rfl, rfl⟩)
        go_at_call 14
        refine CE.out.mono ?_
        rintro _ w11 ⟨rfl, b11⟩
        have HB611 := Lib.hid (HB610.out.trans (b11.mono HB610.out.size))
        have HNL11 := Lib.hid (row_below HNL10.out b11)
        clear CE D10 b11 HNL10 HB610
        go_wp2_with fail
        go_at_call 5
        refine (HCA.out _).mono ?_
        rintro _ w12 ⟨rfl, b12⟩
        have HB612 := Lib.hid (HB611.out.trans (b12.mono HB611.out.size))
        have HBF := Lib.hid (HB6.out.trans (HB612.out.mono HB6.out.size))
        have hrow := row_below HNL11.out b12
        have x12 := HX6.out.below HB612.out
        obtain ⟨va, vc, rfl, hE0⟩ := row_ents hrow
        have CS := Lib.hid (sameE_any va (some ⟨b, off, none⟩) vc cap es w12 hE0 ((HE.out.below HBF.out).mono HBF.out.size) (fun x hx => (HOK.out x hx).2.1) (by omega))
        have HX12 := Lib.hid x12
        clear hrow x12 hE0 b12 HNL11 HB611 HX6 HB6 HB612 H6
        go_wp2_with fail
        go_at_call 15
        refine CS.out.mono ?_
        rintro _ w13 ⟨rfl, n13, rfl⟩
        obtain ⟨y0, y1, y2, y3, y4⟩ := (show BoxU T1 (N : Int) level (Z.size : Int) K0 K1 (w12.drewN n13) from HX12.out).c
        clear CS
        go_wp2_with fail
        go_ret
        exact ⟨by simp, HBF.out.trans ⟨rfl, rfl, rfl, Nat.le_refl _, fun _ _ => rfl⟩⟩
      · have CW := Lib.hid (write_no h2 a es.length cap es hE2 h150 hcap HOK.out hsz hor N hN level)
        clear h2 hE2 hor
        go_wp2_with fail
        go_at_call 7
        refine CW.out.mono ?_
        rintro _ w3 ⟨rfl, b3⟩
        have HB3 := Lib.hid (HB2.out.trans (b3.mono HB2.out.size))
        obtain ⟨W4, hW4⟩ : ∃ W4, w3.alloc (.cells #[.int .i64 0, .int .i64 0, .int .i64 0, .string ⟨#[]⟩, .string ⟨#[]⟩] 28) = W4 := ⟨_, rfl⟩
        have b4 : Below w3.heap.size w3 W4 := by rw [← hW4]; exact (Below.refl _ _).alloc (Nat.le_refl _) _
        have x4 : BoxU w3.heap.size 0 0 0 ⟨#[]⟩ ⟨#[]⟩ W4 := by rw [← hW4]; exact new_block _ _ rfl
        have HB4 := Lib.hid (HB3.out.trans (b4.mono HB3.out.size))
        have HX4 := Lib.hid x4
        clear CW b3 b4 x4
        have HW4 := Lib.hid hW4
        clear hW4
        go_wp2_with fail
        rw [HW4.out]
        go_at_call 5
        refine (HCA.out _).mono ?_
        rintro _ w5 ⟨rfl, b5⟩
        have x5 := HX4.out.below b5
        obtain ⟨y0, y1, y2, y3, y4⟩ := x5.c
        have HB5 := Lib.hid (HB4.out.trans (b5.mono HB4.out.size))
        clear x5 b5
        go_wp2_with fail
        go_ret
        exact ⟨by first | rfl | decide | simp, HB5.out⟩
    · rcases (show num < 0 ∨ 99999999 < num by omega) with h | h
      · have d1 : decide (num < 0) = true := by simp [h]
        go_wp2_with (go_at_call 5; refine (HCA.out _).mono ?_; rintro _ w2 ⟨rfl, b2⟩)
        go_ret
        exact ⟨rfl, HB1.out.trans (b2.mono HB1.out.size)⟩
      · have d1 : decide (num < 0) = false := by simp; omega
        have d2 : decide ((99999999 : Int) < num) = true := by simp [h]
        go_wp2_with (go_at_call 5; refine (HCA.out _).mono ?_; rintro _ w2 ⟨rfl, b2⟩)
        go_ret
        exact ⟨rfl, HB1.out.trans (b2.mono HB1.out.size)⟩
theorem tableLoads_walk (a : Option Addr) (len cap : Nat) (es : List Ent) (num : Int) (_ : -9223372036854775808 ≤ num) (_ : num ≤ 9223372036854775807) (level : Int) (_ : -9223372036854775808 ≤ level) (_ : level ≤ 9223372036854775807) (dir : Int) (_ : -9223372036854775808 ≤ dir) (_ : dir ≤ 9223372036854775807) (w : World) (hI : IsEs w a len es) (_hnil : a = none → cap = 0) (hcap : len ≤ cap ∧ cap ≤ maxLen) :
    Calls Tryz.prog 3 #[.slice a len cap, .int .i64 num, .int .i64 level, .int .i64 dir] w fun e w' => e = .returned (.bool true) ∧ Below w.heap.size w w' :=
  tableLoads_hard a len cap es num level dir w hI hcap.1
end Go.Proofs.YtmnboiikopkaoaaGreat
