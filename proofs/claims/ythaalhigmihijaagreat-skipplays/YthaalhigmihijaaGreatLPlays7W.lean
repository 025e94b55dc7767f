/- The walk of SkipPlays. -/
import Derived.Test.YthaalhigmihijaaGreatYQ
import Derived.Test.YthaalhigmihijaaGreatYS
import Derived.Test.YthaalhigmihijaaGreatTI
import Derived.Test.YthaalhigmihijaaGreatLLevels7X
namespace Go.Proofs.YthaalhigmihijaaGreat
open Go.RowKit

set_option maxHeartbeats 8000000 in
set_option maxRecDepth 100000 in
theorem skipPlays_walk (z : Bool) (a : Option Addr) (len cap : Nat) (l : List Ent) (aa : Option Addr) (la ca : Nat) (ka : List Int) (ak : Option Addr) (lk ck : Nat) (kk : List ByteArray) (seq : Nat) (_hseq : seq ≤ 18446744073709551615) (w : World) (hE : IsEs w a len l) (hA : IsIs w aa la ka) (hK : IsRowS w ak lk kk) :
    Calls Tryz.prog 3 #[.bool z, .slice a len cap, .slice aa la ca, .slice ak lk ck, .int .u64 (seq : Int)] w fun r w' => r = .returned (.bool true) ∧ Below w.heap.size w w' := by
  obtain ⟨hlm, hok, hE⟩ := hE
  obtain ⟨hla, hlka, -, hra⟩ := hA
  have hll := hE.1
  have hlkk := hK.1
  have CS := Lib.hid (small_any a len cap l hE (by unfold maxLen at hlm; omega) hok)
  have CK := Lib.hid (fun (W : World) (hW : IsRowS W ak lk kk) => short_any 60 3000 ak lk ck kk W (by omega) (by omega) (by omega) (by omega) hW)
  have HE := Lib.hid hE
  have HOK := Lib.hid hok
  have HRA := Lib.hid hra
  have HK := Lib.hid hK
  have hla0 : la ≤ 9223372036854775807 := by unfold maxLen at hla; omega
  have CA := Lib.hid (fun W => alive7_any W)
  clear hE hok hra hK
  go_enter Tryz.func3, Tryz.ntmps3
  go_wp2_with fail
  refine CS.out.mono ?_
  rintro e W1 ⟨t, rfl, hsm, hb1⟩
  have HSM := Lib.hid hsm
  have HB1 := Lib.hid hb1
  clear hsm hb1
  cases t
  · go_wp2_with (first | (go_at_call 6; (with_reducible refine (CA.out _).mono ?_); rintro e W2 ⟨rfl, hb2⟩) | fail)
    go_ret
    exact ⟨rfl, bt7 HB1.out hb2⟩
  have hl150 : len ≤ 150 := (HSM.out rfl).1
  clear HSM CS
  by_cases hl7 : 200 < la
  · have d2 : decide (200 < (la : Int)) = true := by simp; omega
    go_wp2_with (first | (go_at_call 6; (with_reducible refine (CA.out _).mono ?_); rintro e W2 ⟨rfl, hb2⟩) | fail)
    go_ret
    exact ⟨rfl, bt7 HB1.out hb2⟩
  have d2 : decide (200 < (la : Int)) = false := by simp; omega
  have HK1 := Lib.hid (rowS_keep7 HK.out HB1.out)
  go_wp2_with fail
  (with_reducible refine (CK.out _ HK1.out).mono ?_)
  rintro e W2 ⟨⟨t, rfl, hsh⟩, hb2⟩
  have HSH := Lib.hid hsh
  have HB2 := Lib.hid (bt7 HB1.out hb2)
  clear hsh hb2
  cases t
  · go_wp2_with (first | (go_at_call 6; (with_reducible refine (CA.out _).mono ?_); rintro e W3 ⟨rfl, hb2⟩) | fail)
    go_ret
    exact ⟨rfl, bt7 HB2.out hb2⟩
  have hlk60 : lk ≤ 60 := by have := (HSH.out rfl).1; omega
  have HTOT := Lib.hid (HSH.out rfl).2
  clear HSH CK HK1
  go_wp2_with fail
  (with_reducible refine (skp_new _).mono ?_)
  rintro e W3 ⟨rfl, hs3, -, hb3⟩
  have HS3 := Lib.hid hs3
  have HB3 := Lib.hid (bt7 HB2.out hb3)
  clear hs3 hb3
  go_upto_if 44 with fail
  go_cut [11] (fun v wr => ∃ p, v = .pointer (some ⟨p, 0, none⟩) ∧ w.heap.size ≤ p ∧ Skp w.heap.size p [] wr ∧ Below w.heap.size w wr)
  case first =>
    cases z
    · go_wp2_with fail
      go_meet
      exact ⟨_, rfl, HB2.out.size, ⟨HS3.out.lst, HS3.out.right, fun k hk => Nat.le_trans HB2.out.size (HS3.out.base k hk)⟩, HB3.out⟩
    · go_wp2_with fail
      go_meet
      exact ⟨_, rfl, HB3.out.size, skp_zero W3 HB3.out.size, HB3.out.alloc HB3.out.size _⟩
  case rest =>
    obtain ⟨p, rfl, hpw, hs4, hb4⟩ := hcut
    obtain ⟨Wb, rfl⟩ : ∃ Wb, Wb = wc := ⟨_, rfl⟩
    have HS4 := Lib.hid hs4
    have HB4 := Lib.hid hb4
    clear hs4 hb4 HS3 HB3
    have HCE := Lib.hid (show ∀ W, Below w.heap.size w W → ∀ i (h : i < len), ∃ b off, a = some ⟨b, off, none⟩ ∧ b < w.heap.size ∧ ∀ j u, (entAt l i).cells[j]? = some u → W.cell? ⟨b, off + i * 4 + j, none⟩ = some u from fun W hW i h => by
      rcases (HE.out.below hW).2 with h0 | ⟨b, off, e, h1, h2⟩
      · omega
      · refine ⟨b, off, e, h1, fun j u hu => h2 i (by omega) j u ?_⟩
        rw [entAt_eq (show i < l.length by omega)] at hu
        exact hu)
    go_wp2_with fail
    have HST := Lib.hid (St7.start HS4.out ((Below.refl _ _).alloc (Nat.le_refl _) _) (book_new7 w.heap.size Wb HB4.out.size) (Nat.ne_of_lt HS4.out.lst.hdlt))
    have HB5 := Lib.hid (fun o => HB4.out.alloc HB4.out.size o)
    clear HS4
    go_loopw [12, 13, 15] (fun rv tv iv wr => ∃ (i : Nat) (ns : List Nd) (T : List Tw), i ≤ len ∧ iv = .int .i64 (i : Int) ∧ ns.length ≤ i ∧ Tws T ns ∧ St7 w.heap.size p Wb.heap.size ns (entsOf ns) T rv tv [] [] [] wr ∧ Below w.heap.size w wr) (fun _ _ iv _ => len - (intOf iv).toNat)
    case atStart => exact ⟨0, [], [], Nat.zero_le _, rfl, Nat.le_refl _, List.Perm.nil, HST.out, HB5.out _⟩
    case round =>
      obtain ⟨i, ns, T, hi, rfl, hns, hT, hst, hbr⟩ := hrel
      have HT := Lib.hid hT
      have HS := Lib.hid hst
      have HBR := Lib.hid hbr
      clear hT hst hbr HST HB5
      by_cases hlt : i < len
      · have hil : (i : Int) < (len : Int) := by omega
        obtain ⟨W0, rfl⟩ : ∃ W0, W0 = wr := ⟨_, rfl⟩
        obtain ⟨g, off, rfl, hgw, -⟩ := HCE.out W0 HBR.out i hlt
        have HX := Lib.hid (show ∀ W, Below w.heap.size w W → W.cell? ⟨g, off + i * 4, none⟩ = some (.string (entAt l i).k) ∧ W.cell? ⟨g, off + i * 4 + 1, none⟩ = some (.int .u64 (entAt l i).s) ∧ W.cell? ⟨g, off + i * 4 + 2, none⟩ = some (.int .i64 (entAt l i).n) ∧ W.cell? ⟨g, off + i * 4 + 3, none⟩ = some (.string (entAt l i).v) from fun W hW => by
          obtain ⟨g', off', e, -, cg⟩ := HCE.out W hW i hlt
          cases e
          exact ⟨cg 0 _ rfl, cg 1 _ rfl, cg 2 _ rfl, cg 3 _ rfl⟩)
        have hnice : (entAt l i).Nice := by rw [entAt_eq (show i < l.length by omega)]; exact (HOK.out _ (List.getElem_mem _)).nice7
        generalize entAt l i = x at *
        go_upto_if 60 with fail
        go_cut [16] from 51 to 64 (fun v wx => ∃ zl : Int, v = .int .i64 zl ∧ wx = W0)
        case first =>
          by_cases hia : i < la
          · obtain ⟨ba1, oa1, rfl, ga⟩ : ∃ ba1 oa1, aa = some ⟨ba1, oa1, none⟩ ∧ W0.cell? ⟨ba1, oa1 + i, none⟩ = some (.int .i64 (ka[i]'(by omega))) := by
              rcases HRA.out with h0 | ⟨ba1, oa1, e, h⟩
              · rw [h0] at hlka
                simp at hlka
                omega
              · have := h i (by omega)
                exact ⟨ba1, oa1, e, (HBR.out.cell (p := ⟨ba1, oa1 + i, none⟩) (lt_of_cell this)).trans this⟩
            have dxa : decide ((i : Int) < (la : Int)) = true := by simp; omega
            generalize ka[i]'(by omega) = za at *
            go_wp2_with fail
            go_meet
            exact ⟨_, rfl, rfl⟩
          · have dxa : decide ((i : Int) < (la : Int)) = false := by simp; omega
            go_wp2_with fail
            go_meet
            exact ⟨_, rfl, rfl⟩
        case rest =>
          obtain ⟨zl, rfl, rfl⟩ := hcut
          have HIN := Lib.hid (HS.out.ins x hnice (by omega))
          obtain ⟨x0, x1, x2, x3⟩ := HX.out _ HBR.out
          go_upto_region 18 with (first | (go_at_call 8; (with_reducible refine HIN.out.mono ?_); rintro e W6 ⟨v, t, rfl, ht, hb6, hnew⟩) | fail)
          have HNEW := Lib.hid hnew
          have HT6 := Lib.hid ht
          have HB6 := Lib.hid (bt7 HBR.out hb6)
          have HS6 := Lib.hid (show ∃ ex, (t = true → ex = (ob v).toList) ∧ St7 w.heap.size p Wb.heap.size ns (entsOf ns) T _ _ ex [] [] W6 from by
            cases t
            · exact ⟨[], fun h => (by cases h), HS.out.below hb6⟩
            · exact ⟨_, fun _ => rfl, HS.out.take hb6 (HNEW.out rfl).1 (HNEW.out rfl).2.1⟩)
          clear hnew ht hb6 x0 x1 x2 x3 HIN HS
          obtain ⟨x0, x1, x2, x3⟩ := HX.out _ HB6.out
          have CV := Lib.hid (fun W => valid5_any x.k x.s x.n x.v W hnice.1 hnice.2.1)
          go_cut [18] from 65 to 81 (fun fv wx => fv = .bool (t && validB x.k x.n x.v) ∧ Below W6.heap.size W6 wx)
          case first =>
            cases t
            · go_wp2_with fail
              go_meet
              exact ⟨rfl, Below.refl _ _⟩
            · go_wp2_with (first | (go_at_call 9; (with_reducible refine (CV.out _).mono ?_); rintro e W7 ⟨rfl, hb7⟩) | fail)
              go_meet
              exact ⟨by rw [Bool.true_and], hb7⟩
          case rest =>
            obtain ⟨rfl, hb7⟩ := hcut
            obtain ⟨W7, rfl⟩ : ∃ W7, W7 = wc := ⟨_, rfl⟩
            have HB7 := Lib.hid (bt7 HB6.out hb7)
            obtain ⟨ex, hex, hs6⟩ := HS6.out
            have HS7 := Lib.hid (hs6.below hb7)
            have HEX := Lib.hid hex
            have HN7 := Lib.hid (show t = true → ∀ P Q, Cut x.k x.s ns P Q → Row W7 32 4 v (ns.length + 1) (cellsE (entsOf P ++ x :: entsOf Q)) from fun h P Q hc => row_below7 ((HNEW.out h).2.2 P Q hc) hb7)
            clear hb7 hex hs6 HS6 HNEW x0 x1 x2 x3 CV
            obtain ⟨x0, x1, x2, x3⟩ := HX.out _ HB7.out
            have CP := Lib.hid (put_step HS7.out.skp x hnice zl (by omega))
            unfold ev at CP
            obtain ⟨f, hf⟩ : ∃ f, f = (t && validB x.k x.n x.v) := ⟨_, rfl⟩
            rw [← hf]
            have HF := Lib.hid hf
            clear hf
            go_upto_region 19 with fail
            go_cut [90] from 74 to 89 (fun bv wx => bv = .bool false ∧ ∃ ns', Puts W7 x (lvl zl) ns f ns' ∧ Skp w.heap.size p ns' wx ∧ Turn (foot p ns) W7 wx)
            case first =>
              go_wp2_with (first | (go_at_call 10; (with_reducible refine CP.out.mono ?_); rintro e W8 ⟨t5, ns', rfl, hpu, hs8, ht8⟩; obtain rfl : f = t5 := HF.out.trans (puts_eq HT6.out hpu).symm; have HPU := Lib.hid hpu; have HS8 := Lib.hid hs8; have HT8 := Lib.hid ht8; clear hpu hs8 ht8; cases f) | fail)
              all_goals (go_meet; exact ⟨rfl, _, HPU.out, HS8.out, HT8.out⟩)
            case rest =>
              obtain ⟨rfl, ns', hpu, hs8, ht8⟩ := hcut
              obtain ⟨W8, rfl⟩ : ∃ W8, W8 = wc := ⟨_, rfl⟩
              have HB8 := Lib.hid (show Below w.heap.size w W8 from HB7.out.trans (ht8.below HB7.out.size (fun k hk => HS7.out.skp.base k hk)))
              have HPU := Lib.hid hpu
              have HS8 := Lib.hid hs8
              have HT8 := Lib.hid ht8
              clear hpu hs8 ht8 CP x0 x1 x2 x3
              go_upto_if 91 with fail
              go_cut [12, 13] from 82 to 103 (fun rv' tv' wx => ∃ (ns' : List Nd) (T' : List Tw), ns'.length ≤ i + 1 ∧ Tws T' ns' ∧ St7 w.heap.size p Wb.heap.size ns' (entsOf ns') T' rv' tv' [] [] [] wx ∧ Below w.heap.size w wx)
              case first =>
                cases f
                · obtain rfl : ns' = ns := puts_no HPU.out
                  go_wp2_with fail
                  go_meet
                  exact ⟨_, T, by omega, HT.out, ((HS7.out.put HPU.out HS8.out HT8.out).drop), HB8.out⟩
                · have ht : t = true := by
                    have := HF.out
                    cases t
                    · cases this
                    · rfl
                  obtain rfl := HEX.out ht
                  have HS9 := Lib.hid (HS7.out.both (HN7.out ht) HPU.out HS8.out HT8.out)
                  have hn9 := puts_len7 HPU.out
                  have HT9 := Lib.hid (HT.out.put HPU.out)
                  have hTl := HT.out.len
                  obtain ⟨x0, x1, x2, x3⟩ := HX.out _ HB8.out
                  obtain ⟨i0, hi0, hz0, hzs, hzb⟩ := info_parts infoT7
                  have hq : min (max zl 1) 8 = ((lvl zl : Nat) : Int) := by unfold lvl; omega
                  have HSrc := Lib.hid (show ∀ q : Int, Src Tryz.prog 5 39 (.slice (some ⟨W8.heap.size, 0, none⟩) 1 1) 1 [.string x.k, .int .u64 x.s, .int .i64 x.n, .string x.v, .int .i64 q] (W8.alloc (.cells #[.string x.k, .int .u64 x.s, .int .i64 x.n, .string x.v, .int .i64 q] 62)) from fun q => Src.ofSlice (P := Tryz.prog) _ (size := 5) Tryz.underlying39 ⟨W8.heap.size, 0, none⟩ 1 1 _ rfl (fun j u hu => by
                    match j, hu with
                    | 0, hu => simpa [Addr.add] using hu
                    | 1, hu => simpa [Addr.add] using hu
                    | 2, hu => simpa [Addr.add] using hu
                    | 3, hu => simpa [Addr.add] using hu
                    | 4, hu => simpa [Addr.add] using hu) (by simp [Value.oneCell']))
                  have HBa := Lib.hid (show T.length + 1 ≤ maxLen by unfold maxLen; omega)
                  have HBb := Lib.hid (show (T.length + 1) * 56 ≤ 140737488355328 by omega)
                  have HAL := Lib.hid (fun o => (Below.refl W8.heap.size W8).alloc (Nat.le_refl _) o)
                  go_wp2_with (first
                    | (at_builtin; refine wpList_append_row _ rfl _ _ 39 39 rfl 62 i0 _ 5 56 Tryz.underlying39 hi0 hz0 hzs hzb rfl _ _ _ rfl (HS9.out.below (HAL.out _)).trow _ rfl 1 _ (HSrc.out _) HBa.out HBb.out ?_; intro v' w9 hrow9 hgrow9 hob9)
                    | fail)
                  go_meet
                  exact ⟨_, _, by omega, HT9.out, HS9.out.tow (HAL.out _) hrow9 hgrow9 hob9, HB8.out.trans (HS9.out.towB (HAL.out _) hgrow9)⟩
              case rest =>
                obtain ⟨ns1, T1, hn1, hT1, hs9, hb9⟩ := hcut
                obtain ⟨W9, rfl⟩ : ∃ W9, W9 = wc := ⟨_, rfl⟩
                have HT1 := Lib.hid hT1
                have HS9 := Lib.hid hs9
                have HB9 := Lib.hid hb9
                clear hT1 hs9 hb9 HPU HS8 HT8 HN7 HEX HF HS7 HT HT6 HB8 HB7 HB6 HBR
                obtain ⟨P, Q, hc⟩ := cut_of x.k 18446744073709551615 ns1 HS9.out.skp.right.ord
                have HC := Lib.hid hc
                clear hc
                obtain ⟨ar, cr, rfl, -, -⟩ := HS9.out.rrow.le
                obtain ⟨x0, -, -, -⟩ := HX.out _ HB9.out
                have HAR := Lib.hid ((HS9.out.below (drewB7 W9)).all (by omega))
                have HFR := Lib.hid (fun W rv tv xs (hW : St7 w.heap.size p Wb.heap.size ns1 (entsOf ns1) T1 rv tv [] xs [] W) => hW.fromK HC.out (by omega))
                have HX0 := Lib.hid (fun W (hW : Below w.heap.size w W) => (HX.out W hW).1)
                go_wp2_with fail
                go_region_held3 (fun w' => w'.cell? ⟨g, off + i * 4, none⟩ = some (.string x.k)) (first | go_keep | exact x10 | exact x11) (first | (go_at_call 11; (with_reducible refine HAR.out.mono ?_); rintro e W10 ⟨va, rfl, hs10, hb10⟩; have x10 := HX0.out W10 (bt7 HB9.out (bt7 (drewB7 _) hb10)); have CF1 := Lib.hid (HFR.out _ _ _ _ hs10); have HB10 := Lib.hid (bt7 HB9.out (bt7 (drewB7 _) hb10)); clear hs10 hb10) | (go_at_call 12; (with_reducible refine CF1.out.mono ?_); rintro e W11 ⟨vb, rfl, hs11, hb11⟩; have HS11 := Lib.hid hs11; have HB11 := Lib.hid (bt7 HB10.out hb11); have x11 := HX0.out W11 HB11.out; clear hs11 hb11) | fail)
                have hQl : Q.length ≤ ns1.length := by rw [HC.out.all]; simp
                have CE1 := Lib.hid (HS11.out.addE (A := [(vb, (entsOf Q).map elOf)]) (C := []) (v := va) (zs := (entsOf ns1).map elOf) (by simp [entsOf]; omega))
                go_wp2_with fail
                (with_reducible refine CE1.out.mono ?_)
                rintro e W12 ⟨rfl, hs12, hb12⟩
                have CE2 := Lib.hid (St7.addE (A := []) (C := []) (v := vb) (zs := (entsOf Q).map elOf) hs12 (by simp [entsOf]; omega))
                have HB12 := Lib.hid (HB11.out.trans hb12)
                clear hs12 hb12 CE1 HS11 HAR HFR x0
                go_wp2_with fail
                (with_reducible refine CE2.out.mono ?_)
                rintro e W13 ⟨rfl, hs13, hb13⟩
                have HS13 := Lib.hid (show St7 w.heap.size p Wb.heap.size ns1 (entsOf ns1) T1 _ _ [] [] [(vb, (entsOf Q).map elOf), (va, (entsOf ns1).map elOf)] W13 from hs13)
                have HB13 := Lib.hid (HB12.out.trans hb13)
                clear hs13 hb13 CE2
                have RA := Lib.hid (show Rd W13 va ((entsOf ns1).map elOf).length (cellsEntries ((entsOf ns1).map elOf)) from HS13.out.book.read (r := (va, (entsOf ns1).map elOf)) (by simp))
                have CM1 := Lib.hid (sameEntries_rd va _ _ W13 RA.out HS13.out.rdr (by simp [entsOf]; omega))
                go_wp2_with fail
                (with_reducible refine CM1.out.mono ?_)
                rintro e W14 ⟨rfl, n14, h14⟩
                have HS14 := Lib.hid (show St7 w.heap.size p Wb.heap.size ns1 (entsOf ns1) T1 _ _ [] [] [(vb, (entsOf Q).map elOf), (va, (entsOf ns1).map elOf)] W14 from h14 ▸ HS13.out.below (drew_below' W13 n14))
                have HB14 := Lib.hid (show Below w.heap.size w W14 from h14 ▸ bt7 HB13.out (drew_below' W13 n14))
                have CRG := Lib.hid (HS14.out.range HC.out (by omega) hnice.1)
                have x0 := HX0.out _ HB14.out
                clear h14 CM1 RA HS13
                go_wp2_with fail
                (with_reducible refine CRG.out.mono ?_)
                rintro e W15 ⟨vr, rfl, hrr, hb15⟩
                have HS15 := Lib.hid (HS14.out.below hb15)
                have HB15 := Lib.hid (bt7 HB14.out hb15)
                have RB := Lib.hid (show Rd W15 vb ((entsOf Q).map elOf).length (cellsEntries ((entsOf Q).map elOf)) from HS15.out.book.read (r := (vb, (entsOf Q).map elOf)) (by simp))
                have CM2 := Lib.hid (sameEntries_rd vb vr _ W15 RB.out hrr (by simp [entsOf]; omega))
                clear hrr hb15 RB CRG HS14
                go_wp2_with fail
                (with_reducible refine CM2.out.mono ?_)
                rintro e W16 ⟨rfl, n16, h16⟩
                have HS16 := Lib.hid (show St7 w.heap.size p Wb.heap.size ns1 (entsOf ns1) T1 _ _ [] [] [(vb, (entsOf Q).map elOf), (va, (entsOf ns1).map elOf)] W16 from h16 ▸ HS15.out.below (drew_below' W15 n16))
                have HB16 := Lib.hid (show Below w.heap.size w W16 from h16 ▸ bt7 HB15.out (drew_below' W15 n16))
                have CL := Lib.hid (len_any HS16.out.skp.lst)
                rw [← ents_len ns1] at CL
                clear h16 CM2 HS15
                go_wp2_with (first | (go_at_call 16; (with_reducible refine CL.out.mono ?_); rintro e W17 ⟨rfl, rfl⟩) | fail)
                go_roundw
                case rel => exact ⟨i + 1, ns1, T1, by omega, by go_num, by omega, HT1.out, HS16.out.forget, HB16.out⟩
                case measure => simp [intOf]; omega
      · obtain rfl : len = i := by omega
        obtain ⟨W20, rfl⟩ : ∃ W20, W20 = wr := ⟨_, rfl⟩
        have hT150 : T.length ≤ 150 := by have := HT.out.len; omega
        obtain ⟨at0, ct0, rfl, hTE⟩ := row_tws HS.out.trow
        obtain ⟨ar, cr, rfl, -, -⟩ := HS.out.rrow.le
        have HTE := Lib.hid hTE
        have h8 : ∀ k, hgtT (T.take k) ≤ 8 := fun k => hgtT_le (fun t ht => by
          obtain ⟨n, hn, rfl⟩ := HT.out.mem (List.mem_of_mem_take ht)
          exact HS.out.skp.lst.lev n hn)
        have H8 := Lib.hid h8
        clear hTE h8
        go_wp2_with fail
        go_loopw [21, 22] (fun hv jv wr => ∃ j : Nat, j ≤ T.length ∧ hv = .int .i64 ((hgtT (T.take j) : Nat) : Int) ∧ jv = .int .i64 (j : Int) ∧ Below W20.heap.size W20 wr) (fun _ jv _ => T.length - (intOf jv).toNat)
        case atStart => exact ⟨0, Nat.zero_le _, rfl, rfl, Below.refl _ _⟩
        case round =>
          obtain ⟨j, hj, rfl, rfl, hbj⟩ := hrel
          have HBJ := Lib.hid hbj
          clear hbj
          by_cases hjl : j < T.length
          · obtain ⟨gt, ot, rfl, -, ct⟩ : ∃ gt ot, at0 = some ⟨gt, ot, none⟩ ∧ gt < W20.heap.size ∧ wr.cell? ⟨gt, ot + j * 5 + 4, none⟩ = some (.int .i64 ((T[j].l : Nat) : Int)) := by
              rcases HTE.out.2 with h0 | ⟨gt, ot, e, h1, h2⟩
              · omega
              · exact ⟨gt, ot, e, h1, (HBJ.out.cell (p := ⟨gt, ot + j * 5 + 4, none⟩) h1).trans (h2 j hjl 4 _ rfl)⟩
            have hjI : (j : Int) < (T.length : Int) := by omega
            have HNX := Lib.hid (hgtT_take T j hjl)
            have h81 := H8.out j
            have h82 := H8.out (j + 1)
            generalize T[j].l = lj at *
            go_wp2_with fail
            go_roundw
            case rel => exact ⟨j + 1, by omega, by rw [HNX.out]; congr 1; omega, by go_num, HBJ.out⟩
            case measure => simp [intOf]; omega
          · obtain rfl : j = T.length := by omega
            rw [List.take_length, HT.out.high]
            obtain ⟨W21, rfl⟩ : ∃ W21, W21 = wr := ⟨_, rfl⟩
            have HS21 := Lib.hid (HS.out.below HBJ.out)
            have HB21 := Lib.hid (bt7 HBR.out HBJ.out)
            have hh8 : hgt ns ≤ 8 := hgt_le HS.out.skp.lst.lev
            have HKC := Lib.hid (show ∀ W, Below w.heap.size w W → ∀ q (h : q < lk), ∃ bk ok, ak = some ⟨bk, ok, none⟩ ∧ W.cell? ⟨bk, ok + q, none⟩ = some (.string (kk.getD q ⟨#[]⟩)) ∧ (kk.getD q ⟨#[]⟩).size ≤ maxLen from fun W hW q h => by
              obtain ⟨k1, k2, k3⟩ := rowS_keep7 HK.out hW
              rcases k3 with h0 | ⟨bk, ok, e, -, hc⟩
              · omega
              · have hq : q < kk.length := by omega
                have e2 : kk.getD q ⟨#[]⟩ = kk[q] := by simp [List.getD, List.getElem?_eq_getElem hq]
                rw [e2]
                exact ⟨bk, ok, e, hc q hq, k2 _ (List.getElem_mem _)⟩)
            clear HBJ HS HTE H8 HBR HCE HOK HE HRA HK
            go_wp2_with fail
            go_loopw [23] (fun qv wr => ∃ q : Nat, q ≤ lk ∧ qv = .int .i64 (q : Int) ∧ St7 w.heap.size p Wb.heap.size ns (entsOf ns) T (.slice ar (entsOf ns).length cr) (.slice at0 T.length ct0) [] [] [] wr ∧ Below w.heap.size w wr) (fun qv _ => lk - (intOf qv).toNat)
            case atStart => exact ⟨0, Nat.zero_le _, rfl, HS21.out, HB21.out⟩
            case round =>
              obtain ⟨q, hq, rfl, hs22, hb22⟩ := hrel
              have HS22 := Lib.hid hs22
              have HB22 := Lib.hid hb22
              clear hs22 hb22
              by_cases hql : q < lk
              · obtain ⟨W22, rfl⟩ : ∃ W22, W22 = wr := ⟨_, rfl⟩
                have hqI : (q : Int) < (lk : Int) := by omega
                obtain ⟨bk, okk, rfl, ck0, hkl⟩ := HKC.out W22 HB22.out q hql
                have HCK := Lib.hid (show ∀ W, Below w.heap.size w W → W.cell? ⟨bk, okk + q, none⟩ = some (.string (kk.getD q ⟨#[]⟩)) from fun W hW => by
                  obtain ⟨bk', ok', e, h1, -⟩ := HKC.out W hW q hql
                  cases e
                  exact h1)
                generalize kk.getD q ⟨#[]⟩ = key at *
                obtain ⟨P, Q, hc⟩ := cut_of key (seq : Int) ns HS22.out.skp.right.ord
                obtain ⟨P2, Q2, hc2⟩ := cut_of key 18446744073709551615 ns HS22.out.skp.right.ord
                have CG := Lib.hid (get_any HS22.out.skp.lst HS22.out.skp.right hc)
                have CK2 := Lib.hid (fun W rv tv ex (hW : St7 w.heap.size p Wb.heap.size ns (entsOf ns) T rv tv ex [] [] W) => hW.pick hc (by omega))
                have CPT := Lib.hid (fun W rv tv ex (hW : St7 w.heap.size p Wb.heap.size ns (entsOf ns) T rv tv ex [] [] W) => path_own hW.skp.lst hc2 hW.skp.right.fit (by omega))
                have CP5 := Lib.hid (fun W rv tv ex (hW : St7 w.heap.size p Wb.heap.size ns (entsOf ns) T rv tv ex [] [] W) => hW.path5 HT.out hc2 (by omega) hkl)
                obtain ⟨o, ho⟩ : ∃ o, o = getR key Q := ⟨_, rfl⟩
                rw [← ho] at CG CK2
                obtain ⟨eo, heo⟩ : ∃ eo, eo = o.getD Ent.zero := ⟨_, rfl⟩
                obtain ⟨ok, hok⟩ : ∃ ok, ok = o.isSome := ⟨_, rfl⟩
                unfold getV Ent.val ev at CG CK2
                rw [← heo, ← hok] at CG CK2
                have hzl : (pathZ P2 (hgt ns)).length ≤ 100 := by simp [pathZ]; omega
                generalize pathZ P2 (hgt ns) = zi at *
                clear hc hc2 ho heo hok HKC
                go_wp2_with fail
                (with_reducible refine CG.out.mono ?_)
                rintro e W23 ⟨rfl, hb23⟩
                have HS23 := Lib.hid (HS22.out.below hb23)
                have HB23 := Lib.hid (bt7 HB22.out hb23)
                clear hb23 CG HS22 ck0
                go_upto_region 38 with fail
                obtain ⟨W24, hW24⟩ : ∃ W24, W23.alloc (.cells #[.string eo.k, .int .u64 eo.s, .int .i64 eo.n, .string eo.v] 32) = W24 := ⟨_, rfl⟩
                have hb24 : Below W23.heap.size W23 W24 := by rw [← hW24]; exact (Below.refl _ _).alloc (Nat.le_refl _) _
                have HX24 := Lib.hid (show Boxe W23.heap.size eo.k eo.s eo.n eo.v W24 by rw [← hW24]; exact new_block _ _ rfl)
                have HS24 := Lib.hid (HS23.out.addX hb24 (Nat.le_refl _) (by rw [← hW24]; simp [World.alloc, -World.alloc_eq]))
                have HB24 := Lib.hid (bt7 HB23.out hb24)
                rw [hW24]
                clear hW24 hb24 HS23
                have ck0 := HCK.out _ HB24.out
                go_wp2_with fail
                (with_reducible refine (CK2.out _ _ _ _ HS24.out).mono ?_)
                rintro e W25 ⟨rfl, hb25⟩
                have HS25 := Lib.hid (HS24.out.below hb25)
                have HX25 := Lib.hid (HX24.out.below hb25)
                have HB25 := Lib.hid (bt7 HB24.out hb25)
                clear hb25 HS24 HX24 CK2 ck0
                go_upto_region 39 with fail
                obtain ⟨W26, hW26⟩ : ∃ W26, W25.alloc (.cells #[.string eo.k, .int .u64 eo.s, .int .i64 eo.n, .string eo.v] 32) = W26 := ⟨_, rfl⟩
                have hb26 : Below W25.heap.size W25 W26 := by rw [← hW26]; exact (Below.refl _ _).alloc (Nat.le_refl _) _
                have HY26 := Lib.hid (show Boxe W25.heap.size eo.k eo.s eo.n eo.v W26 by rw [← hW26]; exact new_block _ _ rfl)
                have HX26 := Lib.hid (HX25.out.below hb26)
                have HS26 := Lib.hid (HS25.out.addX hb26 (Nat.le_refl _) (by rw [← hW26]; simp [World.alloc, -World.alloc_eq]))
                have HB26 := Lib.hid (bt7 HB25.out hb26)
                rw [hW26]
                clear hW26 hb26 HS25 HX25
                have ck0 := HCK.out _ HB26.out
                go_wp2_with fail
                (with_reducible refine (CPT.out _ _ _ _ HS26.out).mono ?_)
                rintro e W27 ⟨vp, rfl, hrp, hb27⟩
                have CI := Lib.hid (HS26.out.addI2 hb27 hrp (by omega))
                have HX27 := Lib.hid (HX26.out.below hb27)
                have HY27 := Lib.hid (HY26.out.below hb27)
                have HB27 := Lib.hid (bt7 HB26.out hb27)
                clear hrp hb27 HS26 HX26 HY26 CPT ck0
                go_wp2_with fail
                (with_reducible refine CI.out.mono ?_)
                rintro e W28 ⟨rfl, hs28, hrd28, hex28, hb28⟩
                have HX28 := Lib.hid (show Boxe W23.heap.size eo.k eo.s eo.n eo.v W28 from (hex28 _ (by simp)).trans HX27.out)
                have HY28 := Lib.hid (show Boxe W25.heap.size eo.k eo.s eo.n eo.v W28 from (hex28 _ (by simp)).trans HY27.out)
                have HS28 := Lib.hid hs28
                have HR28 := Lib.hid hrd28
                have HB28 := Lib.hid (HB27.out.trans hb28)
                clear hs28 hrd28 hex28 hb28 CI HX27 HY27
                have ck0 := HCK.out _ HB28.out
                have f0 := HX28.out.c0
                have f1 := HX28.out.c1
                have f2 := HX28.out.c2
                have f3 := HX28.out.c3
                have g0 := HY28.out.c0
                have g1 := HY28.out.c1
                have g2 := HY28.out.c2
                have g3 := HY28.out.c3
                cases ok
                all_goals
                  go_wp2_with (first
                    | (go_at_call 22; (with_reducible refine (CP5.out _ _ _ _ HS28.out).mono ?_); rintro e W29 ⟨v5, rfl, hr5, hb29⟩; have HR5 := Lib.hid hr5; have HB29 := Lib.hid hb29; have CM := Lib.hid (sameInts_rd vp v5 zi W29 (HR28.out.below hb29) hr5 (by omega)); clear hr5 hb29)
                    | (go_at_call 21; (with_reducible refine CM.out.mono ?_); rintro e W30 ⟨rfl, n30, h30⟩)
                    | fail)
                  go_roundw
                  case rel => exact ⟨q + 1, by omega, by go_num, (HS28.out.drop.below HB29.out).below (drew_below' W29 n30), bt7 (bt7 HB28.out HB29.out) (drew_below' W29 n30)⟩
                  case measure => simp [intOf]; omega
              · obtain rfl : lk = q := by omega
                have CH := Lib.hid (fun W (hW : Below wr.heap.size wr W) => height_any (HS22.out.below hW).skp.lst)
                have CAP := Lib.hid (fun W (hW : Below wr.heap.size wr W) => (HS22.out.below hW).book.apart (HS22.out.below hW).size)
                have tl : ((hgt ns : Int) == (hgt ns : Int)) = true := by simp
                go_wp2_with (first
                  | (go_at_call 6; (with_reducible refine (CA.out _).mono ?_); rintro e W31 ⟨rfl, hb31⟩)
                  | (go_at_call 23; (with_reducible refine (CH.out _ hb31).mono ?_); rintro e W32 ⟨rfl, rfl⟩)
                  | (go_at_call 24; (with_reducible refine (CAP.out _ hb31).mono ?_); rintro e W33 ⟨rfl, hb33⟩)
                  | fail)
                go_ret
                exact ⟨rfl, (bt7 HB22.out hb31).trans hb33⟩
end Go.Proofs.YthaalhigmihijaaGreat
