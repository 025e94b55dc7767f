/- The document's own GetBlock: the loop. -/
import Derived.Test.YtopnbbchiglpoaaGreatBV
import Derived.Deep.RegionLaw
namespace Go.Proofs.YtopnbbchiglpoaaGreat
open Go.RowKit

theorem toList_injB {a b : ByteArray} (h : a.toList = b.toList) : a = b := by
  rw [ByteArray.toList_eq, ByteArray.toList_eq] at h
  cases a; cases b
  simp_all
set_option maxHeartbeats 8000000 in
set_option maxRecDepth 100000 in
theorem rget_loop (b s : ByteArray) (w : World) (h : b.size ≤ 100000) (ho : openV b.data.toList = .tuple #[.string s, .int .i64 0]) (hs : 4 ≤ s.size) (hsm : s.size ≤ 100000) (n : Nat) (hn : beVal (piece s (s.size - 4) 4) = n) (hgt : n ≤ (s.size - 4) / 4) (B : ByteArray) (hB : s.extract 0 (s.size - 4 - 4 * n) = B) (hbd : getBody b.data.toList = (0, B.data.toList)) (hfew : ∀ es, decEs B.data.toList.length [] B.data.toList = some es → es.length ≤ 2000 ∧ sizeEs es ≤ 800000) :
    Calls Tryz.prog 11 #[.string b] w (GotB b.data.toList w) := by
  have CO := Lib.hid (refOpen_any b w (by omega))
  rw [ho] at CO
  have CU := Lib.hid (fun W => refUnfix_ok s (s.size - 4) 4 W (by omega) (by omega) (by omega) (by omega))
  rw [hn, show ((s.size - 4 : Nat) : Int) = (s.size : Int) - 4 by omega] at CU
  have hgI : ¬ ((s.size : Int) - 4) / 4 < (n : Int) := by omega
  have hnI : (n : Int) * 4 ≤ (s.size : Int) - 4 := by omega
  have hBs : B.size ≤ 100000 := by rw [← hB, ByteArray.size_extract]; omega
  obtain ⟨i0, hi0, hz0, hzs, hzb⟩ := info_parts infoE5
  have HBD := Lib.hid hbd
  have HFEW := Lib.hid hfew
  have HN := Lib.hid hn
  have HO := Lib.hid ho
  clear hbd hn ho hfew
  go_enter Tryz.func11, Tryz.ntmps11
  go_wp2_with (first | (go_at_call 33; refine CO.out.mono ?_; rintro _ w1 ⟨rfl, b1⟩) | (go_at_call 34; refine (CU.out _).mono ?_; rintro _ w2 ⟨rfl, rfl⟩) | fail)
  obtain ⟨rb, hrb⟩ : ∃ rb, w1.heap.size = rb := ⟨_, rfl⟩
  have hrw : w.heap.size ≤ rb := hrb ▸ b1.size
  obtain ⟨W1, hW1⟩ : ∃ W1, w1.alloc (.cells #[.string B, .int .i64 0] 77) = W1 := ⟨_, rfl⟩
  have HW1 := Lib.hid (show Below w.heap.size w W1 by rw [← hW1]; exact b1.alloc b1.size _)
  have HR1 := Lib.hid (show Rdr W1 rb B.data.toList 0 by
    have hh := new_block w1 (.cells #[.string B, .int .i64 0] 77) rfl
    rw [hW1, hrb] at hh
    exact ⟨B, ⟨by unfold World.cell?; rw [hh]; rfl, by unfold World.cell?; rw [hh]; rfl, by unfold World.frozen?; rw [hh]; simp, by unfold World.frozen?; rw [hh]; simp⟩, fun _ => rfl, by omega⟩)
  obtain ⟨D, hD⟩ : ∃ D, decEs B.data.toList.length [] B.data.toList = D := ⟨_, rfl⟩
  have HD := Lib.hid hD
  have HG0 := Lib.hid (show Going D B.size [] B.data.toList [] by rw [← hD, ← len_data']; exact Going.start _)
  rw [hW1, hrb]
  try rw [hB]
  clear hW1 hrb CO CU b1 hD hB
  go_loopw [8, 9] (fun lv tv wr => ∃ (es : List Ent) (V : Value) (L : ByteArray) (l : List UInt8) (e : Int), V = lv ∧ tv = .string L ∧ Rdr wr rb l e ∧ Row wr 59 4 V es.length (cellsE es) ∧ (es = [] → V = .slice none 0 0) ∧ (∀ k, ob V = some k → w.heap.size ≤ k ∧ k ≠ rb) ∧ Hid (e ≠ 0 → D = none) ∧ Hid (e = 0 → Going D B.size L.data.toList l es) ∧ Below w.heap.size w wr) (fun _ _ wr => rdM wr rb)
  case atStart => exact ⟨[], _, _, _, 0, rfl, rfl, HR1.out, row_nil _ _ _, fun _ => rfl, fun k hk => by simp [ob] at hk, Lib.hid (fun h => absurd rfl h), Lib.hid (fun _ => HG0.out), HW1.out⟩
  case round =>
    clear HW1 HR1 HG0
    obtain ⟨es, V, L, l, e, rfl, rfl, hrd, hrow, hv0, hob, hno, hgo, hbl⟩ := hrel
    have HRD := Lib.hid hrd
    have HRW := Lib.hid hrow
    have HV0 := Lib.hid hv0
    have HOB := Lib.hid hob
    have HBL := Lib.hid hbl
    clear hrow hv0 hob hbl
    by_cases he : e = 0
    · subst he
      have HGO := Lib.hid (hgo.out rfl)
      clear hgo hno
      obtain ⟨S, hi, hl, hSs⟩ := hrd.at
      have q0 := hi.c0
      have q1 := hi.c1
      have hSl : S.size = l.length := by rw [← hl, len_data']
      by_cases hne : l = []
      · have hS0 : S.size = 0 := by rw [hSl, hne]; rfl
        subst hne
        have hfin := HGO.out.fin
        have hg := getE_some HBD.out (HD.out.trans hfin)
        obtain ⟨hln, hsz⟩ := HFEW.out es (HD.out.trans hfin)
        obtain ⟨a, cap, rfl, hE⟩ := row_ents HRW.out
        have CP := Lib.hid (rput_any a es.length cap es hE hln HGO.out.ok hsz)
        clear hE hrd hi hl
        cases hor : ordB es es.length with
        | false =>
          rw [show putBV es = .tuple #[.string ⟨#[]⟩, .int .i64 1] by unfold putBV; rw [hor]; rfl] at CP
          rw [hor, if_neg (by simp)] at hg
          go_wp2_with (go_at_call 9; refine CP.out.mono ?_; rintro _ w3 ⟨rfl, b3⟩)
          go_ret2
          exact GotB.none hg (HBL.out.trans (b3.mono HBL.out.size))
        | true =>
          rw [show putBV es = .tuple #[.string ⟨(blkB es).toArray⟩, .int .i64 0] by unfold putBV; rw [hor]; rfl] at CP
          obtain ⟨A, hA⟩ : ∃ A : ByteArray, ⟨(blkB es).toArray⟩ = A := ⟨_, rfl⟩
          have hAl : A.data.toList = blkB es := by rw [← hA]
          rw [hA] at CP
          by_cases hq : A = b
          · subst hq
            rw [hor, if_pos ⟨rfl, hAl.symm⟩] at hg
            go_wp2_with (go_at_call 9; refine CP.out.mono ?_; rintro _ w3 ⟨rfl, b3⟩)
            go_ret2
            unfold GotB
            rw [hg]
            exact ⟨_, rfl, row_below HRW.out b3, HV0.out, fun k hk => (HOB.out k hk).1, HBL.out.trans (b3.mono HBL.out.size)⟩
          · rw [hor, if_neg (fun h => hq (by cases A; cases b; simp_all))] at hg
            have dq : (!A.toList == b.toList) = true := by
              have : A.toList ≠ b.toList := fun e => hq (toList_injB e)
              simp [this]
            go_wp2_with (go_at_call 9; refine CP.out.mono ?_; rintro _ w3 ⟨rfl, b3⟩)
            go_ret2
            exact GotB.none hg (HBL.out.trans (b3.mono HBL.out.size))
      · have hpos : 0 < S.size := by rw [hSl]; exact List.length_pos_iff.2 hne
        have HC := Lib.hid (rr_count 300 (by omega) hrd)
        have hcl := rdC_le (most := 300) l 0 (by decide)
        have hLs : L.size ≤ 600 := by rw [← len_data']; exact HGO.out.last
        clear hrd hi hl
        by_cases hk : L.size < (rdC 300 l 0).1
        · have hdn : D = none := HGO.out.no hne (.inl (by rw [len_data']; exact hk))
          generalize rdC 300 l 0 = c at HC hcl hk
          have hkI : (L.size : Int) < (c.1 : Int) := by omega
          go_wp2_with (go_at_call 35; refine HC.out.mono ?_; rintro _ w3 ⟨rfl, r3, g3⟩)
          go_ret2
          exact GotB.none (getE_none HBD.out (by rw [HD.out]; exact hdn)) (below_row HBL.out (Nat.le_refl _) g3 (fun k hk => by cases hk; exact hrw))
        · have hkI : ¬ (L.size : Int) < ((rdC 300 l 0).1 : Int) := by omega
          obtain ⟨c, hc⟩ : ∃ c, rdC 300 l 0 = c := ⟨_, rfl⟩
          rw [hc] at HC hcl hk hkI
          have hle3 := rdT_le 300 c.2.1 c.2.2 (by decide)
          have HCT := Lib.hid (fun W (hW : Rdr W rb c.2.1 c.2.2) => rr_text 300 (by omega) (by omega) hW)
          obtain ⟨t, ht⟩ : ∃ t, rdT 300 c.2.1 c.2.2 = t := ⟨_, rfl⟩
          rw [ht] at HCT hle3
          have HCS := Lib.hid (fun W (hW : Rdr W rb t.2.1 t.2.2) => rr_var hW)
          have hsb := rdV_bound t.2.1 t.2.2
          obtain ⟨sq, hsq⟩ : ∃ sq, rdV t.2.1 t.2.2 = sq := ⟨_, rfl⟩
          rw [hsq] at HCS hsb
          have HCN := Lib.hid (fun W (hW : Rdr W rb sq.2.1 sq.2.2) => rr_var hW)
          have hnb := rdV_bound sq.2.1 sq.2.2
          obtain ⟨nn, hnn⟩ : ∃ nn, rdV sq.2.1 sq.2.2 = nn := ⟨_, rfl⟩
          rw [hnn] at HCN hnb
          have HCV := Lib.hid (fun W (hW : Rdr W rb nn.2.1 nn.2.2) => rr_text 60000 (by omega) (by omega) hW)
          have hle5 := rdT_le 60000 nn.2.1 nn.2.2 (by decide)
          obtain ⟨vv, hvv⟩ : ∃ vv, rdT 60000 nn.2.1 nn.2.2 = vv := ⟨_, rfl⟩
          rw [hvv] at HCV hle5
          obtain ⟨TX, hTX⟩ : ∃ TX : ByteArray, ⟨t.1.toArray⟩ = TX := ⟨_, rfl⟩
          obtain ⟨VX, hVX⟩ : ∃ VX : ByteArray, ⟨vv.1.toArray⟩ = VX := ⟨_, rfl⟩
          rw [hTX] at HCT
          rw [hVX] at HCV
          have hTs : TX.size ≤ 300 := by rw [← hTX, str_size]; omega
          obtain ⟨LX, hLX⟩ : ∃ LX : ByteArray, L.extract 0 c.1 = LX := ⟨_, rfl⟩
          have hLXs : LX.size ≤ 600 := by rw [← hLX, ByteArray.size_extract]; omega
          obtain ⟨K, hK⟩ : ∃ K : ByteArray, LX ++ TX = K := ⟨_, rfl⟩
          have hKs : LX.size + TX.size = K.size := by rw [← hK]; simp
          obtain ⟨nk, hnk⟩ : ∃ nk : Int, (if nn.1 = 1 ∨ nn.1 = 2 then (nn.1 : Int) else 0) = nk := ⟨_, rfl⟩
          have HST := Lib.hid (show stB L.data.toList l = (c.1, ⟨K, (sq.1 : Int), nk, VX⟩, vv.2.1, vv.2.2) by
            unfold stB
            simp only [hc, ht, hsq, hnn, hvv, hnk, hVX]
            rw [show (⟨(L.data.toList.take c.1 ++ t.1).toArray⟩ : ByteArray) = K by
              rw [← hK, ← hLX, ← hTX]
              refine Go.WideShapes.bytes_inj ?_
              simp])
          have HNK := Lib.hid hnk
          have HNO := Lib.hid (show vv.2.2 ≠ 0 → D = none from fun h => HGO.out.no hne (.inr (by rw [HST.out]; exact h)))
          have HYES := Lib.hid (show vv.2.2 = 0 → Going D B.size K.data.toList vv.2.1 (es ++ [⟨K, (sq.1 : Int), nk, VX⟩]) from fun h => by
            have h1 := HGO.out.step hne (by rw [HST.out, len_data']; show c.1 ≤ L.size; omega) (by rw [HST.out]; exact h)
            rw [HST.out] at h1
            exact h1)
          have HME := Lib.hid (show vv.2.2 = 0 → vv.2.1.length < l.length from fun h => by
            have h1 := (stB_any L.data.toList l).2.2.2 (by rw [HST.out]; exact h)
            rw [HST.out] at h1
            simp only at h1
            omega)
          clear hc ht hsq hnn hvv hTX hVX hnk hcl hle3 hle5
          go_upto_region 15 with (go_at_call 35; refine HC.out.mono ?_; rintro _ w3 ⟨rfl, r3, g3⟩)
          obtain ⟨w4, hw4⟩ : ∃ w4, w3.alloc (.cells #[.string ⟨#[]⟩, .int .u64 0, .int .i64 0, .string ⟨#[]⟩] 59) = w4 := ⟨_, rfl⟩
          have g4 : wr.grownBy w4 (some rb) := by rw [← hw4]; exact growB_alloc g3 _
          have x4 : XB w4 w3.heap.size Ent.zero := by rw [← hw4]; exact XB.new w3
          have r4 : Rdr w4 rb c.2.1 c.2.2 := by rw [← hw4]; exact r3.below ((Below.refl w3.heap.size w3).alloc (Nat.le_refl _) _) r3.lt
          have hXr : rb ≠ w3.heap.size := fun e => by have := r3.lt; omega
          have hXw : wr.heap.size ≤ w3.heap.size := g3.size
          rw [hw4]
          generalize w3.heap.size = X at *
          clear hw4 r3 g3 HC q0 q1
          have CT := Lib.hid (HCT.out w4.drew (r4.kept rfl))
          have HX4 := Lib.hid (show XB w4.drew X Ent.zero from x4.kept rfl)
          have HG4 := Lib.hid (show wr.grownBy w4.drew (some rb) from ⟨g4.os, g4.tape, g4.output, g4.size, g4.block⟩)
          have hcL : (c.1 : Int) ≤ (L.size : Int) := by omega
          have hns : ¬ (9223372036854775807 < LX.size + TX.size) := by omega
          clear g4 r4 x4 HCT
          go_cut [10] from 52 to 100 (fun v10 wx => v10 = .int .i64 (c.1 : Int) ∧ Rdr wx rb t.2.1 t.2.2 ∧ XB wx X ⟨K, 0, 0, ⟨#[]⟩⟩ ∧ wr.grownBy wx (some rb))
          case first =>
            go_region_with (go_at_call 36; (with_reducible refine CT.out.mono ?_); rintro _ w5 ⟨rfl, r5, g5⟩; have x5 := HX4.out.grown g5 (by simp; exact fun e => hXr e.symm); have p0 : w5.cell? ⟨X, 0, none⟩ = some (.string ⟨#[]⟩) := x5.c0; have z0 := x5.f 0)
            all_goals go_wp2_with fail
            all_goals go_meet
            all_goals exact ⟨rfl, r5.set hXr _ _, x5.set0 K, growB_set (grownBy_trans HG4.out g5) hXw _ _⟩
          case rest =>
            obtain ⟨rfl, r6, x6, g6⟩ := hcut
            have CS := Lib.hid (HCS.out _ r6)
            have HG6 := Lib.hid g6
            have HX6 := Lib.hid x6
            clear CT HX4 HG4 HCS r6 g6 x6
            go_upto_region 18 with (first | (go_at_call 37; (with_reducible refine CS.out.mono ?_); rintro _ w7 ⟨rfl, r7, g7⟩; have x7 := HX6.out.grown g7 (by simp; exact fun e => hXr e.symm); have p1 : w7.cell? ⟨X, 1, none⟩ = some (.int .u64 0) := x7.c1; have z1 := x7.f 1) | (go_at_call 37; (with_reducible refine (HCN.out _ (r7.set hXr _ _)).mono ?_); rintro _ w8 ⟨rfl, r8, g8⟩) | fail)
            have x8 := (x7.set1 (sq.1 : Int)).grown g8 (by simp; exact fun e => hXr e.symm)
            have g9 := grownBy_trans (growB_set (grownBy_trans HG6.out g7) hXw 1 (.int .u64 (sq.1 : Int))) g8
            have p2 : w8.cell? ⟨X, 2, none⟩ = some (.int .i64 0) := x8.c2
            have p3 : w8.cell? ⟨X, 3, none⟩ = some (.string ⟨#[]⟩) := x8.c3
            have z2 := x8.f 2
            have HX8 := Lib.hid x8
            have HR8 := Lib.hid r8
            have HG9 := Lib.hid g9
            clear p1 z1 r7 g7 x7 r8 g8 x8 g9 CS HG6 HX6 HCN
            go_cut [12, 88] from 52 to 100 (fun v12 v88 wx => v12 = .int .u64 (nn.1 : Int) ∧ v88 = .bool (decide (nn.1 = 1 ∨ nn.1 = 2)) ∧ wx = w8)
            case first =>
              go_wp2_with fail
              all_goals go_meet
              all_goals
                rename_i hz
                first
                  | (have e : nn.1 = 1 := by omega
                     exact ⟨by rw [hz], by simp [e], rfl⟩)
                  | (have e : nn.1 ≠ 1 := by omega
                     refine ⟨rfl, ?_, rfl⟩
                     congr 1
                     by_cases e2 : nn.1 = 2
                     · simp [e2]
                     · have e3 : ¬ (nn.1 : Int) = 2 := by omega
                       simp [e, e2, e3, hz])
            case rest =>
              obtain ⟨rfl, rfl, rfl⟩ := hcut
              go_upto_if 88 with fail
              go_cut [12] from 52 to 100 (fun v12 wx => v12 = .int .u64 (nn.1 : Int) ∧ Rdr wx rb nn.2.1 nn.2.2 ∧ XB wx X ⟨K, (sq.1 : Int), nk, ⟨#[]⟩⟩ ∧ wr.grownBy wx (some rb))
              case first =>
                by_cases hkk : nn.1 = 1 ∨ nn.1 = 2
                · have hw8 : IntKind.i64.wrap (nn.1 : Int) = (nn.1 : Int) := by rw [IntKind.wrap_i64]; omega
                  have hdk : decide (nn.1 = 1 ∨ nn.1 = 2) = true := by simpa using hkk
                  rw [hdk]
                  go_wp2_with fail
                  go_meet
                  have hnk : (nn.1 : Int) = nk := by have := HNK.out; rw [if_pos hkk] at this; exact this
                  rw [← hnk]
                  exact ⟨rfl, HR8.out.set hXr _ _, HX8.out.set2 _, growB_set HG9.out hXw _ _⟩
                · have hdk : decide (nn.1 = 1 ∨ nn.1 = 2) = false := by simpa using hkk
                  rw [hdk]
                  go_wp2_with fail
                  go_meet
                  have hnk : 0 = nk := by have := HNK.out; rw [if_neg hkk] at this; exact this
                  rw [← hnk]
                  exact ⟨rfl, HR8.out, HX8.out, HG9.out⟩
              case rest =>
                obtain ⟨rfl, ra, xa, ga⟩ := hcut
                have CV := Lib.hid (HCV.out _ ra)
                have HXa := Lib.hid xa
                have HGa := Lib.hid ga
                clear HX8 HR8 HG9 HCV ra ga xa p2 p3 z2
                go_upto_region 21 with (go_at_call 36; (with_reducible refine CV.out.mono ?_); rintro _ w9 ⟨rfl, r9, g9⟩; have x9 := HXa.out.grown g9 (by simp; exact fun e => hXr e.symm); have p3 : w9.cell? ⟨X, 3, none⟩ = some (.string ⟨#[]⟩) := x9.c3; have z3 := x9.f 3)
                obtain ⟨wa, hwa⟩ : ∃ wa, w9.setCell ⟨X, 3, none⟩ (.string VX) = wa := ⟨_, rfl⟩
                have HXA := Lib.hid (show XB wa X ⟨K, (sq.1 : Int), nk, VX⟩ by rw [← hwa]; exact x9.set3 VX)
                have HRA := Lib.hid (show Rdr wa rb vv.2.1 vv.2.2 by rw [← hwa]; exact r9.set hXr _ _)
                have HGA := Lib.hid (show wr.grownBy wa (some rb) by rw [← hwa]; exact growB_set (grownBy_trans HGa.out g9) hXw _ _)
                rw [hwa]
                clear hwa x9 r9 g9 p3 z3 CV HXa HGa w9
                have HRWA := Lib.hid (show Row wa 59 4 V es.length (cellsE es) from HRW.out.kept (fun k hk => HGA.out.block k (HRW.out.lt k hk) (by simp; exact (HOB.out k hk).2)))
                have hln : es.length ≤ 20000 := by have := HGO.out.cnt; omega
                have HBa := Lib.hid (show es.length + 1 ≤ maxLen by unfold maxLen; omega)
                have HBb := Lib.hid (show (es.length + 1) * 48 ≤ 140737488355328 by omega)
                have c0 : wa.drew.cell? ⟨X, 0, none⟩ = some (.string K) := HXA.out.c0
                have c1 : wa.drew.cell? ⟨X, 1, none⟩ = some (.int .u64 (sq.1 : Int)) := HXA.out.c1
                have c2 : wa.drew.cell? ⟨X, 2, none⟩ = some (.int .i64 nk) := HXA.out.c2
                have c3 : wa.drew.cell? ⟨X, 3, none⟩ = some (.string VX) := HXA.out.c3
                have hbd := (Below.refl wa.heap.size wa).alloc (Nat.le_refl _) (.cells #[.string K, .int .u64 (sq.1 : Int), .int .i64 nk, .string VX] 59)
                have HBD2 := Lib.hid (show Below wa.heap.size wa (wa.alloc (.cells #[.string K, .int .u64 (sq.1 : Int), .int .i64 nk, .string VX] 59)).drew from ⟨hbd.os, hbd.tape, hbd.output, hbd.size, hbd.block⟩)
                clear hbd
                have HRWD := Lib.hid (show Row (wa.alloc (.cells #[.string K, .int .u64 (sq.1 : Int), .int .i64 nk, .string VX] 59)).drew 59 4 V es.length (cellsE es) from row_below HRWA.out HBD2.out)
                have HXD := Lib.hid (show XB (wa.alloc (.cells #[.string K, .int .u64 (sq.1 : Int), .int .i64 nk, .string VX] 59)).drew X ⟨K, (sq.1 : Int), nk, VX⟩ from HXA.out.kept (HBD2.out.block X HXA.out.lt))
                have HSRC := Lib.hid (show Src Tryz.prog 4 22 (.slice (some ⟨wa.heap.size, 0, none⟩) 1 1) 1 (Ent.cells ⟨K, (sq.1 : Int), nk, VX⟩) (wa.alloc (.cells #[.string K, .int .u64 (sq.1 : Int), .int .i64 nk, .string VX] 59)).drew from src_at ⟨K, (sq.1 : Int), nk, VX⟩ (new_block wa (.cells #[.string K, .int .u64 (sq.1 : Int), .int .i64 nk, .string VX] 59) rfl))
                have HNX := Lib.hid (show some X ≠ ob V from fun e => by have := HRW.out.lt X e.symm; omega)
                have d0 : ((wa.alloc (.cells #[.string K, .int .u64 (sq.1 : Int), .int .i64 nk, .string VX] 59)).drew).cell? ⟨X, 0, none⟩ = some (.string K) := HXD.out.c0
                go_region_law (first
                  | (refine step_append_row (P := Tryz.prog) ((wa.alloc (.cells #[.string K, .int .u64 (sq.1 : Int), .int .i64 nk, .string VX] 59)).drew) ?hga (.tmp 95) (.tmp 97) 22 22 ?hoa 59 i0 _ 4 48 Tryz.underlying22 hi0 hz0 hzs hzb rfl V _ _ ?hva HRWD.out _ ?hxa 1 _ HSRC.out HBa.out HBb.out ?hka; (case hga => rfl); (case hoa => rfl); (case hva => rfl); (case hxa => rfl); intro v' wz hrowz hgrowz hobz; have e0 : wz.cell? ⟨X, 0, none⟩ = some (.string K) := (HXD.out.grown hgrowz HNX.out).c0)
                  | (refine step_append_row (P := Tryz.prog) ((wa.alloc (.cells #[.string K, .int .u64 (sq.1 : Int), .int .i64 nk, .string VX] 59)).drew) ?hgb (.tmp 95) (.tmp 97) 22 22 ?hob 59 i0 _ 4 48 Tryz.underlying22 hi0 hz0 hzs hzb rfl V _ _ ?hvb HRWD.out _ ?hxb 1 _ HSRC.out HBa.out HBb.out ?hkb; (case hgb => rfl); (case hob => rfl); (case hvb => rfl); (case hxb => rfl); intro v' wz hrowz hgrowz hobz; have e0 : wz.cell? ⟨X, 0, none⟩ = some (.string K) := (HXD.out.grown hgrowz HNX.out).c0)
                  | (refine step_append_row (P := Tryz.prog) ((wa.alloc (.cells #[.string K, .int .u64 (sq.1 : Int), .int .i64 nk, .string VX] 59)).drew) ?hgc (.tmp 95) (.tmp 97) 22 22 ?hoc 59 i0 _ 4 48 Tryz.underlying22 hi0 hz0 hzs hzb rfl V _ _ ?hvc HRWD.out _ ?hxc 1 _ HSRC.out HBa.out HBb.out ?hkc; (case hgc => rfl); (case hoc => rfl); (case hvc => rfl); (case hxc => rfl); intro v' wz hrowz hgrowz hobz; have e0 : wz.cell? ⟨X, 0, none⟩ = some (.string K) := (HXD.out.grown hgrowz HNX.out).c0)
                  | (refine step_append_row (P := Tryz.prog) ((wa.alloc (.cells #[.string K, .int .u64 (sq.1 : Int), .int .i64 nk, .string VX] 59)).drew) ?hgd (.tmp 95) (.tmp 97) 22 22 ?hod 59 i0 _ 4 48 Tryz.underlying22 hi0 hz0 hzs hzb rfl V _ _ ?hvd HRWD.out _ ?hxd 1 _ HSRC.out HBa.out HBb.out ?hkd; (case hgd => rfl); (case hod => rfl); (case hvd => rfl); (case hxd => rfl); intro v' wz hrowz hgrowz hobz; have e0 : wz.cell? ⟨X, 0, none⟩ = some (.string K) := (HXD.out.grown hgrowz HNX.out).c0)
                  | (refine step_append_row (P := Tryz.prog) ((wa.alloc (.cells #[.string K, .int .u64 (sq.1 : Int), .int .i64 nk, .string VX] 59)).drew) ?hge (.tmp 95) (.tmp 97) 22 22 ?hoe 59 i0 _ 4 48 Tryz.underlying22 hi0 hz0 hzs hzb rfl V _ _ ?hve HRWD.out _ ?hxe 1 _ HSRC.out HBa.out HBb.out ?hke; (case hge => rfl); (case hoe => rfl); (case hve => rfl); (case hxe => rfl); intro v' wz hrowz hgrowz hobz; have e0 : wz.cell? ⟨X, 0, none⟩ = some (.string K) := (HXD.out.grown hgrowz HNX.out).c0)
                  | (refine step_append_row (P := Tryz.prog) ((wa.alloc (.cells #[.string K, .int .u64 (sq.1 : Int), .int .i64 nk, .string VX] 59)).drew) ?hgf (.tmp 95) (.tmp 97) 22 22 ?hof 59 i0 _ 4 48 Tryz.underlying22 hi0 hz0 hzs hzb rfl V _ _ ?hvf HRWD.out _ ?hxf 1 _ HSRC.out HBa.out HBb.out ?hkf; (case hgf => rfl); (case hof => rfl); (case hvf => rfl); (case hxf => rfl); intro v' wz hrowz hgrowz hobz; have e0 : wz.cell? ⟨X, 0, none⟩ = some (.string K) := (HXD.out.grown hgrowz HNX.out).c0)
                  | fail)
                all_goals
                  have HRZ := Lib.hid (show Rdr wz rb vv.2.1 vv.2.2 from (HRA.out.kept (HBD2.out.block rb HRA.out.lt)).kept (hgrowz.block rb (Nat.lt_of_lt_of_le HRA.out.lt HBD2.out.size) (fun e => (HOB.out rb e.symm).2 rfl)))
                  have HGZ := Lib.hid (show Below w.heap.size w wz from below_row (below_row (below_row HBL.out (Nat.le_refl _) HGA.out (fun k hk => by cases hk; exact hrw)) (Nat.le_refl _) (grownBy_of_below HBD2.out none) (fun k hk => by cases hk)) (Nat.le_refl _) hgrowz (fun k hk => (HOB.out k hk).1))
                  have HOZ := Lib.hid (show ∀ k, ob v' = some k → w.heap.size ≤ k ∧ k ≠ rb from fun k hk => by
                    rcases hobz with e | ⟨e, -⟩
                    · exact HOB.out k (by rw [← e]; exact hk)
                    · rw [e] at hk
                      cases hk
                      have h1 := HBD2.out.size
                      have h2 := HRA.out.lt
                      have h3 := HGA.out.size
                      have h4 := HBL.out.size
                      constructor <;> omega)
                  have HWZ := Lib.hid (show Row wz 59 4 v' (es ++ [(⟨K, (sq.1 : Int), nk, VX⟩ : Ent)]).length (cellsE (es ++ [(⟨K, (sq.1 : Int), nk, VX⟩ : Ent)])) by
                    rw [List.length_append, cellsE_append, show cellsE [(⟨K, (sq.1 : Int), nk, VX⟩ : Ent)] = Ent.cells ⟨K, (sq.1 : Int), nk, VX⟩ by simp [cellsE]]
                    exact hrowz)
                  clear hrowz hgrowz hobz e0 d0 c0 c1 c2 c3
                all_goals simp only [List.getElem_toArray, List.getElem_cons_succ, List.getElem_cons_zero, Act.put, List.setIfInBounds_toArray, List.set_cons_zero, List.set_cons_succ]
                all_goals go_wp2_with fail
                all_goals go_roundw
                all_goals first
                  | (rw [HRZ.out.m, HRD.out.m, if_pos rfl]
                     split
                     · rename_i hv0
                       have := HME.out hv0
                       omega
                     · omega)
                  | exact ⟨es ++ [⟨K, (sq.1 : Int), nk, VX⟩], v', K, vv.2.1, vv.2.2, rfl, rfl, HRZ.out, HWZ.out, fun h => absurd h (by simp), HOZ.out, HNO, HYES, HGZ.out⟩
    · have hdn := hno.out he
      obtain ⟨S, hi, -, -⟩ := hrd
      have q0 := hi.c0
      have q1 := hi.c1
      clear hi
      go_wp2
      go_ret2
      exact GotB.none (getE_none HBD.out (by rw [HD.out]; exact hdn)) HBL.out
theorem decEs_few : ∀ (f : Nat) (last l : List UInt8) (es : List Ent), decEs f last l = some es → es.length * 5 ≤ l.length ∧ sizeEs es ≤ 600 * es.length + l.length
  | 0, _, _, es, h => by
    obtain rfl : [] = es := Option.some.inj h
    simp [sizeEs]
  | f + 1, last, l, es, h => by
    rw [decEs] at h
    split at h
    · obtain rfl : [] = es := Option.some.inj h
      simp [sizeEs]
    · split at h
      · cases h
      · split at h
        · cases h
        · rename_i h0
          obtain ⟨m, hm, rfl⟩ := Option.map_eq_some_iff.1 h
          have ih := decEs_few f _ _ m hm
          have hs := stB_any last l
          have h1 := hs.2.2.2 (Decidable.of_not_not h0)
          have h2 := hs.2.2.1
          have h3 : sizeEs ((stB last l).2.1 :: m) = sizeE (stB last l).2.1 + sizeEs m := by simp [sizeEs]
          rw [h3, List.length_cons]
          unfold sizeE
          omega
/-- The document's own GetBlock, of any bytes that tell few versions. -/
theorem rget_few (b : ByteArray) (w : World) (h : b.size ≤ 100000) (hfew : ∀ l, getBody b.data.toList = (0, l) → ∀ es, decEs l.length [] l = some es → es.length ≤ 2000 ∧ sizeEs es ≤ 800000) : Calls Tryz.prog 11 #[.string b] w (GotB b.data.toList w) := by
  have hlen : b.data.toList.length = b.size := len_data' b
  rcases openV_cases b.data.toList with ⟨e, he, ho, hg⟩ | ⟨h4, ho, hg⟩
  · exact rget_err b w (by omega) he ho (getE_err hg he)
  · obtain ⟨s, hs⟩ : ∃ s : ByteArray, ⟨(b.data.toList.take (b.data.toList.length - 4)).toArray⟩ = s := ⟨_, rfl⟩
    have hsd : s.data.toList = b.data.toList.take (b.data.toList.length - 4) := by rw [← hs]
    have hss : s.size = b.size - 4 := by rw [← len_data', hsd, List.length_take]; omega
    rw [hs] at ho
    by_cases h8 : b.data.toList.length < 8
    · rw [if_pos h8] at hg
      exact rget_short b s w (by omega) ho (by omega) (getE_err hg (by decide))
    · rw [if_neg h8] at hg
      have hp : piece s (s.size - 4) 4 = (b.data.toList.take (b.data.toList.length - 4)).drop (b.data.toList.length - 8) := by
        unfold piece
        rw [hsd, show s.size - 4 = b.data.toList.length - 8 by omega, List.take_of_length_le]
        rw [List.length_drop, List.length_take]
        omega
      generalize hn : beVal ((b.data.toList.take (b.data.toList.length - 4)).drop (b.data.toList.length - 8)) = n at hg
      have hpn : beVal (piece s (s.size - 4) 4) = n := by rw [hp, hn]
      by_cases hc : (b.data.toList.length - 8) / 4 < n
      · rw [if_pos hc] at hg
        exact rget_cnt b s w (by omega) ho (by omega) (by omega) n hpn (by omega) (getE_err hg (by decide))
      · rw [if_neg hc] at hg
        have hbd : getBody b.data.toList = (0, (s.extract 0 (s.size - 4 - 4 * n)).data.toList) := by
          rw [hg, ext_to, hsd, List.take_take]
          congr 2
          omega
        exact rget_loop b s w h ho (by omega) (by omega) n hpn (by omega) _ rfl hbd (hfew _ hbd)
/-- The document's own GetBlock, of any bytes that are not many. -/
theorem rget_any (b : ByteArray) (w : World) (h : b.size ≤ 6004) : Calls Tryz.prog 11 #[.string b] w (GotB b.data.toList w) := by
  refine rget_few b w (by omega) (fun l hl es hes => ?_)
  have hll : l.length ≤ b.size := by
    have h1 : (getBody b.data.toList).2.length ≤ b.size := by
      rw [← len_data']
      unfold getBody
      split
      · exact Nat.zero_le _
      · split
        · split
          · exact Nat.zero_le _
          · split
            · exact Nat.zero_le _
            · show (b.data.toList.take _).length ≤ _
              rw [List.length_take]
              omega
        · exact Nat.zero_le _
    rw [hl] at h1
    exact h1
  have := decEs_few _ _ _ _ hes
  omega
end Go.Proofs.YtopnbbchiglpoaaGreat
