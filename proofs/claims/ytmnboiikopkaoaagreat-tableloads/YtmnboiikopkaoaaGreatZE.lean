/- Joined: ZO ZQ ZV. -/
import Derived.Test.YtmnboiikopkaoaaGreatZA
import Derived.Test.YtmnboiikopkaoaaGreatBV
import Derived.Test.YtmnboiikopkaoaaGreatBT
namespace Go.Proofs.YtmnboiikopkaoaaGreat
open Go.RowKit

set_option maxHeartbeats 8000000 in
set_option maxRecDepth 100000 in
theorem next_any {w : World} {rb : Nat} {l : List UInt8} (A : ByteArray) (hA : A.size ≤ 300) (h : Rdr w rb l 0) :
    Calls Tryz.prog 132 #[.pointer (some ⟨rb, 0, none⟩), .string A] w fun e w' => e = .returned (ev (stP A.data.toList l).1.k (stP A.data.toList l).1.s (stP A.data.toList l).1.n (stP A.data.toList l).1.v) ∧ Rdr w' rb (stP A.data.toList l).2.1 (stP A.data.toList l).2.2 ∧ w.grownBy w' (some rb) := by
  have hcl := rdC_le (most := (A.size : Int)) l 0 (by omega)
  obtain ⟨c, hc⟩ : ∃ c, rdC (A.size : Int) l 0 = c := ⟨_, rfl⟩
  have HC := Lib.hid (fun W (hW : Rdr W rb l 0) => pr_count (A.size : Int) (by omega) hW)
  rw [hc] at HC hcl
  have hle3 := rdT_le (300 - (c.1 : Int)) c.2.1 c.2.2 (by omega)
  have HCT := Lib.hid (fun W (hW : Rdr W rb c.2.1 c.2.2) => pr_text (300 - (c.1 : Int)) (by omega) hW)
  obtain ⟨t, ht⟩ : ∃ t, rdT (300 - (c.1 : Int)) c.2.1 c.2.2 = t := ⟨_, rfl⟩
  rw [ht] at HCT hle3
  have HCS := Lib.hid (fun W (hW : Rdr W rb t.2.1 t.2.2) => pr_var hW)
  have hsb := rdV_bound t.2.1 t.2.2
  obtain ⟨sq, hsq⟩ : ∃ sq, rdV t.2.1 t.2.2 = sq := ⟨_, rfl⟩
  rw [hsq] at HCS hsb
  have HCN := Lib.hid (fun W (hW : Rdr W rb sq.2.1 sq.2.2) => pr_var hW)
  have hnb := rdV_bound sq.2.1 sq.2.2
  obtain ⟨nn, hnn⟩ : ∃ nn, rdV sq.2.1 sq.2.2 = nn := ⟨_, rfl⟩
  rw [hnn] at HCN hnb
  have HCV := Lib.hid (fun W (hW : Rdr W rb nn.2.1 nn.2.2) => pr_text 60000 (by omega) hW)
  obtain ⟨vv, hvv⟩ : ∃ vv, rdT 60000 nn.2.1 nn.2.2 = vv := ⟨_, rfl⟩
  rw [hvv] at HCV
  obtain ⟨TX, hTX⟩ : ∃ TX : ByteArray, ⟨t.1.toArray⟩ = TX := ⟨_, rfl⟩
  obtain ⟨VX, hVX⟩ : ∃ VX : ByteArray, ⟨vv.1.toArray⟩ = VX := ⟨_, rfl⟩
  rw [hTX] at HCT
  rw [hVX] at HCV
  have hTs : TX.size ≤ 300 := by rw [← hTX, str_size]; omega
  obtain ⟨AX, hAX⟩ : ∃ AX : ByteArray, A.extract 0 c.1 = AX := ⟨_, rfl⟩
  have hAXs : AX.size ≤ 300 := by rw [← hAX, ByteArray.size_extract]; omega
  have HJ := Lib.hid (fun W => join_any AX TX W (by omega) (by omega))
  obtain ⟨K, hK⟩ : ∃ K : ByteArray, AX ++ TX = K := ⟨_, rfl⟩
  rw [hK] at HJ
  obtain ⟨nk, hnk⟩ : ∃ nk : Int, IntKind.i64.wrap (nn.1 : Int) = nk := ⟨_, rfl⟩
  have HST := Lib.hid (show stP A.data.toList l = (⟨K, (sq.1 : Int), nk, VX⟩, vv.2.1, vv.2.2) by
    unfold stP
    rw [len_data']
    simp only [hc, ht, hsq, hnn, hvv, hnk, hVX]
    rw [show (⟨(A.data.toList.take c.1 ++ t.1).toArray⟩ : ByteArray) = K by
      rw [← hK, ← hAX, ← hTX]
      refine Go.WideShapes.bytes_inj ?_
      simp])
  rw [HST.out]
  simp only
  have HRD := Lib.hid h
  obtain ⟨w0, hw0⟩ : ∃ w0, w.alloc (.cells #[.string ⟨#[]⟩, .int .u64 0, .int .i64 0, .string ⟨#[]⟩] 48) = w0 := ⟨_, rfl⟩
  have HX0 := Lib.hid (show XB w0 w.heap.size Ent.zero by rw [← hw0]; exact XB.new w)
  have HR0 := Lib.hid (show Rdr w0 rb l 0 by rw [← hw0]; exact h.below ((Below.refl w.heap.size w).alloc (Nat.le_refl _) _) h.lt)
  have HG0 := Lib.hid (show w.grownBy w0 (some rb) by rw [← hw0]; exact growB_alloc (same_grown w _) _)
  have hXr : rb ≠ w.heap.size := fun e => by have := h.lt; omega
  have hXs : w.heap.size ≤ w.heap.size := Nat.le_refl _
  obtain ⟨X, hX⟩ : ∃ X, w.heap.size = X := ⟨_, rfl⟩
  rw [hX] at HX0 hXr
  have HXW := Lib.hid hX
  have hcA : (c.1 : Int) ≤ (A.size : Int) := hcl
  unfold ev
  clear hc ht hsq hnn hvv hTX hVX hle3 h hXs hX hK hcl
  go_enter Tryz.func132, Tryz.ntmps132
  go_upto_region 1 with fail
  try rw [hw0]
  try rw [HXW.out]
  clear hw0
  go_wp2_with (first
    | (go_at_call 87; (with_reducible refine (HC.out _ HR0.out).mono ?_); rintro e W1 ⟨rfl, i1, g1⟩)
    | (go_at_call 89; (with_reducible refine (HCT.out _ i1).mono ?_); rintro e W2 ⟨rfl, i2, g2⟩)
    | (go_at_call 148; (with_reducible refine (HJ.out _).mono ?_); rintro e W3 ⟨rfl, b3⟩; have i3 := i2.below b3 i2.lt)
    | (go_at_call 149; (with_reducible refine (HCS.out _ i3).mono ?_); rintro e W4 ⟨rfl, i4, g4⟩)
    | (go_at_call 149; (with_reducible refine (HCN.out _ i4).mono ?_); rintro e W5 ⟨rfl, i5, g5⟩)
    | (go_at_call 89; (with_reducible refine (HCV.out _ i5).mono ?_); rintro e W6 ⟨rfl, i6, g6⟩; have hne : some X ≠ some rb := (by simp; exact fun e => hXr e.symm); have x6 := ((((((HX0.out.grown g1 hne).grown g2 hne).grown (grownBy_of_below b3 none) (by simp)).grown g4 hne).grown g5 hne).grown g6 hne); have d0 := x6.c0; have d1 := x6.c1; have d2 := x6.c2; have d3 := x6.c3; have f0 := x6.f 0; have f1 := x6.f 1; have f2 := x6.f 2; have f3 := x6.f 3)
    | fail)
  have hsz : w.heap.size ≤ X := Nat.le_of_eq HXW.out
  have G6 : w.grownBy W6 (some rb) := grownBy_trans (grownBy_trans (grownBy_trans (grownBy_trans (grownBy_trans (grownBy_trans HG0.out g1) g2) (grownBy_of_below b3 _)) g4) g5) g6
  refine bodyPost_ret (by simp [results, Tryz.results132, go_sem, d0, d1, d2, d3]; try rfl) rfl ?_
  exact ⟨rfl, (((i6.set hXr _ _).set hXr _ _).set hXr _ _).set hXr _ _, growB_set (growB_set (growB_set (growB_set G6 hsz _ _) hsz _ _) hsz _ _) hsz _ _⟩
end Go.Proofs.YtmnboiikopkaoaaGreat

namespace Go.Proofs.YtmnboiikopkaoaaGreat
open Go.RowKit

/-- What read answers of bytes of which these are the versions' bytes. -/
def ReadP (body : List UInt8) (w : World) (x : Ending) (w' : World) : Prop :=
  (∃ es v, x = .returned (.tuple #[v, .bool true]) ∧ Row w' 48 4 v es.length (cellsE es) ∧ (es = [] → v = .slice none 0 0) ∧ (∀ k, ob v = some k → w.heap.size ≤ k) ∧ GoP body [] es ∧ Below w.heap.size w w') ∨
  (x = .returned (.tuple #[.slice none 0 0, .bool false]) ∧ (∀ L, ¬ LaidP L body) ∧ Below w.heap.size w w')
set_option maxHeartbeats 1000000 in
theorem read_short (s : ByteArray) (w : World) (hs : s.size < 4) : Calls Tryz.prog 106 #[.string s] w fun x w' => x = .returned (.tuple #[.slice none 0 0, .bool false]) ∧ Below w.heap.size w w' := by
  have CU := Lib.hid (fun W => unfix_arg s ((s.size : Int) - 4) 4 W (by omega))
  go_enter Tryz.func106, Tryz.ntmps106
  go_wp2_with (go_at_call 119; (with_reducible refine (CU.out _).mono ?_); rintro _ w2 ⟨rfl, rfl⟩)
  go_ret2
  exact ⟨rfl, Below.refl _ _⟩
set_option maxHeartbeats 1000000 in
theorem read_cnt (s : ByteArray) (w : World) (hs : 4 ≤ s.size) (hsm : s.size ≤ 1000000) (n : Nat) (hn : beVal (piece s (s.size - 4) 4) = n) (hgt : (s.size - 4) / 4 < n) : Calls Tryz.prog 106 #[.string s] w fun x w' => x = .returned (.tuple #[.slice none 0 0, .bool false]) ∧ Below w.heap.size w w' := by
  have CU := Lib.hid (fun W => unfix_ok s (s.size - 4) 4 W (by omega) (by omega) (by omega) (by omega))
  rw [hn, show ((s.size - 4 : Nat) : Int) = (s.size : Int) - 4 by omega, show ((4 : Nat) : Int) = 4 from rfl] at CU
  have hgI : ((s.size : Int) - 4) / 4 < (n : Int) := by omega
  have hwI : IntKind.u64.wrap (((s.size : Int) - 4) / 4) = ((s.size : Int) - 4) / 4 := by rw [IntKind.wrap_u64]; omega
  go_enter Tryz.func106, Tryz.ntmps106
  go_wp2_with (go_at_call 119; (with_reducible refine (CU.out _).mono ?_); rintro _ w2 ⟨rfl, rfl⟩)
  go_ret2
  exact ⟨rfl, Below.refl _ _⟩
set_option maxHeartbeats 8000000 in
set_option maxRecDepth 100000 in
theorem read_loop (s : ByteArray) (w : World) (hs : 4 ≤ s.size) (hsm : s.size ≤ 100000) (n : Nat) (hn : beVal (piece s (s.size - 4) 4) = n) (hgt : n ≤ (s.size - 4) / 4) (B : ByteArray) (hB : s.extract 0 (s.size - 4 - 4 * n) = B) :
    Calls Tryz.prog 106 #[.string s] w (ReadP B.data.toList w) := by
  have CU := Lib.hid (fun W => unfix_ok s (s.size - 4) 4 W (by omega) (by omega) (by omega) (by omega))
  rw [hn, show ((s.size - 4 : Nat) : Int) = (s.size : Int) - 4 by omega, show ((4 : Nat) : Int) = 4 from rfl] at CU
  have hgI : ¬ ((s.size : Int) - 4) / 4 < (n : Int) := by omega
  have hwI : IntKind.u64.wrap (((s.size : Int) - 4) / 4) = ((s.size : Int) - 4) / 4 := by rw [IntKind.wrap_u64]; omega
  have hnI : (n : Int) * 4 ≤ (s.size : Int) - 4 := by omega
  have hwn : IntKind.i64.wrap (n : Int) = (n : Int) := by rw [IntKind.wrap_i64]; omega
  have hBs : B.size ≤ 100000 := by rw [← hB, ByteArray.size_extract]; omega
  have htn : ((s.size : Int) - 4 - (n : Int) * 4).toNat = s.size - 4 - 4 * n := by omega
  have CN := Lib.hid (fun W => newReader_any B W)
  obtain ⟨i0, hi0, hz0, hzs, hzb⟩ := info_parts infoE5
  clear hn
  go_enter Tryz.func106, Tryz.ntmps106
  go_wp2_with (first | (go_at_call 119; (with_reducible refine (CU.out _).mono ?_); rintro _ w2 ⟨rfl, rfl⟩) | (go_at_call 86; (with_reducible refine (CN.out _).mono ?_); rintro _ W1 ⟨rfl, hr1, hb1, -⟩) | fail)
  obtain ⟨rb, hrb⟩ : ∃ rb, w.heap.size = rb := ⟨_, rfl⟩
  have hrw : w.heap.size ≤ rb := Nat.le_of_eq hrb
  rw [hrb] at hr1
  have HW1 := Lib.hid hb1
  have HR1 := Lib.hid (show Rdr W1 rb B.data.toList 0 from ⟨B, hr1, fun _ => rfl, by omega⟩)
  rw [hrb]
  clear hr1 hb1 CU CN
  go_loopw [8] (fun lv wr => ∃ (es : List Ent) (V : Value) (l : List UInt8), V = lv ∧ Rdr wr rb l 0 ∧ Row wr 48 4 V es.length (cellsE es) ∧ (es = [] → V = .slice none 0 0) ∧ (∀ k, ob V = some k → w.heap.size ≤ k ∧ k ≠ rb) ∧ Hid (GoP B.data.toList l es) ∧ Below w.heap.size w wr) (fun _ wr => rdM wr rb)
  case atStart => exact ⟨[], _, _, rfl, HR1.out, row_nil _ _ _, fun _ => rfl, fun k hk => by simp [ob] at hk, Lib.hid (GoP.start _), HW1.out⟩
  case round =>
    clear HW1 HR1
    obtain ⟨es, V, l, rfl, hrd, hrow, hv0, hob, HGO, hbl⟩ := hrel
    have HRD := Lib.hid hrd
    have HRW := Lib.hid hrow
    have HV0 := Lib.hid hv0
    have HOB := Lib.hid hob
    have HBL := Lib.hid hbl
    have CL := Lib.hid (pr_left hrd)
    obtain ⟨av, cv, rfl, -, -⟩ := hrow.le
    clear hrow hv0 hob hbl hrd
    by_cases hne : l = []
    · subst hne
      rw [show (([] : List UInt8).length : Int) = 0 from rfl] at CL
      go_wp2_with (go_at_call 124; (with_reducible refine CL.out.mono ?_); rintro _ w3 ⟨rfl, rfl⟩)
      go_ret2
      exact .inl ⟨es, _, rfl, HRW.out, HV0.out, fun k hk => (HOB.out k hk).1, HGO.out, HBL.out⟩
    · have hpos : 0 < l.length := List.length_pos_iff.2 hne
      have hposI : (0 : Int) < (l.length : Int) := by omega
      have hcnt := HGO.out.cnt
      rw [len_data'] at hcnt
      have hel : es.length ≤ 20000 := by omega
      have CR := Lib.hid (fun W => isRestart_any es.length W (by omega))
      go_upto_if 43 with (first | (go_at_call 124; (with_reducible refine CL.out.mono ?_); rintro _ w3 ⟨rfl, rfl⟩) | (go_at_call 111; (with_reducible refine (CR.out _).mono ?_); rintro _ w4 ⟨rfl, rfl⟩) | fail)
      go_cut [9] from 42 to 50 (fun v9 wx => ∃ A : ByteArray, v9 = .string A ∧ Hid (A.data.toList = aheadP es) ∧ wr = wx)
      case first =>
        by_cases h4 : es.length % 4 = 0
        · rw [decide_eq_true h4]
          have HA : Hid ((⟨#[]⟩ : ByteArray).data.toList = aheadP es) := by
            show _ = _
            unfold aheadP
            rw [if_pos h4]
          clear h4
          go_wp2
          go_meet
          exact ⟨_, rfl, HA, rfl⟩
        · obtain ⟨a1, c1, hv1, hE⟩ := row_ents HRW.out
          cases hv1
          obtain ⟨m, hm⟩ : ∃ m, es.length = m + 1 := ⟨es.length - 1, by omega⟩
          obtain ⟨b, off, rfl, hce⟩ : ∃ b off, av = some ⟨b, off, none⟩ ∧ ∀ j u, (entAt es m).cells[j]? = some u → wr.cell? ⟨b, off + m * 4 + j, none⟩ = some u := by
            rcases hE.2 with h0 | ⟨b, off, e, h1, h2⟩
            · omega
            · refine ⟨b, off, e, ?_⟩
              rw [entAt_get (show m < es.length by omega)]
              exact h2 m (by omega)
          have HA : Hid ((entAt es m).k.data.toList = aheadP es) := by
            show _ = _
            unfold aheadP
            rw [if_neg h4, show es.length - 1 = m by omega]
          generalize entAt es m = y at *
          have p0 : wr.cell? ⟨b, off + m * 4, none⟩ = some (.string y.k) := hce 0 _ rfl
          have hmI : (es.length : Int) - 1 = (m : Int) := by omega
          have hmL : (m : Int) < (es.length : Int) := by omega
          have hwm : IntKind.i64.wrap (m : Int) = (m : Int) := by rw [IntKind.wrap_i64]; omega
          rw [decide_eq_false h4]
          clear h4 hce hE hm
          go_wp2
          go_meet
          exact ⟨_, rfl, HA, rfl⟩
      case rest =>
        obtain ⟨A, rfl, HA, rfl⟩ := hcut
        have hAs : A.size ≤ 300 := by rw [← len_data', HA.out]; exact HGO.out.ahead
        have CN := Lib.hid (next_any A hAs HRD.out)
        rw [HA.out] at CN
        have hany := stP_any (aheadP es) l HGO.out.ahead
        obtain ⟨S, hS⟩ : ∃ S, stP (aheadP es) l = S := ⟨_, rfl⟩
        rw [hS] at CN hany
        have HNO := Lib.hid (show (S.2.2 ≠ 0 ∨ folB es S.1 = false) → ∀ L, ¬ LaidP L B.data.toList from fun h => HGO.out.no hne (by rw [hS]; exact h))
        have HYES := Lib.hid (show S.2.2 = 0 → folB es S.1 = true → GoP B.data.toList S.2.1 (es ++ [S.1]) from fun h1 h2 => by
          have := HGO.out.step hne (by rw [hS]; exact h1) (by rw [hS]; exact h2)
          rw [hS] at this
          exact this)
        obtain ⟨⟨K, SQ, NN, U⟩, l', e'⟩ := S
        simp only at CN HNO HYES hany
        have HME := Lib.hid (show e' = 0 → l'.length < l.length from fun h => by have := hany.2.2 h; omega)
        have HOX := Lib.hid hany.1
        unfold ev at CN
        clear hS hany CL CR
        go_upto_region 12 with (go_at_call 132; (with_reducible refine CN.out.mono ?_); rintro _ w5 ⟨rfl, r5, g5⟩)
        obtain ⟨W6, hW6⟩ : ∃ W6, w5.alloc (.cells #[.string K, .int .u64 SQ, .int .i64 NN, .string U] 48) = W6 := ⟨_, rfl⟩
        have hb56 : Below w5.heap.size w5 W6 := by rw [← hW6]; exact (Below.refl _ _).alloc (Nat.le_refl _) _
        have hbx : Boxe w5.heap.size K SQ NN U W6 := by rw [← hW6]; exact new_block _ _ rfl
        have r6 : Rdr W6 rb l' e' := r5.below hb56 r5.lt
        have g6 : wr.grownBy W6 (some rb) := grownBy_trans g5 (grownBy_of_below hb56 _)
        have HRW6 := Lib.hid (show Row W6 48 4 (.slice av es.length cv) es.length (cellsE es) from HRW.out.kept (fun k hk => g6.block k (HRW.out.lt k hk) (by simp; exact (HOB.out k hk).2)))
        have HBL6 := Lib.hid (show Below w.heap.size w W6 from below_row HBL.out (Nat.le_refl _) g6 (fun k hk => by cases hk; exact hrw))
        have hwX : wr.heap.size ≤ w5.heap.size := g5.size
        rw [hW6]
        generalize w5.heap.size = X at hbx hwX ⊢
        have CE := Lib.hid (pr_err r6)
        have HR6 := Lib.hid r6
        have HBX := Lib.hid hbx
        clear hW6 hb56 r5 g5 CN r6 g6 hbx
        by_cases he : e' = 0
        · subst he
          obtain ⟨a1, c1, hv1, hE⟩ := row_ents HRW6.out
          cases hv1
          have CF := Lib.hid (follows_any (w := W6) W6.heap.size (Nat.le_refl _) av es.length cv es hE (by omega) HGO.out.ok ⟨K, SQ, NN, U⟩ HOX.out)
          unfold ev at CF
          simp only at CF
          have c0 : W6.cell? ⟨X, 0, none⟩ = some (.string K) := HBX.out.c0
          have c1 : W6.cell? ⟨X, 1, none⟩ = some (.int .u64 SQ) := HBX.out.c1
          have c2 : W6.cell? ⟨X, 2, none⟩ = some (.int .i64 NN) := HBX.out.c2
          have c3 : W6.cell? ⟨X, 3, none⟩ = some (.string U) := HBX.out.c3
          obtain ⟨F, hF⟩ : ∃ F, folB es ⟨K, SQ, NN, U⟩ = F := ⟨_, rfl⟩
          rw [hF] at CF HNO HYES
          clear hE hF
          cases F with
          | false =>
            go_wp2_with (first | (go_at_call 120; (with_reducible refine CE.out.mono ?_); rintro _ w7 ⟨rfl, rfl⟩) | (go_at_call 76; (with_reducible refine CF.out.mono ?_); rintro _ w8 ⟨rfl, b8⟩) | fail)
            go_ret2
            exact .inr ⟨rfl, HNO.out (.inr (by first | rfl | trivial)), HBL6.out.trans (b8.mono HBL6.out.size)⟩
          | true =>
            have HM := Lib.hid (show es.length + 1 ≤ maxLen by unfold maxLen; omega)
            have HN := Lib.hid (show (es.length + 1) * 48 ≤ 140737488355328 by omega)
            have HRWB := Lib.hid (show ∀ w8, Below W6.heap.size W6 w8 → Row (w8.alloc (.cells #[.string K, .int .u64 SQ, .int .i64 NN, .string U] 48)) 48 4 (.slice av es.length cv) es.length (cellsE es) from fun w8 h => row_below (row_below HRW6.out h) ((Below.refl _ _).alloc (Nat.le_refl _) _))
            have HSRC := Lib.hid (fun w8 => src_new ⟨K, SQ, NN, U⟩ w8)
            go_wp2_with (first | (go_at_call 120; (with_reducible refine CE.out.mono ?_); rintro _ w7 ⟨rfl, rfl⟩) | (go_at_call 76; (with_reducible refine CF.out.mono ?_); rintro _ w8 ⟨rfl, b8⟩; have d0 := kkB b8 c0; have d1 := kkB b8 c1; have d2 := kkB b8 c2; have d3 := kkB b8 c3) | (at_builtin; refine wpList_append_row _ rfl _ _ 22 22 rfl 48 i0 _ 4 48 Tryz.underlying22 hi0 hz0 hzs hzb rfl (.slice av es.length cv) _ _ rfl (HRWB.out _ b8) _ rfl 1 _ (HSRC.out _) HM.out HN.out ?_; intro v' wz hrowz hgrowz hobz) | fail)
            have hb9 : Below W6.heap.size W6 (w8.alloc (.cells #[.string K, .int .u64 SQ, .int .i64 NN, .string U] 48)) := b8.alloc b8.size _
            have hb9s := hb9.size
            have HRZ := Lib.hid (show Rdr wz rb l' 0 from (HR6.out.kept (hb9.block rb HR6.out.lt)).kept (hgrowz.block rb (Nat.lt_of_lt_of_le HR6.out.lt hb9.size) (fun e => (HOB.out rb e.symm).2 rfl)))
            have HGZ := Lib.hid (show Below w.heap.size w wz from below_row (HBL6.out.trans (hb9.mono HBL6.out.size)) (Nat.le_refl _) hgrowz (fun k hk => (HOB.out k hk).1))
            have HOZ := Lib.hid (show ∀ k, ob v' = some k → w.heap.size ≤ k ∧ k ≠ rb from fun k hk => by
              rcases hobz with e | ⟨e, -⟩
              · exact HOB.out k (by rw [← e]; exact hk)
              · rw [e] at hk
                cases hk
                have h2 := HR6.out.lt
                have h4 := HBL6.out.size
                constructor <;> omega)
            have HWZ := Lib.hid (show Row wz 48 4 v' (es ++ [(⟨K, SQ, NN, U⟩ : Ent)]).length (cellsE (es ++ [(⟨K, SQ, NN, U⟩ : Ent)])) by
              rw [List.length_append, cellsE_append, show cellsE [(⟨K, SQ, NN, U⟩ : Ent)] = Ent.cells ⟨K, SQ, NN, U⟩ by simp [cellsE]]
              exact hrowz)
            have HGOZ := Lib.hid (HYES.out (by first | rfl | trivial) (by first | rfl | trivial))
            clear hrowz hgrowz hobz hb9 hb9s b8 c0 c1 c2 c3 d0 d1 d2 d3
            go_roundw
            all_goals first
              | (rw [HRZ.out.m, HRD.out.m, if_pos rfl, if_pos rfl]
                 have := HME.out (by first | rfl | trivial)
                 omega)
              | exact ⟨es ++ [⟨K, SQ, NN, U⟩], v', l', rfl, HRZ.out, HWZ.out, fun h => absurd h (by simp), HOZ.out, HGOZ, HGZ.out⟩
        · have hd : (e' != 0) = true := by simpa using he
          go_wp2_with (go_at_call 120; (with_reducible refine CE.out.mono ?_); rintro _ w7 ⟨rfl, rfl⟩)
          go_ret2
          exact .inr ⟨rfl, HNO.out (.inl he), HBL6.out⟩
end Go.Proofs.YtmnboiikopkaoaaGreat

namespace Go.Proofs.YtmnboiikopkaoaaGreat
open Go.RowKit

theorem toList_injP {a b : ByteArray} (h : a.toList = b.toList) : a = b := by
  rw [ByteArray.toList_eq, ByteArray.toList_eq] at h
  cases a; cases b
  simp_all
set_option maxHeartbeats 1000000 in
theorem get_err (b : ByteArray) (w : World) (h : b.size ≤ 1000000) {e : Int} (he : e ≠ 0) (ho : openV b.data.toList = .tuple #[.string ⟨#[]⟩, .int .i64 e]) (hg : getE b.data.toList = (e, [])) :
    Calls Tryz.prog 69 #[.string b] w (GotB b.data.toList w) := by
  have CO := Lib.hid (open_any b w h)
  rw [ho] at CO
  have hd : (e != 0) = true := by simpa using he
  have HG := Lib.hid hg
  clear ho hg he
  go_enter Tryz.func69, Tryz.ntmps69
  go_wp2_with (go_at_call 50; (with_reducible refine CO.out.mono ?_); rintro _ w1 ⟨rfl, b1⟩)
  go_ret2
  exact GotB.none HG.out b1
set_option maxHeartbeats 1000000 in
theorem get_no (b s : ByteArray) (w : World) (h : b.size ≤ 1000000) (ho : openV b.data.toList = .tuple #[.string s, .int .i64 0]) (CR : ∀ W : World, Calls Tryz.prog 106 #[.string s] W fun x w' => x = .returned (.tuple #[.slice none 0 0, .bool false]) ∧ Below W.heap.size W w') (hg : getE b.data.toList = (4, [])) :
    Calls Tryz.prog 69 #[.string b] w (GotB b.data.toList w) := by
  have CO := Lib.hid (open_any b w h)
  rw [ho] at CO
  have HCR := Lib.hid CR
  have HG := Lib.hid hg
  clear ho hg CR
  go_enter Tryz.func69, Tryz.ntmps69
  go_wp2_with (first | (go_at_call 50; (with_reducible refine CO.out.mono ?_); rintro _ w1 ⟨rfl, b1⟩) | (go_at_call 106; (with_reducible refine (HCR.out _).mono ?_); rintro _ w2 ⟨rfl, b2⟩) | fail)
  go_ret2
  exact GotB.none HG.out (b1.trans (b2.mono b1.size))
set_option maxHeartbeats 4000000 in
set_option maxRecDepth 100000 in
theorem get_loop (b s : ByteArray) (w : World) (h : b.size ≤ 100000) (h4 : 4 ≤ b.size) (ho : openV b.data.toList = .tuple #[.string s, .int .i64 0]) (hsd : s.data.toList = b.data.toList.take (b.size - 4)) (body : List UInt8) (hbl : body.length ≤ 100000) (CR : ∀ W : World, Calls Tryz.prog 106 #[.string s] W (ReadP body W)) (hbd : getBody b.data.toList = (0, body)) :
    Calls Tryz.prog 69 #[.string b] w (GotB b.data.toList w) := by
  have CO := Lib.hid (open_any b w (by omega))
  have hln : b.data.toList.length = b.size := len_data' b
  have hseal : sealF s.data.toList = b.data.toList := by
    have h1 := open_seal b.data.toList (by omega)
    rw [hsd]
    rw [hln] at h1
    refine h1.2 ?_
    unfold openV at ho
    rw [hln, if_neg (by omega)] at ho
    by_cases hc : crc (b.data.toList.take (b.size - 4)) = beVal (b.data.toList.drop (b.size - 4))
    · exact hc
    · rw [if_neg hc] at ho
      simp at ho
  rw [ho] at CO
  have HCR := Lib.hid CR
  have HBD := Lib.hid hbd
  have HSE := Lib.hid hseal
  have HLN := Lib.hid hln
  clear ho CR hbd hsd hseal hln
  go_enter Tryz.func69, Tryz.ntmps69
  go_wp2_with (fail)
  go_at_call 50
  refine CO.out.mono ?_
  rintro _ w1 ⟨rfl, b1⟩
  have C1 := Lib.hid (HCR.out w1)
  have HB1 := Lib.hid b1
  clear CO HCR b1
  go_wp2_with (fail)
  go_at_call 106
  refine C1.out.mono ?_
  rintro _ w2 (⟨es, v, rfl, hrow, hv0, hob, hgo, b2⟩ | ⟨rfl, hno, b2⟩)
  · obtain ⟨a, cap, rfl, hE⟩ := row_ents hrow
    have hcnt := hgo.cnt
    have hsum := hgo.sum
    simp only [List.length_nil, Nat.add_zero] at hcnt hsum
    have CL := Lib.hid (blay_any (w := w2) w2.heap.size (Nat.le_refl _) a es.length cap es hE (by omega) hgo.ok (by omega) hgo.ord)
    obtain ⟨A, hA⟩ : ∃ A : ByteArray, ⟨(layB es).toArray⟩ = A := ⟨_, rfl⟩
    have hAl : A.data.toList = layB es := by rw [← hA]
    rw [hA] at CL
    have HRW := Lib.hid hrow
    have HV0 := Lib.hid hv0
    have HOB := Lib.hid hob
    have HB2 := Lib.hid (HB1.out.trans (b2.mono HB1.out.size))
    have hb1s := HB1.out.size
    by_cases hq : A = s
    · subst hq
      have hg : getE b.data.toList = (0, es) := by
        rw [← HSE.out, hAl, ← blkB_lay]
        exact getE_laid es (by omega) hgo.ord (fun x hx => ⟨(hgo.ok x hx).2.1, (hgo.ok x hx).2.2.1⟩)
      have HG := Lib.hid hg
      clear hg hA hAl hE hrow hv0 hob b2 hgo
      go_wp2_with (go_at_call 77; (with_reducible refine CL.out.mono ?_); rintro _ w3 ⟨rfl, b3⟩)
      go_ret2
      unfold GotB
      rw [HG.out]
      exact ⟨_, rfl, row_below HRW.out b3, HV0.out, fun k hk => Nat.le_trans hb1s (HOB.out k hk), HB2.out.trans (b3.mono HB2.out.size)⟩
    · have hg : getE b.data.toList = (4, []) := getE_four (by rw [HLN.out]; omega) HBD.out (fun L hL hbL => hq (by
        obtain rfl := hgo.fin L hL
        rw [blkB_lay, ← HSE.out] at hbL
        have := sealF_inj hbL
        rw [← hAl] at this
        rw [arr_eq A, arr_eq s, this]))
      have HG := Lib.hid hg
      have dq : (!A.toList == s.toList) = true := by
        have : A.toList ≠ s.toList := fun e => hq (toList_injP e)
        simp [this]
      clear hg hA hAl hE hrow hv0 hob b2 hgo hq
      go_wp2_with (go_at_call 77; (with_reducible refine CL.out.mono ?_); rintro _ w3 ⟨rfl, b3⟩)
      go_ret2
      exact GotB.none HG.out (HB2.out.trans (b3.mono HB2.out.size))
  · have HG := Lib.hid (getE_four (by rw [HLN.out]; omega) HBD.out (fun L hL _ => hno L hL))
    clear hno
    go_wp2
    go_ret2
    exact GotB.none HG.out (HB1.out.trans (b2.mono HB1.out.size))
/-- The program's Get, of any bytes that are not many. -/
theorem getP_len (b : ByteArray) (w : World) (h : b.size ≤ 100000) : Calls Tryz.prog 69 #[.string b] w (GotB b.data.toList w) := by
  have hlen : b.data.toList.length = b.size := len_data' b
  rcases openV_cases b.data.toList with ⟨e, he, ho, hg⟩ | ⟨h4, ho, hg⟩
  · exact get_err b w (by omega) he ho (getE_err hg he)
  · obtain ⟨s, hs⟩ : ∃ s : ByteArray, ⟨(b.data.toList.take (b.data.toList.length - 4)).toArray⟩ = s := ⟨_, rfl⟩
    have hsd : s.data.toList = b.data.toList.take (b.data.toList.length - 4) := by rw [← hs]
    have hss : s.size = b.size - 4 := by rw [← len_data', hsd, List.length_take]; omega
    rw [hs] at ho
    by_cases h8 : b.data.toList.length < 8
    · rw [if_pos h8] at hg
      exact get_no b s w (by omega) ho (fun W => read_short s W (by omega)) (getE_err hg (by decide))
    · rw [if_neg h8] at hg
      have hp : piece s (s.size - 4) 4 = (b.data.toList.take (b.data.toList.length - 4)).drop (b.data.toList.length - 8) := by
        unfold piece
        rw [hsd, show s.size - 4 = b.data.toList.length - 8 by omega, List.take_of_length_le]
        rw [List.length_drop, List.length_take]
        omega
      generalize hn : beVal ((b.data.toList.take (b.data.toList.length - 4)).drop (b.data.toList.length - 8)) = n at hg
      have hpn : beVal (piece s (s.size - 4) 4) = n := by rw [hp, hn]
      by_cases hc : (b.data.toList.length - 8) / 4 < n
      · rw [if_pos hc] at hg
        exact get_no b s w (by omega) ho (fun W => read_cnt s W (by omega) (by omega) n hpn (by omega)) (getE_err hg (by decide))
      · rw [if_neg hc] at hg
        have hbd : getBody b.data.toList = (0, (s.extract 0 (s.size - 4 - 4 * n)).data.toList) := by
          rw [hg, ext_to, hsd, List.take_take]
          congr 2
          omega
        exact get_loop b s w h (by omega) ho (by rw [hsd, hlen]) _ (by rw [ext_to, List.length_take, len_data']; omega) (fun W => read_loop s W (by omega) (by omega) n hpn (by omega) _ rfl) hbd
end Go.Proofs.YtmnboiikopkaoaaGreat
