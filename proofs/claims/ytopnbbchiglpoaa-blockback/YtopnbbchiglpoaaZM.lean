/- The program: block.lay, the walk. -/
import Derived.Test.YtopnbbchiglpoaaZL
namespace Go.Proofs.Ytopnbbchiglpoaa
open Go.RowKit

set_option maxHeartbeats 8000000 in
set_option maxRecDepth 100000 in
theorem blay_any {w : World} (n0 : Nat) (hn0 : n0 ≤ w.heap.size) (a : Option Addr) (len cap : Nat) (es : List Ent) (hE : EntsAt n0 w a len es) (hlm : len ≤ 100000) (hok : ∀ x ∈ es, x.Ok) (hsz : sizeEs es ≤ 10000000) (ho : ordB es len = true) :
    Calls Try.prog 16 #[.slice a len cap] w fun e w' => e = .returned (.string ⟨(layB es).toArray⟩) ∧ Below w.heap.size w w' := by
  have hll : es.length = len := hE.1
  have HE := Lib.hid (hE.mono hn0)
  have HOK := Lib.hid hok
  have HORD := Lib.hid ho
  have HBLen := Lib.hid (bodyP_len es (fun i hi => by
    have h1 := valid_parts (ordB_at ho (show i < len by omega)).1
    unfold sizeE
    omega) (fun i hi => by
    have h1 := hok _ (List.getElem_mem hi)
    rw [entAt_get hi]
    unfold Ent.Ok at h1
    omega))
  have HSZ := Lib.hid (fun k => sizeEs_le es k)
  obtain ⟨i0, hi, hz0, hzs, hzb⟩ := info_parts infoByte
  clear ho hE hok
  go_enter Try.func16, Try.ntmps16
  go_wp2
  go_loopw [3, 4, 10] (fun bv tv iv wr => ∃ (i : Nat) (V T : Value), iv = .int .i64 (i : Int) ∧ V = bv ∧ T = tv ∧ i ≤ len ∧ LayS w V T (bodyB es i) (tailB es i) wr) (fun _ _ iv _ => len - (intOf iv).toNat)
  case atStart => exact ⟨0, _, _, rfl, rfl, rfl, Nat.zero_le _, ⟨row_nil _ _ _, row_nil _ _ _, by simp [ob], by simp [ob], by simp [ob], Below.refl _ _⟩⟩
  case round =>
    obtain ⟨i, V, T, rfl, rfl, rfl, hil, hlay⟩ := hrel
    have hbi := HBLen.out i (by omega)
    have hsi := HSZ.out i
    have hbLen : (bodyB es i).length ≤ 20000000 := by omega
    have htl := tailB_len es i
    have htLen : (tailB es i).length ≤ 400000 := by omega
    obtain ⟨av, cv, rfl, -, -⟩ := hlay.rv.le
    obtain ⟨ta, tc, rfl, -, -⟩ := hlay.rt.le
    by_cases hlt : i < len
    · obtain ⟨b, off, rfl, hblt, HCE⟩ : ∃ b off, a = some ⟨b, off, none⟩ ∧ b < w.heap.size ∧ ∀ i, i < len → ∃ x : Ent, es[i]? = some x ∧ ∀ j u, x.cells[j]? = some u → ∀ W, Below w.heap.size w W → W.cell? ⟨b, off + i * 4 + j, none⟩ = some u := by
        rcases HE.out.2 with h0 | ⟨b, off, e, h1, h2⟩
        · omega
        · exact ⟨b, off, e, h1, fun i hi => ⟨es[i]'(by omega), List.getElem?_eq_getElem (by omega), fun j u hu W hW => (hW.cell (p := ⟨b, off + i * 4 + j, none⟩) h1).trans (h2 i (by omega) j u hu)⟩⟩
      obtain ⟨⟨K, SQ, NN, U⟩, hg, hc⟩ := HCE i hlt
      have hgE : entAt es i = ⟨K, SQ, NN, U⟩ := by unfold entAt; rw [hg]; rfl
      have q0 : wr.cell? ⟨b, off + i * 4, none⟩ = some (.string K) := hc 0 _ rfl _ hlay.bel
      have q1 : wr.cell? ⟨b, off + i * 4 + 1, none⟩ = some (.int .u64 SQ) := hc 1 _ rfl _ hlay.bel
      have q2 : wr.cell? ⟨b, off + i * 4 + 2, none⟩ = some (.int .i64 NN) := hc 2 _ rfl _ hlay.bel
      have q3 : wr.cell? ⟨b, off + i * 4 + 3, none⟩ = some (.string U) := hc 3 _ rfl _ hlay.bel
      have hokx := HOK.out _ (List.mem_of_getElem? hg)
      have hvx := valid_parts (ordB_at HORD.out hlt).1
      rw [hgE] at hvx
      unfold Ent.Ok at hokx
      simp only at hokx hvx
      obtain ⟨sq, rfl⟩ : ∃ sq : Nat, SQ = (sq : Int) := ⟨SQ.toNat, by omega⟩
      obtain ⟨nn, rfl⟩ : ∃ nn : Nat, NN = (nn : Int) := ⟨NN.toNat, by omega⟩
      have hsq : sq < 18446744073709551616 := by omega
      have hnn2 : nn ≤ 2 := by omega
      have hilI : (i : Int) < (len : Int) := by omega
      obtain ⟨Bi, hBi⟩ : ∃ Bi, bodyB es i = Bi := ⟨_, rfl⟩
      obtain ⟨Ti, hTi⟩ : ∃ Ti, tailB es i = Ti := ⟨_, rfl⟩
      have HBN : Hid (bodyB es (i + 1) = Bi ++ entB (shN es i) ⟨K, (sq : Int), (nn : Int), U⟩) := by
        show bodyB es i ++ _ = _
        rw [hBi, hgE]
      have HTN : Hid (tailB es (i + 1) = if i % 4 = 0 then Ti ++ be Bi.length 4 else Ti) := by
        show (if i % 4 = 0 then tailB es i ++ be (bodyB es i).length 4 else tailB es i) = _
        rw [hBi, hTi]
      rw [hBi, hTi] at hlay
      rw [hBi] at hbLen
      rw [hTi] at htLen
      have HSH : Hid (i % 4 ≠ 0 → ∃ K0 : ByteArray, ∃ m, i = m + 1 ∧ K0.size ≤ 9223372036854775807 ∧ (∀ W, Below w.heap.size w W → W.cell? ⟨b, off + m * 4, none⟩ = some (.string K0)) ∧ shN es i = shr K0.data.toList K.data.toList) := fun h4 => by
        obtain ⟨m, hm⟩ : ∃ m, i = m + 1 := ⟨i - 1, by omega⟩
        obtain ⟨⟨K0, S0, N0, U0⟩, hg0, hc0⟩ := HCE m (by omega)
        have ho0 := HOK.out _ (List.mem_of_getElem? hg0)
        refine ⟨K0, m, hm, by have := ho0.1; unfold maxLen at this; simpa using this, fun W hW => hc0 0 _ rfl W hW, ?_⟩
        unfold shN
        rw [if_neg h4, hgE]
        have : entAt es (i - 1) = ⟨K0, S0, N0, U0⟩ := by unfold entAt; rw [show i - 1 = m by omega, hg0]; rfl
        rw [this]
      have hshK : shN es i ≤ K.size := by have := (shN_last es i).2.2; rw [hgE] at this; exact this
      have HS4 : Hid (i % 4 = 0 → shN es i = 0) := fun h => by unfold shN; rw [if_pos h]
      obtain ⟨SH, hSH⟩ : ∃ SH, shN es i = SH := ⟨_, rfl⟩
      rw [hSH] at HBN HSH hshK HS4
      obtain ⟨W, hW⟩ : ∃ W, wr.alloc (.cells #[.string K, .int .u64 (sq : Int), .int .i64 (nn : Int), .string U] 34) = W := ⟨_, rfl⟩
      have HX := Lib.hid (LayX.new hlay ⟨K, (sq : Int), (nn : Int), U⟩ hW)
      have CR := Lib.hid (fun W => isRestart_any i W (by omega))
      rw [hBi, hTi] 
      clear hlay HCE hc hg hgE hBi hTi hbi hsi htl hSH
      go_upto_if 16 with (go_at_call 28; (with_reducible refine (CR.out _).mono ?_); rintro _ w1 ⟨rfl, rfl⟩)
      generalize wr.heap.size = X at HX ⊢
      clear q0 q1 q2 q3 hW
      go_cut [4, 7] from 16 to 29 (fun v4 v7 wx => ∃ T' : Value, T' = v4 ∧ v7 = .int .i64 (SH : Int) ∧ LayX w X ⟨K, (sq : Int), (nn : Int), U⟩ (.slice av Bi.length cv) T' Bi (tailB es (i + 1)) wx)
      case first =>
        by_cases h4 : i % 4 = 0
        · have hS0 : SH = 0 := HS4.out h4
          have CP := Lib.hid (appendPlace_any (w := W) (.slice ta Ti.length tc) Ti.length Bi.length (Lib.byteCells Ti) HX.out.s.rt (by omega) (by omega))
          rw [decide_eq_true h4]
          have HT1 := Lib.hid (show tailB es (i + 1) = Ti ++ be Bi.length 4 by rw [HTN.out, if_pos h4])
          clear HTN HSH HBN h4
          go_wp2_with (go_at_call 29; (with_reducible refine CP.out.mono ?_); rintro _ w2 ⟨v2, rfl, r2, g2, o2⟩)
          go_meet
          refine ⟨v2, rfl, by rw [hS0]; rfl, ?_⟩
          rw [HT1.out]
          exact HX.out.addT (cs := be Bi.length 4) (by rw [be_length]; exact r2) g2 o2
        · obtain ⟨K0, m, hm, hK0, qm, hsh⟩ := HSH.out h4
          have C8 := Lib.hid (fun W => shared_any K0 K W hK0 (by omega))
          rw [← hsh] at C8
          have hmI : (i : Int) - 1 = (m : Int) := by omega
          have hmL : (m : Int) < (len : Int) := by omega
          have hwm : IntKind.i64.wrap (m : Int) = (m : Int) := by rw [IntKind.wrap_i64]; omega
          have p0 := qm W HX.out.s.bel
          have p1 : W.cell? ⟨X, 0, none⟩ = some (.string K) := HX.out.box.c0
          rw [decide_eq_false h4]
          have HT1 := Lib.hid (show tailB es (i + 1) = Ti by rw [HTN.out, if_neg h4])
          clear HTN HSH HBN h4 hm qm hsh
          go_wp2
          go_quiet ((go_at_call 12; with_reducible exact quietS (C8.out _)))
          go_wp2
          go_meet
          refine ⟨_, rfl, rfl, ?_⟩
          rw [HT1.out]
          exact HX.out.below (belowN (Below.refl _ _) _)
      case rest =>
        obtain ⟨T', rfl, rfl, hx2⟩ := hcut
        obtain ⟨Tn, hTn⟩ : ∃ Tn, tailB es (i + 1) = Tn := ⟨_, rfl⟩
        rw [hTn] at hx2
        have HTn := Lib.hid hTn
        obtain ⟨ta2, tc2, rfl, -, -⟩ := hx2.s.rt.le
        have HXC := Lib.hid hx2
        clear hTn hx2 HX CR HTN HSH HS4
        have hwS : IntKind.u64.wrap (SH : Int) = (SH : Int) := by rw [IntKind.wrap_u64]; omega
        have hwN : IntKind.u64.wrap (nn : Int) = (nn : Int) := by rw [IntKind.wrap_u64]; omega
        have hSK : (SH : Int) ≤ (K.size : Int) := by omega
        obtain ⟨K2, hK2⟩ : ∃ K2, K.extract SH K.size = K2 := ⟨_, rfl⟩
        have hK2d : K2.data.toList = K.data.toList.drop SH := by rw [← hK2, ext_from]
        have hK2s : K2.size = K.size - SH := by rw [← len_data', hK2d, List.length_drop, len_data']
        have C1 := Lib.hid (fun W => varP1 SH (by omega) W)
        have C2 := Lib.hid (fun W => textP1 K2 (by omega) W)
        have C3 := Lib.hid (fun W => varP2 sq nn hsq (by omega) W)
        have C4 := Lib.hid (fun W => textP1 U (by omega) W)
        have hu1 := uv_len SH (by omega)
        have hu2 := uv_len K2.size (by omega)
        have hu3 := vars_length [sq, nn] (fun z hz => by simp at hz; omega)
        have hu4 := uv_len U.size (by omega)
        obtain ⟨Z1, hZ1⟩ : ∃ Z : ByteArray, ⟨(Lib.uvarint SH).toArray⟩ = Z := ⟨_, rfl⟩
        obtain ⟨Z2, hZ2⟩ : ∃ Z : ByteArray, ⟨(Lib.uvarint K2.size ++ K2.data.toList).toArray⟩ = Z := ⟨_, rfl⟩
        obtain ⟨Z3, hZ3⟩ : ∃ Z : ByteArray, ⟨(vars [sq, nn]).toArray⟩ = Z := ⟨_, rfl⟩
        obtain ⟨Z4, hZ4⟩ : ∃ Z : ByteArray, ⟨(Lib.uvarint U.size ++ U.data.toList).toArray⟩ = Z := ⟨_, rfl⟩
        rw [hZ1] at C1
        rw [hZ2] at C2
        rw [hZ3] at C3
        rw [hZ4] at C4
        have hz1 : Z1.size ≤ 10 := by rw [← hZ1, str_size]; exact hu1
        have hz2 : Z2.size ≤ 400 := by rw [← hZ2, str_size, List.length_append, len_data']; omega
        have hz3 : Z3.size ≤ 30 := by rw [← hZ3, str_size]; simp only [List.length_cons, List.length_nil] at hu3; omega
        have hz4 : Z4.size ≤ 61000 := by rw [← hZ4, str_size, List.length_append, len_data']; omega
        have HEE := Lib.hid (show entB SH ⟨K, (sq : Int), (nn : Int), U⟩ = Z1.data.toList ++ Z2.data.toList ++ Z3.data.toList ++ Z4.data.toList by
          rw [entB_eq SH K sq nn U K2 hK2d hK2s, ← hZ1, ← hZ2, ← hZ3, ← hZ4])
        have HM1 := Lib.hid (show Bi.length + Z1.size ≤ maxLen by unfold maxLen; omega)
        have HN1 := Lib.hid (show (Bi.length + Z1.size) * 1 ≤ 140737488355328 by omega)
        clear hZ1 hZ2 hZ3 hZ4 hu1 hu2 hu3 hu4 hK2d hK2s
        go_upto_region 10 with (first | (go_at_call 30; (with_reducible refine (C1.out _).mono ?_); rintro _ wa1 ⟨rfl, ba1⟩; have xa1 := HXC.out.below ba1) | (at_builtin; refine wpList_append_row _ rfl _ _ 36 9 rfl 5 i0 _ 1 1 Try.underlying36 hi hz0 hzs hzb rfl (.slice av Bi.length cv) _ _ rfl xa1.s.rv _ rfl Z1.size _ (src_strB Z1 _) HM1.out HN1.out ?_; intro vb1 wb1 rb1 gb1 ob1) | fail)
        have xb1 := xa1.addV (cs := Z1.data.toList) (by rw [len_data']; exact rb1) gb1 (ob1.imp id (fun h => ⟨_, h.1, Nat.le_refl _⟩))
        obtain ⟨av1, cv1, hvv1, -, -⟩ := xb1.s.rv.le
        subst hvv1
        obtain ⟨B1, hB1⟩ : ∃ B1, Bi ++ Z1.data.toList = B1 := ⟨_, rfl⟩
        rw [hB1] at xb1 ⊢
        have hlB1 : B1.length ≤ 21000000 := by rw [← hB1, List.length_append, len_data']; omega
        have HBB1 := Lib.hid hB1
        have HXB1 := Lib.hid xb1
        clear rb1 gb1 ob1 xa1 ba1 hB1 xb1 HXC C1
        have HM2 := Lib.hid (show B1.length + Z2.size ≤ maxLen by unfold maxLen; omega)
        have HN2 := Lib.hid (show (B1.length + Z2.size) * 1 ≤ 140737488355328 by omega)
        have p0 : wb1.cell? ⟨X, 0, none⟩ = some (.string K) := HXB1.out.box.c0
        go_upto_region 11 with (first | (go_at_call 31; (with_reducible refine (C2.out _).mono ?_); rintro _ wa2 ⟨rfl, ba2⟩; have xa2 := HXB1.out.below ba2) | (at_builtin; refine wpList_append_row _ rfl _ _ 36 9 rfl 5 i0 _ 1 1 Try.underlying36 hi hz0 hzs hzb rfl (.slice av1 B1.length cv1) _ _ rfl xa2.s.rv _ rfl Z2.size _ (src_strB Z2 _) HM2.out HN2.out ?_; intro vb2 wb2 rb2 gb2 ob2) | fail)
        have xb2 := xa2.addV (cs := Z2.data.toList) (by rw [len_data']; exact rb2) gb2 (ob2.imp id (fun h => ⟨_, h.1, Nat.le_refl _⟩))
        obtain ⟨av2, cv2, hvv2, -, -⟩ := xb2.s.rv.le
        subst hvv2
        obtain ⟨B2, hB2⟩ : ∃ B2, B1 ++ Z2.data.toList = B2 := ⟨_, rfl⟩
        rw [hB2] at xb2 ⊢
        have hlB2 : B2.length ≤ 21100000 := by rw [← hB2, List.length_append, len_data']; omega
        have HBB2 := Lib.hid hB2
        have HXB2 := Lib.hid xb2
        clear rb2 gb2 ob2 xa2 ba2 hB2 xb2 HXB1 C2 p0
        have HM3 := Lib.hid (show B2.length + Z3.size ≤ maxLen by unfold maxLen; omega)
        have HN3 := Lib.hid (show (B2.length + Z3.size) * 1 ≤ 140737488355328 by omega)
        have p1 : wb2.cell? ⟨X, 1, none⟩ = some (.int .u64 (sq : Int)) := HXB2.out.box.c1
        have p2 : wb2.cell? ⟨X, 2, none⟩ = some (.int .i64 (nn : Int)) := HXB2.out.box.c2
        go_upto_region 12 with (first | (go_at_call 30; (with_reducible refine (C3.out _).mono ?_); rintro _ wa3 ⟨rfl, ba3⟩; have xa3 := HXB2.out.below ba3) | (at_builtin; refine wpList_append_row _ rfl _ _ 36 9 rfl 5 i0 _ 1 1 Try.underlying36 hi hz0 hzs hzb rfl (.slice av2 B2.length cv2) _ _ rfl xa3.s.rv _ rfl Z3.size _ (src_strB Z3 _) HM3.out HN3.out ?_; intro vb3 wb3 rb3 gb3 ob3) | fail)
        have xb3 := xa3.addV (cs := Z3.data.toList) (by rw [len_data']; exact rb3) gb3 (ob3.imp id (fun h => ⟨_, h.1, Nat.le_refl _⟩))
        obtain ⟨av3, cv3, hvv3, -, -⟩ := xb3.s.rv.le
        subst hvv3
        obtain ⟨B3, hB3⟩ : ∃ B3, B2 ++ Z3.data.toList = B3 := ⟨_, rfl⟩
        rw [hB3] at xb3 ⊢
        have hlB3 : B3.length ≤ 21200000 := by rw [← hB3, List.length_append, len_data']; omega
        have HBB3 := Lib.hid hB3
        have HXB3 := Lib.hid xb3
        clear rb3 gb3 ob3 xa3 ba3 hB3 xb3 HXB2 C3 p1 p2
        have HM4 := Lib.hid (show B3.length + Z4.size ≤ maxLen by unfold maxLen; omega)
        have HN4 := Lib.hid (show (B3.length + Z4.size) * 1 ≤ 140737488355328 by omega)
        have p3 : wb3.cell? ⟨X, 3, none⟩ = some (.string U) := HXB3.out.box.c3
        go_wp2_with (first | (go_at_call 31; (with_reducible refine (C4.out _).mono ?_); rintro _ wa4 ⟨rfl, ba4⟩; have xa4 := HXB3.out.below ba4) | (at_builtin; refine wpList_append_row _ rfl _ _ 36 9 rfl 5 i0 _ 1 1 Try.underlying36 hi hz0 hzs hzb rfl (.slice av3 B3.length cv3) _ _ rfl xa4.s.rv _ rfl Z4.size _ (src_strB Z4 _) HM4.out HN4.out ?_; intro vb4 wb4 rb4 gb4 ob4) | fail)
        have xb4 := xa4.addV (cs := Z4.data.toList) (by rw [len_data']; exact rb4) gb4 (ob4.imp id (fun h => ⟨_, h.1, Nat.le_refl _⟩))
        have HFIN := Lib.hid (show LayS w vb4 (.slice ta2 Tn.length tc2) (bodyB es (i + 1)) (tailB es (i + 1)) wb4 by
          rw [HBN.out, HEE.out, HTn.out]
          have e : Bi ++ (Z1.data.toList ++ Z2.data.toList ++ Z3.data.toList ++ Z4.data.toList) = B3 ++ Z4.data.toList := by
            rw [← HBB3.out, ← HBB2.out, ← HBB1.out]
            simp
          rw [e]
          exact xb4.s)
        clear rb4 gb4 ob4 xa4 ba4 xb4
        go_roundw
        all_goals first
          | exact ⟨i + 1, _, _, by go_num, rfl, rfl, by omega, HFIN.out⟩
          | (simp [intOf]; omega)
    · obtain rfl : i = len := by omega
      obtain ⟨Bi, hBi⟩ : ∃ Bi, bodyB es i = Bi := ⟨_, rfl⟩
      obtain ⟨Ti, hTi⟩ : ∃ Ti, tailB es i = Ti := ⟨_, rfl⟩
      have htc := tailB_cnt es i
      obtain ⟨cnt, hcnt⟩ : ∃ cnt, (i + 3) / 4 = cnt := ⟨_, rfl⟩
      have hcl : cnt < 4294967296 := by omega
      rw [hcnt] at htc
      have HL := Lib.hid (show layB es = Bi ++ Ti ++ be cnt 4 by unfold layB; rw [hll, hBi, hTi, hcnt])
      rw [hBi, hTi] at hlay ⊢
      rw [hBi] at hbLen
      rw [hTi] at htLen htc
      have hq : (Ti.length : Int) / 4 = (cnt : Int) := by omega
      have HS := Lib.hid (row_src hlay.rt)
      have HLAY := Lib.hid hlay
      have HM1 := Lib.hid (show Bi.length + Ti.length ≤ maxLen by unfold maxLen; omega)
      have HN1 := Lib.hid (show (Bi.length + Ti.length) * 1 ≤ 140737488355328 by omega)
      clear hlay hBi hTi hbi hsi htl htc hcnt
      go_upto_region 15 with (at_builtin; refine wpList_append_row _ rfl _ _ 36 36 rfl 5 i0 _ 1 1 Try.underlying36 hi hz0 hzs hzb rfl (.slice av Bi.length cv) _ _ rfl HLAY.out.rv _ rfl Ti.length _ HS.out HM1.out HN1.out ?_; intro vb wb rb gb hob)
      have xb := HLAY.out.addV (cs := Ti) rb gb (hob.imp id (fun h => ⟨_, h.1, Nat.le_refl _⟩))
      obtain ⟨av1, cv1, hvv, -, -⟩ := xb.rv.le
      subst hvv
      obtain ⟨B1, hB1⟩ : ∃ B1, Bi ++ Ti = B1 := ⟨_, rfl⟩
      rw [hB1] at xb ⊢
      rw [hB1] at HL
      have hlB1 : B1.length ≤ 21000000 := by rw [← hB1, List.length_append]; omega
      have HXB := Lib.hid xb
      have CP := Lib.hid (appendPlace_any (w := wb) (.slice av1 B1.length cv1) B1.length cnt (Lib.byteCells B1) xb.rv hcl (by omega))
      clear rb gb hob hB1 xb HS HLAY HM1 HN1
      go_upto_region 16 with (go_at_call 29; (with_reducible refine CP.out.mono ?_); rintro _ w2 ⟨v2, rfl, r2, g2, o2⟩)
      have x2 := HXB.out.addV (cs := be cnt 4) (by rw [be_length]; exact r2) g2 o2
      have hcv := conv_rowB x2.rv
      rw [← HL.out] at hcv
      have HB2 := Lib.hid x2.bel
      clear x2 r2 g2 o2 CP HXB
      go_wp2
      go_ret
      exact ⟨rfl, HB2.out⟩
end Go.Proofs.Ytopnbbchiglpoaa
