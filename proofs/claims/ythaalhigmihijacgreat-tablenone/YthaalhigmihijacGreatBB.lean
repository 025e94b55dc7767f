/- The document's own PutBlock. -/
import Derived.Test.YthaalhigmihijacGreatBO
import Derived.Deep.RegionLaw
namespace Go.Proofs.YthaalhigmihijacGreat
open Go.RowKit

set_option maxHeartbeats 1000000 in
theorem rput_no {w : World} (a : Option Addr) (len cap : Nat) (es : List Ent) (hE : EntsAt w.heap.size w a len es) (hlm : len ≤ 2000) (hok : ∀ x ∈ es, x.Ok) (ho : ordB es len = false) :
    Calls Tryz.prog 51 #[.slice a len cap] w fun e w' => e = .returned (.tuple #[.string ⟨#[]⟩, .int .i64 1]) ∧ Below w.heap.size w w' := by
  have CO := rordered_any a len cap es hE (by omega) hok
  rw [ho] at CO
  have HCO := Lib.hid CO
  clear CO ho hE hok
  go_enter Tryz.func51, Tryz.ntmps51
  go_wp2_with (go_at_call 50; refine HCO.out.mono ?_; rintro _ w1 ⟨rfl, b1⟩)
  go_ret2
  exact ⟨rfl, b1⟩
theorem quietS {P : Program} {f : FuncId} {args : Array Value} {w : World} {n : Nat} {v : Value} (h : Calls P f args (w.drewN n) fun e w' => e = .returned v ∧ ∃ m, w' = (w.drewN n).drewN m) :
    Calls P f args (w.drewN n) fun e w' => e = .returned v ∧ ∃ m, w' = w.drewN m := h.mono fun _ _ ⟨h1, m, h2⟩ => ⟨h1, n + m, by rw [h2, drewN_addB]⟩
theorem bodyB_len (es : List Ent) (hsz : sizeEs es ≤ 800000) (ho : ∀ i, i < es.length → (entAt es i).s.toNat < 18446744073709551616 ∧ (entAt es i).n.toNat < 18446744073709551616) : ∀ k, k ≤ es.length → (bodyB es k).length ≤ 60 * k + sizeEs (es.take k)
  | 0, _ => by simp [bodyB]
  | k + 1, h => by
    have ih := bodyB_len es hsz ho k (by omega)
    have hk : k < es.length := by omega
    have h1 := sizeEs_take es k hk
    have h2 := sizeE_le es k hk
    have h3 := entAt_get hk
    have h4 : shN es k ≤ 1000000 := by
      unfold shN
      split
      · omega
      · have := shr_le2 (entAt es (k - 1)).k.data.toList (entAt es k).k.data.toList
        rw [len_data', h3] at this
        unfold sizeE at h2
        rw [h3]
        omega
    have h5 := entB_len (shN es k) (entAt es k) (by rw [h3]; omega) h4 (ho k hk).1 (ho k hk).2
    show (bodyB es k ++ entB (shN es k) (entAt es k)).length ≤ _
    rw [List.length_append, h1, h3]
    rw [h3] at h5
    omega
theorem tailB_len (es : List Ent) : ∀ k, (tailB es k).length ≤ 4 * k
  | 0 => by simp [tailB]
  | k + 1 => by
    have ih := tailB_len es k
    show (if k % 4 = 0 then tailB es k ++ be (bodyB es k).length 4 else tailB es k).length ≤ _
    split
    · rw [List.length_append, be_length]; omega
    · omega
theorem src_strB (s : ByteArray) (w : World) : Src Tryz.prog 1 9 (.string s) s.size (Lib.byteCells s.data.toList) w := Src.ofString (P := Tryz.prog) (w := w) Tryz.underlying9 s
/-- What is held through the parts of a version: the bytes so far, the version's cells. -/
structure GB (wc : World) (b o : Nat) (K : ByteArray) (sq nn : Nat) (U : ByteArray) (V : Value) (acc : List UInt8) (W : World) : Prop where
  row : Row W 5 1 V acc.length (Lib.byteCells acc)
  q : W.cell? ⟨b, o, none⟩ = some (.string K) ∧ W.cell? ⟨b, o + 1, none⟩ = some (.int .u64 (sq : Int)) ∧ W.cell? ⟨b, o + 2, none⟩ = some (.int .i64 (nn : Int)) ∧ W.cell? ⟨b, o + 3, none⟩ = some (.string U)
  bel : Below wc.heap.size wc W
section
variable {wc : World} {b o : Nat} {K : ByteArray} {sq nn : Nat} {U : ByteArray} {V : Value} {acc : List UInt8} {W W' : World}
theorem GB.below (h : GB wc b o K sq nn U V acc W) (hb : Below W.heap.size W W') : GB wc b o K sq nn U V acc W' :=
  ⟨h.row.kept fun k hk => hb.block k (h.row.lt k hk), ⟨kkB hb h.q.1, kkB hb h.q.2.1, kkB hb h.q.2.2.1, kkB hb h.q.2.2.2⟩, h.bel.trans (hb.mono h.bel.size)⟩
theorem GB.alloc (h : GB wc b o K sq nn U V acc W) (x : Obj) : GB wc b o K sq nn U V acc (W.alloc x) := h.below ((Below.refl _ _).alloc (Nat.le_refl _) x)
theorem GB.drew (h : GB wc b o K sq nn U V acc W) : GB wc b o K sq nn U V acc W.drew := h.below (belowN (Below.refl _ _) 1)
end
theorem conv_rowB {w : World} {v : Value} {l : List UInt8} (h : Row w 5 1 v l.length (Lib.byteCells l)) : (convert 90 9 v).run Tryz.prog w = .ok (.string ⟨l.toArray⟩) w := by
  rcases h.2 with ⟨h0, rfl | ⟨b, o, rfl⟩⟩ | ⟨g, cap, cur, e, h1, h2, h3, h4, h5⟩
  · have hl : l = [] := List.eq_nil_of_length_eq_zero h0
    subst hl
    exact Lib.run_convert_nil_bytes w 90 9 5 0 Tryz.underlying90 Tryz.underlying5 Tryz.underlying9
  · have hl : l = [] := List.eq_nil_of_length_eq_zero h0
    subst hl
    exact run_convert_bytes_back (P := Tryz.prog) w 90 9 5 ⟨b, o, none⟩ 0 [] Tryz.underlying90 Tryz.underlying5 Tryz.underlying9 (fun j hj => by simp at hj)
  · exact conv_own (B := 0) ⟨h.1, .inr ⟨g, cap + 1, cur, e, Nat.zero_le _, h1, h2, h3, h4, h5⟩⟩ rfl
theorem drcB {W : World} {p : Addr} {v : Value} (h : W.cell? p = some v) : W.drew.cell? p = some v := h
theorem nlist0 {W : World} {x y : Int} {t : TypeId} {n : Nat} (hn : n = W.heap.size) : (W.alloc (.cells #[.int .u64 x, .int .u64 y] t)).cell? ⟨n, 0, none⟩ = some (.int .u64 x) := by
  subst hn
  exact nce rfl rfl
theorem nlist1 {W : World} {x y : Int} {t : TypeId} {n : Nat} (hn : n = W.heap.size) : (W.alloc (.cells #[.int .u64 x, .int .u64 y] t)).cell? ⟨n, 1, none⟩ = some (.int .u64 y) := by
  subst hn
  exact nce rfl rfl
theorem vars2B (x y : Nat) (hx : x < 18446744073709551616) (hy : y < 18446744073709551616) (W : World) (n : Nat) (h0 : W.cell? ⟨n, 0, none⟩ = some (.int .u64 (x : Int))) (h1 : W.cell? ⟨n, 1, none⟩ = some (.int .u64 (y : Int))) :
    Calls Tryz.prog 53 #[.slice (some ⟨n, 0, none⟩) 2 2] W fun e w' => e = .returned (.string ⟨(vars [x, y]).toArray⟩) ∧ Below W.heap.size W w' :=
  refVars_any n 0 2 [x, y] W (fun z hz => by simp at hz; omega) (by simp) (fun i hi => by
    match i, hi with
    | 0, _ => exact h0
    | 1, _ => exact h1) (World.block_lt_of_cell? W _ h0)
theorem entB_eq (sh : Nat) (K : ByteArray) (sq nn : Nat) (U K2 : ByteArray) (h2 : K2.data.toList = K.data.toList.drop sh) (hs : K2.size = K.size - sh) : entB sh ⟨K, (sq : Int), (nn : Int), U⟩ = Lib.uvarint sh ++ (Lib.uvarint K2.size ++ K2.data.toList) ++ vars [sq, nn] ++ (Lib.uvarint U.size ++ U.data.toList) := by
  unfold entB
  rw [h2, hs]
  simp
set_option maxHeartbeats 8000000 in
set_option maxRecDepth 100000 in
theorem rput_yes {w : World} (a : Option Addr) (len cap : Nat) (es : List Ent) (hE : EntsAt w.heap.size w a len es) (hlm : len ≤ 2000) (hok : ∀ x ∈ es, x.Ok) (hsz : sizeEs es ≤ 800000) (ho : ordB es len = true) :
    Calls Tryz.prog 51 #[.slice a len cap] w fun e w' => e = .returned (.tuple #[.string ⟨(blkB es).toArray⟩, .int .i64 0]) ∧ Below w.heap.size w w' := by
  have CO := rordered_any a len cap es hE (by omega) hok
  rw [ho] at CO
  have HCO := Lib.hid CO
  have hll : es.length = len := hE.1
  have HE := Lib.hid hE
  have HOK := Lib.hid hok
  have HORD := Lib.hid ho
  have HBLen := Lib.hid (bodyB_len es hsz (fun i hi => by
    have h1 := hok _ (List.getElem_mem hi)
    rw [entAt_get hi]
    unfold Ent.Ok at h1
    omega))
  have HSZ := Lib.hid (fun k => sizeEs_le es k)
  obtain ⟨i0, hi, hz0, hzs, hzb⟩ := info_parts infoByte
  clear CO ho hE hok
  go_enter Tryz.func51, Tryz.ntmps51
  go_wp2_with (fail)
  go_at_call 50
  refine HCO.out.mono ?_
  rintro _ w1 ⟨rfl, b1⟩
  clear HCO
  go_wp2
  go_loopw [4, 5, 6, 7] (fun bv tv nv iv wr => ∃ (i : Nat) (V : Value) (T : ByteArray), iv = .int .i64 (i : Int) ∧ V = bv ∧ tv = .string T ∧ nv = .int .i64 (((i + 3) / 4 : Nat) : Int) ∧ i ≤ len ∧ Row wr 5 1 V (bodyB es i).length (Lib.byteCells (bodyB es i)) ∧ (∀ k, ob V = some k → w.heap.size ≤ k) ∧ Hid (T.data.toList = tailB es i) ∧ Below w.heap.size w wr) (fun _ _ _ iv _ => len - (intOf iv).toNat)
  case atStart => exact ⟨0, _, ⟨#[]⟩, rfl, rfl, rfl, rfl, Nat.zero_le _, row_nil _ _ _, fun k hk => (by simp [ob] at hk), rfl, b1⟩
  case round =>
    obtain ⟨i, V, T, rfl, rfl, rfl, rfl, hil, hrow, hob, HT, hbl⟩ := hrel
    by_cases hlt : i < len
    · obtain ⟨b, off, rfl, hblt, HCE⟩ : ∃ b off, a = some ⟨b, off, none⟩ ∧ b < w.heap.size ∧ ∀ i, i < len → ∃ x : Ent, es[i]? = some x ∧ ∀ j u, x.cells[j]? = some u → wr.cell? ⟨b, off + i * 4 + j, none⟩ = some u := by
        rcases (HE.out.below hbl).2 with h0 | ⟨b, off, e, h1, h2⟩
        · omega
        · exact ⟨b, off, e, h1, fun i hi => ⟨es[i]'(by omega), List.getElem?_eq_getElem (by omega), h2 i (by omega)⟩⟩
      obtain ⟨⟨K, SQ, NN, U⟩, hg, hc⟩ := HCE i hlt
      have hgE : entAt es i = ⟨K, SQ, NN, U⟩ := by unfold entAt; rw [hg]; rfl
      have q0 : wr.cell? ⟨b, off + i * 4, none⟩ = some (.string K) := hc 0 _ rfl
      have q1 : wr.cell? ⟨b, off + i * 4 + 1, none⟩ = some (.int .u64 SQ) := hc 1 _ rfl
      have q2 : wr.cell? ⟨b, off + i * 4 + 2, none⟩ = some (.int .i64 NN) := hc 2 _ rfl
      have q3 : wr.cell? ⟨b, off + i * 4 + 3, none⟩ = some (.string U) := hc 3 _ rfl
      have hokx := HOK.out _ (List.mem_of_getElem? hg)
      have hvx := (ordB_at HORD.out hlt).1
      rw [hgE] at hvx
      have hszx : K.size + U.size ≤ 800000 := by
        have hik : i < es.length := by omega
        have := sizeE_le es i hik
        rw [List.getElem?_eq_getElem hik] at hg
        rw [Option.some.inj hg] at this
        exact Nat.le_trans this hsz
      have hnn : NN = 1 ∨ NN = 2 := by
        simp only [vldE, validB, Bool.and_eq_true, Bool.or_eq_true, beq_iff_eq] at hvx
        rcases hvx.2 with h | h
        · exact .inl h
        · exact .inr h.1
      unfold Ent.Ok at hokx
      simp only at hokx
      obtain ⟨sq, rfl⟩ : ∃ sq : Nat, SQ = (sq : Int) := ⟨SQ.toNat, by omega⟩
      obtain ⟨nn, rfl⟩ : ∃ nn : Nat, NN = (nn : Int) := ⟨NN.toNat, by omega⟩
      have hsq : sq < 18446744073709551616 := by omega
      have hnn2 : nn ≤ 2 := by omega
      have hilI : (i : Int) < (len : Int) := by omega
      have hbi := HBLen.out i (by omega)
      have hsi := HSZ.out i
      have hbLen : (bodyB es i).length ≤ 930000 := by omega
      have hTl : T.size ≤ 20000 := by rw [← len_data', HT.out]; have := tailB_len es i; omega
      have HS4 : Hid (∀ k, k % 4 = 0 → shN es k = 0) := fun k h => by unfold shN; rw [if_pos h]
      have hrt : (i : Int).tmod 4 = ((i % 4 : Nat) : Int) := by rw [Int.tmod_eq_emod_of_nonneg (by omega)]; omega
      obtain ⟨Bi, hBi⟩ : ∃ Bi, bodyB es i = Bi := ⟨_, rfl⟩
      have HBN : Hid (bodyB es (i + 1) = Bi ++ entB (shN es i) ⟨K, (sq : Int), (nn : Int), U⟩) := by
        show bodyB es i ++ _ = _
        rw [hBi, hgE]
      have HTN : Hid (tailB es (i + 1) = if i % 4 = 0 then tailB es i ++ be Bi.length 4 else tailB es i) := by
        show (if i % 4 = 0 then tailB es i ++ be (bodyB es i).length 4 else tailB es i) = _
        rw [hBi]
      rw [hBi] at hrow hbLen
      have HROW := Lib.hid hrow
      have HOB := Lib.hid hob
      have HBL := Lib.hid hbl
      obtain ⟨av, cv, rfl, -, -⟩ := hrow.le
      have HSH : Hid (i % 4 ≠ 0 → ∃ K0 : ByteArray, ∃ m, i = m + 1 ∧ K0.size ≤ 9223372036854775807 ∧ wr.cell? ⟨b, off + m * 4, none⟩ = some (.string K0) ∧ shN es i = shr K0.data.toList K.data.toList) := fun h4 => by
        obtain ⟨m, hm⟩ : ∃ m, i = m + 1 := ⟨i - 1, by omega⟩
        obtain ⟨⟨K0, S0, N0, U0⟩, hg0, hc0⟩ := HCE m (by omega)
        have ho0 := HOK.out _ (List.mem_of_getElem? hg0)
        refine ⟨K0, m, hm, by have := ho0.1; unfold maxLen at this; simpa using this, hc0 0 _ rfl, ?_⟩
        unfold shN
        rw [if_neg h4, hgE]
        have : entAt es (i - 1) = ⟨K0, S0, N0, U0⟩ := by unfold entAt; rw [show i - 1 = m by omega, hg0]; rfl
        rw [this]
      clear hrow hob hbl HCE hc hg hgE hvx hBi hbi hsi hnn
      go_upto_if 24 with fail
      go_cut [5, 6, 8, 9, 10] from 22 to 48 (fun v5 v6 v8 v9 v10 wx => ∃ (T' : ByteArray), v5 = .string T' ∧ v6 = .int .i64 (((i + 1 + 3) / 4 : Nat) : Int) ∧ v8 = .int .i64 ((shN es i : Nat) : Int) ∧ Hid (T'.data.toList = tailB es (i + 1)) ∧ Below wr.heap.size wr wx)
      case first =>
        cases hq : ((i : Int) % 4 != 0) with
        | false =>
          have h4 : i % 4 = 0 := by
            have : (i : Int) % 4 = 0 := by simpa using hq
            omega
          have HTT : Hid (tailB es (i + 1) = T.data.toList ++ be Bi.length 4) := by show _ = _; rw [HTN.out, if_pos h4, HT.out]
          have CF := Lib.hid (fun W => refFix_ok Bi.length 4 W (by omega) (by omega) (by omega) (by omega))
          rw [show ((4 : Nat) : Int) = 4 from rfl] at CF
          have hbs : (⟨(be Bi.length 4).toArray⟩ : ByteArray).size = 4 := by show (be Bi.length 4).toArray.size = 4; rw [List.size_toArray, be_length]
          obtain ⟨FX, hFX⟩ : ∃ FX : ByteArray, ⟨(be Bi.length 4).toArray⟩ = FX := ⟨_, rfl⟩
          have HFX : Hid (FX.data.toList = be Bi.length 4) := by show _ = _; rw [← hFX]
          rw [hFX] at CF hbs
          clear hFX
          have hTs : (T ++ FX).size = T.size + FX.size := by simp
          have HTF : Hid ((T ++ FX).data.toList = tailB es (i + 1)) := by
            show _ = _
            rw [HTT.out, ← HFX.out]
            simp
          have HSZ0 : Hid (shN es i = 0) := HS4.out i h4
          have hwL : IntKind.u64.wrap (Bi.length : Int) = (Bi.length : Int) := by rw [IntKind.wrap_u64]; omega
          have HCN : Hid (((i + 3) / 4 : Nat) + 1 = (i + 1 + 3) / 4) := by show _ = _; omega
          have hszT : ¬ (9223372036854775807 < T.size + FX.size) := by omega
          generalize (i + 3) / 4 = cnt at HCN
          have hcnt : cnt ≤ 100000 := by have := HCN.out; omega
          clear HTT HFX HTN HSH HBN HROW HOB HT h4 hq hrt
          go_wp2_with (go_at_call 57; refine (CF.out _).mono ?_; rintro _ w2 ⟨rfl, b2⟩)
          go_meet
          exact ⟨T ++ FX, rfl, by rw [← HCN.out]; simp, by rw [HSZ0.out]; rfl, HTF, b2⟩
        | true =>
          have h4 : i % 4 ≠ 0 := by
            have : (i : Int) % 4 ≠ 0 := by simpa using hq
            omega
          obtain ⟨K0, m, hm, hK0, qm, hsh⟩ := HSH.out h4
          have C8 := Lib.hid (fun W => rshared_any K0 K W hK0 (by omega))
          have HSHE := Lib.hid hsh
          have hmI : (i : Int) - 1 = (m : Int) := by omega
          have hmL : (m : Int) < (len : Int) := by omega
          have hwm : IntKind.i64.wrap (m : Int) = (m : Int) := by rw [IntKind.wrap_i64]; omega
          have HTT : Hid (T.data.toList = tailB es (i + 1)) := by show _ = _; rw [HTN.out, if_neg h4, HT.out]
          have HCN : Hid ((i + 3) / 4 = (i + 1 + 3) / 4) := by show _ = _; omega
          generalize (i + 3) / 4 = cnt at HCN
          generalize shr K0.data.toList K.data.toList = SR at C8 HSHE
          clear HTN HSH HBN HROW HOB HT hsh hm h4 hq hrt
          go_wp2
          go_quiet ((go_at_call 162; with_reducible exact quietS (C8.out _)))
          go_wp2
          go_meet
          exact ⟨T, rfl, by rw [HCN.out], by rw [HSHE.out], HTT, belowN (Below.refl _ _) _⟩
      case rest =>
        obtain ⟨T', rfl, rfl, rfl, HT', hbx⟩ := hcut
        have hshK : shN es i ≤ K.size := by
          by_cases h4 : i % 4 = 0
          · rw [HS4.out i h4]; omega
          · obtain ⟨K0, m, -, -, -, hsh⟩ := HSH.out h4
            have := shr_le2 K0.data.toList K.data.toList
            rw [← hsh, len_data'] at this
            exact this
        obtain ⟨SH, hSH⟩ : ∃ SH, shN es i = SH := ⟨_, rfl⟩
        rw [hSH] at hshK HBN ⊢
        obtain ⟨K2, hK2⟩ : ∃ K2, K.extract SH K.size = K2 := ⟨_, rfl⟩
        have hK2d : K2.data.toList = K.data.toList.drop SH := by rw [← hK2, drop_str]
        have hK2s : K2.size = K.size - SH := by rw [← len_data', hK2d, List.length_drop, len_data']
        have HEB := Lib.hid (entB_eq SH K sq nn U K2 hK2d hK2s)
        have gC : GB wc b (off + i * 4) K sq nn U (.slice av Bi.length cv) Bi wc := ⟨HROW.out.kept fun k hk => hbx.block k (HROW.out.lt k hk), ⟨kkB hbx q0, kkB hbx q1, kkB hbx q2, kkB hbx q3⟩, Below.refl _ _⟩
        have gD := gC.drew
        have C1 := Lib.hid (fun W => refVar_any SH (by omega) W)
        have C2 := Lib.hid (fun W => refText_any K2 W (by omega))
        have C3 := Lib.hid (vars2B sq nn hsq (by omega))
        have C4 := Lib.hid (fun W => refText_any U W (by omega))
        have l1 := uv_len SH (by omega)
        have l2 := uv_len K2.size (by omega)
        have l3 := vars_length [sq, nn] (by simp; omega)
        have l4 := uv_len U.size (by omega)
        simp only [List.length_cons, List.length_nil] at l3
        obtain ⟨A1, hA1⟩ : ∃ A : ByteArray, ⟨(Lib.uvarint SH).toArray⟩ = A := ⟨_, rfl⟩
        obtain ⟨A2, hA2⟩ : ∃ A : ByteArray, ⟨(Lib.uvarint K2.size ++ K2.data.toList).toArray⟩ = A := ⟨_, rfl⟩
        obtain ⟨A3, hA3⟩ : ∃ A : ByteArray, ⟨(vars [sq, nn]).toArray⟩ = A := ⟨_, rfl⟩
        obtain ⟨A4, hA4⟩ : ∃ A : ByteArray, ⟨(Lib.uvarint U.size ++ U.data.toList).toArray⟩ = A := ⟨_, rfl⟩
        have s1 : A1.size ≤ 10 := by rw [← hA1]; show (Lib.uvarint SH).toArray.size ≤ 10; rw [List.size_toArray]; exact l1
        have s2 : A2.size ≤ 10 + K2.size := by rw [← hA2]; show (Lib.uvarint K2.size ++ K2.data.toList).toArray.size ≤ _; rw [List.size_toArray, List.length_append, len_data']; omega
        have s3 : A3.size ≤ 20 := by rw [← hA3]; show (vars [sq, nn]).toArray.size ≤ 20; rw [List.size_toArray]; omega
        have s4 : A4.size ≤ 10 + U.size := by rw [← hA4]; show (Lib.uvarint U.size ++ U.data.toList).toArray.size ≤ _; rw [List.size_toArray, List.length_append, len_data']; omega
        have HX : Hid ((A1 ++ A2 ++ A3 ++ A4).data.toList = entB SH ⟨K, (sq : Int), (nn : Int), U⟩) := by
          show _ = _
          rw [HEB.out, ← hA1, ← hA2, ← hA3, ← hA4]
          simp
        rw [hA1] at C1
        rw [hA2] at C2
        rw [hA3] at C3
        rw [hA4] at C4
        clear hA1 hA2 hA3 hA4 l1 l2 l3 l4 HEB
        have j1 : ∀ w, (Op.stringOp .add A1 A2).run Tryz.prog w = .ok (.string (A1 ++ A2)) w := fun w => run_string_add_sum w _ _ (by omega)
        have e1 : (A1 ++ A2).size = A1.size + A2.size := by simp
        have j2 : ∀ w, (Op.stringOp .add (A1 ++ A2) A3).run Tryz.prog w = .ok (.string (A1 ++ A2 ++ A3)) w := fun w => run_string_add_sum w _ _ (by omega)
        have e2 : (A1 ++ A2 ++ A3).size = A1.size + A2.size + A3.size := by simp
        have j3 : ∀ w, (Op.stringOp .add (A1 ++ A2 ++ A3) A4).run Tryz.prog w = .ok (.string (A1 ++ A2 ++ A3 ++ A4)) w := fun w => run_string_add_sum w _ _ (by omega)
        have e3 : (A1 ++ A2 ++ A3 ++ A4).size = A1.size + A2.size + A3.size + A4.size := by simp
        generalize hB1 : A1 ++ A2 = B1 at j1 j2 j3 e1 e2 e3 HX
        generalize hB2 : B1 ++ A3 = B2 at j2 j3 e2 e3 HX
        generalize hB3 : B2 ++ A4 = X at j3 e3 HX
        clear hB1 hB2 hB3
        have hXs : X.size ≤ 900000 := by omega
        have HSB := Lib.hid (fun W => src_strB X W)
        have HC1 := Lib.hid (show Bi.length + X.size ≤ maxLen by unfold maxLen; omega)
        have HC2 := Lib.hid (show (Bi.length + X.size) * 1 ≤ 140737488355328 by omega)
        have hwS : IntKind.u64.wrap (SH : Int) = (SH : Int) := by rw [IntKind.wrap_u64]; omega
        have hwN : IntKind.u64.wrap (nn : Int) = (nn : Int) := by rw [IntKind.wrap_u64]; omega
        have hSHK : (SH : Int) ≤ (K.size : Int) := by omega
        have hbwc : b < wc.heap.size := World.block_lt_of_cell? wc _ (kkB hbx q0)
        have HOBX : Hid (∀ k, ob (.slice av Bi.length cv) = some k → k ≠ b) := fun k hk => by have := HOB.out k hk; omega
        have c0 := kkB hbx q0
        have c1 := kkB hbx q1
        have c2 := kkB hbx q2
        have c3 := kkB hbx q3
        have HBW : Hid (Below w.heap.size w wc) := HBL.out.trans (hbx.mono HBL.out.size)
        clear HBLen HSZ HSH HS4 HROW HORD q0 q1 q2 q3 hK2d HT HTN HBL hbx hSH
        go_wp2_with fail
        try simp only [List.append_eq, List.cons_append, List.nil_append]
        go_region_held3 (fun w' => w'.cell? ⟨b, off + i * 4, none⟩ = some (.string K) ∧ w'.cell? ⟨b, off + i * 4 + 1, none⟩ = some (.int .u64 (sq : Int)) ∧ w'.cell? ⟨b, off + i * 4 + 2, none⟩ = some (.int .i64 (nn : Int)) ∧ w'.cell? ⟨b, off + i * 4 + 3, none⟩ = some (.string U))
          (first | assumption | with_reducible exact gD.q | with_reducible exact g6.q | with_reducible exact g7.q | with_reducible exact g8.q | with_reducible exact g9.q | with_reducible exact (gD.alloc _).q | with_reducible exact (gC.alloc _).q | with_reducible exact (gC.alloc _).drew.q | with_reducible exact (g6.alloc _).q | with_reducible exact (g7.alloc _).q | with_reducible exact lq | go_keep)
          (first
          | (go_at_call 56; (with_reducible refine (C1.out _).mono ?_); rintro e w6 ⟨rfl, b6⟩; have g6 : GB wc b (off + i * 4) K sq nn U (.slice av Bi.length cv) Bi w6 := by first | with_reducible exact gD.below b6 | with_reducible exact (gD.alloc _).below b6 | with_reducible exact ((gC.alloc _).drew).below b6)
          | (go_at_call 52; (with_reducible refine (C2.out _).mono ?_); rintro e w7 ⟨rfl, b7⟩; have g7 : GB wc b (off + i * 4) K sq nn U (.slice av Bi.length cv) Bi w7 := by first | with_reducible exact g6.below b7 | with_reducible exact (g6.alloc _).below b7)
          | (go_at_call 53; (with_reducible refine (C3.out _ _ ?hca ?hda).mono ?_); (case hca => (repeat (first | with_reducible exact nlist0 (by first | rfl | (simp; done)) | with_reducible refine kkB b7 ?_ | with_reducible refine kkB b6 ?_ | with_reducible refine drcB ?_)); done); (case hda => (repeat (first | with_reducible exact nlist1 (by first | rfl | (simp; done)) | with_reducible refine kkB b7 ?_ | with_reducible refine kkB b6 ?_ | with_reducible refine drcB ?_)); done); rintro e w8 ⟨rfl, b8⟩; have g8 : GB wc b (off + i * 4) K sq nn U (.slice av Bi.length cv) Bi w8 := by first | with_reducible exact g7.below b8 | with_reducible exact (g7.alloc _).below b8)
          | (go_at_call 53; (with_reducible refine (C3.out _ _ ?hcb ?hdb).mono ?_); (case hcb => (repeat (first | with_reducible exact nlist0 (by first | rfl | (simp; done)) | with_reducible refine kkB b7 ?_ | with_reducible refine kkB b6 ?_ | with_reducible refine drcB ?_)); done); (case hdb => (repeat (first | with_reducible exact nlist1 (by first | rfl | (simp; done)) | with_reducible refine kkB b7 ?_ | with_reducible refine kkB b6 ?_ | with_reducible refine drcB ?_)); done); rintro e w8 ⟨rfl, b8⟩; have g8 : GB wc b (off + i * 4) K sq nn U (.slice av Bi.length cv) Bi w8 := by first | with_reducible exact g7.below b8 | with_reducible exact (g7.alloc _).below b8)
          | (go_at_call 53; (with_reducible refine (C3.out _ _ ?hcc ?hdc).mono ?_); (case hcc => (repeat (first | with_reducible exact nlist0 (by first | rfl | (simp; done)) | with_reducible refine kkB b7 ?_ | with_reducible refine kkB b6 ?_ | with_reducible refine drcB ?_)); done); (case hdc => (repeat (first | with_reducible exact nlist1 (by first | rfl | (simp; done)) | with_reducible refine kkB b7 ?_ | with_reducible refine kkB b6 ?_ | with_reducible refine drcB ?_)); done); rintro e w8 ⟨rfl, b8⟩; have g8 : GB wc b (off + i * 4) K sq nn U (.slice av Bi.length cv) Bi w8 := by first | with_reducible exact g7.below b8 | with_reducible exact (g7.alloc _).below b8)
          | (go_at_call 53; (with_reducible refine (C3.out _ _ ?hcd ?hdd).mono ?_); (case hcd => (repeat (first | with_reducible exact nlist0 (by first | rfl | (simp; done)) | with_reducible refine kkB b7 ?_ | with_reducible refine kkB b6 ?_ | with_reducible refine drcB ?_)); done); (case hdd => (repeat (first | with_reducible exact nlist1 (by first | rfl | (simp; done)) | with_reducible refine kkB b7 ?_ | with_reducible refine kkB b6 ?_ | with_reducible refine drcB ?_)); done); rintro e w8 ⟨rfl, b8⟩; have g8 : GB wc b (off + i * 4) K sq nn U (.slice av Bi.length cv) Bi w8 := by first | with_reducible exact g7.below b8 | with_reducible exact (g7.alloc _).below b8)
          | (go_at_call 53; (with_reducible refine (C3.out _ _ ?hce ?hde).mono ?_); (case hce => (repeat (first | with_reducible exact nlist0 (by first | rfl | (simp; done)) | with_reducible refine kkB b7 ?_ | with_reducible refine kkB b6 ?_ | with_reducible refine drcB ?_)); done); (case hde => (repeat (first | with_reducible exact nlist1 (by first | rfl | (simp; done)) | with_reducible refine kkB b7 ?_ | with_reducible refine kkB b6 ?_ | with_reducible refine drcB ?_)); done); rintro e w8 ⟨rfl, b8⟩; have g8 : GB wc b (off + i * 4) K sq nn U (.slice av Bi.length cv) Bi w8 := by first | with_reducible exact g7.below b8 | with_reducible exact (g7.alloc _).below b8)
          | (go_at_call 53; (with_reducible refine (C3.out _ _ ?hcf ?hdf).mono ?_); (case hcf => (repeat (first | with_reducible exact nlist0 (by first | rfl | (simp; done)) | with_reducible refine kkB b7 ?_ | with_reducible refine kkB b6 ?_ | with_reducible refine drcB ?_)); done); (case hdf => (repeat (first | with_reducible exact nlist1 (by first | rfl | (simp; done)) | with_reducible refine kkB b7 ?_ | with_reducible refine kkB b6 ?_ | with_reducible refine drcB ?_)); done); rintro e w8 ⟨rfl, b8⟩; have g8 : GB wc b (off + i * 4) K sq nn U (.slice av Bi.length cv) Bi w8 := by first | with_reducible exact g7.below b8 | with_reducible exact (g7.alloc _).below b8)
          | (go_at_call 52; (with_reducible refine (C4.out _).mono ?_); rintro e w9 ⟨rfl, b9⟩; have g9 : GB wc b (off + i * 4) K sq nn U (.slice av Bi.length cv) Bi w9 := g8.below b9)
          | (refine step_append_row (P := Tryz.prog) w9 ?hga (.tmp 49) (.tmp 82) 90 9 ?hoa 5 i0 _ 1 1 Tryz.underlying90 hi hz0 hzs hzb rfl (.slice av Bi.length cv) _ _ ?hva g9.row (.string X) ?hxa X.size _ (HSB.out _) HC1.out HC2.out ?hka; (case hga => rfl); (case hoa => rfl); (case hva => rfl); (case hxa => rfl); intro v' wz hrowz hgrowz hobz; have lk : ∀ j u, w9.cell? ⟨b, j, none⟩ = some u → wz.cell? ⟨b, j, none⟩ = some u := fun j u h => (World.cell?_of_block (hgrowz.block b (World.block_lt_of_cell? w9 _ h) (fun e => HOBX.out _ e.symm rfl))).trans h; have lq := And.intro (lk _ _ g9.q.1) (And.intro (lk _ _ g9.q.2.1) (And.intro (lk _ _ g9.q.2.2.1) (lk _ _ g9.q.2.2.2))))
          | (refine step_append_row (P := Tryz.prog) w9 ?hgb (.tmp 49) (.tmp 82) 90 9 ?hob 5 i0 _ 1 1 Tryz.underlying90 hi hz0 hzs hzb rfl (.slice av Bi.length cv) _ _ ?hvb g9.row (.string X) ?hxb X.size _ (HSB.out _) HC1.out HC2.out ?hkb; (case hgb => rfl); (case hob => rfl); (case hvb => rfl); (case hxb => rfl); intro v' wz hrowz hgrowz hobz; have lk : ∀ j u, w9.cell? ⟨b, j, none⟩ = some u → wz.cell? ⟨b, j, none⟩ = some u := fun j u h => (World.cell?_of_block (hgrowz.block b (World.block_lt_of_cell? w9 _ h) (fun e => HOBX.out _ e.symm rfl))).trans h; have lq := And.intro (lk _ _ g9.q.1) (And.intro (lk _ _ g9.q.2.1) (And.intro (lk _ _ g9.q.2.2.1) (lk _ _ g9.q.2.2.2))))
          | (refine step_append_row (P := Tryz.prog) w9 ?hgc (.tmp 49) (.tmp 82) 90 9 ?hoc 5 i0 _ 1 1 Tryz.underlying90 hi hz0 hzs hzb rfl (.slice av Bi.length cv) _ _ ?hvc g9.row (.string X) ?hxc X.size _ (HSB.out _) HC1.out HC2.out ?hkc; (case hgc => rfl); (case hoc => rfl); (case hvc => rfl); (case hxc => rfl); intro v' wz hrowz hgrowz hobz; have lk : ∀ j u, w9.cell? ⟨b, j, none⟩ = some u → wz.cell? ⟨b, j, none⟩ = some u := fun j u h => (World.cell?_of_block (hgrowz.block b (World.block_lt_of_cell? w9 _ h) (fun e => HOBX.out _ e.symm rfl))).trans h; have lq := And.intro (lk _ _ g9.q.1) (And.intro (lk _ _ g9.q.2.1) (And.intro (lk _ _ g9.q.2.2.1) (lk _ _ g9.q.2.2.2))))
          | (refine step_append_row (P := Tryz.prog) w9 ?hgd (.tmp 49) (.tmp 82) 90 9 ?hod 5 i0 _ 1 1 Tryz.underlying90 hi hz0 hzs hzb rfl (.slice av Bi.length cv) _ _ ?hvd g9.row (.string X) ?hxd X.size _ (HSB.out _) HC1.out HC2.out ?hkd; (case hgd => rfl); (case hod => rfl); (case hvd => rfl); (case hxd => rfl); intro v' wz hrowz hgrowz hobz; have lk : ∀ j u, w9.cell? ⟨b, j, none⟩ = some u → wz.cell? ⟨b, j, none⟩ = some u := fun j u h => (World.cell?_of_block (hgrowz.block b (World.block_lt_of_cell? w9 _ h) (fun e => HOBX.out _ e.symm rfl))).trans h; have lq := And.intro (lk _ _ g9.q.1) (And.intro (lk _ _ g9.q.2.1) (And.intro (lk _ _ g9.q.2.2.1) (lk _ _ g9.q.2.2.2))))
          | (refine step_append_row (P := Tryz.prog) w9 ?hge (.tmp 49) (.tmp 82) 90 9 ?hoe 5 i0 _ 1 1 Tryz.underlying90 hi hz0 hzs hzb rfl (.slice av Bi.length cv) _ _ ?hve g9.row (.string X) ?hxe X.size _ (HSB.out _) HC1.out HC2.out ?hke; (case hge => rfl); (case hoe => rfl); (case hve => rfl); (case hxe => rfl); intro v' wz hrowz hgrowz hobz; have lk : ∀ j u, w9.cell? ⟨b, j, none⟩ = some u → wz.cell? ⟨b, j, none⟩ = some u := fun j u h => (World.cell?_of_block (hgrowz.block b (World.block_lt_of_cell? w9 _ h) (fun e => HOBX.out _ e.symm rfl))).trans h; have lq := And.intro (lk _ _ g9.q.1) (And.intro (lk _ _ g9.q.2.1) (And.intro (lk _ _ g9.q.2.2.1) (lk _ _ g9.q.2.2.2))))
          | (refine step_append_row (P := Tryz.prog) w9 ?hgf (.tmp 49) (.tmp 82) 90 9 ?hof 5 i0 _ 1 1 Tryz.underlying90 hi hz0 hzs hzb rfl (.slice av Bi.length cv) _ _ ?hvf g9.row (.string X) ?hxf X.size _ (HSB.out _) HC1.out HC2.out ?hkf; (case hgf => rfl); (case hof => rfl); (case hvf => rfl); (case hxf => rfl); intro v' wz hrowz hgrowz hobz; have lk : ∀ j u, w9.cell? ⟨b, j, none⟩ = some u → wz.cell? ⟨b, j, none⟩ = some u := fun j u h => (World.cell?_of_block (hgrowz.block b (World.block_lt_of_cell? w9 _ h) (fun e => HOBX.out _ e.symm rfl))).trans h; have lq := And.intro (lk _ _ g9.q.1) (And.intro (lk _ _ g9.q.2.1) (And.intro (lk _ _ g9.q.2.2.1) (lk _ _ g9.q.2.2.2))))
          | fail)
        all_goals
          have HRZ := Lib.hid (show Row wz 5 1 v' (bodyB es (i + 1)).length (Lib.byteCells (bodyB es (i + 1))) by rw [HBN.out, ← HX.out, List.length_append, len_data', Lib.byteCells_append]; exact hrowz)
          have HBZ := Lib.hid (show Below w.heap.size w wz from (HBW.out.trans (g9.bel.mono HBW.out.size)).trans ((turn_of_grown (F := (ob (.slice av Bi.length cv)).toList) hgrowz (fun k hk => .inl (by simp [hk]))).below (Nat.le_trans HBW.out.size g9.bel.size) (fun k hk => HOB.out k (by simpa using hk))))
          have HOZ := Lib.hid (show ∀ k, ob v' = some k → w.heap.size ≤ k from fun k hk => by
            rcases hobz with e | ⟨e, -⟩
            · exact HOB.out k (by rw [← e]; exact hk)
            · rw [e] at hk
              cases hk
              exact Nat.le_trans HBW.out.size g9.bel.size)
          obtain ⟨az, cz, rfl, -, -⟩ := hrowz.le
          clear hrowz hgrowz hobz gC gD g6 g7 g8 g9 b6 b7 b8 b9 lk lq c0 c1 c2 c3
        all_goals go_wp2
        all_goals go_roundw
        all_goals first
          | exact ⟨i + 1, _, T', by go_num, rfl, rfl, by first | rfl | (simp; done) | (congr 1; omega), by omega, HRZ.out, HOZ.out, HT', HBZ.out⟩
          | (simp [intOf]; omega)
    · obtain rfl : i = len := by omega
      have hbi := HBLen.out i (by omega)
      have hsi := HSZ.out i
      have hbLen : (bodyB es i).length ≤ 930000 := by omega
      have htl := tailB_len es i
      have hTl : T.size ≤ 20000 := by rw [← len_data', HT.out]; omega
      have HCV := Lib.hid (fun (W : World) (hb : Below wr.heap.size wr W) => conv_rowB (hrow.kept fun k hk => hb.block k (hrow.lt k hk)))
      obtain ⟨av, cv, rfl, -, -⟩ := hrow.le
      have hcnt : (i + 3) / 4 < 4294967296 := by omega
      have CF := Lib.hid (fun W => refFix_ok ((i + 3) / 4) 4 W (by omega) (by omega) (by omega) (by omega))
      rw [show ((4 : Nat) : Int) = 4 from rfl] at CF
      obtain ⟨FX, hFX⟩ : ∃ FX : ByteArray, ⟨(be ((i + 3) / 4) 4).toArray⟩ = FX := ⟨_, rfl⟩
      have hFs : FX.size = 4 := by rw [← hFX]; show (be ((i + 3) / 4) 4).toArray.size = 4; rw [List.size_toArray, be_length]
      have hFd : FX.data.toList = be ((i + 3) / 4) 4 := by rw [← hFX]
      rw [hFX] at CF
      obtain ⟨BX, hBX⟩ : ∃ BX : ByteArray, ⟨(bodyB es i).toArray⟩ = BX := ⟨_, rfl⟩
      have hBs : BX.size = (bodyB es i).length := by rw [← hBX]; show (bodyB es i).toArray.size = _; rw [List.size_toArray]
      have hBd : BX.data.toList = bodyB es i := by rw [← hBX]
      rw [hBX] at HCV
      have e1 : (BX ++ T).size = BX.size + T.size := by simp
      have e2 : (BX ++ T ++ FX).size = BX.size + T.size + FX.size := by simp
      have CS := Lib.hid (fun W => refSeal_any (BX ++ T ++ FX) W (by omega))
      have HD : Hid (sealF (BX ++ T ++ FX).data.toList = blkB es) := by
        show _ = _
        unfold blkB
        rw [hll, ← hBd, ← HT.out, ← hFd]
        simp
      rw [HD.out] at CS
      generalize hB1 : BX ++ T = B1 at e1 e2 CS
      generalize hB2 : B1 ++ FX = B2 at e2 CS
      have j1 : ¬ (9223372036854775807 < BX.size + T.size) := by omega
      have j2 : ¬ (9223372036854775807 < B1.size + FX.size) := by omega
      obtain ⟨cnt, hcn⟩ : ∃ cnt, (i + 3) / 4 = cnt := ⟨_, rfl⟩
      rw [hcn] at CF hcnt
      have hwc : IntKind.u64.wrap (cnt : Int) = (cnt : Int) := by rw [IntKind.wrap_u64]; omega
      have HBL := Lib.hid hbl
      have hcnI : ((i : Int) + 3) / 4 = (cnt : Int) := by omega
      clear hFX hBX hFd hBd hrow hob hbl HBLen HSZ HE HOK HORD hbi hsi htl HD
      go_wp2_with (fail)
      go_at_call 57
      refine (CF.out _).mono ?_
      rintro _ w2 ⟨rfl, b2⟩
      have hcv := HCV.out w2 b2
      go_wp2_with (go_at_call 55; refine (CS.out _).mono ?_; rintro _ w3 ⟨rfl, b3⟩)
      go_ret2
      exact ⟨rfl, (HBL.out.trans (b2.mono HBL.out.size)).trans (b3.mono (Nat.le_trans HBL.out.size b2.size))⟩
/-- What PutBlock tells. -/
def putBV (es : List Ent) : Value := if ordB es es.length then .tuple #[.string ⟨(blkB es).toArray⟩, .int .i64 0] else .tuple #[.string ⟨#[]⟩, .int .i64 1]
theorem rput_any {w : World} (a : Option Addr) (len cap : Nat) (es : List Ent) (hE : EntsAt w.heap.size w a len es) (hlm : len ≤ 2000) (hok : ∀ x ∈ es, x.Ok) (hsz : sizeEs es ≤ 800000) :
    Calls Tryz.prog 51 #[.slice a len cap] w fun e w' => e = .returned (putBV es) ∧ Below w.heap.size w w' := by
  unfold putBV
  rw [hE.1]
  cases ho : ordB es len with
  | false => exact rput_no a len cap es hE hlm hok ho
  | true => exact rput_yes a len cap es hE hlm hok hsz ho
end Go.Proofs.YthaalhigmihijacGreat
