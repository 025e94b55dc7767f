/- The document's own answers of chapter 3: Crc, Frame, Scan, Seal, Open: what each returns; and the statements' joined. -/
import Derived.Test.YtgoehmmmajdenaaGreatS5
import Derived.Test.YtgoehmmmajdenaaGreatQ1
import Derived.Deep.RegionHeld3
import Derived.Lib.AppendStr
namespace Go.Proofs.YtgoehmmmajdenaaGreat
open Go.RowKit

theorem reffix4_ok (v : Nat) (w : World) (hv : v < 4294967296) :
    Calls Tryz.prog 33 #[.int .u64 v, .int .i64 4] w fun e w' => e = .returned (.string ⟨(be v 4).toArray⟩) ∧ Below w.heap.size w w' := by
  go_enter Tryz.func33, Tryz.ntmps33
  go_wp2_with (go_at_call 95; refine (refFix_ok v 4 _ (by omega) (by omega) (by omega) (by omega)).mono ?_; rintro e w1 ⟨rfl, hb⟩)
  go_ret
  exact ⟨rfl, hb⟩

theorem half_odd (x : Nat) (h : x < 4294967296) (hp : x % 2 = 1) : bits .xor .u32 ((x : Int) / 2) 2197175160 = ((stir1 x : Nat) : Int) := by
  unfold stir1
  rw [if_pos hp, show ((x : Int) / 2) = ((x / 2 : Nat) : Int) by omega, show (2197175160 : Int) = ((2197175160 : Nat) : Int) from rfl, u32_xor_nat _ _ (by omega) (by omega)]
theorem half_even (x : Nat) (hp : x % 2 ≠ 1) : ((x : Int) / 2) = ((stir1 x : Nat) : Int) := by
  unfold stir1
  rw [if_neg hp, Nat.xor_zero]
  omega

theorem step_append_string {P : Program} {w : World} {ops : Array Oper} {o : Oper} {a : Act} {K : Act → World → Prop} {Q : Exit → Act → World → Prop} {E : Prop}
    (hg : o.guard = none) (sl x : Operand) (t u : TypeId) (ho : o.op = .call { callee := .builtin .append, args := #[sl, x], argTypes := #[t, u] })
    (base : Nat) (e : TypeId) (i : TypeInfo) (ht : P.underlying t = some (.slice e)) (hu : P.underlying u = some .string) (hi : P.info? e = some i) (hz : i.zero = some (.int .u8 0)) (hsize : i.size = 1) (hby : i.bytes = 1)
    (v : Value) (n : Nat) (xs : List Value) (hs : a.eval sl = v) (hown : w.ownsRow base e 1 v n xs) (s : ByteArray) (hx : a.eval x = .string s)
    (h63 : n + s.size ≤ maxLen) (hbytes : n + s.size ≤ 140737488355328) (hbase : base ≤ w.heap.size)
    (h : ∀ v' w', w'.ownsRow base e 1 v' (n + s.size) (xs ++ Lib.strCells s) → w.grownBy w' v.ownBlock → K (a.put o.dst v') w') :
    if Region.wanted o (yielded ops a.tmps) = true then Oper.wp P o a w K Q else E := by
  have hw : Region.wanted o (yielded ops a.tmps) = true := by simp [Region.wanted, hg]
  rw [if_pos hw]
  obtain ⟨v', w', hr, h2, h3, h4⟩ := Lib.run_append_own_string (P := P) w base t u o.type e i ht hu hi hz hsize hby v n xs hown s h63 hbytes hbase
  unfold Oper.wp execOp
  simp only [ho, resolve, invoke, builtin, Sem.run_bind, Sem.run_pure, Result.andThen_ok, List.map_toArray, List.map_cons, List.map_nil, hs, hx, hr]
  exact h v' w' h2 h3

set_option maxHeartbeats 1000000 in
set_option maxRecDepth 100000 in
theorem refCrc_any (s : ByteArray) (w : World) (hs : s.size ≤ 100000000) :
    Calls Tryz.prog 13 #[.string s] w fun e w' => e = .returned (.int .u32 (crc s.data.toList : Nat)) ∧ w = w' := by
  go_enter Tryz.func13, Tryz.ntmps13
  go_wp2
  go_loop [3, 4] (fun v i => ∃ (j y : Nat), j ≤ s.size ∧ i = .int .i64 j ∧ v = .int .u32 (y : Int) ∧ y < 4294967296 ∧ Hid (crcX 4294967295 (s.data.toList.take j) = y)) (fun _ i => s.size - (intOf i).toNat)
  case atStart =>
    obtain ⟨x, h1, h2, h3⟩ := crc_start
    exact ⟨0, x, Nat.zero_le _, rfl, by rw [h3], h1, h2⟩
  case round =>
    obtain ⟨j, y, hj, rfl, rfl, hY1, HY⟩ := hrel
    by_cases hjl : j < s.size
    · have HT : Hid (crcX 4294967295 (s.data.toList.take (j + 1)) = stirN 8 (y ^^^ s[j].toNat)) := by
        show _ = _
        rw [take_snoc s j hjl, crcX_snoc, HY.out]
        rfl
      have hb := s[j].toNat_lt
      have hf := u32_xor_nat y s[j].toNat hY1 (by omega)
      have hlx := xor_lt32 hY1 (show s[j].toNat < 4294967296 by omega)
      obtain ⟨z, hz⟩ : ∃ z, y ^^^ s[j].toNat = z := ⟨_, rfl⟩
      rw [hz] at HT hf hlx
      clear hz HY
      go_wp2
      go_loop [3, 5] (fun v i => ∃ (k q : Nat), k ≤ 8 ∧ i = .int .i64 k ∧ v = .int .u32 (q : Int) ∧ q < 4294967296 ∧ Hid (stirN k z = q)) (fun _ i => 8 - (intOf i).toNat)
      case atStart => exact ⟨0, z, Nat.zero_le _, rfl, rfl, hlx, rfl⟩
      case round =>
        obtain ⟨k, q, hk, rfl, rfl, hQ1, HQ⟩ := hrel
        by_cases hkl : k < 8
        · have HS : Hid (stirN (k + 1) z = stir1 q) := by show _ = _; show stir1 (stirN k z) = _; rw [HQ.out]
          have hl2 := stir1_lt hQ1
          obtain ⟨p, hp⟩ : ∃ p, stir1 q = p := ⟨_, rfl⟩
          by_cases ho : q % 2 = 1
          · have h1 := half_odd q hQ1 ho
            have h2 : ((q : Int) % 2 == 1) = true := by simp; omega
            have h3 : (q : Int) % 2 = 1 := by omega
            rw [hp] at HS hl2 h1
            clear hp HQ
            go_wp2
            go_round
            case rel => exact ⟨k + 1, p, by omega, by go_num, rfl, hl2, HS⟩
            case measure => simp [intOf]; omega
          · have h1 := half_even q ho
            have h2 : ((q : Int) % 2 == 1) = false := by simp; omega
            have h3 : (q : Int) % 2 = 0 := by omega
            rw [hp] at HS hl2 h1
            clear hp HQ
            go_wp2
            go_round
            case rel => exact ⟨k + 1, p, by omega, by go_num, rfl, hl2, HS⟩
            case measure => simp [intOf]; omega
        · have hke : k = 8 := by omega
          subst hke
          rw [HQ.out] at HT
          clear HQ
          go_wp2
          go_round
          case rel => exact ⟨j + 1, q, by omega, by go_num, rfl, hQ1, HT⟩
          case measure => simp [intOf]; omega
    · have hje : j = s.size := by omega
      have HF : Hid (bits .xor .u32 (y : Int) 4294967295 = ((crc s.data.toList : Nat) : Int)) := by
        show _ = _
        rw [xor_ones y hY1, ← HY.out, List.take_of_length_le (by rw [hje]; exact Nat.le_refl _)]
        rfl
      clear HY hje
      go_wp2
      go_ret
      exact ⟨ret_int HF.out, rfl⟩

set_option maxHeartbeats 1000000 in
set_option maxRecDepth 100000 in
theorem refSeal_any (s : ByteArray) (w : World) (h : s.size ≤ 1000000) :
    Calls Tryz.prog 19 #[.string s] w fun e w' => e = .returned (.string ⟨(sealF s.data.toList).toArray⟩) ∧ Below w.heap.size w w' := by
  have hcrc := Lib.hid (fun (w' : World) => refCrc_any s w' (by omega))
  obtain ⟨c, hc⟩ : ∃ c, c = crc s.data.toList := ⟨_, rfl⟩
  have hcl : c < 4294967296 := by rw [hc]; exact crc_lt _
  rw [← hc] at hcrc
  have hlay := Lib.hid (fun w' : World => reffix4_ok c w' hcl)
  obtain ⟨C, hC⟩ : ∃ C : ByteArray, C = ⟨(be c 4).toArray⟩ := ⟨_, rfl⟩
  have hCs : C.size = 4 := by rw [hC, be_size]
  have hCd : C.data.size = 4 := hCs
  have hsd : s.data.size ≤ 1000000 := h
  have HR : Hid (s ++ C = ⟨(sealF s.data.toList).toArray⟩) := by
    show _ = _
    rw [hC, hc]
    unfold sealF
    rw [← cat_str]
  rw [← hC] at hlay
  clear hC hc
  go_enter Tryz.func19, Tryz.ntmps19
  go_wp2_with (first | (go_at_call 13; refine (hcrc.out _).mono ?_; rintro e w1 ⟨rfl, rfl⟩) | (go_at_call 33; refine (hlay.out _).mono ?_; rintro e w2 ⟨rfl, hb2⟩))
  go_ret
  exact ⟨by rw [← HR.out]; rfl, hb2⟩

set_option maxHeartbeats 1000000 in
set_option maxRecDepth 100000 in
theorem refOpen_any (s : ByteArray) (w : World) (h : s.size ≤ 1000000) :
    Calls Tryz.prog 10 #[.string s] w fun e w' => e = .returned (openV s.data.toList) ∧ Below w.heap.size w w' := by
  have hln : s.data.toList.length = s.size := rfl
  by_cases h4 : s.size < 4
  · have hv : openV s.data.toList = .tuple #[.string ⟨#[]⟩, .int .i64 5] := by unfold openV; rw [if_pos (by exact h4)]
    rw [hv]
    go_enter Tryz.func10, Tryz.ntmps10
    go_wp2
    go_ret2
    exact ⟨rfl, Below.refl _ _⟩
  · obtain ⟨T, hT⟩ : ∃ T : ByteArray, s.extract 0 (s.size - 4) = T := ⟨_, rfl⟩
    have hTl : T.data.toList = s.data.toList.take (s.size - 4) := by rw [← hT, ext_to]
    have hTs : T.size ≤ 1000000 := by show T.data.toList.length ≤ _; rw [hTl, List.length_take]; omega
    have hse := Lib.hid (fun w' : World => refSeal_any T w' hTs)
    obtain ⟨Z, hZ⟩ : ∃ Z : ByteArray, Z = ⟨(sealF T.data.toList).toArray⟩ := ⟨_, rfl⟩
    rw [← hZ] at hse
    have hZl : Z.data.toList = sealF (s.data.toList.take (s.size - 4)) := by rw [hZ, hTl]
    have hos := open_seal s.data.toList (by omega)
    rw [hln] at hos
    have hi1 : ((s.size : Int) - 4).toNat = s.size - 4 := by omega
    by_cases hq : sealF (s.data.toList.take (s.size - 4)) = s.data.toList
    · have hZs : Z = s := by rw [arr_eq Z, arr_eq s, hZl, hq]
      have hv : openV s.data.toList = .tuple #[.string T, .int .i64 0] := by
        unfold openV
        rw [if_neg (by omega), hln, if_pos (hos.1 hq), ← hTl, ← arr_eq]
      rw [hv]
      rw [hZs] at hse
      clear hZs hZl hZ hos hv hTl hq
      go_enter Tryz.func10, Tryz.ntmps10
      go_wp2_with (go_at_call 19; refine (hse.out _).mono ?_; rintro e w1 ⟨rfl, hb1⟩)
      go_ret2
      exact ⟨rfl, hb1⟩
    · have hne : (Z.toList == s.toList) = false := by
        rw [Lib.toList_data, Lib.toList_data, hZl]
        simpa using hq
      have hv : openV s.data.toList = .tuple #[.string ⟨#[]⟩, .int .i64 6] := by
        unfold openV
        rw [if_neg (by omega), hln, if_neg (fun e => hq (hos.2 e))]
      rw [hv]
      clear hZl hZ hos hv hTl hq
      go_enter Tryz.func10, Tryz.ntmps10
      go_wp2_with (go_at_call 19; refine (hse.out _).mono ?_; rintro e w1 ⟨rfl, hb1⟩)
      go_ret2
      exact ⟨rfl, hb1⟩

set_option maxHeartbeats 2000000 in
set_option maxRecDepth 100000 in
theorem refFrame_rows (b off cap : Nat) (ss : List ByteArray) (w : World) (hb : b < w.heap.size) (hn : ss.length ≤ 100000) (ht : total ss ≤ 1000000)
    (hc : ∀ i (h : i < ss.length), w.cell? ⟨b, off + i, none⟩ = some (.string ss[i])) :
    Calls Tryz.prog 16 #[.slice (some ⟨b, off, none⟩) ss.length cap] w fun e w' => e = .returned (.string ⟨(frames (texts ss)).toArray⟩) ∧ Below w.heap.size w w' := by
  obtain ⟨i0, hi, hz0, hz1, hz2⟩ := info_parts infoByte
  have HC := Lib.hid hc
  clear hc
  go_enter Tryz.func16, Tryz.ntmps16
  go_wp2
  go_loopw [3, 4] (fun v i wr => ∃ (j : Nat) (acc : List UInt8), j ≤ ss.length ∧ i = .int .i64 j ∧ acc.length ≤ 8 * j + total ss ∧ wr.ownsRow w.heap.size 5 1 v acc.length (Lib.byteCells acc) ∧ Below w.heap.size w wr ∧ Hid (acc = frames (texts (ss.take j)))) (fun _ i _ => ss.length - (intOf i).toNat)
  case atStart => exact ⟨0, [], Nat.zero_le _, rfl, by simp, World.ownsRow_nil _ _ _ _, Below.refl _ _, rfl⟩
  case round =>
    obtain ⟨j, acc, hj, rfl, hacc, hown, hbel, HA⟩ := hrel
    by_cases hjl : j < ss.length
    · have hcx : wr.cell? ⟨b, off + j, none⟩ = some (.string ss[j]) := (hbel.cell (by exact hb)).trans (HC.out j hjl)
      have hsz : ss[j].size ≤ total ss := total_mem (List.getElem_mem hjl)
      have HSN : Hid (frames (texts (ss.take (j + 1))) = acc ++ frm ss[j].data.toList) := by
        show _ = _
        rw [List.take_succ_eq_append_getElem hjl, HA.out, texts_snoc, frames_snoc]
      have HL : Hid ((frames (texts (ss.take (j + 1)))).length ≤ 8 * (j + 1) + total ss) := by
        show _ ≤ _
        rw [frames_length, List.length_take]
        have := total_take_le ss (j + 1)
        omega
      generalize ss[j] = s at hcx hsz HSN
      have hm := Nat.mod_eq_of_lt (show s.size < 4294967296 by omega)
      have hln : s.data.toList.length = s.size := rfl
      have hlay := Lib.hid (fun w' : World => reffix4_ok s.size w' (by omega))
      obtain ⟨A, hA⟩ : ∃ A : ByteArray, A = ⟨(be s.size 4).toArray⟩ := ⟨_, rfl⟩
      have hAl : A.data.toList = be s.size 4 := by rw [hA]
      have hAs : A.size = 4 := by rw [hA, be_size]
      rw [← hA] at hlay
      obtain ⟨X, hX⟩ : ∃ X : ByteArray, A ++ s = X := ⟨_, rfl⟩
      have hXl : X.data.toList = A.data.toList ++ s.data.toList := by rw [← hX, ByteArray.data_append, Array.toList_append]
      have hXs : X.size ≤ 100000000 := by show X.data.toList.length ≤ _; rw [hXl, List.length_append]; show A.size + s.size ≤ _; omega
      have hcrc := Lib.hid (fun w' : World => refCrc_any X w' hXs)
      obtain ⟨c, hc⟩ : ∃ c, c = crc X.data.toList := ⟨_, rfl⟩
      have hcl : c < 4294967296 := by rw [hc]; exact crc_lt _
      rw [← hc] at hcrc
      have hlay2 := Lib.hid (fun w' : World => reffix4_ok c w' hcl)
      obtain ⟨C, hC⟩ : ∃ C : ByteArray, C = ⟨(be c 4).toArray⟩ := ⟨_, rfl⟩
      have hCl : C.data.toList = be c 4 := by rw [hC]
      have hCs : C.size = 4 := by rw [hC, be_size]
      rw [← hC] at hlay2
      obtain ⟨Y, hY⟩ : ∃ Y : ByteArray, A ++ C = Y := ⟨_, rfl⟩
      have hYl : Y.data.toList = A.data.toList ++ C.data.toList := by rw [← hY, ByteArray.data_append, Array.toList_append]
      have hYs : Y.size = 8 := by show Y.data.toList.length = _; rw [hYl, List.length_append]; show A.size + C.size = _; omega
      obtain ⟨Z, hZ⟩ : ∃ Z : ByteArray, Y ++ s = Z := ⟨_, rfl⟩
      have hZl : Z.data.toList = frm s.data.toList := by
        rw [← hZ, ByteArray.data_append, Array.toList_append, hYl]
        unfold frm
        rw [hln, hm, hCl, hc, hXl, hAl, List.append_assoc]
      have hZs : Z.size = 8 + s.size := by show Z.data.toList.length = _; rw [hZl, frm_length, hln]
      have HZ := Lib.hid hZl
      have hk1 : ¬ (9223372036854775807 < A.size + s.size) := by omega
      have hk2 : ¬ (9223372036854775807 < A.size + C.size) := by omega
      have hk3 : ¬ (9223372036854775807 < Y.size + s.size) := by omega
      have hmi : ((s.size : Int) % 4294967296) = (s.size : Int) := by omega
      have hblr : b < wr.heap.size := Nat.lt_of_lt_of_le hb hbel.size
      have hj0 : (j : Int) < (ss.length : Int) := by omega
      have hj1 : (0 : Int) ≤ (j : Int) := by omega
      have hcapZ : acc.length + Z.size ≤ 140737488355328 := by omega
      have hwc : IntKind.u64.wrap (c : Int) = (c : Int) := by rw [IntKind.wrap_u64]; omega
      have hmaxZ : acc.length + Z.size ≤ maxLen := by unfold maxLen; omega
      have HZS := Lib.hid hZs
      clear hZl hYl hXl hCl hAl hA hC hc hm HA hln hXs hYs hCs hAs hZs
      go_wp2_with (go_at_call 33; (with_reducible refine (hlay.out _).mono ?_); rintro e w1 ⟨rfl, hb1⟩; have hcx1 := (hb1.cell (p := ⟨b, off + j, none⟩) hblr).trans hcx; have hown1 := World.ownsRow.kept (row := none) hown ⟨hb1.os, hb1.tape, hb1.output, hb1.size, fun k hk _ => hb1.block k hk⟩ (Classical.em _); have hbel1 : Below w.heap.size w w1 := hbel.trans (hb1.mono hbel.size))
      have hbl1 : b < w1.heap.size := Nat.lt_of_lt_of_le hblr hb1.size
      go_region_held3 (fun w' => w'.cell? ⟨b, off + j, none⟩ = some (.string s)) (go_keep) (first | (go_at_call 13; refine (hcrc.out _).mono ?_; rintro e w2 ⟨rfl, rfl⟩) | (go_at_call 33; (with_reducible refine (hlay2.out _).mono ?_); rintro e w2 ⟨rfl, hb2⟩; have hcx2 := (hb2.cell (p := ⟨b, off + j, none⟩) hbl1).trans hcx1; have hown2 := World.ownsRow.kept (row := none) hown1.drew ⟨hb2.os, hb2.tape, hb2.output, hb2.size, fun k hk _ => hb2.block k hk⟩ (Classical.em _); have hbel2 : Below w.heap.size w w2 := hbel1.drew.trans (hb2.mono hbel1.size)) | ((refine step_append_string (by rfl) (.tmp 20) (.tmp 36) 65 9 (by rfl) w.heap.size 5 i0 Tryz.underlying65 Tryz.underlying9 hi hz0 hz1 hz2 _ _ _ (by rfl) hown2 Z (by rfl) hmaxZ hcapZ hbel2.size ?_; intro v3 w3 hown3 hgrow3; have hbel3 : Below w.heap.size w w3 := hbel2.grown hgrow3 hbel2.size (fun k hk => (hown2.lt k hk).1); have hcx3 : w3.cell? ⟨b, off + j, none⟩ = some (.string s) := (hbel3.cell (by exact hb)).trans ((hbel.cell (by exact hb)).symm.trans hcx); clear hgrow3)) | fail)
      go_wp2
      go_roundw
      case rel =>
        refine ⟨j + 1, acc ++ Z.data.toList, by omega, by go_num, ?_, ?_, hbel3, ?_⟩
        · rw [HZ.out, ← HSN.out]; exact HL.out
        · rw [Lib.byteCells_append, List.length_append]
          exact hown3
        · show _ = _; rw [HSN.out, HZ.out]
      case measure => simp [intOf]; omega
    · have hje : j = ss.length := by omega
      have HF : Hid (acc = frames (texts ss)) := by show _ = _; rw [HA.out, hje, List.take_length]
      have hcv := conv_own hown rfl
      clear HA hje
      go_wp2
      go_ret
      have hf := HF.out
      subst hf
      exact ⟨rfl, hbel⟩
end Go.Proofs.YtgoehmmmajdenaaGreat
