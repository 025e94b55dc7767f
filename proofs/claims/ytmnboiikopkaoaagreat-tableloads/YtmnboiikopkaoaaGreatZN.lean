/- The program: num.Var, Text, Unfix and the readers. -/
import Derived.Test.YtmnboiikopkaoaaGreatRA
import Derived.Test.YtmnboiikopkaoaaGreatZS
import Derived.Test.YtmnboiikopkaoaaGreatShelf
import Derived.Test.YtmnboiikopkaoaaGreatRows
import Derived.WalkKit
import Derived.OwnWalk
import Derived.WalkSpells
import Derived.WalkLawsBesides
import Derived.BigCall
import Derived.Laws.IdiomStrings
import Derived.Laws.BitsAllLaws
import Derived.Lib.VarintMem
import Derived.Lib.Zigzag
import Derived.Lib.VarintDec
import Derived.Lib.Slices
import Derived.Outline
import Derived.Lib.BufferRead
import Derived.Lib.Hide
import Derived.Lib.AppendIntMem
import Derived.Lib.ItoaLen
import Derived.Lib.VarintBits
import Derived.BigQuiet
import Derived.Deep.QuietTactic
import Derived.Deep.RegionWith
import Derived.ProofKit
import Derived.SliceStrings
import Derived.OpenShut
import Derived.Lib.AppendStr
namespace Go.Proofs.YtmnboiikopkaoaaGreat
open Go.RowKit
open Go.RowKit Go.ChangeShapes Go.WideShapes Go.ChangeAt

theorem infoByteN : (Tryz.prog.info? 5).map (fun i => (i.zero, i.size, i.bytes)) = some (some (.int .u8 0), 1, 1) := by kernel_rfl
set_option maxHeartbeats 1000000 in
set_option maxRecDepth 100000 in
theorem appendVar_any (B n x : Nat) (hx : x < 18446744073709551616) (sv : Value) (xs : List Value) (w : World) (hown : w.ownsRow B 5 1 sv n xs) (hBw : B ≤ w.heap.size) (hlim : n + 10 ≤ 140737488355328) :
    Calls Tryz.prog 72 #[sv, .int .u64 x] w fun e w' => ∃ v', e = .returned v' ∧ w'.ownsRow B 5 1 v' (n + (Lib.uvarint x).length) (xs ++ Lib.byteCells (Lib.uvarint x)) ∧ Below B w w' := by
  obtain ⟨i0, hi, hz0, hz1, hz2⟩ := info_parts infoByteN
  have hlen := Lib.uvarint_length64 hx
  go_enter Tryz.func72, Tryz.ntmps72
  go_wp2
  go_loopw [0, 1] (fun vb vx wr => ∃ (y : Nat) (pre : List UInt8), vx = .int .u64 y ∧ y ≤ x ∧ Lib.uvarint x = pre ++ Lib.uvarint y ∧ wr.ownsRow B 5 1 vb (n + pre.length) (xs ++ Lib.byteCells pre) ∧ Below B w wr)
    (fun _ vx _ => (intOf vx).toNat)
  case atStart => exact ⟨x, [], rfl, Nat.le_refl _, rfl, by simpa [Lib.byteCells] using hown, Below.refl _ _⟩
  case round =>
    obtain ⟨y, pre, rfl, hy, hsplit, hown1, hnx⟩ := hrel
    have hpl : pre.length + (Lib.uvarint y).length ≤ 10 := by
      have h2 := congrArg List.length hsplit
      rw [List.length_append] at h2
      omega
    have hyp := Lib.uvarint_pos y
    by_cases h128 : 128 ≤ y
    · have hor : bits .or .u8 ((y : Int) % 256) 128 = ((y % 128 + 128 : Nat) : Int) := by
        rw [Lib.u8_or128_any _ (by omega) (by omega)]
        omega
      go_wp2_with (at_builtin; refine wpList_append_own _ rfl _ _ 78 rfl B 5 i0 (.int .u8 0) 1 1 Tryz.underlying78 hi hz0 hz1 hz2 rfl (by decide) _ _ _ rfl (hown1.alloc _) ⟨wr.heap.size, 0, none⟩ 1 1 [Value.int .u8 ((y % 128 + 128 : Nat) : Int)] rfl rfl ?c1 ?c2 ?c3 ?c4 ?c5 ?_)
      case c1 =>
        intro j u hj
        match j, hj with
        | 0, hj => simp at hj; subst hj; simp [Addr.add]
      case c2 => intro u hu; simp at hu; subst hu; rfl
      case c3 => unfold maxLen; omega
      case c4 => omega
      case c5 => have := hnx.size; simp; omega
      intro v' w1 hown' hgrow _
      have hnx1 : Below B w w1 := (hnx.alloc (by have := hnx.size; omega) _).grown hgrow (by have := hnx.size; simp; omega) (fun k hk => (hown1.lt k hk).1)
      go_wp2
      go_roundw
      case rel =>
        refine ⟨y / 128, pre ++ [(y % 128 + 128).toUInt8], by go_num, by omega, by rw [hsplit, Lib.uvarint_big h128]; simp, ?_, hnx1⟩
        have ec : ((y % 128 + 128 : Nat) : Int) = (y : Int) % 128 + 128 := by omega
        rw [Lib.byteCells_snoc pre (by omega), List.length_append, List.length_singleton, ← Nat.add_assoc, ec]
        simpa using hown'
      case measure => simp [intOf]; omega
    · have hsm : Lib.uvarint y = [y.toUInt8] := Lib.uvarint_small (by omega)
      go_wp2_with (at_builtin; refine wpList_append_own _ rfl _ _ 78 rfl B 5 i0 (.int .u8 0) 1 1 Tryz.underlying78 hi hz0 hz1 hz2 rfl (by decide) _ _ _ rfl (hown1.alloc _) ⟨wr.heap.size, 0, none⟩ 1 1 [Value.int .u8 (y : Int)] rfl rfl ?c1 ?c2 ?c3 ?c4 ?c5 ?_)
      case c1 =>
        intro j u hj
        match j, hj with
        | 0, hj => simp at hj; subst hj; simp [Addr.add]
      case c2 => intro u hu; simp at hu; subst hu; rfl
      case c3 => unfold maxLen; omega
      case c4 => omega
      case c5 => have := hnx.size; simp; omega
      intro v' w1 hown' hgrow _
      have hnx1 : Below B w w1 := (hnx.alloc (by have := hnx.size; omega) _).grown hgrow (by have := hnx.size; simp; omega) (fun k hk => (hown1.lt k hk).1)
      go_wp2
      go_ret
      refine ⟨v', rfl, ?_, hnx1⟩
      have el : n + (Lib.uvarint x).length = n + pre.length + 1 := by rw [hsplit, hsm]; simp; omega
      have ex : xs ++ Lib.byteCells (Lib.uvarint x) = xs ++ (Lib.byteCells pre ++ [Value.int .u8 (y : Int)]) := by
        rw [hsplit, hsm, Lib.byteCells_snoc pre (by omega)]
      rw [el, ex]
      exact hown'
theorem conv_ownN {w : World} {B : Nat} {v : Value} {l : List UInt8} {n : Nat} (h : w.ownsRow B 5 1 v n (Lib.byteCells l)) (hn : n = l.length) :
    (convert 78 9 v).run Tryz.prog w = .ok (.string ⟨l.toArray⟩) w := by
  subst hn
  rcases h.2 with ⟨rfl, h0⟩ | ⟨g, cap, cur, rfl, -, -, -, -, -, -⟩
  · have hl : l = [] := List.eq_nil_of_length_eq_zero h0
    subst hl
    rw [Lib.run_convert_nil_bytes w 78 9 5 0 Tryz.underlying78 Tryz.underlying5 Tryz.underlying9]
  · exact run_convert_bytes_back (P := Tryz.prog) w 78 9 5 ⟨g, 0, none⟩ cap l Tryz.underlying78 Tryz.underlying5 Tryz.underlying9 (fun j hj => h.cells (g := g) rfl j _ (by simp [Lib.byteCells, hj]))
set_option maxHeartbeats 1000000 in
set_option maxRecDepth 100000 in
theorem var_any (b off cap : Nat) (zs : List Nat) (w : World) (hr : ∀ z ∈ zs, z < 18446744073709551616) (hlim : 10 * zs.length + 10 ≤ 140737488355328)
    (hc : ∀ i (h : i < zs.length), w.cell? ⟨b, off + i, none⟩ = some (.int .u64 (zs[i] : Int))) (hb : b < w.heap.size) :
    Calls Tryz.prog 38 #[.slice (some ⟨b, off, none⟩) zs.length cap] w fun e w' => e = .returned (.string ⟨(vars zs).toArray⟩) ∧ Below w.heap.size w w' := by
  go_enter Tryz.func38, Tryz.ntmps38
  go_wp2
  go_loopw [3, 8] (fun vb i wr => ∃ k : Nat, k ≤ zs.length ∧ i = .int .i64 k ∧ wr.ownsRow w.heap.size 5 1 vb (vars (zs.take k)).length (Lib.byteCells (vars (zs.take k))) ∧ Below w.heap.size w wr)
    (fun _ i _ => zs.length - (intOf i).toNat)
  case atStart => exact ⟨0, Nat.zero_le _, rfl, by simpa [vars, Lib.byteCells] using World.ownsRow_nil w _ _ _, Below.refl _ _⟩
  case round =>
    obtain ⟨k, hk, rfl, hown, hnx⟩ := hrel
    by_cases hlt : k < zs.length
    · have hcx : wr.cell? ⟨b, off + k, none⟩ = some (.int .u64 (zs[k] : Int)) := (hnx.cell (by exact hb)).trans (hc k hlt)
      have hl1 := vars_length (zs.take k) (fun z hz => hr z (List.mem_of_mem_take hz))
      have hl2 : (zs.take k).length ≤ k := List.length_take_le _ _
      have hz := hr zs[k] (List.getElem_mem hlt)
      have HT := Lib.hid (take_snoc_nat zs k hlt)
      go_wp2_with (go_at_call 72; refine (appendVar_any w.heap.size _ zs[k] hz _ _ wr hown hnx.size (by omega)).mono ?_; rintro e w1 ⟨v', rfl, hown', hnx'⟩)
      go_roundw
      case rel =>
        refine ⟨k + 1, by omega, by go_num, ?_, hnx.trans hnx'⟩
        rw [HT.out, vars_snoc, List.length_append, Lib.byteCells_append]
        exact hown'
      case measure => simp [intOf]; omega
    · have hke : k = zs.length := by omega
      have hcv := conv_ownN hown rfl
      go_wp2
      go_ret
      refine ⟨?_, hnx⟩
      subst hke
      simp
set_option maxHeartbeats 1000000 in
theorem newReader_any (s : ByteArray) (w : World) :
    Calls Tryz.prog 86 #[.string s] w fun e w' => e = .returned (.pointer (some ⟨w.heap.size, 0, none⟩)) ∧ IsRd w' w.heap.size s 0 ∧ Below w.heap.size w w' ∧ w'.heap.size = w.heap.size + 1 := by
  go_enter Tryz.func86, Tryz.ntmps86
  go_wp2
  go_ret
  exact ⟨rfl, ⟨by simp, by simp, by simp, by simp⟩, (Below.refl _ _).alloc (Nat.le_refl _) _, by simp⟩
theorem ret_cut {a a' : Int} {b b' : ByteArray} {c : Int} (h1 : a = a') (h2 : b = b') : Ending.returned (.tuple #[.int .u64 a, .string b, .int .i64 c]) = .returned (.tuple #[.int .u64 a', .string b', .int .i64 c]) := by rw [h1, h2]
/-- Seven bits more, behind acc. -/
theorem or_group (acc k : Nat) (b : UInt8) (hk : k ≤ 9) (ha : acc < 2 ^ (7 * k)) (h9 : k = 9 → b.toNat ≤ 1) :
    bits .or .u64 (acc : Int) (IntKind.u64.wrap (IntKind.u64.wrap (bits .and .u8 (b.toNat : Int) 127) * 2 ^ (7 * k))) = ((acc + b.toNat % 128 * 2 ^ (7 * k) : Nat) : Int) := by
  have hb := b.toNat_lt
  have e1 : bits .and .u8 (b.toNat : Int) 127 = ((b.toNat % 128 : Nat) : Int) := by rw [u8_and127 _ (by omega) (by omega)]; omega
  have e2 : IntKind.u64.wrap ((b.toNat % 128 : Nat) : Int) = ((b.toNat % 128 : Nat) : Int) := by rw [IntKind.wrap_u64]; omega
  have hp : 2 ^ (7 * k) ≤ 2 ^ (7 * 9) := Nat.pow_le_pow_right (by omega) (by omega)
  have hm : b.toNat % 128 * 2 ^ (7 * k) < 18446744073709551616 := by
    by_cases h : k = 9
    · subst h
      have := h9 rfl
      have hc : b.toNat % 128 ≤ 1 := by omega
      have := Nat.mul_le_mul_right (2 ^ (7 * 9)) hc
      omega
    · have hp' : 2 ^ (7 * k) ≤ 2 ^ (7 * 8) := Nat.pow_le_pow_right (by omega) (by omega)
      have h1 : b.toNat % 128 ≤ 127 := by omega
      have := Nat.mul_le_mul h1 hp'
      omega
  have e3 : ((b.toNat % 128 : Nat) : Int) * 2 ^ (7 * k) = ((b.toNat % 128 * 2 ^ (7 * k) : Nat) : Int) := by simp
  rw [e1, e2, e3, show IntKind.u64.wrap ((b.toNat % 128 * 2 ^ (7 * k) : Nat) : Int) = ((b.toNat % 128 * 2 ^ (7 * k) : Nat) : Int) by rw [IntKind.wrap_u64]; omega]
  rw [u64_or_nat _ _ (by omega) hm, Nat.or_comm, nat_join (7 * k) _ _ (Nat.mul_mod_left _ _) ha, Nat.add_comm]
set_option maxHeartbeats 1000000 in
set_option maxRecDepth 100000 in
theorem cutVar_any (s : ByteArray) (w : World) (hs : s.size ≤ 9223372036854775807) :
    Calls Tryz.prog 135 #[.string s] w fun e w' => e = .returned (.tuple #[.int .u64 (decV 0 0 s.data.toList).1, .string ⟨(decV 0 0 s.data.toList).2.1.toArray⟩, .int .i64 (decV 0 0 s.data.toList).2.2]) ∧ ∃ n, w' = w.drewN n := by
  go_enter Tryz.func135, Tryz.ntmps135
  go_wp2
  go_loop [5, 10] (fun v i => ∃ (k acc : Nat) (X : Int), k ≤ s.size ∧ k ≤ 9 ∧ i = .int .i64 k ∧ v = .int .u64 X ∧ Hid (X = (acc : Int) ∧ acc < 2 ^ (7 * k) ∧ decV 0 0 s.data.toList = decV k acc (s.data.toList.drop k))) (fun _ i => s.size - (intOf i).toNat)
  case atStart => exact ⟨0, 0, 0, Nat.zero_le _, by omega, rfl, rfl, rfl, by decide, rfl⟩
  case round =>
    obtain ⟨k, acc, X, hk, hk9, rfl, rfl, HX⟩ := hrel
    by_cases hlt : k < s.size
    · have HD := Lib.hid (drop_cons s k hlt)
      have HS := Lib.hid (drop_str s (k + 1))
      go_wp2
      · have h9 : (k : Int) = 9 := by assumption
        have hb : 1 < (s[k].toNat : Int) ∨ ((s[k].toNat : Int) == 0) = true := by assumption
        have hv : decV 0 0 s.data.toList = (0, [], 4) := by
          rw [HX.out.2.2, HD.out]
          refine decV_bad _ _ _ _ ?_
          rcases hb with hb | hb
          · exact .inl ⟨by omega, by omega⟩
          · have := WalkArith.int_eq hb; exact .inr ⟨by omega, by omega⟩
        go_ret3
        exact ⟨by rw [hv]; rfl, 0, rfl⟩
      · have h9 : (k : Int) = 9 := by assumption
        have hb : (s[k].toNat : Int) ≤ 1 ∧ ((s[k].toNat : Int) == 0) = false := by assumption
        have hv : decV 0 0 s.data.toList = (acc + s[k].toNat * 2 ^ (7 * k), s.data.toList.drop (k + 1), 0) := by
          rw [HX.out.2.2, HD.out]
          have := WalkArith.int_ne hb.2
          exact decV_last _ _ _ _ (by omega) (by omega)
        have hor := Lib.hid (or_group acc k s[k] hk9 HX.out.2.1 (by omega))
        have hmod : s[k].toNat % 128 = s[k].toNat := by omega
        have hp : Hid ((2 : Int) ^ (7 * k) = 9223372036854775808) := by show _ = _; rw [show k = 9 by omega]; decide
        have hk10 : Hid (k + 1 = 10) := by show _ = _; omega
        have HS' := Lib.hid (drop_str s 10)
        clear HS
        go_quiet (fail)
        go_wp2
        go_ret3
        rw [hv]
        refine ⟨ret_cut ?_ ?_, nq, rfl⟩
        · have := hor.out
          rw [hp.out] at this
          rw [HX.out.1, this, hmod]
        · rw [hk10.out]
          exact HS'.out
      · have h9 : (k : Int) = 9 := by assumption
        have hb : 1 < (s[k].toNat : Int) := by assumption
        have hv : decV 0 0 s.data.toList = (0, [], 4) := by
          rw [HX.out.2.2, HD.out]
          exact decV_bad _ _ _ _ (.inl ⟨by omega, by omega⟩)
        go_ret3
        exact ⟨by rw [hv]; rfl, 0, rfl⟩
      · have h0 : 0 < k := by assumption
        have hb : ((s[k].toNat : Int) == 0) = true := by assumption
        have hv : decV 0 0 s.data.toList = (0, [], 4) := by
          rw [HX.out.2.2, HD.out]
          have := WalkArith.int_eq hb
          exact decV_bad _ _ _ _ (.inr ⟨by omega, by omega⟩)
        go_ret3
        exact ⟨by rw [hv]; rfl, 0, rfl⟩
      · have h9 : ¬ (k : Int) = 9 := by assumption
        have hb0 : ((s[k].toNat : Int) == 0) = false := by assumption
        have hb : (s[k].toNat : Int) < 128 := by assumption
        have hv : decV 0 0 s.data.toList = (acc + s[k].toNat * 2 ^ (7 * k), s.data.toList.drop (k + 1), 0) := by
          rw [HX.out.2.2, HD.out]
          have := WalkArith.int_ne hb0
          exact decV_last _ _ _ _ (by omega) (by omega)
        have hor := Lib.hid (or_group acc k s[k] hk9 HX.out.2.1 (by omega))
        have hmod : s[k].toNat % 128 = s[k].toNat := by omega
        go_quiet (fail)
        go_wp2
        go_ret3
        rw [hv]
        exact ⟨ret_cut (by rw [HX.out.1, hor.out, hmod]) HS.out, nq, rfl⟩
      · have h9 : ¬ (k : Int) = 9 := by assumption
        have hb0 : ((s[k].toNat : Int) == 0) = false := by assumption
        have hb : 128 ≤ (s[k].toNat : Int) := by assumption
        have hor := or_group acc k s[k] hk9 HX.out.2.1 (by omega)
        go_round
        case rel =>
          refine ⟨k + 1, acc + s[k].toNat % 128 * 2 ^ (7 * k), _, by omega, by omega, by go_num, rfl, ?_⟩
          refine ⟨by rw [HX.out.1, hor], group_lt _ _ _ HX.out.2.1, ?_⟩
          have := WalkArith.int_ne hb0
          rw [HX.out.2.2, HD.out, decV_on _ _ _ _ (by omega) (by omega)]
        case measure => simp [intOf]; omega
      · have h9 : ¬ 0 < k := by assumption
        have hb : (s[k].toNat : Int) < 128 := by assumption
        have hv : decV 0 0 s.data.toList = (acc + s[k].toNat * 2 ^ (7 * k), s.data.toList.drop (k + 1), 0) := by
          rw [HX.out.2.2, HD.out]
          exact decV_last _ _ _ _ (by omega) (by omega)
        have hor := Lib.hid (or_group acc k s[k] hk9 HX.out.2.1 (by omega))
        have hmod : s[k].toNat % 128 = s[k].toNat := by omega
        go_quiet (fail)
        go_wp2
        go_ret3
        rw [hv]
        exact ⟨ret_cut (by rw [HX.out.1, hor.out, hmod]) HS.out, nq, rfl⟩
      · have h9 : ¬ 0 < k := by assumption
        have hb : 128 ≤ (s[k].toNat : Int) := by assumption
        have hor := or_group acc k s[k] hk9 HX.out.2.1 (by omega)
        go_round
        case rel =>
          refine ⟨k + 1, acc + s[k].toNat % 128 * 2 ^ (7 * k), _, by omega, by omega, by go_num, rfl, ?_⟩
          refine ⟨by rw [HX.out.1, hor], group_lt _ _ _ HX.out.2.1, ?_⟩
          rw [HX.out.2.2, HD.out, decV_on _ _ _ _ (by omega) (by omega)]
        case measure => simp [intOf]; omega
    · have hke : k = s.size := by omega
      have hv : decV 0 0 s.data.toList = (0, [], 5) := by
        rw [HX.out.2.2, List.drop_of_length_le (by rw [Array.length_toList]; show s.size ≤ k; omega)]
        rfl
      go_wp2
      go_ret3
      exact ⟨rfl, 0, rfl⟩
theorem err_any (b : Nat) (s : ByteArray) (e : Int) (w : World) (h : IsRd w b s e) :
    Calls Tryz.prog 120 #[.pointer (some ⟨b, 0, none⟩)] w fun r w' => r = .returned (.int .i64 e) ∧ w = w' := by
  have hc1 := h.c1
  clear h
  go_enter Tryz.func120, Tryz.ntmps120
  go_wp2
  go_ret
  exact ⟨rfl, rfl⟩
theorem left_any (b : Nat) (s : ByteArray) (e : Int) (w : World) (h : IsRd w b s e) :
    Calls Tryz.prog 124 #[.pointer (some ⟨b, 0, none⟩)] w fun r w' => r = .returned (.int .i64 s.size) ∧ w = w' := by
  have hc0 := h.c0
  clear h
  go_enter Tryz.func124, Tryz.ntmps124
  go_wp2
  go_ret
  exact ⟨rfl, rfl⟩
theorem fail_first (b : Nat) (s : ByteArray) (e2 : Int) (w : World) (h : IsRd w b s 0) :
    Calls Tryz.prog 136 #[.pointer (some ⟨b, 0, none⟩), .int .i64 e2] w fun r w' => r = .returned (.tuple #[]) ∧ w' = w.setCell ⟨b, 1, none⟩ (.int .i64 e2) := by
  have hc1 := h.c1
  have hf1 := h.f1
  go_enter Tryz.func136, Tryz.ntmps136
  go_wp2_with (go_at_call 120; refine (err_any b s 0 _ h).mono ?_; rintro r w' ⟨rfl, rfl⟩)
  go_end0
  exact ⟨rfl, rfl⟩
theorem step_ok (b : Nat) (s rest : ByteArray) (w : World) (h : IsRd w b s 0) :
    Calls Tryz.prog 122 #[.pointer (some ⟨b, 0, none⟩), .string rest, .int .i64 0] w fun r w' => r = .returned (.tuple #[]) ∧ w' = w.setCell ⟨b, 0, none⟩ (.string rest) := by
  have hc0 := h.c0
  have hf0 := h.f0
  go_enter Tryz.func122, Tryz.ntmps122
  go_wp2
  go_end0
  exact ⟨rfl, rfl⟩
theorem step_err (b : Nat) (s rest : ByteArray) (e : Int) (w : World) (h : IsRd w b s 0) (he : e ≠ 0) :
    Calls Tryz.prog 122 #[.pointer (some ⟨b, 0, none⟩), .string rest, .int .i64 e] w fun r w' => r = .returned (.tuple #[]) ∧ w' = w.setCell ⟨b, 1, none⟩ (.int .i64 e) := by
  have hd : (e != 0) = true := by simpa using he
  clear he
  go_enter Tryz.func122, Tryz.ntmps122
  go_wp2_with (go_at_call 136; refine (fail_first b s e _ h).mono ?_; rintro r w' ⟨rfl, rfl⟩)
  first | go_end0 | refine bodyPost_ret (results_none rfl _ _ _) rfl ?_
  exact ⟨rfl, rfl⟩
theorem cutVar_at (s : ByteArray) (w : World) (hs : s.size ≤ 9223372036854775807) {v : Nat} {r : List UInt8} {e : Int} (hv : decV 0 0 s.data.toList = (v, r, e)) :
    Calls Tryz.prog 135 #[.string s] w fun x w' => x = .returned (.tuple #[.int .u64 v, .string ⟨r.toArray⟩, .int .i64 e]) ∧ ∃ n, w' = w.drewN n := by
  have := cutVar_any s w hs
  rw [hv] at this
  exact this
set_option maxHeartbeats 1000000 in
theorem rvar_ok (b : Nat) (s : ByteArray) (w : World) (h : IsRd w b s 0) (hs : s.size ≤ 9223372036854775807) {v : Nat} {r : List UInt8} (hv : decV 0 0 s.data.toList = (v, r, 0)) :
    Calls Tryz.prog 149 #[.pointer (some ⟨b, 0, none⟩)] w fun x w' => x = .returned (.int .u64 v) ∧ IsRd w' b ⟨r.toArray⟩ 0 ∧ w.grownBy w' (some b) := by
  have hc0 := h.c0
  have HV := Lib.hid hv
  clear hv
  go_enter Tryz.func149, Tryz.ntmps149
  go_wp2_with (first | (go_at_call 120; refine (err_any b s 0 _ h).mono ?_; rintro r w' ⟨rfl, rfl⟩) | (go_at_call 135; refine (cutVar_at s _ hs HV.out).mono ?_; rintro r w' ⟨rfl, n, rfl⟩) | (go_at_call 122; refine (step_ok b s _ _ (h.drewN _)).mono ?_; rintro r w' ⟨rfl, rfl⟩))
  go_ret
  exact ⟨rfl, (h.drewN _).setRest _, grownBy_trans (grownBy_drewN _ _ _) (grownBy_set _ _ _ _)⟩
set_option maxHeartbeats 1000000 in
theorem rvar_bad (b : Nat) (s : ByteArray) (w : World) (h : IsRd w b s 0) (hs : s.size ≤ 9223372036854775807) {e : Int} (hv : decV 0 0 s.data.toList = (0, [], e)) (he : e ≠ 0) :
    Calls Tryz.prog 149 #[.pointer (some ⟨b, 0, none⟩)] w fun x w' => x = .returned (.int .u64 0) ∧ IsRd w' b s e ∧ w.grownBy w' (some b) := by
  have hc0 := h.c0
  have HV := Lib.hid hv
  have HE := Lib.hid he
  clear hv he
  go_enter Tryz.func149, Tryz.ntmps149
  go_wp2_with (first | (go_at_call 120; refine (err_any b s 0 _ h).mono ?_; rintro r w' ⟨rfl, rfl⟩) | (go_at_call 135; refine (cutVar_at s _ hs HV.out).mono ?_; rintro r w' ⟨rfl, n, rfl⟩) | (go_at_call 122; refine (step_err b s _ e _ (h.drewN _) HE.out).mono ?_; rintro r w' ⟨rfl, rfl⟩))
  go_ret
  exact ⟨rfl, (h.drewN _).setErr _, grownBy_trans (grownBy_drewN _ _ _) (grownBy_set _ _ _ _)⟩
theorem rvar_err (b : Nat) (s : ByteArray) (e : Int) (w : World) (h : IsRd w b s e) (he : e ≠ 0) :
    Calls Tryz.prog 149 #[.pointer (some ⟨b, 0, none⟩)] w fun x w' => x = .returned (.int .u64 0) ∧ w = w' := by
  have hd : (e != 0) = true := by simpa using he
  clear he
  go_enter Tryz.func149, Tryz.ntmps149
  go_wp2_with (go_at_call 120; refine (err_any b s e _ h).mono ?_; rintro r w' ⟨rfl, rfl⟩)
  go_ret
  exact ⟨rfl, rfl⟩
theorem rcount_err (n : Int) (b : Nat) (s : ByteArray) (e : Int) (w : World) (h : IsRd w b s e) (he : e ≠ 0) :
    Calls Tryz.prog 87 #[.pointer (some ⟨b, 0, none⟩), .int .i64 n] w fun x w' => x = .returned (.int .i64 0) ∧ w = w' := by
  have hd : (e != 0) = true := by simpa using he
  clear he
  go_enter Tryz.func87, Tryz.ntmps87
  go_wp2_with (go_at_call 120; refine (err_any b s e _ h).mono ?_; rintro r w' ⟨rfl, rfl⟩)
  go_ret
  exact ⟨rfl, rfl⟩
theorem rtext_err (n : Int) (b : Nat) (s : ByteArray) (e : Int) (w : World) (h : IsRd w b s e) (he : e ≠ 0) :
    Calls Tryz.prog 89 #[.pointer (some ⟨b, 0, none⟩), .int .i64 n] w fun x w' => x = .returned (.string ⟨#[]⟩) ∧ w = w' := by
  have hd : (e != 0) = true := by simpa using he
  clear he
  go_enter Tryz.func89, Tryz.ntmps89
  go_wp2_with (go_at_call 120; refine (err_any b s e _ h).mono ?_; rintro r w' ⟨rfl, rfl⟩)
  go_ret
  exact ⟨rfl, rfl⟩
set_option maxHeartbeats 1000000 in
theorem cutCount_any (s : ByteArray) (most : Int) (w : World) (hs : s.size ≤ 9223372036854775807) (hm : most ≤ 9223372036854775807) :
    Calls Tryz.prog 121 #[.string s, .int .i64 most] w fun x w' => x = .returned (.tuple #[.int .i64 (decC most s.data.toList).1, .string ⟨(decC most s.data.toList).2.1.toArray⟩, .int .i64 (decC most s.data.toList).2.2]) ∧ ∃ n, w' = w.drewN n := by
  unfold decC
  by_cases h : (decV 0 0 s.data.toList).2.2 ≠ 0
  · rw [if_pos h]
    have hd : ((decV 0 0 s.data.toList).2.2 != 0) = true := by simpa using h
    have hv := decV_err _ _ _ h
    obtain ⟨e, he⟩ : ∃ e, e = (decV 0 0 s.data.toList).2.2 := ⟨_, rfl⟩
    rw [← he] at hv hd ⊢
    have HV := Lib.hid hv
    clear hv h he
    go_enter Tryz.func121, Tryz.ntmps121
    go_wp2_with (go_at_call 135; refine (cutVar_at s _ hs HV.out).mono ?_; rintro r w' ⟨rfl, n, rfl⟩)
    go_ret3
    exact ⟨rfl, n, rfl⟩
  · rw [if_neg h]
    have h3 : (decV 0 0 s.data.toList).2.2 = 0 := Classical.not_not.1 h
    obtain ⟨v, r, hv⟩ : ∃ v r, decV 0 0 s.data.toList = (v, r, 0) := ⟨_, _, by rw [← h3]⟩
    rw [hv]
    have HV := Lib.hid hv
    clear hv h h3
    by_cases h2 : most < 0 ∨ most < (v : Int)
    · rw [if_pos h2]
      by_cases h0 : most < 0
      · clear h2
        go_enter Tryz.func121, Tryz.ntmps121
        go_wp2_with (go_at_call 135; refine (cutVar_at s _ hs HV.out).mono ?_; rintro r w' ⟨rfl, n, rfl⟩)
        go_ret3
        exact ⟨rfl, n, rfl⟩
      · have h4 : most < (v : Int) := by omega
        have hd : decide (most < 0) = false := by simpa using h0
        clear h2
        go_enter Tryz.func121, Tryz.ntmps121
        go_wp2_with (go_at_call 135; refine (cutVar_at s _ hs HV.out).mono ?_; rintro r w' ⟨rfl, n, rfl⟩)
        go_ret3
        exact ⟨rfl, n, rfl⟩
    · rw [if_neg h2]
      have h0 : 0 ≤ most := by omega
      have h4 : (v : Int) ≤ most := by omega
      have hd : decide (most < 0) = false := by simpa using h0
      clear h2
      go_enter Tryz.func121, Tryz.ntmps121
      go_wp2_with (go_at_call 135; refine (cutVar_at s _ hs HV.out).mono ?_; rintro r w' ⟨rfl, n, rfl⟩)
      go_ret3
      exact ⟨rfl, n, rfl⟩
theorem cutCount_at (s : ByteArray) (most : Int) (w : World) (hs : s.size ≤ 9223372036854775807) (hm : most ≤ 9223372036854775807) {v : Nat} {r : List UInt8} {e : Int} (hv : decC most s.data.toList = (v, r, e)) :
    Calls Tryz.prog 121 #[.string s, .int .i64 most] w fun x w' => x = .returned (.tuple #[.int .i64 v, .string ⟨r.toArray⟩, .int .i64 e]) ∧ ∃ n, w' = w.drewN n := by
  have := cutCount_any s most w hs hm
  rw [hv] at this
  exact this
set_option maxHeartbeats 1000000 in
theorem rcount_ok (b : Nat) (s : ByteArray) (most : Int) (w : World) (h : IsRd w b s 0) (hs : s.size ≤ 9223372036854775807) (hm : most ≤ 9223372036854775807) {v : Nat} {r : List UInt8} (hv : decC most s.data.toList = (v, r, 0)) :
    Calls Tryz.prog 87 #[.pointer (some ⟨b, 0, none⟩), .int .i64 most] w fun x w' => x = .returned (.int .i64 v) ∧ IsRd w' b ⟨r.toArray⟩ 0 ∧ w.grownBy w' (some b) := by
  have hc0 := h.c0
  have HV := Lib.hid hv
  clear hv
  go_enter Tryz.func87, Tryz.ntmps87
  go_wp2_with (first | (go_at_call 120; refine (err_any b s 0 _ h).mono ?_; rintro r w' ⟨rfl, rfl⟩) | (go_at_call 121; refine (cutCount_at s most _ hs hm HV.out).mono ?_; rintro r w' ⟨rfl, n, rfl⟩) | (go_at_call 122; refine (step_ok b s _ _ (h.drewN _)).mono ?_; rintro r w' ⟨rfl, rfl⟩))
  go_ret
  exact ⟨rfl, (h.drewN _).setRest _, grownBy_trans (grownBy_drewN _ _ _) (grownBy_set _ _ _ _)⟩
set_option maxHeartbeats 1000000 in
theorem rcount_bad (b : Nat) (s : ByteArray) (most : Int) (w : World) (h : IsRd w b s 0) (hs : s.size ≤ 9223372036854775807) (hm : most ≤ 9223372036854775807) {e : Int} (hv : decC most s.data.toList = (0, [], e)) (he : e ≠ 0) :
    Calls Tryz.prog 87 #[.pointer (some ⟨b, 0, none⟩), .int .i64 most] w fun x w' => x = .returned (.int .i64 0) ∧ IsRd w' b s e ∧ w.grownBy w' (some b) := by
  have hc0 := h.c0
  have HV := Lib.hid hv
  have HE := Lib.hid he
  clear hv he
  go_enter Tryz.func87, Tryz.ntmps87
  go_wp2_with (first | (go_at_call 120; refine (err_any b s 0 _ h).mono ?_; rintro r w' ⟨rfl, rfl⟩) | (go_at_call 121; refine (cutCount_at s most _ hs hm HV.out).mono ?_; rintro r w' ⟨rfl, n, rfl⟩) | (go_at_call 122; refine (step_err b s _ e _ (h.drewN _) HE.out).mono ?_; rintro r w' ⟨rfl, rfl⟩))
  go_ret
  exact ⟨rfl, (h.drewN _).setErr _, grownBy_trans (grownBy_drewN _ _ _) (grownBy_set _ _ _ _)⟩
theorem nclone_any (s : ByteArray) (w : World) (hlim : s.size ≤ 281474976710656) :
    Calls Tryz.prog 25 #[.string s] w fun e w' => e = .returned (.string s) ∧ Below w.heap.size w w' := by
  go_enter Tryz.func25, Tryz.ntmps25
  go_wp2_with (go_at_call 61; refine (Tryz.stringslite_Clone s w hlim).mono ?_; rintro e w' ⟨rfl, hb⟩)
  go_ret
  exact ⟨rfl, hb⟩
set_option maxHeartbeats 2000000 in
theorem cutText_ok (s : ByteArray) (most : Int) (w : World) (hs : s.size ≤ 140737488355328) (hm : most ≤ 9223372036854775807) {n : Nat} {r : List UInt8} (hv : decC most s.data.toList = (n, r, 0)) (hn : n ≤ r.length) (hrl : r.length ≤ s.size) :
    Calls Tryz.prog 123 #[.string s, .int .i64 most] w fun x w' => x = .returned (.tuple #[.string ((⟨r.toArray⟩ : ByteArray).extract 0 n), .string ((⟨r.toArray⟩ : ByteArray).extract n r.length), .int .i64 0]) ∧ Below w.heap.size w w' := by
  have HV := Lib.hid hv
  have hz : (⟨r.toArray⟩ : ByteArray).size = r.length := by show r.toArray.size = _; simp
  have hxz : ((⟨r.toArray⟩ : ByteArray).extract 0 n).size ≤ 281474976710656 := by rw [ByteArray.size_extract]; omega
  have HX := Lib.hid hxz
  clear hv hxz
  obtain ⟨R, hR⟩ : ∃ R : ByteArray, R = ⟨r.toArray⟩ := ⟨_, rfl⟩
  rw [← hR] at hz HX ⊢
  have HVR : Hid (Calls Tryz.prog 121 #[.string s, .int .i64 most] w fun x w' => x = .returned (.tuple #[.int .i64 n, .string R, .int .i64 0]) ∧ ∃ n, w' = w.drewN n) := by
    have := cutCount_at s most w (by omega) hm HV.out
    rw [← hR] at this
    exact this
  clear hR HV
  rw [← hz] at hn ⊢
  have hn' : (n : Int) ≤ (R.size : Int) := by omega
  have HZ := Lib.hid hz
  clear hz
  go_enter Tryz.func123, Tryz.ntmps123
  go_wp2_with (go_at_call 121; refine HVR.out.mono ?_; rintro r w' ⟨rfl, nd, rfl⟩)
  go_region_with (go_at_call 25; refine (nclone_any _ _ HX.out).mono ?_; rintro e w' ⟨rfl, hb⟩)
  go_wp2
  go_ret3
  exact ⟨rfl, (Below.refl _ _).trans ⟨hb.os, hb.tape, hb.output, hb.size, hb.block⟩⟩
set_option maxHeartbeats 1000000 in
theorem cutText_short (s : ByteArray) (most : Int) (w : World) (hs : s.size ≤ 140737488355328) (hm : most ≤ 9223372036854775807) {n : Nat} {r : List UInt8} (hv : decC most s.data.toList = (n, r, 0)) (hn : r.length < n) :
    Calls Tryz.prog 123 #[.string s, .int .i64 most] w fun x w' => x = .returned (.tuple #[.string ⟨#[]⟩, .string ⟨#[]⟩, .int .i64 5]) ∧ Below w.heap.size w w' := by
  have HV := Lib.hid hv
  clear hv
  go_enter Tryz.func123, Tryz.ntmps123
  go_wp2_with (go_at_call 121; refine (cutCount_at s most _ (by omega) hm HV.out).mono ?_; rintro r w' ⟨rfl, nd, rfl⟩)
  go_ret3
  exact ⟨rfl, ⟨rfl, rfl, rfl, Nat.le_refl _, fun _ _ => rfl⟩⟩
set_option maxHeartbeats 1000000 in
theorem cutText_bad (s : ByteArray) (most : Int) (w : World) (hs : s.size ≤ 140737488355328) (hm : most ≤ 9223372036854775807) {e : Int} (hv : decC most s.data.toList = (0, [], e)) (he : e ≠ 0) :
    Calls Tryz.prog 123 #[.string s, .int .i64 most] w fun x w' => x = .returned (.tuple #[.string ⟨#[]⟩, .string ⟨#[]⟩, .int .i64 e]) ∧ Below w.heap.size w w' := by
  have HV := Lib.hid hv
  have hd : (e != 0) = true := by simpa using he
  clear hv he
  go_enter Tryz.func123, Tryz.ntmps123
  go_wp2_with (go_at_call 121; refine (cutCount_at s most _ (by omega) hm HV.out).mono ?_; rintro r w' ⟨rfl, nd, rfl⟩)
  go_ret3
  exact ⟨rfl, ⟨rfl, rfl, rfl, Nat.le_refl _, fun _ _ => rfl⟩⟩
theorem cutText_any (s : ByteArray) (most : Int) (w : World) (hs : s.size ≤ 140737488355328) (hm : most ≤ 9223372036854775807) :
    Calls Tryz.prog 123 #[.string s, .int .i64 most] w fun x w' => x = .returned (.tuple #[.string ⟨(decT most s.data.toList).1.toArray⟩, .string ⟨(decT most s.data.toList).2.1.toArray⟩, .int .i64 (decT most s.data.toList).2.2]) ∧ Below w.heap.size w w' := by
  rcases decC_cases most s.data.toList with ⟨n, r, hc, hn, hv⟩ | ⟨e, he, hc⟩
  · by_cases h2 : r.length < n
    · rw [show decT most s.data.toList = ([], [], 5) by unfold decT; rw [hc, if_neg (by simp), if_pos h2]]
      exact cutText_short s most w hs hm hc h2
    · rw [show decT most s.data.toList = (r.take n, r.drop n, 0) by unfold decT; rw [hc, if_neg (by simp), if_neg h2]]
      have hl := decV_len s.data.toList 0 0
      rw [hv, Array.length_toList] at hl
      have := cutText_ok s most w hs hm hc (by omega) hl
      rw [take_str, tail_str] at this
      exact this
  · rw [show decT most s.data.toList = ([], [], e) by unfold decT; rw [hc, if_pos he]]
    exact cutText_bad s most w hs hm hc he
theorem cutText_at (s : ByteArray) (most : Int) (w : World) (hs : s.size ≤ 140737488355328) (hm : most ≤ 9223372036854775807) {t r : List UInt8} {e : Int} (hv : decT most s.data.toList = (t, r, e)) :
    Calls Tryz.prog 123 #[.string s, .int .i64 most] w fun x w' => x = .returned (.tuple #[.string ⟨t.toArray⟩, .string ⟨r.toArray⟩, .int .i64 e]) ∧ Below w.heap.size w w' := by
  have := cutText_any s most w hs hm
  rw [hv] at this
  exact this
set_option maxHeartbeats 1000000 in
theorem rtext_ok (b : Nat) (s : ByteArray) (most : Int) (w : World) (h : IsRd w b s 0) (hs : s.size ≤ 140737488355328) (hm : most ≤ 9223372036854775807) {t r : List UInt8} (hv : decT most s.data.toList = (t, r, 0)) :
    Calls Tryz.prog 89 #[.pointer (some ⟨b, 0, none⟩), .int .i64 most] w fun x w' => x = .returned (.string ⟨t.toArray⟩) ∧ IsRd w' b ⟨r.toArray⟩ 0 ∧ w.grownBy w' (some b) := by
  have hc0 := h.c0
  have HV := Lib.hid hv
  clear hv
  go_enter Tryz.func89, Tryz.ntmps89
  go_wp2_with (first | (go_at_call 120; refine (err_any b s 0 _ h).mono ?_; rintro r w' ⟨rfl, rfl⟩) | (go_at_call 123; refine (cutText_at s most _ hs hm HV.out).mono ?_; rintro r w1 ⟨rfl, hb1⟩) | (go_at_call 122; refine (step_ok b s _ _ (h.below hb1 h.lt)).mono ?_; rintro r w' ⟨rfl, rfl⟩))
  go_ret
  exact ⟨rfl, (h.below hb1 h.lt).setRest _, grownBy_trans (grownBy_of_below hb1 _) (grownBy_set _ _ _ _)⟩
set_option maxHeartbeats 1000000 in
theorem rtext_bad (b : Nat) (s : ByteArray) (most : Int) (w : World) (h : IsRd w b s 0) (hs : s.size ≤ 140737488355328) (hm : most ≤ 9223372036854775807) {e : Int} (hv : decT most s.data.toList = ([], [], e)) (he : e ≠ 0) :
    Calls Tryz.prog 89 #[.pointer (some ⟨b, 0, none⟩), .int .i64 most] w fun x w' => x = .returned (.string ⟨#[]⟩) ∧ IsRd w' b s e ∧ w.grownBy w' (some b) := by
  have hc0 := h.c0
  have HV := Lib.hid hv
  have HE := Lib.hid he
  clear hv he
  go_enter Tryz.func89, Tryz.ntmps89
  go_wp2_with (first | (go_at_call 120; refine (err_any b s 0 _ h).mono ?_; rintro r w' ⟨rfl, rfl⟩) | (go_at_call 123; refine (cutText_at s most _ hs hm HV.out).mono ?_; rintro r w1 ⟨rfl, hb1⟩) | (go_at_call 122; refine (step_err b s _ e _ (h.below hb1 h.lt) HE.out).mono ?_; rintro r w' ⟨rfl, rfl⟩))
  go_ret
  exact ⟨rfl, (h.below hb1 h.lt).setErr _, grownBy_trans (grownBy_of_below hb1 _) (grownBy_set _ _ _ _)⟩
/-- How many bytes ntexts have together. -/
def ntotal (ss : List ByteArray) : Nat := (ss.map ByteArray.size).sum
theorem ntexts_snoc (ss : List ByteArray) (s : ByteArray) : ntexts (ss ++ [s]) = ntexts ss ++ (Lib.uvarint s.size ++ s.data.toList) := by simp [ntexts]
theorem ntexts_length : ∀ (ss : List ByteArray), (∀ s ∈ ss, s.size ≤ maxLen) → (ntexts ss).length ≤ 10 * ss.length + ntotal ss
  | [], _ => by simp [ntexts, ntotal]
  | s :: r, h => by
    have hs := h s (by simp)
    unfold maxLen at hs
    have h1 := Lib.uvarint_length64 (x := s.size) (by omega)
    have h2 := ntexts_length r (fun x hx => h x (by simp [hx]))
    have h3 : s.data.toList.length = s.size := by rw [Array.length_toList]; rfl
    simp only [ntexts, ntotal, List.map_cons, List.flatten_cons, List.length_append, List.length_cons, List.sum_cons] at *
    omega
theorem ntotal_take (ss : List ByteArray) (k : Nat) (h : k < ss.length) : ntotal (ss.take k) + ss[k].size ≤ ntotal ss := by
  have h1 : ss = ss.take k ++ (ss[k] :: ss.drop (k + 1)) := by
    rw [← List.drop_eq_getElem_cons h, List.take_append_drop]
  have h2 := congrArg ntotal h1
  unfold ntotal at h2 ⊢
  rw [List.map_append, List.sum_append, List.map_cons, List.sum_cons] at h2
  omega
set_option maxHeartbeats 2000000 in
set_option maxRecDepth 100000 in
theorem text_any (b off cap : Nat) (ss : List ByteArray) (w : World) (hss : ∀ s ∈ ss, s.size ≤ maxLen) (hlim : 10 * ss.length + ntotal ss + 10 ≤ 140737488355328)
    (hc : ∀ i (h : i < ss.length), w.cell? ⟨b, off + i, none⟩ = some (.string ss[i])) (hb : b < w.heap.size) :
    Calls Tryz.prog 42 #[.slice (some ⟨b, off, none⟩) ss.length cap] w fun e w' => e = .returned (.string ⟨(ntexts ss).toArray⟩) ∧ Below w.heap.size w w' := by
  obtain ⟨i0, hi, hz0, hz1, hz2⟩ := info_parts infoByteN
  go_enter Tryz.func42, Tryz.ntmps42
  go_wp2
  go_loopw [3, 8] (fun vb i wr => ∃ k : Nat, k ≤ ss.length ∧ i = .int .i64 k ∧ wr.ownsRow w.heap.size 5 1 vb (ntexts (ss.take k)).length (Lib.byteCells (ntexts (ss.take k))) ∧ Below w.heap.size w wr)
    (fun _ i _ => ss.length - (intOf i).toNat)
  case atStart => exact ⟨0, Nat.zero_le _, rfl, by simpa [ntexts, Lib.byteCells] using World.ownsRow_nil w _ _ _, Below.refl _ _⟩
  case round =>
    obtain ⟨k, hk, rfl, hown, hnx⟩ := hrel
    by_cases hlt : k < ss.length
    · have hcx : wr.cell? ⟨b, off + k, none⟩ = some (.string ss[k]) := (hnx.cell (by exact hb)).trans (hc k hlt)
      have hl1 := ntexts_length (ss.take k) (fun z hz => hss z (List.mem_of_mem_take hz))
      have hl2 : (ss.take k).length ≤ k := List.length_take_le _ _
      have hl3 := ntotal_take ss k hlt
      have hsz := hss ss[k] (List.getElem_mem hlt)
      unfold maxLen at hsz
      have hu := Lib.uvarint_length64 (x := ss[k].size) (by omega)
      have HT : Hid (ss.take (k + 1) = ss.take k ++ [ss[k]]) := List.take_succ_eq_append_getElem hlt
      have hb2 : (ntexts (ss.take k)).length + (Lib.uvarint ss[k].size).length + ss[k].size ≤ 140737488355328 := by omega
      have hb1 : (ntexts (ss.take k)).length + 10 ≤ 140737488355328 := by omega
      have hsz2 : ss[k].size < 18446744073709551616 := by omega
      have hsz3 : (ss[k].size : Int) ≤ 9223372036854775807 := by omega
      have HS : Hid (ss[k].size < 18446744073709551616) := hsz2
      clear hl1 hl2 hl3 hsz hsz2 hu
      go_wp2_with (first | (go_at_call 72; refine (appendVar_any w.heap.size _ ss[k].size HS.out _ _ wr hown hnx.size hb1).mono ?_; rintro e w1 ⟨v', rfl, hown', hnx'⟩) | (at_builtin; refine Lib.wpList_append_own_string _ rfl _ _ 78 9 rfl w.heap.size 5 i0 Tryz.underlying78 Tryz.underlying9 hi hz0 hz1 hz2 _ _ _ rfl hown' _ rfl ?c1 ?c2 ?c3 ?_))
      case c1 => unfold maxLen; omega
      case c2 => omega
      case c3 => exact (hnx.trans hnx').size
      intro v'' w2 hown2 hgrow2 _
      have hnx2 : Below w.heap.size w w2 := (hnx.trans hnx').grown hgrow2 (hnx.trans hnx').size (fun j hj => (hown'.lt j hj).1)
      clear hown hown' hgrow2
      go_wp2
      go_roundw
      case rel =>
        refine ⟨k + 1, by omega, by go_num, ?_, hnx2⟩
        rw [HT.out, ntexts_snoc, List.length_append, List.length_append, Lib.byteCells_append, Lib.byteCells_append, len_data', ← Nat.add_assoc]
        exact hown2
      case measure => simp [intOf]; omega
    · have hke : k = ss.length := by omega
      have hcv := conv_ownN hown rfl
      go_wp2
      go_ret
      refine ⟨?_, hnx⟩
      subst hke
      simp
theorem isWidth_no (n : Int) (w : World) (h : n < 1 ∨ 8 < n) :
    Calls Tryz.prog 134 #[.int .i64 n] w fun e w' => e = .returned (.bool false) ∧ w = w' := by
  rcases h with h | h
  · go_enter Tryz.func134, Tryz.ntmps134
    go_wp2
    go_ret
    exact ⟨rfl, rfl⟩
  · have h1 : 1 ≤ n := by omega
    have hd : decide (n ≤ 8) = false := by simpa using h
    go_enter Tryz.func134, Tryz.ntmps134
    go_wp2
    go_ret
    exact ⟨rfl, rfl⟩
set_option maxHeartbeats 1000000 in
set_option maxRecDepth 100000 in
theorem unfix_arg (s : ByteArray) (a n : Int) (w : World) (h : n < 1 ∨ 8 < n ∨ a < 0) :
    Calls Tryz.prog 119 #[.string s, .int .i64 a, .int .i64 n] w fun e w' => e = .returned (.tuple #[.int .u64 0, .int .i64 1]) ∧ w = w' := by
  by_cases hn : n < 1 ∨ 8 < n
  · clear h
    go_enter Tryz.func119, Tryz.ntmps119
    go_wp2_with (go_at_call 134; refine (isWidth_no _ _ hn).mono ?_; rintro e w' ⟨rfl, rfl⟩)
    go_ret2
    exact ⟨rfl, rfl⟩
  · have ha : a < 0 := by omega
    have h1 : 1 ≤ n := by omega
    have h2 : n ≤ 8 := by omega
    clear h hn
    go_enter Tryz.func119, Tryz.ntmps119
    go_wp2_with (go_at_call 134; refine (isWidth_yes _ _ h1 h2).mono ?_; rintro e w' ⟨rfl, rfl⟩)
    go_ret2
    exact ⟨rfl, rfl⟩
set_option maxHeartbeats 1000000 in
set_option maxRecDepth 100000 in
theorem unfix_short (s : ByteArray) (a n : Int) (w : World) (_hs : s.size ≤ 9223372036854775807) (h1 : 1 ≤ n) (h2 : n ≤ 8) (ha : 0 ≤ a) (h : (s.size : Int) < a + n) :
    Calls Tryz.prog 119 #[.string s, .int .i64 a, .int .i64 n] w fun e w' => e = .returned (.tuple #[.int .u64 0, .int .i64 5]) ∧ w = w' := by
  by_cases hlt : (s.size : Int) < a
  · go_enter Tryz.func119, Tryz.ntmps119
    go_wp2_with (go_at_call 134; refine (isWidth_yes _ _ h1 h2).mono ?_; rintro e w' ⟨rfl, rfl⟩)
    go_ret2
    exact ⟨rfl, rfl⟩
  · have hd : decide ((s.size : Int) < a) = false := by simpa using hlt
    have hf : (s.size : Int) - a < n := by omega
    go_enter Tryz.func119, Tryz.ntmps119
    go_wp2_with (go_at_call 134; refine (isWidth_yes _ _ h1 h2).mono ?_; rintro e w' ⟨rfl, rfl⟩)
    go_ret2
    exact ⟨rfl, rfl⟩
end Go.Proofs.YtmnboiikopkaoaaGreat
