/- Contracts of package sum's stir, Crc, lay and read: what each returns, for every argument within the bounds that each names. -/
import Derived.Test.YtlgcbapgbpofoaaGreatXK1
import Derived.Test.YtlgcbapgbpofoaaGreatXC2
namespace Go.Proofs.YtlgcbapgbpofoaaGreat
open Go.RowKit

theorem stir_form (X : Int) (x : Nat) (hx : X = x) (h : x < 4294967296) : bits .xor .u32 (X / 2) (bits .and .u32 2197175160 (-(bits .and .u32 X 1) % 4294967296)) = ((stir1 x : Nat) : Int) := by
  subst hx
  have e1 : bits .and .u32 (x : Int) 1 = ((x % 2 : Nat) : Int) := by
    rw [show (1 : Int) = ((1 : Nat) : Int) from rfl, u32_and_nat _ _ h (by omega), Nat.and_one_is_mod]
  rw [e1]
  unfold stir1
  have e2 : ((x : Int) / 2) = ((x / 2 : Nat) : Int) := by omega
  rw [e2]
  by_cases hp : x % 2 = 1
  · rw [hp, if_pos rfl]
    have e3 : (-((1 : Nat) : Int)) % 4294967296 = ((4294967295 : Nat) : Int) := by omega
    rw [e3, show (2197175160 : Int) = ((2197175160 : Nat) : Int) from rfl, u32_and_nat _ _ (by omega) (by omega), show (2197175160 &&& 4294967295 : Nat) = 2197175160 by decide, u32_xor_nat _ _ (by omega) (by omega)]
  · have h0 : x % 2 = 0 := by omega
    rw [h0, if_neg (by omega)]
    have e3 : (-((0 : Nat) : Int)) % 4294967296 = ((0 : Nat) : Int) := by omega
    rw [e3, show (2197175160 : Int) = ((2197175160 : Nat) : Int) from rfl, u32_and_nat _ _ (by omega) (by omega), show (2197175160 &&& 0 : Nat) = 0 by decide, u32_xor_nat _ _ (by omega) (by omega)]

set_option maxHeartbeats 1000000 in
set_option maxRecDepth 100000 in
theorem stir_any (X : Int) (x : Nat) (w : World) (hx : Hid (X = x)) (h : x < 4294967296) :
    Calls Tryz.prog 239 #[.int .u32 X] w fun e w' => e = .returned (.int .u32 (stirN 8 x : Nat)) ∧ w = w' := by
  go_enter Tryz.func239, Tryz.ntmps239
  go_wp2
  go_loop [0, 3] (fun v i => ∃ (k : Nat) (Y : Int), k ≤ 8 ∧ i = .int .i64 k ∧ v = .int .u32 Y ∧ 0 ≤ Y ∧ Y < 4294967296 ∧ Hid (Y = (stirN k x : Nat))) (fun _ i => 8 - (intOf i).toNat)
  case atStart => exact ⟨0, X, Nat.zero_le _, rfl, rfl, by have := hx.out; omega, by have := hx.out; omega, hx⟩
  case round =>
    obtain ⟨k, Y, hk, rfl, rfl, hY0, hY1, HY⟩ := hrel
    by_cases hlt : k < 8
    · have hl := stirN_lt k h
      have hl2 := stirN_lt (k + 1) h
      have HF := Lib.hid (stir_form Y _ HY.out hl)
      go_wp2
      go_round
      case rel =>
        refine ⟨k + 1, _, by omega, by go_num, rfl, ?_, ?_, ?_⟩
        · rw [HF.out]; omega
        · rw [HF.out]; show ((stirN (k + 1) x : Nat) : Int) < _; omega
        · show _ = _
          rw [HF.out]
          rfl
      case measure => simp [intOf]; omega
    · have hke : k = 8 := by omega
      subst hke
      go_wp2
      go_ret
      exact ⟨ret_int HY.out, rfl⟩
/-- The bytes of texts, one behind the other. -/
def cat (ss : List ByteArray) : List UInt8 := (ss.map fun s => s.data.toList).flatten
theorem cat_snoc (ss : List ByteArray) (s : ByteArray) : cat (ss ++ [s]) = cat ss ++ s.data.toList := by simp [cat]
theorem take_snoc (s : ByteArray) (k : Nat) (h : k < s.size) : s.data.toList.take (k + 1) = s.data.toList.take k ++ [s[k]] := by
  rw [List.take_succ_eq_append_getElem (by simpa using h)]; rfl
theorem xor_form (x : Nat) (b : UInt8) (h : x < 4294967296) : bits .xor .u32 (x : Int) ((b.toNat : Int) % 4294967296) = ((x ^^^ b.toNat : Nat) : Int) := by
  have := b.toNat_lt
  rw [Int.emod_eq_of_lt (by omega) (by omega)]
  exact u32_xor_nat _ _ h (by omega)
theorem xor_ones (x : Nat) (h : x < 4294967296) : bits .xor .u32 (x : Int) 4294967295 = ((x ^^^ 4294967295 : Nat) : Int) :=
  u32_xor_nat _ 4294967295 h (by decide)
theorem crc_start : ∃ x : Nat, x < 4294967296 ∧ Hid (crcX 4294967295 (cat []) = x) ∧ (x : Int) = 4294967295 := ⟨4294967295, by decide, rfl, rfl⟩

set_option maxHeartbeats 600000 in
set_option maxRecDepth 100000 in
theorem crc_rows (b off cap : Nat) (ss : List ByteArray) (w : World) (hn : ss.length ≤ 1000000) (hss : ∀ s ∈ ss, s.size ≤ maxLen)
    (hc : ∀ i (h : i < ss.length), w.cell? ⟨b, off + i, none⟩ = some (.string ss[i])) :
    Calls Tryz.prog 214 #[.slice (some ⟨b, off, none⟩) ss.length cap] w fun e w' => e = .returned (.int .u32 (crc (cat ss) : Nat)) ∧ w = w' := by
  have HC := Lib.hid hc
  clear hc
  go_enter Tryz.func214, Tryz.ntmps214
  go_wp2
  go_loop [3, 9] (fun v i => ∃ (k x : Nat), k ≤ ss.length ∧ i = .int .i64 k ∧ v = .int .u32 (x : Int) ∧ x < 4294967296 ∧ Hid (crcX 4294967295 (cat (ss.take k)) = x)) (fun _ i => ss.length - (intOf i).toNat)
  case atStart =>
    obtain ⟨x, h1, h2, h3⟩ := crc_start
    exact ⟨0, x, Nat.zero_le _, rfl, by rw [h3], h1, h2⟩
  case round =>
    obtain ⟨k, x, hk, rfl, rfl, hX1, HX⟩ := hrel
    by_cases hlt : k < ss.length
    · have hcx := HC.out k hlt
      have hsz : ss[k].size ≤ maxLen := hss _ (List.getElem_mem hlt)
      unfold maxLen at hsz
      have HSN : Hid (cat (ss.take (k + 1)) = cat (ss.take k) ++ ss[k].data.toList) := by
        show _ = _
        rw [List.take_succ_eq_append_getElem hlt, cat_snoc]
      generalize ss[k] = s at hcx hsz HSN
      go_wp2
      go_loop [3, 15] (fun v i => ∃ (j y : Nat), j ≤ s.size ∧ i = .int .i64 j ∧ v = .int .u32 (y : Int) ∧ y < 4294967296 ∧ Hid (crcX x (s.data.toList.take j) = y)) (fun _ i => s.size - (intOf i).toNat)
      case atStart => exact ⟨0, x, Nat.zero_le _, rfl, rfl, hX1, rfl⟩
      case round =>
        obtain ⟨j, y, hj, rfl, rfl, hY1, HY⟩ := hrel
        by_cases hjl : j < s.size
        · have HT : Hid (crcX x (s.data.toList.take (j + 1)) = stirN 8 (y ^^^ s[j].toNat)) := by
            show _ = _
            rw [take_snoc s j hjl, crcX_snoc, HY.out]
            rfl
          have HF := Lib.hid (xor_form y s[j] hY1)
          have hb := s[j].toNat_lt
          have hlx := xor_lt32 hY1 (show s[j].toNat < 4294967296 by omega)
          have hl2 := stirN_lt 8 hlx
          obtain ⟨z, hz⟩ : ∃ z, stirN 8 (y ^^^ s[j].toNat) = z := ⟨_, rfl⟩
          have HZ := Lib.hid hz
          clear hz
          rw [HZ.out] at hl2 HT
          have hst := Lib.hid (fun w' : World => stir_any _ _ w' HF hlx)
          rw [HZ.out] at hst
          clear hlx HF HZ hb
          go_wp2_with (go_at_call 239; refine (hst.out _).mono ?_; rintro e w' ⟨rfl, rfl⟩)
          go_round
          case rel => exact ⟨j + 1, z, by omega, by go_num, rfl, hl2, HT⟩
          case measure => simp [intOf]; omega
        · have hje : j = s.size := by omega
          have HY2 : Hid (crcX 4294967295 (cat (ss.take (k + 1))) = y) := by
            show _ = _
            rw [HSN.out, crcX_append, HX.out, ← HY.out, List.take_of_length_le (by rw [hje]; exact Nat.le_refl _)]
          clear hje HX HY
          go_wp2
          go_round
          case rel => exact ⟨k + 1, y, by omega, by go_num, rfl, hY1, HY2⟩
          case measure => simp [intOf]; omega
    · have hke : k = ss.length := by omega
      have HF : Hid (bits .xor .u32 (x : Int) 4294967295 = ((crc (cat ss) : Nat) : Int)) := by
        show _ = _
        rw [xor_ones x hX1, ← HX.out, hke, List.take_length]
        rfl
      clear HX
      go_wp2
      go_ret
      exact ⟨ret_int HF.out, rfl⟩
set_option maxHeartbeats 1000000 in
theorem crc_none (a : Option Addr) (cap : Nat) (w : World) :
    Calls Tryz.prog 214 #[.slice a 0 cap] w fun e w' => e = .returned (.int .u32 (crc (cat []) : Nat)) ∧ w = w' := by
  go_enter Tryz.func214, Tryz.ntmps214
  go_wp2
  refine wp_loop_rounds 1 ?_
  rw [rounds_succ]
  go_wp2
  go_ret
  exact ⟨rfl, rfl⟩

set_option maxHeartbeats 1000000 in
set_option maxRecDepth 100000 in
theorem lay_any (v : Nat) (w : World) (h : v < 4294967296) :
    Calls Tryz.prog 213 #[.int .u32 v] w fun e w' => e = .returned (.string ⟨(be v 4).toArray⟩) ∧ Below w.heap.size w w' := by
  go_enter Tryz.func213, Tryz.ntmps213
  go_wp2_with (go_at_call 238; refine (fix_ok v 4 _ (by omega) (by omega) (by omega)).mono ?_; rintro e w' ⟨rfl, hb⟩)
  go_ret
  exact ⟨rfl, hb⟩

set_option maxHeartbeats 1000000 in
set_option maxRecDepth 100000 in
theorem sread_any (s : ByteArray) (w : World) (hs : s.size ≤ 9223372036854775807) (h : 4 ≤ s.size) :
    Calls Tryz.prog 244 #[.string s] w fun e w' => e = .returned (.int .u32 (beVal (s.data.toList.take 4) : Nat)) ∧ w = w' := by
  have hl := beVal_lt (s.data.toList.take 4)
  have hll : (s.data.toList.take 4).length ≤ 4 := List.length_take_le _ _
  have hl2 : beVal (s.data.toList.take 4) < 4294967296 := Nat.lt_of_lt_of_le hl (pow256_mono hll)
  have hp : beVal (piece s 0 4) = beVal (s.data.toList.take 4) := by simp [piece]
  clear hl hll
  go_enter Tryz.func244, Tryz.ntmps244
  go_wp2_with (go_at_call 253; refine (unfix_ok s 0 4 _ hs (by omega) (by omega) (by omega)).mono ?_; rintro e w' ⟨rfl, rfl⟩)
  go_ret
  refine ⟨ret_int ?_, rfl⟩
  rfl
end Go.Proofs.YtlgcbapgbpofoaaGreat
