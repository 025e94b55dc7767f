/- Contracts: the number of a text, in the program and in the document's own words. -/
import Derived.Test.YtdbdifbcfplegaaG1
namespace Go.Proofs.Ytdbdifbcfplegaa
open Go.RowKit

theorem ret_int {k : IntKind} {a b : Int} (h : a = b) : Ending.returned (.int k a) = .returned (.int k b) := by rw [h]
theorem take_snoc (s : ByteArray) (k : Nat) (h : k < s.size) : s.data.toList.take (k + 1) = s.data.toList.take k ++ [s[k]] := by
  rw [List.take_succ_eq_append_getElem (by simpa using h)]; rfl
theorem hstep_form (y : Nat) (b : UInt8) (h : y < 4294967296) : (bits .xor .u32 (y : Int) ((b.toNat : Int) % 4294967296) * 16777619) % 4294967296 = ((hstep y b : Nat) : Int) := by
  have := b.toNat_lt
  rw [show ((b.toNat : Int) % 4294967296) = (b.toNat : Int) by omega, u32_xor_nat _ _ h (by omega)]
  unfold hstep
  omega
theorem hstart_form (seed : Nat) (h : seed < 4294967296) : bits .xor .u32 (seed : Int) 2166136261 = ((seed ^^^ 2166136261 : Nat) : Int) := u32_xor_nat _ 2166136261 h (by omega)
theorem hfin_form (y : Nat) (h : y < 4294967296) : bits .xor .u32 (y : Int) ((y : Int) / 32768) = ((hfin y : Nat) : Int) := by
  rw [show (y : Int) / 32768 = ((y / 32768 : Nat) : Int) by omega]
  exact u32_xor_nat _ _ h (by omega)

set_option maxHeartbeats 1000000 in
set_option maxRecDepth 100000 in
theorem hash_any (s : ByteArray) (seed : Nat) (w : World) (hs : s.size ≤ 9223372036854775807) (hd : seed < 4294967296) :
    Calls Try.prog 11 #[.string s, .int .u32 (seed : Int)] w fun e w' => e = .returned (.int .u32 (hashN s.data.toList seed : Nat)) ∧ w = w' := by
  have H0 := Lib.hid (hstart_form seed hd)
  have hx0 : seed ^^^ 2166136261 < 4294967296 := xor_lt32' hd (by omega)
  go_enter Try.func11, Try.ntmps11
  go_wp2
  go_loop [5, 11] (fun v i => ∃ (j y : Nat), j ≤ s.size ∧ i = .int .i64 j ∧ v = .int .u32 (y : Int) ∧ y < 4294967296 ∧ Hid (hashX (seed ^^^ 2166136261) (s.data.toList.take j) = y)) (fun _ i => s.size - (intOf i).toNat)
  case atStart => exact ⟨0, _, Nat.zero_le _, rfl, by rw [H0.out], hx0, rfl⟩
  case round =>
    obtain ⟨j, y, hj, rfl, rfl, hY1, HY⟩ := hrel
    by_cases hjl : j < s.size
    · have HT : Hid (hashX (seed ^^^ 2166136261) (s.data.toList.take (j + 1)) = hstep y s[j]) := by
        show _ = _
        rw [take_snoc s j hjl, hashX_snoc, HY.out]
      have HF := Lib.hid (hstep_form y s[j] hY1)
      have hl2 : hstep y s[j] < 4294967296 := Nat.mod_lt _ (by omega)
      go_wp2
      go_round
      case rel => exact ⟨j + 1, _, by omega, by go_num, by rw [HF.out], hl2, HT⟩
      case measure => simp [intOf]; omega
    · have hje : j = s.size := by omega
      have HF : Hid (bits .xor .u32 (y : Int) ((y : Int) / 32768) = ((hashN s.data.toList seed : Nat) : Int)) := by
        show _ = _
        rw [hfin_form y hY1, ← HY.out, hje, List.take_of_length_le (by exact Nat.le_refl _)]
        rfl
      clear HY hje
      go_wp2
      go_ret
      exact ⟨ret_int HF.out, rfl⟩
set_option maxHeartbeats 1000000 in
set_option maxRecDepth 100000 in
theorem rhash_any (s : ByteArray) (seed : Nat) (w : World) (hs : s.size ≤ 9223372036854775807) (hd : seed < 4294967296) :
    Calls Try.prog 12 #[.string s, .int .u32 (seed : Int)] w fun e w' => e = .returned (.int .u32 (hashN s.data.toList seed : Nat)) ∧ w = w' := by
  have H0 := Lib.hid (hstart_form seed hd)
  have hx0 : seed ^^^ 2166136261 < 4294967296 := xor_lt32' hd (by omega)
  go_enter Try.func12, Try.ntmps12
  go_wp2
  go_loop [5, 6] (fun v i => ∃ (j y : Nat), j ≤ s.size ∧ i = .int .i64 j ∧ v = .int .u32 (y : Int) ∧ y < 4294967296 ∧ Hid (hashX (seed ^^^ 2166136261) (s.data.toList.take j) = y)) (fun _ i => s.size - (intOf i).toNat)
  case atStart => exact ⟨0, _, Nat.zero_le _, rfl, by rw [H0.out], hx0, rfl⟩
  case round =>
    obtain ⟨j, y, hj, rfl, rfl, hY1, HY⟩ := hrel
    by_cases hjl : j < s.size
    · have HT : Hid (hashX (seed ^^^ 2166136261) (s.data.toList.take (j + 1)) = hstep y s[j]) := by
        show _ = _
        rw [take_snoc s j hjl, hashX_snoc, HY.out]
      have HF := Lib.hid (hstep_form y s[j] hY1)
      have hl2 : hstep y s[j] < 4294967296 := Nat.mod_lt _ (by omega)
      go_wp2
      go_round
      case rel => exact ⟨j + 1, _, by omega, by go_num, by rw [HF.out], hl2, HT⟩
      case measure => simp [intOf]; omega
    · have hje : j = s.size := by omega
      have HF : Hid (bits .xor .u32 (y : Int) ((y : Int) / 32768) = ((hashN s.data.toList seed : Nat) : Int)) := by
        show _ = _
        rw [hfin_form y hY1, ← HY.out, hje, List.take_of_length_le (by exact Nat.le_refl _)]
        rfl
      clear HY hje
      go_wp2
      go_ret
      exact ⟨ret_int HF.out, rfl⟩
end Go.Proofs.Ytdbdifbcfplegaa
