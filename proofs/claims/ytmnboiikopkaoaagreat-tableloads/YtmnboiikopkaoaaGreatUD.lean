/- wal's modulo and Name (WD over other parts), table's Name. -/
import Derived.Test.YtmnboiikopkaoaaGreatZA
import Derived.Test.YtmnboiikopkaoaaGreatZN
namespace Go.Proofs.YtmnboiikopkaoaaGreat
open Go.RowKit

set_option maxHeartbeats 1000000 in
theorem modulo_walk (num : Int) (w : World) (h0 : -9223372036854775808 ≤ num) (h1 : num ≤ 9223372036854775807) :
    Calls Tryz.prog 70 #[.int .i64 num] w fun e w' => e = .returned (.int .i64 (num % 100000000)) ∧ w = w' := by
  obtain ⟨r, hr⟩ : ∃ r, num.tmod 100000000 = r := ⟨_, rfl⟩
  have key : -100000000 < r ∧ r < 100000000 ∧ (r + 100000000) % 100000000 = num % 100000000 := by
    rcases Int.le_total 0 num with hp | hn
    · rw [Int.tmod_eq_emod_of_nonneg hp] at hr
      omega
    · have := Int.neg_tmod (-num) 100000000
      rw [Int.neg_neg, hr, Int.tmod_eq_emod_of_nonneg (by omega)] at this
      omega
  obtain ⟨k1, k2, k3⟩ := key
  have e1 : IntKind.i64.wrap r = r := by rw [IntKind.wrap_i64]; omega
  have e2 : IntKind.i64.wrap (r + 100000000) = r + 100000000 := by rw [IntKind.wrap_i64]; omega
  have e3 : (r + 100000000).tmod 100000000 = num % 100000000 := by
    rw [Int.tmod_eq_emod_of_nonneg (by omega)]
    omega
  have e4 : IntKind.i64.wrap (num % 100000000) = num % 100000000 := by rw [IntKind.wrap_i64]; omega
  go_enter Tryz.func70, Tryz.ntmps70
  go_wp2
  go_ret
  exact ⟨rfl, rfl⟩
/-- A segment's name: a letter, eight digits. -/
def dig8 (m : Nat) : List UInt8 := [UInt8.ofNat (48 + m / 10000000 % 10), UInt8.ofNat (48 + m / 1000000 % 10), UInt8.ofNat (48 + m / 100000 % 10), UInt8.ofNat (48 + m / 10000 % 10), UInt8.ofNat (48 + m / 1000 % 10), UInt8.ofNat (48 + m / 100 % 10), UInt8.ofNat (48 + m / 10 % 10), UInt8.ofNat (48 + m % 10)]
def nameB (m : Nat) : List UInt8 := 119 :: dig8 m
theorem u8_dig (d : Nat) (h : d < 10) : Value.int .u8 (48 + (d : Int)) = .int .u8 ((UInt8.ofNat (48 + d)).toNat : Int) := by
  rw [UInt8.toNat_ofNat_of_lt' (by show 48 + d < 256; omega)]
  congr 1
theorem mod_of (num : Int) : ∃ m : Nat, num % 100000000 = (m : Int) ∧ m < 100000000 := ⟨(num % 100000000).toNat, by omega, by omega⟩
set_option maxHeartbeats 4000000 in
set_option maxRecDepth 100000 in
theorem name_any (num : Int) (w : World) (h0 : -9223372036854775808 ≤ num) (h1 : num ≤ 9223372036854775807) :
    Calls Tryz.prog 36 #[.int .i64 num] w fun e w' => e = .returned (.string ⟨(nameB (num % 100000000).toNat).toArray⟩) ∧ Below w.heap.size w w' := by
  have CM := Lib.hid (modulo_walk num w h0 h1)
  obtain ⟨m, hm, hm8⟩ := mod_of num
  rw [hm] at CM ⊢
  rw [Int.toNat_natCast]
  clear hm h0 h1
  obtain ⟨m1, hm1⟩ : ∃ m1 : Nat, m1 = m / 10 := ⟨_, rfl⟩
  obtain ⟨d0, hd0⟩ : ∃ d0 : Nat, d0 = m % 10 := ⟨_, rfl⟩
  have q0 : (m : Int).tdiv 10 = (m1 : Int) := by rw [Int.tdiv_eq_ediv_of_nonneg (by omega)]; omega
  have r0 : (m : Int).tmod 10 = (d0 : Int) := by rw [Int.tmod_eq_emod_of_nonneg (by omega)]; omega
  have a0 : IntKind.i64.wrap (m1 : Int) = (m1 : Int) := by rw [IntKind.wrap_i64]; omega
  have b0 : IntKind.i64.wrap (d0 : Int) = (d0 : Int) := by rw [IntKind.wrap_i64]; omega
  have c0 : IntKind.u8.wrap (d0 : Int) = (d0 : Int) := by rw [IntKind.wrap_u8]; omega
  have e0 : IntKind.u8.wrap (48 + (d0 : Int)) = 48 + (d0 : Int) := by rw [IntKind.wrap_u8]; omega
  obtain ⟨m2, hm2⟩ : ∃ m2 : Nat, m2 = m1 / 10 := ⟨_, rfl⟩
  obtain ⟨d1, hd1⟩ : ∃ d1 : Nat, d1 = m1 % 10 := ⟨_, rfl⟩
  have q1 : (m1 : Int).tdiv 10 = (m2 : Int) := by rw [Int.tdiv_eq_ediv_of_nonneg (by omega)]; omega
  have r1 : (m1 : Int).tmod 10 = (d1 : Int) := by rw [Int.tmod_eq_emod_of_nonneg (by omega)]; omega
  have a1 : IntKind.i64.wrap (m2 : Int) = (m2 : Int) := by rw [IntKind.wrap_i64]; omega
  have b1 : IntKind.i64.wrap (d1 : Int) = (d1 : Int) := by rw [IntKind.wrap_i64]; omega
  have c1 : IntKind.u8.wrap (d1 : Int) = (d1 : Int) := by rw [IntKind.wrap_u8]; omega
  have e1 : IntKind.u8.wrap (48 + (d1 : Int)) = 48 + (d1 : Int) := by rw [IntKind.wrap_u8]; omega
  obtain ⟨m3, hm3⟩ : ∃ m3 : Nat, m3 = m2 / 10 := ⟨_, rfl⟩
  obtain ⟨d2, hd2⟩ : ∃ d2 : Nat, d2 = m2 % 10 := ⟨_, rfl⟩
  have q2 : (m2 : Int).tdiv 10 = (m3 : Int) := by rw [Int.tdiv_eq_ediv_of_nonneg (by omega)]; omega
  have r2 : (m2 : Int).tmod 10 = (d2 : Int) := by rw [Int.tmod_eq_emod_of_nonneg (by omega)]; omega
  have a2 : IntKind.i64.wrap (m3 : Int) = (m3 : Int) := by rw [IntKind.wrap_i64]; omega
  have b2 : IntKind.i64.wrap (d2 : Int) = (d2 : Int) := by rw [IntKind.wrap_i64]; omega
  have c2 : IntKind.u8.wrap (d2 : Int) = (d2 : Int) := by rw [IntKind.wrap_u8]; omega
  have e2 : IntKind.u8.wrap (48 + (d2 : Int)) = 48 + (d2 : Int) := by rw [IntKind.wrap_u8]; omega
  obtain ⟨m4, hm4⟩ : ∃ m4 : Nat, m4 = m3 / 10 := ⟨_, rfl⟩
  obtain ⟨d3, hd3⟩ : ∃ d3 : Nat, d3 = m3 % 10 := ⟨_, rfl⟩
  have q3 : (m3 : Int).tdiv 10 = (m4 : Int) := by rw [Int.tdiv_eq_ediv_of_nonneg (by omega)]; omega
  have r3 : (m3 : Int).tmod 10 = (d3 : Int) := by rw [Int.tmod_eq_emod_of_nonneg (by omega)]; omega
  have a3 : IntKind.i64.wrap (m4 : Int) = (m4 : Int) := by rw [IntKind.wrap_i64]; omega
  have b3 : IntKind.i64.wrap (d3 : Int) = (d3 : Int) := by rw [IntKind.wrap_i64]; omega
  have c3 : IntKind.u8.wrap (d3 : Int) = (d3 : Int) := by rw [IntKind.wrap_u8]; omega
  have e3 : IntKind.u8.wrap (48 + (d3 : Int)) = 48 + (d3 : Int) := by rw [IntKind.wrap_u8]; omega
  obtain ⟨m5, hm5⟩ : ∃ m5 : Nat, m5 = m4 / 10 := ⟨_, rfl⟩
  obtain ⟨d4, hd4⟩ : ∃ d4 : Nat, d4 = m4 % 10 := ⟨_, rfl⟩
  have q4 : (m4 : Int).tdiv 10 = (m5 : Int) := by rw [Int.tdiv_eq_ediv_of_nonneg (by omega)]; omega
  have r4 : (m4 : Int).tmod 10 = (d4 : Int) := by rw [Int.tmod_eq_emod_of_nonneg (by omega)]; omega
  have a4 : IntKind.i64.wrap (m5 : Int) = (m5 : Int) := by rw [IntKind.wrap_i64]; omega
  have b4 : IntKind.i64.wrap (d4 : Int) = (d4 : Int) := by rw [IntKind.wrap_i64]; omega
  have c4 : IntKind.u8.wrap (d4 : Int) = (d4 : Int) := by rw [IntKind.wrap_u8]; omega
  have e4 : IntKind.u8.wrap (48 + (d4 : Int)) = 48 + (d4 : Int) := by rw [IntKind.wrap_u8]; omega
  obtain ⟨m6, hm6⟩ : ∃ m6 : Nat, m6 = m5 / 10 := ⟨_, rfl⟩
  obtain ⟨d5, hd5⟩ : ∃ d5 : Nat, d5 = m5 % 10 := ⟨_, rfl⟩
  have q5 : (m5 : Int).tdiv 10 = (m6 : Int) := by rw [Int.tdiv_eq_ediv_of_nonneg (by omega)]; omega
  have r5 : (m5 : Int).tmod 10 = (d5 : Int) := by rw [Int.tmod_eq_emod_of_nonneg (by omega)]; omega
  have a5 : IntKind.i64.wrap (m6 : Int) = (m6 : Int) := by rw [IntKind.wrap_i64]; omega
  have b5 : IntKind.i64.wrap (d5 : Int) = (d5 : Int) := by rw [IntKind.wrap_i64]; omega
  have c5 : IntKind.u8.wrap (d5 : Int) = (d5 : Int) := by rw [IntKind.wrap_u8]; omega
  have e5 : IntKind.u8.wrap (48 + (d5 : Int)) = 48 + (d5 : Int) := by rw [IntKind.wrap_u8]; omega
  obtain ⟨m7, hm7⟩ : ∃ m7 : Nat, m7 = m6 / 10 := ⟨_, rfl⟩
  obtain ⟨d6, hd6⟩ : ∃ d6 : Nat, d6 = m6 % 10 := ⟨_, rfl⟩
  have q6 : (m6 : Int).tdiv 10 = (m7 : Int) := by rw [Int.tdiv_eq_ediv_of_nonneg (by omega)]; omega
  have r6 : (m6 : Int).tmod 10 = (d6 : Int) := by rw [Int.tmod_eq_emod_of_nonneg (by omega)]; omega
  have a6 : IntKind.i64.wrap (m7 : Int) = (m7 : Int) := by rw [IntKind.wrap_i64]; omega
  have b6 : IntKind.i64.wrap (d6 : Int) = (d6 : Int) := by rw [IntKind.wrap_i64]; omega
  have c6 : IntKind.u8.wrap (d6 : Int) = (d6 : Int) := by rw [IntKind.wrap_u8]; omega
  have e6 : IntKind.u8.wrap (48 + (d6 : Int)) = 48 + (d6 : Int) := by rw [IntKind.wrap_u8]; omega
  obtain ⟨m8, hm8⟩ : ∃ m8 : Nat, m8 = m7 / 10 := ⟨_, rfl⟩
  obtain ⟨d7, hd7⟩ : ∃ d7 : Nat, d7 = m7 % 10 := ⟨_, rfl⟩
  have q7 : (m7 : Int).tdiv 10 = (m8 : Int) := by rw [Int.tdiv_eq_ediv_of_nonneg (by omega)]; omega
  have r7 : (m7 : Int).tmod 10 = (d7 : Int) := by rw [Int.tmod_eq_emod_of_nonneg (by omega)]; omega
  have a7 : IntKind.i64.wrap (m8 : Int) = (m8 : Int) := by rw [IntKind.wrap_i64]; omega
  have b7 : IntKind.i64.wrap (d7 : Int) = (d7 : Int) := by rw [IntKind.wrap_i64]; omega
  have c7 : IntKind.u8.wrap (d7 : Int) = (d7 : Int) := by rw [IntKind.wrap_u8]; omega
  have e7 : IntKind.u8.wrap (48 + (d7 : Int)) = 48 + (d7 : Int) := by rw [IntKind.wrap_u8]; omega
  have HE := Lib.hid (show d0 = m / 1 % 10 ∧ d1 = m / 10 % 10 ∧ d2 = m / 100 % 10 ∧ d3 = m / 1000 % 10 ∧ d4 = m / 10000 % 10 ∧ d5 = m / 100000 % 10 ∧ d6 = m / 1000000 % 10 ∧ d7 = m / 10000000 % 10 by omega)
  have hd : d0 < 10 ∧ d1 < 10 ∧ d2 < 10 ∧ d3 < 10 ∧ d4 < 10 ∧ d5 < 10 ∧ d6 < 10 ∧ d7 < 10 := by omega
  obtain ⟨WN, hWN⟩ : ∃ WN, w.alloc (.cells #[.int .u8 119, .int .u8 (48 + (d7 : Int)), .int .u8 (48 + (d6 : Int)), .int .u8 (48 + (d5 : Int)), .int .u8 (48 + (d4 : Int)), .int .u8 (48 + (d3 : Int)), .int .u8 (48 + (d2 : Int)), .int .u8 (48 + (d1 : Int)), .int .u8 (48 + (d0 : Int))] 122) = WN := ⟨_, rfl⟩
  have hcv : (convert 78 9 (.slice (some ⟨w.heap.size, 0, none⟩) 9 9)).run Tryz.prog WN = .ok (.string ⟨(nameB m).toArray⟩) WN := by
    have hl : nameB m = [119, UInt8.ofNat (48 + d7), UInt8.ofNat (48 + d6), UInt8.ofNat (48 + d5), UInt8.ofNat (48 + d4), UInt8.ofNat (48 + d3), UInt8.ofNat (48 + d2), UInt8.ofNat (48 + d1), UInt8.ofNat (48 + d0)] := by
      have := HE.out
      unfold nameB dig8
      simp only [this, Nat.div_one]
    rw [hl]
    exact run_convert_bytes_back (P := Tryz.prog) WN 78 9 5 ⟨w.heap.size, 0, none⟩ 9 [119, UInt8.ofNat (48 + d7), UInt8.ofNat (48 + d6), UInt8.ofNat (48 + d5), UInt8.ofNat (48 + d4), UInt8.ofNat (48 + d3), UInt8.ofNat (48 + d2), UInt8.ofNat (48 + d1), UInt8.ofNat (48 + d0)] Tryz.underlying78 Tryz.underlying5 Tryz.underlying9 (fun j hj => by
      rw [← hWN]
      rw [show (⟨w.heap.size, 0, none⟩ : Addr).add j = ⟨w.heap.size, j, none⟩ by unfold Addr.add; split <;> simp_all]
      match j, hj with
      | 0, _ => exact nce rfl rfl
      | 1, _ => exact (nce rfl rfl).trans (congrArg some (u8_dig d7 (by omega)))
      | 2, _ => exact (nce rfl rfl).trans (congrArg some (u8_dig d6 (by omega)))
      | 3, _ => exact (nce rfl rfl).trans (congrArg some (u8_dig d5 (by omega)))
      | 4, _ => exact (nce rfl rfl).trans (congrArg some (u8_dig d4 (by omega)))
      | 5, _ => exact (nce rfl rfl).trans (congrArg some (u8_dig d3 (by omega)))
      | 6, _ => exact (nce rfl rfl).trans (congrArg some (u8_dig d2 (by omega)))
      | 7, _ => exact (nce rfl rfl).trans (congrArg some (u8_dig d1 (by omega)))
      | 8, _ => exact (nce rfl rfl).trans (congrArg some (u8_dig d0 (by omega))))
  have bN : Below w.heap.size w WN := by rw [← hWN]; exact (Below.refl _ _).alloc (Nat.le_refl _) _
  clear hm1 hd0 hm2 hd1 hm3 hd2 hm4 hd3 hm5 hd4 hm6 hd5 hm7 hd6 hm8 hd7 hd HE
  go_enter Tryz.func36, Tryz.ntmps36
  go_wp2_with (fail)
  go_at_call 70
  refine CM.out.mono ?_
  rintro _ _ ⟨rfl, rfl⟩
  go_wp2
  refine wp_loop_rounds 9 ?_
  iterate 9 (rw [rounds_succ]; go_wp2)
  go_ret
  exact ⟨rfl, bN⟩
set_option maxHeartbeats 1000000 in
/-- A table's name. -/
theorem tname_any (num : Int) (w : World) (h0 : -9223372036854775808 ≤ num) (h1 : num ≤ 9223372036854775807) :
    Calls Tryz.prog 13 #[.int .i64 num] w fun e w' => e = .returned (.string ⟨(116 :: dig8 (num % 100000000).toNat).toArray⟩) ∧ Below w.heap.size w w' := by
  have CN := Lib.hid (name_any num w h0 h1)
  obtain ⟨m, hm⟩ : ∃ m, (num % 100000000).toNat = m := ⟨_, rfl⟩
  rw [hm] at CN ⊢
  obtain ⟨S, hS⟩ : ∃ S : ByteArray, ⟨(nameB m).toArray⟩ = S := ⟨_, rfl⟩
  have hSd : S.data.toList = nameB m := by rw [← hS]
  have hSs : S.size = 9 := by rw [← len_data', hSd]; rfl
  rw [hS] at CN
  have k1 : (1 : Int) ≤ (S.size : Int) := by omega
  obtain ⟨E, hE⟩ : ∃ E, S.extract 1 S.size = E := ⟨_, rfl⟩
  have hEd : E.data.toList = dig8 m := by rw [← hE, ext_from, hSd]; rfl
  have hEs : E.size = 8 := by rw [← len_data', hEd]; rfl
  have HR := Lib.hid (show (⟨#[116]⟩ : ByteArray) ++ E = ⟨(116 :: dig8 m).toArray⟩ by
    apply bytes_ext
    rw [ByteArray.data_append, Array.toList_append, hEd]
    rfl)
  have k3 : ¬ (9223372036854775807 < (⟨#[116]⟩ : ByteArray).size + E.size) := by rw [hEs]; decide
  have k4 : (⟨#[116]⟩ : ByteArray).data.size + E.data.size ≤ 9223372036854775807 := by show 1 + E.size ≤ _; omega
  clear hS hSd hSs hEd hEs h0 h1 hm
  go_enter Tryz.func13, Tryz.ntmps13
  go_wp2_with (go_at_call 36; (with_reducible refine CN.out.mono ?_); rintro _ w1 ⟨rfl, b1⟩)
  go_ret
  exact ⟨by rw [← HR.out]; rfl, b1⟩
theorem name7 (W : World) : Calls Tryz.prog 13 #[.int .i64 7] W fun e w' => e = .returned (.string ⟨#[116, 48, 48, 48, 48, 48, 48, 48, 55]⟩) ∧ Below W.heap.size W w' := by
  have := tname_any 7 W (by omega) (by omega)
  exact this
end Go.Proofs.YtmnboiikopkaoaaGreat
