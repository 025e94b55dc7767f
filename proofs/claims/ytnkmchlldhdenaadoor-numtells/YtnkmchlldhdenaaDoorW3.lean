/- Contracts of num.Digits, num.NewReader and num.cutVar: what each returns, for every argument (Digits: where the library's table of powers reads as its text lays it). -/
import Derived.Test.YtnkmchlldhdenaaDoorW2
import Derived.Test.YtnkmchlldhdenaaDoorShelf
import Derived.Lib.AppendIntMem
import Derived.Lib.ItoaLen
import Derived.Lib.VarintBits
import Derived.BigQuiet
import Derived.Deep.QuietTactic
namespace Go.Proofs.YtnkmchlldhdenaaDoor
open Go.RowKit

/-- The library's table of powers of ten reads as its text lays it, whatever is done from block B on. -/
def Tab (B : Nat) (w : World) : Prop := Lib.TabBelow Tryd.prog B w "internal/strconv.uint64pow10" .u64 Lib.pow10Tab
theorem Tab.on {B : Nat} {w w1 : World} (h : Tab B w) (hb : Below B w w1) : Tab B w1 := Lib.TabBelow.on h hb

set_option maxHeartbeats 1000000 in
set_option maxRecDepth 100000 in
theorem digits_any (v : Int) (h0 : -9223372036854775808 ≤ v) (h1 : v ≤ 9223372036854775807) (B : Nat) (w : World) (htab : Tab B w) :
    Calls Tryd.prog 27 #[.int .i64 v] w fun e w' => e = .returned (.string ⟨(Lib.itoa v).toArray⟩) ∧ Below w.heap.size w w' := by
  have hT := htab.here
  go_enter Tryd.func27, Tryd.ntmps27
  go_wp2_with (go_at_call 50; refine (Tryd.strconv_Itoa v h0 h1 w hT).mono ?_; rintro e w' ⟨rfl, k, os, rfl⟩)
  go_ret
  exact ⟨rfl, Lib.below_grow _ _ (Nat.le_refl _) _ _⟩

/-- A reader in memory: its bytes, its error; not frozen. -/
structure IsRd (w : World) (b : Nat) (s : ByteArray) (e : Int) : Prop where
  c0 : w.cell? ⟨b, 0, none⟩ = some (.string s)
  c1 : w.cell? ⟨b, 1, none⟩ = some (.int .i64 e)
  f0 : w.frozen? ⟨b, 0, none⟩ = false
  f1 : w.frozen? ⟨b, 1, none⟩ = false

set_option maxHeartbeats 1000000 in
theorem newReader_any (s : ByteArray) (w : World) :
    Calls Tryd.prog 43 #[.string s] w fun e w' => e = .returned (.pointer (some ⟨w.heap.size, 0, none⟩)) ∧ IsRd w' w.heap.size s 0 ∧ Below w.heap.size w w' ∧ w'.heap.size = w.heap.size + 1 := by
  go_enter Tryd.func43, Tryd.ntmps43
  go_wp2
  go_ret
  exact ⟨rfl, ⟨by simp, by simp, by simp, by simp⟩, (Below.refl _ _).alloc (Nat.le_refl _) _, by simp⟩

/-- What is read of bytes as a number: the number, what is behind it, the error (4: form, 5: short). -/
def decV (i acc : Nat) : List UInt8 → Nat × List UInt8 × Int
  | [] => (0, [], 5)
  | b :: r => if (i = 9 ∧ 1 < b.toNat) ∨ (0 < i ∧ b.toNat = 0) then (0, [], 4) else if b.toNat < 128 then (acc + b.toNat * 2 ^ (7 * i), r, 0) else decV (i + 1) (acc + b.toNat % 128 * 2 ^ (7 * i)) r

theorem drop_cons (s : ByteArray) (k : Nat) (h : k < s.size) : s.data.toList.drop k = s[k] :: s.data.toList.drop (k + 1) := by
  have h1 : k < s.data.toList.length := by rw [Array.length_toList]; exact h
  rw [List.drop_eq_getElem_cons h1]
  rfl

theorem ret_cut {a a' : Int} {b b' : ByteArray} {c : Int} (h1 : a = a') (h2 : b = b') : Ending.returned (.tuple #[.int .u64 a, .string b, .int .i64 c]) = .returned (.tuple #[.int .u64 a', .string b', .int .i64 c]) := by rw [h1, h2]

theorem decV_bad (i acc : Nat) (b : UInt8) (r : List UInt8) (h : (i = 9 ∧ 1 < b.toNat) ∨ (0 < i ∧ b.toNat = 0)) : decV i acc (b :: r) = (0, [], 4) := by
  rw [decV, if_pos h]
theorem decV_last (i acc : Nat) (b : UInt8) (r : List UInt8) (h : ¬ ((i = 9 ∧ 1 < b.toNat) ∨ (0 < i ∧ b.toNat = 0))) (h1 : b.toNat < 128) : decV i acc (b :: r) = (acc + b.toNat * 2 ^ (7 * i), r, 0) := by
  rw [decV, if_neg h, if_pos h1]
theorem decV_on (i acc : Nat) (b : UInt8) (r : List UInt8) (h : ¬ ((i = 9 ∧ 1 < b.toNat) ∨ (0 < i ∧ b.toNat = 0))) (h1 : ¬ b.toNat < 128) : decV i acc (b :: r) = decV (i + 1) (acc + b.toNat % 128 * 2 ^ (7 * i)) r := by
  rw [decV, if_neg h, if_neg h1]

theorem drop_str (s : ByteArray) (a : Nat) : s.extract a s.size = ⟨(s.data.toList.drop a).toArray⟩ := by
  apply ByteArray.ext
  apply Array.toList_inj.1
  rw [Lib.extract_data]
  simp only []
  rw [List.take_of_length_le]
  rw [List.length_drop, Array.length_toList]
  exact Nat.le_refl _

/-- Seven bits more, behind acc. -/
theorem or_group (acc k : Nat) (b : UInt8) (hk : k ≤ 9) (ha : acc < 2 ^ (7 * k)) (h9 : k = 9 → b.toNat ≤ 1) :
    bits .or .u64 (acc : Int) (IntKind.u64.wrap (IntKind.u64.wrap (bits .and .u8 (b.toNat : Int) 127) * 2 ^ (7 * k))) = ((acc + b.toNat % 128 * 2 ^ (7 * k) : Nat) : Int) := by
  have hb := b.toNat_lt
  have e1 : bits .and .u8 (b.toNat : Int) 127 = ((b.toNat % 128 : Nat) : Int) := by rw [u8_and127 _ (by omega) (by omega)]; omega
  have e2 : IntKind.u64.wrap ((b.toNat % 128 : Nat) : Int) = ((b.toNat % 128 : Nat) : Int) := by rw [IntKind.wrap_u64]; omega
  have hp : 2 ^ (7 * k) ≤ 2 ^ (7 * 9) := Nat.pow_le_pow_right (by omega) (by omega)
  have hm : b.toNat % 128 * 2 ^ (7 * k) < 18446744073709551616 := by
    by_cases h : k = 9
    · subst h
      have := h9 rfl
      have hc : b.toNat % 128 ≤ 1 := by omega
      have := Nat.mul_le_mul_right (2 ^ (7 * 9)) hc
      omega
    · have hp' : 2 ^ (7 * k) ≤ 2 ^ (7 * 8) := Nat.pow_le_pow_right (by omega) (by omega)
      have h1 : b.toNat % 128 ≤ 127 := by omega
      have := Nat.mul_le_mul h1 hp'
      omega
  have e3 : ((b.toNat % 128 : Nat) : Int) * 2 ^ (7 * k) = ((b.toNat % 128 * 2 ^ (7 * k) : Nat) : Int) := by simp
  rw [e1, e2, e3, show IntKind.u64.wrap ((b.toNat % 128 * 2 ^ (7 * k) : Nat) : Int) = ((b.toNat % 128 * 2 ^ (7 * k) : Nat) : Int) by rw [IntKind.wrap_u64]; omega]
  rw [u64_or_nat _ _ (by omega) hm, Nat.or_comm, nat_join (7 * k) _ _ (Nat.mul_mod_left _ _) ha, Nat.add_comm]

theorem group_lt (acc k : Nat) (b : UInt8) (ha : acc < 2 ^ (7 * k)) : acc + b.toNat % 128 * 2 ^ (7 * k) < 2 ^ (7 * (k + 1)) := by
  have h1 : b.toNat % 128 ≤ 127 := by omega
  have h2 := Nat.mul_le_mul_right (2 ^ (7 * k)) h1
  have h3 : 2 ^ (7 * (k + 1)) = 128 * 2 ^ (7 * k) := by rw [Nat.mul_add, Nat.pow_add]; omega
  omega

set_option maxHeartbeats 1000000 in
set_option maxRecDepth 100000 in
theorem cutVar_any (s : ByteArray) (w : World) (hs : s.size ≤ 9223372036854775807) :
    Calls Tryd.prog 53 #[.string s] w fun e w' => e = .returned (.tuple #[.int .u64 (decV 0 0 s.data.toList).1, .string ⟨(decV 0 0 s.data.toList).2.1.toArray⟩, .int .i64 (decV 0 0 s.data.toList).2.2]) ∧ ∃ n, w' = w.drewN n := by
  go_enter Tryd.func53, Tryd.ntmps53
  go_wp2
  go_loop [5, 10] (fun v i => ∃ (k acc : Nat) (X : Int), k ≤ s.size ∧ k ≤ 9 ∧ i = .int .i64 k ∧ v = .int .u64 X ∧ Hid (X = (acc : Int) ∧ acc < 2 ^ (7 * k) ∧ decV 0 0 s.data.toList = decV k acc (s.data.toList.drop k))) (fun _ i => s.size - (intOf i).toNat)
  case atStart => exact ⟨0, 0, 0, Nat.zero_le _, by omega, rfl, rfl, rfl, by decide, rfl⟩
  case round =>
    obtain ⟨k, acc, X, hk, hk9, rfl, rfl, HX⟩ := hrel
    by_cases hlt : k < s.size
    · have HD := Lib.hid (drop_cons s k hlt)
      have HS := Lib.hid (drop_str s (k + 1))
      go_wp2
      · have h9 : (k : Int) = 9 := by assumption
        have hb : 1 < (s[k].toNat : Int) ∨ ((s[k].toNat : Int) == 0) = true := by assumption
        have hv : decV 0 0 s.data.toList = (0, [], 4) := by
          rw [HX.out.2.2, HD.out]
          refine decV_bad _ _ _ _ ?_
          rcases hb with hb | hb
          · exact .inl ⟨by omega, by omega⟩
          · have := WalkArith.int_eq hb; exact .inr ⟨by omega, by omega⟩
        go_ret3
        exact ⟨by rw [hv]; rfl, 0, rfl⟩
      · have h9 : (k : Int) = 9 := by assumption
        have hb : (s[k].toNat : Int) ≤ 1 ∧ ((s[k].toNat : Int) == 0) = false := by assumption
        have hv : decV 0 0 s.data.toList = (acc + s[k].toNat * 2 ^ (7 * k), s.data.toList.drop (k + 1), 0) := by
          rw [HX.out.2.2, HD.out]
          have := WalkArith.int_ne hb.2
          exact decV_last _ _ _ _ (by omega) (by omega)
        have hor := Lib.hid (or_group acc k s[k] hk9 HX.out.2.1 (by omega))
        have hmod : s[k].toNat % 128 = s[k].toNat := by omega
        have hp : Hid ((2 : Int) ^ (7 * k) = 9223372036854775808) := by show _ = _; rw [show k = 9 by omega]; decide
        have hk10 : Hid (k + 1 = 10) := by show _ = _; omega
        have HS' := Lib.hid (drop_str s 10)
        clear HS
        go_quiet (fail)
        go_wp2
        go_ret3
        rw [hv]
        refine ⟨ret_cut ?_ ?_, nq, rfl⟩
        · have := hor.out
          rw [hp.out] at this
          rw [HX.out.1, this, hmod]
        · rw [hk10.out]
          exact HS'.out
      · have h9 : (k : Int) = 9 := by assumption
        have hb : 1 < (s[k].toNat : Int) := by assumption
        have hv : decV 0 0 s.data.toList = (0, [], 4) := by
          rw [HX.out.2.2, HD.out]
          exact decV_bad _ _ _ _ (.inl ⟨by omega, by omega⟩)
        go_ret3
        exact ⟨by rw [hv]; rfl, 0, rfl⟩
      · have h0 : 0 < k := by assumption
        have hb : ((s[k].toNat : Int) == 0) = true := by assumption
        have hv : decV 0 0 s.data.toList = (0, [], 4) := by
          rw [HX.out.2.2, HD.out]
          have := WalkArith.int_eq hb
          exact decV_bad _ _ _ _ (.inr ⟨by omega, by omega⟩)
        go_ret3
        exact ⟨by rw [hv]; rfl, 0, rfl⟩
      · have h9 : ¬ (k : Int) = 9 := by assumption
        have hb0 : ((s[k].toNat : Int) == 0) = false := by assumption
        have hb : (s[k].toNat : Int) < 128 := by assumption
        have hv : decV 0 0 s.data.toList = (acc + s[k].toNat * 2 ^ (7 * k), s.data.toList.drop (k + 1), 0) := by
          rw [HX.out.2.2, HD.out]
          have := WalkArith.int_ne hb0
          exact decV_last _ _ _ _ (by omega) (by omega)
        have hor := Lib.hid (or_group acc k s[k] hk9 HX.out.2.1 (by omega))
        have hmod : s[k].toNat % 128 = s[k].toNat := by omega
        go_quiet (fail)
        go_wp2
        go_ret3
        rw [hv]
        exact ⟨ret_cut (by rw [HX.out.1, hor.out, hmod]) HS.out, nq, rfl⟩
      · have h9 : ¬ (k : Int) = 9 := by assumption
        have hb0 : ((s[k].toNat : Int) == 0) = false := by assumption
        have hb : 128 ≤ (s[k].toNat : Int) := by assumption
        have hor := or_group acc k s[k] hk9 HX.out.2.1 (by omega)
        go_round
        case rel =>
          refine ⟨k + 1, acc + s[k].toNat % 128 * 2 ^ (7 * k), _, by omega, by omega, by go_num, rfl, ?_⟩
          refine ⟨by rw [HX.out.1, hor], group_lt _ _ _ HX.out.2.1, ?_⟩
          have := WalkArith.int_ne hb0
          rw [HX.out.2.2, HD.out, decV_on _ _ _ _ (by omega) (by omega)]
        case measure => simp [intOf]; omega
      · have h9 : ¬ 0 < k := by assumption
        have hb : (s[k].toNat : Int) < 128 := by assumption
        have hv : decV 0 0 s.data.toList = (acc + s[k].toNat * 2 ^ (7 * k), s.data.toList.drop (k + 1), 0) := by
          rw [HX.out.2.2, HD.out]
          exact decV_last _ _ _ _ (by omega) (by omega)
        have hor := Lib.hid (or_group acc k s[k] hk9 HX.out.2.1 (by omega))
        have hmod : s[k].toNat % 128 = s[k].toNat := by omega
        go_quiet (fail)
        go_wp2
        go_ret3
        rw [hv]
        exact ⟨ret_cut (by rw [HX.out.1, hor.out, hmod]) HS.out, nq, rfl⟩
      · have h9 : ¬ 0 < k := by assumption
        have hb : 128 ≤ (s[k].toNat : Int) := by assumption
        have hor := or_group acc k s[k] hk9 HX.out.2.1 (by omega)
        go_round
        case rel =>
          refine ⟨k + 1, acc + s[k].toNat % 128 * 2 ^ (7 * k), _, by omega, by omega, by go_num, rfl, ?_⟩
          refine ⟨by rw [HX.out.1, hor], group_lt _ _ _ HX.out.2.1, ?_⟩
          rw [HX.out.2.2, HD.out, decV_on _ _ _ _ (by omega) (by omega)]
        case measure => simp [intOf]; omega
    · have hke : k = s.size := by omega
      have hv : decV 0 0 s.data.toList = (0, [], 5) := by
        rw [HX.out.2.2, List.drop_of_length_le (by rw [Array.length_toList]; show s.size ≤ k; omega)]
        rfl
      go_wp2
      go_ret3
      exact ⟨rfl, 0, rfl⟩
end Go.Proofs.YtnkmchlldhdenaaDoor
