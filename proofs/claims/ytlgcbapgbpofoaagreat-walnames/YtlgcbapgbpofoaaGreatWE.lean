/- wal's number: which names are segments, and which number each has. -/
import Derived.Test.YtlgcbapgbpofoaaGreatWD
namespace Go.Proofs.YtlgcbapgbpofoaaGreat
open Go.RowKit

def isDg (b : UInt8) : Bool := decide (48 ≤ b.toNat ∧ b.toNat ≤ 57)
def dgVal (l : List UInt8) : Nat := l.foldl (fun a b => a * 10 + (b.toNat - 48)) 0
theorem dgVal_snoc (l : List UInt8) (b : UInt8) : dgVal (l ++ [b]) = dgVal l * 10 + (b.toNat - 48) := by simp [dgVal, List.foldl_append]
theorem dgVal_from : ∀ (l : List UInt8), l.all isDg = true → ∀ a, l.foldl (fun a b => a * 10 + (b.toNat - 48)) a < (a + 1) * 10 ^ l.length
  | [], _, a => by simp
  | b :: r, h, a => by
    rw [List.all_cons, Bool.and_eq_true] at h
    have hb : b.toNat ≤ 57 := by have := h.1; simp only [isDg, decide_eq_true_eq] at this; exact this.2
    have h2 := dgVal_from r h.2 (a * 10 + (b.toNat - 48))
    simp only [List.foldl_cons, List.length_cons]
    refine Nat.lt_of_lt_of_le h2 ?_
    rw [Nat.pow_succ, Nat.mul_comm (10 ^ r.length) 10, ← Nat.mul_assoc]
    exact Nat.mul_le_mul_right _ (by omega)
theorem dgVal_lt (l : List UInt8) (h : l.all isDg = true) (n : Nat) (hn : l.length ≤ n) : dgVal l < 10 ^ n := by
  have h1 : dgVal l < 1 * 10 ^ l.length := by simpa [dgVal] using dgVal_from l h 0
  have h2 : 10 ^ l.length ≤ 10 ^ n := Nat.pow_le_pow_right (by omega) hn
  omega
/-- The number of a segment of this name. -/
def numOf (l : List UInt8) : Option Nat := if l.length = 9 ∧ l.head? = some 119 ∧ (l.drop 1).all isDg = true then some (dgVal (l.drop 1)) else none
def numV (l : List UInt8) : Value := match numOf l with
  | some v => .tuple #[.int .i64 (v : Int), .bool true]
  | none => .tuple #[.int .i64 0, .bool false]
theorem numV_no {l : List UInt8} (h : ¬ (l.length = 9 ∧ l.head? = some 119 ∧ (l.drop 1).all isDg = true)) : numV l = .tuple #[.int .i64 0, .bool false] := by
  unfold numV numOf
  rw [if_neg h]
theorem numV_yes {l : List UInt8} (h : l.length = 9 ∧ l.head? = some 119 ∧ (l.drop 1).all isDg = true) : numV l = .tuple #[.int .i64 (dgVal (l.drop 1) : Int), .bool true] := by
  unfold numV numOf
  rw [if_pos h]
theorem u8_of {n : Nat} (h : n < 256) : (UInt8.ofNat n).toNat = n := UInt8.toNat_ofNat_of_lt' (by show n < 256; exact h)
theorem numOf_name (m : Nat) (h : m < 100000000) : numOf (nameB m) = some m := by
  have e : dgVal ((nameB m).drop 1) = m := by
    simp only [nameB, dig8, List.drop_succ_cons, List.drop_zero, dgVal, List.foldl_cons, List.foldl_nil]
    rw [u8_of (by omega), u8_of (by omega), u8_of (by omega), u8_of (by omega), u8_of (by omega), u8_of (by omega), u8_of (by omega), u8_of (by omega)]
    omega
  unfold numOf
  rw [if_pos, e]
  refine ⟨rfl, rfl, ?_⟩
  simp only [nameB, dig8, List.drop_succ_cons, List.drop_zero, List.all_cons, List.all_nil, Bool.and_true, Bool.and_eq_true, isDg, decide_eq_true_eq]
  rw [u8_of (by omega), u8_of (by omega), u8_of (by omega), u8_of (by omega), u8_of (by omega), u8_of (by omega), u8_of (by omega), u8_of (by omega)]
  omega
theorem lenN (s : ByteArray) : s.data.toList.length = s.size := by rw [Array.length_toList]; rfl
theorem take_snocN (s : ByteArray) (k : Nat) (h : k < s.size) (h1 : 1 ≤ k) : (s.data.toList.take (k + 1)).drop 1 = (s.data.toList.take k).drop 1 ++ [s[k]] := by
  have h2 : k < s.data.toList.length := by rw [lenN]; exact h
  rw [List.take_succ_eq_append_getElem h2, List.drop_append_of_le_length (by rw [List.length_take]; omega)]
  rfl
theorem memN (s : ByteArray) (k : Nat) (h : k < s.size) (h1 : 1 ≤ k) : s[k] ∈ s.data.toList.drop 1 := by
  have h2 : k - 1 < (s.data.toList.drop 1).length := by rw [List.length_drop, lenN]; omega
  have : (s.data.toList.drop 1)[k - 1] ∈ s.data.toList.drop 1 := List.getElem_mem h2
  rw [List.getElem_drop] at this
  have e : s.data.toList[1 + (k - 1)]'(by rw [lenN]; omega) = s[k] := by
    show s.data.toList[1 + (k - 1)]'_ = s.data.toList[k]'(by rw [lenN]; exact h)
    congr 1
    omega
  rw [e] at this
  exact this
theorem not_all {l : List UInt8} {b : UInt8} (h : b ∈ l) (hb : isDg b = false) : ¬ l.all isDg = true := by
  intro h1
  have := List.all_eq_true.1 h1 b h
  rw [hb] at this
  exact Bool.noConfusion this
theorem headN (s : ByteArray) (h : 0 < s.size) : s.data.toList.head? = some s[0] := by
  have h2 : 0 < s.data.toList.length := by rw [lenN]; exact h
  rw [List.head?_eq_getElem?, List.getElem?_eq_getElem h2]
  rfl
set_option maxHeartbeats 4000000 in
set_option maxRecDepth 100000 in
theorem number_any (s : ByteArray) (w : World) :
    Calls Tryz.prog 165 #[.string s] w fun e w' => e = .returned (numV s.data.toList) ∧ w = w' := by
  by_cases h9 : s.size = 9
  · have d9 : ((s.size : Int) != 9) = false := by rw [h9]; rfl
    by_cases hh : s[0] = 119
    · have dh : ((s[0].toNat : Int) != 119) = false := by rw [hh]; rfl
      have dh2 : (s[0].toNat : Int) = 119 := by rw [hh]; rfl
      have HH := Lib.hid (show s.data.toList.head? = some 119 by rw [headN s (by omega), hh])
      clear hh
      go_enter Tryz.func165, Tryz.ntmps165
      go_wp2
      go_loop [4, 5] (fun v i => ∃ k n : Nat, 1 ≤ k ∧ k ≤ s.size ∧ i = .int .i64 (k : Int) ∧ v = .int .i64 (n : Int) ∧ n < 100000000 ∧ (k < 9 → n < 10000000) ∧ Hid (((s.data.toList.take k).drop 1).all isDg = true ∧ n = dgVal ((s.data.toList.take k).drop 1))) (fun _ i => s.size - (intOf i).toNat)
      case atStart => exact ⟨1, 0, Nat.le_refl _, by omega, rfl, rfl, by omega, by omega, Lib.hid (by
        have : (s.data.toList.take 1).drop 1 = [] := by rw [List.drop_eq_nil_iff, List.length_take]; omega
        rw [this]; exact ⟨rfl, rfl⟩)⟩
      case round =>
        obtain ⟨k, n, hk1, hk, rfl, rfl, hn, hn2, HA⟩ := hrel
        by_cases hlt : k < s.size
        · have HS := Lib.hid (take_snocN s k hlt hk1)
          have HM := Lib.hid (memN s k hlt hk1)
          have hn3 := hn2 (by omega)
          go_wp2
          · have hb : (s[k].toNat : Int) < 48 ∨ 57 < (s[k].toNat : Int) := by assumption
            have HV := Lib.hid (numV_no (l := s.data.toList) (fun h => not_all HM.out (by simp only [isDg, decide_eq_false_iff_not]; omega) h.2.2))
            go_ret2
            exact ⟨by rw [HV.out]; rfl, rfl⟩
          · have hb : 48 ≤ (s[k].toNat : Int) ∧ (s[k].toNat : Int) ≤ 57 := by assumption
            go_round
            case rel =>
              have ha := HA.out
              have hall : ((s.data.toList.take (k + 1)).drop 1).all isDg = true := by
                rw [HS.out, List.all_append, ha.1]
                have : isDg s[k] = true := by simp only [isDg, decide_eq_true_eq]; omega
                simp [this]
              have hval : n * 10 + (s[k].toNat - 48) = dgVal ((s.data.toList.take (k + 1)).drop 1) := by rw [HS.out, dgVal_snoc, ← ha.2]
              refine ⟨k + 1, n * 10 + (s[k].toNat - 48), by omega, by omega, by go_num, by congr 1; omega, ?_, fun hk9 => ?_, Lib.hid ⟨hall, hval⟩⟩
              · rw [hval]
                exact Nat.lt_of_lt_of_le (dgVal_lt _ hall 8 (by rw [List.length_drop, List.length_take]; omega)) (by decide)
              · rw [hval]
                exact Nat.lt_of_lt_of_le (dgVal_lt _ hall 7 (by rw [List.length_drop, List.length_take]; omega)) (by decide)
            case measure => simp [intOf]; omega
          · have hb : (s[k].toNat : Int) < 48 := by assumption
            have HV := Lib.hid (numV_no (l := s.data.toList) (fun h => not_all HM.out (by simp only [isDg, decide_eq_false_iff_not]; omega) h.2.2))
            go_ret2
            exact ⟨by rw [HV.out]; rfl, rfl⟩
        · obtain rfl : k = s.size := by omega
          go_wp2
          go_ret2
          refine ⟨?_, rfl⟩
          have ha := HA.out
          rw [List.take_of_length_le (by rw [lenN]; omega)] at ha
          rw [numV_yes ⟨by rw [lenN]; exact h9, HH.out, ha.1⟩, ← ha.2]
          rfl
    · have hne : ¬ (s[0].toNat : Int) = 119 := by
        intro h
        apply hh
        apply UInt8.toNat_inj.1
        show s[0].toNat = 119
        omega
      have dh : ((s[0].toNat : Int) != 119) = true := by simpa using hne
      have HV := Lib.hid (numV_no (l := s.data.toList) (fun h => hh (by
        have := h.2.1
        rw [headN s (by omega)] at this
        exact Option.some.inj this)))
      go_enter Tryz.func165, Tryz.ntmps165
      go_wp2
      go_ret2
      exact ⟨by rw [HV.out]; rfl, rfl⟩
  · have d9 : ((s.size : Int) != 9) = true := by simp; omega
    have HV := Lib.hid (numV_no (l := s.data.toList) (fun h => h9 (by rw [← lenN]; exact h.1)))
    go_enter Tryz.func165, Tryz.ntmps165
    go_wp2
    go_ret2
    exact ⟨by rw [HV.out]; rfl, rfl⟩
end Go.Proofs.YtlgcbapgbpofoaaGreat
