/- Contracts of okey.Text, okey.Num, okey.Int and okey.Next: what each returns, for every argument (texts of fewer than 4294967281 bytes). -/
import Derived.Test.YtgoehmmmajdenaaGreatDoorK0
import Derived.Test.YtgoehmmmajdenaaGreatDoorK1
import Derived.Test.YtgoehmmmajdenaaGreatDoorShelf
import Derived.ProofKit
namespace Go.Proofs.YtgoehmmmajdenaaGreatDoor
open Go.RowKit

theorem block_lt {w : World} {a : Addr} {v : Value} (h : w.cell? a = some v) : a.block < w.heap.size := by
  rcases Nat.lt_or_ge a.block w.heap.size with h1 | h1
  · exact h1
  · simp [World.cell?, Array.getElem?_eq_none h1] at h

/-- The library's variable MaxLen holds some int. -/
def Max (w : World) : Prop := ∃ m : Int, w.cell? ⟨0, 0, none⟩ = some (.int .i64 m)
theorem Max.lt {w : World} (h : Max w) : 0 < w.heap.size := by
  obtain ⟨m, h⟩ := h
  exact block_lt h
theorem Max.below {B : Nat} {w w' : World} (h : Max w) (hb : Below B w w') (hB : 0 < B) : Max w' := by
  obtain ⟨m, h⟩ := h
  exact ⟨m, (hb.cell hB).trans h⟩
theorem Max.next {w w' : World} (h : Max w) (hb : Below w.heap.size w w') : Max w' := h.below hb h.lt

theorem esc_length (s : List UInt8) : (esc s).length ≤ 2 * s.length := by
  induction s with
  | nil => simp [esc]
  | cons c r ih => by_cases h : c = 0 <;> simp [esc, h] <;> omega
theorem key_length (s : List UInt8) : (key s).length ≤ 2 * s.length + 2 := by
  have := esc_length s
  simp [key]; omega

theorem rep_any (s : ByteArray) (w : World) (hs : s.size < 4294967281) (hm : Max w) :
    Calls Tryz.prog 34 #[.string s, .string ⟨#[0]⟩, .string ⟨#[0, 255]⟩] w fun e w' => e = .returned (.string ⟨(esc s.data.toList).toArray⟩) ∧ Below w.heap.size w w' := by
  obtain ⟨m, hm⟩ := hm
  have hlen : s.size + Lib.countB s ⟨#[0]⟩ * (⟨#[0, 255]⟩ : ByteArray).size ≤ 140737488355328 := by
    have := count0_le s.data.toList
    have e : s.data.toList.length = s.size := rfl
    have e2 : Lib.countB s ⟨#[0]⟩ = Lib.count s.data.toList [0] := rfl
    have e3 : (⟨#[0, 255]⟩ : ByteArray).size = 2 := rfl
    rw [e2, e3]; omega
  refine (Tryz.strings_ReplaceAll s ⟨#[0]⟩ ⟨#[0, 255]⟩ m w hs hm (by decide) hlen).mono ?_
  rintro e w1 ⟨rfl, hb⟩
  refine ⟨?_, hb⟩
  rw [← replaceAll_esc]

set_option maxHeartbeats 1000000 in
set_option maxRecDepth 100000 in
theorem text_any (s : ByteArray) (w : World) (hs : s.size < 4294967281) (hm : Max w) :
    Calls Tryz.prog 17 #[.string s] w fun e w' => e = .returned (.string ⟨(key s.data.toList).toArray⟩) ∧ Below w.heap.size w w' := by
  have hl : (esc s.data.toList).length ≤ 2 * s.size := esc_length _
  go_enter Tryz.func17, Tryz.ntmps17
  go_wp2_with (go_at_call 34; refine (rep_any s _ hs hm).mono ?_; rintro e w1 ⟨rfl, hb⟩)
  go_ret
  refine ⟨?_, hb⟩
  rw [show (⟨#[0]⟩ : ByteArray) = ⟨[(0 : UInt8)].toArray⟩ from rfl, show (⟨#[1]⟩ : ByteArray) = ⟨[(1 : UInt8)].toArray⟩ from rfl, cat_str, cat_str]
  simp [key]

theorem conv_u64 (v : Int) (h0 : -9223372036854775808 ≤ v) (h1 : v ≤ 9223372036854775807) : bits .xor .u64 (IntKind.u64.wrap v) 9223372036854775808 = v + 9223372036854775808 := by
  have hw : ∃ x : Nat, IntKind.u64.wrap v = (x : Int) ∧ x < 18446744073709551616 ∧ ((v < 0 ∧ (x : Int) = v + 18446744073709551616) ∨ (0 ≤ v ∧ (x : Int) = v)) := by
    rw [IntKind.wrap_u64]
    refine ⟨(v % 18446744073709551616).toNat, by omega, by omega, ?_⟩
    omega
  obtain ⟨x, hx, hlt, hc⟩ := hw
  rw [hx]
  have e := u64_xor_nat x 9223372036854775808 hlt (by omega)
  rw [show ((9223372036854775808 : Nat) : Int) = 9223372036854775808 from rfl] at e
  rw [e]
  have h1 := Nat.xor_mod_two_pow (a := x) (b := 9223372036854775808) (n := 63)
  have h2 := Nat.xor_div_two_pow (a := x) (b := 9223372036854775808) (n := 63)
  rw [show (2 : Nat) ^ 63 = 9223372036854775808 from rfl] at h1 h2
  generalize x ^^^ 9223372036854775808 = y at *
  rw [show 9223372036854775808 % 9223372036854775808 = 0 from rfl, Nat.xor_zero] at h1
  rw [show 9223372036854775808 / 9223372036854775808 = 1 from rfl] at h2
  have hq : x / 9223372036854775808 = 0 ∨ x / 9223372036854775808 = 1 := by omega
  rcases hq with hq | hq
  · rw [hq, show (0 ^^^ 1 : Nat) = 1 from rfl] at h2
    omega
  · rw [hq, show (1 ^^^ 1 : Nat) = 0 from rfl] at h2
    omega

/-- An int with its sign bit turned, as a number without a sign. -/
def turn (v : Int) : Nat := (v + 9223372036854775808).toNat

theorem num_any (v : Nat) (w : World) (hv : v < 18446744073709551616) :
    Calls Tryz.prog 19 #[.int .u64 v] w fun e w' => e = .returned (.string ⟨(be v 8).toArray⟩) ∧ Below w.heap.size w w' := by
  go_enter Tryz.func19, Tryz.ntmps19
  go_wp2_with (go_at_call 35; refine (fix_ok v 8 _ (by omega) (by omega) (by omega)).mono ?_; rintro e w1 ⟨rfl, hb⟩)
  go_ret
  exact ⟨rfl, hb⟩

theorem int_any (v : Int) (w : World) (h0 : -9223372036854775808 ≤ v) (h1 : v ≤ 9223372036854775807) :
    Calls Tryz.prog 21 #[.int .i64 v] w fun e w' => e = .returned (.string ⟨(be (turn v) 8).toArray⟩) ∧ Below w.heap.size w w' := by
  have hx := conv_u64 v h0 h1
  have ht : v + 9223372036854775808 = (turn v : Nat) := by unfold turn; omega
  have hl : turn v < 18446744073709551616 := by unfold turn; omega
  go_enter Tryz.func21, Tryz.ntmps21
  go_wp2_with (go_at_call 19; refine (num_any _ _ hl).mono ?_; rintro e w1 ⟨rfl, hb⟩)
  go_ret
  exact ⟨rfl, hb⟩
end Go.Proofs.YtgoehmmmajdenaaGreatDoor
