/- Contracts of num.cutCount, num.cutBool, num.cutText and of num.Reader's methods Count, Bool, Text, Int and Fix, of a reader that has no error: what each returns, and what is left. -/
import Derived.Test.YtnkmchlldhdenaaDoorW6
import Derived.Deep.RegionWith
namespace Go.Proofs.YtnkmchlldhdenaaDoor
open Go.RowKit

theorem decV_err : ∀ (l : List UInt8) (i acc : Nat), (decV i acc l).2.2 ≠ 0 → decV i acc l = (0, [], (decV i acc l).2.2)
  | [], i, acc, _ => rfl
  | b :: r, i, acc, h => by
    rw [decV] at h ⊢
    by_cases h1 : (i = 9 ∧ 1 < b.toNat) ∨ (0 < i ∧ b.toNat = 0)
    · rw [if_pos h1]
    · rw [if_neg h1] at h ⊢
      by_cases h2 : b.toNat < 128
      · rw [if_pos h2] at h
        exact absurd rfl h
      · rw [if_neg h2] at h ⊢
        exact decV_err r _ _ h

/-- How many there are: the number, what is behind it, the error (2: too many). -/
def decC (most : Int) (l : List UInt8) : Nat × List UInt8 × Int :=
  if (decV 0 0 l).2.2 ≠ 0 then (0, [], (decV 0 0 l).2.2) else if most < 0 ∨ most < ((decV 0 0 l).1 : Int) then (0, [], 2) else ((decV 0 0 l).1, (decV 0 0 l).2.1, 0)

theorem decC_cases (most : Int) (l : List UInt8) : (∃ v r, decC most l = (v, r, 0) ∧ (v : Int) ≤ most ∧ decV 0 0 l = (v, r, 0)) ∨ (∃ e, e ≠ 0 ∧ decC most l = (0, [], e)) := by
  unfold decC
  by_cases h : (decV 0 0 l).2.2 ≠ 0
  · rw [if_pos h]; exact .inr ⟨_, h, rfl⟩
  · rw [if_neg h]
    by_cases h2 : most < 0 ∨ most < ((decV 0 0 l).1 : Int)
    · rw [if_pos h2]; exact .inr ⟨2, by omega, rfl⟩
    · rw [if_neg h2]
      refine .inl ⟨_, _, rfl, by omega, ?_⟩
      have h3 : (decV 0 0 l).2.2 = 0 := Classical.not_not.1 h
      rw [← h3]

set_option maxHeartbeats 1000000 in
theorem cutCount_any (s : ByteArray) (most : Int) (w : World) (hs : s.size ≤ 9223372036854775807) (hm : most ≤ 9223372036854775807) :
    Calls Tryd.prog 55 #[.string s, .int .i64 most] w fun x w' => x = .returned (.tuple #[.int .i64 (decC most s.data.toList).1, .string ⟨(decC most s.data.toList).2.1.toArray⟩, .int .i64 (decC most s.data.toList).2.2]) ∧ ∃ n, w' = w.drewN n := by
  unfold decC
  by_cases h : (decV 0 0 s.data.toList).2.2 ≠ 0
  · rw [if_pos h]
    have hd : ((decV 0 0 s.data.toList).2.2 != 0) = true := by simpa using h
    have hv := decV_err _ _ _ h
    obtain ⟨e, he⟩ : ∃ e, e = (decV 0 0 s.data.toList).2.2 := ⟨_, rfl⟩
    rw [← he] at hv hd ⊢
    have HV := Lib.hid hv
    clear hv h he
    go_enter Tryd.func55, Tryd.ntmps55
    go_wp2_with (go_at_call 53; refine (cutVar_at s _ hs HV.out).mono ?_; rintro r w' ⟨rfl, n, rfl⟩)
    go_ret3
    exact ⟨rfl, n, rfl⟩
  · rw [if_neg h]
    have h3 : (decV 0 0 s.data.toList).2.2 = 0 := Classical.not_not.1 h
    obtain ⟨v, r, hv⟩ : ∃ v r, decV 0 0 s.data.toList = (v, r, 0) := ⟨_, _, by rw [← h3]⟩
    rw [hv]
    have HV := Lib.hid hv
    clear hv h h3
    by_cases h2 : most < 0 ∨ most < (v : Int)
    · rw [if_pos h2]
      by_cases h0 : most < 0
      · clear h2
        go_enter Tryd.func55, Tryd.ntmps55
        go_wp2_with (go_at_call 53; refine (cutVar_at s _ hs HV.out).mono ?_; rintro r w' ⟨rfl, n, rfl⟩)
        go_ret3
        exact ⟨rfl, n, rfl⟩
      · have h4 : most < (v : Int) := by omega
        have hd : decide (most < 0) = false := by simpa using h0
        clear h2
        go_enter Tryd.func55, Tryd.ntmps55
        go_wp2_with (go_at_call 53; refine (cutVar_at s _ hs HV.out).mono ?_; rintro r w' ⟨rfl, n, rfl⟩)
        go_ret3
        exact ⟨rfl, n, rfl⟩
    · rw [if_neg h2]
      have h0 : 0 ≤ most := by omega
      have h4 : (v : Int) ≤ most := by omega
      have hd : decide (most < 0) = false := by simpa using h0
      clear h2
      go_enter Tryd.func55, Tryd.ntmps55
      go_wp2_with (go_at_call 53; refine (cutVar_at s _ hs HV.out).mono ?_; rintro r w' ⟨rfl, n, rfl⟩)
      go_ret3
      exact ⟨rfl, n, rfl⟩
end Go.Proofs.YtnkmchlldhdenaaDoor
