/- The document's own Shared and ordered. -/
import Derived.Test.YthaalhigmihijacGreatBP
import Derived.BigQuiet
import Derived.Deep.QuietTactic
import Derived.Deep.RegionHeld3
import Derived.Deep.RegionWith
import Derived.Deep.DeepCutAuto
namespace Go.Proofs.YthaalhigmihijacGreat
open Go.RowKit

theorem shr_drop (a b : ByteArray) (i : Nat) (ha : i < a.size) (hb : i < b.size) : shr (a.data.toList.drop i) (b.data.toList.drop i) = if a[i] = b[i] then shr (a.data.toList.drop (i + 1)) (b.data.toList.drop (i + 1)) + 1 else 0 := by
  rw [drop_cons a i ha, drop_cons b i hb]
  rfl
theorem shr_end (a b : ByteArray) (i : Nat) (h : a.size ≤ i ∨ b.size ≤ i) : shr (a.data.toList.drop i) (b.data.toList.drop i) = 0 := by
  rcases h with h | h
  · rw [List.drop_of_length_le (by rw [len_data']; exact h)]
    rfl
  · rw [List.drop_of_length_le (l := b.data.toList) (by rw [len_data']; exact h)]
    cases a.data.toList.drop i <;> rfl
theorem drewN_addB (w : World) (a b : Nat) : (w.drewN a).drewN b = w.drewN (a + b) := by
  show World.mk _ _ _ _ _ = _
  first | rfl | (simp [World.drewN, Nat.add_assoc])
set_option maxHeartbeats 2000000 in
set_option maxRecDepth 100000 in
theorem rshared_any (a b : ByteArray) (w : World) (ha : a.size ≤ 9223372036854775807) (_hb : b.size ≤ 9223372036854775807) :
    Calls Tryz.prog 162 #[.string a, .string b] w fun e w' => e = .returned (.int .i64 (shr a.data.toList b.data.toList : Nat)) ∧ ∃ n, w' = w.drewN n := by
  go_enter Tryz.func162, Tryz.ntmps162
  go_wp2
  go_loopw [5] (fun iv wr => ∃ (i n : Nat), iv = .int .i64 (i : Int) ∧ wr = w.drewN n ∧ i ≤ a.size ∧ i ≤ b.size ∧ Hid (shr a.data.toList b.data.toList = i + shr (a.data.toList.drop i) (b.data.toList.drop i))) (fun iv _ => a.size - (intOf iv).toNat)
  case atStart => exact ⟨0, 0, rfl, rfl, Nat.zero_le _, Nat.zero_le _, by show _ = _; simp⟩
  case round =>
    obtain ⟨i, n, rfl, rfl, h1, h2, HS⟩ := hrel
    by_cases hia : i < a.size
    · have d1 : decide ((i : Int) < (a.size : Int)) = true := decide_eq_true (by omega)
      have e1 : (i : Int) < (a.size : Int) := by omega
      have d1' : decide (i < a.size) = true := decide_eq_true hia
      by_cases hib : i < b.size
      · have d2 : decide ((i : Int) < (b.size : Int)) = true := decide_eq_true (by omega)
        have e2 : (i : Int) < (b.size : Int) := by omega
        have d2' : decide (i < b.size) = true := decide_eq_true hib
        have HSD := Lib.hid (shr_drop a b i hia hib)
        by_cases hc : a[i] = b[i]
        · have d3 : ((a[i].toNat : Int) == (b[i].toNat : Int)) = true := by rw [hc]; simp
          have HN : Hid (shr a.data.toList b.data.toList = i + 1 + shr (a.data.toList.drop (i + 1)) (b.data.toList.drop (i + 1))) := by
            show _ = _
            rw [HS.out, HSD.out, if_pos hc]
            omega
          clear HS HSD hc
          go_wp2
          go_quiet (fail)
          go_wp2
          go_roundw
          case rel => exact ⟨i + 1, n + nq, by go_num, by first | rfl | (rw [drewN_addB]), by omega, by omega, HN⟩
          case measure => simp [intOf]; omega
        · have d3 : ((a[i].toNat : Int) == (b[i].toNat : Int)) = false := by
            rw [beq_eq_false_iff_ne]
            intro e
            exact hc (UInt8.toNat_inj.1 (by omega))
          have HN : Hid (shr a.data.toList b.data.toList = i) := by
            show _ = _
            rw [HS.out, HSD.out, if_neg hc]
            omega
          clear HS HSD hc
          go_wp2
          go_quiet (fail)
          go_wp2
          go_ret
          exact ⟨by rw [HN.out]; rfl, n + nq, by first | rfl | (rw [drewN_addB])⟩
      · have d2 : decide ((i : Int) < (b.size : Int)) = false := decide_eq_false (by omega)
        have d2' : decide (i < b.size) = false := decide_eq_false hib
        have HN : Hid (shr a.data.toList b.data.toList = i) := by
          show _ = _
          rw [HS.out, shr_end a b i (.inr (by omega))]
          omega
        clear HS
        go_wp2
        go_quiet (fail)
        go_wp2
        go_ret
        exact ⟨by rw [HN.out]; rfl, n + nq, by first | rfl | (rw [drewN_addB])⟩
    · have d1 : decide ((i : Int) < (a.size : Int)) = false := decide_eq_false (by omega)
      have d1' : decide (i < a.size) = false := decide_eq_false hia
      have HN : Hid (shr a.data.toList b.data.toList = i) := by
        show _ = _
        rw [HS.out, shr_end a b i (.inl (by omega))]
        omega
      clear HS
      go_wp2
      go_quiet (fail)
      go_wp2
      go_ret
      exact ⟨by rw [HN.out]; rfl, n + nq, by first | rfl | (rw [drewN_addB])⟩
end Go.Proofs.YthaalhigmihijacGreat
