/- The program: block.Shared, isRestart, follows, appendPlace, join. -/
import Derived.Test.YtopnbbchiglpoaaZR
import Derived.Test.YtopnbbchiglpoaaZI
import Derived.Test.YtopnbbchiglpoaaZP
import Derived.Test.YtopnbbchiglpoaaBB
namespace Go.Proofs.Ytopnbbchiglpoaa
open Go.RowKit

set_option maxHeartbeats 1000000 in
theorem shared_any (a b : ByteArray) (w : World) (ha : a.size ≤ 9223372036854775807) (_hb : b.size ≤ 9223372036854775807) :
    Calls Try.prog 12 #[.string a, .string b] w fun e w' => e = .returned (.int .i64 (shr a.data.toList b.data.toList : Nat)) ∧ ∃ n, w' = w.drewN n := by
  go_enter Try.func12, Try.ntmps12
  go_upto_region 1 with fail
  go_cut [5] from 7 to 11 (fun v wx => w = wx ∧ v = .int .i64 ((min a.size b.size : Nat) : Int))
  case first =>
    go_wp2
    all_goals go_meet
    all_goals exact ⟨rfl, by congr 1; omega⟩
  case rest =>
    obtain ⟨rfl, rfl⟩ := hcut
    obtain ⟨m, hm⟩ : ∃ m, min a.size b.size = m := ⟨_, rfl⟩
    have hma : m ≤ a.size := by omega
    have hmb : m ≤ b.size := by omega
    have HM := Lib.hid (show a.size ≤ m ∨ b.size ≤ m by omega)
    rw [hm]
    clear hm
    go_wp2
    go_loopw [13] (fun iv wr => ∃ (i n : Nat), iv = .int .i64 (i : Int) ∧ wr = w.drewN n ∧ i ≤ m ∧ Hid (shr a.data.toList b.data.toList = i + shr (a.data.toList.drop i) (b.data.toList.drop i))) (fun iv _ => m - (intOf iv).toNat)
    case atStart => exact ⟨0, 0, rfl, rfl, Nat.zero_le _, by show _ = _; simp⟩
    case round =>
      obtain ⟨i, n, rfl, rfl, h1, HS⟩ := hrel
      by_cases him : i < m
      · have hia : i < a.size := by omega
        have hib : i < b.size := by omega
        have d0 : (i : Int) < (m : Int) := by omega
        have e1 : (i : Int) < (a.size : Int) := by omega
        have e2 : (i : Int) < (b.size : Int) := by omega
        have HSD := Lib.hid (shr_drop a b i hia hib)
        by_cases hc : a[i] = b[i]
        · have d3 : ((a[i].toNat : Int) != (b[i].toNat : Int)) = false := by rw [hc]; simp
          have HN : Hid (shr a.data.toList b.data.toList = i + 1 + shr (a.data.toList.drop (i + 1)) (b.data.toList.drop (i + 1))) := by
            show _ = _
            rw [HS.out, HSD.out, if_pos hc]
            omega
          clear HS HSD hc
          go_wp2
          go_quiet (fail)
          go_wp2
          go_roundw
          case rel => exact ⟨i + 1, n + nq, by go_num, by first | rfl | (rw [drewN_addB]), by omega, HN⟩
          case measure => simp [intOf]; omega
        · have d3 : ((a[i].toNat : Int) != (b[i].toNat : Int)) = true := by
            rw [bne_iff_ne]
            intro e
            exact hc (UInt8.toNat_inj.1 (by omega))
          have HN : Hid (shr a.data.toList b.data.toList = i) := by
            show _ = _
            rw [HS.out, HSD.out, if_neg hc]
            omega
          clear HS HSD hc
          go_wp2
          go_quiet (fail)
          go_wp2
          go_ret
          exact ⟨by rw [HN.out]; rfl, n + nq, by first | rfl | (rw [drewN_addB])⟩
      · obtain rfl : i = m := by omega
        have HN : Hid (shr a.data.toList b.data.toList = i) := by
          show _ = _
          rw [HS.out, shr_end a b i HM.out]
          omega
        clear HS HM
        go_wp2
        go_ret
        exact ⟨by rw [HN.out]; rfl, n, rfl⟩
theorem isRestart_any (i : Nat) (w : World) (hi : i ≤ 9223372036854775807) :
    Calls Try.prog 28 #[.int .i64 (i : Int)] w fun e w' => e = .returned (.bool (decide (i % 4 = 0))) ∧ w = w' := by
  have ht : (i : Int).tmod 4 = ((i % 4 : Nat) : Int) := by rw [Int.tmod_eq_emod_of_nonneg (by omega)]; omega
  go_enter Try.func28, Try.ntmps28
  go_wp2
  go_ret
  refine ⟨?_, rfl⟩
  show Ending.returned (Value.bool ((i : Int) % 4 == 0)) = _
  congr 2
  rw [Bool.eq_iff_iff]
  simp
  omega
end Go.Proofs.Ytopnbbchiglpoaa
