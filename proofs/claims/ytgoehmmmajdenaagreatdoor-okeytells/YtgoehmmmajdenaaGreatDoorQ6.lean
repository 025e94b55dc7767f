/- The statement's own helper same: true of two lists of the same parts. -/
import Derived.Test.YtgoehmmmajdenaaGreatDoorQ5
import Derived.Test.YtgoehmmmajdenaaGreatDoorK7
import Derived.BigQuiet
import Derived.Deep.QuietTactic
namespace Go.Proofs.YtgoehmmmajdenaaGreatDoor
open Go.RowKit

set_option maxHeartbeats 4000000 in
set_option maxRecDepth 100000 in
theorem same_some (b off cap b2 off2 cap2 : Nat) (ps : List Prt) (w : World) (hlen : ps.length ≤ 1000000)
    (hc : ∀ i (h : i < ps.length) j u, (ps[i]).cells[j]? = some u → w.cell? ⟨b, off + i * 4 + j, none⟩ = some u)
    (hc2 : ∀ i (h : i < ps.length) j u, (ps[i]).cells[j]? = some u → w.cell? ⟨b2, off2 + i * 4 + j, none⟩ = some u) :
    Calls Tryz.prog 13 #[.slice (some ⟨b, off, none⟩) ps.length cap, .slice (some ⟨b2, off2, none⟩) ps.length cap2] w fun e w' => e = .returned (.bool true) ∧ ∃ n, w' = w.drewN n := by
  go_enter Tryz.func13, Tryz.ntmps13
  go_wp2
  go_loopw [5] (fun i wr => ∃ k n : Nat, k ≤ ps.length ∧ i = .int .i64 k ∧ wr = w.drewN n) (fun i _ => ps.length - (intOf i).toNat)
  case atStart => exact ⟨0, 0, Nat.zero_le _, rfl, rfl⟩
  case round =>
    obtain ⟨k, nd, hk, rfl, rfl⟩ := hrel
    by_cases hkl : k < ps.length
    · obtain ⟨cx0, cx1, cx2, cx3⟩ := row_cells hc k hkl
      obtain ⟨cy0, cy1, cy2, cy3⟩ := row_cells hc2 k hkl
      generalize ps[k] = p at cx0 cx1 cx2 cx3 cy0 cy1 cy2 cy3
      obtain ⟨kd, sx, n, ii⟩ := p
      simp only at cx0 cx1 cx2 cx3 cy0 cy1 cy2 cy3
      have hi1 : (k : Int) < (ps.length : Int) := by omega
      go_wp2
      go_quiet (fail)
      go_wp2
      go_roundw
      case rel => exact ⟨k + 1, _, by omega, by go_num, rfl⟩
      case measure => simp [intOf]; omega
    · have hke : k = ps.length := by omega
      subst hke
      go_wp2
      go_ret
      exact ⟨rfl, _, rfl⟩
set_option maxHeartbeats 1000000 in
set_option maxRecDepth 100000 in
theorem same_none (a a2 : Option Addr) (cap cap2 : Nat) (w : World) :
    Calls Tryz.prog 13 #[.slice a 0 cap, .slice a2 0 cap2] w fun e w' => e = .returned (.bool true) ∧ ∃ n, w' = w.drewN n := by
  go_enter Tryz.func13, Tryz.ntmps13
  go_wp2
  refine wp_loop_rounds 1 ?_
  rw [rounds_succ]
  go_wp2
  go_ret
  exact ⟨rfl, 0, rfl⟩
theorem same_any (a a2 : Option Addr) (cap cap2 : Nat) (ps : List Prt) (w : World) (hlen : ps.length ≤ 1000000) (hr : IsRowP w a ps) (hr2 : IsRowP w a2 ps) :
    Calls Tryz.prog 13 #[.slice a ps.length cap, .slice a2 ps.length cap2] w fun e w' => e = .returned (.bool true) ∧ ∃ n, w' = w.drewN n := by
  rcases hr with rfl | ⟨b, off, rfl, hc⟩
  · exact same_none a a2 cap cap2 w
  · rcases hr2 with rfl | ⟨b2, off2, rfl, hc2⟩
    · exact same_none _ a2 cap cap2 w
    · exact same_some b off cap b2 off2 cap2 ps w hlen hc hc2
end Go.Proofs.YtgoehmmmajdenaaGreatDoor
