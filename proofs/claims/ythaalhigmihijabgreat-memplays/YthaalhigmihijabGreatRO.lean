/- The statements' helper Room. -/
import Derived.Test.YthaalhigmihijabGreatShelf
import Derived.Deep.RegionHeld3
import Derived.Lib.Hide
namespace Go.Proofs.YthaalhigmihijabGreat
open Go.RowKit

def roomL : Int → List Int → Int
  | r, [] => r
  | r, z :: zs => if r < 0 ∨ z > r then -1 else roomL (r - z) zs
theorem roomL_le : ∀ (zs : List Int) (r : Int), -1 ≤ r → (∀ z ∈ zs, 0 ≤ z) → -1 ≤ roomL r zs ∧ roomL r zs ≤ r ∧ (0 ≤ roomL r zs → ∀ z ∈ zs, z ≤ r)
  | [], r, h, _ => ⟨h, Int.le_refl _, fun _ z hz => by cases hz⟩
  | z :: zs, r, h, hz => by
    unfold roomL
    have hz0 := hz z (by simp)
    split
    · exact ⟨by omega, by omega, fun h0 => by omega⟩
    · rename_i hn
      obtain ⟨h1, h2, h3⟩ := roomL_le zs (r - z) (by omega) (fun y hy => hz y (List.mem_cons_of_mem _ hy))
      refine ⟨h1, by omega, fun h0 y hy => ?_⟩
      rcases List.mem_cons.1 hy with rfl | hy
      · omega
      · have := h3 h0 y hy
        omega
theorem roomL_drop (zs : List Int) (k : Nat) (hk : k < zs.length) (r : Int) : roomL r (zs.drop k) = if r < 0 ∨ zs[k] > r then -1 else roomL (r - zs[k]) (zs.drop (k + 1)) := by
  rw [List.drop_eq_getElem_cons hk]
  rfl
set_option maxHeartbeats 1000000 in
set_option maxRecDepth 100000 in
theorem room_list (b cap : Nat) (zs : List Int) (r : Int) (w : World) (hr : -1 ≤ r) (hr2 : r ≤ 1000000000) (hl : zs.length ≤ 1000) (hz : ∀ z ∈ zs, 0 ≤ z ∧ z ≤ 9223372036854775807) (hc : ∀ i (h : i < zs.length), w.cell? ⟨b, i, none⟩ = some (.int .i64 zs[i])) :
    Calls Tryz.prog 26 #[.int .i64 r, .slice (some ⟨b, 0, none⟩) zs.length cap] w fun e w' => e = .returned (.int .i64 (roomL r zs)) ∧ w = w' := by
  have HC := Lib.hid hc
  have HZ := Lib.hid hz
  clear hc hz
  go_enter Tryz.func26, Tryz.ntmps26
  go_wp2
  go_loopw [0, 5] (fun rv iv wr => ∃ (k : Nat) (q : Int), k ≤ zs.length ∧ rv = .int .i64 q ∧ iv = .int .i64 (k : Int) ∧ -1 ≤ q ∧ q ≤ 1000000000 ∧ roomL q (zs.drop k) = roomL r zs ∧ wr = w) (fun _ iv _ => zs.length - (intOf iv).toNat)
  case atStart => exact ⟨0, r, Nat.zero_le _, rfl, rfl, hr, hr2, rfl, rfl⟩
  case round =>
    obtain ⟨k, q, hk, rfl, rfl, hq1, hq2, he, rfl⟩ := hrel
    by_cases hlt : k < zs.length
    · have c := HC.out k hlt
      have z := HZ.out zs[k] (List.getElem_mem _)
      rw [roomL_drop zs k hlt] at he
      generalize zs[k] = v at c z he
      have hkl : (k : Int) < (zs.length : Int) := by omega
      by_cases h1 : q < 0
      · rw [if_pos (.inl h1)] at he
        have d1 : decide (q < 0) = true := decide_eq_true h1
        go_wp2
        go_ret
        exact ⟨by rw [← he]; rfl, rfl⟩
      have d1 : decide (q < 0) = false := decide_eq_false h1
      by_cases h2 : q < v
      · rw [if_pos (.inr h2)] at he
        have d2 : decide (q < v) = true := decide_eq_true h2
        go_wp2
        go_ret
        exact ⟨by rw [← he]; rfl, rfl⟩
      have d2 : decide (q < v) = false := decide_eq_false h2
      rw [if_neg (by omega)] at he
      go_wp2
      go_roundw
      case rel => exact ⟨k + 1, q - v, by omega, by go_num, by go_num, by omega, by omega, he, (by first | rfl | trivial)⟩
      case measure => simp [intOf]; omega
    · obtain rfl : k = zs.length := by omega
      rw [List.drop_length] at he
      go_wp2
      go_ret
      exact ⟨by rw [← he]; rfl, rfl⟩
end Go.Proofs.YthaalhigmihijabGreat
