/- The walk of statement OkeyLong. -/
import Derived.Test.YtfcoagkpeheigaaDoorK8
namespace Go.Proofs.YtfcoagkpeheigaaDoor
open Go.RowKit

/-- How many bytes 0 there are. -/
def zeros : List UInt8 → Nat
  | [] => 0
  | c :: r => (if c = 0 then 1 else 0) + zeros r
theorem zeros_append (a b : List UInt8) : zeros (a ++ b) = zeros a + zeros b := by
  induction a with
  | nil => simp [zeros]
  | cons c r ih => simp only [List.cons_append, zeros, ih]; omega
theorem zeros_le (s : List UInt8) : zeros s ≤ s.length := by
  induction s with
  | nil => simp [zeros]
  | cons c r ih => simp only [zeros, List.length_cons]; split <;> omega
theorem key_size (s : List UInt8) : (key s).length = s.length + zeros s + 2 := by
  have h : ∀ s : List UInt8, (esc s).length = s.length + zeros s := by
    intro s
    induction s with
    | nil => rfl
    | cons c r ih => by_cases h : c = 0 <;> simp [esc, zeros, h, ih] <;> omega
  simp [key, h]
theorem zeros_take (s : ByteArray) (k : Nat) (h : k < s.size) : zeros (s.data.toList.take (k + 1)) = zeros (s.data.toList.take k) + (if s[k] = 0 then 1 else 0) := by
  have h1 : k < s.data.toList.length := h
  rw [List.take_succ_eq_append_getElem h1, zeros_append]
  simp only [zeros, Nat.add_zero]
  rfl

set_option maxHeartbeats 1000000 in
theorem okeyLong_big (s : ByteArray) (h : 3000 < s.size) (w : World) (hm : Max w) :
    Calls Tryd.prog 7 #[.string s] w fun e w' => e = .returned (.bool true) ∧ Below w.heap.size w w' := by
  go_enter Tryd.func7, Tryd.ntmps7
  go_wp2_with (go_at_call 9; refine (alive_any _ hm).mono ?_; rintro e w1 ⟨rfl, hb⟩)
  go_ret
  exact ⟨rfl, hb⟩

set_option maxHeartbeats 1000000 in
theorem okeyLong_few (s : ByteArray) (h : s.size ≤ 3000) (w : World) (hm : Max w) :
    Calls Tryd.prog 7 #[.string s] w fun e w' => e = .returned (.bool true) ∧ Below w.heap.size w w' := by
  have hd : decide (3000 < s.size) = false := by simpa using h
  have hks := key_size s.data.toList
  have hsz : s.data.toList.length = s.size := rfl
  go_enter Tryd.func7, Tryd.ntmps7
  go_wp2
  go_loop [3, 4] (fun n i => ∃ k : Nat, k ≤ s.size ∧ i = .int .i64 k ∧ n = .int .i64 ((s.size + zeros (s.data.toList.take k) + 2 : Nat) : Int)) (fun _ i => s.size - (intOf i).toNat)
  case atStart => exact ⟨0, Nat.zero_le _, rfl, by simp [zeros]⟩
  case round =>
    obtain ⟨k, hk, rfl, rfl⟩ := hrel
    have hzb : zeros (s.data.toList.take k) ≤ 3000 := by
      have := zeros_le (s.data.toList.take k)
      have h2 : (s.data.toList.take k).length ≤ k := List.length_take_le _ _
      omega
    by_cases hlt : k < s.size
    · have HT := Lib.hid (zeros_take s k hlt)
      by_cases hz : s[k] = 0
      · have hz1 : s[k].toNat = 0 := by rw [hz]; rfl
        go_wp2
        go_round
        case rel =>
          refine ⟨k + 1, by omega, by go_num, ?_⟩
          rw [HT.out, if_pos hz]
          go_num
        case measure => simp [intOf]; omega
      · have hz1 : ((s[k].toNat : Int) == 0) = false := by
          simp
          intro e
          exact hz (UInt8.toNat_inj.1 e)
        go_wp2
        go_round
        case rel =>
          refine ⟨k + 1, by omega, by go_num, ?_⟩
          rw [HT.out, if_neg hz]
          rfl
        case measure => simp [intOf]; omega
    · have hke : k = s.size := by omega
      subst hke
      have ht : s.data.toList.take s.size = s.data.toList := by rw [← hsz, List.take_length]
      rw [ht] at hzb ⊢
      have hbel := Below.refl w.heap.size w
      have h7 := be_length 7 8
      have hi7 := be_length (turn (-7)) 8
      rw [hsz] at hks
      go_wp2_with (first
        | (go_at_call 9; refine (alive_any _ hm).mono ?_; rintro e w1 ⟨rfl, hb⟩; replace hm := hm.next hb; replace hbel := hbel.trans (hb.mono hbel.size))
        | (go_at_call 12; refine (text_any s _ (by omega) hm).mono ?_; rintro e w1 ⟨rfl, hb⟩; replace hbel := hbel.trans (hb.mono hbel.size))
        | (go_at_call 13; refine (num_any 7 _ (by omega)).mono ?_; rintro e w1 ⟨rfl, hb⟩; replace hbel := hbel.trans (hb.mono hbel.size))
        | (go_at_call 14; refine (int_any (-7) _ (by omega) (by omega)).mono ?_; rintro e w1 ⟨rfl, hb⟩; replace hbel := hbel.trans (hb.mono hbel.size)))
      go_ret
      exact ⟨rfl, hbel⟩

theorem okeyLong_walk (s : ByteArray) (hs : s.size ≤ maxLen) (w : World) (hm : Max w) :
    Calls Tryd.prog 7 #[.string s] w fun e w' => e = .returned (.bool true) ∧ Below w.heap.size w w' := by
  have _ := hs
  by_cases h : s.size ≤ 3000
  · exact okeyLong_few s h w hm
  · exact okeyLong_big s (by omega) w hm
end Go.Proofs.YtfcoagkpeheigaaDoor
