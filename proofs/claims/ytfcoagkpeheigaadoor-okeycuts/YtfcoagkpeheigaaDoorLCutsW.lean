/- The walk of statement OkeyCuts. -/
import Derived.Test.YtfcoagkpeheigaaDoorK9
namespace Go.Proofs.YtfcoagkpeheigaaDoor
open Go.RowKit

theorem rdKey_prefix : ∀ (s : List UInt8) (c : Nat), c < (key s).length → rdKey ((key s).take c) = ([], [], 5)
  | [], c, h => by
    simp [key, esc] at h ⊢
    match c, h with
    | 0, _ => rfl
    | 1, _ => rfl
  | x :: s, c, h => by
    have ih := rdKey_prefix s
    unfold key at ih h ⊢
    by_cases hx : x = 0
    · subst hx
      simp only [esc, if_pos, List.cons_append] at h ⊢
      match c, h with
      | 0, _ => rfl
      | 1, _ => rfl
      | c + 2, h =>
        simp only [List.take_succ_cons]
        rw [rdKey, if_pos rfl, if_neg (by decide), if_pos rfl, ih c (by simpa using h)]
        rfl
    · simp only [esc, if_neg hx, List.cons_append] at h ⊢
      match c, h with
      | 0, _ => rfl
      | c + 1, h =>
        simp only [List.take_succ_cons]
        rw [rdKey_cons _ _ hx, ih c (by simpa using h)]
        rfl
theorem rdKey_broken : ∀ (s : List UInt8), rdKey (esc s ++ [0, 2]) = ([], [], 4)
  | [] => by decide
  | x :: s => by
    have ih := rdKey_broken s
    by_cases hx : x = 0
    · subst hx
      simp only [esc, if_pos, List.cons_append]
      rw [rdKey, if_pos rfl, if_neg (by decide), if_pos rfl, ih]
      rfl
    · simp only [esc, if_neg hx, List.cons_append]
      rw [rdKey_cons _ _ hx, ih]
      rfl
theorem get_cut (s : List UInt8) (n c : Nat) (h : c < (key s ++ be n 8).length) : rdGet ((key s ++ be n 8).take c) [1, 2] = ([], [], 5) := by
  rw [rdGet, if_pos (by decide)]
  by_cases h1 : c < (key s).length
  · rw [List.take_append_of_le_length (by omega)]
    have hk := rdKey_prefix s c h1
    rw [rdAll_bad _ _ _ (by simp [rdPart, hk])]
    simp [rdPart, hk]
  · have e : (key s ++ be n 8).take c = key s ++ (be n 8).take (c - (key s).length) := by
      rw [List.take_append, List.take_of_length_le (by omega)]
    have hl := be_length n 8
    rw [List.length_append, hl] at h
    have hk := rdKey_key ((be n 8).take (c - (key s).length)) s
    rw [e, rdAll_cons _ _ _ (by simp [rdPart, hk])]
    have e2 : (rdPart (key s ++ (be n 8).take (c - (key s).length)) 1).2.1 = (be n 8).take (c - (key s).length) := by simp [rdPart, hk]
    have h8 : ((be n 8).take (c - (key s).length)).length < 8 := by rw [List.length_take]; omega
    have e3 : rdPart ((be n 8).take (c - (key s).length)) 2 = (⟨0, [], 0, 0⟩, [], 5) := by
      rw [rdPart, if_neg (by decide), if_pos h8]
    rw [e2, rdAll_bad _ _ _ (by rw [e3]; decide), e3]
    rfl
theorem get_broken (s : List UInt8) : rdGet (esc s ++ [0, 2]) [1] = ([], [], 4) := by
  rw [rdGet, if_pos (by decide)]
  have hk := rdKey_broken s
  rw [rdAll_bad _ _ _ (by simp [rdPart, hk])]
  simp [rdPart, hk]

set_option maxHeartbeats 1000000 in
theorem okeyCuts_big (s : ByteArray) (n : Nat) (c : Int) (h : 300 < s.size) (w : World) (hm : Max w) :
    Calls Tryd.prog 6 #[.string s, .int .u64 (n : Int), .int .i64 c] w fun e w' => e = .returned (.bool true) ∧ Below w.heap.size w w' := by
  go_enter Tryd.func6, Tryd.ntmps6
  go_wp2_with (go_at_call 9; refine (alive_any _ hm).mono ?_; rintro e w1 ⟨rfl, hb⟩)
  go_ret
  exact ⟨rfl, hb⟩

theorem take_data (B : ByteArray) (k : Nat) : (B.extract 0 k).data.toList = B.data.toList.take k := by
  rcases B with ⟨⟨l⟩⟩
  simp [ByteArray.data_extract]
theorem cat_data (a b : ByteArray) : (a ++ b).data.toList = a.data.toList ++ b.data.toList := by
  rcases a with ⟨⟨l⟩⟩
  rcases b with ⟨⟨m⟩⟩
  simp [ByteArray.data_append]

set_option maxHeartbeats 1000000 in
theorem okeyCuts_few (s : ByteArray) (n : Nat) (c : Int) (h : s.size ≤ 300) (hn : n < 18446744073709551616) (w : World) (hm : Max w) :
    Calls Tryd.prog 6 #[.string s, .int .u64 (n : Int), .int .i64 c] w fun e w' => e = .returned (.bool true) ∧ Below w.heap.size w w' := by
  have hd : decide (300 < s.size) = false := by simpa using h
  have hsz : s.data.toList.length = s.size := rfl
  have hkl := key_length s.data.toList
  have hbl := be_length n 8
  obtain ⟨B, hB⟩ : ∃ B : ByteArray, B = ⟨(layAll [⟨1, s.data.toList, 0, 0⟩, ⟨2, [], n, 0⟩]).toArray⟩ := ⟨_, rfl⟩
  have hBd : B.data.toList = key s.data.toList ++ be n 8 := by rw [hB]; simp [layAll, layPart]
  have hBs : B.size = (key s.data.toList ++ be n 8).length := by rw [← hBd]; rfl
  have hBm : B.size ≤ 700 := by rw [hBs, List.length_append]; omega
  have hput : Hid (∀ C : Array Value, C.toList = partsCells [⟨1, s.data.toList, 0, 0⟩, ⟨2, [], n, 0⟩] → Calls Tryd.prog 10 #[.slice (some ⟨w.heap.size, 0, none⟩) 2 2] (w.alloc (.cells C 28)) fun e w' => e = .returned (.tuple #[.string B, .int .i64 0]) ∧ Below w.heap.size w w') := by
    intro C hC
    have := put_lit w hm [⟨1, s.data.toList, 0, 0⟩, ⟨2, [], n, 0⟩] C hC (by simp) (by
      intro p hp
      simp only [List.mem_cons, List.not_mem_nil, or_false] at hp
      rcases hp with rfl | rfl
      · exact ⟨by simp, by simp, by simp, by simp only; omega⟩
      · exact ⟨hn, by simp, by simp, by simp⟩) (by
      intro k hk
      simp only [List.map_cons, List.map_nil, List.mem_cons, List.not_mem_nil, or_false] at hk
      rcases hk with rfl | rfl <;> decide)
    rw [← hB] at this
    exact this
  obtain ⟨T, hT⟩ : ∃ T : ByteArray, T = ⟨(key s.data.toList).toArray⟩ := ⟨_, rfl⟩
  have hTd : T.data.toList = key s.data.toList := by rw [hT]
  have hTs : T.size = (esc s.data.toList).length + 2 := by
    have : T.size = T.data.toList.length := rfl
    rw [this, hTd]; simp [key]
  have htext : Hid (∀ w' : World, Max w' → Calls Tryd.prog 12 #[.string s] w' fun e w1 => e = .returned (.string T) ∧ Below w'.heap.size w' w1) := by
    intro w' hm'
    rw [hT]
    exact text_any s w' (by omega) hm'
  clear hB hT
  by_cases hc : c < 0
  · clear hBs hTs hBd hTd
    go_enter Tryd.func6, Tryd.ntmps6
    go_wp2_with (first
      | (go_at_call 10; refine (hput.out _ rfl).mono ?_; rintro e w1 ⟨rfl, hbel⟩; replace hm := hm.next hbel)
      | (go_at_call 9; refine (alive_any _ hm).mono ?_; rintro e w1 ⟨rfl, hb⟩; replace hbel := hbel.trans (hb.mono hbel.size)))
    go_ret
    exact ⟨rfl, hbel⟩
  · obtain ⟨k, rfl⟩ : ∃ k : Nat, c = (k : Int) := ⟨c.toNat, by omega⟩
    have hd0 : decide ((k : Int) < 0) = false := by simp
    by_cases hc2 : B.size ≤ k
    · have hc3 : (B.size : Int) ≤ (k : Int) := by omega
      clear hBs hTs hBd hTd hc2
      go_enter Tryd.func6, Tryd.ntmps6
      go_wp2_with (first
        | (go_at_call 10; refine (hput.out _ rfl).mono ?_; rintro e w1 ⟨rfl, hbel⟩; replace hm := hm.next hbel)
        | (go_at_call 9; refine (alive_any _ hm).mono ?_; rintro e w1 ⟨rfl, hb⟩; replace hbel := hbel.trans (hb.mono hbel.size)))
      go_ret
      exact ⟨rfl, hbel⟩
    · have hkB : k < B.size := by omega
      have hd1 : decide ((B.size : Int) ≤ (k : Int)) = false := by simpa using hkB
      have hg1 : Hid (∀ w' : World, Max w' → Calls Tryd.prog 11 #[.string (B.extract 0 k), .slice (some ⟨w'.heap.size, 0, none⟩) 2 2] (w'.alloc (.cells #[.int .i64 1, .int .i64 2] 3)) fun e w1 => (∃ a cap, e = .returned (.tuple #[.slice a 0 cap, .string ⟨#[]⟩, .int .i64 5])) ∧ Below w'.heap.size w' w1) := by
        intro w' hm'
        exact get_err w' hm' (B.extract 0 k) [1, 2] _ rfl (by
          have : (B.extract 0 k).size = (B.extract 0 k).data.toList.length := rfl
          rw [this, take_data, List.length_take]
          have : B.data.toList.length = B.size := rfl
          omega) (by decide) 5 (by rw [take_data, hBd]; exact get_cut _ _ _ (by omega))
      have hg2 : Hid (∀ w' : World, Max w' → Calls Tryd.prog 11 #[.string (T.extract 0 ((esc s.data.toList).length + 1) ++ ⟨#[2]⟩), .slice (some ⟨w'.heap.size, 0, none⟩) 1 1] (w'.alloc (.cells #[.int .i64 1] 3)) fun e w1 => (∃ a cap, e = .returned (.tuple #[.slice a 0 cap, .string ⟨#[]⟩, .int .i64 4])) ∧ Below w'.heap.size w' w1) := by
        intro w' hm'
        have hx : (T.extract 0 ((esc s.data.toList).length + 1) ++ ⟨#[2]⟩).data.toList = esc s.data.toList ++ [0, 2] := by
          rw [cat_data, take_data, hTd, key, List.take_append, List.take_of_length_le (by omega)]
          simp
        exact get_err w' hm' _ [1] _ rfl (by
          have : (T.extract 0 ((esc s.data.toList).length + 1) ++ ⟨#[2]⟩).size = (T.extract 0 ((esc s.data.toList).length + 1) ++ ⟨#[2]⟩).data.toList.length := rfl
          rw [this, hx, List.length_append]
          have := esc_length s.data.toList
          simp only [List.length_cons, List.length_nil]
          omega) (by decide) 4 (by rw [hx]; exact get_broken _)
      have hesc := esc_length s.data.toList
      generalize (esc s.data.toList).length = m at hTs hg2 hesc
      have hTi : (T.size : Int) - 1 = ((m + 1 : Nat) : Int) := by omega
      have hTb : m + 1 ≤ T.size := by omega
      have hTm : T.size ≤ 700 := by omega
      clear hBs hTs hBd hTd
      go_enter Tryd.func6, Tryd.ntmps6
      go_wp2_with (first
        | (go_at_call 10; refine (hput.out _ rfl).mono ?_; rintro e w1 ⟨rfl, hbel⟩; replace hm := hm.next hbel)
        | (go_at_call 11; with_reducible refine (hg1.out _ hm).mono ?_; rintro e w1 ⟨⟨a1, cap1, rfl⟩, hb⟩; replace hm := hm.next hb; replace hbel := hbel.trans (hb.mono hbel.size))
        | (go_at_call 12; refine (htext.out _ hm).mono ?_; rintro e w1 ⟨rfl, hb⟩; replace hm := hm.next hb; replace hbel := hbel.trans (hb.mono hbel.size))
        | (go_at_call 11; with_reducible refine (hg2.out _ hm).mono ?_; rintro e w1 ⟨⟨a2, cap2, rfl⟩, hb⟩; replace hm := hm.next hb; replace hbel := hbel.trans (hb.mono hbel.size))
        | (go_at_call 9; refine (alive_any _ hm).mono ?_; rintro e w1 ⟨rfl, hb⟩; replace hbel := hbel.trans (hb.mono hbel.size)))
      go_ret
      exact ⟨rfl, hbel⟩

theorem okeyCuts_walk (s : ByteArray) (hs : s.size ≤ maxLen) (n : Nat) (hn : n < 18446744073709551616) (c : Int) (h0 : -9223372036854775808 ≤ c) (h1 : c ≤ 9223372036854775807) (w : World) (hm : Max w) :
    Calls Tryd.prog 6 #[.string s, .int .u64 (n : Int), .int .i64 c] w fun e w' => e = .returned (.bool true) ∧ Below w.heap.size w w' := by
  have _ := hs
  have _ := h0
  have _ := h1
  by_cases h : s.size ≤ 300
  · exact okeyCuts_few s n c h hn w hm
  · exact okeyCuts_big s n c (by omega) w hm
end Go.Proofs.YtfcoagkpeheigaaDoor
