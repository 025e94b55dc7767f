/- The walks of statement NumDigits of chapter 1: it answers true for every two ints. -/
import Derived.Test.YtnkmchlldhdenaaDoorW5
import Derived.Test.YtnkmchlldhdenaaDoorW9
namespace Go.Proofs.YtnkmchlldhdenaaDoor
open Go.RowKit

theorem dec_big {u : Nat} (h : ¬ u < 10) : Lib.decDigits u = Lib.decDigits (u / 10) ++ [UInt8.ofNat (48 + u % 10)] := by rw [Lib.decDigits, dif_neg h]
theorem dig_nat (d : Nat) (h : d < 10) : (UInt8.ofNat (48 + d)).toNat = 48 + d := by
  rw [UInt8.toNat_ofNat']
  omega
theorem dec_dig (u : Nat) : (Lib.decDigits u).all isDig = true := by
  induction u using Nat.strongRecOn with
  | _ u ih =>
    by_cases h : u < 10
    · rw [Lib.decDigits_one h]
      simp only [List.all_cons, List.all_nil, Bool.and_true, isDig, decide_eq_true_eq, dig_nat u h]
      omega
    · rw [dec_big h, List.all_append, ih (u / 10) (by omega)]
      simp only [List.all_cons, List.all_nil, Bool.and_true, Bool.true_and, isDig, decide_eq_true_eq, dig_nat (u % 10) (by omega)]
      omega
theorem dec_val (u : Nat) : decVal (Lib.decDigits u) = u := by
  induction u using Nat.strongRecOn with
  | _ u ih =>
    by_cases h : u < 10
    · rw [Lib.decDigits_one h]
      simp only [decVal, List.foldl_cons, List.foldl_nil, dig_nat u h]
      omega
    · rw [dec_big h, decVal_snoc, ih (u / 10) (by omega), dig_nat (u % 10) (by omega)]
      omega
theorem dec_head (u : Nat) (h1 : 1 ≤ u) : ∃ c r, Lib.decDigits u = c :: r ∧ 49 ≤ c.toNat ∧ c.toNat ≤ 57 := by
  induction u using Nat.strongRecOn with
  | _ u ih =>
    by_cases h : u < 10
    · exact ⟨_, [], Lib.decDigits_one h, by rw [dig_nat u h]; omega, by rw [dig_nat u h]; omega⟩
    · obtain ⟨c, r, hc, h2⟩ := ih (u / 10) (by omega) (by omega)
      exact ⟨c, r ++ [UInt8.ofNat (48 + u % 10)], by rw [dec_big h, hc]; rfl, h2⟩
theorem dec_first (u : Nat) : ∃ c r, Lib.decDigits u = c :: r ∧ 48 ≤ c.toNat := by
  by_cases h : 1 ≤ u
  · obtain ⟨c, r, hc, h2⟩ := dec_head u h
    exact ⟨c, r, hc, by omega⟩
  · have h0 : u = 0 := by omega
    subst h0
    exact ⟨_, [], Lib.decDigits_one (by omega), by rw [dig_nat 0 (by omega)]; omega⟩
theorem nDigits_le : ∀ (k u : Nat), u < 10 ^ (k + 1) → Lib.nDigits u ≤ k + 1
  | 0, u, h => by rw [Lib.nDigits_small (by omega)]; omega
  | k + 1, u, h => by
    by_cases h10 : u < 10
    · rw [Lib.nDigits_small h10]; omega
    · rw [Lib.nDigits_big h10]
      have := nDigits_le k (u / 10) (by rw [Nat.pow_succ] at h; omega)
      omega
theorem dec_plain (u : Nat) : plainB (Lib.decDigits u) = decide (u < 1000000000000000000) := by
  by_cases h : u < 1000000000000000000
  · have hl := nDigits_le 17 u (by omega)
    have hp := Lib.nDigits_pos u
    rw [plainB_end _ (by rw [Lib.decDigits_length]; omega) (dec_dig u)]
    simp only [h, decide_true]
    by_cases h1 : u < 10
    · rw [Lib.decDigits_one h1]; simp
    · obtain ⟨c, r, hc, hc1, -⟩ := dec_head u (by omega)
      rw [hc]
      have : ¬ c = 48 := by intro h; rw [h] at hc1; exact absurd hc1 (by decide)
      simp [this]
  · have hl := Lib.lt_pow_nDigits u
    have : 18 < Lib.nDigits u := by
      rcases Nat.lt_or_ge 18 (Lib.nDigits u) with h1 | h1
      · exact h1
      · have := Nat.pow_le_pow_right (n := 10) (by omega) h1
        omega
    rw [plainB_len _ (by rw [Lib.decDigits_length]; omega)]
    simp [h]

theorem itoa_parts (a : Int) : isMinus (Lib.itoa a) = decide (a < 0) ∧ dropMinus (Lib.itoa a) = Lib.decDigits a.natAbs := by
  by_cases h : a < 0
  · have e : Lib.itoa a = 45 :: Lib.decDigits a.natAbs := by unfold Lib.itoa; rw [if_pos h]
    have hp : Lib.hasPrefix (Lib.itoa a) [45] = true := by rw [e]; simp [Lib.hasPrefix, List.isPrefixOf]
    unfold isMinus dropMinus Lib.trimPrefix
    rw [hp, e]
    simp [h]
  · have e : Lib.itoa a = Lib.decDigits a.natAbs := by
      unfold Lib.itoa
      rw [if_neg h, show a.toNat = a.natAbs by omega]
    obtain ⟨c, r, hc, h48⟩ := dec_first a.natAbs
    have hne : ¬ c = 45 := by intro h; rw [h] at h48; exact absurd h48 (by decide)
    have hp : Lib.hasPrefix (Lib.itoa a) [45] = false := by
      rw [e, hc]
      simp only [Lib.hasPrefix, List.isPrefixOf, Bool.and_true, beq_eq_false_iff_ne]
      exact fun h => hne h.symm
    unfold isMinus dropMinus Lib.trimPrefix
    rw [hp, e]
    simp [h]
theorem itoa_ok (a : Int) : okNum (Lib.itoa a) = decide (-1000000000000000000 < a ∧ a < 1000000000000000000) := by
  obtain ⟨h1, h2⟩ := itoa_parts a
  unfold okNum
  rw [h1, h2, dec_plain]
  by_cases h : a < 0
  · have hz : (Lib.decDigits a.natAbs == [48]) = false := by
      obtain ⟨c, r, hc, hc1, -⟩ := dec_head a.natAbs (by omega)
      rw [hc]
      have : ¬ c = 48 := by intro h; rw [h] at hc1; exact absurd hc1 (by decide)
      simp [this]
    rw [hz]
    simp only [Bool.and_false, Bool.not_false, Bool.and_true, decide_eq_decide]
    omega
  · simp only [h, decide_false, Bool.false_and, Bool.not_false, Bool.and_true, decide_eq_decide]
    omega
theorem itoa_val (a : Int) : (if isMinus (Lib.itoa a) then -(decVal (dropMinus (Lib.itoa a)) : Int) else (decVal (dropMinus (Lib.itoa a)) : Int)) = a := by
  obtain ⟨h1, h2⟩ := itoa_parts a
  rw [h1, h2, dec_val]
  by_cases h : a < 0
  · simp only [h, decide_true, if_true]; omega
  · simp only [h, decide_false]; simp; omega
theorem itoa_inj {a b : Int} (h : Lib.itoa a = Lib.itoa b) : a = b := by
  rw [← itoa_val a, h, itoa_val b]
theorem itoa_eq (a b : Int) : (Lib.itoa a == Lib.itoa b) = (a == b) := by
  by_cases h : a = b
  · subst h; rw [beq_self_eq_true, beq_self_eq_true]
  · have h2 : ¬ Lib.itoa a = Lib.itoa b := fun e => h (itoa_inj e)
    rw [beq_eq_false_iff_ne.2 h2, beq_eq_false_iff_ne.2 h]
theorem ret_bool {a b : Bool} (h : a = b) : Ending.returned (.bool a) = .returned (.bool b) := by rw [h]

theorem number_itoa_yes (a : Int) (w : World) (h : -1000000000000000000 < a ∧ a < 1000000000000000000) :
    Calls Tryd.prog 15 #[.string ⟨(Lib.itoa a).toArray⟩] w fun e w' => e = .returned (.tuple #[.int .i64 a, .int .i64 0]) ∧ w = w' := by
  have := number_yes ⟨(Lib.itoa a).toArray⟩ w (by simp only [itoa_ok]; simpa using h)
  simp only [itoa_val] at this
  exact this
theorem number_itoa_no (a : Int) (w : World) (h : ¬ (-1000000000000000000 < a ∧ a < 1000000000000000000)) :
    Calls Tryd.prog 15 #[.string ⟨(Lib.itoa a).toArray⟩] w fun e w' => e = .returned (.tuple #[.int .i64 0, .int .i64 1]) ∧ w = w' :=
  number_no ⟨(Lib.itoa a).toArray⟩ w (by simp only [itoa_ok]; exact decide_eq_false h)

set_option maxHeartbeats 2000000 in
set_option maxRecDepth 100000 in
theorem numDigits_yes (a b : Int) (w : World) (a0 : -9223372036854775808 ≤ a) (a1 : a ≤ 9223372036854775807) (b0 : -9223372036854775808 ≤ b) (b1 : b ≤ 9223372036854775807) (h0 : -1000000000000000000 < a) (h1 : a < 1000000000000000000) (htab : Tab w.heap.size w) :
    Calls Tryd.prog 6 #[.int .i64 a, .int .i64 b] w fun e w' => e = .returned (.bool true) ∧ Below w.heap.size w w' := by
  have HT := Lib.hid htab
  have hq := Lib.hid (itoa_eq a b)
  clear htab
  go_enter Tryd.func6, Tryd.ntmps6
  go_wp2_with fail
  refine (digits_any a a0 a1 w.heap.size _ HT.out).mono ?_
  rintro e w1 ⟨rfl, hb1⟩
  go_wp2_with fail
  refine (number_itoa_yes a _ ⟨h0, h1⟩).mono ?_
  rintro e w1' ⟨rfl, rfl⟩
  go_wp2_with fail
  refine (alive_any w.heap.size _ hb1.size (HT.out.on hb1)).mono ?_
  rintro e w2 ⟨rfl, hb2⟩
  replace hb2 := hb1.trans (hb2.mono hb1.size)
  clear hb1
  go_wp2_with fail
  refine (digits_any a a0 a1 w.heap.size _ (HT.out.on hb2)).mono ?_
  rintro e w3 ⟨rfl, hb3⟩
  replace hb3 := hb2.trans (hb3.mono hb2.size)
  clear hb2
  go_wp2_with fail
  refine (digits_any b b0 b1 w.heap.size _ (HT.out.on hb3)).mono ?_
  rintro e w4 ⟨rfl, hb4⟩
  replace hb4 := hb3.trans (hb4.mono hb3.size)
  clear hb3
  go_wp2
  go_ret
  exact ⟨ret_bool (by rw [hq.out]; exact beq_self_eq_true _), hb4⟩

set_option maxHeartbeats 2000000 in
set_option maxRecDepth 100000 in
theorem numDigits_low (a b : Int) (w : World) (a0 : -9223372036854775808 ≤ a) (a1 : a ≤ 9223372036854775807) (b0 : -9223372036854775808 ≤ b) (b1 : b ≤ 9223372036854775807) (h0 : a ≤ -1000000000000000000) (htab : Tab w.heap.size w) :
    Calls Tryd.prog 6 #[.int .i64 a, .int .i64 b] w fun e w' => e = .returned (.bool true) ∧ Below w.heap.size w w' := by
  have HT := Lib.hid htab
  have hq := Lib.hid (itoa_eq a b)
  clear htab
  go_enter Tryd.func6, Tryd.ntmps6
  go_wp2_with fail
  refine (digits_any a a0 a1 w.heap.size _ HT.out).mono ?_
  rintro e w1 ⟨rfl, hb1⟩
  go_wp2_with fail
  refine (number_itoa_no a _ (by omega)).mono ?_
  rintro e w1' ⟨rfl, rfl⟩
  go_wp2_with fail
  refine (alive_any w.heap.size _ hb1.size (HT.out.on hb1)).mono ?_
  rintro e w2 ⟨rfl, hb2⟩
  replace hb2 := hb1.trans (hb2.mono hb1.size)
  clear hb1
  go_wp2_with fail
  refine (digits_any a a0 a1 w.heap.size _ (HT.out.on hb2)).mono ?_
  rintro e w3 ⟨rfl, hb3⟩
  replace hb3 := hb2.trans (hb3.mono hb2.size)
  clear hb2
  go_wp2_with fail
  refine (digits_any b b0 b1 w.heap.size _ (HT.out.on hb3)).mono ?_
  rintro e w4 ⟨rfl, hb4⟩
  replace hb4 := hb3.trans (hb4.mono hb3.size)
  clear hb3
  go_wp2
  go_ret
  exact ⟨ret_bool (by rw [hq.out]; exact beq_self_eq_true _), hb4⟩

set_option maxHeartbeats 2000000 in
set_option maxRecDepth 100000 in
theorem numDigits_high (a b : Int) (w : World) (a0 : -9223372036854775808 ≤ a) (a1 : a ≤ 9223372036854775807) (b0 : -9223372036854775808 ≤ b) (b1 : b ≤ 9223372036854775807) (h0 : 1000000000000000000 ≤ a) (htab : Tab w.heap.size w) :
    Calls Tryd.prog 6 #[.int .i64 a, .int .i64 b] w fun e w' => e = .returned (.bool true) ∧ Below w.heap.size w w' := by
  have HT := Lib.hid htab
  have hq := Lib.hid (itoa_eq a b)
  clear htab
  have hg : -1000000000000000000 < a := by omega
  go_enter Tryd.func6, Tryd.ntmps6
  go_wp2_with fail
  refine (digits_any a a0 a1 w.heap.size _ HT.out).mono ?_
  rintro e w1 ⟨rfl, hb1⟩
  go_wp2_with fail
  refine (number_itoa_no a _ (by omega)).mono ?_
  rintro e w1' ⟨rfl, rfl⟩
  go_wp2_with fail
  refine (alive_any w.heap.size _ hb1.size (HT.out.on hb1)).mono ?_
  rintro e w2 ⟨rfl, hb2⟩
  replace hb2 := hb1.trans (hb2.mono hb1.size)
  clear hb1
  go_wp2_with fail
  refine (digits_any a a0 a1 w.heap.size _ (HT.out.on hb2)).mono ?_
  rintro e w3 ⟨rfl, hb3⟩
  replace hb3 := hb2.trans (hb3.mono hb2.size)
  clear hb2
  go_wp2_with fail
  refine (digits_any b b0 b1 w.heap.size _ (HT.out.on hb3)).mono ?_
  rintro e w4 ⟨rfl, hb4⟩
  replace hb4 := hb3.trans (hb4.mono hb3.size)
  clear hb3
  go_wp2
  go_ret
  exact ⟨ret_bool (by rw [hq.out]; exact beq_self_eq_true _), hb4⟩

theorem numDigits_walk (a : Int) (a0 : -9223372036854775808 ≤ a) (a1 : a ≤ 9223372036854775807) (b : Int) (b0 : -9223372036854775808 ≤ b) (b1 : b ≤ 9223372036854775807) (w : World) (htab : Tab w.heap.size w) :
    Calls Tryd.prog 6 #[.int .i64 a, .int .i64 b] w fun e w' => e = .returned (.bool true) ∧ Below w.heap.size w w' := by
  by_cases h0 : a ≤ -1000000000000000000
  · exact numDigits_low a b w a0 a1 b0 b1 h0 htab
  · by_cases h1 : 1000000000000000000 ≤ a
    · exact numDigits_high a b w a0 a1 b0 b1 h1 htab
    · exact numDigits_yes a b w a0 a1 b0 b1 (by omega) (by omega) htab
end Go.Proofs.YtnkmchlldhdenaaDoor
