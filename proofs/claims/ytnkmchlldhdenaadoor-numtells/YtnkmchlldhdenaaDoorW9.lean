/- Contracts of num.isPlain and num.Number: which texts are numbers, and which number each is. -/
import Derived.Test.YtnkmchlldhdenaaDoorW3
namespace Go.Proofs.YtnkmchlldhdenaaDoor
open Go.RowKit

def isDig (b : UInt8) : Bool := decide (48 ≤ b.toNat ∧ b.toNat ≤ 57)
/-- 1 to 18 digits, without a 0 ahead of others. -/
def plainB (l : List UInt8) : Bool := decide (1 ≤ l.length ∧ l.length ≤ 18) && l.all isDig && (decide (l.head? ≠ some 48) || decide (l.length = 1))
def decVal (l : List UInt8) : Nat := l.foldl (fun a b => a * 10 + (b.toNat - 48)) 0
theorem decVal_snoc (l : List UInt8) (b : UInt8) : decVal (l ++ [b]) = decVal l * 10 + (b.toNat - 48) := by simp [decVal, List.foldl_append]

theorem decVal_lt : ∀ (l : List UInt8), l.all isDig = true → ∀ a, l.foldl (fun a b => a * 10 + (b.toNat - 48)) a < (a + 1) * 10 ^ l.length
  | [], _, a => by simp
  | b :: r, h, a => by
    rw [List.all_cons, Bool.and_eq_true] at h
    have hb : b.toNat ≤ 57 := by have := h.1; simp only [isDig, decide_eq_true_eq] at this; exact this.2
    have h2 := decVal_lt r h.2 (a * 10 + (b.toNat - 48))
    simp only [List.foldl_cons, List.length_cons]
    refine Nat.lt_of_lt_of_le h2 ?_
    rw [Nat.pow_succ, Nat.mul_comm (10 ^ r.length) 10, ← Nat.mul_assoc]
    exact Nat.mul_le_mul_right _ (by omega)
theorem decVal_small (l : List UInt8) (h : l.all isDig = true) (n : Nat) (hn : l.length ≤ n) : decVal l < 10 ^ n := by
  have h1 : decVal l < 1 * 10 ^ l.length := by simpa [decVal] using decVal_lt l h 0
  have h2 : 10 ^ l.length ≤ 10 ^ n := Nat.pow_le_pow_right (by omega) hn
  omega
theorem all_take (l : List UInt8) (k : Nat) (h : l.all isDig = true) : (l.take k).all isDig = true := by
  rw [List.all_eq_true] at h ⊢
  exact fun x hx => h x (List.mem_of_mem_take hx)

theorem plainB_len (l : List UInt8) (h : ¬ (1 ≤ l.length ∧ l.length ≤ 18)) : plainB l = false := by simp [plainB, h]
theorem plainB_bad (l : List UInt8) (b : UInt8) (h : b ∈ l) (hb : isDig b = false) : plainB l = false := by
  have : l.all isDig = false := by
    rw [Bool.eq_false_iff]
    intro h1
    have := List.all_eq_true.1 h1 b h
    rw [hb] at this
    exact Bool.noConfusion this
  simp [plainB, this]
theorem plainB_end (l : List UInt8) (h : 1 ≤ l.length ∧ l.length ≤ 18) (ha : l.all isDig = true) : plainB l = (decide (l.head? ≠ some 48) || decide (l.length = 1)) := by simp [plainB, h, ha]

theorem take_snoc_str (s : ByteArray) (k : Nat) (h : k < s.size) : s.data.toList.take (k + 1) = s.data.toList.take k ++ [s[k]] := by
  have h1 : k < s.data.toList.length := by rw [Array.length_toList]; exact h
  rw [List.take_succ_eq_append_getElem h1]
  rfl
theorem mem_str (s : ByteArray) (k : Nat) (h : k < s.size) : s[k] ∈ s.data.toList := by
  have h1 : k < s.data.toList.length := by rw [Array.length_toList]; exact h
  have : s.data.toList[k] ∈ s.data.toList := List.getElem_mem h1
  exact this
theorem len_data (s : ByteArray) : s.data.toList.length = s.size := by rw [Array.length_toList]; rfl

set_option maxHeartbeats 1000000 in
theorem isPlain_short (s : ByteArray) (w : World) (h : s.size < 1 ∨ 18 < s.size) :
    Calls Tryd.prog 47 #[.string s] w fun e w' => e = .returned (.bool false) ∧ w = w' := by
  rcases h with h | h
  · go_enter Tryd.func47, Tryd.ntmps47
    go_wp2
    go_ret
    exact ⟨rfl, rfl⟩
  · have h1 : 1 ≤ (s.size : Int) := by omega
    have hd : decide ((s.size : Int) < 1) = false := by simp; omega
    go_enter Tryd.func47, Tryd.ntmps47
    go_wp2
    go_ret
    exact ⟨rfl, rfl⟩

set_option maxHeartbeats 1000000 in
theorem isPlain_mid (s : ByteArray) (w : World) (h1 : 1 ≤ s.size) (h18 : s.size ≤ 18) :
    Calls Tryd.prog 47 #[.string s] w fun e w' => e = .returned (.bool (plainB s.data.toList)) ∧ w = w' := by
  have hd1 : decide ((s.size : Int) < 1) = false := by simp; omega
  have hd2 : decide ((18 : Int) < (s.size : Int)) = false := by simp; omega
  go_enter Tryd.func47, Tryd.ntmps47
  go_wp2
  go_loop [14] (fun i => ∃ k : Nat, k ≤ s.size ∧ i = .int .i64 k ∧ Hid ((s.data.toList.take k).all isDig = true)) (fun i => s.size - (intOf i).toNat)
  case atStart => exact ⟨0, Nat.zero_le _, rfl, rfl⟩
  case round =>
    obtain ⟨k, hk, rfl, HA⟩ := hrel
    by_cases hlt : k < s.size
    · have HS := Lib.hid (take_snoc_str s k hlt)
      have HM := Lib.hid (mem_str s k hlt)
      go_wp2
      · have hb : (s[k].toNat : Int) < 48 ∨ 57 < (s[k].toNat : Int) := by assumption
        have hp : plainB s.data.toList = false := plainB_bad _ _ HM.out (by simp only [isDig, decide_eq_false_iff_not]; omega)
        go_ret
        exact ⟨by rw [hp]; rfl, rfl⟩
      · have hb : 48 ≤ (s[k].toNat : Int) ∧ (s[k].toNat : Int) ≤ 57 := by assumption
        go_round
        case rel =>
          refine ⟨k + 1, by omega, by go_num, ?_⟩
          show _ = _
          rw [HS.out, List.all_append, HA.out]
          have : isDig s[k] = true := by simp only [isDig, decide_eq_true_eq]; omega
          simp [this]
        case measure => simp [intOf]; omega
      · have hb : (s[k].toNat : Int) < 48 := by assumption
        have hp : plainB s.data.toList = false := plainB_bad _ _ HM.out (by simp only [isDig, decide_eq_false_iff_not]; omega)
        go_ret
        exact ⟨by rw [hp]; rfl, rfl⟩
    · have hke : k = s.size := by omega
      have hall := HA.out
      rw [hke, List.take_of_length_le (by rw [len_data]; exact Nat.le_refl _)] at hall
      have hhead := drop_cons s 0 (by omega)
      rw [List.drop_zero] at hhead
      have HE := Lib.hid (plainB_end s.data.toList (by rw [len_data]; omega) hall)
      have HH := Lib.hid hhead
      clear hall hhead HA
      go_wp2
      · have hb : (s[0].toNat : Int) = 48 := by assumption
        have h0 : s[0] = 48 := by apply UInt8.toNat_inj.1; show s[0].toNat = 48; omega
        have hp : plainB s.data.toList = ((s.size : Int) == 1) := by
          rw [HE.out, len_data]
          rw [show s.data.toList.head? = some 48 by rw [HH.out, h0]; rfl]
          by_cases hz : s.size = 1
          · simp [hz]
          · have : ¬ (s.size : Int) = 1 := by omega
            simp [hz, this]
        go_ret
        exact ⟨by rw [hp]; rfl, rfl⟩
      · have hb : ¬ (s[0].toNat : Int) = 48 := by assumption
        have h0 : ¬ s[0] = 48 := by intro h; apply hb; rw [h]; rfl
        have hp : plainB s.data.toList = true := by
          rw [HE.out]
          rw [show s.data.toList.head? = some s[0] by rw [HH.out]; rfl]
          simp [h0]
        go_ret
        exact ⟨by rw [hp]; rfl, rfl⟩

theorem isPlain_any (s : ByteArray) (w : World) :
    Calls Tryd.prog 47 #[.string s] w fun e w' => e = .returned (.bool (plainB s.data.toList)) ∧ w = w' := by
  by_cases h : s.size < 1 ∨ 18 < s.size
  · rw [plainB_len _ (by rw [len_data]; omega)]
    exact isPlain_short s w h
  · exact isPlain_mid s w (by omega) (by omega)

/-- Behind a minus; is there one? -/
def dropMinus (l : List UInt8) : List UInt8 := Lib.trimPrefix l [45]
def isMinus (l : List UInt8) : Bool := Lib.hasPrefix l [45]
/-- Which texts are numbers. -/
def okNum (l : List UInt8) : Bool := plainB (dropMinus l) && !(isMinus l && (dropMinus l == [48]))

theorem cut_minus (s : ByteArray) (w : World) :
    Calls Tryd.prog 46 #[.string s, .string ⟨#[45]⟩] w fun e w' => e = .returned (.tuple #[.string ⟨(dropMinus s.data.toList).toArray⟩, .bool (isMinus s.data.toList)]) ∧ w = w' :=
  (Tryd.strings_CutPrefix s ⟨#[45]⟩ w).mono fun _ _ h => ⟨h.1, h.2.symm⟩

set_option maxHeartbeats 1000000 in
theorem number_no (s : ByteArray) (w : World) (h : okNum s.data.toList = false) :
    Calls Tryd.prog 15 #[.string s] w fun e w' => e = .returned (.tuple #[.int .i64 0, .int .i64 1]) ∧ w = w' := by
  obtain ⟨D, hD⟩ : ∃ D : ByteArray, D = ⟨(dropMinus s.data.toList).toArray⟩ := ⟨_, rfl⟩
  obtain ⟨m, hm⟩ : ∃ m, m = isMinus s.data.toList := ⟨_, rfl⟩
  have hdl : dropMinus s.data.toList = D.data.toList := by rw [hD]
  have HC : ∀ w, Hid (Calls Tryd.prog 46 #[.string s, .string ⟨#[45]⟩] w fun e w' => e = .returned (.tuple #[.string D, .bool m]) ∧ w = w') := fun w => by
    rw [hD, hm]; exact cut_minus s w
  unfold okNum at h
  rw [hdl, ← hm] at h
  clear hdl hD hm
  by_cases hp : plainB D.data.toList = false
  · have HP : ∀ w, Hid (Calls Tryd.prog 47 #[.string D] w fun e w' => e = .returned (.bool false) ∧ w = w') := fun w => by
      rw [← hp]; exact isPlain_any D w
    clear h hp
    go_enter Tryd.func15, Tryd.ntmps15
    go_wp2_with (first | (go_at_call 46; refine (HC _).out.mono ?_; rintro e w' ⟨rfl, rfl⟩) | (go_at_call 47; refine (HP _).out.mono ?_; rintro e w' ⟨rfl, rfl⟩))
    go_ret2
    exact ⟨rfl, rfl⟩
  · have hp' : plainB D.data.toList = true := by simpa using hp
    have HP : ∀ w, Hid (Calls Tryd.prog 47 #[.string D] w fun e w' => e = .returned (.bool true) ∧ w = w') := fun w => by
      rw [← hp']; exact isPlain_any D w
    rw [hp'] at h
    simp only [Bool.true_and, Bool.not_eq_false', Bool.and_eq_true, beq_iff_eq] at h
    obtain ⟨rfl, h2⟩ := h
    have hD : D = ⟨#[48]⟩ := by apply ByteArray.ext; apply Array.toList_inj.1; rw [h2]
    subst hD
    clear hp hp' h2
    go_enter Tryd.func15, Tryd.ntmps15
    go_wp2_with (first | (go_at_call 46; refine (HC _).out.mono ?_; rintro e w' ⟨rfl, rfl⟩) | (go_at_call 47; refine (HP _).out.mono ?_; rintro e w' ⟨rfl, rfl⟩))
    go_ret2
    exact ⟨rfl, rfl⟩

set_option maxHeartbeats 2000000 in
theorem number_yes (s : ByteArray) (w : World) (h : okNum s.data.toList = true) :
    Calls Tryd.prog 15 #[.string s] w fun e w' => e = .returned (.tuple #[.int .i64 (if isMinus s.data.toList then -(decVal (dropMinus s.data.toList) : Int) else (decVal (dropMinus s.data.toList) : Int)), .int .i64 0]) ∧ w = w' := by
  obtain ⟨D, hD⟩ : ∃ D : ByteArray, D = ⟨(dropMinus s.data.toList).toArray⟩ := ⟨_, rfl⟩
  obtain ⟨m, hm⟩ : ∃ m, m = isMinus s.data.toList := ⟨_, rfl⟩
  have hdl : dropMinus s.data.toList = D.data.toList := by rw [hD]
  have HC : ∀ w, Hid (Calls Tryd.prog 46 #[.string s, .string ⟨#[45]⟩] w fun e w' => e = .returned (.tuple #[.string D, .bool m]) ∧ w = w') := fun w => by
    rw [hD, hm]; exact cut_minus s w
  unfold okNum at h
  rw [hdl, ← hm] at h ⊢
  clear hdl hD hm
  rw [Bool.and_eq_true] at h
  obtain ⟨hp, h2⟩ := h
  have HP : ∀ w, Hid (Calls Tryd.prog 47 #[.string D] w fun e w' => e = .returned (.bool true) ∧ w = w') := fun w => by
    rw [← hp]; exact isPlain_any D w
  unfold plainB at hp
  simp only [Bool.and_eq_true, decide_eq_true_eq] at hp
  obtain ⟨⟨⟨hl1, hl18⟩, hall⟩, -⟩ := hp
  rw [len_data] at hl1 hl18
  have hz : m = true → (D.toList == [48]) = false := by
    intro hm
    rw [hm] at h2
    rw [Lib.toList_data]
    simpa using h2
  clear h2
  have HALL := Lib.hid hall
  clear hall
  cases m
  · clear hz
    go_enter Tryd.func15, Tryd.ntmps15
    go_wp2_with (first | (go_at_call 46; refine (HC _).out.mono ?_; rintro e w' ⟨rfl, rfl⟩) | (go_at_call 47; refine (HP _).out.mono ?_; rintro e w' ⟨rfl, rfl⟩))
    go_loop [6, 25] (fun v i => ∃ (k : Nat) (X : Int), k ≤ D.size ∧ i = .int .i64 k ∧ v = .int .i64 X ∧ Hid (X = (decVal (D.data.toList.take k) : Nat))) (fun _ i => D.size - (intOf i).toNat)
    case atStart => exact ⟨0, 0, Nat.zero_le _, rfl, rfl, rfl⟩
    case round =>
      obtain ⟨k, X, hk, rfl, rfl, HX⟩ := hrel
      by_cases hlt : k < D.size
      · have HS := Lib.hid (take_snoc_str D k hlt)
        have hb0 : 0 ≤ X := by have := HX.out; omega
        have hb1 : X < 100000000000000000 := by
          have h1 := decVal_small (D.data.toList.take k) (all_take _ _ HALL.out) 17 (by rw [List.length_take]; omega)
          have := HX.out
          omega
        have hdg : isDig D[k] = true := List.all_eq_true.1 HALL.out _ (mem_str D k hlt)
        simp only [isDig, decide_eq_true_eq] at hdg
        have hg0 : 48 ≤ (D[k].toNat : Int) := by omega
        have hg1 : (D[k].toNat : Int) ≤ 57 := by omega
        clear hdg
        go_wp2
        go_round
        case rel =>
          refine ⟨k + 1, _, by omega, by go_num, rfl, ?_⟩
          show _ = _
          rw [HS.out, decVal_snoc, HX.out]
          omega
        case measure => simp [intOf]; omega
      · have hke : k = D.size := by omega
        have hX : Hid (X = (decVal D.data.toList : Nat)) := by
          show _ = _
          rw [HX.out, hke, List.take_of_length_le (by rw [len_data]; exact Nat.le_refl _)]
        have hb0 : 0 ≤ X := by have := HX.out; omega
        have hb1 : X < 1000000000000000000 := by
          have h1 := decVal_small D.data.toList HALL.out 18 (by rw [len_data]; omega)
          have := hX.out
          omega
        go_wp2
        go_ret2
        rw [← hX.out]
        exact ⟨rfl, rfl⟩
  · have hz' := hz rfl
    clear hz
    go_enter Tryd.func15, Tryd.ntmps15
    go_wp2_with (first | (go_at_call 46; refine (HC _).out.mono ?_; rintro e w' ⟨rfl, rfl⟩) | (go_at_call 47; refine (HP _).out.mono ?_; rintro e w' ⟨rfl, rfl⟩))
    go_loop [6, 25] (fun v i => ∃ (k : Nat) (X : Int), k ≤ D.size ∧ i = .int .i64 k ∧ v = .int .i64 X ∧ Hid (X = (decVal (D.data.toList.take k) : Nat))) (fun _ i => D.size - (intOf i).toNat)
    case atStart => exact ⟨0, 0, Nat.zero_le _, rfl, rfl, rfl⟩
    case round =>
      obtain ⟨k, X, hk, rfl, rfl, HX⟩ := hrel
      by_cases hlt : k < D.size
      · have HS := Lib.hid (take_snoc_str D k hlt)
        have hb0 : 0 ≤ X := by have := HX.out; omega
        have hb1 : X < 100000000000000000 := by
          have h1 := decVal_small (D.data.toList.take k) (all_take _ _ HALL.out) 17 (by rw [List.length_take]; omega)
          have := HX.out
          omega
        have hdg : isDig D[k] = true := List.all_eq_true.1 HALL.out _ (mem_str D k hlt)
        simp only [isDig, decide_eq_true_eq] at hdg
        have hg0 : 48 ≤ (D[k].toNat : Int) := by omega
        have hg1 : (D[k].toNat : Int) ≤ 57 := by omega
        clear hdg
        go_wp2
        go_round
        case rel =>
          refine ⟨k + 1, _, by omega, by go_num, rfl, ?_⟩
          show _ = _
          rw [HS.out, decVal_snoc, HX.out]
          omega
        case measure => simp [intOf]; omega
      · have hke : k = D.size := by omega
        have hX : Hid (X = (decVal D.data.toList : Nat)) := by
          show _ = _
          rw [HX.out, hke, List.take_of_length_le (by rw [len_data]; exact Nat.le_refl _)]
        have hb0 : 0 ≤ X := by have := HX.out; omega
        have hb1 : X < 1000000000000000000 := by
          have h1 := decVal_small D.data.toList HALL.out 18 (by rw [len_data]; omega)
          have := hX.out
          omega
        go_wp2
        go_ret2
        rw [← hX.out]
        exact ⟨rfl, rfl⟩
end Go.Proofs.YtnkmchlldhdenaaDoor
