/- Contract of the document's own Number: the same texts are numbers, and the same numbers, as package num's. -/
import Derived.Test.YtnkmchlldhdenaaDoorR3
import Derived.Test.YtnkmchlldhdenaaDoorW9
namespace Go.Proofs.YtnkmchlldhdenaaDoor
open Go.RowKit

set_option maxHeartbeats 1000000 in
theorem refNumm_short (s D : ByteArray) (w : World) (hs : 0 < s.size) (h45 : ((s[0].toNat : Int) == 45) = true) (hD : s.extract 1 s.size = D) (hl : D.size < 1) :
    Calls Tryd.prog 16 #[.string s] w fun e w' => e = .returned (.tuple #[.int .i64 0, .int .i64 1]) ∧ w = w' := by
  go_enter Tryd.func16, Tryd.ntmps16
  go_wp2
  go_ret2
  exact ⟨rfl, rfl⟩
set_option maxHeartbeats 1000000 in
theorem refNumm_long (s D : ByteArray) (w : World) (hs : 0 < s.size) (h45 : ((s[0].toNat : Int) == 45) = true) (hD : s.extract 1 s.size = D) (hl : 18 < D.size) :
    Calls Tryd.prog 16 #[.string s] w fun e w' => e = .returned (.tuple #[.int .i64 0, .int .i64 1]) ∧ w = w' := by
  have hd1 : decide ((D.size : Int) < 1) = false := by simp; omega
  go_enter Tryd.func16, Tryd.ntmps16
  go_wp2
  go_ret2
  exact ⟨rfl, rfl⟩
set_option maxHeartbeats 1000000 in
theorem refNumm_zero (s D : ByteArray) (w : World) (hs : 0 < s.size) (h45 : ((s[0].toNat : Int) == 45) = true) (hD : s.extract 1 s.size = D) (hl1 : 1 ≤ D.size) (hl18 : D.size ≤ 18) (h48 : ((D[0].toNat : Int) == 48) = true)  :
    Calls Tryd.prog 16 #[.string s] w fun e w' => e = .returned (.tuple #[.int .i64 0, .int .i64 1]) ∧ w = w' := by
  have hd1 : decide ((D.size : Int) < 1) = false := by simp; omega
  have hd2 : decide ((18 : Int) < (D.size : Int)) = false := by simp; omega
  go_enter Tryd.func16, Tryd.ntmps16
  go_wp2
  all_goals go_ret2
  all_goals exact ⟨rfl, rfl⟩
set_option maxHeartbeats 2000000 in
set_option maxRecDepth 100000 in
theorem refNumm_loop (s D : ByteArray) (t : Value) (w : World) (hs : 0 < s.size) (h45 : ((s[0].toNat : Int) == 45) = true) (hD : s.extract 1 s.size = D) (hl1 : 1 ≤ D.size) (hl18 : D.size ≤ 18) (h48 : ((D[0].toNat : Int) == 48) = false)
    (ht : t = if D.data.toList.all isDig then .tuple #[.int .i64 (-(decVal D.data.toList : Int)), .int .i64 0] else .tuple #[.int .i64 0, .int .i64 1]) :
    Calls Tryd.prog 16 #[.string s] w fun e w' => e = .returned t ∧ w = w' := by
  have hd1 : decide ((D.size : Int) < 1) = false := by simp; omega
  have hd2 : decide ((18 : Int) < (D.size : Int)) = false := by simp; omega
  have HTT := Lib.hid ht
  clear ht
  go_enter Tryd.func16, Tryd.ntmps16
  go_wp2
  go_loop [6, 7] (fun v i => ∃ (k : Nat) (X : Int), k ≤ D.size ∧ i = .int .i64 k ∧ v = .int .i64 X ∧ Hid (X = (decVal (D.data.toList.take k) : Nat) ∧ (D.data.toList.take k).all isDig = true)) (fun _ i => D.size - (intOf i).toNat)
  case atStart => exact ⟨0, 0, Nat.zero_le _, rfl, rfl, rfl, rfl⟩
  case round =>
    obtain ⟨k, X, hk, rfl, rfl, HX⟩ := hrel
    by_cases hlt : k < D.size
    · have HS := Lib.hid (take_snoc_str D k hlt)
      have HM := Lib.hid (mem_str D k hlt)
      have hb0 : 0 ≤ X := by have := HX.out.1; omega
      have hb1 : X < 100000000000000000 := by
        have h1 := decVal_small (D.data.toList.take k) HX.out.2 17 (by rw [List.length_take]; omega)
        have := HX.out.1
        omega
      by_cases hdig : isDig D[k] = true
      · have hdg := hdig
        simp only [isDig, decide_eq_true_eq] at hdg
        have hg0 : 48 ≤ (D[k].toNat : Int) := by omega
        have hg1 : (D[k].toNat : Int) ≤ 57 := by omega
        have HDG := Lib.hid hdig
        clear hdg hdig
        go_wp2
        go_round
        case rel =>
          refine ⟨k + 1, _, by omega, by go_num, rfl, ?_, ?_⟩
          · rw [HS.out, decVal_snoc]
            have := HX.out.1
            omega
          · rw [HS.out, List.all_append, HX.out.2]
            simp [HDG.out]
        case measure => simp [intOf]; omega
      · have hbad : D.data.toList.all isDig = false := by
          rw [Bool.eq_false_iff]
          intro h1
          exact hdig (List.all_eq_true.1 h1 _ HM.out)
        have HB := Lib.hid hbad
        have hdg := hdig
        simp only [isDig, decide_eq_true_eq] at hdg
        clear hdig hbad
        by_cases hlo : D[k].toNat < 48
        · have hg0 : (D[k].toNat : Int) < 48 := by omega
          clear hdg
          go_wp2
          go_ret2
          exact ⟨by rw [HTT.out, HB.out]; rfl, rfl⟩
        · have hg0 : decide ((D[k].toNat : Int) < 48) = false := by simp; omega
          have hg1 : 57 < (D[k].toNat : Int) := by omega
          clear hdg hlo
          go_wp2
          go_ret2
          exact ⟨by rw [HTT.out, HB.out]; rfl, rfl⟩
    · have hke : k = D.size := by omega
      have hx := HX.out
      rw [hke, List.take_of_length_le (by rw [len_data]; exact Nat.le_refl _)] at hx
      have HXE := Lib.hid hx
      have hb0 : 0 ≤ X := by have := hx.1; omega
      have hb1 : X < 1000000000000000000 := by
        have h1 := decVal_small D.data.toList hx.2 18 (by rw [len_data]; omega)
        have := hx.1
        omega
      clear hx HX
      go_wp2
      go_ret2
      exact ⟨by rw [HTT.out, HXE.out.2, ← HXE.out.1]; rfl, rfl⟩

set_option maxHeartbeats 1000000 in
theorem refNump_short (D : ByteArray) (w : World) (_h45 : ∀ (h : 0 < D.size), ((D[0].toNat : Int) == 45) = false) (hl : D.size < 1) :
    Calls Tryd.prog 16 #[.string D] w fun e w' => e = .returned (.tuple #[.int .i64 0, .int .i64 1]) ∧ w = w' := by
  have hz0 : D.size = 0 := by omega
  go_enter Tryd.func16, Tryd.ntmps16
  go_wp2
  go_ret2
  exact ⟨rfl, rfl⟩
set_option maxHeartbeats 1000000 in
theorem refNump_long (D : ByteArray) (w : World) (h45 : ∀ (h : 0 < D.size), ((D[0].toNat : Int) == 45) = false) (hl : 18 < D.size) :
    Calls Tryd.prog 16 #[.string D] w fun e w' => e = .returned (.tuple #[.int .i64 0, .int .i64 1]) ∧ w = w' := by
  have hd1 : decide ((D.size : Int) < 1) = false := by simp; omega
  have h45' := h45 (by omega)
  clear h45
  go_enter Tryd.func16, Tryd.ntmps16
  go_wp2
  go_ret2
  exact ⟨rfl, rfl⟩
set_option maxHeartbeats 1000000 in
theorem refNump_zero (D : ByteArray) (w : World) (h45 : ∀ (h : 0 < D.size), ((D[0].toNat : Int) == 45) = false) (hl1 : 1 ≤ D.size) (hl18 : D.size ≤ 18) (h48 : ((D[0].toNat : Int) == 48) = true) (h1 : 1 < D.size) :
    Calls Tryd.prog 16 #[.string D] w fun e w' => e = .returned (.tuple #[.int .i64 0, .int .i64 1]) ∧ w = w' := by
  have hd1 : decide ((D.size : Int) < 1) = false := by simp; omega
  have hd2 : decide ((18 : Int) < (D.size : Int)) = false := by simp; omega
  have h45' := h45 (by omega)
  clear h45
  go_enter Tryd.func16, Tryd.ntmps16
  go_wp2
  all_goals go_ret2
  all_goals exact ⟨rfl, rfl⟩
set_option maxHeartbeats 2000000 in
set_option maxRecDepth 100000 in
theorem refNump_loop1 (D : ByteArray) (t : Value) (w : World) (h45 : ∀ (h : 0 < D.size), ((D[0].toNat : Int) == 45) = false) (hl1 : 1 ≤ D.size) (hl18 : D.size ≤ 18) (h48 : ((D[0].toNat : Int) == 48) = false)
    (ht : t = if D.data.toList.all isDig then .tuple #[.int .i64 ((decVal D.data.toList : Int)), .int .i64 0] else .tuple #[.int .i64 0, .int .i64 1]) :
    Calls Tryd.prog 16 #[.string D] w fun e w' => e = .returned t ∧ w = w' := by
  have hd1 : decide ((D.size : Int) < 1) = false := by simp; omega
  have hd2 : decide ((18 : Int) < (D.size : Int)) = false := by simp; omega
  have h45' := h45 (by omega)
  clear h45
  have HTT := Lib.hid ht
  clear ht
  go_enter Tryd.func16, Tryd.ntmps16
  go_wp2
  go_loop [6, 7] (fun v i => ∃ (k : Nat) (X : Int), k ≤ D.size ∧ i = .int .i64 k ∧ v = .int .i64 X ∧ Hid (X = (decVal (D.data.toList.take k) : Nat) ∧ (D.data.toList.take k).all isDig = true)) (fun _ i => D.size - (intOf i).toNat)
  case atStart => exact ⟨0, 0, Nat.zero_le _, rfl, rfl, rfl, rfl⟩
  case round =>
    obtain ⟨k, X, hk, rfl, rfl, HX⟩ := hrel
    by_cases hlt : k < D.size
    · have HS := Lib.hid (take_snoc_str D k hlt)
      have HM := Lib.hid (mem_str D k hlt)
      have hb0 : 0 ≤ X := by have := HX.out.1; omega
      have hb1 : X < 100000000000000000 := by
        have h1 := decVal_small (D.data.toList.take k) HX.out.2 17 (by rw [List.length_take]; omega)
        have := HX.out.1
        omega
      by_cases hdig : isDig D[k] = true
      · have hdg := hdig
        simp only [isDig, decide_eq_true_eq] at hdg
        have hg0 : 48 ≤ (D[k].toNat : Int) := by omega
        have hg1 : (D[k].toNat : Int) ≤ 57 := by omega
        have HDG := Lib.hid hdig
        clear hdg hdig
        go_wp2
        go_round
        case rel =>
          refine ⟨k + 1, _, by omega, by go_num, rfl, ?_, ?_⟩
          · rw [HS.out, decVal_snoc]
            have := HX.out.1
            omega
          · rw [HS.out, List.all_append, HX.out.2]
            simp [HDG.out]
        case measure => simp [intOf]; omega
      · have hbad : D.data.toList.all isDig = false := by
          rw [Bool.eq_false_iff]
          intro h1
          exact hdig (List.all_eq_true.1 h1 _ HM.out)
        have HB := Lib.hid hbad
        have hdg := hdig
        simp only [isDig, decide_eq_true_eq] at hdg
        clear hdig hbad
        by_cases hlo : D[k].toNat < 48
        · have hg0 : (D[k].toNat : Int) < 48 := by omega
          clear hdg
          go_wp2
          go_ret2
          exact ⟨by rw [HTT.out, HB.out]; rfl, rfl⟩
        · have hg0 : decide ((D[k].toNat : Int) < 48) = false := by simp; omega
          have hg1 : 57 < (D[k].toNat : Int) := by omega
          clear hdg hlo
          go_wp2
          go_ret2
          exact ⟨by rw [HTT.out, HB.out]; rfl, rfl⟩
    · have hke : k = D.size := by omega
      have hx := HX.out
      rw [hke, List.take_of_length_le (by rw [len_data]; exact Nat.le_refl _)] at hx
      have HXE := Lib.hid hx
      have hb0 : 0 ≤ X := by have := hx.1; omega
      have hb1 : X < 1000000000000000000 := by
        have h1 := decVal_small D.data.toList hx.2 18 (by rw [len_data]; omega)
        have := hx.1
        omega
      clear hx HX
      go_wp2
      go_ret2
      exact ⟨by rw [HTT.out, HXE.out.2, ← HXE.out.1]; rfl, rfl⟩

set_option maxHeartbeats 2000000 in
set_option maxRecDepth 100000 in
theorem refNump_loop2 (D : ByteArray) (t : Value) (w : World) (h45 : ∀ (h : 0 < D.size), ((D[0].toNat : Int) == 45) = false) (hsz : Hid (D.size = 1)) (hl1 : 1 ≤ D.size) (hl18 : D.size ≤ 18) (h48 : ((D[0].toNat : Int) == 48) = true)
    (ht : t = if D.data.toList.all isDig then .tuple #[.int .i64 ((decVal D.data.toList : Int)), .int .i64 0] else .tuple #[.int .i64 0, .int .i64 1]) :
    Calls Tryd.prog 16 #[.string D] w fun e w' => e = .returned t ∧ w = w' := by
  have hd1 : decide ((D.size : Int) < 1) = false := by simp; omega
  have hd2 : decide ((18 : Int) < (D.size : Int)) = false := by simp; omega
  have h45' := h45 (by omega)
  clear h45
  have hd3 : decide ((1 : Int) < (D.size : Int)) = false := by have := hsz.out; simp; omega
  have HTT := Lib.hid ht
  clear ht
  go_enter Tryd.func16, Tryd.ntmps16
  go_wp2
  go_loop [6, 7] (fun v i => ∃ (k : Nat) (X : Int), k ≤ D.size ∧ i = .int .i64 k ∧ v = .int .i64 X ∧ Hid (X = (decVal (D.data.toList.take k) : Nat) ∧ (D.data.toList.take k).all isDig = true)) (fun _ i => D.size - (intOf i).toNat)
  case atStart => exact ⟨0, 0, Nat.zero_le _, rfl, rfl, rfl, rfl⟩
  case round =>
    obtain ⟨k, X, hk, rfl, rfl, HX⟩ := hrel
    by_cases hlt : k < D.size
    · have HS := Lib.hid (take_snoc_str D k hlt)
      have HM := Lib.hid (mem_str D k hlt)
      have hb0 : 0 ≤ X := by have := HX.out.1; omega
      have hb1 : X < 100000000000000000 := by
        have h1 := decVal_small (D.data.toList.take k) HX.out.2 17 (by rw [List.length_take]; omega)
        have := HX.out.1
        omega
      by_cases hdig : isDig D[k] = true
      · have hdg := hdig
        simp only [isDig, decide_eq_true_eq] at hdg
        have hg0 : 48 ≤ (D[k].toNat : Int) := by omega
        have hg1 : (D[k].toNat : Int) ≤ 57 := by omega
        have HDG := Lib.hid hdig
        clear hdg hdig
        go_wp2
        go_round
        case rel =>
          refine ⟨k + 1, _, by omega, by go_num, rfl, ?_, ?_⟩
          · rw [HS.out, decVal_snoc]
            have := HX.out.1
            omega
          · rw [HS.out, List.all_append, HX.out.2]
            simp [HDG.out]
        case measure => simp [intOf]; omega
      · have hbad : D.data.toList.all isDig = false := by
          rw [Bool.eq_false_iff]
          intro h1
          exact hdig (List.all_eq_true.1 h1 _ HM.out)
        have HB := Lib.hid hbad
        have hdg := hdig
        simp only [isDig, decide_eq_true_eq] at hdg
        clear hdig hbad
        by_cases hlo : D[k].toNat < 48
        · have hg0 : (D[k].toNat : Int) < 48 := by omega
          clear hdg
          go_wp2
          go_ret2
          exact ⟨by rw [HTT.out, HB.out]; rfl, rfl⟩
        · have hg0 : decide ((D[k].toNat : Int) < 48) = false := by simp; omega
          have hg1 : 57 < (D[k].toNat : Int) := by omega
          clear hdg hlo
          go_wp2
          go_ret2
          exact ⟨by rw [HTT.out, HB.out]; rfl, rfl⟩
    · have hke : k = D.size := by omega
      have hx := HX.out
      rw [hke, List.take_of_length_le (by rw [len_data]; exact Nat.le_refl _)] at hx
      have HXE := Lib.hid hx
      have hb0 : 0 ≤ X := by have := hx.1; omega
      have hb1 : X < 1000000000000000000 := by
        have h1 := decVal_small D.data.toList hx.2 18 (by rw [len_data]; omega)
        have := hx.1
        omega
      clear hx HX
      go_wp2
      go_ret2
      exact ⟨by rw [HTT.out, HXE.out.2, ← HXE.out.1]; rfl, rfl⟩


/-- What Number answers of a text. -/
def numVal (l : List UInt8) : Int := if okNum l then (if isMinus l then -(decVal (dropMinus l) : Int) else (decVal (dropMinus l) : Int)) else 0
def numErr (l : List UInt8) : Int := if okNum l then 0 else 1

theorem number_any (s : ByteArray) (w : World) :
    Calls Tryd.prog 15 #[.string s] w fun e w' => e = .returned (.tuple #[.int .i64 (numVal s.data.toList), .int .i64 (numErr s.data.toList)]) ∧ w = w' := by
  unfold numVal numErr
  by_cases h : okNum s.data.toList = true
  · rw [if_pos h, if_pos h]; exact number_yes s w h
  · have h' : okNum s.data.toList = false := by simpa using h
    rw [if_neg h, if_neg h]; exact number_no s w h'

theorem head_beq (D : ByteArray) (h : 0 < D.size) (c : UInt8) : ((D[0].toNat : Int) == (c.toNat : Int)) = (D[0] == c) := by
  by_cases e : D[0] = c
  · rw [e, beq_self_eq_true, beq_self_eq_true]
  · have : ¬ (D[0].toNat : Int) = (c.toNat : Int) := fun h => e (UInt8.toNat_inj.1 (by omega))
    rw [beq_eq_false_iff_ne.2 this, beq_eq_false_iff_ne.2 e]
theorem plain_first (D : ByteArray) (h1 : 1 ≤ D.size) (h18 : D.size ≤ 18) : plainB D.data.toList = (D.data.toList.all isDig && (!(D[0] == 48) || decide (D.size = 1))) := by
  have hh := drop_cons D 0 (by omega)
  rw [List.drop_zero] at hh
  have hl := len_data D
  unfold plainB
  rw [hl]
  have e1 : decide (1 ≤ D.size ∧ D.size ≤ 18) = true := by simp; omega
  have e2 : decide (D.data.toList.head? ≠ some 48) = !(D[0] == 48) := by
    rw [show D.data.toList.head? = some D[0] by rw [hh]; rfl]
    by_cases e : D[0] = 48
    · simp [e]
    · simp [e]
  rw [e1, e2, Bool.true_and]

theorem refNumber_any (s : ByteArray) (w : World) :
    Calls Tryd.prog 16 #[.string s] w fun e w' => e = .returned (.tuple #[.int .i64 (numVal s.data.toList), .int .i64 (numErr s.data.toList)]) ∧ w = w' := by
  by_cases hm : ∃ h : 0 < s.size, s[0] = 45
  · obtain ⟨hs, h45⟩ := hm
    obtain ⟨D, hD⟩ : ∃ D, s.extract 1 s.size = D := ⟨_, rfl⟩
    have h45' : ((s[0].toNat : Int) == 45) = true := by have := head_beq s hs 45; rw [h45, beq_self_eq_true] at this; rw [h45]; exact this
    have hl : s.data.toList = 45 :: D.data.toList := by
      have hh := drop_cons s 0 hs
      rw [List.drop_zero, h45] at hh
      rw [hh, ← hD, drop_str]
    have hmi : isMinus s.data.toList = true := by rw [hl]; simp [isMinus, Lib.hasPrefix, List.isPrefixOf]
    have hdr : dropMinus s.data.toList = D.data.toList := by
      have hp : Lib.hasPrefix s.data.toList [45] = true := hmi
      unfold dropMinus Lib.trimPrefix
      rw [hp, hl]
      simp
    unfold numVal numErr okNum
    rw [hmi, hdr]
    by_cases hlen : D.size < 1 ∨ 18 < D.size
    · rw [plainB_len _ (by rw [len_data]; omega)]
      rcases hlen with h | h
      · exact refNumm_short s D w hs h45' hD h
      · exact refNumm_long s D w hs h45' hD h
    · have h1 : 1 ≤ D.size := by omega
      have h18 : D.size ≤ 18 := by omega
      rw [plain_first D h1 h18]
      by_cases h48 : D[0] = 48
      · have hz : ((D[0].toNat : Int) == 48) = true := by have := head_beq D h1 48; rw [h48, beq_self_eq_true] at this; rw [h48]; exact this
        have hno : (D.data.toList.all isDig && (!(D[0] == 48) || decide (D.size = 1)) && !(true && (D.data.toList == [48]))) = false := by
          by_cases h1' : D.size = 1
          · have hd : D.data.toList = [48] := by
              have hh := drop_cons D 0 h1
              rw [List.drop_zero, h48] at hh
              rw [hh, List.drop_of_length_le (by rw [len_data]; omega)]
            rw [hd]; simp
          · simp [h48, h1']
        rw [hno]
        exact refNumm_zero s D w hs h45' hD h1 h18 hz
      · have hz : ((D[0].toNat : Int) == 48) = false := by rw [show (48 : Int) = ((48 : UInt8).toNat : Int) from rfl, head_beq D h1 48]; exact beq_eq_false_iff_ne.2 h48
        have hne : (D.data.toList == [48]) = false := by
          rw [beq_eq_false_iff_ne]
          intro e
          have hh := drop_cons D 0 h1
          rw [List.drop_zero, e] at hh
          exact h48 (List.cons.inj hh).1.symm
        have hyes : (D.data.toList.all isDig && (!(D[0] == 48) || decide (D.size = 1)) && !(true && (D.data.toList == [48]))) = D.data.toList.all isDig := by
          rw [hne, beq_eq_false_iff_ne.2 h48]; simp
        rw [hyes]
        refine (refNumm_loop s D _ w hs h45' hD h1 h18 hz rfl).mono fun e w' h => ⟨?_, h.2⟩
        rw [h.1]
        by_cases ha : D.data.toList.all isDig = true
        · simp [ha]
        · simp [ha]
  · have hmi : isMinus s.data.toList = false := by
      unfold isMinus
      by_cases hs : 0 < s.size
      · have hh := drop_cons s 0 hs
        rw [List.drop_zero] at hh
        have : ¬ s[0] = 45 := fun h => hm ⟨hs, h⟩
        rw [hh]
        simp only [Lib.hasPrefix, List.isPrefixOf, Bool.and_true, beq_eq_false_iff_ne]
        exact fun h => this h.symm
      · have : s.data.toList = [] := List.eq_nil_of_length_eq_zero (by rw [len_data]; omega)
        rw [this]; rfl
    have hdr : dropMinus s.data.toList = s.data.toList := by
      have hp : Lib.hasPrefix s.data.toList [45] = false := hmi
      unfold dropMinus Lib.trimPrefix
      rw [hp]
      simp
    have h45' : ∀ (h : 0 < s.size), ((s[0].toNat : Int) == 45) = false := fun h => by
      rw [show (45 : Int) = ((45 : UInt8).toNat : Int) from rfl, head_beq s h 45]
      exact beq_eq_false_iff_ne.2 fun e => hm ⟨h, e⟩
    unfold numVal numErr okNum
    rw [hmi, hdr]
    by_cases hlen : s.size < 1 ∨ 18 < s.size
    · rw [plainB_len _ (by rw [len_data]; omega)]
      rcases hlen with h | h
      · exact refNump_short s w h45' h
      · exact refNump_long s w h45' h
    · have h1 : 1 ≤ s.size := by omega
      have h18 : s.size ≤ 18 := by omega
      rw [plain_first s h1 h18]
      simp only [Bool.false_and, Bool.not_false, Bool.and_true]
      by_cases h48 : s[0] = 48
      · have hz : ((s[0].toNat : Int) == 48) = true := by have := head_beq s h1 48; rw [h48, beq_self_eq_true] at this; rw [h48]; exact this
        by_cases h1' : s.size = 1
        · refine (refNump_loop2 s _ w h45' h1' h1 h18 hz rfl).mono fun e w' h => ⟨?_, h.2⟩
          rw [h.1]
          by_cases ha : s.data.toList.all isDig = true
          · simp [ha, h1']
          · simp [ha]
        · have hno : (s.data.toList.all isDig && (!(s[0] == 48) || decide (s.size = 1))) = false := by simp [h48, h1']
          rw [hno]
          exact refNump_zero s w h45' h1 h18 hz (by omega)
      · have hz : ((s[0].toNat : Int) == 48) = false := by rw [show (48 : Int) = ((48 : UInt8).toNat : Int) from rfl, head_beq s h1 48]; exact beq_eq_false_iff_ne.2 h48
        refine (refNump_loop1 s _ w h45' h1 h18 hz rfl).mono fun e w' h => ⟨?_, h.2⟩
        rw [h.1]
        by_cases ha : s.data.toList.all isDig = true
        · simp [ha, h48]
        · simp [ha]
end Go.Proofs.YtnkmchlldhdenaaDoor
