/- Plain versions of keys and their order. -/
import Derived.Lib.Bytealg
namespace Go.Proofs.YtmnboiikopkaoaaGreat
open Go.Lib

theorem cb_refl : ∀ a : List UInt8, compareBytes a a = 0
  | [] => rfl
  | a :: as => by
    unfold compareBytes
    rw [if_neg (UInt8.lt_irrefl a), if_neg (UInt8.lt_irrefl a)]
    exact cb_refl as
theorem cb_vals : ∀ a b : List UInt8, compareBytes a b = -1 ∨ compareBytes a b = 0 ∨ compareBytes a b = 1
  | [], [] => .inr (.inl rfl)
  | [], _ :: _ => .inl rfl
  | _ :: _, [] => .inr (.inr rfl)
  | a :: as, b :: bs => by
    unfold compareBytes
    split
    · exact .inl rfl
    · split
      · exact .inr (.inr rfl)
      · exact cb_vals as bs
theorem cb_eq : ∀ a b : List UInt8, compareBytes a b = 0 → a = b
  | [], [], _ => rfl
  | [], _ :: _, h => by simp [compareBytes] at h
  | _ :: _, [], h => by simp [compareBytes] at h
  | a :: as, b :: bs, h => by
    unfold compareBytes at h
    split at h
    · cases h
    · split at h
      · cases h
      · rename_i h1 h2
        have e : a = b := UInt8.le_antisymm (UInt8.not_lt.1 h2) (UInt8.not_lt.1 h1)
        rw [e, cb_eq as bs h]
theorem cb_swap : ∀ a b : List UInt8, compareBytes b a = - compareBytes a b
  | [], [] => rfl
  | [], _ :: _ => rfl
  | _ :: _, [] => rfl
  | a :: as, b :: bs => by
    unfold compareBytes
    by_cases h1 : a < b
    · have h2 : ¬ b < a := UInt8.lt_asymm h1
      rw [if_neg h2, if_pos h1, if_pos h1]
      rfl
    · by_cases h2 : b < a
      · rw [if_pos h2, if_neg h1, if_pos h2]
      · rw [if_neg h2, if_neg h1, if_neg h1, if_neg h2]
        exact cb_swap as bs
theorem cb_trans : ∀ a b c : List UInt8, compareBytes a b = -1 → compareBytes b c = -1 → compareBytes a c = -1
  | [], [], _, h, _ => by simp [compareBytes] at h
  | [], _ :: _, [], _, h => by simp [compareBytes] at h
  | [], _ :: _, _ :: _, _, _ => rfl
  | _ :: _, [], _, h, _ => by simp [compareBytes] at h
  | _ :: _, _ :: _, [], _, h => by simp [compareBytes] at h
  | a :: as, b :: bs, c :: cs, h1, h2 => by
    unfold compareBytes at h1 h2 ⊢
    by_cases p : a < b
    · by_cases q : b < c
      · rw [if_pos (UInt8.lt_trans p q)]
      · rw [if_neg q] at h2
        split at h2
        · cases h2
        · rename_i q2
          have e : b = c := UInt8.le_antisymm (UInt8.not_lt.1 q2) (UInt8.not_lt.1 q)
          rw [← e, if_pos p]
    · rw [if_neg p] at h1
      split at h1
      · cases h1
      · rename_i p2
        have e : a = b := UInt8.le_antisymm (UInt8.not_lt.1 p2) (UInt8.not_lt.1 p)
        subst e
        split at h2
        · rename_i q
          rw [if_pos q]
        · split at h2
          · cases h2
          · rename_i q q2
            rw [if_neg q, if_neg q2]
            exact cb_trans as bs cs h1 h2
/-- How two numbers stand. -/
def cmpU (x y : Int) : Int := if x < y then -1 else if y < x then 1 else 0
/-- How two versions stand: by key, then the greater number first. -/
def cmpE (k1 : ByteArray) (s1 : Int) (k2 : ByteArray) (s2 : Int) : Int := if compareBytes k1.data.toList k2.data.toList = 0 then cmpU s2 s1 else compareBytes k1.data.toList k2.data.toList
theorem bytes_ext {a b : ByteArray} (h : a.data.toList = b.data.toList) : a = b := ByteArray.ext (Array.ext' h)
theorem cmpU_vals (x y : Int) : cmpU x y = -1 ∨ cmpU x y = 0 ∨ cmpU x y = 1 := by unfold cmpU; split <;> (try split) <;> simp
theorem cmpE_vals (a : ByteArray) (x : Int) (b : ByteArray) (y : Int) : cmpE a x b y = -1 ∨ cmpE a x b y = 0 ∨ cmpE a x b y = 1 := by
  unfold cmpE
  split
  · exact cmpU_vals _ _
  · exact cb_vals _ _
theorem cmpE_refl (a : ByteArray) (x : Int) : cmpE a x a x = 0 := by
  unfold cmpE cmpU
  rw [if_pos (cb_refl _)]
  simp
theorem cmpE_swap (a : ByteArray) (x : Int) (b : ByteArray) (y : Int) : cmpE b y a x = - cmpE a x b y := by
  unfold cmpE
  rw [cb_swap a.data.toList b.data.toList]
  by_cases h : compareBytes a.data.toList b.data.toList = 0
  · rw [if_pos (by omega), if_pos h]
    unfold cmpU
    repeat' split
    all_goals omega
  · rw [if_neg (by omega), if_neg h]
theorem cmpE_eq (a : ByteArray) (x : Int) (b : ByteArray) (y : Int) : cmpE a x b y = 0 ↔ a = b ∧ x = y := by
  constructor
  · intro h
    unfold cmpE at h
    split at h
    · rename_i e
      refine ⟨bytes_ext (cb_eq _ _ e), ?_⟩
      unfold cmpU at h
      repeat' split at h
      all_goals omega
    · contradiction
  · rintro ⟨rfl, rfl⟩
    exact cmpE_refl _ _
theorem cmpE_same (a : ByteArray) (x y : Int) : cmpE a x a y = cmpU y x := by
  unfold cmpE
  rw [if_pos (cb_refl _)]
theorem cmpE_trans (a : ByteArray) (x : Int) (b : ByteArray) (y : Int) (c : ByteArray) (z : Int) (h1 : cmpE a x b y = -1) (h2 : cmpE b y c z = -1) : cmpE a x c z = -1 := by
  unfold cmpE at *
  by_cases p : compareBytes a.data.toList b.data.toList = 0
  · have e := bytes_ext (cb_eq _ _ p)
    subst e
    rw [if_pos p] at h1
    by_cases q : compareBytes a.data.toList c.data.toList = 0
    · rw [if_pos q] at h2 ⊢
      unfold cmpU at *
      repeat' split at h1
      all_goals (repeat' split at h2)
      all_goals (repeat' split)
      all_goals omega
    · rw [if_neg q] at h2 ⊢
      exact h2
  · rw [if_neg p] at h1
    by_cases q : compareBytes b.data.toList c.data.toList = 0
    · have e := bytes_ext (cb_eq _ _ q)
      subst e
      rw [if_neg p]
      exact h1
    · rw [if_neg q] at h2
      have h3 := cb_trans _ _ _ h1 h2
      rw [if_neg (by omega)]
      exact h3
end Go.Proofs.YtmnboiikopkaoaaGreat
