/- Plain facts: what package num lays is read as it was; bytes of one length stand in the order of their numbers. No condition but the sizes that each names. -/
import Derived.Test.YtnkmchlldhdenaaDoorW8
import Derived.Test.YtnkmchlldhdenaaDoorW11
namespace Go.Proofs.YtnkmchlldhdenaaDoor
open Go.RowKit

theorem toU8 {a : Nat} (h : a < 256) : (a.toUInt8).toNat = a := Lib.toUInt8_toNat h

/-- A number that was laid is read: from the i-th group on. -/
theorem decV_uvarint (rest : List UInt8) : ∀ (k i acc v : Nat), i + k = 9 → v < 2 ^ (64 - 7 * i) → (0 < i → 0 < v) → decV i acc (Lib.uvarint v ++ rest) = (acc + v * 2 ^ (7 * i), rest, 0)
  | 0, i, acc, v, hi, hv, hp => by
    obtain rfl : i = 9 := by omega
    have hv' : v < 2 := by simpa using hv
    rw [Lib.uvarint_small (by omega)]
    show decV 9 acc (v.toUInt8 :: rest) = _
    rw [decV_last _ _ _ _ (by rw [toU8 (by omega)]; have := hp (by omega); omega) (by rw [toU8 (by omega)]; omega), toU8 (by omega)]
  | k + 1, i, acc, v, hi, hv, hp => by
    by_cases h : v < 128
    · rw [Lib.uvarint_small h]
      show decV i acc (v.toUInt8 :: rest) = _
      rw [decV_last _ _ _ _ (by rw [toU8 (by omega)]; rintro (h1 | h1); omega; have := hp h1.1; omega) (by rw [toU8 (by omega)]; omega), toU8 (by omega)]
    · rw [Lib.uvarint_big (by omega)]
      show decV i acc ((v % 128 + 128).toUInt8 :: (Lib.uvarint (v / 128) ++ rest)) = _
      have ht : ((v % 128 + 128).toUInt8).toNat = v % 128 + 128 := toU8 (by omega)
      rw [decV_on _ _ _ _ (by rw [ht]; omega) (by rw [ht]; omega), ht]
      have e : 2 ^ (64 - 7 * i) = 128 * 2 ^ (64 - 7 * (i + 1)) := by
        rw [show 64 - 7 * i = 7 + (64 - 7 * (i + 1)) by omega, Nat.pow_add]
      rw [decV_uvarint rest k (i + 1) _ (v / 128) (by omega) (by rw [e] at hv; omega) (by omega)]
      have e2 : 2 ^ (7 * (i + 1)) = 128 * 2 ^ (7 * i) := by rw [Nat.mul_add, Nat.pow_add]; omega
      have e3 : (v % 128 + 128) % 128 = v % 128 := by omega
      rw [e2, e3]
      have e4 : v / 128 * (128 * 2 ^ (7 * i)) = 128 * (v / 128) * 2 ^ (7 * i) := by rw [← Nat.mul_assoc, Nat.mul_comm (v / 128) 128]
      rw [e4, Nat.add_assoc, ← Nat.add_mul]
      have e5 : v % 128 + 128 * (v / 128) = v := by omega
      rw [e5]
theorem decV_laid (v : Nat) (rest : List UInt8) (hv : v < 18446744073709551616) : decV 0 0 (Lib.uvarint v ++ rest) = (v, rest, 0) := by
  rw [decV_uvarint rest 9 0 0 v rfl (by simpa using hv) (by omega)]
  simp
theorem uvarint_inj {a b : Nat} (ha : a < 18446744073709551616) (hb : b < 18446744073709551616) (h : Lib.uvarint a = Lib.uvarint b) : a = b := by
  have h1 := decV_laid a [] ha
  have h2 := decV_laid b [] hb
  rw [h, h2] at h1
  exact (congrArg Prod.fst h1).symm
theorem decC_laid (most : Int) (v : Nat) (rest : List UInt8) (hv : v < 18446744073709551616) (hm : (v : Int) ≤ most) : decC most (Lib.uvarint v ++ rest) = (v, rest, 0) := by
  unfold decC
  rw [decV_laid v rest hv, if_neg (by simp), if_neg (by simp only; omega)]
theorem decT_laid (most : Int) (t rest : List UInt8) (hl : t.length < 18446744073709551616) (hm : (t.length : Int) ≤ most) : decT most (Lib.uvarint t.length ++ (t ++ rest)) = (t, rest, 0) := by
  unfold decT
  rw [decC_laid most t.length (t ++ rest) hl hm, if_neg (by simp), if_neg (by simp)]
  simp

theorem unzig_zig (i : Int) : Lib.unzigzag (Lib.zigzag i) = i := by
  unfold Lib.unzigzag Lib.zigzag
  by_cases h : 0 ≤ i
  · rw [if_pos h]
    have : (2 * i).toNat % 2 = 0 := by omega
    rw [if_pos this]
    omega
  · rw [if_neg h]
    have : ¬ (-2 * i - 1).toNat % 2 = 0 := by omega
    rw [if_neg this]
    omega
theorem zig_unzig (u : Nat) : Lib.zigzag (Lib.unzigzag u) = u := by
  unfold Lib.unzigzag Lib.zigzag
  by_cases h : u % 2 = 0
  · rw [if_pos h, if_pos (by omega)]
    omega
  · rw [if_neg h, if_neg (by omega)]
    omega
theorem unzig_bounds (u : Nat) (h : u < 18446744073709551616) : -9223372036854775808 ≤ Lib.unzigzag u ∧ Lib.unzigzag u ≤ 9223372036854775807 := by
  unfold Lib.unzigzag
  split <;> omega

theorem be_succ (v n : Nat) : be v (n + 1) = UInt8.ofNat (v / 256 ^ n % 256) :: be (v % 256 ^ n) n := by
  unfold be
  rw [List.range_succ_eq_map, List.map_cons, List.map_map]
  congr 1
  apply List.map_congr_left
  intro i hi
  have hi' : i < n := by simpa using hi
  simp only [Function.comp]
  rw [show n + 1 - 1 - (i + 1) = n - 1 - i by omega]
  congr 1
  have e : 256 ^ n = 256 ^ (n - 1 - i) * 256 ^ (i + 1) := by rw [← Nat.pow_add]; congr 1; omega
  rw [e, Nat.mod_mul_right_div_self]
  have e2 : (256 : Nat) ^ (i + 1) = 256 * 256 ^ i := by rw [Nat.pow_succ]; omega
  rw [e2, Nat.mod_mul_right_mod]
theorem beVal_cons (b : UInt8) (l : List UInt8) : beVal (b :: l) = b.toNat * 256 ^ l.length + beVal l := by
  have h : ∀ (l : List UInt8) (a : Nat), l.foldl (fun a b => a * 256 + b.toNat) a = a * 256 ^ l.length + beVal l := by
    intro l
    induction l with
    | nil => intro a; simp [beVal]
    | cons c r ih =>
      intro a
      simp only [List.foldl_cons, List.length_cons, beVal]
      rw [ih, ih, Nat.pow_succ]
      simp only [Nat.zero_mul, Nat.zero_add]
      rw [Nat.add_mul, Nat.mul_assoc, Nat.mul_comm 256 (256 ^ r.length), Nat.add_assoc]
  have := h l (0 * 256 + b.toNat)
  simp only [Nat.zero_mul, Nat.zero_add] at this
  simp only [beVal, List.foldl_cons, Nat.zero_mul, Nat.zero_add]
  exact this
theorem beVal_be : ∀ (n v : Nat), v < 256 ^ n → beVal (be v n) = v
  | 0, v, h => by
    have : v = 0 := by simpa using h
    subst this
    rfl
  | n + 1, v, h => by
    have hp : 0 < 256 ^ n := Nat.pow_pos (by omega)
    rw [be_succ, beVal_cons, be_length, beVal_be n _ (Nat.mod_lt _ hp)]
    have hd : v / 256 ^ n < 256 := by rw [Nat.div_lt_iff_lt_mul hp]; rw [Nat.pow_succ] at h; omega
    have e : (UInt8.ofNat (v / 256 ^ n % 256)).toNat = v / 256 ^ n := by
      rw [UInt8.toNat_ofNat']
      clear h hp
      generalize v / 256 ^ n = q at *
      omega
    rw [e, Nat.mul_comm]
    exact Nat.div_add_mod v (256 ^ n)

theorem be_less : ∀ (n a b : Nat), a < 256 ^ n → b < 256 ^ n → Op.bytesLess (be a n) (be b n) = decide (a < b)
  | 0, a, b, ha, hb => by
    have h1 : a = 0 := by simpa using ha
    have h2 : b = 0 := by simpa using hb
    subst h1 h2
    rfl
  | n + 1, a, b, ha, hb => by
    have hp : 0 < 256 ^ n := Nat.pow_pos (by omega)
    have hda : a / 256 ^ n < 256 := by rw [Nat.div_lt_iff_lt_mul hp]; rw [Nat.pow_succ] at ha; omega
    have hdb : b / 256 ^ n < 256 := by rw [Nat.div_lt_iff_lt_mul hp]; rw [Nat.pow_succ] at hb; omega
    have ih := be_less n (a % 256 ^ n) (b % 256 ^ n) (Nat.mod_lt _ hp) (Nat.mod_lt _ hp)
    have ea := Nat.div_add_mod a (256 ^ n)
    have eb := Nat.div_add_mod b (256 ^ n)
    have ma := Nat.mod_lt a hp
    have mb := Nat.mod_lt b hp
    rw [be_succ, be_succ, Op.bytesLess, ih]
    clear ih ha hb
    generalize 256 ^ n = P at *
    generalize a / P = qa at *
    generalize b / P = qb at *
    have la : (UInt8.ofNat (qa % 256)).toNat = qa := by rw [UInt8.toNat_ofNat']; omega
    have lb : (UInt8.ofNat (qb % 256)).toNat = qb := by rw [UInt8.toNat_ofNat']; omega
    rcases Nat.lt_trichotomy qa qb with h | h | h
    · have h1 : UInt8.ofNat (qa % 256) < UInt8.ofNat (qb % 256) := by rw [UInt8.lt_iff_toNat_lt, la, lb]; exact h
      have h2 : P * (qa + 1) ≤ P * qb := Nat.mul_le_mul_left P h
      rw [Nat.mul_add] at h2
      have h3 : a < b := by omega
      simp [h1, h3]
    · subst h
      have h1 : ¬ UInt8.ofNat (qa % 256) < UInt8.ofNat (qa % 256) := by rw [UInt8.lt_iff_toNat_lt]; omega
      have h3 : (a % P < b % P) ↔ a < b := by omega
      simp [h1, h3]
    · have h1 : ¬ UInt8.ofNat (qa % 256) < UInt8.ofNat (qb % 256) := by rw [UInt8.lt_iff_toNat_lt, la, lb]; omega
      have h2 : P * (qb + 1) ≤ P * qa := Nat.mul_le_mul_left P h
      rw [Nat.mul_add] at h2
      have h3 : ¬ a < b := by omega
      have h4 : (UInt8.ofNat (qa % 256) == UInt8.ofNat (qb % 256)) = false := by
        rw [beq_eq_false_iff_ne]
        intro e
        have := congrArg UInt8.toNat e
        rw [la, lb] at this
        omega
      rw [h4]
      simp [h1, h3]
theorem uvarint_eq (a b : Nat) (ha : a < 18446744073709551616) (hb : b < 18446744073709551616) : (Lib.uvarint a == Lib.uvarint b) = ((a : Int) == (b : Int)) := by
  by_cases h : a = b
  · subst h; rw [beq_self_eq_true, beq_self_eq_true]
  · have h2 : ¬ Lib.uvarint a = Lib.uvarint b := fun e => h (uvarint_inj ha hb e)
    have h3 : ¬ (a : Int) = (b : Int) := by omega
    rw [beq_eq_false_iff_ne.2 h2, beq_eq_false_iff_ne.2 h3]

/-- Bytes one behind the other. -/
theorem cat_str (a b : List UInt8) : (⟨a.toArray⟩ : ByteArray) ++ (⟨b.toArray⟩ : ByteArray) = ⟨(a ++ b).toArray⟩ := by
  apply ByteArray.ext
  simp

def boolByte (v : Bool) : UInt8 := if v then 1 else 0
theorem bool_one (v : Bool) (w : World) :
    Calls Tryd.prog 29 #[.bool v] w fun e w' => e = .returned (.string ⟨[boolByte v].toArray⟩) ∧ w = w' := bool_any v w
theorem decB_laid (v : Bool) (rest : List UInt8) : decB (boolByte v :: rest) = (v, rest, 0) := by
  cases v <;> rfl
theorem vars_cons (zs : List Nat) (k : Nat) (h : k < zs.length) (rest : List UInt8) : vars (zs.drop k) ++ rest = Lib.uvarint zs[k] ++ (vars (zs.drop (k + 1)) ++ rest) := by
  rw [List.drop_eq_getElem_cons h]
  simp only [vars, List.map_cons, List.flatten_cons, List.append_assoc]
theorem texts_cons (ss : List ByteArray) (k : Nat) (h : k < ss.length) (rest : List UInt8) : texts (ss.drop k) ++ rest = Lib.uvarint ss[k].data.toList.length ++ (ss[k].data.toList ++ (texts (ss.drop (k + 1)) ++ rest)) := by
  rw [List.drop_eq_getElem_cons h, len_data']
  simp only [texts, List.map_cons, List.flatten_cons, List.append_assoc]
theorem ret_bool' {a b : Bool} (h : a = b) : Ending.returned (.bool a) = .returned (.bool b) := by rw [h]
theorem varOne (b v : Nat) (w : World) (hv : v < 18446744073709551616) (h0 : w.cell? ⟨b, 0, none⟩ = some (.int .u64 (v : Int))) (hb : b < w.heap.size) :
    Calls Tryd.prog 20 #[.slice (some ⟨b, 0, none⟩) 1 1] w fun e w' => e = .returned (.string ⟨(Lib.uvarint v).toArray⟩) ∧ Below w.heap.size w w' := by
  have h := var_any b 0 1 [v] w (by intro z hz; simp at hz; omega) (by simp) (by
    intro i hi
    match i, hi with
    | 0, _ => exact h0) hb
  have e : vars [v] = Lib.uvarint v := by simp [vars]
  rw [e] at h
  exact h
end Go.Proofs.YtnkmchlldhdenaaDoor
