/- Joined: RP RR RS. -/
import Derived.Test.YtmnboiikopkaoaaGreatRows
import Derived.WalkKit
import Derived.OwnWalk
import Derived.WalkSpells
import Derived.WalkLawsBesides
import Derived.BigCall
import Derived.Laws.IdiomStrings
import Derived.Laws.BitsAllLaws
import Derived.Lib.VarintMem
import Derived.Lib.Zigzag
import Derived.Lib.VarintDec
import Derived.Lib.Slices
import Derived.Outline
import Derived.Lib.BufferRead
import Derived.Lib.Hide
import Derived.Lib.AppendIntMem
import Derived.Lib.ItoaLen
import Derived.Lib.VarintBits
import Derived.BigQuiet
import Derived.Deep.QuietTactic
import Derived.Deep.RegionWith
import Derived.ProofKit
import Derived.SliceStrings
import Derived.OpenShut
import Derived.Lib.AppendStr
namespace Go.Proofs.YtmnboiikopkaoaaGreat
open Go.RowKit
open Go.RowKit Go.ChangeShapes Go.WideShapes Go.ChangeAt

/-- The library's table of powers of ten reads as its text lays it, whatever is done from block B on. -/
def Tab (B : Nat) (w : World) : Prop := Lib.TabBelow Tryz.prog B w "internal/strconv.uint64pow10" .u64 Lib.pow10Tab
theorem Tab.on {B : Nat} {w w1 : World} (h : Tab B w) (hb : Below B w w1) : Tab B w1 := Lib.TabBelow.on h hb
/-- A reader in memory: its bytes, its error; not frozen. -/
structure IsRd (w : World) (b : Nat) (s : ByteArray) (e : Int) : Prop where
  c0 : w.cell? ⟨b, 0, none⟩ = some (.string s)
  c1 : w.cell? ⟨b, 1, none⟩ = some (.int .i64 e)
  f0 : w.frozen? ⟨b, 0, none⟩ = false
  f1 : w.frozen? ⟨b, 1, none⟩ = false
/-- What is read of bytes as a number: the number, what is behind it, the error (4: form, 5: short). -/
def decV (i acc : Nat) : List UInt8 → Nat × List UInt8 × Int
  | [] => (0, [], 5)
  | b :: r => if (i = 9 ∧ 1 < b.toNat) ∨ (0 < i ∧ b.toNat = 0) then (0, [], 4) else if b.toNat < 128 then (acc + b.toNat * 2 ^ (7 * i), r, 0) else decV (i + 1) (acc + b.toNat % 128 * 2 ^ (7 * i)) r
theorem drop_cons (s : ByteArray) (k : Nat) (h : k < s.size) : s.data.toList.drop k = s[k] :: s.data.toList.drop (k + 1) := by
  have h1 : k < s.data.toList.length := by rw [Array.length_toList]; exact h
  rw [List.drop_eq_getElem_cons h1]
  rfl
theorem decV_bad (i acc : Nat) (b : UInt8) (r : List UInt8) (h : (i = 9 ∧ 1 < b.toNat) ∨ (0 < i ∧ b.toNat = 0)) : decV i acc (b :: r) = (0, [], 4) := by
  rw [decV, if_pos h]
theorem decV_last (i acc : Nat) (b : UInt8) (r : List UInt8) (h : ¬ ((i = 9 ∧ 1 < b.toNat) ∨ (0 < i ∧ b.toNat = 0))) (h1 : b.toNat < 128) : decV i acc (b :: r) = (acc + b.toNat * 2 ^ (7 * i), r, 0) := by
  rw [decV, if_neg h, if_pos h1]
theorem decV_on (i acc : Nat) (b : UInt8) (r : List UInt8) (h : ¬ ((i = 9 ∧ 1 < b.toNat) ∨ (0 < i ∧ b.toNat = 0))) (h1 : ¬ b.toNat < 128) : decV i acc (b :: r) = decV (i + 1) (acc + b.toNat % 128 * 2 ^ (7 * i)) r := by
  rw [decV, if_neg h, if_neg h1]
theorem drop_str (s : ByteArray) (a : Nat) : s.extract a s.size = ⟨(s.data.toList.drop a).toArray⟩ := by
  apply ByteArray.ext
  apply Array.toList_inj.1
  rw [Lib.extract_data]
  simp only []
  rw [List.take_of_length_le]
  rw [List.length_drop, Array.length_toList]
  exact Nat.le_refl _
theorem group_lt (acc k : Nat) (b : UInt8) (ha : acc < 2 ^ (7 * k)) : acc + b.toNat % 128 * 2 ^ (7 * k) < 2 ^ (7 * (k + 1)) := by
  have h1 : b.toNat % 128 ≤ 127 := by omega
  have h2 := Nat.mul_le_mul_right (2 ^ (7 * k)) h1
  have h3 : 2 ^ (7 * (k + 1)) = 128 * 2 ^ (7 * k) := by rw [Nat.mul_add, Nat.pow_add]; omega
  omega
theorem grownBy_trans {w w1 w2 : World} {r : Option Nat} (h : w.grownBy w1 r) (k : w1.grownBy w2 r) : w.grownBy w2 r :=
  ⟨k.os.trans h.os, k.tape.trans h.tape, k.output.trans h.output, Nat.le_trans h.size k.size, fun i hi hr => (k.block i (Nat.lt_of_lt_of_le hi h.size) hr).trans (h.block i hi hr)⟩
theorem grownBy_set (w : World) (b o : Nat) (v : Value) : w.grownBy (w.setCell ⟨b, o, none⟩ v) (some b) :=
  ⟨rfl, rfl, rfl, by simp [World.setCell], fun k _ hk => Below.heap_setCell _ _ _ _ (fun e => hk (by simp [e]))⟩
theorem grownBy_drewN (w : World) (n : Nat) (r : Option Nat) : w.grownBy (w.drewN n) r := ⟨rfl, rfl, rfl, Nat.le_refl _, fun _ _ _ => rfl⟩
theorem grownBy_of_below {w w' : World} (h : Below w.heap.size w w') (r : Option Nat) : w.grownBy w' r := ⟨h.os, h.tape, h.output, h.size, fun k hk _ => h.block k hk⟩
theorem IsRd.lt {w : World} {b : Nat} {s : ByteArray} {e : Int} (h : IsRd w b s e) : b < w.heap.size := by
  have := h.c0
  rcases Nat.lt_or_ge b w.heap.size with h1 | h1
  · exact h1
  · simp [World.cell?, Array.getElem?_eq_none h1] at this
theorem IsRd.below {w w' : World} {b B : Nat} {s : ByteArray} {e : Int} (h : IsRd w b s e) (hb : Below B w w') (hB : b < B) : IsRd w' b s e :=
  ⟨(hb.cell (p := ⟨b, 0, none⟩) hB).trans h.c0, (hb.cell (p := ⟨b, 1, none⟩) hB).trans h.c1, (hb.frozen (p := ⟨b, 0, none⟩) hB).trans h.f0, (hb.frozen (p := ⟨b, 1, none⟩) hB).trans h.f1⟩
theorem IsRd.drewN {w : World} {b : Nat} {s : ByteArray} {e : Int} (h : IsRd w b s e) (n : Nat) : IsRd (w.drewN n) b s e :=
  h.below (B := w.heap.size) ⟨rfl, rfl, rfl, Nat.le_refl _, fun _ _ => rfl⟩ h.lt
theorem IsRd.setErr {w : World} {b : Nat} {s : ByteArray} {e : Int} (h : IsRd w b s e) (e2 : Int) : IsRd (w.setCell ⟨b, 1, none⟩ (.int .i64 e2)) b s e2 :=
  ⟨(World.cell?_setCell_other _ _ _ _ (by simp)).trans h.c0, World.cell?_setCell_same _ _ _ h.c1, by simpa using h.f0, by simpa using h.f1⟩
theorem IsRd.setRest {w : World} {b : Nat} {s : ByteArray} {e : Int} (h : IsRd w b s e) (s2 : ByteArray) : IsRd (w.setCell ⟨b, 0, none⟩ (.string s2)) b s2 e :=
  ⟨World.cell?_setCell_same _ _ _ h.c0, (World.cell?_setCell_other _ _ _ _ (by simp)).trans h.c1, by simpa using h.f0, by simpa using h.f1⟩
theorem decV_err : ∀ (l : List UInt8) (i acc : Nat), (decV i acc l).2.2 ≠ 0 → decV i acc l = (0, [], (decV i acc l).2.2)
  | [], i, acc, _ => rfl
  | b :: r, i, acc, h => by
    rw [decV] at h ⊢
    by_cases h1 : (i = 9 ∧ 1 < b.toNat) ∨ (0 < i ∧ b.toNat = 0)
    · rw [if_pos h1]
    · rw [if_neg h1] at h ⊢
      by_cases h2 : b.toNat < 128
      · rw [if_pos h2] at h
        exact absurd rfl h
      · rw [if_neg h2] at h ⊢
        exact decV_err r _ _ h
/-- How many there are: the number, what is behind it, the error (2: too many). -/
def decC (most : Int) (l : List UInt8) : Nat × List UInt8 × Int :=
  if (decV 0 0 l).2.2 ≠ 0 then (0, [], (decV 0 0 l).2.2) else if most < 0 ∨ most < ((decV 0 0 l).1 : Int) then (0, [], 2) else ((decV 0 0 l).1, (decV 0 0 l).2.1, 0)
theorem decC_cases (most : Int) (l : List UInt8) : (∃ v r, decC most l = (v, r, 0) ∧ (v : Int) ≤ most ∧ decV 0 0 l = (v, r, 0)) ∨ (∃ e, e ≠ 0 ∧ decC most l = (0, [], e)) := by
  unfold decC
  by_cases h : (decV 0 0 l).2.2 ≠ 0
  · rw [if_pos h]; exact .inr ⟨_, h, rfl⟩
  · rw [if_neg h]
    by_cases h2 : most < 0 ∨ most < ((decV 0 0 l).1 : Int)
    · rw [if_pos h2]; exact .inr ⟨2, by omega, rfl⟩
    · rw [if_neg h2]
      refine .inl ⟨_, _, rfl, by omega, ?_⟩
      have h3 : (decV 0 0 l).2.2 = 0 := Classical.not_not.1 h
      rw [← h3]
/-- What is read as a truth. -/
def decB : List UInt8 → Bool × List UInt8 × Int
  | [] => (false, [], 5)
  | b :: r => if 1 < b.toNat then (false, [], 4) else (decide (b.toNat = 1), r, 0)
/-- What is read as a text. -/
def decT (most : Int) (l : List UInt8) : List UInt8 × List UInt8 × Int :=
  if (decC most l).2.2 ≠ 0 then ([], [], (decC most l).2.2) else if (decC most l).2.1.length < (decC most l).1 then ([], [], 5) else ((decC most l).2.1.take (decC most l).1, (decC most l).2.1.drop (decC most l).1, 0)
theorem decV_len : ∀ (l : List UInt8) (i acc : Nat), (decV i acc l).2.1.length ≤ l.length
  | [], i, acc => by simp [decV]
  | b :: r, i, acc => by
    rw [decV]
    by_cases h1 : (i = 9 ∧ 1 < b.toNat) ∨ (0 < i ∧ b.toNat = 0)
    · rw [if_pos h1]; simp
    · rw [if_neg h1]
      by_cases h2 : b.toNat < 128
      · rw [if_pos h2]; simp
      · rw [if_neg h2]
        have := decV_len r (i + 1) (acc + b.toNat % 128 * 2 ^ (7 * i))
        simp only [List.length_cons]
        omega
theorem decV_lt : ∀ (l : List UInt8) (i acc : Nat), i ≤ 9 → acc < 2 ^ (7 * i) → (decV i acc l).1 < 18446744073709551616
  | [], i, acc, _, _ => by simp [decV]
  | b :: r, i, acc, hi, ha => by
    rw [decV]
    have hp : 2 ^ (7 * i) ≤ 2 ^ (7 * 9) := Nat.pow_le_pow_right (by omega) (by omega)
    by_cases h1 : (i = 9 ∧ 1 < b.toNat) ∨ (0 < i ∧ b.toNat = 0)
    · rw [if_pos h1]; simp
    · rw [if_neg h1]
      by_cases h2 : b.toNat < 128
      · rw [if_pos h2]
        show acc + b.toNat * 2 ^ (7 * i) < _
        by_cases h9 : i = 9
        · subst h9
          have hb : b.toNat ≤ 1 := by omega
          have := Nat.mul_le_mul_right (2 ^ (7 * 9)) hb
          omega
        · have hp' : 2 ^ (7 * i) ≤ 2 ^ (7 * 8) := Nat.pow_le_pow_right (by omega) (by omega)
          have h3 : b.toNat ≤ 127 := by omega
          have := Nat.mul_le_mul h3 hp'
          omega
      · rw [if_neg h2]
        exact decV_lt r (i + 1) _ (by omega) (group_lt _ _ _ ha)
theorem take_str (r : List UInt8) (n : Nat) : (⟨r.toArray⟩ : ByteArray).extract 0 n = ⟨(r.take n).toArray⟩ := by
  apply ByteArray.ext
  apply Array.toList_inj.1
  rw [Lib.extract_data]
  simp
theorem tail_str (r : List UInt8) (n : Nat) : (⟨r.toArray⟩ : ByteArray).extract n r.length = ⟨(r.drop n).toArray⟩ := by
  have h := drop_str ⟨r.toArray⟩ n
  have hz : (⟨r.toArray⟩ : ByteArray).size = r.length := by show r.toArray.size = _; simp
  rw [hz] at h
  simpa using h
theorem decT_cases (most : Int) (l : List UInt8) : (∃ t r, decT most l = (t, r, 0)) ∨ (∃ e, e ≠ 0 ∧ decT most l = ([], [], e)) := by
  unfold decT
  by_cases h : (decC most l).2.2 ≠ 0
  · rw [if_pos h]; exact .inr ⟨_, h, rfl⟩
  · rw [if_neg h]
    by_cases h2 : (decC most l).2.1.length < (decC most l).1
    · rw [if_pos h2]; exact .inr ⟨5, by omega, rfl⟩
    · rw [if_neg h2]; exact .inl ⟨_, _, rfl⟩
/-- A slice of numbers that came in: its elements are zs. -/
def IsRowU (w : World) (a : Option Addr) (len : Nat) (zs : List Nat) : Prop :=
  zs.length = len ∧ (∀ z ∈ zs, z < 18446744073709551616) ∧ (len = 0 ∨ ∃ b off, a = some ⟨b, off, none⟩ ∧ b < w.heap.size ∧ ∀ i (h : i < zs.length), w.cell? ⟨b, off + i, none⟩ = some (.int .u64 (zs[i] : Int)))
/-- A slice of ntexts that came in: its elements are ss. -/
def IsRowSN (w : World) (a : Option Addr) (len : Nat) (ss : List ByteArray) : Prop :=
  ss.length = len ∧ (∀ s ∈ ss, s.size ≤ maxLen) ∧ (len = 0 ∨ ∃ b off, a = some ⟨b, off, none⟩ ∧ b < w.heap.size ∧ ∀ i (h : i < ss.length), w.cell? ⟨b, off + i, none⟩ = some (.string ss[i]))
/-- The bytes of ntexts, each behind its length. -/
def ntexts (ss : List ByteArray) : List UInt8 := (ss.map fun s => Lib.uvarint s.size ++ s.data.toList).flatten
theorem len_data' (s : ByteArray) : s.data.toList.length = s.size := by rw [Array.length_toList]; rfl
theorem toU8 {a : Nat} (h : a < 256) : (a.toUInt8).toNat = a := Lib.toUInt8_toNat h
/-- A number that was laid is read: from the i-th group on. -/
theorem decV_uvarint (rest : List UInt8) : ∀ (k i acc v : Nat), i + k = 9 → v < 2 ^ (64 - 7 * i) → (0 < i → 0 < v) → decV i acc (Lib.uvarint v ++ rest) = (acc + v * 2 ^ (7 * i), rest, 0)
  | 0, i, acc, v, hi, hv, hp => by
    obtain rfl : i = 9 := by omega
    have hv' : v < 2 := by simpa using hv
    rw [Lib.uvarint_small (by omega)]
    show decV 9 acc (v.toUInt8 :: rest) = _
    rw [decV_last _ _ _ _ (by rw [toU8 (by omega)]; have := hp (by omega); omega) (by rw [toU8 (by omega)]; omega), toU8 (by omega)]
  | k + 1, i, acc, v, hi, hv, hp => by
    by_cases h : v < 128
    · rw [Lib.uvarint_small h]
      show decV i acc (v.toUInt8 :: rest) = _
      rw [decV_last _ _ _ _ (by rw [toU8 (by omega)]; rintro (h1 | h1); omega; have := hp h1.1; omega) (by rw [toU8 (by omega)]; omega), toU8 (by omega)]
    · rw [Lib.uvarint_big (by omega)]
      show decV i acc ((v % 128 + 128).toUInt8 :: (Lib.uvarint (v / 128) ++ rest)) = _
      have ht : ((v % 128 + 128).toUInt8).toNat = v % 128 + 128 := toU8 (by omega)
      rw [decV_on _ _ _ _ (by rw [ht]; omega) (by rw [ht]; omega), ht]
      have e : 2 ^ (64 - 7 * i) = 128 * 2 ^ (64 - 7 * (i + 1)) := by
        rw [show 64 - 7 * i = 7 + (64 - 7 * (i + 1)) by omega, Nat.pow_add]
      rw [decV_uvarint rest k (i + 1) _ (v / 128) (by omega) (by rw [e] at hv; omega) (by omega)]
      have e2 : 2 ^ (7 * (i + 1)) = 128 * 2 ^ (7 * i) := by rw [Nat.mul_add, Nat.pow_add]; omega
      have e3 : (v % 128 + 128) % 128 = v % 128 := by omega
      rw [e2, e3]
      have e4 : v / 128 * (128 * 2 ^ (7 * i)) = 128 * (v / 128) * 2 ^ (7 * i) := by rw [← Nat.mul_assoc, Nat.mul_comm (v / 128) 128]
      rw [e4, Nat.add_assoc, ← Nat.add_mul]
      have e5 : v % 128 + 128 * (v / 128) = v := by omega
      rw [e5]
theorem decV_laid (v : Nat) (rest : List UInt8) (hv : v < 18446744073709551616) : decV 0 0 (Lib.uvarint v ++ rest) = (v, rest, 0) := by
  rw [decV_uvarint rest 9 0 0 v rfl (by simpa using hv) (by omega)]
  simp
theorem decC_laid (most : Int) (v : Nat) (rest : List UInt8) (hv : v < 18446744073709551616) (hm : (v : Int) ≤ most) : decC most (Lib.uvarint v ++ rest) = (v, rest, 0) := by
  unfold decC
  rw [decV_laid v rest hv, if_neg (by simp), if_neg (by simp only; omega)]
theorem decT_laid (most : Int) (t rest : List UInt8) (hl : t.length < 18446744073709551616) (hm : (t.length : Int) ≤ most) : decT most (Lib.uvarint t.length ++ (t ++ rest)) = (t, rest, 0) := by
  unfold decT
  rw [decC_laid most t.length (t ++ rest) hl hm, if_neg (by simp), if_neg (by simp)]
  simp
theorem IsRowU.below {w w' : World} {a : Option Addr} {len : Nat} {zs : List Nat} (h : IsRowU w a len zs) (hb : Below w.heap.size w w') : IsRowU w' a len zs := by
  obtain ⟨h1, h2, h3⟩ := h
  refine ⟨h1, h2, ?_⟩
  rcases h3 with h3 | ⟨b, off, e, hlt, hc⟩
  · exact .inl h3
  · exact .inr ⟨b, off, e, Nat.lt_of_lt_of_le hlt hb.size, fun i hi => (hb.cell (p := ⟨b, off + i, none⟩) hlt).trans (hc i hi)⟩
theorem IsRowSN.below {w w' : World} {a : Option Addr} {len : Nat} {ss : List ByteArray} (h : IsRowSN w a len ss) (hb : Below w.heap.size w w') : IsRowSN w' a len ss := by
  obtain ⟨h1, h2, h3⟩ := h
  refine ⟨h1, h2, ?_⟩
  rcases h3 with h3 | ⟨b, off, e, hlt, hc⟩
  · exact .inl h3
  · exact .inr ⟨b, off, e, Nat.lt_of_lt_of_le hlt hb.size, fun i hi => (hb.cell (p := ⟨b, off + i, none⟩) hlt).trans (hc i hi)⟩
theorem str_eta (s : ByteArray) : (⟨s.data.toList.toArray⟩ : ByteArray) = s := by
  apply ByteArray.ext
  simp
end Go.Proofs.YtmnboiikopkaoaaGreat

namespace Go.Proofs.YtmnboiikopkaoaaGreat
open Go.RowKit

/-- One group more. -/
theorem grp_sum (acc k : Nat) (b : UInt8) (hk : k ≤ 9) (ha : acc < 2 ^ (7 * k)) (h9 : k = 9 → b.toNat ≤ 1) : acc + b.toNat % 128 * 2 ^ (7 * k) < 18446744073709551616 := by
  by_cases h : k = 9
  · subst h
    have := h9 rfl
    have : b.toNat % 128 * 2 ^ (7 * 9) ≤ 1 * 2 ^ 63 := Nat.mul_le_mul (by omega) (by decide)
    omega
  · have h2 : 2 ^ (7 * k) ≤ 2 ^ 56 := Nat.pow_le_pow_right (by omega) (by omega)
    have h3 : b.toNat % 128 * 2 ^ (7 * k) ≤ 127 * 2 ^ 56 := Nat.mul_le_mul (by omega) h2
    omega
theorem grp_lt (acc k : Nat) (b : UInt8) (ha : acc < 2 ^ (7 * k)) : acc + b.toNat % 128 * 2 ^ (7 * k) < 2 ^ (7 * (k + 1)) := by
  have e : 2 ^ (7 * (k + 1)) = 128 * 2 ^ (7 * k) := by rw [show 7 * (k + 1) = 7 + 7 * k by omega, Nat.pow_add]
  rw [e]
  have : b.toNat % 128 ≤ 127 := by omega
  have := Nat.mul_le_mul_right (2 ^ (7 * k)) this
  omega
end Go.Proofs.YtmnboiikopkaoaaGreat

namespace Go.Proofs.YtmnboiikopkaoaaGreat
open Go.RowKit

/-- A reader that has l left and the error e (behind an error nobody asks what is left). -/
def Rdr (w : World) (b : Nat) (l : List UInt8) (e : Int) : Prop := ∃ s, IsRd w b s e ∧ (e = 0 → s.data.toList = l) ∧ s.size ≤ 100000000
def rdV (l : List UInt8) (e : Int) : Nat × List UInt8 × Int := if e ≠ 0 then (0, l, e) else if (decV 0 0 l).2.2 ≠ 0 then (0, l, (decV 0 0 l).2.2) else decV 0 0 l
def rdC (most : Int) (l : List UInt8) (e : Int) : Nat × List UInt8 × Int := if e ≠ 0 then (0, l, e) else if (decC most l).2.2 ≠ 0 then (0, l, (decC most l).2.2) else decC most l
def rdT (most : Int) (l : List UInt8) (e : Int) : List UInt8 × List UInt8 × Int := if e ≠ 0 then ([], l, e) else if (decT most l).2.2 ≠ 0 then ([], l, (decT most l).2.2) else decT most l
def rdB (l : List UInt8) (e : Int) : Bool × List UInt8 × Int := if e ≠ 0 then (false, l, e) else if (decB l).2.2 ≠ 0 then (false, l, (decB l).2.2) else decB l
theorem rdV_err {l : List UInt8} {e : Int} (h : e ≠ 0) : rdV l e = (0, l, e) := by unfold rdV; rw [if_pos h]
theorem rdC_err {most : Int} {l : List UInt8} {e : Int} (h : e ≠ 0) : rdC most l e = (0, l, e) := by unfold rdC; rw [if_pos h]
theorem rdT_err {most : Int} {l : List UInt8} {e : Int} (h : e ≠ 0) : rdT most l e = ([], l, e) := by unfold rdT; rw [if_pos h]
theorem rdB_err {l : List UInt8} {e : Int} (h : e ≠ 0) : rdB l e = (false, l, e) := by unfold rdB; rw [if_pos h]
theorem rdV_ok {l r : List UInt8} {v : Nat} (h : decV 0 0 l = (v, r, 0)) : rdV l 0 = (v, r, 0) := by unfold rdV; rw [h]; rfl
theorem rdV_bad {l : List UInt8} {e : Int} (h : decV 0 0 l = (0, [], e)) (he : e ≠ 0) : rdV l 0 = (0, l, e) := by unfold rdV; rw [h, if_neg (by simp), if_pos he]
theorem rdC_ok {most : Int} {l r : List UInt8} {v : Nat} (h : decC most l = (v, r, 0)) : rdC most l 0 = (v, r, 0) := by unfold rdC; rw [h]; rfl
theorem rdC_bad {most : Int} {l : List UInt8} {e : Int} (h : decC most l = (0, [], e)) (he : e ≠ 0) : rdC most l 0 = (0, l, e) := by unfold rdC; rw [h, if_neg (by simp), if_pos he]
theorem rdT_ok {most : Int} {l t r : List UInt8} (h : decT most l = (t, r, 0)) : rdT most l 0 = (t, r, 0) := by unfold rdT; rw [h]; rfl
theorem rdT_bad {most : Int} {l : List UInt8} {e : Int} (h : decT most l = ([], [], e)) (he : e ≠ 0) : rdT most l 0 = ([], l, e) := by unfold rdT; rw [h, if_neg (by simp), if_pos he]
theorem rdB_ok {l r : List UInt8} {v : Bool} (h : decB l = (v, r, 0)) : rdB l 0 = (v, r, 0) := by unfold rdB; rw [h]; rfl
theorem rdB_bad {l : List UInt8} {e : Int} (h : decB l = (false, [], e)) (he : e ≠ 0) : rdB l 0 = (false, l, e) := by unfold rdB; rw [h, if_neg (by simp), if_pos he]
theorem decV_cases (l : List UInt8) : (∃ v r, decV 0 0 l = (v, r, 0)) ∨ (∃ e, e ≠ 0 ∧ decV 0 0 l = (0, [], e)) := by
  by_cases h : (decV 0 0 l).2.2 = 0
  · exact .inl ⟨_, _, by rw [← h]⟩
  · exact .inr ⟨_, h, decV_err l 0 0 h⟩
theorem str_size (l : List UInt8) : (⟨l.toArray⟩ : ByteArray).size = l.length := by simp [ByteArray.size]
theorem Rdr.lt {w : World} {b : Nat} {l : List UInt8} {e : Int} (h : Rdr w b l e) : b < w.heap.size := by obtain ⟨s, hr, -⟩ := h; exact hr.lt
theorem Rdr.below {w w' : World} {b B : Nat} {l : List UInt8} {e : Int} (h : Rdr w b l e) (hb : Below B w w') (hB : b < B) : Rdr w' b l e := by
  obtain ⟨s, hr, h1, h2⟩ := h
  exact ⟨s, hr.below hb hB, h1, h2⟩
/-- The reader's bytes, where there is no error. -/
theorem Rdr.at {w : World} {b : Nat} {l : List UInt8} (h : Rdr w b l 0) : ∃ s, IsRd w b s 0 ∧ s.data.toList = l ∧ s.size ≤ 100000000 := by
  obtain ⟨s, hr, h1, h2⟩ := h
  exact ⟨s, hr, h1 rfl, h2⟩
theorem Rdr.of {w : World} {b : Nat} {l : List UInt8} {e : Int} {s : ByteArray} (h : IsRd w b s e) (hl : e = 0 → s.data.toList = l) (hs : s.size ≤ 100000000) : Rdr w b l e := ⟨s, h, hl, hs⟩

theorem same_grown (w : World) (r : Option Nat) : w.grownBy w r := ⟨rfl, rfl, rfl, Nat.le_refl _, fun _ _ _ => rfl⟩
/-- The next n bytes. -/
def rdN (n : Nat) (l : List UInt8) (e : Int) : List UInt8 × List UInt8 × Int := if e ≠ 0 then ([], l, e) else if l.length < n then ([], l, 5) else (l.take n, l.drop n, 0)
theorem rdT_eq (most : Int) (l : List UInt8) (e : Int) : (rdT most l e).1 = (rdN (rdC most l e).1 (rdC most l e).2.1 (rdC most l e).2.2).1 ∧ (rdT most l e).2.2 = (rdN (rdC most l e).1 (rdC most l e).2.1 (rdC most l e).2.2).2.2 ∧ ((rdT most l e).2.2 = 0 → (rdT most l e).2.1 = (rdN (rdC most l e).1 (rdC most l e).2.1 (rdC most l e).2.2).2.1) := by
  by_cases he : e = 0
  · subst he
    rcases decC_cases most l with ⟨v, r, hc, -, -⟩ | ⟨e, he, hc⟩
    · rw [rdC_ok hc]
      by_cases hl : r.length < v
      · have ht : decT most l = ([], [], 5) := by unfold decT; rw [hc, if_neg (by simp), if_pos hl]
        rw [rdT_bad ht (by omega)]
        unfold rdN
        rw [if_neg (by simp), if_pos hl]
        exact ⟨rfl, rfl, fun h => by cases h⟩
      · have ht : decT most l = (r.take v, r.drop v, 0) := by unfold decT; rw [hc, if_neg (by simp), if_neg hl]
        rw [rdT_ok ht]
        unfold rdN
        rw [if_neg (by simp), if_neg hl]
        exact ⟨rfl, rfl, fun _ => rfl⟩
    · have ht : decT most l = ([], [], e) := by unfold decT; rw [hc, if_pos he]
      rw [rdC_bad hc he, rdT_bad ht he]
      unfold rdN
      rw [if_pos he]
      exact ⟨rfl, rfl, fun _ => rfl⟩
  · rw [rdC_err he, rdT_err he]
    unfold rdN
    rw [if_pos he]
    exact ⟨rfl, rfl, fun _ => rfl⟩
theorem rdC_le {most : Int} (l : List UInt8) (e : Int) (hm : 0 ≤ most) : ((rdC most l e).1 : Int) ≤ most := by
  by_cases he : e = 0
  · subst he
    rcases decC_cases most l with ⟨v, r, hc, hv, -⟩ | ⟨e, he, hc⟩
    · rw [rdC_ok hc]; exact hv
    · rw [rdC_bad hc he]; exact hm
  · rw [rdC_err he]; exact hm
end Go.Proofs.YtmnboiikopkaoaaGreat
