/- Plain: a number of a text, the numbers of a key's bits, filters as bytes. -/
import Derived.Test.YtmnboiikopkaoaaGreatRows
import Derived.WalkKit
import Derived.OwnWalk
import Derived.WalkSpells
import Derived.WalkLawsBesides
import Derived.BigCall
import Derived.Laws.IdiomStrings
import Derived.Laws.BitsAllLaws
import Derived.Lib.Slices
import Derived.Outline
import Derived.Lib.BufferRead
import Derived.Lib.Hide
namespace Go.Proofs.YtmnboiikopkaoaaGreat
open Go.RowKit

def hstep (h : Nat) (b : UInt8) : Nat := (h ^^^ b.toNat) * 16777619 % 4294967296
def hashX (h : Nat) (l : List UInt8) : Nat := l.foldl hstep h
def hfin (h : Nat) : Nat := h ^^^ (h / 32768)
/-- The number of a text, at a seed. -/
def hashN (s : List UInt8) (seed : Nat) : Nat := hfin (hashX (seed ^^^ 2166136261) s)
theorem hashX_snoc (h : Nat) (l : List UInt8) (b : UInt8) : hashX h (l ++ [b]) = hstep (hashX h l) b := by unfold hashX; rw [List.foldl_append, List.foldl_cons, List.foldl_nil]
theorem xor_lt32' {a b : Nat} (ha : a < 4294967296) (hb : b < 4294967296) : a ^^^ b < 4294967296 := Nat.xor_lt_two_pow (n := 32) ha hb
theorem hashX_lt (l : List UInt8) : ∀ h, h < 4294967296 → hashX h l < 4294967296 := by
  induction l with
  | nil => exact fun h hh => hh
  | cons b l ih => exact fun h _ => ih _ (Nat.mod_lt _ (by omega))
theorem hfin_lt {h : Nat} (hh : h < 4294967296) : hfin h < 4294967296 := xor_lt32' hh (by omega)
theorem hashN_lt (s : List UInt8) (seed : Nat) (h : seed < 4294967296) : hashN s seed < 4294967296 :=
  hfin_lt (hashX_lt _ _ (xor_lt32' h (by omega)))

/-- The number of a key's i-th bit among n. -/
def plc (key : List UInt8) (n i : Nat) : Nat := (hashN key 0 + i * hashN key 1) % n
def plcs (key : List UInt8) (n p : Nat) : List Nat := (List.range p).map (plc key n)
theorem plcs_succ (key : List UInt8) (n p : Nat) : plcs key n (p + 1) = plcs key n p ++ [plc key n p] := by simp [plcs, List.range_succ]
theorem plcs_len (key : List UInt8) (n p : Nat) : (plcs key n p).length = p := by simp [plcs]
theorem plcs_get (key : List UInt8) (n p i : Nat) (h : i < p) : (plcs key n p)[i]? = some (plc key n i) := by simp [plcs, h]
theorem plcs_lt {key : List UInt8} {n p k : Nat} (hn : 0 < n) (h : k ∈ plcs key n p) : k < n := by
  obtain ⟨i, _, rfl⟩ := List.mem_map.1 h
  exact Nat.mod_lt _ hn
theorem plc_sum (key : List UInt8) (i : Nat) (h : i ≤ 20) : hashN key 0 + i * hashN key 1 < 18446744073709551616 := by
  have h0 := hashN_lt key 0 (by omega)
  have h1 := hashN_lt key 1 (by omega)
  have : i * hashN key 1 ≤ 20 * 4294967296 := Nat.mul_le_mul h (by omega)
  omega

def gbyteAt (l : List UInt8) (j : Nat) : UInt8 := l[j]?.getD 0
/-- Is bit k set? -/
def bitAt (l : List UInt8) (k : Nat) : Bool := (gbyteAt l (k / 8)).toNat.testBit (k % 8)
def orB (b : UInt8) (i : Nat) : UInt8 := UInt8.ofNat (b.toNat ||| 2 ^ i)
theorem orB_nat (b : UInt8) (i : Nat) (h : i < 8) : (orB b i).toNat = b.toNat ||| 2 ^ i := by
  have hb := b.toNat_lt
  have h2 : (2 : Nat) ^ i < 2 ^ 8 := Nat.pow_lt_pow_right (by omega) h
  have : b.toNat ||| 2 ^ i < 2 ^ 8 := Nat.or_lt_two_pow (by omega) h2
  unfold orB
  rw [UInt8.toNat_ofNat']
  exact Nat.mod_eq_of_lt this
def setBit (l : List UInt8) (k : Nat) : List UInt8 := l.set (k / 8) (orB (gbyteAt l (k / 8)) (k % 8))
theorem setBit_len (l : List UInt8) (k : Nat) : (setBit l k).length = l.length := by simp [setBit]
theorem byteAt_set (l : List UInt8) (j i : Nat) (v : UInt8) (h : j < l.length) : gbyteAt (l.set j v) i = if i = j then v else gbyteAt l i := by
  unfold gbyteAt
  rw [List.getElem?_set]
  by_cases e : j = i
  · subst e; simp [h]
  · rw [if_neg e, if_neg (Ne.symm e)]
theorem bitAt_set (l : List UInt8) (k i : Nat) (h : k / 8 < l.length) : bitAt (setBit l k) i = (bitAt l i || decide (i = k)) := by
  unfold bitAt setBit
  rw [byteAt_set _ _ _ _ h]
  by_cases e : i / 8 = k / 8
  · rw [if_pos e, orB_nat _ _ (by omega), Nat.testBit_or, Nat.testBit_two_pow, e]
    congr 1
    by_cases e2 : i = k
    · subst e2; simp
    · rw [decide_eq_false e2]
      simp
      omega
  · rw [if_neg e, decide_eq_false (fun e2 => e (by rw [e2])), Bool.or_false]
def setAll (l : List UInt8) (ks : List Nat) : List UInt8 := ks.foldl setBit l
theorem setAll_len (ks : List Nat) : ∀ l, (setAll l ks).length = l.length := by
  induction ks with
  | nil => exact fun _ => rfl
  | cons k ks ih => intro l; show (setAll (setBit l k) ks).length = _; rw [ih, setBit_len]
theorem setAll_snoc (l : List UInt8) (ks : List Nat) (k : Nat) : setAll l (ks ++ [k]) = setBit (setAll l ks) k := by simp [setAll]
theorem bitAt_all (ks : List Nat) (i : Nat) : ∀ l, (∀ k ∈ ks, k / 8 < l.length) → bitAt (setAll l ks) i = (bitAt l i || decide (i ∈ ks)) := by
  induction ks with
  | nil => intro l _; simp [setAll]
  | cons k ks ih =>
    intro l h
    show bitAt (setAll (setBit l k) ks) i = _
    rw [ih _ (fun j hj => by rw [setBit_len]; exact h j (List.mem_cons_of_mem _ hj)), bitAt_set _ _ _ (h k List.mem_cons_self), Bool.or_assoc]
    congr 1
    simp
/-- The bits of keys. -/
def fill (n p : Nat) (keys : List ByteArray) (l : List UInt8) : List UInt8 := keys.foldl (fun l (k : ByteArray) => setAll l (plcs k.data.toList n p)) l
theorem fill_snoc (n p : Nat) (keys : List ByteArray) (k : ByteArray) (l : List UInt8) : fill n p (keys ++ [k]) l = setAll (fill n p keys l) (plcs k.data.toList n p) := by simp [fill]
theorem fill_len (n p : Nat) (keys : List ByteArray) : ∀ l, (fill n p keys l).length = l.length := by
  induction keys with
  | nil => exact fun _ => rfl
  | cons k keys ih => intro l; show (fill n p keys (setAll l _)).length = _; rw [ih, setAll_len]
theorem bitAt_fill (n p : Nat) (hn : 0 < n) (keys : List ByteArray) (i : Nat) : ∀ l, n ≤ 8 * l.length → bitAt (fill n p keys l) i = (bitAt l i || decide (∃ k ∈ keys, i ∈ plcs k.data.toList n p)) := by
  induction keys with
  | nil => intro l _; simp [fill]
  | cons k keys ih =>
    intro l h
    show bitAt (fill n p keys (setAll l _)) i = _
    rw [ih _ (by rw [setAll_len]; exact h), bitAt_all _ _ _ (fun j hj => by have := plcs_lt hn hj; omega), Bool.or_assoc]
    congr 1
    simp
theorem bits_ext {l m : List UInt8} (hl : l.length = m.length) (h : ∀ i, bitAt l i = bitAt m i) : l = m := by
  apply List.ext_getElem hl
  intro j h1 h2
  apply UInt8.toNat_inj.1
  apply Nat.eq_of_testBit_eq
  intro i
  have e1 : gbyteAt l j = l[j] := by simp [gbyteAt, h1]
  have e2 : gbyteAt m j = m[j] := by simp [gbyteAt, h2]
  by_cases hi : i < 8
  · have := h (8 * j + i)
    unfold bitAt at this
    rw [show (8 * j + i) / 8 = j by omega, show (8 * j + i) % 8 = i by omega, e1, e2] at this
    exact this
  · have q1 : l[j].toNat < 2 ^ i := Nat.lt_of_lt_of_le l[j].toNat_lt (Nat.pow_le_pow_right (by omega) (by omega : 8 ≤ i))
    have q2 : m[j].toNat < 2 ^ i := Nat.lt_of_lt_of_le m[j].toNat_lt (Nat.pow_le_pow_right (by omega) (by omega : 8 ≤ i))
    rw [Nat.testBit_lt_two_pow q1, Nat.testBit_lt_two_pow q2]

/-- How many bytes the bits of so many keys take. -/
def szB (bits cnt : Nat) : Nat := (max (bits * cnt) 64 + 7) / 8
/-- A filter's bytes. -/
def mkB (bits p : Nat) (keys : List ByteArray) : List UInt8 :=
  fill (szB bits keys.length * 8) p keys (List.replicate (szB bits keys.length) 0) ++ [UInt8.ofNat p]
theorem mkB_len (bits p : Nat) (keys : List ByteArray) : (mkB bits p keys).length = szB bits keys.length + 1 := by simp [mkB, fill_len]
theorem szB_ge (bits cnt : Nat) : 8 ≤ szB bits cnt := by
  unfold szB
  have := Nat.le_max_right (bits * cnt) 64
  omega
def gvalidB (f : List UInt8) : Bool := decide (2 ≤ f.length ∧ 1 ≤ (gbyteAt f (f.length - 1)).toNat ∧ (gbyteAt f (f.length - 1)).toNat ≤ 20)
/-- May a key be there? -/
def mayB (f key : List UInt8) : Bool := !gvalidB f || (plcs key ((f.length - 1) * 8) (gbyteAt f (f.length - 1)).toNat).all (bitAt f)
theorem byteAt_left (l m : List UInt8) (j : Nat) (h : j < l.length) : gbyteAt (l ++ m) j = gbyteAt l j := by simp [gbyteAt, List.getElem?_append_left h]
theorem mkB_last (bits p : Nat) (keys : List ByteArray) (hp : p < 256) : (gbyteAt (mkB bits p keys) ((mkB bits p keys).length - 1)).toNat = p := by
  rw [mkB_len, Nat.add_sub_cancel]
  unfold mkB gbyteAt
  rw [List.getElem?_append_right (by simp [fill_len])]
  simp [fill_len, Nat.mod_eq_of_lt hp]
theorem mkB_valid (bits p : Nat) (keys : List ByteArray) (h1 : 1 ≤ p) (h2 : p ≤ 20) : gvalidB (mkB bits p keys) = true := by
  unfold gvalidB
  rw [mkB_last _ _ _ (by omega), mkB_len]
  have := szB_ge bits keys.length
  simp; omega
theorem mkB_bit (bits p : Nat) (keys : List ByteArray) (i : Nat) (hi : i < szB bits keys.length * 8) : bitAt (mkB bits p keys) i = decide (∃ k ∈ keys, i ∈ plcs k.data.toList (szB bits keys.length * 8) p) := by
  have hz : bitAt (List.replicate (szB bits keys.length) (0 : UInt8)) i = false := by
    unfold bitAt gbyteAt
    rw [List.getElem?_replicate]
    rw [if_pos (by omega)]
    simp
  have h1 : bitAt (mkB bits p keys) i = bitAt (fill (szB bits keys.length * 8) p keys (List.replicate (szB bits keys.length) 0)) i := by
    unfold bitAt mkB
    rw [byteAt_left _ _ _ (by rw [fill_len, List.length_replicate]; omega)]
  have := szB_ge bits keys.length
  rw [h1, bitAt_fill _ _ (by omega) _ _ _ (by rw [List.length_replicate]; omega), hz, Bool.false_or]
theorem mayB_mk (bits p : Nat) (keys : List ByteArray) (h1 : 1 ≤ p) (h2 : p ≤ 20) (key : List UInt8) :
    mayB (mkB bits p keys) key = decide (∀ i ∈ plcs key (szB bits keys.length * 8) p, ∃ k ∈ keys, i ∈ plcs k.data.toList (szB bits keys.length * 8) p) := by
  unfold mayB
  rw [mkB_valid _ _ _ h1 h2, mkB_last _ _ _ (by omega), mkB_len, Nat.add_sub_cancel]
  have hs := szB_ge bits keys.length
  rw [Bool.eq_iff_iff]
  simp only [Bool.not_true, Bool.false_or, List.all_eq_true, decide_eq_true_eq]
  constructor
  · intro h i hi
    have := h i hi
    rw [mkB_bit _ _ _ _ (plcs_lt (by omega) hi)] at this
    exact of_decide_eq_true this
  · intro h i hi
    rw [mkB_bit _ _ _ _ (plcs_lt (by omega) hi)]
    exact decide_eq_true (h i hi)
/-- P904. -/
theorem mayB_in {bits p : Nat} {keys : List ByteArray} {k : ByteArray} (h1 : 1 ≤ p) (h2 : p ≤ 20) (h : k ∈ keys) : mayB (mkB bits p keys) k.data.toList = true := by
  rw [mayB_mk _ _ _ h1 h2]
  exact decide_eq_true fun i hi => ⟨k, h, hi⟩
theorem mayB_none {bits p : Nat} (h1 : 1 ≤ p) (h2 : p ≤ 20) (key : List UInt8) : mayB (mkB bits p []) key = false := by
  rw [mayB_mk _ _ _ h1 h2]
  apply decide_eq_false
  intro h
  obtain ⟨k, hk, _⟩ := h (plc key _ 0) (List.mem_map.2 ⟨0, by simp; omega, rfl⟩)
  cases hk
/-- The order of the keys plays no part. -/
theorem mkB_perm {bits p : Nat} {l m : List ByteArray} (hl : l.length = m.length) (h : ∀ k, k ∈ l ↔ k ∈ m) : mkB bits p l = mkB bits p m := by
  unfold mkB
  rw [hl]
  congr 1
  have hs := szB_ge bits m.length
  apply bits_ext (by simp [fill_len])
  intro i
  rw [bitAt_fill _ _ (by omega) _ _ _ (by rw [List.length_replicate]; omega), bitAt_fill _ _ (by omega) _ _ _ (by rw [List.length_replicate]; omega)]
  congr 1
  simp [h]
theorem szB_mono {bits a b : Nat} (h : a ≤ b) : szB bits a ≤ szB bits b := by
  unfold szB
  have := Nat.mul_le_mul_left bits h
  omega
end Go.Proofs.YtmnboiikopkaoaaGreat
