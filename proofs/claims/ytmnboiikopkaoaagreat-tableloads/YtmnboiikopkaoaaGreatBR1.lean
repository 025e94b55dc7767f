/- The document own Fix, Unfix, Crc, Seal, Open. -/
import Derived.Test.YtmnboiikopkaoaaGreatRA
import Derived.Test.YtmnboiikopkaoaaGreatRows
import Derived.WalkKit
import Derived.OwnWalk
import Derived.WalkSpells
import Derived.WalkLawsBesides
import Derived.BigCall
import Derived.Laws.IdiomStrings
import Derived.Laws.BitsAllLaws
import Derived.Lib.Slices
import Derived.Outline
import Derived.Lib.BufferRead
import Derived.Lib.Hide
import Derived.Deep.RegionWith
import Derived.Deep.Draws
import Derived.BigQuiet
import Derived.Deep.QuietTactic
import Derived.Deep.RegionHeld3
import Derived.Lib.AppendStr
namespace Go.Proofs.YtmnboiikopkaoaaGreat
open Go.RowKit

theorem infoByte : (Tryz.prog.info? 5).map (fun i => (i.zero, i.size, i.bytes)) = some (some (.int .u8 0), 1, 1) := by kernel_rfl
theorem ret_int {k : IntKind} {a b : Int} (h : a = b) : Ending.returned (.int k a) = .returned (.int k b) := by rw [h]
theorem conv_own {w : World} {B : Nat} {v : Value} {l : List UInt8} {n : Nat} (h : w.ownsRow B 5 1 v n (Lib.byteCells l)) (hn : n = l.length) :
    (convert 78 9 v).run Tryz.prog w = .ok (.string ⟨l.toArray⟩) w := by
  subst hn
  rcases h.2 with ⟨rfl, h0⟩ | ⟨g, cap, cur, rfl, -, -, -, -, -, -⟩
  · have hl : l = [] := List.eq_nil_of_length_eq_zero h0
    subst hl
    rw [Lib.run_convert_nil_bytes w 78 9 5 0 Tryz.underlying78 Tryz.underlying5 Tryz.underlying9]
  · exact run_convert_bytes_back (P := Tryz.prog) w 78 9 5 ⟨g, 0, none⟩ cap l Tryz.underlying78 Tryz.underlying5 Tryz.underlying9 (fun j hj => h.cells (g := g) rfl j _ (by simp [Lib.byteCells, hj]))
/-- A number in n bytes, the highest first. -/
def be (v n : Nat) : List UInt8 := (List.range n).map fun i => UInt8.ofNat (v / 256 ^ (n - 1 - i) % 256)
def fixCells (v n k : Nat) : List Value := (List.range n).map fun i => .int .u8 (if i < k then ((v / 256 ^ (n - 1 - i) % 256 : Nat) : Int) else 0)
theorem fixCells_full (v n : Nat) : fixCells v n n = Lib.byteCells (be v n) := by
  unfold fixCells be Lib.byteCells
  rw [List.map_map]
  apply List.map_congr_left
  intro i hi
  have hi' : i < n := by simpa using hi
  simp [hi']
theorem be_length (v n : Nat) : (be v n).length = n := by simp [be]
/-- The number of bytes, the highest first. -/
def beVal (l : List UInt8) : Nat := l.foldl (fun a b => a * 256 + b.toNat) 0
theorem beVal_snoc (l : List UInt8) (b : UInt8) : beVal (l ++ [b]) = beVal l * 256 + b.toNat := by simp [beVal, List.foldl_append]
theorem beVal_from : ∀ (l : List UInt8) (a : Nat), l.foldl (fun a b => a * 256 + b.toNat) a < (a + 1) * 256 ^ l.length
  | [], a => by simp
  | b :: r, a => by
    have hb := b.toNat_lt
    have h := beVal_from r (a * 256 + b.toNat)
    simp only [List.foldl_cons, List.length_cons]
    refine Nat.lt_of_lt_of_le h ?_
    rw [Nat.pow_succ, Nat.mul_comm (256 ^ r.length) 256, ← Nat.mul_assoc]
    exact Nat.mul_le_mul_right _ (by omega)
theorem beVal_lt (l : List UInt8) : beVal l < 256 ^ l.length := by simpa [beVal] using beVal_from l 0
theorem pow256_mono {k n : Nat} (h : k ≤ n) : 256 ^ k ≤ 256 ^ n := Nat.pow_le_pow_right (by omega) h
def piece (s : ByteArray) (at_ k : Nat) : List UInt8 := (s.data.toList.drop at_).take k
theorem piece_snoc (s : ByteArray) (a k : Nat) (h : a + k < s.size) : piece s a (k + 1) = piece s a k ++ [s[a + k]] := by
  unfold piece
  have h1 : k < (s.data.toList.drop a).length := by rw [List.length_drop, Array.length_toList]; show k < s.size - a; omega
  rw [List.take_succ_eq_append_getElem h1]
  congr 2
  simp only [List.getElem_drop, Array.getElem_toList]
  rfl
theorem piece_length (s : ByteArray) (a k : Nat) (h : a + k ≤ s.size) : (piece s a k).length = k := by
  unfold piece
  rw [List.length_take, List.length_drop, Array.length_toList]
  show min k (s.size - a) = k
  omega
theorem be_succ (v n : Nat) : be v (n + 1) = UInt8.ofNat (v / 256 ^ n % 256) :: be (v % 256 ^ n) n := by
  unfold be
  rw [List.range_succ_eq_map, List.map_cons, List.map_map]
  congr 1
  apply List.map_congr_left
  intro i hi
  have hi' : i < n := by simpa using hi
  simp only [Function.comp]
  rw [show n + 1 - 1 - (i + 1) = n - 1 - i by omega]
  congr 1
  have e : 256 ^ n = 256 ^ (n - 1 - i) * 256 ^ (i + 1) := by rw [← Nat.pow_add]; congr 1; omega
  rw [e, Nat.mod_mul_right_div_self]
  have e2 : (256 : Nat) ^ (i + 1) = 256 * 256 ^ i := by rw [Nat.pow_succ]; omega
  rw [e2, Nat.mod_mul_right_mod]
theorem beVal_cons (b : UInt8) (l : List UInt8) : beVal (b :: l) = b.toNat * 256 ^ l.length + beVal l := by
  have h : ∀ (l : List UInt8) (a : Nat), l.foldl (fun a b => a * 256 + b.toNat) a = a * 256 ^ l.length + beVal l := by
    intro l
    induction l with
    | nil => intro a; simp [beVal]
    | cons c r ih =>
      intro a
      simp only [List.foldl_cons, List.length_cons, beVal]
      rw [ih, ih, Nat.pow_succ]
      simp only [Nat.zero_mul, Nat.zero_add]
      rw [Nat.add_mul, Nat.mul_assoc, Nat.mul_comm 256 (256 ^ r.length), Nat.add_assoc]
  have := h l (0 * 256 + b.toNat)
  simp only [Nat.zero_mul, Nat.zero_add] at this
  simp only [beVal, List.foldl_cons, Nat.zero_mul, Nat.zero_add]
  exact this
theorem beVal_be : ∀ (n v : Nat), v < 256 ^ n → beVal (be v n) = v
  | 0, v, h => by
    have : v = 0 := by simpa using h
    subst this
    rfl
  | n + 1, v, h => by
    have hp : 0 < 256 ^ n := Nat.pow_pos (by omega)
    rw [be_succ, beVal_cons, be_length, beVal_be n _ (Nat.mod_lt _ hp)]
    have hd : v / 256 ^ n < 256 := by rw [Nat.div_lt_iff_lt_mul hp]; rw [Nat.pow_succ] at h; omega
    have e : (UInt8.ofNat (v / 256 ^ n % 256)).toNat = v / 256 ^ n := by
      rw [UInt8.toNat_ofNat']
      clear h hp
      generalize v / 256 ^ n = q at *
      omega
    rw [e, Nat.mul_comm]
    exact Nat.div_add_mod v (256 ^ n)
theorem cat_str (a b : List UInt8) : (⟨a.toArray⟩ : ByteArray) ++ (⟨b.toArray⟩ : ByteArray) = ⟨(a ++ b).toArray⟩ := by
  apply ByteArray.ext
  simp
/-- One shift of a sum. -/
def stir1 (x : Nat) : Nat := (x / 2) ^^^ (if x % 2 = 1 then 2197175160 else 0)
def stirN : Nat → Nat → Nat
  | 0, x => x
  | n + 1, x => stir1 (stirN n x)
/-- One byte more. -/
def crcB (x : Nat) (b : UInt8) : Nat := stirN 8 (x ^^^ b.toNat)
def crcX (x : Nat) (l : List UInt8) : Nat := l.foldl crcB x
/-- The sum of bytes. -/
def crc (l : List UInt8) : Nat := crcX 4294967295 l ^^^ 4294967295
theorem xor_lt32 {a b : Nat} (ha : a < 4294967296) (hb : b < 4294967296) : a ^^^ b < 4294967296 := Nat.xor_lt_two_pow (n := 32) ha hb
theorem stir1_lt {x : Nat} (h : x < 4294967296) : stir1 x < 4294967296 := by
  unfold stir1
  refine xor_lt32 (by omega) ?_
  split <;> omega
theorem stirN_lt : ∀ (n : Nat) {x : Nat}, x < 4294967296 → stirN n x < 4294967296
  | 0, _, h => h
  | n + 1, _, h => stir1_lt (stirN_lt n h)
theorem crcB_lt {x : Nat} (h : x < 4294967296) (b : UInt8) : crcB x b < 4294967296 := stirN_lt 8 (xor_lt32 h (by have := b.toNat_lt; omega))
theorem crcX_lt : ∀ (l : List UInt8) {x : Nat}, x < 4294967296 → crcX x l < 4294967296
  | [], _, h => h
  | b :: l, _, h => crcX_lt l (crcB_lt h b)
theorem crc_lt (l : List UInt8) : crc l < 4294967296 := xor_lt32 (crcX_lt l (by omega)) (by omega)
theorem crcX_snoc (x : Nat) (a : List UInt8) (b : UInt8) : crcX x (a ++ [b]) = crcB (crcX x a) b := by simp [crcX]
theorem be_beVal : ∀ (l : List UInt8), be (beVal l) l.length = l
  | [] => rfl
  | b :: l => by
    have hp : 0 < 256 ^ l.length := Nat.pow_pos (by omega)
    have hl := beVal_lt l
    have hb := b.toNat_lt
    rw [List.length_cons, be_succ, beVal_cons]
    have e1 : (b.toNat * 256 ^ l.length + beVal l) / 256 ^ l.length = b.toNat := by
      rw [Nat.mul_comm, Nat.mul_add_div hp, Nat.div_eq_of_lt hl, Nat.add_zero]
    have e2 : (b.toNat * 256 ^ l.length + beVal l) % 256 ^ l.length = beVal l := by
      rw [Nat.mul_comm, Nat.mul_add_mod, Nat.mod_eq_of_lt hl]
    rw [e1, e2, be_beVal l, Nat.mod_eq_of_lt hb]
    congr 1
    exact UInt8.ofNat_toNat
theorem be_inj {a b n : Nat} (ha : a < 256 ^ n) (hb : b < 256 ^ n) (h : be a n = be b n) : a = b := by
  rw [← beVal_be n a ha, ← beVal_be n b hb, h]
/-- A sealed text. -/
def sealF (s : List UInt8) : List UInt8 := s ++ be (crc s) 4
/-- The text of a sealed one, and 0; 5: too short; 6 stands for another sum (the number of the error is the caller's). -/
def openOk (b : List UInt8) : Prop := 4 ≤ b.length ∧ crc (b.take (b.length - 4)) = beVal (b.drop (b.length - 4))
theorem open_seal (b : List UInt8) (h : 4 ≤ b.length) : sealF (b.take (b.length - 4)) = b ↔ crc (b.take (b.length - 4)) = beVal (b.drop (b.length - 4)) := by
  have hd : (b.drop (b.length - 4)).length = 4 := by rw [List.length_drop]; omega
  unfold sealF
  constructor
  · intro e
    have e1 : b.take (b.length - 4) ++ be (crc (b.take (b.length - 4))) 4 = b.take (b.length - 4) ++ b.drop (b.length - 4) := by rw [List.take_append_drop]; exact e
    rw [← List.append_cancel_left e1, beVal_be 4 _ (crc_lt _)]
  · intro e
    rw [e]
    have := be_beVal (b.drop (b.length - 4))
    rw [hd] at this
    rw [this, List.take_append_drop]
def refCells (v n k : Nat) : List Value := (List.range n).map fun i => .int .u8 (if k ≤ i then ((v / 256 ^ (n - 1 - i) % 256 : Nat) : Int) else 0)
theorem refCells_none (v n : Nat) : refCells v n n = List.replicate n (.int .u8 0) := by
  unfold refCells
  apply List.ext_getElem
  · simp
  · intro i h1 h2
    have : ¬ n ≤ i := by simp at h1; omega
    simp [this]
theorem refCells_set (v n k : Nat) (_ : k < n) : (refCells v n (k + 1)).set k (.int .u8 ((v / 256 ^ (n - 1 - k) % 256 : Nat) : Int)) = refCells v n k := by
  unfold refCells
  apply List.ext_getElem
  · simp
  · intro i h1 h2
    simp only [List.getElem_set, List.getElem_map, List.getElem_range]
    by_cases hk : k = i
    · subst hk; simp
    · rw [if_neg hk]
      by_cases h : k + 1 ≤ i
      · rw [if_pos h, if_pos (by omega)]
      · rw [if_neg h, if_neg (by omega)]
theorem refCells_all (v n : Nat) : refCells v n 0 = Lib.byteCells (be v n) := by
  rw [← fixCells_full]
  unfold refCells fixCells
  apply List.map_congr_left
  intro i hi
  have hi' : i < n := by simpa using hi
  simp [hi']
theorem refCells_get (v n k : Nat) (h : k < n) : (refCells v n (k + 1))[k]? = some (.int .u8 0) := by
  unfold refCells
  have : ¬ k + 1 ≤ k := by omega
  simp [h, this]
/-- The bytes of texts, one behind the other. -/
def cat (ss : List ByteArray) : List UInt8 := (ss.map fun s => s.data.toList).flatten
theorem take_snoc (s : ByteArray) (k : Nat) (h : k < s.size) : s.data.toList.take (k + 1) = s.data.toList.take k ++ [s[k]] := by
  rw [List.take_succ_eq_append_getElem (by simpa using h)]; rfl
theorem xor_ones (x : Nat) (h : x < 4294967296) : bits .xor .u32 (x : Int) 4294967295 = ((x ^^^ 4294967295 : Nat) : Int) :=
  u32_xor_nat _ 4294967295 h (by decide)
theorem crc_start : ∃ x : Nat, x < 4294967296 ∧ Hid (crcX 4294967295 (cat []) = x) ∧ (x : Int) = 4294967295 := ⟨4294967295, by decide, rfl, rfl⟩
def texts (ss : List ByteArray) : List (List UInt8) := ss.map fun s => s.data.toList
theorem be_size (v n : Nat) : (⟨(be v n).toArray⟩ : ByteArray).size = n := by
  show (be v n).toArray.size = n
  rw [List.size_toArray, be_length]
theorem arr_eq (s : ByteArray) : s = ⟨s.data.toList.toArray⟩ := by
  rcases s with ⟨a⟩
  rfl
theorem ext_list (s : ByteArray) (a b : Nat) : (s.extract a b).data.toList = (s.data.toList.take b).drop a := by
  rw [ByteArray.data_extract, Array.toList_extract]
  simp [List.extract, List.drop_take]
theorem ext_to (s : ByteArray) (b : Nat) : (s.extract 0 b).data.toList = s.data.toList.take b := by rw [ext_list]; rfl
/-- What Open answers. -/
def openV (b : List UInt8) : Value :=
  if b.length < 4 then .tuple #[.string ⟨#[]⟩, .int .i64 5] else
  if crc (b.take (b.length - 4)) = beVal (b.drop (b.length - 4)) then .tuple #[.string ⟨(b.take (b.length - 4)).toArray⟩, .int .i64 0] else .tuple #[.string ⟨#[]⟩, .int .i64 6]
theorem half_odd (x : Nat) (h : x < 4294967296) (hp : x % 2 = 1) : bits .xor .u32 ((x : Int) / 2) 2197175160 = ((stir1 x : Nat) : Int) := by
  unfold stir1
  rw [if_pos hp, show ((x : Int) / 2) = ((x / 2 : Nat) : Int) by omega, show (2197175160 : Int) = ((2197175160 : Nat) : Int) from rfl, u32_xor_nat _ _ (by omega) (by omega)]
theorem half_even (x : Nat) (hp : x % 2 ≠ 1) : ((x : Int) / 2) = ((stir1 x : Nat) : Int) := by
  unfold stir1
  rw [if_neg hp, Nat.xor_zero]
  omega
end Go.Proofs.YtmnboiikopkaoaaGreat
