/- The document own Fix, Unfix, Crc, Seal, Open. -/
import Derived.Test.YthaalhigmihijacGreatRA
import Derived.Test.YthaalhigmihijacGreatRows
import Derived.WalkKit
import Derived.OwnWalk
import Derived.WalkSpells
import Derived.WalkLawsBesides
import Derived.BigCall
import Derived.Laws.IdiomStrings
import Derived.Laws.BitsAllLaws
import Derived.Lib.Slices
import Derived.Outline
import Derived.Lib.BufferRead
import Derived.Lib.Hide
import Derived.Deep.RegionWith
import Derived.Deep.Draws
import Derived.BigQuiet
import Derived.Deep.QuietTactic
import Derived.Deep.RegionHeld3
import Derived.Lib.AppendStr
namespace Go.Proofs.YthaalhigmihijacGreat
open Go.RowKit

theorem infoByte : (Tryz.prog.info? 5).map (fun i => (i.zero, i.size, i.bytes)) = some (some (.int .u8 0), 1, 1) := by kernel_rfl
theorem ret_int {k : IntKind} {a b : Int} (h : a = b) : Ending.returned (.int k a) = .returned (.int k b) := by rw [h]
theorem conv_own {w : World} {B : Nat} {v : Value} {l : List UInt8} {n : Nat} (h : w.ownsRow B 5 1 v n (Lib.byteCells l)) (hn : n = l.length) :
    (convert 90 9 v).run Tryz.prog w = .ok (.string ⟨l.toArray⟩) w := by
  subst hn
  rcases h.2 with ⟨rfl, h0⟩ | ⟨g, cap, cur, rfl, -, -, -, -, -, -⟩
  · have hl : l = [] := List.eq_nil_of_length_eq_zero h0
    subst hl
    rw [Lib.run_convert_nil_bytes w 90 9 5 0 Tryz.underlying90 Tryz.underlying5 Tryz.underlying9]
  · exact run_convert_bytes_back (P := Tryz.prog) w 90 9 5 ⟨g, 0, none⟩ cap l Tryz.underlying90 Tryz.underlying5 Tryz.underlying9 (fun j hj => h.cells (g := g) rfl j _ (by simp [Lib.byteCells, hj]))
/-- A number in n bytes, the highest first. -/
def be (v n : Nat) : List UInt8 := (List.range n).map fun i => UInt8.ofNat (v / 256 ^ (n - 1 - i) % 256)
def fixCells (v n k : Nat) : List Value := (List.range n).map fun i => .int .u8 (if i < k then ((v / 256 ^ (n - 1 - i) % 256 : Nat) : Int) else 0)
theorem fixCells_full (v n : Nat) : fixCells v n n = Lib.byteCells (be v n) := by
  unfold fixCells be Lib.byteCells
  rw [List.map_map]
  apply List.map_congr_left
  intro i hi
  have hi' : i < n := by simpa using hi
  simp [hi']
theorem be_length (v n : Nat) : (be v n).length = n := by simp [be]
/-- The number of bytes, the highest first. -/
def beVal (l : List UInt8) : Nat := l.foldl (fun a b => a * 256 + b.toNat) 0
theorem beVal_snoc (l : List UInt8) (b : UInt8) : beVal (l ++ [b]) = beVal l * 256 + b.toNat := by simp [beVal, List.foldl_append]
theorem beVal_from : ∀ (l : List UInt8) (a : Nat), l.foldl (fun a b => a * 256 + b.toNat) a < (a + 1) * 256 ^ l.length
  | [], a => by simp
  | b :: r, a => by
    have hb := b.toNat_lt
    have h := beVal_from r (a * 256 + b.toNat)
    simp only [List.foldl_cons, List.length_cons]
    refine Nat.lt_of_lt_of_le h ?_
    rw [Nat.pow_succ, Nat.mul_comm (256 ^ r.length) 256, ← Nat.mul_assoc]
    exact Nat.mul_le_mul_right _ (by omega)
theorem beVal_lt (l : List UInt8) : beVal l < 256 ^ l.length := by simpa [beVal] using beVal_from l 0
theorem pow256_mono {k n : Nat} (h : k ≤ n) : 256 ^ k ≤ 256 ^ n := Nat.pow_le_pow_right (by omega) h
def piece (s : ByteArray) (at_ k : Nat) : List UInt8 := (s.data.toList.drop at_).take k
theorem piece_snoc (s : ByteArray) (a k : Nat) (h : a + k < s.size) : piece s a (k + 1) = piece s a k ++ [s[a + k]] := by
  unfold piece
  have h1 : k < (s.data.toList.drop a).length := by rw [List.length_drop, Array.length_toList]; show k < s.size - a; omega
  rw [List.take_succ_eq_append_getElem h1]
  congr 2
  simp only [List.getElem_drop, Array.getElem_toList]
  rfl
theorem piece_length (s : ByteArray) (a k : Nat) (h : a + k ≤ s.size) : (piece s a k).length = k := by
  unfold piece
  rw [List.length_take, List.length_drop, Array.length_toList]
  show min k (s.size - a) = k
  omega
theorem be_succ (v n : Nat) : be v (n + 1) = UInt8.ofNat (v / 256 ^ n % 256) :: be (v % 256 ^ n) n := by
  unfold be
  rw [List.range_succ_eq_map, List.map_cons, List.map_map]
  congr 1
  apply List.map_congr_left
  intro i hi
  have hi' : i < n := by simpa using hi
  simp only [Function.comp]
  rw [show n + 1 - 1 - (i + 1) = n - 1 - i by omega]
  congr 1
  have e : 256 ^ n = 256 ^ (n - 1 - i) * 256 ^ (i + 1) := by rw [← Nat.pow_add]; congr 1; omega
  rw [e, Nat.mod_mul_right_div_self]
  have e2 : (256 : Nat) ^ (i + 1) = 256 * 256 ^ i := by rw [Nat.pow_succ]; omega
  rw [e2, Nat.mod_mul_right_mod]
theorem beVal_cons (b : UInt8) (l : List UInt8) : beVal (b :: l) = b.toNat * 256 ^ l.length + beVal l := by
  have h : ∀ (l : List UInt8) (a : Nat), l.foldl (fun a b => a * 256 + b.toNat) a = a * 256 ^ l.length + beVal l := by
    intro l
    induction l with
    | nil => intro a; simp [beVal]
    | cons c r ih =>
      intro a
      simp only [List.foldl_cons, List.length_cons, beVal]
      rw [ih, ih, Nat.pow_succ]
      simp only [Nat.zero_mul, Nat.zero_add]
      rw [Nat.add_mul, Nat.mul_assoc, Nat.mul_comm 256 (256 ^ r.length), Nat.add_assoc]
  have := h l (0 * 256 + b.toNat)
  simp only [Nat.zero_mul, Nat.zero_add] at this
  simp only [beVal, List.foldl_cons, Nat.zero_mul, Nat.zero_add]
  exact this
theorem beVal_be : ∀ (n v : Nat), v < 256 ^ n → beVal (be v n) = v
  | 0, v, h => by
    have : v = 0 := by simpa using h
    subst this
    rfl
  | n + 1, v, h => by
    have hp : 0 < 256 ^ n := Nat.pow_pos (by omega)
    rw [be_succ, beVal_cons, be_length, beVal_be n _ (Nat.mod_lt _ hp)]
    have hd : v / 256 ^ n < 256 := by rw [Nat.div_lt_iff_lt_mul hp]; rw [Nat.pow_succ] at h; omega
    have e : (UInt8.ofNat (v / 256 ^ n % 256)).toNat = v / 256 ^ n := by
      rw [UInt8.toNat_ofNat']
      clear h hp
      generalize v / 256 ^ n = q at *
      omega
    rw [e, Nat.mul_comm]
    exact Nat.div_add_mod v (256 ^ n)
theorem cat_str (a b : List UInt8) : (⟨a.toArray⟩ : ByteArray) ++ (⟨b.toArray⟩ : ByteArray) = ⟨(a ++ b).toArray⟩ := by
  apply ByteArray.ext
  simp
/-- One shift of a sum. -/
def stir1 (x : Nat) : Nat := (x / 2) ^^^ (if x % 2 = 1 then 2197175160 else 0)
def stirN : Nat → Nat → Nat
  | 0, x => x
  | n + 1, x => stir1 (stirN n x)
/-- One byte more. -/
def crcB (x : Nat) (b : UInt8) : Nat := stirN 8 (x ^^^ b.toNat)
def crcX (x : Nat) (l : List UInt8) : Nat := l.foldl crcB x
/-- The sum of bytes. -/
def crc (l : List UInt8) : Nat := crcX 4294967295 l ^^^ 4294967295
theorem xor_lt32 {a b : Nat} (ha : a < 4294967296) (hb : b < 4294967296) : a ^^^ b < 4294967296 := Nat.xor_lt_two_pow (n := 32) ha hb
theorem stir1_lt {x : Nat} (h : x < 4294967296) : stir1 x < 4294967296 := by
  unfold stir1
  refine xor_lt32 (by omega) ?_
  split <;> omega
theorem stirN_lt : ∀ (n : Nat) {x : Nat}, x < 4294967296 → stirN n x < 4294967296
  | 0, _, h => h
  | n + 1, _, h => stir1_lt (stirN_lt n h)
theorem crcB_lt {x : Nat} (h : x < 4294967296) (b : UInt8) : crcB x b < 4294967296 := stirN_lt 8 (xor_lt32 h (by have := b.toNat_lt; omega))
theorem crcX_lt : ∀ (l : List UInt8) {x : Nat}, x < 4294967296 → crcX x l < 4294967296
  | [], _, h => h
  | b :: l, _, h => crcX_lt l (crcB_lt h b)
theorem crc_lt (l : List UInt8) : crc l < 4294967296 := xor_lt32 (crcX_lt l (by omega)) (by omega)
theorem crcX_snoc (x : Nat) (a : List UInt8) (b : UInt8) : crcX x (a ++ [b]) = crcB (crcX x a) b := by simp [crcX]
theorem be_beVal : ∀ (l : List UInt8), be (beVal l) l.length = l
  | [] => rfl
  | b :: l => by
    have hp : 0 < 256 ^ l.length := Nat.pow_pos (by omega)
    have hl := beVal_lt l
    have hb := b.toNat_lt
    rw [List.length_cons, be_succ, beVal_cons]
    have e1 : (b.toNat * 256 ^ l.length + beVal l) / 256 ^ l.length = b.toNat := by
      rw [Nat.mul_comm, Nat.mul_add_div hp, Nat.div_eq_of_lt hl, Nat.add_zero]
    have e2 : (b.toNat * 256 ^ l.length + beVal l) % 256 ^ l.length = beVal l := by
      rw [Nat.mul_comm, Nat.mul_add_mod, Nat.mod_eq_of_lt hl]
    rw [e1, e2, be_beVal l, Nat.mod_eq_of_lt hb]
    congr 1
    exact UInt8.ofNat_toNat
theorem be_inj {a b n : Nat} (ha : a < 256 ^ n) (hb : b < 256 ^ n) (h : be a n = be b n) : a = b := by
  rw [← beVal_be n a ha, ← beVal_be n b hb, h]
/-- A sealed text. -/
def sealF (s : List UInt8) : List UInt8 := s ++ be (crc s) 4
/-- The text of a sealed one, and 0; 5: too short; 6 stands for another sum (the number of the error is the caller's). -/
def openOk (b : List UInt8) : Prop := 4 ≤ b.length ∧ crc (b.take (b.length - 4)) = beVal (b.drop (b.length - 4))
theorem open_seal (b : List UInt8) (h : 4 ≤ b.length) : sealF (b.take (b.length - 4)) = b ↔ crc (b.take (b.length - 4)) = beVal (b.drop (b.length - 4)) := by
  have hd : (b.drop (b.length - 4)).length = 4 := by rw [List.length_drop]; omega
  unfold sealF
  constructor
  · intro e
    have e1 : b.take (b.length - 4) ++ be (crc (b.take (b.length - 4))) 4 = b.take (b.length - 4) ++ b.drop (b.length - 4) := by rw [List.take_append_drop]; exact e
    rw [← List.append_cancel_left e1, beVal_be 4 _ (crc_lt _)]
  · intro e
    rw [e]
    have := be_beVal (b.drop (b.length - 4))
    rw [hd] at this
    rw [this, List.take_append_drop]
def refCells (v n k : Nat) : List Value := (List.range n).map fun i => .int .u8 (if k ≤ i then ((v / 256 ^ (n - 1 - i) % 256 : Nat) : Int) else 0)
theorem refCells_none (v n : Nat) : refCells v n n = List.replicate n (.int .u8 0) := by
  unfold refCells
  apply List.ext_getElem
  · simp
  · intro i h1 h2
    have : ¬ n ≤ i := by simp at h1; omega
    simp [this]
theorem refCells_set (v n k : Nat) (_ : k < n) : (refCells v n (k + 1)).set k (.int .u8 ((v / 256 ^ (n - 1 - k) % 256 : Nat) : Int)) = refCells v n k := by
  unfold refCells
  apply List.ext_getElem
  · simp
  · intro i h1 h2
    simp only [List.getElem_set, List.getElem_map, List.getElem_range]
    by_cases hk : k = i
    · subst hk; simp
    · rw [if_neg hk]
      by_cases h : k + 1 ≤ i
      · rw [if_pos h, if_pos (by omega)]
      · rw [if_neg h, if_neg (by omega)]
theorem refCells_all (v n : Nat) : refCells v n 0 = Lib.byteCells (be v n) := by
  rw [← fixCells_full]
  unfold refCells fixCells
  apply List.map_congr_left
  intro i hi
  have hi' : i < n := by simpa using hi
  simp [hi']
theorem refCells_get (v n k : Nat) (h : k < n) : (refCells v n (k + 1))[k]? = some (.int .u8 0) := by
  unfold refCells
  have : ¬ k + 1 ≤ k := by omega
  simp [h, this]
set_option maxHeartbeats 2000000 in
set_option maxRecDepth 100000 in
theorem refFix_at (v n : Nat) (t : Value) (w : World) (hn0 : 1 ≤ n) (hn1 : n ≤ 8) (hv : v < 18446744073709551616) (ht : t = if v < 256 ^ n then .tuple #[.string ⟨(be v n).toArray⟩, .int .i64 0] else .tuple #[.string ⟨#[]⟩, .int .i64 1]) :
    Calls Tryz.prog 57 #[.int .u64 v, .int .i64 n] w fun e w' => e = .returned t ∧ Below w.heap.size w w' := by
  obtain ⟨i0, hi, hz0, hz1, hz2⟩ := info_parts infoByte
  have HTT := Lib.hid ht
  clear ht
  have hd1 : decide ((n : Int) < 1) = false := by simp; omega
  have hd2 : decide ((8 : Int) < (n : Int)) = false := by simp; omega
  go_enter Tryz.func57, Tryz.ntmps57
  go_wp2_with (at_make; refine wpList_make_full _ rfl _ _ 90 rfl w.heap.size 5 i0 (.int .u8 0) 1 Tryz.underlying90 hi hz0 hz1 .i64 .i64 _ _ n rfl rfl rfl rfl ?b2 ?b3 ?b4 ?_)
  case b2 => rw [hz2]; omega
  case b3 => unfold maxLen; omega
  case b4 => exact Nat.le_refl _
  intro w1 hown hgrow
  have hb1 : Below w.heap.size w w1 := (Below.refl _ _).grown hgrow (Nat.le_refl _) (fun k hk => by cases hk)
  have hown1 : w1.ownsRow w.heap.size 5 1 (.slice (some ⟨w.heap.size, 0, none⟩) n n) n (refCells v n n) := by
    rw [refCells_none, ← toList_madeCells_one]; simpa using hown
  clear hown hgrow
  go_wp2
  go_loopw [0, 7] (fun vv i wr => ∃ (k : Nat) (X : Int), k ≤ n ∧ i = .int .i64 ((k : Int) - 1) ∧ vv = .int .u64 X ∧ 0 ≤ X ∧ X ≤ 18446744073709551615 ∧ Hid (X = ((v / 256 ^ (n - k) : Nat) : Int)) ∧ wr.ownsRow w.heap.size 5 1 (.slice (some ⟨w.heap.size, 0, none⟩) n n) n (refCells v n k) ∧ Below w.heap.size w wr)
    (fun _ i _ => (intOf i + 1).toNat)
  case atStart => exact ⟨n, (v : Int), Nat.le_refl _, rfl, rfl, by omega, by omega, by simp [Hid], hown1, hb1⟩
  case round =>
    obtain ⟨k, X, hk, rfl, rfl, hX0, hX1, HX, hown, hnx⟩ := hrel
    by_cases hlt : 0 < k
    · obtain ⟨m, rfl⟩ : ∃ m, k = m + 1 := ⟨k - 1, by omega⟩
      have hcell : wr.cell? ⟨w.heap.size, m, none⟩ = some (.int .u8 0) := by rw [hown.cellAt m (by omega), refCells_get v n m (by omega)]
      have hfz : wr.frozen? ⟨w.heap.size, m, none⟩ = false := hown.frozenAt m
      have hst := Lib.hid (hown.stored m (.int .u8 ((v / 256 ^ (n - 1 - m) % 256 : Nat) : Int)))
      have HE : Hid (n - (m + 1) = n - 1 - m) := by show _ = _; omega
      have HE2 : Hid (v / 256 ^ (n - m) = v / 256 ^ (n - 1 - m) / 256) := by
        show _ = _
        rw [Nat.div_div_eq_div_mul, ← Nat.pow_succ, show (n - 1 - m).succ = n - m by omega]
      have hm1 : ((m + 1 : Nat) : Int) - 1 = (m : Int) := by omega
      rw [hm1]
      go_wp2
      go_roundw
      case rel =>
        have hXe : X = ((v / 256 ^ (n - 1 - m) : Nat) : Int) := by rw [HX.out, HE.out]
        have e1 : X % 256 = ((v / 256 ^ (n - 1 - m) % 256 : Nat) : Int) := by rw [hXe]; omega
        rw [e1]
        refine ⟨m, X / 256, by omega, rfl, rfl, by omega, by omega, ?_, ?_, hnx.grown hst.out.2 hnx.size (fun j hj => by cases hj; exact Nat.le_refl _)⟩
        · show _ = _
          rw [HE2.out, hXe]
          omega
        · rw [← refCells_set v n m (by omega)]
          exact hst.out.1
      case measure => simp [intOf]
    · obtain rfl : k = 0 := by omega
      have hXe : Hid (X = ((v / 256 ^ n : Nat) : Int)) := by have := HX.out; rw [Nat.sub_zero] at this; exact this
      clear HX
      by_cases h : v < 256 ^ n
      · have HH := Lib.hid h
        have hX : X ≤ 0 := by have := hXe.out; rw [Nat.div_eq_of_lt h] at this; omega
        rw [refCells_all] at hown
        have hcv := conv_own hown (be_length v n).symm
        clear h
        go_wp2
        go_ret2
        exact ⟨by rw [HTT.out, if_pos HH.out]; rfl, hnx⟩
      · have HH := Lib.hid h
        have hX : 0 < X := by
          have h1 : 1 ≤ v / 256 ^ n := (Nat.le_div_iff_mul_le (Nat.pow_pos (by omega))).2 (by omega)
          have := hXe.out
          omega
        clear h
        go_wp2
        go_ret2
        exact ⟨by rw [HTT.out, if_neg HH.out]; rfl, hnx⟩
theorem refFix_ok (v n : Nat) (w : World) (hn0 : 1 ≤ n) (hn1 : n ≤ 8) (hv : v < 18446744073709551616) (h : v < 256 ^ n) :
    Calls Tryz.prog 57 #[.int .u64 v, .int .i64 n] w fun e w' => e = .returned (.tuple #[.string ⟨(be v n).toArray⟩, .int .i64 0]) ∧ Below w.heap.size w w' :=
  refFix_at v n _ w hn0 hn1 hv (by rw [if_pos h])
/-- The bytes of texts, one behind the other. -/
def cat (ss : List ByteArray) : List UInt8 := (ss.map fun s => s.data.toList).flatten
theorem take_snoc (s : ByteArray) (k : Nat) (h : k < s.size) : s.data.toList.take (k + 1) = s.data.toList.take k ++ [s[k]] := by
  rw [List.take_succ_eq_append_getElem (by simpa using h)]; rfl
theorem xor_ones (x : Nat) (h : x < 4294967296) : bits .xor .u32 (x : Int) 4294967295 = ((x ^^^ 4294967295 : Nat) : Int) :=
  u32_xor_nat _ 4294967295 h (by decide)
theorem crc_start : ∃ x : Nat, x < 4294967296 ∧ Hid (crcX 4294967295 (cat []) = x) ∧ (x : Int) = 4294967295 := ⟨4294967295, by decide, rfl, rfl⟩
def texts (ss : List ByteArray) : List (List UInt8) := ss.map fun s => s.data.toList
theorem be_size (v n : Nat) : (⟨(be v n).toArray⟩ : ByteArray).size = n := by
  show (be v n).toArray.size = n
  rw [List.size_toArray, be_length]
theorem arr_eq (s : ByteArray) : s = ⟨s.data.toList.toArray⟩ := by
  rcases s with ⟨a⟩
  rfl
theorem ext_list (s : ByteArray) (a b : Nat) : (s.extract a b).data.toList = (s.data.toList.take b).drop a := by
  rw [ByteArray.data_extract, Array.toList_extract]
  simp [List.extract, List.drop_take]
theorem ext_to (s : ByteArray) (b : Nat) : (s.extract 0 b).data.toList = s.data.toList.take b := by rw [ext_list]; rfl
/-- What Open answers. -/
def openV (b : List UInt8) : Value :=
  if b.length < 4 then .tuple #[.string ⟨#[]⟩, .int .i64 5] else
  if crc (b.take (b.length - 4)) = beVal (b.drop (b.length - 4)) then .tuple #[.string ⟨(b.take (b.length - 4)).toArray⟩, .int .i64 0] else .tuple #[.string ⟨#[]⟩, .int .i64 6]
theorem reffix4_ok (v : Nat) (w : World) (hv : v < 4294967296) :
    Calls Tryz.prog 164 #[.int .u64 v, .int .i64 4] w fun e w' => e = .returned (.string ⟨(be v 4).toArray⟩) ∧ Below w.heap.size w w' := by
  go_enter Tryz.func164, Tryz.ntmps164
  go_wp2_with (go_at_call 57; refine (refFix_ok v 4 _ (by omega) (by omega) (by omega) (by omega)).mono ?_; rintro e w1 ⟨rfl, hb⟩)
  go_ret
  exact ⟨rfl, hb⟩
theorem half_odd (x : Nat) (h : x < 4294967296) (hp : x % 2 = 1) : bits .xor .u32 ((x : Int) / 2) 2197175160 = ((stir1 x : Nat) : Int) := by
  unfold stir1
  rw [if_pos hp, show ((x : Int) / 2) = ((x / 2 : Nat) : Int) by omega, show (2197175160 : Int) = ((2197175160 : Nat) : Int) from rfl, u32_xor_nat _ _ (by omega) (by omega)]
theorem half_even (x : Nat) (hp : x % 2 ≠ 1) : ((x : Int) / 2) = ((stir1 x : Nat) : Int) := by
  unfold stir1
  rw [if_neg hp, Nat.xor_zero]
  omega
set_option maxHeartbeats 1000000 in
set_option maxRecDepth 100000 in
theorem refCrc_any (s : ByteArray) (w : World) (hs : s.size ≤ 100000000) :
    Calls Tryz.prog 165 #[.string s] w fun e w' => e = .returned (.int .u32 (crc s.data.toList : Nat)) ∧ w = w' := by
  go_enter Tryz.func165, Tryz.ntmps165
  go_wp2
  go_loop [3, 4] (fun v i => ∃ (j y : Nat), j ≤ s.size ∧ i = .int .i64 j ∧ v = .int .u32 (y : Int) ∧ y < 4294967296 ∧ Hid (crcX 4294967295 (s.data.toList.take j) = y)) (fun _ i => s.size - (intOf i).toNat)
  case atStart =>
    obtain ⟨x, h1, h2, h3⟩ := crc_start
    exact ⟨0, x, Nat.zero_le _, rfl, by rw [h3], h1, h2⟩
  case round =>
    obtain ⟨j, y, hj, rfl, rfl, hY1, HY⟩ := hrel
    by_cases hjl : j < s.size
    · have HT : Hid (crcX 4294967295 (s.data.toList.take (j + 1)) = stirN 8 (y ^^^ s[j].toNat)) := by
        show _ = _
        rw [take_snoc s j hjl, crcX_snoc, HY.out]
        rfl
      have hb := s[j].toNat_lt
      have hf := u32_xor_nat y s[j].toNat hY1 (by omega)
      have hlx := xor_lt32 hY1 (show s[j].toNat < 4294967296 by omega)
      obtain ⟨z, hz⟩ : ∃ z, y ^^^ s[j].toNat = z := ⟨_, rfl⟩
      rw [hz] at HT hf hlx
      clear hz HY
      go_wp2
      go_loop [3, 5] (fun v i => ∃ (k q : Nat), k ≤ 8 ∧ i = .int .i64 k ∧ v = .int .u32 (q : Int) ∧ q < 4294967296 ∧ Hid (stirN k z = q)) (fun _ i => 8 - (intOf i).toNat)
      case atStart => exact ⟨0, z, Nat.zero_le _, rfl, rfl, hlx, rfl⟩
      case round =>
        obtain ⟨k, q, hk, rfl, rfl, hQ1, HQ⟩ := hrel
        by_cases hkl : k < 8
        · have HS : Hid (stirN (k + 1) z = stir1 q) := by show _ = _; show stir1 (stirN k z) = _; rw [HQ.out]
          have hl2 := stir1_lt hQ1
          obtain ⟨p, hp⟩ : ∃ p, stir1 q = p := ⟨_, rfl⟩
          by_cases ho : q % 2 = 1
          · have h1 := half_odd q hQ1 ho
            have h2 : ((q : Int) % 2 == 1) = true := by simp; omega
            have h3 : (q : Int) % 2 = 1 := by omega
            rw [hp] at HS hl2 h1
            clear hp HQ
            go_wp2
            go_round
            case rel => exact ⟨k + 1, p, by omega, by go_num, rfl, hl2, HS⟩
            case measure => simp [intOf]; omega
          · have h1 := half_even q ho
            have h2 : ((q : Int) % 2 == 1) = false := by simp; omega
            have h3 : (q : Int) % 2 = 0 := by omega
            rw [hp] at HS hl2 h1
            clear hp HQ
            go_wp2
            go_round
            case rel => exact ⟨k + 1, p, by omega, by go_num, rfl, hl2, HS⟩
            case measure => simp [intOf]; omega
        · have hke : k = 8 := by omega
          subst hke
          rw [HQ.out] at HT
          clear HQ
          go_wp2
          go_round
          case rel => exact ⟨j + 1, q, by omega, by go_num, rfl, hQ1, HT⟩
          case measure => simp [intOf]; omega
    · have hje : j = s.size := by omega
      have HF : Hid (bits .xor .u32 (y : Int) 4294967295 = ((crc s.data.toList : Nat) : Int)) := by
        show _ = _
        rw [xor_ones y hY1, ← HY.out, List.take_of_length_le (by rw [hje]; exact Nat.le_refl _)]
        rfl
      clear HY hje
      go_wp2
      go_ret
      exact ⟨ret_int HF.out, rfl⟩
set_option maxHeartbeats 1000000 in
set_option maxRecDepth 100000 in
theorem refSeal_any (s : ByteArray) (w : World) (h : s.size ≤ 1000000) :
    Calls Tryz.prog 55 #[.string s] w fun e w' => e = .returned (.string ⟨(sealF s.data.toList).toArray⟩) ∧ Below w.heap.size w w' := by
  have hcrc := Lib.hid (fun (w' : World) => refCrc_any s w' (by omega))
  obtain ⟨c, hc⟩ : ∃ c, c = crc s.data.toList := ⟨_, rfl⟩
  have hcl : c < 4294967296 := by rw [hc]; exact crc_lt _
  rw [← hc] at hcrc
  have hlay := Lib.hid (fun w' : World => reffix4_ok c w' hcl)
  obtain ⟨C, hC⟩ : ∃ C : ByteArray, C = ⟨(be c 4).toArray⟩ := ⟨_, rfl⟩
  have hCs : C.size = 4 := by rw [hC, be_size]
  have hCd : C.data.size = 4 := hCs
  have hsd : s.data.size ≤ 1000000 := h
  have HR : Hid (s ++ C = ⟨(sealF s.data.toList).toArray⟩) := by
    show _ = _
    rw [hC, hc]
    unfold sealF
    rw [← cat_str]
  rw [← hC] at hlay
  clear hC hc
  go_enter Tryz.func55, Tryz.ntmps55
  go_wp2_with (first | (go_at_call 165; refine (hcrc.out _).mono ?_; rintro e w1 ⟨rfl, rfl⟩) | (go_at_call 164; refine (hlay.out _).mono ?_; rintro e w2 ⟨rfl, hb2⟩))
  go_ret
  exact ⟨by rw [← HR.out]; rfl, hb2⟩
end Go.Proofs.YthaalhigmihijacGreat
