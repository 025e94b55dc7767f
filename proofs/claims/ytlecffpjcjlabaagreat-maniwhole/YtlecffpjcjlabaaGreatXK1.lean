/- Contracts of num.isWidth, num.Fix and num.Unfix, and what numbers in bytes are: for every argument within the bounds that each names. -/
import Derived.Test.YtlecffpjcjlabaaGreatRows
import Derived.WalkKit
import Derived.OwnWalk
import Derived.WalkSpells
import Derived.WalkLawsBesides
import Derived.BigCall
import Derived.Laws.IdiomStrings
import Derived.Laws.BitsAllLaws
import Derived.Lib.Slices
import Derived.Outline
import Derived.Lib.BufferRead
import Derived.Lib.Hide
namespace Go.Proofs.YtlecffpjcjlabaaGreat
open Go.RowKit

theorem infoByteS : (Tryz.prog.info? 5).map (fun i => (i.zero, i.size, i.bytes)) = some (some (.int .u8 0), 1, 1) := by kernel_rfl

theorem isWidth_yes (n : Int) (w : World) (h0 : 1 ≤ n) (h1 : n ≤ 8) :
    Calls Tryz.prog 282 #[.int .i64 n] w fun e w' => e = .returned (.bool true) ∧ w = w' := by
  go_enter Tryz.func282, Tryz.ntmps282
  go_wp2
  go_ret
  exact ⟨rfl, rfl⟩

theorem isWidth_noK (n : Int) (w : World) (h : n < 1 ∨ 8 < n) :
    Calls Tryz.prog 282 #[.int .i64 n] w fun e w' => e = .returned (.bool false) ∧ w = w' := by
  rcases h with h | h
  · go_enter Tryz.func282, Tryz.ntmps282
    go_wp2
    go_ret
    exact ⟨rfl, rfl⟩
  · have h1 : 1 ≤ n := by omega
    have hd : decide (n ≤ 8) = false := by simpa using h
    go_enter Tryz.func282, Tryz.ntmps282
    go_wp2
    go_ret
    exact ⟨rfl, rfl⟩

theorem ret_int {k : IntKind} {a b : Int} (h : a = b) : Ending.returned (.int k a) = .returned (.int k b) := by rw [h]

theorem conv_own {w : World} {B : Nat} {v : Value} {l : List UInt8} {n : Nat} (h : w.ownsRow B 5 1 v n (Lib.byteCells l)) (hn : n = l.length) :
    (convert 172 9 v).run Tryz.prog w = .ok (.string ⟨l.toArray⟩) w := by
  subst hn
  rcases h.2 with ⟨rfl, h0⟩ | ⟨g, cap, cur, rfl, -, -, -, -, -, -⟩
  · have hl : l = [] := List.eq_nil_of_length_eq_zero h0
    subst hl
    rw [Lib.run_convert_nil_bytes w 172 9 5 0 Tryz.underlying172 Tryz.underlying5 Tryz.underlying9]
  · exact run_convert_bytes_back (P := Tryz.prog) w 172 9 5 ⟨g, 0, none⟩ cap l Tryz.underlying172 Tryz.underlying5 Tryz.underlying9 (fun j hj => h.cells (g := g) rfl j _ (by simp [Lib.byteCells, hj]))

/-- A number in n bytes, the highest first. -/
def be (v n : Nat) : List UInt8 := (List.range n).map fun i => UInt8.ofNat (v / 256 ^ (n - 1 - i) % 256)

set_option maxHeartbeats 1000000 in
set_option maxRecDepth 100000 in
theorem fix_no_width (v n : Int) (w : World) (h : n < 1 ∨ 8 < n) :
    Calls Tryz.prog 269 #[.int .u64 v, .int .i64 n] w fun e w' => e = .returned (.tuple #[.string ⟨#[]⟩, .int .i64 1]) ∧ w = w' := by
  go_enter Tryz.func269, Tryz.ntmps269
  go_wp2_with (go_at_call 282; refine (isWidth_noK _ _ h).mono ?_; rintro e w' ⟨rfl, rfl⟩)
  go_ret2
  exact ⟨rfl, rfl⟩

theorem cast_shr (v k : Nat) : (v : Int) / 2 ^ k = ((v / 2 ^ k : Nat) : Int) := by simp
theorem pow_bytes (n : Nat) : 2 ^ (8 * n) = 256 ^ n := by rw [Nat.pow_mul]
theorem shr_ne (v n : Nat) (h : 256 ^ n ≤ v) : ((v : Int) / 2 ^ (8 * n) != 0) = true := by
  have : 1 ≤ v / 256 ^ n := (Nat.le_div_iff_mul_le (Nat.pow_pos (by omega))).2 (by omega)
  rw [cast_shr, pow_bytes]; simp only [bne_iff_ne, ne_eq]; omega
theorem shr_eq (v n : Nat) (h : v < 256 ^ n) : ((v : Int) / 2 ^ (8 * n) != 0) = false := by
  have : v / 256 ^ n = 0 := Nat.div_eq_of_lt h
  rw [cast_shr, pow_bytes, this]; rfl

set_option maxHeartbeats 1000000 in
set_option maxRecDepth 100000 in
theorem fix_great (v n : Nat) (w : World) (hn0 : 1 ≤ n) (hn1 : n ≤ 8) (h : 256 ^ n ≤ v) :
    Calls Tryz.prog 269 #[.int .u64 v, .int .i64 n] w fun e w' => e = .returned (.tuple #[.string ⟨#[]⟩, .int .i64 1]) ∧ w = w' := by
  have hq := shr_ne v n h
  clear h
  go_enter Tryz.func269, Tryz.ntmps269
  go_wp2_with (go_at_call 282; refine (isWidth_yes _ _ (by omega) (by omega)).mono ?_; rintro e w' ⟨rfl, rfl⟩)
  go_ret2
  exact ⟨rfl, rfl⟩

def fixCells (v n k : Nat) : List Value := (List.range n).map fun i => .int .u8 (if i < k then ((v / 256 ^ (n - 1 - i) % 256 : Nat) : Int) else 0)
theorem fixCells_zero (v n : Nat) : fixCells v n 0 = List.replicate n (.int .u8 0) := by
  unfold fixCells
  apply List.ext_getElem
  · simp
  · intro i h1 h2; simp
theorem fixCells_set (v n k : Nat) : (fixCells v n k).set k (.int .u8 ((v / 256 ^ (n - 1 - k) % 256 : Nat) : Int)) = fixCells v n (k + 1) := by
  unfold fixCells
  apply List.ext_getElem
  · simp
  · intro i h1 h2
    simp only [List.getElem_set, List.getElem_map, List.getElem_range]
    by_cases hk : k = i
    · subst hk; simp
    · rw [if_neg hk]
      by_cases h : i < k
      · rw [if_pos h, if_pos (by omega)]
      · rw [if_neg h, if_neg (by omega)]
theorem fixCells_full (v n : Nat) : fixCells v n n = Lib.byteCells (be v n) := by
  unfold fixCells be Lib.byteCells
  rw [List.map_map]
  apply List.map_congr_left
  intro i hi
  have hi' : i < n := by simpa using hi
  simp [hi']
theorem fixCells_get (v n k : Nat) (h : k < n) : (fixCells v n k)[k]? = some (.int .u8 0) := by
  unfold fixCells; simp [h]
theorem be_length (v n : Nat) : (be v n).length = n := by simp [be]
theorem byte_form (v m : Nat) : (v : Int) / 2 ^ (8 * m) % 256 = ((v / 256 ^ m % 256 : Nat) : Int) := by
  rw [cast_shr, pow_bytes]; omega

set_option maxHeartbeats 1000000 in
set_option maxRecDepth 100000 in
theorem fix_ok (v n : Nat) (w : World) (hn0 : 1 ≤ n) (hn1 : n ≤ 8) (h : v < 256 ^ n) :
    Calls Tryz.prog 269 #[.int .u64 v, .int .i64 n] w fun e w' => e = .returned (.tuple #[.string ⟨(be v n).toArray⟩, .int .i64 0]) ∧ Below w.heap.size w w' := by
  obtain ⟨i0, hi, hz0, hz1, hz2⟩ := info_parts infoByteS
  have hq := shr_eq v n h
  clear h
  go_enter Tryz.func269, Tryz.ntmps269
  go_wp2_with (first | (go_at_call 282; refine (isWidth_yes _ _ (by omega) (by omega)).mono ?_; rintro e w' ⟨rfl, rfl⟩) | (at_make; refine wpList_make_full _ rfl _ _ 172 rfl w.heap.size 5 i0 (.int .u8 0) 1 Tryz.underlying172 hi hz0 hz1 .i64 .i64 _ _ n rfl rfl rfl rfl ?b2 ?b3 ?b4 ?_))
  case b2 => rw [hz2]; omega
  case b3 => unfold maxLen; omega
  case b4 => exact Nat.le_refl _
  intro w1 hown hgrow
  have hb1 : Below w.heap.size w w1 := (Below.refl _ _).grown hgrow (Nat.le_refl _) (fun k hk => by cases hk)
  have hown1 : w1.ownsRow w.heap.size 5 1 (.slice (some ⟨w.heap.size, 0, none⟩) n n) n (fixCells v n 0) := by
    rw [fixCells_zero, ← toList_madeCells_one]; simpa using hown
  clear hown hgrow
  go_wp2
  go_loopw [21] (fun i wr => ∃ k : Nat, k ≤ n ∧ i = .int .i64 k ∧ wr.ownsRow w.heap.size 5 1 (.slice (some ⟨w.heap.size, 0, none⟩) n n) n (fixCells v n k) ∧ Below w.heap.size w wr)
    (fun i _ => n - (intOf i).toNat)
  case atStart => exact ⟨0, Nat.zero_le _, rfl, hown1, hb1⟩
  case round =>
    obtain ⟨k, hk, rfl, hown, hnx⟩ := hrel
    by_cases hlt : k < n
    · have hcell : wr.cell? ⟨w.heap.size, k, none⟩ = some (.int .u8 0) := by rw [hown.cellAt k (by omega), fixCells_get v n k hlt]
      have hfz : wr.frozen? ⟨w.heap.size, k, none⟩ = false := hown.frozenAt k
      have hst := Lib.hid (hown.stored k (.int .u8 ((v / 256 ^ (n - 1 - k) % 256 : Nat) : Int)))
      have hbf := Lib.hid (byte_form v (n - 1 - k))
      go_wp2
      go_roundw
      case rel =>
        rw [hbf.out]
        refine ⟨k + 1, by omega, by go_num, ?_, hnx.grown hst.out.2 hnx.size (fun j hj => by cases hj; exact Nat.le_refl _)⟩
        rw [← fixCells_set]
        exact hst.out.1
      case measure => simp [intOf]; omega
    · have hke : k = n := by omega
      subst hke
      rw [fixCells_full] at hown
      have hcv := conv_own hown (be_length v k).symm
      go_wp2
      go_ret2
      exact ⟨rfl, hnx⟩

/-- The number of bytes, the highest first. -/
def beVal (l : List UInt8) : Nat := l.foldl (fun a b => a * 256 + b.toNat) 0
theorem beVal_snoc (l : List UInt8) (b : UInt8) : beVal (l ++ [b]) = beVal l * 256 + b.toNat := by simp [beVal, List.foldl_append]
theorem beVal_from : ∀ (l : List UInt8) (a : Nat), l.foldl (fun a b => a * 256 + b.toNat) a < (a + 1) * 256 ^ l.length
  | [], a => by simp
  | b :: r, a => by
    have hb := b.toNat_lt
    have h := beVal_from r (a * 256 + b.toNat)
    simp only [List.foldl_cons, List.length_cons]
    refine Nat.lt_of_lt_of_le h ?_
    rw [Nat.pow_succ, Nat.mul_comm (256 ^ r.length) 256, ← Nat.mul_assoc]
    exact Nat.mul_le_mul_right _ (by omega)
theorem beVal_lt (l : List UInt8) : beVal l < 256 ^ l.length := by simpa [beVal] using beVal_from l 0
theorem pow256_mono {k n : Nat} (h : k ≤ n) : 256 ^ k ≤ 256 ^ n := Nat.pow_le_pow_right (by omega) h

theorem or_byte (X : Int) (b : UInt8) (h0 : 0 ≤ X) (h1 : X < 72057594037927936) : bits .or .u64 (X * 256) (IntKind.u64.wrap (b.toNat : Int)) = X * 256 + b.toNat := by
  have hb := b.toNat_lt
  have e : IntKind.u64.wrap (b.toNat : Int) = (b.toNat : Int) := by rw [IntKind.wrap_u64]; omega
  rw [e, u64_or _ _ (by omega) (by omega) (by omega) (by omega), nat_join 8 _ _ (by omega) (by omega)]
  omega

def piece (s : ByteArray) (at_ k : Nat) : List UInt8 := (s.data.toList.drop at_).take k
theorem piece_snoc (s : ByteArray) (a k : Nat) (h : a + k < s.size) : piece s a (k + 1) = piece s a k ++ [s[a + k]] := by
  unfold piece
  have h1 : k < (s.data.toList.drop a).length := by rw [List.length_drop, Array.length_toList]; show k < s.size - a; omega
  rw [List.take_succ_eq_append_getElem h1]
  congr 2
  simp only [List.getElem_drop, Array.getElem_toList]
  rfl
theorem piece_length (s : ByteArray) (a k : Nat) (h : a + k ≤ s.size) : (piece s a k).length = k := by
  unfold piece
  rw [List.length_take, List.length_drop, Array.length_toList]
  show min k (s.size - a) = k
  omega

set_option maxHeartbeats 1000000 in
set_option maxRecDepth 100000 in
theorem unfix_argK (s : ByteArray) (a n : Int) (w : World) (h : n < 1 ∨ 8 < n ∨ a < 0) :
    Calls Tryz.prog 301 #[.string s, .int .i64 a, .int .i64 n] w fun e w' => e = .returned (.tuple #[.int .u64 0, .int .i64 1]) ∧ w = w' := by
  by_cases hn : n < 1 ∨ 8 < n
  · clear h
    go_enter Tryz.func301, Tryz.ntmps301
    go_wp2_with (go_at_call 282; refine (isWidth_noK _ _ hn).mono ?_; rintro e w' ⟨rfl, rfl⟩)
    go_ret2
    exact ⟨rfl, rfl⟩
  · have ha : a < 0 := by omega
    have h1 : 1 ≤ n := by omega
    have h2 : n ≤ 8 := by omega
    clear h hn
    go_enter Tryz.func301, Tryz.ntmps301
    go_wp2_with (go_at_call 282; refine (isWidth_yes _ _ h1 h2).mono ?_; rintro e w' ⟨rfl, rfl⟩)
    go_ret2
    exact ⟨rfl, rfl⟩

set_option maxHeartbeats 1000000 in
set_option maxRecDepth 100000 in
theorem unfix_shortK (s : ByteArray) (a n : Int) (w : World) (_hs : s.size ≤ 9223372036854775807) (h1 : 1 ≤ n) (h2 : n ≤ 8) (ha : 0 ≤ a) (h : (s.size : Int) < a + n) :
    Calls Tryz.prog 301 #[.string s, .int .i64 a, .int .i64 n] w fun e w' => e = .returned (.tuple #[.int .u64 0, .int .i64 5]) ∧ w = w' := by
  by_cases hlt : (s.size : Int) < a
  · go_enter Tryz.func301, Tryz.ntmps301
    go_wp2_with (go_at_call 282; refine (isWidth_yes _ _ h1 h2).mono ?_; rintro e w' ⟨rfl, rfl⟩)
    go_ret2
    exact ⟨rfl, rfl⟩
  · have hd : decide ((s.size : Int) < a) = false := by simpa using hlt
    have hf : (s.size : Int) - a < n := by omega
    go_enter Tryz.func301, Tryz.ntmps301
    go_wp2_with (go_at_call 282; refine (isWidth_yes _ _ h1 h2).mono ?_; rintro e w' ⟨rfl, rfl⟩)
    go_ret2
    exact ⟨rfl, rfl⟩

set_option maxHeartbeats 1000000 in
set_option maxRecDepth 100000 in
theorem unfix_ok (s : ByteArray) (a n : Nat) (w : World) (_hs : s.size ≤ 9223372036854775807) (h1 : 1 ≤ n) (h2 : n ≤ 8) (h : a + n ≤ s.size) :
    Calls Tryz.prog 301 #[.string s, .int .i64 a, .int .i64 n] w fun e w' => e = .returned (.tuple #[.int .u64 (beVal (piece s a n) : Nat), .int .i64 0]) ∧ w = w' := by
  have ha1 : (a : Int) ≤ (s.size : Int) := by omega
  have ha2 : (n : Int) ≤ (s.size : Int) - (a : Int) := by omega
  have hd1 : decide (s.size < a) = false := by simp; omega
  have hd2 : decide ((a : Int) < 0) = false := by simp
  have hd3 : decide ((s.size : Int) - (a : Int) < (n : Int)) = false := by simp; omega
  go_enter Tryz.func301, Tryz.ntmps301
  go_wp2_with (go_at_call 282; refine (isWidth_yes _ _ (by omega) (by omega)).mono ?_; rintro e w' ⟨rfl, rfl⟩)
  go_loop [8, 30] (fun v i => ∃ (k : Nat) (X : Int), k ≤ n ∧ i = .int .i64 k ∧ v = .int .u64 X ∧ Hid (X = (beVal (piece s a k) : Nat))) (fun _ i => n - (intOf i).toNat)
  case atStart => exact ⟨0, 0, Nat.zero_le _, rfl, rfl, rfl⟩
  case round =>
    obtain ⟨k, X, hk, rfl, rfl, HX⟩ := hrel
    by_cases hlt : k < n
    · have hkk : a + k < s.size := by omega
      have hb0 : 0 ≤ X := by have := HX.out; omega
      have hb : X < 72057594037927936 := by
        have hl := beVal_lt (piece s a k)
        rw [piece_length s a k (by omega)] at hl
        have hm : 256 ^ k ≤ 256 ^ 7 := pow256_mono (by omega)
        have := HX.out
        omega
      have HP := Lib.hid (piece_snoc s a k hkk)
      go_wp2
      go_round
      case rel =>
        refine ⟨k + 1, _, by omega, by go_num, rfl, ?_⟩
        show _ = _
        rw [or_byte X _ hb0 hb, HP.out, beVal_snoc, HX.out]
        omega
      case measure => simp [intOf]; omega
    · have hke : k = n := by omega
      subst hke
      have hX : X = ((beVal (piece s a k) : Nat) : Int) := HX.out
      go_wp2
      go_ret2
      exact ⟨rfl, rfl⟩

theorem be_succ (v n : Nat) : be v (n + 1) = UInt8.ofNat (v / 256 ^ n % 256) :: be (v % 256 ^ n) n := by
  unfold be
  rw [List.range_succ_eq_map, List.map_cons, List.map_map]
  congr 1
  apply List.map_congr_left
  intro i hi
  have hi' : i < n := by simpa using hi
  simp only [Function.comp]
  rw [show n + 1 - 1 - (i + 1) = n - 1 - i by omega]
  congr 1
  have e : 256 ^ n = 256 ^ (n - 1 - i) * 256 ^ (i + 1) := by rw [← Nat.pow_add]; congr 1; omega
  rw [e, Nat.mod_mul_right_div_self]
  have e2 : (256 : Nat) ^ (i + 1) = 256 * 256 ^ i := by rw [Nat.pow_succ]; omega
  rw [e2, Nat.mod_mul_right_mod]
theorem beVal_cons (b : UInt8) (l : List UInt8) : beVal (b :: l) = b.toNat * 256 ^ l.length + beVal l := by
  have h : ∀ (l : List UInt8) (a : Nat), l.foldl (fun a b => a * 256 + b.toNat) a = a * 256 ^ l.length + beVal l := by
    intro l
    induction l with
    | nil => intro a; simp [beVal]
    | cons c r ih =>
      intro a
      simp only [List.foldl_cons, List.length_cons, beVal]
      rw [ih, ih, Nat.pow_succ]
      simp only [Nat.zero_mul, Nat.zero_add]
      rw [Nat.add_mul, Nat.mul_assoc, Nat.mul_comm 256 (256 ^ r.length), Nat.add_assoc]
  have := h l (0 * 256 + b.toNat)
  simp only [Nat.zero_mul, Nat.zero_add] at this
  simp only [beVal, List.foldl_cons, Nat.zero_mul, Nat.zero_add]
  exact this
theorem beVal_be : ∀ (n v : Nat), v < 256 ^ n → beVal (be v n) = v
  | 0, v, h => by
    have : v = 0 := by simpa using h
    subst this
    rfl
  | n + 1, v, h => by
    have hp : 0 < 256 ^ n := Nat.pow_pos (by omega)
    rw [be_succ, beVal_cons, be_length, beVal_be n _ (Nat.mod_lt _ hp)]
    have hd : v / 256 ^ n < 256 := by rw [Nat.div_lt_iff_lt_mul hp]; rw [Nat.pow_succ] at h; omega
    have e : (UInt8.ofNat (v / 256 ^ n % 256)).toNat = v / 256 ^ n := by
      rw [UInt8.toNat_ofNat']
      clear h hp
      generalize v / 256 ^ n = q at *
      omega
    rw [e, Nat.mul_comm]
    exact Nat.div_add_mod v (256 ^ n)

theorem be_less : ∀ (n a b : Nat), a < 256 ^ n → b < 256 ^ n → Op.bytesLess (be a n) (be b n) = decide (a < b)
  | 0, a, b, ha, hb => by
    have h1 : a = 0 := by simpa using ha
    have h2 : b = 0 := by simpa using hb
    subst h1 h2
    rfl
  | n + 1, a, b, ha, hb => by
    have hp : 0 < 256 ^ n := Nat.pow_pos (by omega)
    have hda : a / 256 ^ n < 256 := by rw [Nat.div_lt_iff_lt_mul hp]; rw [Nat.pow_succ] at ha; omega
    have hdb : b / 256 ^ n < 256 := by rw [Nat.div_lt_iff_lt_mul hp]; rw [Nat.pow_succ] at hb; omega
    have ih := be_less n (a % 256 ^ n) (b % 256 ^ n) (Nat.mod_lt _ hp) (Nat.mod_lt _ hp)
    have ea := Nat.div_add_mod a (256 ^ n)
    have eb := Nat.div_add_mod b (256 ^ n)
    have ma := Nat.mod_lt a hp
    have mb := Nat.mod_lt b hp
    rw [be_succ, be_succ, Op.bytesLess, ih]
    clear ih ha hb
    generalize 256 ^ n = P at *
    generalize a / P = qa at *
    generalize b / P = qb at *
    have la : (UInt8.ofNat (qa % 256)).toNat = qa := by rw [UInt8.toNat_ofNat']; omega
    have lb : (UInt8.ofNat (qb % 256)).toNat = qb := by rw [UInt8.toNat_ofNat']; omega
    rcases Nat.lt_trichotomy qa qb with h | h | h
    · have h1 : UInt8.ofNat (qa % 256) < UInt8.ofNat (qb % 256) := by rw [UInt8.lt_iff_toNat_lt, la, lb]; exact h
      have h2 : P * (qa + 1) ≤ P * qb := Nat.mul_le_mul_left P h
      rw [Nat.mul_add] at h2
      have h3 : a < b := by omega
      simp [h1, h3]
    · subst h
      have h1 : ¬ UInt8.ofNat (qa % 256) < UInt8.ofNat (qa % 256) := by rw [UInt8.lt_iff_toNat_lt]; omega
      have h3 : (a % P < b % P) ↔ a < b := by omega
      simp [h1, h3]
    · have h1 : ¬ UInt8.ofNat (qa % 256) < UInt8.ofNat (qb % 256) := by rw [UInt8.lt_iff_toNat_lt, la, lb]; omega
      have h2 : P * (qb + 1) ≤ P * qa := Nat.mul_le_mul_left P h
      rw [Nat.mul_add] at h2
      have h3 : ¬ a < b := by omega
      have h4 : (UInt8.ofNat (qa % 256) == UInt8.ofNat (qb % 256)) = false := by
        rw [beq_eq_false_iff_ne]
        intro e
        have := congrArg UInt8.toNat e
        rw [la, lb] at this
        omega
      rw [h4]
      simp [h1, h3]
theorem cat_str (a b : List UInt8) : (⟨a.toArray⟩ : ByteArray) ++ (⟨b.toArray⟩ : ByteArray) = ⟨(a ++ b).toArray⟩ := by
  apply ByteArray.ext
  simp

theorem ret_bool' {a b : Bool} (h : a = b) : Ending.returned (.bool a) = .returned (.bool b) := by rw [h]
end Go.Proofs.YtlecffpjcjlabaaGreat
