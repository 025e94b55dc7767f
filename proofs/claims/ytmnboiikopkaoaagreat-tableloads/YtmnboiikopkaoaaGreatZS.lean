/- The program: sum.Seal and Open. -/
import Derived.Test.YtmnboiikopkaoaaGreatBR2
import Derived.Test.YtmnboiikopkaoaaGreatShelf
import Derived.Test.YtmnboiikopkaoaaGreatRows
import Derived.WalkKit
import Derived.OwnWalk
import Derived.WalkSpells
import Derived.WalkLawsBesides
import Derived.BigCall
import Derived.Laws.IdiomStrings
import Derived.Laws.BitsAllLaws
import Derived.Lib.Slices
import Derived.Outline
import Derived.Lib.BufferRead
import Derived.Lib.Hide
import Derived.ProofKit
import Derived.SliceStrings
import Derived.OpenShut
import Derived.Deep.RegionWith
import Derived.Deep.Draws
import Derived.BigQuiet
import Derived.Deep.QuietTactic
namespace Go.Proofs.YtmnboiikopkaoaaGreat
open Go.RowKit
open Go.RowKit Go.ChangeShapes Go.WideShapes Go.ChangeAt

theorem infoByteS : (Tryz.prog.info? 5).map (fun i => (i.zero, i.size, i.bytes)) = some (some (.int .u8 0), 1, 1) := by kernel_rfl
theorem isWidth_yes (n : Int) (w : World) (h0 : 1 ≤ n) (h1 : n ≤ 8) :
    Calls Tryz.prog 134 #[.int .i64 n] w fun e w' => e = .returned (.bool true) ∧ w = w' := by
  go_enter Tryz.func134, Tryz.ntmps134
  go_wp2
  go_ret
  exact ⟨rfl, rfl⟩
theorem cast_shr (v k : Nat) : (v : Int) / 2 ^ k = ((v / 2 ^ k : Nat) : Int) := by simp
theorem pow_bytes (n : Nat) : 2 ^ (8 * n) = 256 ^ n := by rw [Nat.pow_mul]
theorem shr_eq (v n : Nat) (h : v < 256 ^ n) : ((v : Int) / 2 ^ (8 * n) != 0) = false := by
  have : v / 256 ^ n = 0 := Nat.div_eq_of_lt h
  rw [cast_shr, pow_bytes, this]; rfl
theorem fixCells_zero (v n : Nat) : fixCells v n 0 = List.replicate n (.int .u8 0) := by
  unfold fixCells
  apply List.ext_getElem
  · simp
  · intro i h1 h2; simp
theorem fixCells_set (v n k : Nat) : (fixCells v n k).set k (.int .u8 ((v / 256 ^ (n - 1 - k) % 256 : Nat) : Int)) = fixCells v n (k + 1) := by
  unfold fixCells
  apply List.ext_getElem
  · simp
  · intro i h1 h2
    simp only [List.getElem_set, List.getElem_map, List.getElem_range]
    by_cases hk : k = i
    · subst hk; simp
    · rw [if_neg hk]
      by_cases h : i < k
      · rw [if_pos h, if_pos (by omega)]
      · rw [if_neg h, if_neg (by omega)]
theorem fixCells_get (v n k : Nat) (h : k < n) : (fixCells v n k)[k]? = some (.int .u8 0) := by
  unfold fixCells; simp [h]
theorem byte_form (v m : Nat) : (v : Int) / 2 ^ (8 * m) % 256 = ((v / 256 ^ m % 256 : Nat) : Int) := by
  rw [cast_shr, pow_bytes]; omega
set_option maxHeartbeats 1000000 in
set_option maxRecDepth 100000 in
theorem fix_ok (v n : Nat) (w : World) (hn0 : 1 ≤ n) (hn1 : n ≤ 8) (h : v < 256 ^ n) :
    Calls Tryz.prog 117 #[.int .u64 v, .int .i64 n] w fun e w' => e = .returned (.tuple #[.string ⟨(be v n).toArray⟩, .int .i64 0]) ∧ Below w.heap.size w w' := by
  obtain ⟨i0, hi, hz0, hz1, hz2⟩ := info_parts infoByteS
  have hq := shr_eq v n h
  clear h
  go_enter Tryz.func117, Tryz.ntmps117
  go_wp2_with (first | (go_at_call 134; refine (isWidth_yes _ _ (by omega) (by omega)).mono ?_; rintro e w' ⟨rfl, rfl⟩) | (at_make; refine wpList_make_full _ rfl _ _ 78 rfl w.heap.size 5 i0 (.int .u8 0) 1 Tryz.underlying78 hi hz0 hz1 .i64 .i64 _ _ n rfl rfl rfl rfl ?b2 ?b3 ?b4 ?_))
  case b2 => rw [hz2]; omega
  case b3 => unfold maxLen; omega
  case b4 => exact Nat.le_refl _
  intro w1 hown hgrow
  have hb1 : Below w.heap.size w w1 := (Below.refl _ _).grown hgrow (Nat.le_refl _) (fun k hk => by cases hk)
  have hown1 : w1.ownsRow w.heap.size 5 1 (.slice (some ⟨w.heap.size, 0, none⟩) n n) n (fixCells v n 0) := by
    rw [fixCells_zero, ← toList_madeCells_one]; simpa using hown
  clear hown hgrow
  go_wp2
  go_loopw [21] (fun i wr => ∃ k : Nat, k ≤ n ∧ i = .int .i64 k ∧ wr.ownsRow w.heap.size 5 1 (.slice (some ⟨w.heap.size, 0, none⟩) n n) n (fixCells v n k) ∧ Below w.heap.size w wr)
    (fun i _ => n - (intOf i).toNat)
  case atStart => exact ⟨0, Nat.zero_le _, rfl, hown1, hb1⟩
  case round =>
    obtain ⟨k, hk, rfl, hown, hnx⟩ := hrel
    by_cases hlt : k < n
    · have hcell : wr.cell? ⟨w.heap.size, k, none⟩ = some (.int .u8 0) := by rw [hown.cellAt k (by omega), fixCells_get v n k hlt]
      have hfz : wr.frozen? ⟨w.heap.size, k, none⟩ = false := hown.frozenAt k
      have hst := Lib.hid (hown.stored k (.int .u8 ((v / 256 ^ (n - 1 - k) % 256 : Nat) : Int)))
      have hbf := Lib.hid (byte_form v (n - 1 - k))
      go_wp2
      go_roundw
      case rel =>
        rw [hbf.out]
        refine ⟨k + 1, by omega, by go_num, ?_, hnx.grown hst.out.2 hnx.size (fun j hj => by cases hj; exact Nat.le_refl _)⟩
        rw [← fixCells_set]
        exact hst.out.1
      case measure => simp [intOf]; omega
    · have hke : k = n := by omega
      subst hke
      rw [fixCells_full] at hown
      have hcv := conv_own hown (be_length v k).symm
      go_wp2
      go_ret2
      exact ⟨rfl, hnx⟩
theorem or_byte (X : Int) (b : UInt8) (h0 : 0 ≤ X) (h1 : X < 72057594037927936) : bits .or .u64 (X * 256) (IntKind.u64.wrap (b.toNat : Int)) = X * 256 + b.toNat := by
  have hb := b.toNat_lt
  have e : IntKind.u64.wrap (b.toNat : Int) = (b.toNat : Int) := by rw [IntKind.wrap_u64]; omega
  rw [e, u64_or _ _ (by omega) (by omega) (by omega) (by omega), nat_join 8 _ _ (by omega) (by omega)]
  omega
set_option maxHeartbeats 1000000 in
set_option maxRecDepth 100000 in
theorem unfix_ok (s : ByteArray) (a n : Nat) (w : World) (_hs : s.size ≤ 9223372036854775807) (h1 : 1 ≤ n) (h2 : n ≤ 8) (h : a + n ≤ s.size) :
    Calls Tryz.prog 119 #[.string s, .int .i64 a, .int .i64 n] w fun e w' => e = .returned (.tuple #[.int .u64 (beVal (piece s a n) : Nat), .int .i64 0]) ∧ w = w' := by
  have ha1 : (a : Int) ≤ (s.size : Int) := by omega
  have ha2 : (n : Int) ≤ (s.size : Int) - (a : Int) := by omega
  have hd1 : decide (s.size < a) = false := by simp; omega
  have hd2 : decide ((a : Int) < 0) = false := by simp
  have hd3 : decide ((s.size : Int) - (a : Int) < (n : Int)) = false := by simp; omega
  go_enter Tryz.func119, Tryz.ntmps119
  go_wp2_with (go_at_call 134; refine (isWidth_yes _ _ (by omega) (by omega)).mono ?_; rintro e w' ⟨rfl, rfl⟩)
  go_loop [8, 30] (fun v i => ∃ (k : Nat) (X : Int), k ≤ n ∧ i = .int .i64 k ∧ v = .int .u64 X ∧ Hid (X = (beVal (piece s a k) : Nat))) (fun _ i => n - (intOf i).toNat)
  case atStart => exact ⟨0, 0, Nat.zero_le _, rfl, rfl, rfl⟩
  case round =>
    obtain ⟨k, X, hk, rfl, rfl, HX⟩ := hrel
    by_cases hlt : k < n
    · have hkk : a + k < s.size := by omega
      have hb0 : 0 ≤ X := by have := HX.out; omega
      have hb : X < 72057594037927936 := by
        have hl := beVal_lt (piece s a k)
        rw [piece_length s a k (by omega)] at hl
        have hm : 256 ^ k ≤ 256 ^ 7 := pow256_mono (by omega)
        have := HX.out
        omega
      have HP := Lib.hid (piece_snoc s a k hkk)
      go_wp2
      go_round
      case rel =>
        refine ⟨k + 1, _, by omega, by go_num, rfl, ?_⟩
        show _ = _
        rw [or_byte X _ hb0 hb, HP.out, beVal_snoc, HX.out]
        omega
      case measure => simp [intOf]; omega
    · have hke : k = n := by omega
      subst hke
      have hX : X = ((beVal (piece s a k) : Nat) : Int) := HX.out
      go_wp2
      go_ret2
      exact ⟨rfl, rfl⟩
theorem crcX_append (x : Nat) (a b : List UInt8) : crcX x (a ++ b) = crcX (crcX x a) b := by simp [crcX]
theorem stir_form (X : Int) (x : Nat) (hx : X = x) (h : x < 4294967296) : bits .xor .u32 (X / 2) (bits .and .u32 2197175160 (-(bits .and .u32 X 1) % 4294967296)) = ((stir1 x : Nat) : Int) := by
  subst hx
  have e1 : bits .and .u32 (x : Int) 1 = ((x % 2 : Nat) : Int) := by
    rw [show (1 : Int) = ((1 : Nat) : Int) from rfl, u32_and_nat _ _ h (by omega), Nat.and_one_is_mod]
  rw [e1]
  unfold stir1
  have e2 : ((x : Int) / 2) = ((x / 2 : Nat) : Int) := by omega
  rw [e2]
  by_cases hp : x % 2 = 1
  · rw [hp, if_pos rfl]
    have e3 : (-((1 : Nat) : Int)) % 4294967296 = ((4294967295 : Nat) : Int) := by omega
    rw [e3, show (2197175160 : Int) = ((2197175160 : Nat) : Int) from rfl, u32_and_nat _ _ (by omega) (by omega), show (2197175160 &&& 4294967295 : Nat) = 2197175160 by decide, u32_xor_nat _ _ (by omega) (by omega)]
  · have h0 : x % 2 = 0 := by omega
    rw [h0, if_neg (by omega)]
    have e3 : (-((0 : Nat) : Int)) % 4294967296 = ((0 : Nat) : Int) := by omega
    rw [e3, show (2197175160 : Int) = ((2197175160 : Nat) : Int) from rfl, u32_and_nat _ _ (by omega) (by omega), show (2197175160 &&& 0 : Nat) = 0 by decide, u32_xor_nat _ _ (by omega) (by omega)]
set_option maxHeartbeats 1000000 in
set_option maxRecDepth 100000 in
theorem stir_any (X : Int) (x : Nat) (w : World) (hx : Hid (X = x)) (h : x < 4294967296) :
    Calls Tryz.prog 118 #[.int .u32 X] w fun e w' => e = .returned (.int .u32 (stirN 8 x : Nat)) ∧ w = w' := by
  go_enter Tryz.func118, Tryz.ntmps118
  go_wp2
  go_loop [0, 3] (fun v i => ∃ (k : Nat) (Y : Int), k ≤ 8 ∧ i = .int .i64 k ∧ v = .int .u32 Y ∧ 0 ≤ Y ∧ Y < 4294967296 ∧ Hid (Y = (stirN k x : Nat))) (fun _ i => 8 - (intOf i).toNat)
  case atStart => exact ⟨0, X, Nat.zero_le _, rfl, rfl, by have := hx.out; omega, by have := hx.out; omega, hx⟩
  case round =>
    obtain ⟨k, Y, hk, rfl, rfl, hY0, hY1, HY⟩ := hrel
    by_cases hlt : k < 8
    · have hl := stirN_lt k h
      have hl2 := stirN_lt (k + 1) h
      have HF := Lib.hid (stir_form Y _ HY.out hl)
      go_wp2
      go_round
      case rel =>
        refine ⟨k + 1, _, by omega, by go_num, rfl, ?_, ?_, ?_⟩
        · rw [HF.out]; omega
        · rw [HF.out]; show ((stirN (k + 1) x : Nat) : Int) < _; omega
        · show _ = _
          rw [HF.out]
          rfl
      case measure => simp [intOf]; omega
    · have hke : k = 8 := by omega
      subst hke
      go_wp2
      go_ret
      exact ⟨ret_int HY.out, rfl⟩
theorem cat_snoc (ss : List ByteArray) (s : ByteArray) : cat (ss ++ [s]) = cat ss ++ s.data.toList := by simp [cat]
theorem xor_form (x : Nat) (b : UInt8) (h : x < 4294967296) : bits .xor .u32 (x : Int) ((b.toNat : Int) % 4294967296) = ((x ^^^ b.toNat : Nat) : Int) := by
  have := b.toNat_lt
  rw [Int.emod_eq_of_lt (by omega) (by omega)]
  exact u32_xor_nat _ _ h (by omega)
set_option maxHeartbeats 600000 in
set_option maxRecDepth 100000 in
theorem crc_rows (b off cap : Nat) (ss : List ByteArray) (w : World) (hn : ss.length ≤ 1000000) (hss : ∀ s ∈ ss, s.size ≤ maxLen)
    (hc : ∀ i (h : i < ss.length), w.cell? ⟨b, off + i, none⟩ = some (.string ss[i])) :
    Calls Tryz.prog 81 #[.slice (some ⟨b, off, none⟩) ss.length cap] w fun e w' => e = .returned (.int .u32 (crc (cat ss) : Nat)) ∧ w = w' := by
  have HC := Lib.hid hc
  clear hc
  go_enter Tryz.func81, Tryz.ntmps81
  go_wp2
  go_loop [3, 9] (fun v i => ∃ (k x : Nat), k ≤ ss.length ∧ i = .int .i64 k ∧ v = .int .u32 (x : Int) ∧ x < 4294967296 ∧ Hid (crcX 4294967295 (cat (ss.take k)) = x)) (fun _ i => ss.length - (intOf i).toNat)
  case atStart =>
    obtain ⟨x, h1, h2, h3⟩ := crc_start
    exact ⟨0, x, Nat.zero_le _, rfl, by rw [h3], h1, h2⟩
  case round =>
    obtain ⟨k, x, hk, rfl, rfl, hX1, HX⟩ := hrel
    by_cases hlt : k < ss.length
    · have hcx := HC.out k hlt
      have hsz : ss[k].size ≤ maxLen := hss _ (List.getElem_mem hlt)
      unfold maxLen at hsz
      have HSN : Hid (cat (ss.take (k + 1)) = cat (ss.take k) ++ ss[k].data.toList) := by
        show _ = _
        rw [List.take_succ_eq_append_getElem hlt, cat_snoc]
      generalize ss[k] = s at hcx hsz HSN
      go_wp2
      go_loop [3, 15] (fun v i => ∃ (j y : Nat), j ≤ s.size ∧ i = .int .i64 j ∧ v = .int .u32 (y : Int) ∧ y < 4294967296 ∧ Hid (crcX x (s.data.toList.take j) = y)) (fun _ i => s.size - (intOf i).toNat)
      case atStart => exact ⟨0, x, Nat.zero_le _, rfl, rfl, hX1, rfl⟩
      case round =>
        obtain ⟨j, y, hj, rfl, rfl, hY1, HY⟩ := hrel
        by_cases hjl : j < s.size
        · have HT : Hid (crcX x (s.data.toList.take (j + 1)) = stirN 8 (y ^^^ s[j].toNat)) := by
            show _ = _
            rw [take_snoc s j hjl, crcX_snoc, HY.out]
            rfl
          have HF := Lib.hid (xor_form y s[j] hY1)
          have hb := s[j].toNat_lt
          have hlx := xor_lt32 hY1 (show s[j].toNat < 4294967296 by omega)
          have hl2 := stirN_lt 8 hlx
          obtain ⟨z, hz⟩ : ∃ z, stirN 8 (y ^^^ s[j].toNat) = z := ⟨_, rfl⟩
          have HZ := Lib.hid hz
          clear hz
          rw [HZ.out] at hl2 HT
          have hst := Lib.hid (fun w' : World => stir_any _ _ w' HF hlx)
          rw [HZ.out] at hst
          clear hlx HF HZ hb
          go_wp2_with (go_at_call 118; refine (hst.out _).mono ?_; rintro e w' ⟨rfl, rfl⟩)
          go_round
          case rel => exact ⟨j + 1, z, by omega, by go_num, rfl, hl2, HT⟩
          case measure => simp [intOf]; omega
        · have hje : j = s.size := by omega
          have HY2 : Hid (crcX 4294967295 (cat (ss.take (k + 1))) = y) := by
            show _ = _
            rw [HSN.out, crcX_append, HX.out, ← HY.out, List.take_of_length_le (by rw [hje]; exact Nat.le_refl _)]
          clear hje HX HY
          go_wp2
          go_round
          case rel => exact ⟨k + 1, y, by omega, by go_num, rfl, hY1, HY2⟩
          case measure => simp [intOf]; omega
    · have hke : k = ss.length := by omega
      have HF : Hid (bits .xor .u32 (x : Int) 4294967295 = ((crc (cat ss) : Nat) : Int)) := by
        show _ = _
        rw [xor_ones x hX1, ← HX.out, hke, List.take_length]
        rfl
      clear HX
      go_wp2
      go_ret
      exact ⟨ret_int HF.out, rfl⟩
set_option maxHeartbeats 1000000 in
set_option maxRecDepth 100000 in
theorem lay_any (v : Nat) (w : World) (h : v < 4294967296) :
    Calls Tryz.prog 80 #[.int .u32 v] w fun e w' => e = .returned (.string ⟨(be v 4).toArray⟩) ∧ Below w.heap.size w w' := by
  go_enter Tryz.func80, Tryz.ntmps80
  go_wp2_with (go_at_call 117; refine (fix_ok v 4 _ (by omega) (by omega) (by omega)).mono ?_; rintro e w' ⟨rfl, hb⟩)
  go_ret
  exact ⟨rfl, hb⟩
set_option maxHeartbeats 1000000 in
set_option maxRecDepth 100000 in
theorem sread_any (s : ByteArray) (w : World) (hs : s.size ≤ 9223372036854775807) (h : 4 ≤ s.size) :
    Calls Tryz.prog 84 #[.string s] w fun e w' => e = .returned (.int .u32 (beVal (s.data.toList.take 4) : Nat)) ∧ w = w' := by
  have hl := beVal_lt (s.data.toList.take 4)
  have hll : (s.data.toList.take 4).length ≤ 4 := List.length_take_le _ _
  have hl2 : beVal (s.data.toList.take 4) < 4294967296 := Nat.lt_of_lt_of_le hl (pow256_mono hll)
  have hp : beVal (piece s 0 4) = beVal (s.data.toList.take 4) := by simp [piece]
  clear hl hll
  go_enter Tryz.func84, Tryz.ntmps84
  go_wp2_with (go_at_call 119; refine (unfix_ok s 0 4 _ hs (by omega) (by omega) (by omega)).mono ?_; rintro e w' ⟨rfl, rfl⟩)
  go_ret
  refine ⟨ret_int ?_, rfl⟩
  rfl
theorem crc_one (A : ByteArray) (b cap : Nat) (w : World) (hA : A.size ≤ maxLen) (h0 : w.cell? ⟨b, 0, none⟩ = some (.string A)) :
    Calls Tryz.prog 81 #[.slice (some ⟨b, 0, none⟩) 1 cap] w fun e w' => e = .returned (.int .u32 (crc A.data.toList : Nat)) ∧ w = w' := by
  have h := crc_rows b 0 cap [A] w (by simp) (by simpa using hA) (fun i hi => by
    match i, hi with
    | 0, _ => simpa using h0)
  simpa [cat] using h
theorem clone_any (s : ByteArray) (w : World) (h : s.size ≤ 281474976710656) :
    Calls Tryz.prog 25 #[.string s] w fun e w' => e = .returned (.string s) ∧ Below w.heap.size w w' := by
  go_enter Tryz.func25, Tryz.ntmps25
  go_wp2_with (go_at_call 61; refine (Tryz.stringslite_Clone s _ h).mono ?_; rintro e w' ⟨rfl, hb⟩)
  go_ret
  exact ⟨rfl, hb⟩
theorem ext_from (s : ByteArray) (a : Nat) : (s.extract a s.size).data.toList = s.data.toList.drop a := by
  rw [ext_list, List.take_of_length_le (show s.data.toList.length ≤ s.size from Nat.le_refl _)]
set_option maxHeartbeats 1000000 in
set_option maxRecDepth 100000 in
theorem seal_any (s : ByteArray) (w : World) (h : s.size ≤ 1000000) :
    Calls Tryz.prog 48 #[.string s] w fun e w' => e = .returned (.string ⟨(sealF s.data.toList).toArray⟩) ∧ Below w.heap.size w w' := by
  have hcrc := Lib.hid (fun (w' : World) (b' : Nat) h0 => crc_one s b' 1 w' (by unfold maxLen; omega) h0)
  obtain ⟨c, hc⟩ : ∃ c, c = crc s.data.toList := ⟨_, rfl⟩
  have hcl : c < 4294967296 := by rw [hc]; exact crc_lt _
  rw [← hc] at hcrc
  have hlay := Lib.hid (fun w' : World => lay_any c w' hcl)
  obtain ⟨C, hC⟩ : ∃ C : ByteArray, C = ⟨(be c 4).toArray⟩ := ⟨_, rfl⟩
  have hCs : C.size = 4 := by rw [hC, be_size]
  have hCd : C.data.size = 4 := hCs
  have hsd : s.data.size ≤ 1000000 := h
  have HR : Hid (s ++ C = ⟨(sealF s.data.toList).toArray⟩) := by
    show _ = _
    rw [hC, hc]
    unfold sealF
    rw [← cat_str]
  rw [← hC] at hlay
  clear hC hc
  go_enter Tryz.func48, Tryz.ntmps48
  go_wp2_with (first | (go_at_call 81; refine (hcrc.out _ _ (by simp)).mono ?_; rintro e w1 ⟨rfl, rfl⟩) | (go_at_call 80; refine (hlay.out _).mono ?_; rintro e w2 ⟨rfl, hb2⟩))
  go_ret
  exact ⟨by rw [← HR.out]; rfl, ((Below.refl _ _).alloc (Nat.le_refl _) _).trans (hb2.mono (by simp))⟩
set_option maxHeartbeats 1000000 in
set_option maxRecDepth 100000 in
theorem open_short (s : ByteArray) (w : World) (h : s.size < 4) :
    Calls Tryz.prog 50 #[.string s] w fun e w' => e = .returned (openV s.data.toList) ∧ Below w.heap.size w w' := by
  have hv : openV s.data.toList = .tuple #[.string ⟨#[]⟩, .int .i64 5] := by unfold openV; rw [if_pos (by exact h)]
  rw [hv]
  go_enter Tryz.func50, Tryz.ntmps50
  go_wp2
  go_ret2
  exact ⟨rfl, Below.refl _ _⟩
set_option maxHeartbeats 2000000 in
set_option maxRecDepth 100000 in
theorem open_long (s : ByteArray) (w : World) (h4 : 4 ≤ s.size) (h : s.size ≤ 1000000) :
    Calls Tryz.prog 50 #[.string s] w fun e w' => e = .returned (openV s.data.toList) ∧ Below w.heap.size w w' := by
  have hln : s.data.toList.length = s.size := rfl
  obtain ⟨T, hT⟩ : ∃ T : ByteArray, s.extract 0 (s.size - 4) = T := ⟨_, rfl⟩
  obtain ⟨R, hR⟩ : ∃ R : ByteArray, s.extract (s.size - 4) s.size = R := ⟨_, rfl⟩
  have hTl : T.data.toList = s.data.toList.take (s.size - 4) := by rw [← hT, ext_to]
  have hRl : R.data.toList = s.data.toList.drop (s.size - 4) := by rw [← hR, ext_from]
  have hTs : T.size = s.size - 4 := by
    have : T.size = T.data.toList.length := rfl
    rw [this, hTl, List.length_take, hln]; omega
  have hRs : R.size = 4 := by
    have : R.size = R.data.toList.length := rfl
    rw [this, hRl, List.length_drop, hln]; omega
  have hR4 : R.data.toList.take 4 = R.data.toList := List.take_of_length_le (by show R.size ≤ 4; omega)
  have hcrc := Lib.hid (fun (w' : World) (b' : Nat) h0 => crc_one T b' 1 w' (by unfold maxLen; omega) h0)
  have hread := Lib.hid (fun w' : World => sread_any R w' (by omega) (by omega))
  rw [hR4] at hread
  have hcl := crc_lt T.data.toList
  have hv : openV s.data.toList = if crc T.data.toList = beVal R.data.toList then .tuple #[.string T, .int .i64 0] else .tuple #[.string ⟨#[]⟩, .int .i64 6] := by
    unfold openV
    rw [if_neg (by rw [hln]; omega), hln, ← hTl, ← hRl, ← arr_eq]
  rw [hv]
  have hclone := Lib.hid (fun w' : World => clone_any T w' (by omega))
  generalize crc T.data.toList = c at hcrc hcl hv ⊢
  generalize beVal R.data.toList = r at hread hv ⊢
  have hi1 : ((s.size : Int) - 4).toNat = s.size - 4 := by omega
  clear hv hTl hRl hR4
  by_cases hcr : c = r
  · rw [if_pos hcr]
    have hq : ((c : Int) != (r : Int)) = false := by subst hcr; simp
    clear hcr
    go_enter Tryz.func50, Tryz.ntmps50
    go_wp2
    go_region_with (first | (go_at_call 81; refine (hcrc.out _ _ (by simp)).mono ?_; rintro e w1 ⟨rfl, rfl⟩) | (go_at_call 84; refine (hread.out _).mono ?_; rintro e w2 ⟨rfl, rfl⟩))
    all_goals go_wp2_with (go_at_call 25; refine (hclone.out _).mono ?_; rintro e w3 ⟨rfl, hb3⟩)
    all_goals go_ret2
    all_goals exact ⟨rfl, ((Below.refl _ _).drew.alloc (by simp) _).trans (hb3.mono (by simp))⟩
  · rw [if_neg hcr]
    have hq : ((c : Int) != (r : Int)) = true := by simp; omega
    clear hcr
    go_enter Tryz.func50, Tryz.ntmps50
    go_wp2
    go_region_with (first | (go_at_call 81; refine (hcrc.out _ _ (by simp)).mono ?_; rintro e w1 ⟨rfl, rfl⟩) | (go_at_call 84; refine (hread.out _).mono ?_; rintro e w2 ⟨rfl, rfl⟩))
    all_goals go_wp2
    all_goals go_ret2
    all_goals exact ⟨rfl, (Below.refl _ _).drew.alloc (by simp) _⟩
theorem open_any (s : ByteArray) (w : World) (h : s.size ≤ 1000000) :
    Calls Tryz.prog 50 #[.string s] w fun e w' => e = .returned (openV s.data.toList) ∧ Below w.heap.size w w' := by
  by_cases h4 : s.size < 4
  · exact open_short s w h4
  · exact open_long s w (by omega) h
end Go.Proofs.YtmnboiikopkaoaaGreat
