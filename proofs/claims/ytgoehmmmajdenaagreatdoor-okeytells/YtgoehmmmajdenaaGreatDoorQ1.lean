/- The document's own Fix and Unfix: what each returns, for every argument within the bounds that each names. -/
import Derived.Test.YtgoehmmmajdenaaGreatDoorK1
namespace Go.Proofs.YtgoehmmmajdenaaGreatDoor
open Go.RowKit

set_option maxHeartbeats 1000000 in
theorem refFix_wide (v n : Int) (w : World) (h : n < 1 ∨ 8 < n) :
    Calls Tryz.prog 99 #[.int .u64 v, .int .i64 n] w fun e w' => e = .returned (.tuple #[.string ⟨#[]⟩, .int .i64 1]) ∧ w = w' := by
  rcases h with h | h
  · go_enter Tryz.func99, Tryz.ntmps99
    go_wp2
    go_ret2
    exact ⟨rfl, rfl⟩
  · have h1 : 1 ≤ n := by omega
    have hd : decide (n < 1) = false := by simp; omega
    go_enter Tryz.func99, Tryz.ntmps99
    go_wp2
    go_ret2
    exact ⟨rfl, rfl⟩

def refCells (v n k : Nat) : List Value := (List.range n).map fun i => .int .u8 (if k ≤ i then ((v / 256 ^ (n - 1 - i) % 256 : Nat) : Int) else 0)
theorem refCells_none (v n : Nat) : refCells v n n = List.replicate n (.int .u8 0) := by
  unfold refCells
  apply List.ext_getElem
  · simp
  · intro i h1 h2
    have : ¬ n ≤ i := by simp at h1; omega
    simp [this]
theorem refCells_set (v n k : Nat) (_ : k < n) : (refCells v n (k + 1)).set k (.int .u8 ((v / 256 ^ (n - 1 - k) % 256 : Nat) : Int)) = refCells v n k := by
  unfold refCells
  apply List.ext_getElem
  · simp
  · intro i h1 h2
    simp only [List.getElem_set, List.getElem_map, List.getElem_range]
    by_cases hk : k = i
    · subst hk; simp
    · rw [if_neg hk]
      by_cases h : k + 1 ≤ i
      · rw [if_pos h, if_pos (by omega)]
      · rw [if_neg h, if_neg (by omega)]
theorem refCells_all (v n : Nat) : refCells v n 0 = Lib.byteCells (be v n) := by
  rw [← fixCells_full]
  unfold refCells fixCells
  apply List.map_congr_left
  intro i hi
  have hi' : i < n := by simpa using hi
  simp [hi']
theorem refCells_get (v n k : Nat) (h : k < n) : (refCells v n (k + 1))[k]? = some (.int .u8 0) := by
  unfold refCells
  have : ¬ k + 1 ≤ k := by omega
  simp [h, this]

set_option maxHeartbeats 2000000 in
set_option maxRecDepth 100000 in
theorem refFix_at (v n : Nat) (t : Value) (w : World) (hn0 : 1 ≤ n) (hn1 : n ≤ 8) (hv : v < 18446744073709551616) (ht : t = if v < 256 ^ n then .tuple #[.string ⟨(be v n).toArray⟩, .int .i64 0] else .tuple #[.string ⟨#[]⟩, .int .i64 1]) :
    Calls Tryz.prog 99 #[.int .u64 v, .int .i64 n] w fun e w' => e = .returned t ∧ Below w.heap.size w w' := by
  obtain ⟨i0, hi, hz0, hz1, hz2⟩ := info_parts infoByte
  have HTT := Lib.hid ht
  clear ht
  have hd1 : decide ((n : Int) < 1) = false := by simp; omega
  have hd2 : decide ((8 : Int) < (n : Int)) = false := by simp; omega
  go_enter Tryz.func99, Tryz.ntmps99
  go_wp2_with (at_make; refine wpList_make_full _ rfl _ _ 68 rfl w.heap.size 5 i0 (.int .u8 0) 1 Tryz.underlying68 hi hz0 hz1 .i64 .i64 _ _ n rfl rfl rfl rfl ?b2 ?b3 ?b4 ?_)
  case b2 => rw [hz2]; omega
  case b3 => unfold maxLen; omega
  case b4 => exact Nat.le_refl _
  intro w1 hown hgrow
  have hb1 : Below w.heap.size w w1 := (Below.refl _ _).grown hgrow (Nat.le_refl _) (fun k hk => by cases hk)
  have hown1 : w1.ownsRow w.heap.size 5 1 (.slice (some ⟨w.heap.size, 0, none⟩) n n) n (refCells v n n) := by
    rw [refCells_none, ← toList_madeCells_one]; simpa using hown
  clear hown hgrow
  go_wp2
  go_loopw [0, 7] (fun vv i wr => ∃ (k : Nat) (X : Int), k ≤ n ∧ i = .int .i64 ((k : Int) - 1) ∧ vv = .int .u64 X ∧ 0 ≤ X ∧ X ≤ 18446744073709551615 ∧ Hid (X = ((v / 256 ^ (n - k) : Nat) : Int)) ∧ wr.ownsRow w.heap.size 5 1 (.slice (some ⟨w.heap.size, 0, none⟩) n n) n (refCells v n k) ∧ Below w.heap.size w wr)
    (fun _ i _ => (intOf i + 1).toNat)
  case atStart => exact ⟨n, (v : Int), Nat.le_refl _, rfl, rfl, by omega, by omega, by simp [Hid], hown1, hb1⟩
  case round =>
    obtain ⟨k, X, hk, rfl, rfl, hX0, hX1, HX, hown, hnx⟩ := hrel
    by_cases hlt : 0 < k
    · obtain ⟨m, rfl⟩ : ∃ m, k = m + 1 := ⟨k - 1, by omega⟩
      have hcell : wr.cell? ⟨w.heap.size, m, none⟩ = some (.int .u8 0) := by rw [hown.cellAt m (by omega), refCells_get v n m (by omega)]
      have hfz : wr.frozen? ⟨w.heap.size, m, none⟩ = false := hown.frozenAt m
      have hst := Lib.hid (hown.stored m (.int .u8 ((v / 256 ^ (n - 1 - m) % 256 : Nat) : Int)))
      have HE : Hid (n - (m + 1) = n - 1 - m) := by show _ = _; omega
      have HE2 : Hid (v / 256 ^ (n - m) = v / 256 ^ (n - 1 - m) / 256) := by
        show _ = _
        rw [Nat.div_div_eq_div_mul, ← Nat.pow_succ, show (n - 1 - m).succ = n - m by omega]
      have hm1 : ((m + 1 : Nat) : Int) - 1 = (m : Int) := by omega
      rw [hm1]
      go_wp2
      go_roundw
      case rel =>
        have hXe : X = ((v / 256 ^ (n - 1 - m) : Nat) : Int) := by rw [HX.out, HE.out]
        have e1 : X % 256 = ((v / 256 ^ (n - 1 - m) % 256 : Nat) : Int) := by rw [hXe]; omega
        rw [e1]
        refine ⟨m, X / 256, by omega, rfl, rfl, by omega, by omega, ?_, ?_, hnx.grown hst.out.2 hnx.size (fun j hj => by cases hj; exact Nat.le_refl _)⟩
        · show _ = _
          rw [HE2.out, hXe]
          omega
        · rw [← refCells_set v n m (by omega)]
          exact hst.out.1
      case measure => simp [intOf]
    · obtain rfl : k = 0 := by omega
      have hXe : Hid (X = ((v / 256 ^ n : Nat) : Int)) := by have := HX.out; rw [Nat.sub_zero] at this; exact this
      clear HX
      by_cases h : v < 256 ^ n
      · have HH := Lib.hid h
        have hX : X ≤ 0 := by have := hXe.out; rw [Nat.div_eq_of_lt h] at this; omega
        rw [refCells_all] at hown
        have hcv := conv_own hown (be_length v n).symm
        clear h
        go_wp2
        go_ret2
        exact ⟨by rw [HTT.out, if_pos HH.out]; rfl, hnx⟩
      · have HH := Lib.hid h
        have hX : 0 < X := by
          have h1 : 1 ≤ v / 256 ^ n := (Nat.le_div_iff_mul_le (Nat.pow_pos (by omega))).2 (by omega)
          have := hXe.out
          omega
        clear h
        go_wp2
        go_ret2
        exact ⟨by rw [HTT.out, if_neg HH.out]; rfl, hnx⟩

theorem refFix_ok (v n : Nat) (w : World) (hn0 : 1 ≤ n) (hn1 : n ≤ 8) (hv : v < 18446744073709551616) (h : v < 256 ^ n) :
    Calls Tryz.prog 99 #[.int .u64 v, .int .i64 n] w fun e w' => e = .returned (.tuple #[.string ⟨(be v n).toArray⟩, .int .i64 0]) ∧ Below w.heap.size w w' :=
  refFix_at v n _ w hn0 hn1 hv (by rw [if_pos h])
theorem refFix_great (v n : Nat) (w : World) (hn0 : 1 ≤ n) (hn1 : n ≤ 8) (hv : v < 18446744073709551616) (h : 256 ^ n ≤ v) :
    Calls Tryz.prog 99 #[.int .u64 v, .int .i64 n] w fun e w' => e = .returned (.tuple #[.string ⟨#[]⟩, .int .i64 1]) ∧ Below w.heap.size w w' :=
  refFix_at v n _ w hn0 hn1 hv (by rw [if_neg (by omega)])

set_option maxHeartbeats 1000000 in
theorem refUnfix_arg (s : ByteArray) (a n : Int) (w : World) (h : n < 1 ∨ 8 < n ∨ a < 0) :
    Calls Tryz.prog 31 #[.string s, .int .i64 a, .int .i64 n] w fun e w' => e = .returned (.tuple #[.int .u64 0, .int .i64 1]) ∧ w = w' := by
  by_cases h1 : n < 1
  · clear h
    go_enter Tryz.func31, Tryz.ntmps31
    go_wp2
    go_ret2
    exact ⟨rfl, rfl⟩
  · have hd1 : decide (n < 1) = false := by simp; omega
    by_cases h8 : 8 < n
    · clear h
      go_enter Tryz.func31, Tryz.ntmps31
      go_wp2
      go_ret2
      exact ⟨rfl, rfl⟩
    · have hd2 : decide (8 < n) = false := by simp; omega
      have ha : a < 0 := by omega
      clear h
      go_enter Tryz.func31, Tryz.ntmps31
      go_wp2
      go_ret2
      exact ⟨rfl, rfl⟩
set_option maxHeartbeats 1000000 in
theorem refUnfix_short (s : ByteArray) (a n : Int) (w : World) (_hs : s.size ≤ 9223372036854775807) (h1 : 1 ≤ n) (h2 : n ≤ 8) (ha : 0 ≤ a) (h : (s.size : Int) < a + n) :
    Calls Tryz.prog 31 #[.string s, .int .i64 a, .int .i64 n] w fun e w' => e = .returned (.tuple #[.int .u64 0, .int .i64 5]) ∧ w = w' := by
  have hd1 : decide (n < 1) = false := by simp; omega
  have hd2 : decide (8 < n) = false := by simp; omega
  have hd3 : decide (a < 0) = false := by simp; omega
  by_cases hl : (s.size : Int) < n
  · go_enter Tryz.func31, Tryz.ntmps31
    go_wp2
    go_ret2
    exact ⟨rfl, rfl⟩
  · have hd4 : decide ((s.size : Int) < n) = false := by simp; omega
    have hg : (s.size : Int) - n < a := by omega
    go_enter Tryz.func31, Tryz.ntmps31
    go_wp2
    go_ret2
    exact ⟨rfl, rfl⟩

set_option maxHeartbeats 1000000 in
set_option maxRecDepth 100000 in
theorem refUnfix_ok (s : ByteArray) (a n : Nat) (w : World) (_hs : s.size ≤ 9223372036854775807) (h1 : 1 ≤ n) (h2 : n ≤ 8) (h : a + n ≤ s.size) :
    Calls Tryz.prog 31 #[.string s, .int .i64 a, .int .i64 n] w fun e w' => e = .returned (.tuple #[.int .u64 (beVal (piece s a n) : Nat), .int .i64 0]) ∧ w = w' := by
  have hd1 : decide ((n : Int) < 1) = false := by simp; omega
  have hd2 : decide ((8 : Int) < (n : Int)) = false := by simp; omega
  have hd3 : decide ((a : Int) < 0) = false := by simp
  have hd4 : decide ((s.size : Int) < (n : Int)) = false := by simp; omega
  have hd4' : decide (s.size < n) = false := by simp; omega
  have hd5 : decide ((s.size : Int) - (n : Int) < (a : Int)) = false := by simp; omega
  go_enter Tryz.func31, Tryz.ntmps31
  go_wp2
  go_loop [8, 9] (fun v i => ∃ (k : Nat) (X : Int), k ≤ n ∧ i = .int .i64 k ∧ v = .int .u64 X ∧ Hid (X = (beVal (piece s a k) : Nat))) (fun _ i => n - (intOf i).toNat)
  case atStart => exact ⟨0, 0, Nat.zero_le _, rfl, rfl, rfl⟩
  case round =>
    obtain ⟨k, X, hk, rfl, rfl, HX⟩ := hrel
    by_cases hlt : k < n
    · have hkk : a + k < s.size := by omega
      have hb0 : 0 ≤ X := by have := HX.out; omega
      have hb : X < 72057594037927936 := by
        have hl := beVal_lt (piece s a k)
        rw [piece_length s a k (by omega)] at hl
        have hm : 256 ^ k ≤ 256 ^ 7 := pow256_mono (by omega)
        have := HX.out
        omega
      have HP := Lib.hid (piece_snoc s a k hkk)
      go_wp2
      go_round
      case rel =>
        have hby := s[a + k].toNat_lt
        refine ⟨k + 1, _, by omega, by go_num, rfl, ?_⟩
        show _ = _
        have hXe := HX.out
        rw [HP.out, beVal_snoc]
        simp only [IntKind.wrap_u64]
        omega
      case measure => simp [intOf]; omega
    · have hke : k = n := by omega
      subst hke
      have hX : X = ((beVal (piece s a k) : Nat) : Int) := HX.out
      go_wp2
      go_ret2
      exact ⟨rfl, rfl⟩
end Go.Proofs.YtgoehmmmajdenaaGreatDoor
