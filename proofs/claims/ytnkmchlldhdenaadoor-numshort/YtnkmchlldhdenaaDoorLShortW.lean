/- The walks of statement NumShort of chapter 1: it answers true for every number and every width. -/
import Derived.Test.YtnkmchlldhdenaaDoorW5
namespace Go.Proofs.YtnkmchlldhdenaaDoor
open Go.RowKit

theorem var1 (b v : Nat) (w : World) (hv : v < 18446744073709551616) (h0 : w.cell? ⟨b, 0, none⟩ = some (.int .u64 (v : Int))) (hb : b < w.heap.size) :
    Calls Tryd.prog 20 #[.slice (some ⟨b, 0, none⟩) 1 1] w fun e w' => e = .returned (.string ⟨(Lib.uvarint v).toArray⟩) ∧ Below w.heap.size w w' := by
  have h := var_any b 0 1 [v] w (by intro z hz; simp at hz; omega) (by simp) (by
    intro i hi
    match i, hi with
    | 0, _ => exact h0) hb
  have e : vars [v] = Lib.uvarint v := by simp [vars]
  rw [e] at h
  exact h

theorem shl_form (n : Nat) (h : n < 8) : IntKind.u64.wrap (2 ^ (8 * n)) = ((256 ^ n : Nat) : Int) := by
  have hp : 256 ^ n ≤ 256 ^ 7 := pow256_mono (by omega)
  have e : (2 : Int) ^ (8 * n) = ((256 ^ n : Nat) : Int) := by rw [← pow_bytes]; simp
  rw [e, IntKind.wrap_u64]
  clear e
  generalize 256 ^ n = q at *
  omega
theorem len_str (l : List UInt8) : (⟨l.toArray⟩ : ByteArray).size = l.length := by
  show l.toArray.size = l.length
  simp

set_option maxHeartbeats 4000000 in
set_option maxRecDepth 100000 in
theorem numShort_wide (v : Nat) (n : Int) (w : World) (hv : v < 18446744073709551616) (hn : n < 1 ∨ 8 < n) (htab : Tab w.heap.size w) :
    Calls Tryd.prog 8 #[.int .u64 v, .int .i64 n] w fun e w' => e = .returned (.bool true) ∧ Below w.heap.size w w' := by
  have HT := Lib.hid htab
  clear htab
  have HN := Lib.hid hn
  clear hn
  go_enter Tryd.func8, Tryd.ntmps8
  go_wp2_with fail
  refine (var1 w.heap.size v _ hv (by simp) (by simp)).mono ?_
  rintro e w1 ⟨rfl, hb1'⟩
  have hb1 : Below w.heap.size w w1 := ((Below.refl _ _).alloc (Nat.le_refl _) _).trans (hb1'.mono (by simp))
  clear hb1'
  go_wp2
  go_loop [6, 7] (fun k u => ∃ (y m : Nat), u = .int .u64 y ∧ k = .int .i64 m ∧ y ≤ v ∧ m ≤ 10 ∧ Hid (m + (Lib.uvarint y).length = (Lib.uvarint v).length + 1)) (fun _ u => (intOf u).toNat)
  case atStart => exact ⟨v, 1, rfl, rfl, Nat.le_refl _, by omega, by show _ = _; omega⟩
  case round =>
    obtain ⟨y, m, rfl, rfl, hy, hm, HM⟩ := hrel
    have hl := Lib.hid (Lib.uvarint_length64 hv)
    by_cases h128 : 127 < y
    · have hbig := Lib.hid (Lib.uvarint_big (x := y) (by omega))
      have hpos := Lib.hid (Lib.uvarint_pos (y / 128))
      go_wp2
      go_round
      case rel =>
        have h1 := HM.out
        rw [hbig.out] at h1
        have h2 := hl.out
        have h3 := hpos.out
        simp only [List.length_cons] at h1
        refine ⟨y / 128, m + 1, by go_num, by go_num, by omega, by omega, by show _ = _; omega⟩
      case measure => simp [intOf]; omega
    · have hsm := Lib.hid (Lib.uvarint_small (x := y) (by omega))
      have hm' : m = (Lib.uvarint v).length := by
        have h1 := HM.out
        rw [hsm.out] at h1
        simp only [List.length_singleton] at h1
        omega
      subst hm'
      go_wp2_with fail
      refine (fix_no_width _ _ _ HN.out).mono ?_
      rintro e w' ⟨rfl, rfl⟩
      have hn := HN.out
      clear HN
      rcases hn with hn | hn
      all_goals
        go_wp2_with (go_at_call 10; refine (alive_any w.heap.size _ hb1.size (HT.out.on hb1)).mono ?_; rintro r w2 ⟨rfl, hb2⟩)
        go_ret
        exact ⟨rfl, hb1.trans (hb2.mono hb1.size)⟩

set_option maxHeartbeats 4000000 in
set_option maxRecDepth 100000 in
theorem numShort_eight (v : Nat) (n : Int) (w : World) (hv : v < 18446744073709551616) (hn : n = 8) (htab : Tab w.heap.size w) :
    Calls Tryd.prog 8 #[.int .u64 v, .int .i64 n] w fun e w' => e = .returned (.bool true) ∧ Below w.heap.size w w' := by
  have HT := Lib.hid htab
  clear htab
  subst hn
  go_enter Tryd.func8, Tryd.ntmps8
  go_wp2_with fail
  refine (var1 w.heap.size v _ hv (by simp) (by simp)).mono ?_
  rintro e w1 ⟨rfl, hb1'⟩
  have hb1 : Below w.heap.size w w1 := ((Below.refl _ _).alloc (Nat.le_refl _) _).trans (hb1'.mono (by simp))
  clear hb1'
  go_wp2
  go_loop [6, 7] (fun k u => ∃ (y m : Nat), u = .int .u64 y ∧ k = .int .i64 m ∧ y ≤ v ∧ m ≤ 10 ∧ Hid (m + (Lib.uvarint y).length = (Lib.uvarint v).length + 1)) (fun _ u => (intOf u).toNat)
  case atStart => exact ⟨v, 1, rfl, rfl, Nat.le_refl _, by omega, by show _ = _; omega⟩
  case round =>
    obtain ⟨y, m, rfl, rfl, hy, hm, HM⟩ := hrel
    have hl := Lib.hid (Lib.uvarint_length64 hv)
    by_cases h128 : 127 < y
    · have hbig := Lib.hid (Lib.uvarint_big (x := y) (by omega))
      have hpos := Lib.hid (Lib.uvarint_pos (y / 128))
      go_wp2
      go_round
      case rel =>
        have h1 := HM.out
        rw [hbig.out] at h1
        have h2 := hl.out
        have h3 := hpos.out
        simp only [List.length_cons] at h1
        refine ⟨y / 128, m + 1, by go_num, by go_num, by omega, by omega, by show _ = _; omega⟩
      case measure => simp [intOf]; omega
    · have hsm := Lib.hid (Lib.uvarint_small (x := y) (by omega))
      have hm' : m = (Lib.uvarint v).length := by
        have h1 := HM.out
        rw [hsm.out] at h1
        simp only [List.length_singleton] at h1
        omega
      subst hm'
      go_wp2_with fail
      refine (fix_ok v 8 _ (by omega) (by omega) (by omega)).mono ?_
      rintro e w1' ⟨rfl, hb1'⟩
      replace hb1 := hb1.trans (hb1'.mono hb1.size)
      clear hb1'
      go_wp2_with (go_at_call 10; refine (alive_any w.heap.size _ hb1.size (HT.out.on hb1)).mono ?_; rintro r w2 ⟨rfl, hb2⟩)
      go_ret
      exact ⟨rfl, hb1.trans (hb2.mono hb1.size)⟩

set_option maxHeartbeats 4000000 in
set_option maxRecDepth 100000 in
theorem numShort_fits (v n : Nat) (w : World) (hv : v < 18446744073709551616) (hn0 : 1 ≤ n) (hn1 : n < 8) (h : v < 256 ^ n) (htab : Tab w.heap.size w) :
    Calls Tryd.prog 8 #[.int .u64 v, .int .i64 n] w fun e w' => e = .returned (.bool true) ∧ Below w.heap.size w w' := by
  have HT := Lib.hid htab
  clear htab
  have HF := Lib.hid h
  have hbe := be_length v n
  have hsh : (v : Int) < IntKind.u64.wrap (2 ^ (8 * n)) := by rw [shl_form n hn1]; omega
  clear h
  go_enter Tryd.func8, Tryd.ntmps8
  go_wp2_with fail
  refine (var1 w.heap.size v _ hv (by simp) (by simp)).mono ?_
  rintro e w1 ⟨rfl, hb1'⟩
  have hb1 : Below w.heap.size w w1 := ((Below.refl _ _).alloc (Nat.le_refl _) _).trans (hb1'.mono (by simp))
  clear hb1'
  go_wp2
  go_loop [6, 7] (fun k u => ∃ (y m : Nat), u = .int .u64 y ∧ k = .int .i64 m ∧ y ≤ v ∧ m ≤ 10 ∧ Hid (m + (Lib.uvarint y).length = (Lib.uvarint v).length + 1)) (fun _ u => (intOf u).toNat)
  case atStart => exact ⟨v, 1, rfl, rfl, Nat.le_refl _, by omega, by show _ = _; omega⟩
  case round =>
    obtain ⟨y, m, rfl, rfl, hy, hm, HM⟩ := hrel
    have hl := Lib.hid (Lib.uvarint_length64 hv)
    by_cases h128 : 127 < y
    · have hbig := Lib.hid (Lib.uvarint_big (x := y) (by omega))
      have hpos := Lib.hid (Lib.uvarint_pos (y / 128))
      go_wp2
      go_round
      case rel =>
        have h1 := HM.out
        rw [hbig.out] at h1
        have h2 := hl.out
        have h3 := hpos.out
        simp only [List.length_cons] at h1
        refine ⟨y / 128, m + 1, by go_num, by go_num, by omega, by omega, by show _ = _; omega⟩
      case measure => simp [intOf]; omega
    · have hsm := Lib.hid (Lib.uvarint_small (x := y) (by omega))
      have hm' : m = (Lib.uvarint v).length := by
        have h1 := HM.out
        rw [hsm.out] at h1
        simp only [List.length_singleton] at h1
        omega
      subst hm'
      go_wp2_with fail
      refine (fix_ok v n _ (by omega) (by omega) HF.out).mono ?_
      rintro e w1' ⟨rfl, hb1'⟩
      replace hb1 := hb1.trans (hb1'.mono hb1.size)
      clear hb1'
      go_wp2_with (go_at_call 10; refine (alive_any w.heap.size _ hb1.size (HT.out.on hb1)).mono ?_; rintro r w2 ⟨rfl, hb2⟩)
      go_ret
      exact ⟨rfl, hb1.trans (hb2.mono hb1.size)⟩

set_option maxHeartbeats 4000000 in
set_option maxRecDepth 100000 in
theorem numShort_great (v n : Nat) (w : World) (hv : v < 18446744073709551616) (hn0 : 1 ≤ n) (hn1 : n < 8) (h : 256 ^ n ≤ v) (htab : Tab w.heap.size w) :
    Calls Tryd.prog 8 #[.int .u64 v, .int .i64 n] w fun e w' => e = .returned (.bool true) ∧ Below w.heap.size w w' := by
  have HT := Lib.hid htab
  clear htab
  have HF := Lib.hid h
  have hsh : IntKind.u64.wrap (2 ^ (8 * n)) ≤ (v : Int) := by rw [shl_form n hn1]; omega
  clear h
  go_enter Tryd.func8, Tryd.ntmps8
  go_wp2_with fail
  refine (var1 w.heap.size v _ hv (by simp) (by simp)).mono ?_
  rintro e w1 ⟨rfl, hb1'⟩
  have hb1 : Below w.heap.size w w1 := ((Below.refl _ _).alloc (Nat.le_refl _) _).trans (hb1'.mono (by simp))
  clear hb1'
  go_wp2
  go_loop [6, 7] (fun k u => ∃ (y m : Nat), u = .int .u64 y ∧ k = .int .i64 m ∧ y ≤ v ∧ m ≤ 10 ∧ Hid (m + (Lib.uvarint y).length = (Lib.uvarint v).length + 1)) (fun _ u => (intOf u).toNat)
  case atStart => exact ⟨v, 1, rfl, rfl, Nat.le_refl _, by omega, by show _ = _; omega⟩
  case round =>
    obtain ⟨y, m, rfl, rfl, hy, hm, HM⟩ := hrel
    have hl := Lib.hid (Lib.uvarint_length64 hv)
    by_cases h128 : 127 < y
    · have hbig := Lib.hid (Lib.uvarint_big (x := y) (by omega))
      have hpos := Lib.hid (Lib.uvarint_pos (y / 128))
      go_wp2
      go_round
      case rel =>
        have h1 := HM.out
        rw [hbig.out] at h1
        have h2 := hl.out
        have h3 := hpos.out
        simp only [List.length_cons] at h1
        refine ⟨y / 128, m + 1, by go_num, by go_num, by omega, by omega, by show _ = _; omega⟩
      case measure => simp [intOf]; omega
    · have hsm := Lib.hid (Lib.uvarint_small (x := y) (by omega))
      have hm' : m = (Lib.uvarint v).length := by
        have h1 := HM.out
        rw [hsm.out] at h1
        simp only [List.length_singleton] at h1
        omega
      subst hm'
      go_wp2_with fail
      refine (fix_great v n _ (by omega) (by omega) HF.out).mono ?_
      rintro e w1' ⟨rfl, rfl⟩
      go_wp2_with (go_at_call 10; refine (alive_any w.heap.size _ hb1.size (HT.out.on hb1)).mono ?_; rintro r w2 ⟨rfl, hb2⟩)
      go_ret
      exact ⟨rfl, hb1.trans (hb2.mono hb1.size)⟩

theorem numShort_walk (v : Nat) (hv : v < 18446744073709551616) (n : Int) (_ : -9223372036854775808 ≤ n) (_ : n ≤ 9223372036854775807) (w : World) (htab : Tab w.heap.size w) :
    Calls Tryd.prog 8 #[.int .u64 v, .int .i64 n] w fun e w' => e = .returned (.bool true) ∧ Below w.heap.size w w' := by
  by_cases h1 : n < 1 ∨ 8 < n
  · exact numShort_wide v n w hv h1 htab
  · by_cases h8 : n = 8
    · exact numShort_eight v n w hv h8 htab
    · obtain ⟨m, rfl⟩ : ∃ m : Nat, n = (m : Int) := ⟨n.toNat, by omega⟩
      by_cases h : v < 256 ^ m
      · exact numShort_fits v m w hv (by omega) (by omega) h htab
      · exact numShort_great v m w hv (by omega) (by omega) (by omega) htab
end Go.Proofs.YtnkmchlldhdenaaDoor
