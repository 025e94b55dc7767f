/- Contracts of num.cutBool, num.cutText and of num.Reader's methods Count, Bool, Text, Int and Fix, of a reader that has no error: what each returns, and what is left. -/
import Derived.Test.YtnkmchlldhdenaaDoorW7
import Derived.Deep.RegionWith
namespace Go.Proofs.YtnkmchlldhdenaaDoor
open Go.RowKit

theorem cutCount_at (s : ByteArray) (most : Int) (w : World) (hs : s.size ≤ 9223372036854775807) (hm : most ≤ 9223372036854775807) {v : Nat} {r : List UInt8} {e : Int} (hv : decC most s.data.toList = (v, r, e)) :
    Calls Tryd.prog 55 #[.string s, .int .i64 most] w fun x w' => x = .returned (.tuple #[.int .i64 v, .string ⟨r.toArray⟩, .int .i64 e]) ∧ ∃ n, w' = w.drewN n := by
  have := cutCount_any s most w hs hm
  rw [hv] at this
  exact this

set_option maxHeartbeats 1000000 in
theorem rcount_ok (b : Nat) (s : ByteArray) (most : Int) (w : World) (h : IsRd w b s 0) (hs : s.size ≤ 9223372036854775807) (hm : most ≤ 9223372036854775807) {v : Nat} {r : List UInt8} (hv : decC most s.data.toList = (v, r, 0)) :
    Calls Tryd.prog 37 #[.pointer (some ⟨b, 0, none⟩), .int .i64 most] w fun x w' => x = .returned (.int .i64 v) ∧ IsRd w' b ⟨r.toArray⟩ 0 ∧ w.grownBy w' (some b) := by
  have hc0 := h.c0
  have HV := Lib.hid hv
  clear hv
  go_enter Tryd.func37, Tryd.ntmps37
  go_wp2_with (first | (go_at_call 41; refine (err_any b s 0 _ h).mono ?_; rintro r w' ⟨rfl, rfl⟩) | (go_at_call 55; refine (cutCount_at s most _ hs hm HV.out).mono ?_; rintro r w' ⟨rfl, n, rfl⟩) | (go_at_call 54; refine (step_ok b s _ _ (h.drewN _)).mono ?_; rintro r w' ⟨rfl, rfl⟩))
  go_ret
  exact ⟨rfl, (h.drewN _).setRest _, grownBy_trans (grownBy_drewN _ _ _) (grownBy_set _ _ _ _)⟩
set_option maxHeartbeats 1000000 in
theorem rcount_bad (b : Nat) (s : ByteArray) (most : Int) (w : World) (h : IsRd w b s 0) (hs : s.size ≤ 9223372036854775807) (hm : most ≤ 9223372036854775807) {e : Int} (hv : decC most s.data.toList = (0, [], e)) (he : e ≠ 0) :
    Calls Tryd.prog 37 #[.pointer (some ⟨b, 0, none⟩), .int .i64 most] w fun x w' => x = .returned (.int .i64 0) ∧ IsRd w' b s e ∧ w.grownBy w' (some b) := by
  have hc0 := h.c0
  have HV := Lib.hid hv
  have HE := Lib.hid he
  clear hv he
  go_enter Tryd.func37, Tryd.ntmps37
  go_wp2_with (first | (go_at_call 41; refine (err_any b s 0 _ h).mono ?_; rintro r w' ⟨rfl, rfl⟩) | (go_at_call 55; refine (cutCount_at s most _ hs hm HV.out).mono ?_; rintro r w' ⟨rfl, n, rfl⟩) | (go_at_call 54; refine (step_err b s _ e _ (h.drewN _) HE.out).mono ?_; rintro r w' ⟨rfl, rfl⟩))
  go_ret
  exact ⟨rfl, (h.drewN _).setErr _, grownBy_trans (grownBy_drewN _ _ _) (grownBy_set _ _ _ _)⟩

set_option maxHeartbeats 1000000 in
theorem rint_ok (b : Nat) (s : ByteArray) (w : World) (h : IsRd w b s 0) (hs : s.size ≤ 9223372036854775807) {v : Nat} {r : List UInt8} (hv : decV 0 0 s.data.toList = (v, r, 0)) (hlt : v < 18446744073709551616) :
    Calls Tryd.prog 36 #[.pointer (some ⟨b, 0, none⟩)] w fun x w' => x = .returned (.int .i64 (Lib.unzigzag v)) ∧ IsRd w' b ⟨r.toArray⟩ 0 ∧ w.grownBy w' (some b) := by
  have HV := Lib.hid hv
  clear hv
  go_enter Tryd.func36, Tryd.ntmps36
  go_wp2_with (first | (go_at_call 34; refine (rvar_ok b s _ h hs HV.out).mono ?_; rintro r w1 ⟨rfl, hr1, hg1⟩) | (go_at_call 25; refine (zag_any v _ hlt).mono ?_; rintro r w' ⟨rfl, rfl⟩))
  go_ret
  exact ⟨rfl, hr1, hg1⟩

/-- What is read as a truth. -/
def decB : List UInt8 → Bool × List UInt8 × Int
  | [] => (false, [], 5)
  | b :: r => if 1 < b.toNat then (false, [], 4) else (decide (b.toNat = 1), r, 0)

set_option maxHeartbeats 1000000 in
theorem cutBool_none (s : ByteArray) (w : World) (h : s.size = 0) :
    Calls Tryd.prog 57 #[.string s] w fun x w' => x = .returned (.tuple #[.bool false, .string ⟨#[]⟩, .int .i64 5]) ∧ ∃ n, w' = w.drewN n := by
  have hs : s = ⟨#[]⟩ := by apply ByteArray.ext; exact Array.eq_empty_of_size_eq_zero h
  subst hs
  go_enter Tryd.func57, Tryd.ntmps57
  go_wp2
  go_ret3
  exact ⟨rfl, 0, rfl⟩
theorem ne_empty (s : ByteArray) (h : 0 < s.size) : s.toList.isEmpty = false := by
  rw [Lib.toList_data]
  cases hl : s.data.toList with
  | nil =>
    have h2 : s.data.toList.length = s.size := by rw [Array.length_toList]; rfl
    rw [hl, List.length_nil] at h2
    omega
  | cons a r => rfl

set_option maxHeartbeats 1000000 in
theorem cutBool_bad (s : ByteArray) (w : World) (h : 0 < s.size) (hb : 1 < s[0].toNat) :
    Calls Tryd.prog 57 #[.string s] w fun x w' => x = .returned (.tuple #[.bool false, .string ⟨#[]⟩, .int .i64 4]) ∧ ∃ n, w' = w.drewN n := by
  have hne := ne_empty s h
  go_enter Tryd.func57, Tryd.ntmps57
  go_wp2
  go_ret3
  exact ⟨rfl, 0, rfl⟩
set_option maxHeartbeats 1000000 in
theorem cutBool_ok (s : ByteArray) (w : World) (h : 0 < s.size) (hb : ¬ 1 < s[0].toNat) :
    Calls Tryd.prog 57 #[.string s] w fun x w' => x = .returned (.tuple #[.bool (decide (s[0].toNat = 1)), .string (s.extract 1 s.size), .int .i64 0]) ∧ ∃ n, w' = w.drewN n := by
  have hne := ne_empty s h
  go_enter Tryd.func57, Tryd.ntmps57
  go_wp2
  go_quiet (fail)
  go_wp2
  go_ret3
  refine ⟨?_, nq, rfl⟩
  have e : ((s[0].toNat : Int) == 1) = decide (s[0].toNat = 1) := by
    by_cases h1 : s[0].toNat = 1
    · simp [h1]
    · have : ¬ (s[0].toNat : Int) = 1 := by omega
      simp [h1, this]
  exact congrArg (fun b => Ending.returned (.tuple #[.bool b, .string (s.extract 1 s.size), .int .i64 0])) e

theorem cutBool_any (s : ByteArray) (w : World) :
    Calls Tryd.prog 57 #[.string s] w fun x w' => x = .returned (.tuple #[.bool (decB s.data.toList).1, .string ⟨(decB s.data.toList).2.1.toArray⟩, .int .i64 (decB s.data.toList).2.2]) ∧ ∃ n, w' = w.drewN n := by
  by_cases h : 0 < s.size
  · have hd := drop_cons s 0 h
    rw [List.drop_zero] at hd
    rw [hd]
    by_cases hb : 1 < s[0].toNat
    · rw [show decB (s[0] :: List.drop (0 + 1) s.data.toList) = (false, [], 4) by rw [decB, if_pos hb]]
      exact cutBool_bad s w h hb
    · rw [show decB (s[0] :: List.drop (0 + 1) s.data.toList) = (decide (s[0].toNat = 1), List.drop (0 + 1) s.data.toList, 0) by rw [decB, if_neg hb]]
      have := cutBool_ok s w h hb
      rw [drop_str] at this
      exact this
  · have h0 : s.size = 0 := by omega
    have hl : s.data.toList = [] := by
      apply List.eq_nil_of_length_eq_zero
      rw [Array.length_toList]; exact h0
    rw [hl]
    exact cutBool_none s w h0
theorem cutBool_at (s : ByteArray) (w : World) {v : Bool} {r : List UInt8} {e : Int} (hv : decB s.data.toList = (v, r, e)) :
    Calls Tryd.prog 57 #[.string s] w fun x w' => x = .returned (.tuple #[.bool v, .string ⟨r.toArray⟩, .int .i64 e]) ∧ ∃ n, w' = w.drewN n := by
  have := cutBool_any s w
  rw [hv] at this
  exact this

set_option maxHeartbeats 1000000 in
theorem rbool_ok (b : Nat) (s : ByteArray) (w : World) (h : IsRd w b s 0) {v : Bool} {r : List UInt8} (hv : decB s.data.toList = (v, r, 0)) :
    Calls Tryd.prog 40 #[.pointer (some ⟨b, 0, none⟩)] w fun x w' => x = .returned (.bool v) ∧ IsRd w' b ⟨r.toArray⟩ 0 ∧ w.grownBy w' (some b) := by
  have hc0 := h.c0
  have HV := Lib.hid hv
  clear hv
  go_enter Tryd.func40, Tryd.ntmps40
  go_wp2_with (first | (go_at_call 41; refine (err_any b s 0 _ h).mono ?_; rintro r w' ⟨rfl, rfl⟩) | (go_at_call 57; refine (cutBool_at s _ HV.out).mono ?_; rintro r w' ⟨rfl, n, rfl⟩) | (go_at_call 54; refine (step_ok b s _ _ (h.drewN _)).mono ?_; rintro r w' ⟨rfl, rfl⟩))
  go_ret
  exact ⟨rfl, (h.drewN _).setRest _, grownBy_trans (grownBy_drewN _ _ _) (grownBy_set _ _ _ _)⟩
set_option maxHeartbeats 1000000 in
theorem rbool_bad (b : Nat) (s : ByteArray) (w : World) (h : IsRd w b s 0) {e : Int} (hv : decB s.data.toList = (false, [], e)) (he : e ≠ 0) :
    Calls Tryd.prog 40 #[.pointer (some ⟨b, 0, none⟩)] w fun x w' => x = .returned (.bool false) ∧ IsRd w' b s e ∧ w.grownBy w' (some b) := by
  have hc0 := h.c0
  have HV := Lib.hid hv
  have HE := Lib.hid he
  clear hv he
  go_enter Tryd.func40, Tryd.ntmps40
  go_wp2_with (first | (go_at_call 41; refine (err_any b s 0 _ h).mono ?_; rintro r w' ⟨rfl, rfl⟩) | (go_at_call 57; refine (cutBool_at s _ HV.out).mono ?_; rintro r w' ⟨rfl, n, rfl⟩) | (go_at_call 54; refine (step_err b s _ e _ (h.drewN _) HE.out).mono ?_; rintro r w' ⟨rfl, rfl⟩))
  go_ret
  exact ⟨rfl, (h.drewN _).setErr _, grownBy_trans (grownBy_drewN _ _ _) (grownBy_set _ _ _ _)⟩

/-- What is read as a text. -/
def decT (most : Int) (l : List UInt8) : List UInt8 × List UInt8 × Int :=
  if (decC most l).2.2 ≠ 0 then ([], [], (decC most l).2.2) else if (decC most l).2.1.length < (decC most l).1 then ([], [], 5) else ((decC most l).2.1.take (decC most l).1, (decC most l).2.1.drop (decC most l).1, 0)

theorem clone_any (s : ByteArray) (w : World) (hlim : s.size ≤ 281474976710656) :
    Calls Tryd.prog 60 #[.string s] w fun e w' => e = .returned (.string s) ∧ Below w.heap.size w w' := by
  go_enter Tryd.func60, Tryd.ntmps60
  go_wp2_with (go_at_call 63; refine (Tryd.stringslite_Clone s w hlim).mono ?_; rintro e w' ⟨rfl, hb⟩)
  go_ret
  exact ⟨rfl, hb⟩

set_option maxHeartbeats 2000000 in
theorem cutText_ok (s : ByteArray) (most : Int) (w : World) (hs : s.size ≤ 140737488355328) (hm : most ≤ 9223372036854775807) {n : Nat} {r : List UInt8} (hv : decC most s.data.toList = (n, r, 0)) (hn : n ≤ r.length) (hrl : r.length ≤ s.size) :
    Calls Tryd.prog 56 #[.string s, .int .i64 most] w fun x w' => x = .returned (.tuple #[.string ((⟨r.toArray⟩ : ByteArray).extract 0 n), .string ((⟨r.toArray⟩ : ByteArray).extract n r.length), .int .i64 0]) ∧ Below w.heap.size w w' := by
  have HV := Lib.hid hv
  have hz : (⟨r.toArray⟩ : ByteArray).size = r.length := by show r.toArray.size = _; simp
  have hxz : ((⟨r.toArray⟩ : ByteArray).extract 0 n).size ≤ 281474976710656 := by rw [ByteArray.size_extract]; omega
  have HX := Lib.hid hxz
  clear hv hxz
  obtain ⟨R, hR⟩ : ∃ R : ByteArray, R = ⟨r.toArray⟩ := ⟨_, rfl⟩
  rw [← hR] at hz HX ⊢
  have HVR : Hid (Calls Tryd.prog 55 #[.string s, .int .i64 most] w fun x w' => x = .returned (.tuple #[.int .i64 n, .string R, .int .i64 0]) ∧ ∃ n, w' = w.drewN n) := by
    have := cutCount_at s most w (by omega) hm HV.out
    rw [← hR] at this
    exact this
  clear hR HV
  rw [← hz] at hn ⊢
  have hn' : (n : Int) ≤ (R.size : Int) := by omega
  have HZ := Lib.hid hz
  clear hz
  go_enter Tryd.func56, Tryd.ntmps56
  go_wp2_with (go_at_call 55; refine HVR.out.mono ?_; rintro r w' ⟨rfl, nd, rfl⟩)
  go_region_with (go_at_call 60; refine (clone_any _ _ HX.out).mono ?_; rintro e w' ⟨rfl, hb⟩)
  go_wp2
  go_ret3
  exact ⟨rfl, (Below.refl _ _).trans ⟨hb.os, hb.tape, hb.output, hb.size, hb.block⟩⟩

set_option maxHeartbeats 1000000 in
theorem cutText_short (s : ByteArray) (most : Int) (w : World) (hs : s.size ≤ 140737488355328) (hm : most ≤ 9223372036854775807) {n : Nat} {r : List UInt8} (hv : decC most s.data.toList = (n, r, 0)) (hn : r.length < n) :
    Calls Tryd.prog 56 #[.string s, .int .i64 most] w fun x w' => x = .returned (.tuple #[.string ⟨#[]⟩, .string ⟨#[]⟩, .int .i64 5]) ∧ Below w.heap.size w w' := by
  have HV := Lib.hid hv
  clear hv
  go_enter Tryd.func56, Tryd.ntmps56
  go_wp2_with (go_at_call 55; refine (cutCount_at s most _ (by omega) hm HV.out).mono ?_; rintro r w' ⟨rfl, nd, rfl⟩)
  go_ret3
  exact ⟨rfl, ⟨rfl, rfl, rfl, Nat.le_refl _, fun _ _ => rfl⟩⟩
set_option maxHeartbeats 1000000 in
theorem cutText_bad (s : ByteArray) (most : Int) (w : World) (hs : s.size ≤ 140737488355328) (hm : most ≤ 9223372036854775807) {e : Int} (hv : decC most s.data.toList = (0, [], e)) (he : e ≠ 0) :
    Calls Tryd.prog 56 #[.string s, .int .i64 most] w fun x w' => x = .returned (.tuple #[.string ⟨#[]⟩, .string ⟨#[]⟩, .int .i64 e]) ∧ Below w.heap.size w w' := by
  have HV := Lib.hid hv
  have hd : (e != 0) = true := by simpa using he
  clear hv he
  go_enter Tryd.func56, Tryd.ntmps56
  go_wp2_with (go_at_call 55; refine (cutCount_at s most _ (by omega) hm HV.out).mono ?_; rintro r w' ⟨rfl, nd, rfl⟩)
  go_ret3
  exact ⟨rfl, ⟨rfl, rfl, rfl, Nat.le_refl _, fun _ _ => rfl⟩⟩

theorem decV_len : ∀ (l : List UInt8) (i acc : Nat), (decV i acc l).2.1.length ≤ l.length
  | [], i, acc => by simp [decV]
  | b :: r, i, acc => by
    rw [decV]
    by_cases h1 : (i = 9 ∧ 1 < b.toNat) ∨ (0 < i ∧ b.toNat = 0)
    · rw [if_pos h1]; simp
    · rw [if_neg h1]
      by_cases h2 : b.toNat < 128
      · rw [if_pos h2]; simp
      · rw [if_neg h2]
        have := decV_len r (i + 1) (acc + b.toNat % 128 * 2 ^ (7 * i))
        simp only [List.length_cons]
        omega
theorem decV_lt : ∀ (l : List UInt8) (i acc : Nat), i ≤ 9 → acc < 2 ^ (7 * i) → (decV i acc l).1 < 18446744073709551616
  | [], i, acc, _, _ => by simp [decV]
  | b :: r, i, acc, hi, ha => by
    rw [decV]
    have hp : 2 ^ (7 * i) ≤ 2 ^ (7 * 9) := Nat.pow_le_pow_right (by omega) (by omega)
    by_cases h1 : (i = 9 ∧ 1 < b.toNat) ∨ (0 < i ∧ b.toNat = 0)
    · rw [if_pos h1]; simp
    · rw [if_neg h1]
      by_cases h2 : b.toNat < 128
      · rw [if_pos h2]
        show acc + b.toNat * 2 ^ (7 * i) < _
        by_cases h9 : i = 9
        · subst h9
          have hb : b.toNat ≤ 1 := by omega
          have := Nat.mul_le_mul_right (2 ^ (7 * 9)) hb
          omega
        · have hp' : 2 ^ (7 * i) ≤ 2 ^ (7 * 8) := Nat.pow_le_pow_right (by omega) (by omega)
          have h3 : b.toNat ≤ 127 := by omega
          have := Nat.mul_le_mul h3 hp'
          omega
      · rw [if_neg h2]
        exact decV_lt r (i + 1) _ (by omega) (group_lt _ _ _ ha)

theorem take_str (r : List UInt8) (n : Nat) : (⟨r.toArray⟩ : ByteArray).extract 0 n = ⟨(r.take n).toArray⟩ := by
  apply ByteArray.ext
  apply Array.toList_inj.1
  rw [Lib.extract_data]
  simp
theorem tail_str (r : List UInt8) (n : Nat) : (⟨r.toArray⟩ : ByteArray).extract n r.length = ⟨(r.drop n).toArray⟩ := by
  have h := drop_str ⟨r.toArray⟩ n
  have hz : (⟨r.toArray⟩ : ByteArray).size = r.length := by show r.toArray.size = _; simp
  rw [hz] at h
  simpa using h

theorem decT_cases (most : Int) (l : List UInt8) : (∃ t r, decT most l = (t, r, 0)) ∨ (∃ e, e ≠ 0 ∧ decT most l = ([], [], e)) := by
  unfold decT
  by_cases h : (decC most l).2.2 ≠ 0
  · rw [if_pos h]; exact .inr ⟨_, h, rfl⟩
  · rw [if_neg h]
    by_cases h2 : (decC most l).2.1.length < (decC most l).1
    · rw [if_pos h2]; exact .inr ⟨5, by omega, rfl⟩
    · rw [if_neg h2]; exact .inl ⟨_, _, rfl⟩

theorem cutText_any (s : ByteArray) (most : Int) (w : World) (hs : s.size ≤ 140737488355328) (hm : most ≤ 9223372036854775807) :
    Calls Tryd.prog 56 #[.string s, .int .i64 most] w fun x w' => x = .returned (.tuple #[.string ⟨(decT most s.data.toList).1.toArray⟩, .string ⟨(decT most s.data.toList).2.1.toArray⟩, .int .i64 (decT most s.data.toList).2.2]) ∧ Below w.heap.size w w' := by
  rcases decC_cases most s.data.toList with ⟨n, r, hc, hn, hv⟩ | ⟨e, he, hc⟩
  · by_cases h2 : r.length < n
    · rw [show decT most s.data.toList = ([], [], 5) by unfold decT; rw [hc, if_neg (by simp), if_pos h2]]
      exact cutText_short s most w hs hm hc h2
    · rw [show decT most s.data.toList = (r.take n, r.drop n, 0) by unfold decT; rw [hc, if_neg (by simp), if_neg h2]]
      have hl := decV_len s.data.toList 0 0
      rw [hv, Array.length_toList] at hl
      have := cutText_ok s most w hs hm hc (by omega) hl
      rw [take_str, tail_str] at this
      exact this
  · rw [show decT most s.data.toList = ([], [], e) by unfold decT; rw [hc, if_pos he]]
    exact cutText_bad s most w hs hm hc he
theorem cutText_at (s : ByteArray) (most : Int) (w : World) (hs : s.size ≤ 140737488355328) (hm : most ≤ 9223372036854775807) {t r : List UInt8} {e : Int} (hv : decT most s.data.toList = (t, r, e)) :
    Calls Tryd.prog 56 #[.string s, .int .i64 most] w fun x w' => x = .returned (.tuple #[.string ⟨t.toArray⟩, .string ⟨r.toArray⟩, .int .i64 e]) ∧ Below w.heap.size w w' := by
  have := cutText_any s most w hs hm
  rw [hv] at this
  exact this

set_option maxHeartbeats 1000000 in
theorem rtext_ok (b : Nat) (s : ByteArray) (most : Int) (w : World) (h : IsRd w b s 0) (hs : s.size ≤ 140737488355328) (hm : most ≤ 9223372036854775807) {t r : List UInt8} (hv : decT most s.data.toList = (t, r, 0)) :
    Calls Tryd.prog 39 #[.pointer (some ⟨b, 0, none⟩), .int .i64 most] w fun x w' => x = .returned (.string ⟨t.toArray⟩) ∧ IsRd w' b ⟨r.toArray⟩ 0 ∧ w.grownBy w' (some b) := by
  have hc0 := h.c0
  have HV := Lib.hid hv
  clear hv
  go_enter Tryd.func39, Tryd.ntmps39
  go_wp2_with (first | (go_at_call 41; refine (err_any b s 0 _ h).mono ?_; rintro r w' ⟨rfl, rfl⟩) | (go_at_call 56; refine (cutText_at s most _ hs hm HV.out).mono ?_; rintro r w1 ⟨rfl, hb1⟩) | (go_at_call 54; refine (step_ok b s _ _ (h.below hb1 h.lt)).mono ?_; rintro r w' ⟨rfl, rfl⟩))
  go_ret
  exact ⟨rfl, (h.below hb1 h.lt).setRest _, grownBy_trans (grownBy_of_below hb1 _) (grownBy_set _ _ _ _)⟩
set_option maxHeartbeats 1000000 in
theorem rtext_bad (b : Nat) (s : ByteArray) (most : Int) (w : World) (h : IsRd w b s 0) (hs : s.size ≤ 140737488355328) (hm : most ≤ 9223372036854775807) {e : Int} (hv : decT most s.data.toList = ([], [], e)) (he : e ≠ 0) :
    Calls Tryd.prog 39 #[.pointer (some ⟨b, 0, none⟩), .int .i64 most] w fun x w' => x = .returned (.string ⟨#[]⟩) ∧ IsRd w' b s e ∧ w.grownBy w' (some b) := by
  have hc0 := h.c0
  have HV := Lib.hid hv
  have HE := Lib.hid he
  clear hv he
  go_enter Tryd.func39, Tryd.ntmps39
  go_wp2_with (first | (go_at_call 41; refine (err_any b s 0 _ h).mono ?_; rintro r w' ⟨rfl, rfl⟩) | (go_at_call 56; refine (cutText_at s most _ hs hm HV.out).mono ?_; rintro r w1 ⟨rfl, hb1⟩) | (go_at_call 54; refine (step_err b s _ e _ (h.below hb1 h.lt) HE.out).mono ?_; rintro r w' ⟨rfl, rfl⟩))
  go_ret
  exact ⟨rfl, (h.below hb1 h.lt).setErr _, grownBy_trans (grownBy_of_below hb1 _) (grownBy_set _ _ _ _)⟩

set_option maxHeartbeats 1000000 in
theorem rfix_arg (b : Nat) (s : ByteArray) (n : Int) (w : World) (h : IsRd w b s 0) (hn : n < 1 ∨ 8 < n) :
    Calls Tryd.prog 35 #[.pointer (some ⟨b, 0, none⟩), .int .i64 n] w fun x w' => x = .returned (.int .u64 0) ∧ IsRd w' b s 1 ∧ w.grownBy w' (some b) := by
  have hc0 := h.c0
  have HN : Hid (n < 1 ∨ 8 < n ∨ (0 : Int) < 0) := by show _ ∨ _; omega
  clear hn
  go_enter Tryd.func35, Tryd.ntmps35
  go_wp2_with (first | (go_at_call 41; refine (err_any b s 0 _ h).mono ?_; rintro r w' ⟨rfl, rfl⟩) | (go_at_call 13; refine (unfix_arg s 0 n _ HN.out).mono ?_; rintro r w' ⟨rfl, rfl⟩) | (go_at_call 33; refine (fail_first b s 1 _ h).mono ?_; rintro r w' ⟨rfl, rfl⟩))
  go_ret
  exact ⟨rfl, h.setErr _, grownBy_set _ _ _ _⟩
set_option maxHeartbeats 1000000 in
theorem rfix_short (b : Nat) (s : ByteArray) (n : Int) (w : World) (h : IsRd w b s 0) (hs : s.size ≤ 9223372036854775807) (h1 : 1 ≤ n) (h8 : n ≤ 8) (hn : (s.size : Int) < n) :
    Calls Tryd.prog 35 #[.pointer (some ⟨b, 0, none⟩), .int .i64 n] w fun x w' => x = .returned (.int .u64 0) ∧ IsRd w' b s 5 ∧ w.grownBy w' (some b) := by
  have hc0 := h.c0
  go_enter Tryd.func35, Tryd.ntmps35
  go_wp2_with (first | (go_at_call 41; refine (err_any b s 0 _ h).mono ?_; rintro r w' ⟨rfl, rfl⟩) | (go_at_call 13; refine (unfix_short s 0 n _ hs h1 h8 (by omega) (by omega)).mono ?_; rintro r w' ⟨rfl, rfl⟩) | (go_at_call 33; refine (fail_first b s 5 _ h).mono ?_; rintro r w' ⟨rfl, rfl⟩))
  go_ret
  exact ⟨rfl, h.setErr _, grownBy_set _ _ _ _⟩
theorem unfix_front (s : ByteArray) (n : Nat) (w : World) (hs : s.size ≤ 9223372036854775807) (h1 : 1 ≤ n) (h2 : n ≤ 8) (h : n ≤ s.size) :
    Calls Tryd.prog 13 #[.string s, .int .i64 0, .int .i64 n] w fun e w' => e = .returned (.tuple #[.int .u64 (beVal (s.data.toList.take n) : Nat), .int .i64 0]) ∧ w = w' := by
  have := unfix_ok s 0 n w hs h1 h2 (by omega)
  unfold piece at this
  rw [List.drop_zero] at this
  exact this
set_option maxHeartbeats 1000000 in
theorem rfix_ok (b : Nat) (s : ByteArray) (n : Nat) (w : World) (h : IsRd w b s 0) (hs : s.size ≤ 9223372036854775807) (h1 : 1 ≤ n) (h8 : n ≤ 8) (hn : n ≤ s.size) :
    Calls Tryd.prog 35 #[.pointer (some ⟨b, 0, none⟩), .int .i64 n] w fun x w' => x = .returned (.int .u64 (beVal (s.data.toList.take n) : Nat)) ∧ IsRd w' b (s.extract n s.size) 0 ∧ w.grownBy w' (some b) := by
  have hc0 := h.c0
  have hf0 := h.f0
  have hn' : (n : Int) ≤ (s.size : Int) := by omega
  go_enter Tryd.func35, Tryd.ntmps35
  go_wp2_with (first | (go_at_call 41; refine (err_any b s 0 _ h).mono ?_; rintro r w' ⟨rfl, rfl⟩) | (go_at_call 13; refine (unfix_front s n _ hs h1 h8 hn).mono ?_; rintro r w' ⟨rfl, rfl⟩))
  go_ret
  exact ⟨rfl, h.setRest _, grownBy_set _ _ _ _⟩
end Go.Proofs.YtnkmchlldhdenaaDoor
