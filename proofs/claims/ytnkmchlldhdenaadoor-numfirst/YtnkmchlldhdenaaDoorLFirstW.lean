/- The walks of statement NumFirst of chapter 1: it answers true for all bytes and every int. -/
import Derived.Test.YtnkmchlldhdenaaDoorW5
import Derived.Test.YtnkmchlldhdenaaDoorW8
namespace Go.Proofs.YtnkmchlldhdenaaDoor
open Go.RowKit

set_option maxHeartbeats 2000000 in
theorem numFirst_long (s : ByteArray) (n : Int) (w : World) (hs : 3000 < s.size) (htab : Tab w.heap.size w) :
    Calls Tryd.prog 7 #[.string s, .int .i64 n] w fun e w' => e = .returned (.bool true) ∧ Below w.heap.size w w' := by
  have HT := Lib.hid htab
  clear htab
  go_enter Tryd.func7, Tryd.ntmps7
  go_wp2_with (go_at_call 10; refine (alive_any w.heap.size _ (Nat.le_refl _) HT.out).mono ?_; rintro r w2 ⟨rfl, hb2⟩)
  go_ret
  exact ⟨rfl, hb2⟩

set_option maxHeartbeats 2000000 in
theorem numFirst_ok (s : ByteArray) (n : Int) (w : World) (hs : ¬ 3000 < s.size) (hn : n ≤ 9223372036854775807) (htab : Tab w.heap.size w) {v : Nat} {r : List UInt8} (hv : decC n s.data.toList = (v, r, 0)) :
    Calls Tryd.prog 7 #[.string s, .int .i64 n] w fun e w' => e = .returned (.bool true) ∧ Below w.heap.size w w' := by
  have HT := Lib.hid htab
  have HV := Lib.hid hv
  clear htab hv
  go_enter Tryd.func7, Tryd.ntmps7
  go_wp2_with fail
  refine (newReader_any _ _).mono ?_
  rintro e w1 ⟨rfl, hr1, hb1, -⟩
  go_wp2_with fail
  refine (rcount_ok _ _ _ _ hr1 (by omega) hn HV.out).mono ?_
  rintro e w2 ⟨rfl, hr2, hg2⟩
  replace hb1 := hb1.trans (below_of_grownBy hg2 (Nat.le_refl _) hb1.size)
  clear hg2 hr1
  go_wp2_with (first | (go_at_call 41; refine (err_any _ _ _ _ hr2).mono ?_; rintro r w' ⟨rfl, rfl⟩) | (go_at_call 38; refine (left_any _ _ _ _ hr2).mono ?_; rintro r w' ⟨rfl, rfl⟩) | (go_at_call 10; refine (alive_any w.heap.size _ hb1.size (HT.out.on hb1)).mono ?_; rintro r w3 ⟨rfl, hb3⟩))
  go_ret
  exact ⟨rfl, hb1.trans (hb3.mono hb1.size)⟩

set_option maxHeartbeats 2000000 in
theorem numFirst_bad (s : ByteArray) (n : Int) (w : World) (hs : ¬ 3000 < s.size) (hn : n ≤ 9223372036854775807) (htab : Tab w.heap.size w) {e : Int} (hv : decC n s.data.toList = (0, [], e)) (he : e ≠ 0) :
    Calls Tryd.prog 7 #[.string s, .int .i64 n] w fun e w' => e = .returned (.bool true) ∧ Below w.heap.size w w' := by
  have HT := Lib.hid htab
  have HV := Lib.hid hv
  have HE := Lib.hid he
  have hd : (e == 0) = false := by simpa using he
  clear htab hv he
  go_enter Tryd.func7, Tryd.ntmps7
  go_wp2_with fail
  refine (newReader_any _ _).mono ?_
  rintro x w1 ⟨rfl, hr1, hb1, -⟩
  go_wp2_with fail
  refine (rcount_bad _ _ _ _ hr1 (by omega) hn HV.out HE.out).mono ?_
  rintro x w2 ⟨rfl, hr2, hg2⟩
  replace hb1 := hb1.trans (below_of_grownBy hg2 (Nat.le_refl _) hb1.size)
  clear hg2 hr1
  go_wp2_with (first | (go_at_call 41; refine (err_any _ _ _ _ hr2).mono ?_; rintro r w' ⟨rfl, rfl⟩) | (go_at_call 38; refine (left_any _ _ _ _ hr2).mono ?_; rintro r w' ⟨rfl, rfl⟩) | (go_at_call 33; refine (fail_later _ _ _ _ _ hr2 HE.out).mono ?_; rintro r w' ⟨rfl, rfl⟩; refine Hid.out ?_))
  refine Lib.hid ?_
  go_wp2_with fail
  refine (alive_any w.heap.size _ hb1.size (HT.out.on hb1)).mono ?_
  rintro x w3 ⟨rfl, hb3⟩
  have hr3 := hr2.below hb3 hr2.lt
  clear hr2
  go_wp2_with (first | (go_at_call 41; refine (err_any _ _ _ _ hr3).mono ?_; rintro r w' ⟨rfl, rfl⟩) | (go_at_call 38; refine (left_any _ _ _ _ hr3).mono ?_; rintro r w' ⟨rfl, rfl⟩) | (go_at_call 34; refine (rvar_err _ _ _ _ hr3 HE.out).mono ?_; rintro r w' ⟨rfl, rfl⟩) | (go_at_call 39; refine (rtext_err _ _ _ _ _ hr3 HE.out).mono ?_; rintro r w' ⟨rfl, rfl⟩) | (go_at_call 40; refine (rbool_err _ _ _ _ hr3 HE.out).mono ?_; rintro r w' ⟨rfl, rfl⟩) | (go_at_call 35; refine (rfix_err _ _ _ _ _ hr3 HE.out).mono ?_; rintro r w' ⟨rfl, rfl⟩) | (go_at_call 42; refine (end_err _ _ _ _ hr3 HE.out).mono ?_; rintro r w' ⟨rfl, rfl⟩))
  go_ret
  exact ⟨rfl, hb1.trans (hb3.mono hb1.size)⟩

theorem numFirst_walk (s : ByteArray) (_ : s.size ≤ maxLen) (n : Int) (_ : -9223372036854775808 ≤ n) (hn : n ≤ 9223372036854775807) (w : World) (htab : Tab w.heap.size w) :
    Calls Tryd.prog 7 #[.string s, .int .i64 n] w fun e w' => e = .returned (.bool true) ∧ Below w.heap.size w w' := by
  by_cases h : 3000 < s.size
  · exact numFirst_long s n w h htab
  · rcases decC_cases n s.data.toList with ⟨v, r, hc, -, -⟩ | ⟨e, he, hc⟩
    · exact numFirst_ok s n w h hn htab hc
    · exact numFirst_bad s n w h hn htab hc he
end Go.Proofs.YtnkmchlldhdenaaDoor
