/- Contracts of num.Reader's methods Err, Fail, Left, End, step, Var and Int, of a reader that lies in memory and of a nil one: what each returns and what becomes of the reader. -/
import Derived.Test.YtnkmchlldhdenaaDoorW3
namespace Go.Proofs.YtnkmchlldhdenaaDoor
open Go.RowKit

theorem grownBy_trans {w w1 w2 : World} {r : Option Nat} (h : w.grownBy w1 r) (k : w1.grownBy w2 r) : w.grownBy w2 r :=
  ⟨k.os.trans h.os, k.tape.trans h.tape, k.output.trans h.output, Nat.le_trans h.size k.size, fun i hi hr => (k.block i (Nat.lt_of_lt_of_le hi h.size) hr).trans (h.block i hi hr)⟩
theorem grownBy_set (w : World) (b o : Nat) (v : Value) : w.grownBy (w.setCell ⟨b, o, none⟩ v) (some b) :=
  ⟨rfl, rfl, rfl, by simp [World.setCell], fun k _ hk => Below.heap_setCell _ _ _ _ (fun e => hk (by simp [e]))⟩
theorem grownBy_drewN (w : World) (n : Nat) (r : Option Nat) : w.grownBy (w.drewN n) r := ⟨rfl, rfl, rfl, Nat.le_refl _, fun _ _ _ => rfl⟩
theorem grownBy_of_below {w w' : World} (h : Below w.heap.size w w') (r : Option Nat) : w.grownBy w' r := ⟨h.os, h.tape, h.output, h.size, fun k hk _ => h.block k hk⟩
theorem below_of_grownBy {B b : Nat} {w w' : World} (h : w.grownBy w' (some b)) (hB : B ≤ b) (hw : B ≤ w.heap.size) : Below B w w' :=
  (Below.refl B w).grown h hw (fun _ hk => by cases hk; exact hB)

theorem IsRd.lt {w : World} {b : Nat} {s : ByteArray} {e : Int} (h : IsRd w b s e) : b < w.heap.size := by
  have := h.c0
  rcases Nat.lt_or_ge b w.heap.size with h1 | h1
  · exact h1
  · simp [World.cell?, Array.getElem?_eq_none h1] at this
theorem IsRd.below {w w' : World} {b B : Nat} {s : ByteArray} {e : Int} (h : IsRd w b s e) (hb : Below B w w') (hB : b < B) : IsRd w' b s e :=
  ⟨(hb.cell (p := ⟨b, 0, none⟩) hB).trans h.c0, (hb.cell (p := ⟨b, 1, none⟩) hB).trans h.c1, (hb.frozen (p := ⟨b, 0, none⟩) hB).trans h.f0, (hb.frozen (p := ⟨b, 1, none⟩) hB).trans h.f1⟩
theorem IsRd.drewN {w : World} {b : Nat} {s : ByteArray} {e : Int} (h : IsRd w b s e) (n : Nat) : IsRd (w.drewN n) b s e :=
  h.below (B := w.heap.size) ⟨rfl, rfl, rfl, Nat.le_refl _, fun _ _ => rfl⟩ h.lt
theorem IsRd.setErr {w : World} {b : Nat} {s : ByteArray} {e : Int} (h : IsRd w b s e) (e2 : Int) : IsRd (w.setCell ⟨b, 1, none⟩ (.int .i64 e2)) b s e2 :=
  ⟨(World.cell?_setCell_other _ _ _ _ (by simp)).trans h.c0, World.cell?_setCell_same _ _ _ h.c1, by simpa using h.f0, by simpa using h.f1⟩
theorem IsRd.setRest {w : World} {b : Nat} {s : ByteArray} {e : Int} (h : IsRd w b s e) (s2 : ByteArray) : IsRd (w.setCell ⟨b, 0, none⟩ (.string s2)) b s2 e :=
  ⟨World.cell?_setCell_same _ _ _ h.c0, (World.cell?_setCell_other _ _ _ _ (by simp)).trans h.c1, by simpa using h.f0, by simpa using h.f1⟩

theorem err_any (b : Nat) (s : ByteArray) (e : Int) (w : World) (h : IsRd w b s e) :
    Calls Tryd.prog 41 #[.pointer (some ⟨b, 0, none⟩)] w fun r w' => r = .returned (.int .i64 e) ∧ w = w' := by
  have hc1 := h.c1
  clear h
  go_enter Tryd.func41, Tryd.ntmps41
  go_wp2
  go_ret
  exact ⟨rfl, rfl⟩
theorem err_nil (w : World) :
    Calls Tryd.prog 41 #[.pointer none] w fun r w' => r = .returned (.int .i64 1) ∧ w = w' := by
  go_enter Tryd.func41, Tryd.ntmps41
  go_wp2
  go_ret
  exact ⟨rfl, rfl⟩
theorem left_any (b : Nat) (s : ByteArray) (e : Int) (w : World) (h : IsRd w b s e) :
    Calls Tryd.prog 38 #[.pointer (some ⟨b, 0, none⟩)] w fun r w' => r = .returned (.int .i64 s.size) ∧ w = w' := by
  have hc0 := h.c0
  clear h
  go_enter Tryd.func38, Tryd.ntmps38
  go_wp2
  go_ret
  exact ⟨rfl, rfl⟩
theorem left_nil (w : World) :
    Calls Tryd.prog 38 #[.pointer none] w fun r w' => r = .returned (.int .i64 0) ∧ w = w' := by
  go_enter Tryd.func38, Tryd.ntmps38
  go_wp2
  go_ret
  exact ⟨rfl, rfl⟩

theorem fail_first (b : Nat) (s : ByteArray) (e2 : Int) (w : World) (h : IsRd w b s 0) :
    Calls Tryd.prog 33 #[.pointer (some ⟨b, 0, none⟩), .int .i64 e2] w fun r w' => r = .returned (.tuple #[]) ∧ w' = w.setCell ⟨b, 1, none⟩ (.int .i64 e2) := by
  have hc1 := h.c1
  have hf1 := h.f1
  go_enter Tryd.func33, Tryd.ntmps33
  go_wp2_with (go_at_call 41; refine (err_any b s 0 _ h).mono ?_; rintro r w' ⟨rfl, rfl⟩)
  go_end0
  exact ⟨rfl, rfl⟩
theorem fail_later (b : Nat) (s : ByteArray) (e e2 : Int) (w : World) (h : IsRd w b s e) (he : e ≠ 0) :
    Calls Tryd.prog 33 #[.pointer (some ⟨b, 0, none⟩), .int .i64 e2] w fun r w' => r = .returned (.tuple #[]) ∧ w = w' := by
  have hd : (e == 0) = false := by simpa using he
  clear he
  go_enter Tryd.func33, Tryd.ntmps33
  go_wp2_with (go_at_call 41; refine (err_any b s e _ h).mono ?_; rintro r w' ⟨rfl, rfl⟩)
  go_end0
  exact ⟨rfl, rfl⟩
theorem fail_nil (e2 : Int) (w : World) :
    Calls Tryd.prog 33 #[.pointer none, .int .i64 e2] w fun r w' => r = .returned (.tuple #[]) ∧ w = w' := by
  go_enter Tryd.func33, Tryd.ntmps33
  go_wp2_with (go_at_call 41; refine (err_nil _).mono ?_; rintro r w' ⟨rfl, rfl⟩)
  go_end0
  exact ⟨rfl, rfl⟩

theorem end_err (b : Nat) (s : ByteArray) (e : Int) (w : World) (h : IsRd w b s e) (he : e ≠ 0) :
    Calls Tryd.prog 42 #[.pointer (some ⟨b, 0, none⟩)] w fun r w' => r = .returned (.int .i64 e) ∧ w = w' := by
  have hd : (e != 0) = true := by simpa using he
  clear he
  go_enter Tryd.func42, Tryd.ntmps42
  go_wp2_with (go_at_call 41; refine (err_any b s e _ h).mono ?_; rintro r w' ⟨rfl, rfl⟩)
  go_ret
  exact ⟨rfl, rfl⟩
theorem end_left (b : Nat) (s : ByteArray) (w : World) (h : IsRd w b s 0) (hs : 0 < s.size) :
    Calls Tryd.prog 42 #[.pointer (some ⟨b, 0, none⟩)] w fun r w' => r = .returned (.int .i64 4) ∧ w = w' := by
  go_enter Tryd.func42, Tryd.ntmps42
  go_wp2_with (first | (go_at_call 41; refine (err_any b s 0 _ h).mono ?_; rintro r w' ⟨rfl, rfl⟩) | (go_at_call 38; refine (left_any b s 0 _ h).mono ?_; rintro r w' ⟨rfl, rfl⟩))
  go_ret
  exact ⟨rfl, rfl⟩
theorem end_ok (b : Nat) (s : ByteArray) (w : World) (h : IsRd w b s 0) (hs : s.size = 0) :
    Calls Tryd.prog 42 #[.pointer (some ⟨b, 0, none⟩)] w fun r w' => r = .returned (.int .i64 0) ∧ w = w' := by
  go_enter Tryd.func42, Tryd.ntmps42
  go_wp2_with (first | (go_at_call 41; refine (err_any b s 0 _ h).mono ?_; rintro r w' ⟨rfl, rfl⟩) | (go_at_call 38; refine (left_any b s 0 _ h).mono ?_; rintro r w' ⟨rfl, rfl⟩))
  go_ret
  exact ⟨rfl, rfl⟩
theorem end_nil (w : World) :
    Calls Tryd.prog 42 #[.pointer none] w fun r w' => r = .returned (.int .i64 1) ∧ w = w' := by
  go_enter Tryd.func42, Tryd.ntmps42
  go_wp2_with (go_at_call 41; refine (err_nil _).mono ?_; rintro r w' ⟨rfl, rfl⟩)
  go_ret
  exact ⟨rfl, rfl⟩

theorem step_ok (b : Nat) (s rest : ByteArray) (w : World) (h : IsRd w b s 0) :
    Calls Tryd.prog 54 #[.pointer (some ⟨b, 0, none⟩), .string rest, .int .i64 0] w fun r w' => r = .returned (.tuple #[]) ∧ w' = w.setCell ⟨b, 0, none⟩ (.string rest) := by
  have hc0 := h.c0
  have hf0 := h.f0
  go_enter Tryd.func54, Tryd.ntmps54
  go_wp2
  go_end0
  exact ⟨rfl, rfl⟩
theorem step_err (b : Nat) (s rest : ByteArray) (e : Int) (w : World) (h : IsRd w b s 0) (he : e ≠ 0) :
    Calls Tryd.prog 54 #[.pointer (some ⟨b, 0, none⟩), .string rest, .int .i64 e] w fun r w' => r = .returned (.tuple #[]) ∧ w' = w.setCell ⟨b, 1, none⟩ (.int .i64 e) := by
  have hd : (e != 0) = true := by simpa using he
  clear he
  go_enter Tryd.func54, Tryd.ntmps54
  go_wp2_with (go_at_call 33; refine (fail_first b s e _ h).mono ?_; rintro r w' ⟨rfl, rfl⟩)
  first | go_end0 | refine bodyPost_ret (results_none rfl _ _ _) rfl ?_
  exact ⟨rfl, rfl⟩

theorem cutVar_at (s : ByteArray) (w : World) (hs : s.size ≤ 9223372036854775807) {v : Nat} {r : List UInt8} {e : Int} (hv : decV 0 0 s.data.toList = (v, r, e)) :
    Calls Tryd.prog 53 #[.string s] w fun x w' => x = .returned (.tuple #[.int .u64 v, .string ⟨r.toArray⟩, .int .i64 e]) ∧ ∃ n, w' = w.drewN n := by
  have := cutVar_any s w hs
  rw [hv] at this
  exact this

set_option maxHeartbeats 1000000 in
theorem rvar_ok (b : Nat) (s : ByteArray) (w : World) (h : IsRd w b s 0) (hs : s.size ≤ 9223372036854775807) {v : Nat} {r : List UInt8} (hv : decV 0 0 s.data.toList = (v, r, 0)) :
    Calls Tryd.prog 34 #[.pointer (some ⟨b, 0, none⟩)] w fun x w' => x = .returned (.int .u64 v) ∧ IsRd w' b ⟨r.toArray⟩ 0 ∧ w.grownBy w' (some b) := by
  have hc0 := h.c0
  have HV := Lib.hid hv
  clear hv
  go_enter Tryd.func34, Tryd.ntmps34
  go_wp2_with (first | (go_at_call 41; refine (err_any b s 0 _ h).mono ?_; rintro r w' ⟨rfl, rfl⟩) | (go_at_call 53; refine (cutVar_at s _ hs HV.out).mono ?_; rintro r w' ⟨rfl, n, rfl⟩) | (go_at_call 54; refine (step_ok b s _ _ (h.drewN _)).mono ?_; rintro r w' ⟨rfl, rfl⟩))
  go_ret
  exact ⟨rfl, (h.drewN _).setRest _, grownBy_trans (grownBy_drewN _ _ _) (grownBy_set _ _ _ _)⟩
set_option maxHeartbeats 1000000 in
theorem rvar_bad (b : Nat) (s : ByteArray) (w : World) (h : IsRd w b s 0) (hs : s.size ≤ 9223372036854775807) {e : Int} (hv : decV 0 0 s.data.toList = (0, [], e)) (he : e ≠ 0) :
    Calls Tryd.prog 34 #[.pointer (some ⟨b, 0, none⟩)] w fun x w' => x = .returned (.int .u64 0) ∧ IsRd w' b s e ∧ w.grownBy w' (some b) := by
  have hc0 := h.c0
  have HV := Lib.hid hv
  have HE := Lib.hid he
  clear hv he
  go_enter Tryd.func34, Tryd.ntmps34
  go_wp2_with (first | (go_at_call 41; refine (err_any b s 0 _ h).mono ?_; rintro r w' ⟨rfl, rfl⟩) | (go_at_call 53; refine (cutVar_at s _ hs HV.out).mono ?_; rintro r w' ⟨rfl, n, rfl⟩) | (go_at_call 54; refine (step_err b s _ e _ (h.drewN _) HE.out).mono ?_; rintro r w' ⟨rfl, rfl⟩))
  go_ret
  exact ⟨rfl, (h.drewN _).setErr _, grownBy_trans (grownBy_drewN _ _ _) (grownBy_set _ _ _ _)⟩
theorem rvar_err (b : Nat) (s : ByteArray) (e : Int) (w : World) (h : IsRd w b s e) (he : e ≠ 0) :
    Calls Tryd.prog 34 #[.pointer (some ⟨b, 0, none⟩)] w fun x w' => x = .returned (.int .u64 0) ∧ w = w' := by
  have hd : (e != 0) = true := by simpa using he
  clear he
  go_enter Tryd.func34, Tryd.ntmps34
  go_wp2_with (go_at_call 41; refine (err_any b s e _ h).mono ?_; rintro r w' ⟨rfl, rfl⟩)
  go_ret
  exact ⟨rfl, rfl⟩
theorem rvar_nil (w : World) :
    Calls Tryd.prog 34 #[.pointer none] w fun x w' => x = .returned (.int .u64 0) ∧ w = w' := by
  go_enter Tryd.func34, Tryd.ntmps34
  go_wp2_with (go_at_call 41; refine (err_nil _).mono ?_; rintro r w' ⟨rfl, rfl⟩)
  go_ret
  exact ⟨rfl, rfl⟩
end Go.Proofs.YtnkmchlldhdenaaDoor
