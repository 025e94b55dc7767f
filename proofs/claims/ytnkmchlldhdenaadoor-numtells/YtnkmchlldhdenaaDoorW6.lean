/- Contracts of num.Reader's reading methods, of a nil reader and of one that has an error: each answers 0, the empty text or false, and nothing is read. -/
import Derived.Test.YtnkmchlldhdenaaDoorW4
namespace Go.Proofs.YtnkmchlldhdenaaDoor
open Go.RowKit

theorem rfix_nil (n : Int) (w : World) :
    Calls Tryd.prog 35 #[.pointer none, .int .i64 n] w fun x w' => x = .returned (.int .u64 0) ∧ w = w' := by
  go_enter Tryd.func35, Tryd.ntmps35
  go_wp2_with (go_at_call 41; refine (err_nil _).mono ?_; rintro r w' ⟨rfl, rfl⟩)
  go_ret
  exact ⟨rfl, rfl⟩
theorem rfix_err (n : Int) (b : Nat) (s : ByteArray) (e : Int) (w : World) (h : IsRd w b s e) (he : e ≠ 0) :
    Calls Tryd.prog 35 #[.pointer (some ⟨b, 0, none⟩), .int .i64 n] w fun x w' => x = .returned (.int .u64 0) ∧ w = w' := by
  have hd : (e != 0) = true := by simpa using he
  clear he
  go_enter Tryd.func35, Tryd.ntmps35
  go_wp2_with (go_at_call 41; refine (err_any b s e _ h).mono ?_; rintro r w' ⟨rfl, rfl⟩)
  go_ret
  exact ⟨rfl, rfl⟩

theorem rcount_nil (n : Int) (w : World) :
    Calls Tryd.prog 37 #[.pointer none, .int .i64 n] w fun x w' => x = .returned (.int .i64 0) ∧ w = w' := by
  go_enter Tryd.func37, Tryd.ntmps37
  go_wp2_with (go_at_call 41; refine (err_nil _).mono ?_; rintro r w' ⟨rfl, rfl⟩)
  go_ret
  exact ⟨rfl, rfl⟩
theorem rcount_err (n : Int) (b : Nat) (s : ByteArray) (e : Int) (w : World) (h : IsRd w b s e) (he : e ≠ 0) :
    Calls Tryd.prog 37 #[.pointer (some ⟨b, 0, none⟩), .int .i64 n] w fun x w' => x = .returned (.int .i64 0) ∧ w = w' := by
  have hd : (e != 0) = true := by simpa using he
  clear he
  go_enter Tryd.func37, Tryd.ntmps37
  go_wp2_with (go_at_call 41; refine (err_any b s e _ h).mono ?_; rintro r w' ⟨rfl, rfl⟩)
  go_ret
  exact ⟨rfl, rfl⟩

theorem rtext_nil (n : Int) (w : World) :
    Calls Tryd.prog 39 #[.pointer none, .int .i64 n] w fun x w' => x = .returned (.string ⟨#[]⟩) ∧ w = w' := by
  go_enter Tryd.func39, Tryd.ntmps39
  go_wp2_with (go_at_call 41; refine (err_nil _).mono ?_; rintro r w' ⟨rfl, rfl⟩)
  go_ret
  exact ⟨rfl, rfl⟩
theorem rtext_err (n : Int) (b : Nat) (s : ByteArray) (e : Int) (w : World) (h : IsRd w b s e) (he : e ≠ 0) :
    Calls Tryd.prog 39 #[.pointer (some ⟨b, 0, none⟩), .int .i64 n] w fun x w' => x = .returned (.string ⟨#[]⟩) ∧ w = w' := by
  have hd : (e != 0) = true := by simpa using he
  clear he
  go_enter Tryd.func39, Tryd.ntmps39
  go_wp2_with (go_at_call 41; refine (err_any b s e _ h).mono ?_; rintro r w' ⟨rfl, rfl⟩)
  go_ret
  exact ⟨rfl, rfl⟩

theorem rbool_nil (w : World) :
    Calls Tryd.prog 40 #[.pointer none] w fun x w' => x = .returned (.bool false) ∧ w = w' := by
  go_enter Tryd.func40, Tryd.ntmps40
  go_wp2_with (go_at_call 41; refine (err_nil _).mono ?_; rintro r w' ⟨rfl, rfl⟩)
  go_ret
  exact ⟨rfl, rfl⟩
theorem rbool_err (b : Nat) (s : ByteArray) (e : Int) (w : World) (h : IsRd w b s e) (he : e ≠ 0) :
    Calls Tryd.prog 40 #[.pointer (some ⟨b, 0, none⟩)] w fun x w' => x = .returned (.bool false) ∧ w = w' := by
  have hd : (e != 0) = true := by simpa using he
  clear he
  go_enter Tryd.func40, Tryd.ntmps40
  go_wp2_with (go_at_call 41; refine (err_any b s e _ h).mono ?_; rintro r w' ⟨rfl, rfl⟩)
  go_ret
  exact ⟨rfl, rfl⟩

theorem zag0 (w : World) : Calls Tryd.prog 25 #[.int .u64 0] w fun e w' => e = .returned (.int .i64 0) ∧ w = w' :=
  zag_any 0 w (by omega)
theorem rint_nil (w : World) :
    Calls Tryd.prog 36 #[.pointer none] w fun x w' => x = .returned (.int .i64 0) ∧ w = w' := by
  go_enter Tryd.func36, Tryd.ntmps36
  go_wp2_with (first | (go_at_call 34; refine (rvar_nil _).mono ?_; rintro r w' ⟨rfl, rfl⟩) | (go_at_call 25; refine (zag0 _).mono ?_; rintro r w' ⟨rfl, rfl⟩))
  go_ret
  exact ⟨rfl, rfl⟩
theorem rint_err (b : Nat) (s : ByteArray) (e : Int) (w : World) (h : IsRd w b s e) (he : e ≠ 0) :
    Calls Tryd.prog 36 #[.pointer (some ⟨b, 0, none⟩)] w fun x w' => x = .returned (.int .i64 0) ∧ w = w' := by
  have HE := Lib.hid he
  clear he
  go_enter Tryd.func36, Tryd.ntmps36
  go_wp2_with (first | (go_at_call 34; refine (rvar_err b s e _ h HE.out).mono ?_; rintro r w' ⟨rfl, rfl⟩) | (go_at_call 25; refine (zag0 _).mono ?_; rintro r w' ⟨rfl, rfl⟩))
  go_ret
  exact ⟨rfl, rfl⟩
end Go.Proofs.YtnkmchlldhdenaaDoor
