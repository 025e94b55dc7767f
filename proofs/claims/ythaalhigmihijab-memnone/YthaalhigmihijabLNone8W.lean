/- Statement MemNone. -/
import Derived.Test.YthaalhigmihijabM5
import Derived.Test.YthaalhigmihijabMT
namespace Go.Proofs.Ythaalhigmihijab
open Go.RowKit

set_option maxHeartbeats 4000000 in
set_option maxRecDepth 100000 in
theorem memNone_walk (first : Nat) (_ : first < 18446744073709551616) (a : Option Addr) (len cap : Nat) (ws : List Wr) (w : World) (hI : IsWs w a len ws) :
    Calls Try.prog 5 #[.int .u64 (first : Int), .slice a len cap] w fun e w' => e = .returned (.bool true) ∧ Below w.heap.size w w' := by
  have CS := Lib.hid (smallW_any a len cap ws hI.2.2 (by have := hI.1; unfold maxLen at this; omega) hI.2.1)
  have CA := Lib.hid alive8_any
  have C0 := Lib.hid memAdd_nil
  have C1 := Lib.hid memGet_nil
  have C2 := Lib.hid memRange_nil
  have C3 := Lib.hid memSize_nil
  have C4 := Lib.hid memLen_nil
  have C5 := Lib.hid memLast_nil
  unfold getV Ent.val ev at C1
  clear hI
  go_enter Try.func5, Try.ntmps5
  go_wp2_with (fail)
  go_at_call 18
  refine CS.out.mono ?_
  rintro _ w1 ⟨t, rfl, -, b1⟩
  cases t with
  | false =>
    go_wp2_with (go_at_call 19; refine (CA.out _).mono ?_; rintro _ w2 ⟨rfl, b2⟩)
    go_ret
    exact ⟨rfl, b1.trans (b2.mono b1.size)⟩
  | true =>
    go_wp2_with (fail)
    (with_reducible refine (C0.out _ _ _).mono ?_)
    rintro _ _ ⟨rfl, rfl⟩
    go_wp2_with (fail)
    (with_reducible refine (C1.out _ _ _).mono ?_)
    rintro _ w3 ⟨rfl, b3⟩
    have hb3 := b1.trans (b3.mono b1.size)
    go_wp2_with (first
      | (go_at_call 19; (with_reducible refine (CA.out _).mono ?_); rintro _ w5 ⟨rfl, b5⟩)
      | (go_at_call 22; (with_reducible refine (C2.out _ _ _).mono ?_); rintro _ _ ⟨rfl, rfl⟩)
      | (go_at_call 23; (with_reducible refine (C3.out _).mono ?_); rintro _ _ ⟨rfl, rfl⟩)
      | (go_at_call 24; (with_reducible refine (C4.out _).mono ?_); rintro _ _ ⟨rfl, rfl⟩)
      | (go_at_call 25; (with_reducible refine (C5.out _).mono ?_); rintro _ _ ⟨rfl, rfl⟩)
      | fail)
    go_ret
    have hb4 := hb3.alloc hb3.size (.cells #[.string ⟨#[]⟩, .int .u64 0, .int .i64 0, .string ⟨#[]⟩] 30)
    exact ⟨rfl, hb4.trans (b5.mono hb4.size)⟩
end Go.Proofs.Ythaalhigmihijab
