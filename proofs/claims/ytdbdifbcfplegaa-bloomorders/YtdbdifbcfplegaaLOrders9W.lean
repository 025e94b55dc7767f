/- Statement BloomOrders. -/
import Derived.Test.YtdbdifbcfplegaaLOrders9V
namespace Go.Proofs.Ytdbdifbcfplegaa
open Go.RowKit

set_option maxHeartbeats 4000000 in
set_option maxRecDepth 100000 in
theorem bloomOrders_walk (pa : Option Addr) (len cap : Nat) (ss : List ByteArray) (a : Int) (ha0 : -9223372036854775808 ≤ a) (ha1 : a ≤ 9223372036854775807) (b : Int) (hb0 : -9223372036854775808 ≤ b) (hb1 : b ≤ 9223372036854775807) (w : World) (hI : IsRowS w pa len ss) :
    Calls Try.prog 5 #[.slice pa len cap, .int .i64 a, .int .i64 b] w fun e w' => e = .returned (.bool true) ∧ Below w.heap.size w w' := by
  have CA := Lib.hid alive9_any
  have hlen := hI.1
  by_cases g1 : 60 < len
  · clear hlen
    go_enter Try.func5, Try.ntmps5
    go_wp2_with (go_at_call 7; refine (CA.out _).mono ?_; rintro _ w2 ⟨rfl, b2⟩)
    go_ret
    exact ⟨rfl, b2⟩
  by_cases g2 : len = 0
  · clear hlen hI
    subst g2
    go_enter Try.func5, Try.ntmps5
    go_wp2_with (go_at_call 7; refine (CA.out _).mono ?_; rintro _ w2 ⟨rfl, b2⟩)
    go_ret
    exact ⟨rfl, b2⟩
  by_cases g3 : a < 0
  · clear hlen
    go_enter Try.func5, Try.ntmps5
    go_wp2_with (go_at_call 7; refine (CA.out _).mono ?_; rintro _ w2 ⟨rfl, b2⟩)
    go_ret
    exact ⟨rfl, b2⟩
  by_cases g4 : b < 0
  · clear hlen
    go_enter Try.func5, Try.ntmps5
    go_wp2_with (go_at_call 7; refine (CA.out _).mono ?_; rintro _ w2 ⟨rfl, b2⟩)
    go_ret
    exact ⟨rfl, b2⟩
  by_cases g5 : (len : Int) ≤ a
  · clear hlen
    go_enter Try.func5, Try.ntmps5
    go_wp2_with (go_at_call 7; refine (CA.out _).mono ?_; rintro _ w2 ⟨rfl, b2⟩)
    go_ret
    exact ⟨rfl, b2⟩
  by_cases g6 : (len : Int) ≤ b
  · clear hlen
    go_enter Try.func5, Try.ntmps5
    go_wp2_with (go_at_call 7; refine (CA.out _).mono ?_; rintro _ w2 ⟨rfl, b2⟩)
    go_ret
    exact ⟨rfl, b2⟩
  have := orders_good pa len cap a.toNat b.toNat ss w hI (by omega) (by omega) (by omega)
  rw [show ((a.toNat : Nat) : Int) = a by omega, show ((b.toNat : Nat) : Int) = b by omega] at this
  exact this
end Go.Proofs.Ytdbdifbcfplegaa
