/- Stage 14's walks at a plain seat: the calls' contracts put in. -/
import Derived.Test.YtcbailiniigcnaaHT6
import Derived.Test.YtcbailiniigcnaaLLatest14W
import Derived.Test.YtcbailiniigcnaaLCuts14W
import Derived.Test.YtcbailiniigcnaaLParts14W
namespace Go.Proofs.Ytcbailiniigcnaa
open Go.ChangeShapes Go.WideShapes Go.ChangeAt Go.Deep Go.RowKit

open Go.ChangeShapes Go.WideShapes Go.ChangeAt Go.Deep in
theorem rowE_nil {H : Type} {enc : TypeId × Value → H} {w : World} {base fuel : Nat} {held : Bool} {a : Option Addr} {len cap : Nat} {x : DataW H × List MemPlace}
    (h : DataW.trod enc Try.prog w base (fun _ => true) held fuel 22 (Value.slice a len cap).cells.toList = some x) : a = none → cap = 0 := by
  rcases open_slice Try.underlying22 h with ⟨hcs, _⟩ | ⟨y, l, c, m, n, D, Pl, hcs, _⟩
  · simp [Value.cells] at hcs
    exact fun _ => hcs.2.2
  · simp [Value.cells] at hcs
    intro e
    rw [hcs.1] at e
    cases e
open Go.ChangeShapes Go.WideShapes Go.ChangeAt Go.Deep in
theorem rowE_cap {H : Type} {enc : TypeId × Value → H} {w : World} {base fuel : Nat} {held : Bool} {a : Option Addr} {len cap : Nat} {x : DataW H × List MemPlace}
    (h : DataW.trod enc Try.prog w base (fun _ => true) held fuel 22 (Value.slice a len cap).cells.toList = some x) : len ≤ cap ∧ cap ≤ maxLen := by
  rcases open_slice Try.underlying22 h with ⟨hcs, _⟩ | ⟨y, l, c, m, n, D, Pl, hcs, _, hl, hm, hmm, _, hx⟩
  · simp [Value.cells] at hcs
    obtain ⟨rfl, rfl, rfl⟩ := hcs
    exact ⟨Nat.le_refl _, Nat.zero_le _⟩
  · simp [Value.cells] at hcs
    obtain ⟨rfl, rfl, rfl⟩ := hcs
    exact ⟨hl, hm⟩
theorem lim14 {n : Nat} (h : n ≤ maxLen) : n ≤ 9223372036854775807 := by unfold maxLen at h; omega
theorem mergeLatest_walk (a : Option Addr) (len cap : Nat) (es : List Ent) (x : Nat) (_ : x ≤ 18446744073709551615) (y : Nat) (_ : y ≤ 18446744073709551615) (w : World) (hI : IsEs w a len es) (_ : a = none → cap = 0) (hc : len ≤ cap ∧ cap ≤ maxLen) :
    Calls Try.prog 5 #[.slice a len cap, .int .u64 (x : Int), .int .u64 (y : Int)] w fun e w' => e = .returned (.bool true) ∧ Below w.heap.size w w' :=
  mergeLatest_walkC allC latestC cutC a len cap es x y hI.2.2 (lim14 hI.1) hc.1 hI.2.1
theorem mergeCuts_walk (a : Option Addr) (len cap : Nat) (es : List Ent) (x : Int) (_ : -9223372036854775808 ≤ x) (_ : x ≤ 9223372036854775807) (w : World) (hI : IsEs w a len es) :
    Calls Try.prog 3 #[.slice a len cap, .int .i64 x] w fun e w' => e = .returned (.bool true) ∧ Below w.heap.size w w' :=
  mergeCuts_walkC allC latestC cutC a len cap es x hI.2.2 (lim14 hI.1) hI.2.1
theorem mergeParts_walk (a : Option Addr) (la ca : Nat) (A : List Ent) (b : Option Addr) (lb cb : Nat) (B : List Ent) (c : Option Addr) (lc cc : Nat) (C : List Ent) (w : World) (hA : IsEs w a la A) (hB : IsEs w b lb B) (hC : IsEs w c lc C) (_ : a = none → ca = 0) (_ : b = none → cb = 0) (_ : c = none → cc = 0) (cA : la ≤ ca ∧ ca ≤ maxLen) (cB : lb ≤ cb ∧ cb ≤ maxLen) (cC : lc ≤ cc ∧ cc ≤ maxLen) :
    Calls Try.prog 4 #[.slice a la ca, .slice b lb cb, .slice c lc cc] w fun e w' => e = .returned (.bool true) ∧ Below w.heap.size w w' := by
  obtain rfl : A.length = la := hA.2.2.1
  obtain rfl : B.length = lb := hB.2.2.1
  obtain rfl : C.length = lc := hC.2.2.1
  exact mergeParts_walkC allC latestC cutC a b c ca cb cc A B C hA.2.2 hB.2.2 hC.2.2 cA.1 cB.1 cC.1 (lim14 hA.1) (lim14 hB.1) (lim14 hC.1) hA.2.1 hB.2.1 hC.2.1
end Go.Proofs.Ytcbailiniigcnaa
