/- A version that came in. -/
import Derived.Test.YthaalhigmihijaaE8
import Derived.Deep.Slices
import Derived.Deep.SlicePairs
import Derived.ProofKit
import Derived.ChangeOld
import Derived.OpenShut
namespace Go.Proofs.Ythaalhigmihijaa
open Go.RowKit Go.ChangeShapes Go.WideShapes Go.ChangeAt Go.Deep

def Ent.Ok (e : Ent) : Prop := e.k.size ≤ maxLen ∧ 0 ≤ e.s ∧ e.s ≤ 18446744073709551615 ∧ -9223372036854775808 ≤ e.n ∧ e.n ≤ 9223372036854775807 ∧ e.v.size ≤ maxLen
set_option maxRecDepth 100000 in
theorem ent_of {H : Type} {enc : TypeId × Value → H} {w : World} {base n : Nat} {sp : Nat → Bool} {held : Bool} {cs : List Value} {y : DataW H × List MemPlace}
    (h : DataW.trod enc Try.prog w base sp held n 29 cs = some y) (hl : cs.length = 4) : ∃ p : Ent, p.Ok ∧ cs = p.cells := by
  obtain ⟨xs, k, hk, hxy, _, hxl, hf⟩ := DataW.trod_struct Try.underlying29 h
  have c3 : Try.prog.cellsOf 3 = 1 := by kernel_rfl
  have c9 : Try.prog.cellsOf 9 = 1 := by kernel_rfl
  have cu : Try.prog.cellsOf 24 = 1 := by kernel_rfl
  match xs, hxl, cs, hl with
  | [y0, y1, y2, y3], _, [v0, v1, v2, v3], _ =>
    have g0 := hf 0 _ rfl
    have g1 := hf 1 _ rfl
    have g2 := hf 2 _ rfl
    have g3 := hf 3 _ rfl
    simp [c3, c9, cu] at g0 g1 g2 g3
    obtain ⟨s0, e0, -, b0⟩ := DataW.trod_string Try.underlying9 g0
    obtain ⟨z1, e1, -, b1⟩ := DataW.trod_int Try.underlying24 g1
    obtain ⟨z2, e2, -, b2⟩ := DataW.trod_int Try.underlying3 g2
    obtain ⟨s3, e3, -, b3⟩ := DataW.trod_string Try.underlying9 g3
    simp only [List.cons.injEq, and_true] at e0 e1 e2 e3
    subst e0 e1 e2 e3
    have k1 := bounds_u64 b1
    have k2 := bounds_i64 b2
    exact ⟨⟨s0, z1, z2, s3⟩, ⟨b0, k1.1, by have := k1.2; omega, k2.1, k2.2, b3⟩, rfl⟩
theorem ent_val {H : Type} {enc : TypeId × Value → H} {w : World} {base n : Nat} {sp : Nat → Bool} {held : Bool} {cs : Array Value} {y : DataW H × List MemPlace}
    (h : DataW.trod enc Try.prog w base sp held n 29 (Value.agg cs).cells.toList = some y) (hl : cs.size = Try.prog.cellsOf 29) : ∃ p : Ent, p.Ok ∧ Value.agg cs = p.val := by
  have c4 : Try.prog.cellsOf 29 = 4 := by kernel_rfl
  obtain ⟨p, hp, he⟩ := ent_of h (by rw [Value.cells, Array.length_toList, hl, c4])
  refine ⟨p, hp, ?_⟩
  have : cs = p.cells.toArray := by
    apply Array.ext'
    rw [List.toList_toArray]
    exact he
  rw [this]
  rfl
end Go.Proofs.Ythaalhigmihijaa
