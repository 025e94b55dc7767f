/- Versions that came in; the statements' helpers Room and Small. -/
import Derived.Test.YthaalhigmihijabGreatY1
import Derived.Deep.Slices
import Derived.Deep.SlicePairs
import Derived.Deep.RegionHeld3
import Derived.ProofKit
import Derived.ChangeOld
import Derived.OpenShut
namespace Go.Proofs.YthaalhigmihijabGreat
open Go.RowKit
section
open Go.ChangeShapes Go.WideShapes Go.ChangeAt Go.Deep

def Ent.Ok (e : Ent) : Prop := e.k.size ≤ maxLen ∧ 0 ≤ e.s ∧ e.s ≤ 18446744073709551615 ∧ -9223372036854775808 ≤ e.n ∧ e.n ≤ 9223372036854775807 ∧ e.v.size ≤ maxLen
set_option maxRecDepth 100000 in
theorem ent_of {H : Type} {enc : TypeId × Value → H} {w : World} {base n : Nat} {sp : Nat → Bool} {held : Bool} {cs : List Value} {y : DataW H × List MemPlace}
    (h : DataW.trod enc Tryz.prog w base sp held n 34 cs = some y) (hl : cs.length = 4) : ∃ p : Ent, p.Ok ∧ cs = p.cells := by
  obtain ⟨xs, k, hk, hxy, _, hxl, hf⟩ := DataW.trod_struct Tryz.underlying34 h
  have c3 : Tryz.prog.cellsOf 3 = 1 := by kernel_rfl
  have c9 : Tryz.prog.cellsOf 9 = 1 := by kernel_rfl
  have cu : Tryz.prog.cellsOf 30 = 1 := by kernel_rfl
  match xs, hxl, cs, hl with
  | [y0, y1, y2, y3], _, [v0, v1, v2, v3], _ =>
    have g0 := hf 0 _ rfl
    have g1 := hf 1 _ rfl
    have g2 := hf 2 _ rfl
    have g3 := hf 3 _ rfl
    simp [c3, c9, cu] at g0 g1 g2 g3
    obtain ⟨s0, e0, -, b0⟩ := DataW.trod_string Tryz.underlying9 g0
    obtain ⟨z1, e1, -, b1⟩ := DataW.trod_int Tryz.underlying30 g1
    obtain ⟨z2, e2, -, b2⟩ := DataW.trod_int Tryz.underlying3 g2
    obtain ⟨s3, e3, -, b3⟩ := DataW.trod_string Tryz.underlying9 g3
    simp only [List.cons.injEq, and_true] at e0 e1 e2 e3
    subst e0 e1 e2 e3
    have k1 := bounds_u64 b1
    have k2 := bounds_i64 b2
    exact ⟨⟨s0, z1, z2, s3⟩, ⟨b0, k1.1, by have := k1.2; omega, k2.1, k2.2, b3⟩, rfl⟩
theorem ent_val {H : Type} {enc : TypeId × Value → H} {w : World} {base n : Nat} {sp : Nat → Bool} {held : Bool} {cs : Array Value} {y : DataW H × List MemPlace}
    (h : DataW.trod enc Tryz.prog w base sp held n 34 (Value.agg cs).cells.toList = some y) (hl : cs.size = Tryz.prog.cellsOf 34) : ∃ p : Ent, p.Ok ∧ Value.agg cs = p.val := by
  have c4 : Tryz.prog.cellsOf 34 = 4 := by kernel_rfl
  obtain ⟨p, hp, he⟩ := ent_of h (by rw [Value.cells, Array.length_toList, hl, c4])
  refine ⟨p, hp, ?_⟩
  have : cs = p.cells.toArray := by
    apply Array.ext'
    rw [List.toList_toArray]
    exact he
  rw [this]
  rfl
theorem add_plainE (b o j : Nat) : (⟨b, o, none⟩ : Addr).add j = ⟨b, o + j, none⟩ := by unfold Addr.add; split <;> simp_all
theorem block_ltE {w : World} {a : Addr} {v : Value} (h : w.cell? a = some v) : a.block < w.heap.size := by
  rcases Nat.lt_or_ge a.block w.heap.size with h1 | h1
  · exact h1
  · simp [World.cell?, Array.getElem?_eq_none h1] at h
/-- A list of versions that came in. -/
def IsEs (w : World) (a : Option Addr) (len : Nat) (l : List Ent) : Prop := len ≤ maxLen ∧ (∀ x ∈ l, x.Ok) ∧ EntsAt w.heap.size w a len l
theorem choose_ltE {α : Type} (z : α) {n : Nat} {p : Nat → α → Prop} (h : ∀ i, i < n → ∃ x, p i x) : ∃ f : Nat → α, ∀ i, i < n → p i (f i) := by
  classical
  exact ⟨fun i => if hi : i < n then Classical.choose (h i hi) else z, fun i hi => by
    simp only [hi, dite_true]
    exact Classical.choose_spec (h i hi)⟩
set_option maxRecDepth 100000 in
theorem rowE_of {H : Type} {enc : TypeId × Value → H} {w : World} {base fuel : Nat} {held : Bool} {a : Option Addr} {len cap : Nat} {x : DataW H × List MemPlace}
    (h : DataW.trod enc Tryz.prog w base (fun _ => true) held fuel 29 (Value.slice a len cap).cells.toList = some x) : ∃ l, IsEs w a len l := by
  have c4 : Tryz.prog.cellsOf 34 = 4 := by kernel_rfl
  rcases open_slice Tryz.underlying29 h with ⟨hcs, _⟩ | ⟨y, l, c, m, n, D, Pl, hcs, _, hl, hm, hmm, _, hx⟩
  · simp [Value.cells] at hcs
    obtain ⟨rfl, rfl, rfl⟩ := hcs
    exact ⟨[], by unfold maxLen; omega, by simp, rfl, .inl rfl⟩
  · simp [Value.cells] at hcs
    obtain ⟨rfl, rfl, rfl⟩ := hcs
    simp at hmm
    subst hmm
    have each : ∀ i, i < len → ∃ p : Ent, p.Ok ∧ ∀ j u, p.cells[j]? = some u → w.cell? (y.add (i * 4 + j)) = some u := by
      intro i hi
      obtain ⟨cs', h1, h2⟩ := hx i (by omega)
      rw [c4] at h1
      obtain ⟨_, hlen, hcell⟩ := World.cells?_some h1
      obtain ⟨p, hp, rfl⟩ := ent_of h2 hlen
      refine ⟨p, hp, fun j u hj => ?_⟩
      have hj4 : j < 4 := by
        have := (List.getElem?_eq_some_iff.1 hj).1
        simpa [Ent.cells] using this
      have := hcell j hj4
      rw [Addr.add_add] at this
      rw [this, hj]
    obtain ⟨q, hq⟩ := choose_ltE Ent.zero each
    refine ⟨(List.range len).map q, Nat.le_trans hl hm, ?_, by simp, ?_⟩
    · intro p hp
      obtain ⟨i, hi, rfl⟩ := List.mem_map.1 hp
      exact (hq i (List.mem_range.1 hi)).1
    · rcases Nat.eq_zero_or_pos len with h0 | h0
      · exact .inl h0
      · right
        have hc0 := (hq 0 h0).2 0 _ rfl
        obtain ⟨b, off, spot⟩ := y
        have hs : spot = none := by simpa [Addr.add] using World.cell?_spot hc0
        subst hs
        refine ⟨b, off, rfl, block_ltE hc0, ?_⟩
        intro i hi j u hu
        have hi' : i < len := by simpa using hi
        have e : ((List.range len).map q)[i] = q i := by simp
        rw [e] at hu
        have := (hq i hi').2 j u hu
        rw [add_plainE, ← Nat.add_assoc] at this
        exact this
end
end Go.Proofs.YthaalhigmihijabGreat
