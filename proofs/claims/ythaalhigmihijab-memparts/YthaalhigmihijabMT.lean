/- Lists of writes that came in. -/
import Derived.Test.YthaalhigmihijabMQ
import Derived.Deep.Slices
import Derived.Deep.SlicePairs
import Derived.ProofKit
import Derived.ChangeOld
import Derived.OpenShut
namespace Go.Proofs.Ythaalhigmihijab
open Go.RowKit Go.ChangeShapes Go.WideShapes Go.ChangeAt Go.Deep

theorem add_plainW (b o j : Nat) : (⟨b, o, none⟩ : Addr).add j = ⟨b, o + j, none⟩ := by unfold Addr.add; split <;> simp_all
theorem block_ltW {w : World} {a : Addr} {v : Value} (h : w.cell? a = some v) : a.block < w.heap.size := by
  rcases Nat.lt_or_ge a.block w.heap.size with h1 | h1
  · exact h1
  · simp [World.cell?, Array.getElem?_eq_none h1] at h
theorem choose_ltW {α : Type} (z : α) {n : Nat} {p : Nat → α → Prop} (h : ∀ i, i < n → ∃ x, p i x) : ∃ f : Nat → α, ∀ i, i < n → p i (f i) := by
  classical
  exact ⟨fun i => if hi : i < n then Classical.choose (h i hi) else z, fun i hi => by
    simp only [hi, dite_true]
    exact Classical.choose_spec (h i hi)⟩
/-- A list of writes that came in. -/
def IsWs (w : World) (a : Option Addr) (len : Nat) (l : List Wr) : Prop := len ≤ maxLen ∧ (∀ x ∈ l, x.Ok) ∧ WrsAt w.heap.size w a len l
set_option maxRecDepth 100000 in
theorem wr_of {H : Type} {enc : TypeId × Value → H} {w : World} {base n : Nat} {sp : Nat → Bool} {held : Bool} {cs : List Value} {y : DataW H × List MemPlace}
    (h : DataW.trod enc Try.prog w base sp held n 52 cs = some y) (hl : cs.length = 3) : ∃ p : Wr, p.Ok ∧ cs = p.cells := by
  obtain ⟨xs, k, hk, hxy, _, hxl, hf⟩ := DataW.trod_struct Try.underlying52 h
  have cb : Try.prog.cellsOf 4 = 1 := by kernel_rfl
  have c9 : Try.prog.cellsOf 9 = 1 := by kernel_rfl
  match xs, hxl, cs, hl with
  | [y0, y1, y2], _, [v0, v1, v2], _ =>
    have g0 := hf 0 _ rfl
    have g1 := hf 1 _ rfl
    have g2 := hf 2 _ rfl
    simp [cb, c9] at g0 g1 g2
    obtain ⟨s0, e0, -, b0⟩ := DataW.trod_string Try.underlying9 g0
    obtain ⟨s1, e1, -, b1⟩ := DataW.trod_string Try.underlying9 g1
    obtain ⟨d2, e2, -⟩ := DataW.trod_bool Try.underlying4 g2
    simp only [List.cons.injEq, and_true] at e0 e1 e2
    subst e0 e1 e2
    exact ⟨⟨s0, s1, d2⟩, ⟨b0, b1⟩, rfl⟩
/-- A slice of writes, as it is read. -/
theorem rowW_gen {H : Type} {enc : TypeId × Value → H} {w : World} {base fuel : Nat} {sp : Nat → Bool} {held : Bool} {v : Value} {x : DataW H × List MemPlace}
    (h : DataW.trod enc Try.prog w base sp held fuel 41 [v] = some x) : ∃ a len cap, v = .slice a len cap ∧ len ≤ cap ∧ cap ≤ maxLen ∧ (a = none → cap = 0) ∧ ∃ l, IsWs w a len l := by
  have c4 : Try.prog.cellsOf 52 = 3 := by kernel_rfl
  rcases open_slice Try.underlying41 h with ⟨hcs, _⟩ | ⟨y, l, c, m, n, D, Pl, hcs, _, hl, hm, hmm, _, hx⟩
  · simp at hcs
    subst hcs
    exact ⟨none, 0, 0, rfl, Nat.le_refl _, Nat.zero_le _, fun _ => rfl, [], by unfold maxLen; omega, by simp, rfl, .inl rfl⟩
  · simp at hcs
    subst hcs
    have hlm : l ≤ m := by
      rw [hmm]
      split <;> omega
    refine ⟨some y, l, c, rfl, hl, hm, fun e => (by cases e), ?_⟩
    have each : ∀ i, i < l → ∃ p : Wr, p.Ok ∧ ∀ j u, p.cells[j]? = some u → w.cell? (y.add (i * 3 + j)) = some u := by
      intro i hi
      obtain ⟨cs', h1, h2⟩ := hx i (by omega)
      rw [c4] at h1
      obtain ⟨_, hlen, hcell⟩ := World.cells?_some h1
      obtain ⟨p, hp, rfl⟩ := wr_of h2 hlen
      refine ⟨p, hp, fun j u hj => ?_⟩
      have hj4 : j < 3 := by
        have := (List.getElem?_eq_some_iff.1 hj).1
        simpa [Wr.cells] using this
      have := hcell j hj4
      rw [Addr.add_add] at this
      rw [this, hj]
    obtain ⟨q, hq⟩ := choose_ltW Wr.zero each
    refine ⟨(List.range l).map q, Nat.le_trans hl hm, ?_, by simp, ?_⟩
    · intro p hp
      obtain ⟨i, hi, rfl⟩ := List.mem_map.1 hp
      exact (hq i (List.mem_range.1 hi)).1
    · rcases Nat.eq_zero_or_pos l with h0 | h0
      · exact .inl h0
      · right
        have hc0 := (hq 0 h0).2 0 _ rfl
        obtain ⟨b, off, spot⟩ := y
        have hs : spot = none := by simpa [Addr.add] using World.cell?_spot hc0
        subst hs
        refine ⟨b, off, rfl, block_ltW hc0, ?_⟩
        intro i hi j u hu
        have hi' : i < l := by simpa using hi
        have e : ((List.range l).map q)[i] = q i := by simp
        rw [e] at hu
        have := (hq i hi').2 j u hu
        rw [add_plainW, ← Nat.add_assoc] at this
        exact this
theorem rowW_of {H : Type} {enc : TypeId × Value → H} {w : World} {base fuel : Nat} {held : Bool} {a : Option Addr} {len cap : Nat} {x : DataW H × List MemPlace}
    (h : DataW.trod enc Try.prog w base (fun _ => true) held fuel 41 (Value.slice a len cap).cells.toList = some x) : ∃ l, IsWs w a len l := by
  obtain ⟨a', len', cap', e, -, -, -, l, hl⟩ := rowW_gen h
  cases e
  exact ⟨l, hl⟩
end Go.Proofs.Ythaalhigmihijab
