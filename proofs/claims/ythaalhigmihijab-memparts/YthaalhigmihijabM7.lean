/- Steps of chapter 8's statements that came in. -/
import Derived.Test.YthaalhigmihijabMT
namespace Go.Proofs.Ythaalhigmihijab
open Go.RowKit Go.ChangeShapes Go.WideShapes Go.ChangeAt Go.Deep

/-- A step: a batch, and what is asked behind it. -/
structure O8 where
  f : Nat
  a : Option Addr
  len : Nat
  cap : Nat
  ws : List Wr
  k : ByteArray
  e : ByteArray
  q : Nat
def O8.zero : O8 := ⟨0, none, 0, 0, [], ⟨#[]⟩, ⟨#[]⟩, 0⟩
def O8.cells (x : O8) : List Value := [.int .u64 (x.f : Int), .slice x.a x.len x.cap, .string x.k, .string x.e, .int .u64 (x.q : Int)]
structure O8.Ok (w : World) (x : O8) : Prop where
  f : x.f < 18446744073709551616
  ws : IsWs w x.a x.len x.ws
  k : x.k.size ≤ maxLen
  e : x.e.size ≤ maxLen
  q : x.q < 18446744073709551616
  nil : x.a = none → x.cap = 0
/-- A slice of steps: there are none, or they lie in one block. -/
def O8sAt (n₀ : Nat) (w : World) (a : Option Addr) (len : Nat) (es : List O8) : Prop :=
  es.length = len ∧ (len = 0 ∨ ∃ b off, a = some ⟨b, off, none⟩ ∧ b < n₀ ∧ ∀ i (h : i < es.length), ∀ j u, es[i].cells[j]? = some u → w.cell? ⟨b, off + i * 5 + j, none⟩ = some u)
theorem O8sAt.below {n₀ : Nat} {A B : World} {a : Option Addr} {len : Nat} {es : List O8} (h : O8sAt n₀ A a len es) (hb : Below n₀ A B) : O8sAt n₀ B a len es := by
  refine ⟨h.1, ?_⟩
  rcases h.2 with h0 | ⟨b, off, e, hlt, hc⟩
  · exact .inl h0
  · exact .inr ⟨b, off, e, hlt, fun i hi j u hu => (hb.cell (p := ⟨b, off + i * 5 + j, none⟩) hlt).trans (hc i hi j u hu)⟩
/-- A list of steps that came in. -/
def IsO8 (w : World) (a : Option Addr) (len : Nat) (l : List O8) : Prop := len ≤ maxLen ∧ (∀ x ∈ l, x.Ok w) ∧ O8sAt w.heap.size w a len l
set_option maxRecDepth 100000 in
theorem o8_of {H : Type} {enc : TypeId × Value → H} {w : World} {base n : Nat} {sp : Nat → Bool} {held : Bool} {cs : List Value} {y : DataW H × List MemPlace}
    (h : DataW.trod enc Try.prog w base sp held n 56 cs = some y) (hl : cs.length = 5) : ∃ p : O8, p.Ok w ∧ cs = p.cells := by
  obtain ⟨xs, k, hk, hxy, _, hxl, hf⟩ := DataW.trod_struct Try.underlying56 h
  have cs1 : Try.prog.cellsOf 41 = 1 := by kernel_rfl
  have c9 : Try.prog.cellsOf 9 = 1 := by kernel_rfl
  have cu : Try.prog.cellsOf 24 = 1 := by kernel_rfl
  match xs, hxl, cs, hl with
  | [y0, y1, y2, y3, y4], _, [v0, v1, v2, v3, v4], _ =>
    have g0 := hf 0 _ rfl
    have g1 := hf 1 _ rfl
    have g2 := hf 2 _ rfl
    have g3 := hf 3 _ rfl
    have g4 := hf 4 _ rfl
    simp [cs1, c9, cu] at g0 g1 g2 g3 g4
    obtain ⟨z0, e0, -, b0⟩ := DataW.trod_int Try.underlying24 g0
    obtain ⟨a, len, cap, rfl, hlc, hcm, hnil, ws, hws⟩ := rowW_gen g1
    obtain ⟨s2, e2, -, b2⟩ := DataW.trod_string Try.underlying9 g2
    obtain ⟨s3, e3, -, b3⟩ := DataW.trod_string Try.underlying9 g3
    obtain ⟨z4, e4, -, b4⟩ := DataW.trod_int Try.underlying24 g4
    simp only [List.cons.injEq, and_true] at e0 e2 e3 e4
    subst e0 e2 e3 e4
    have k0 := bounds_u64 b0
    have k4 := bounds_u64 b4
    obtain ⟨n0, rfl⟩ : ∃ a : Nat, z0 = (a : Int) := ⟨z0.toNat, by omega⟩
    obtain ⟨n4, rfl⟩ : ∃ a : Nat, z4 = (a : Int) := ⟨z4.toNat, by omega⟩
    exact ⟨⟨n0, a, len, cap, ws, s2, s3, n4⟩, ⟨show n0 < 18446744073709551616 by have := k0.2; omega, hws, b2, b3, show n4 < 18446744073709551616 by have := k4.2; omega, hnil⟩, rfl⟩
set_option maxRecDepth 100000 in
theorem rowO8_of {H : Type} {enc : TypeId × Value → H} {w : World} {base fuel : Nat} {held : Bool} {a : Option Addr} {len cap : Nat} {x : DataW H × List MemPlace}
    (h : DataW.trod enc Try.prog w base (fun _ => true) held fuel 54 (Value.slice a len cap).cells.toList = some x) : ∃ l, IsO8 w a len l := by
  have c4 : Try.prog.cellsOf 56 = 5 := by kernel_rfl
  rcases open_slice Try.underlying54 h with ⟨hcs, _⟩ | ⟨y, l, c, m, n, D, Pl, hcs, _, hl, hm, hmm, _, hx⟩
  · simp [Value.cells] at hcs
    obtain ⟨rfl, rfl, rfl⟩ := hcs
    exact ⟨[], by unfold maxLen; omega, by simp, rfl, .inl rfl⟩
  · simp [Value.cells] at hcs
    obtain ⟨rfl, rfl, rfl⟩ := hcs
    simp at hmm
    subst hmm
    have each : ∀ i, i < len → ∃ p : O8, p.Ok w ∧ ∀ j u, p.cells[j]? = some u → w.cell? (y.add (i * 5 + j)) = some u := by
      intro i hi
      obtain ⟨cs', h1, h2⟩ := hx i (by omega)
      rw [c4] at h1
      obtain ⟨_, hlen, hcell⟩ := World.cells?_some h1
      obtain ⟨p, hp, rfl⟩ := o8_of h2 hlen
      refine ⟨p, hp, fun j u hj => ?_⟩
      have hj4 : j < 5 := by
        have := (List.getElem?_eq_some_iff.1 hj).1
        simpa [O8.cells] using this
      have := hcell j hj4
      rw [Addr.add_add] at this
      rw [this, hj]
    obtain ⟨q, hq⟩ := choose_ltW O8.zero each
    refine ⟨(List.range len).map q, Nat.le_trans hl hm, ?_, by simp, ?_⟩
    · intro p hp
      obtain ⟨i, hi, rfl⟩ := List.mem_map.1 hp
      exact (hq i (List.mem_range.1 hi)).1
    · rcases Nat.eq_zero_or_pos len with h0 | h0
      · exact .inl h0
      · right
        have hc0 := (hq 0 h0).2 0 _ rfl
        obtain ⟨b, off, spot⟩ := y
        have hs : spot = none := by simpa [Addr.add] using World.cell?_spot hc0
        subst hs
        refine ⟨b, off, rfl, block_ltW hc0, ?_⟩
        intro i hi j u hu
        have hi' : i < len := by simpa using hi
        have e : ((List.range len).map q)[i] = q i := by simp
        rw [e] at hu
        have := (hq i hi').2 j u hu
        rw [add_plainW, ← Nat.add_assoc] at this
        exact this
end Go.Proofs.Ythaalhigmihijab
