/- A list of steps of files that came in. -/
import Derived.Test.YtfndlfnlepndmaaGreatTI
import Derived.Deep.Slices
import Derived.Deep.SlicePairs
namespace Go.Proofs.YtfndlfnlepndmaaGreat
open Go.RowKit Go.ChangeShapes Go.WideShapes Go.ChangeAt Go.Deep

/-- A step: its kind, its number, three texts, a list of numbers. -/
structure Stp where
  k : Int
  n : Int
  a : ByteArray
  b : ByteArray
  d : ByteArray
  la : Option Addr
  ll : Nat
  lc : Nat
  lz : List Int
def noStp : Stp := ⟨0, 0, ⟨#[]⟩, ⟨#[]⟩, ⟨#[]⟩, none, 0, 0, []⟩
def Stp.cells (s : Stp) : List Value := [.int .i64 s.k, .int .i64 s.n, .string s.a, .string s.b, .string s.d, .slice s.la s.ll s.lc]
def Stp.Ok (w : World) (s : Stp) : Prop := fitsI s.k ∧ fitsI s.n ∧ s.a.size ≤ maxLen ∧ s.b.size ≤ maxLen ∧ s.d.size ≤ maxLen ∧ s.ll ≤ s.lc ∧ s.lc ≤ maxLen ∧ IsIs w s.la s.ll s.lz ∧ (s.la = none → s.lc = 0)
def IsRowO (w : World) (a : Option Addr) (l : List Stp) : Prop :=
  l = [] ∨ ∃ b off, a = some ⟨b, off, none⟩ ∧ ∀ i (h : i < l.length), ∀ j u, l[i].cells[j]? = some u → w.cell? ⟨b, off + i * 6 + j, none⟩ = some u
def IsOs (w : World) (a : Option Addr) (len : Nat) (l : List Stp) : Prop := len ≤ maxLen ∧ l.length = len ∧ (∀ s ∈ l, s.Ok w) ∧ IsRowO w a l
theorem choose_ltO {α : Type} (d : α) {n : Nat} {p : Nat → α → Prop} (h : ∀ i, i < n → ∃ x, p i x) : ∃ f : Nat → α, ∀ i, i < n → p i (f i) := by
  classical
  exact ⟨fun i => if hi : i < n then Classical.choose (h i hi) else d, fun i hi => by
    simp only [hi, dite_true]
    exact Classical.choose_spec (h i hi)⟩
theorem rowI_gen {H : Type} {enc : TypeId × Value → H} {w : World} {base fuel : Nat} {sp : Nat → Bool} {held : Bool} {v : Value} {x : DataW H × List MemPlace}
    (h : DataW.trod enc Tryz.prog w base sp held fuel 46 [v] = some x) : ∃ a len cap, v = .slice a len cap ∧ len ≤ cap ∧ cap ≤ maxLen ∧ (a = none → cap = 0) ∧ ∃ ks, IsIs w a len ks := by
  rcases open_ints Tryz.underlying46 Tryz.underlying3 cellsIntI h with ⟨hcs, _⟩ | ⟨y, l, c, zs, hcs, _, hl, hm, hz, _, hcell, hwz⟩
  · simp at hcs
    subst hcs
    exact ⟨none, 0, 0, rfl, Nat.le_refl _, Nat.zero_le _, fun _ => rfl, [], Nat.zero_le _, rfl, by simp, .inl rfl⟩
  · simp at hcs
    subst hcs
    have hzl : l ≤ zs.length := by
      rw [hz]
      split <;> omega
    refine ⟨some y, l, c, rfl, hl, hm, fun h => (by cases h), zs.take l, Nat.le_trans hl hm, ?_, fun k hk => bounds_i64 (hwz k (List.mem_of_mem_take hk)), ?_⟩
    · rw [List.length_take]
      exact Nat.min_eq_left hzl
    by_cases h0 : l = 0
    · left; subst h0; rfl
    · right
      have hc0 := hcell 0 (by first | omega | (split <;> omega))
      obtain ⟨b, off, spot⟩ := y
      have hs : spot = none := by simpa [Addr.add] using World.cell?_spot hc0
      subst hs
      refine ⟨b, off, rfl, ?_⟩
      intro i hi
      have hi' : i < l := by simp at hi; omega
      have hci := hcell i (by first | omega | (split <;> omega))
      have e : (zs.take l)[i] = zs[i]'(Nat.lt_of_lt_of_le hi' hzl) := by simp
      have e2 : zs.getD i 0 = zs[i]'(Nat.lt_of_lt_of_le hi' hzl) := by simp [List.getD, List.getElem?_eq_getElem (Nat.lt_of_lt_of_le hi' hzl)]
      rw [e2] at hci
      rw [e]
      rw [add_plainI] at hci
      exact hci
set_option maxRecDepth 100000 in
theorem step_of {H : Type} {enc : TypeId × Value → H} {w : World} {base n : Nat} {sp : Nat → Bool} {held : Bool} {cs : List Value} {y : DataW H × List MemPlace}
    (h : DataW.trod enc Tryz.prog w base sp held n 48 cs = some y) (hl : cs.length = 6) : ∃ p : Stp, p.Ok w ∧ cs = p.cells := by
  obtain ⟨xs, k, hk, hxy, _, hxl, hf⟩ := DataW.trod_struct Tryz.underlying48 h
  have c3 : Tryz.prog.cellsOf 3 = 1 := by kernel_rfl
  have c9 : Tryz.prog.cellsOf 9 = 1 := by kernel_rfl
  have cl : Tryz.prog.cellsOf 46 = 1 := by kernel_rfl
  match xs, hxl, cs, hl with
  | [y0, y1, y2, y3, y4, y5], _, [v0, v1, v2, v3, v4, v5], _ =>
    have g0 := hf 0 _ rfl
    have g1 := hf 1 _ rfl
    have g2 := hf 2 _ rfl
    have g3 := hf 3 _ rfl
    have g4 := hf 4 _ rfl
    have g5 := hf 5 _ rfl
    simp [c3, c9, cl] at g0 g1 g2 g3 g4 g5
    obtain ⟨z0, e0, -, b0⟩ := DataW.trod_int Tryz.underlying3 g0
    obtain ⟨z1, e1, -, b1⟩ := DataW.trod_int Tryz.underlying3 g1
    obtain ⟨s2, e2, -, b2⟩ := DataW.trod_string Tryz.underlying9 g2
    obtain ⟨s3, e3, -, b3⟩ := DataW.trod_string Tryz.underlying9 g3
    obtain ⟨s4, e4, -, b4⟩ := DataW.trod_string Tryz.underlying9 g4
    obtain ⟨la, ll, lc, rfl, h1, h2, h4, lz, h3⟩ := rowI_gen g5
    simp only [List.cons.injEq, and_true] at e0 e1 e2 e3 e4
    subst e0 e1 e2 e3 e4
    exact ⟨⟨z0, z1, s2, s3, s4, la, ll, lc, lz⟩, ⟨bounds_i64 b0, bounds_i64 b1, b2, b3, b4, h1, h2, h3, h4⟩, rfl⟩
set_option maxRecDepth 100000 in
theorem rowO_of {H : Type} {enc : TypeId × Value → H} {w : World} {base fuel : Nat} {held : Bool} {a : Option Addr} {len cap : Nat} {x : DataW H × List MemPlace}
    (h : DataW.trod enc Tryz.prog w base (fun _ => true) held fuel 22 (Value.slice a len cap).cells.toList = some x) : ∃ l, IsOs w a len l := by
  have c4 : Tryz.prog.cellsOf 48 = 6 := by kernel_rfl
  rcases open_slice Tryz.underlying22 h with ⟨hcs, _⟩ | ⟨y, l, c, m, n, D, Pl, hcs, _, hl, hm, hmm, _, hx⟩
  · simp [Value.cells] at hcs
    obtain ⟨rfl, rfl, rfl⟩ := hcs
    exact ⟨[], by unfold maxLen; omega, rfl, by simp, .inl rfl⟩
  · simp [Value.cells] at hcs
    obtain ⟨rfl, rfl, rfl⟩ := hcs
    simp at hmm
    subst hmm
    have each : ∀ i, i < len → ∃ p : Stp, p.Ok w ∧ ∀ j u, p.cells[j]? = some u → w.cell? (y.add (i * 6 + j)) = some u := by
      intro i hi
      obtain ⟨cs', h1, h2⟩ := hx i (by omega)
      rw [c4] at h1
      obtain ⟨_, hlen, hcell⟩ := World.cells?_some h1
      obtain ⟨p, hp, rfl⟩ := step_of h2 hlen
      refine ⟨p, hp, fun j u hj => ?_⟩
      have hj4 : j < 6 := by
        have := (List.getElem?_eq_some_iff.1 hj).1
        simpa [Stp.cells] using this
      have := hcell j hj4
      rw [Addr.add_add] at this
      rw [this, hj]
    obtain ⟨q, hq⟩ := choose_ltO noStp each
    refine ⟨(List.range len).map q, Nat.le_trans hl hm, by simp, ?_, ?_⟩
    · intro p hp
      obtain ⟨i, hi, rfl⟩ := List.mem_map.1 hp
      exact (hq i (List.mem_range.1 hi)).1
    · rcases Nat.eq_zero_or_pos len with h0 | h0
      · left; subst h0; rfl
      · right
        have hc0 := (hq 0 h0).2 0 _ rfl
        obtain ⟨b, off, spot⟩ := y
        have hs : spot = none := by simpa [Addr.add] using World.cell?_spot hc0
        subst hs
        refine ⟨b, off, rfl, ?_⟩
        intro i hi j u hu
        have hi' : i < len := by simpa using hi
        have e : ((List.range len).map q)[i] = q i := by simp
        rw [e] at hu
        have := (hq i hi').2 j u hu
        rw [add_plainI, ← Nat.add_assoc] at this
        exact this
end Go.Proofs.YtfndlfnlepndmaaGreat
