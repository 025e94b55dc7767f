/- Lists of lists of versions that came in. -/
import Derived.Test.YtcbailiniigcnaaGreatV3
namespace Go.Proofs.YtcbailiniigcnaaGreat
open Go.RowKit Go.ChangeShapes Go.WideShapes Go.ChangeAt Go.Deep

set_option maxRecDepth 100000 in
theorem rowE_gen {H : Type} {enc : TypeId × Value → H} {w : World} {base fuel : Nat} {sp : Nat → Bool} {held : Bool} {v : Value} {x : DataW H × List MemPlace}
    (h : DataW.trod enc Tryz.prog w base sp held fuel 26 [v] = some x) : ∃ a len cap, v = .slice a len cap ∧ len ≤ cap ∧ cap ≤ maxLen ∧ (a = none → cap = 0) ∧ ∃ l, IsEs w a len l := by
  have c4 : Tryz.prog.cellsOf 56 = 4 := by kernel_rfl
  rcases open_slice Tryz.underlying26 h with ⟨hcs, _⟩ | ⟨y, l, c, m, n, D, Pl, hcs, _, hl, hm, hmm, _, hx⟩
  · simp at hcs
    subst hcs
    exact ⟨none, 0, 0, rfl, Nat.le_refl _, Nat.zero_le _, fun _ => rfl, [], by unfold maxLen; omega, by simp, rfl, .inl rfl⟩
  · simp at hcs
    subst hcs
    have hlm : l ≤ m := by
      rw [hmm]
      split <;> omega
    refine ⟨some y, l, c, rfl, hl, hm, fun e => (by cases e), ?_⟩
    have each : ∀ i, i < l → ∃ p : Ent, p.Ok ∧ ∀ j u, p.cells[j]? = some u → w.cell? (y.add (i * 4 + j)) = some u := by
      intro i hi
      obtain ⟨cs', h1, h2⟩ := hx i (by omega)
      rw [c4] at h1
      obtain ⟨_, hlen, hcell⟩ := World.cells?_some h1
      obtain ⟨p, hp, rfl⟩ := ent_of h2 hlen
      refine ⟨p, hp, fun j u hj => ?_⟩
      have hj4 : j < 4 := by
        have := (List.getElem?_eq_some_iff.1 hj).1
        simpa [Ent.cells] using this
      have := hcell j hj4
      rw [Addr.add_add] at this
      rw [this, hj]
    obtain ⟨q, hq⟩ := choose_ltE Ent.zero each
    refine ⟨(List.range l).map q, Nat.le_trans hl hm, ?_, by simp, ?_⟩
    · intro p hp
      obtain ⟨i, hi, rfl⟩ := List.mem_map.1 hp
      exact (hq i (List.mem_range.1 hi)).1
    · rcases Nat.eq_zero_or_pos l with h0 | h0
      · exact .inl h0
      · right
        have hc0 := (hq 0 h0).2 0 _ rfl
        obtain ⟨b, off, spot⟩ := y
        have hs : spot = none := by simpa [Addr.add] using World.cell?_spot hc0
        subst hs
        refine ⟨b, off, rfl, block_ltE hc0, ?_⟩
        intro i hi j u hu
        have hi' : i < l := by simpa using hi
        have e : ((List.range l).map q)[i] = q i := by simp
        rw [e] at hu
        have := (hq i hi').2 j u hu
        rw [add_plainE, ← Nat.add_assoc] at this
        exact this
/-- A slice of versions. -/
structure SlE where
  a : Option Addr
  len : Nat
  cap : Nat
  es : List Ent
def SlE.val (x : SlE) : Value := .slice x.a x.len x.cap
def IsEss (w : World) (a : Option Addr) (len : Nat) (ls : List SlE) : Prop :=
  len ≤ maxLen ∧ ls.length = len ∧ (∀ x ∈ ls, IsEs w x.a x.len x.es ∧ x.len ≤ x.cap ∧ x.cap ≤ maxLen ∧ (x.a = none → x.cap = 0)) ∧ (len = 0 ∨ ∃ b off, a = some ⟨b, off, none⟩ ∧ b < w.heap.size ∧ ∀ i (h : i < ls.length), w.cell? ⟨b, off + i, none⟩ = some ls[i].val)
theorem rowEss_of {H : Type} {enc : TypeId × Value → H} {w : World} {base fuel : Nat} {held : Bool} {a : Option Addr} {len cap : Nat} {x : DataW H × List MemPlace}
    (h : DataW.trod enc Tryz.prog w base (fun _ => true) held fuel 22 (Value.slice a len cap).cells.toList = some x) : ∃ l, IsEss w a len l := by
  have c4 : Tryz.prog.cellsOf 26 = 1 := by kernel_rfl
  rcases open_slice Tryz.underlying22 h with ⟨hcs, _⟩ | ⟨y, l, c, m, n, D, Pl, hcs, _, hl, hm, hmm, _, hx⟩
  · simp [Value.cells] at hcs
    obtain ⟨rfl, rfl, rfl⟩ := hcs
    exact ⟨[], by unfold maxLen; omega, rfl, by simp, .inl rfl⟩
  · simp [Value.cells] at hcs
    obtain ⟨rfl, rfl, rfl⟩ := hcs
    simp at hmm
    subst hmm
    have each : ∀ i, i < len → ∃ s : SlE, (IsEs w s.a s.len s.es ∧ s.len ≤ s.cap ∧ s.cap ≤ maxLen ∧ (s.a = none → s.cap = 0)) ∧ w.cell? (y.add i) = some s.val := by
      intro i hi
      obtain ⟨cs', h1, h2⟩ := hx i (by omega)
      rw [c4] at h1
      obtain ⟨_, hlen, hcell⟩ := World.cells?_some h1
      match cs', hlen with
      | [v], _ =>
        obtain ⟨a', len', cap', rfl, g1, g2, g3, ws, hw⟩ := rowE_gen h2
        refine ⟨⟨a', len', cap', ws⟩, ⟨hw, g1, g2, g3⟩, ?_⟩
        have := hcell 0 (by omega)
        rw [Addr.add_add, Nat.mul_one, Nat.add_zero] at this
        exact this
    obtain ⟨q, hq⟩ := choose_ltE ⟨none, 0, 0, []⟩ each
    refine ⟨(List.range len).map q, Nat.le_trans hl hm, by simp, ?_, ?_⟩
    · intro p hp
      obtain ⟨i, hi, rfl⟩ := List.mem_map.1 hp
      exact (hq i (List.mem_range.1 hi)).1
    · rcases Nat.eq_zero_or_pos len with h0 | h0
      · exact .inl h0
      · right
        have hc0 := (hq 0 h0).2
        obtain ⟨b, off, spot⟩ := y
        have hs : spot = none := by simpa [Addr.add] using World.cell?_spot hc0
        subst hs
        refine ⟨b, off, rfl, block_ltE hc0, ?_⟩
        intro i hi
        have hi' : i < len := by simpa using hi
        have e : ((List.range len).map q)[i] = q i := by simp
        rw [e]
        have := (hq i hi').2
        rw [add_plainE] at this
        exact this
theorem IsEss.lists {w : World} {a : Option Addr} {len : Nat} {ls : List SlE} (h : IsEss w a len ls) : LsAt w a len (ls.map SlE.es) := by
  obtain ⟨-, hl, hx, hc⟩ := h
  refine ⟨by rw [List.length_map]; exact hl, ?_⟩
  rcases hc with h0 | ⟨b, off, e, hb, hc⟩
  · exact .inl h0
  · refine .inr ⟨b, off, e, hb, fun i hi => ?_⟩
    have hi' : i < ls.length := by simpa using hi
    obtain ⟨⟨h1, h2, h3⟩, h5, -⟩ := hx ls[i] (List.getElem_mem hi')
    have h4 := hc i hi'
    refine ⟨ls[i].a, ls[i].cap, ?_, ?_, ?_⟩
    · rw [h4, List.getElem_map]
      unfold SlE.val
      rw [h3.1]
    · rw [List.getElem_map, h3.1]
      exact h3
    · rw [List.getElem_map, h3.1]
      exact h5
end Go.Proofs.YtcbailiniigcnaaGreat
