/- Lists of edits that came in. -/
import Derived.Test.YtlecffpjcjlabaaGreatIM3
namespace Go.Proofs.YtlecffpjcjlabaaGreat
open Go.RowKit Go.ChangeShapes Go.WideShapes Go.ChangeAt Go.Deep

/-- An edit, and where its lists lie. -/
structure EdS where
  e : Ed
  va : Value
  vd : Value
def EdS.zero : EdS := ⟨⟨0, 0, 0, [], []⟩, .slice none 0 0, .slice none 0 0⟩
def EdS.cells (x : EdS) : List Value := [.int .i64 x.e.log, .int .i64 x.e.next, .int .u64 (x.e.seq : Int), x.va, x.vd]
def IsEds (w : World) (a : Option Addr) (len : Nat) (l : List EdS) : Prop :=
  len ≤ maxLen ∧ (∀ x ∈ l, EdW w x.e x.va x.vd) ∧ l.length = len ∧ (len = 0 ∨ ∃ b off, a = some ⟨b, off, none⟩ ∧ b < w.heap.size ∧ ∀ i (h : i < l.length), ∀ j u, l[i].cells[j]? = some u → w.cell? ⟨b, off + i * 5 + j, none⟩ = some u)
theorem EdW.below {w w' : World} {e : Ed} {va vd : Value} (h : EdW w e va vd) (hb : Below w.heap.size w w') : EdW w' e va vd := ⟨h.l, h.n, h.s, h.a.below hb, h.d.below hb, h.la, h.ld, h.ka, h.kd⟩
theorem ed_of {H : Type} {enc : TypeId × Value → H} {w : World} {base n : Nat} {held : Bool} {cs : List Value} {y : DataW H × List MemPlace}
    (h : DataW.trod enc Tryz.prog w base (fun _ => true) held n 52 cs = some y) (hl : cs.length = 5) : ∃ x : EdS, EdW w x.e x.va x.vd ∧ cs = x.cells := by
  have c4 : Tryz.prog.cellsOf 52 = 5 := by kernel_rfl
  obtain ⟨e, va, vd, h1, h2⟩ := edit_of (cs := cs.toArray) (by rw [Value.cells]; exact h) (by rw [c4]; simpa using hl)
  refine ⟨⟨e, va, vd⟩, h1, ?_⟩
  unfold ediV at h2
  have h3 := congrArg Array.toList (Value.agg.inj h2)
  simpa [EdS.cells] using h3
set_option maxRecDepth 100000 in
theorem rowEd_of {H : Type} {enc : TypeId × Value → H} {w : World} {base fuel : Nat} {held : Bool} {a : Option Addr} {len cap : Nat} {x : DataW H × List MemPlace}
    (h : DataW.trod enc Tryz.prog w base (fun _ => true) held fuel 81 (Value.slice a len cap).cells.toList = some x) : ∃ l, IsEds w a len l := by
  have c4 : Tryz.prog.cellsOf 52 = 5 := by kernel_rfl
  rcases open_slice Tryz.underlying81 h with ⟨hcs, _⟩ | ⟨y, l, c, m, n, D, Pl, hcs, _, hl, hm, hmm, _, hx⟩
  · simp [Value.cells] at hcs
    obtain ⟨rfl, rfl, rfl⟩ := hcs
    exact ⟨[], by unfold maxLen; omega, by simp, rfl, .inl rfl⟩
  · simp [Value.cells] at hcs
    obtain ⟨rfl, rfl, rfl⟩ := hcs
    simp at hmm
    subst hmm
    have each : ∀ i, i < len → ∃ p : EdS, EdW w p.e p.va p.vd ∧ ∀ j u, p.cells[j]? = some u → w.cell? (y.add (i * 5 + j)) = some u := by
      intro i hi
      obtain ⟨cs', h1, h2⟩ := hx i (by omega)
      rw [c4] at h1
      obtain ⟨_, hlen, hcell⟩ := World.cells?_some h1
      obtain ⟨p, hp, rfl⟩ := ed_of h2 hlen
      refine ⟨p, hp, fun j u hj => ?_⟩
      have := hcell j (show j < 5 from (List.getElem?_eq_some_iff.1 hj).1)
      rw [Addr.add_add] at this
      rw [this, hj]
    obtain ⟨q, hq⟩ := choose_ltT EdS.zero each
    refine ⟨(List.range len).map q, Nat.le_trans hl hm, ?_, by simp, ?_⟩
    · intro p hp
      obtain ⟨i, hi, rfl⟩ := List.mem_map.1 hp
      exact (hq i (List.mem_range.1 hi)).1
    · rcases Nat.eq_zero_or_pos len with h0 | h0
      · exact .inl h0
      · right
        have hc0 := (hq 0 h0).2 0 _ rfl
        obtain ⟨b, off, spot⟩ := y
        have hs : spot = none := by simpa [Addr.add] using World.cell?_spot hc0
        subst hs
        refine ⟨b, off, rfl, block_ltT hc0, ?_⟩
        intro i hi j u hu
        have hi' : i < len := by simpa using hi
        have e : ((List.range len).map q)[i] = q i := by simp
        rw [e] at hu
        have := (hq i hi').2 j u hu
        rw [add_plainT, ← Nat.add_assoc] at this
        exact this
/-- The i-th one, in any world behind. -/
theorem IsEds.at {w wr : World} {a : Option Addr} {len : Nat} {l : List EdS} (h : IsEds w a len l) (hb : Below w.heap.size w wr) {i : Nat} (hi : i < len) :
    ∃ b off e aa ac da dc, a = some ⟨b, off, none⟩ ∧ b < w.heap.size ∧ EdW wr e (.slice aa e.add.length ac) (.slice da e.drop.length dc) ∧ wr.cell? ⟨b, off + i * 5, none⟩ = some (.int .i64 e.log) ∧ wr.cell? ⟨b, off + i * 5 + 1, none⟩ = some (.int .i64 e.next) ∧
      wr.cell? ⟨b, off + i * 5 + 2, none⟩ = some (.int .u64 (e.seq : Int)) ∧ wr.cell? ⟨b, off + i * 5 + 3, none⟩ = some (.slice aa e.add.length ac) ∧ wr.cell? ⟨b, off + i * 5 + 4, none⟩ = some (.slice da e.drop.length dc) := by
  obtain ⟨h1, h2, h3, h4⟩ := h
  rcases h4 with h0 | ⟨b, off, e1, hlt, hc⟩
  · omega
  have hw := h2 (l[i]'(by omega)) (List.getElem_mem _)
  have hcell := hc i (by omega)
  generalize l[i]'(by omega) = x at hw hcell
  obtain ⟨e, va, vd⟩ := x
  simp only at hw
  have hw' := hw.below hb
  obtain ⟨aa, ac, rfl⟩ := hw.a.len
  obtain ⟨da, dc, rfl⟩ := hw.d.len
  exact ⟨b, off, e, aa, ac, da, dc, e1, hlt, hw', (hb.cell (p := ⟨b, _, none⟩) hlt).trans (hcell 0 _ rfl), (hb.cell (p := ⟨b, _, none⟩) hlt).trans (hcell 1 _ rfl), (hb.cell (p := ⟨b, _, none⟩) hlt).trans (hcell 2 _ rfl), (hb.cell (p := ⟨b, _, none⟩) hlt).trans (hcell 3 _ rfl), (hb.cell (p := ⟨b, _, none⟩) hlt).trans (hcell 4 _ rfl)⟩
end Go.Proofs.YtlecffpjcjlabaaGreat
