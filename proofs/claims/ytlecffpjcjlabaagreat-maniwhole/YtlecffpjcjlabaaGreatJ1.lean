/- Tables in memory; those that came in. -/
import Derived.Test.YtlecffpjcjlabaaGreatJP
import Derived.Test.YtlecffpjcjlabaaGreatRO
import Derived.Test.YtlecffpjcjlabaaGreatFR
import Derived.Deep.Slices
import Derived.Deep.SlicePairs
import Derived.ProofKit
import Derived.ChangeOld
import Derived.OpenShut
import Derived.Laws.IdiomStrings
namespace Go.Proofs.YtlecffpjcjlabaaGreat
open Go.ChangeShapes Go.WideShapes Go.ChangeAt Go.Deep
open Go.RowKit Go.Lib

theorem belowN {B : Nat} {a w : World} (h : Below B a w) (n : Nat) : Below B a (w.drewN n) := ⟨h.os, h.tape, h.output, h.size, h.block⟩
theorem nce {w : World} {cur : Array Value} {e : TypeId} {n j : Nat} {v : Value} (hn : n = w.heap.size) (h : cur[j]? = some v) : (w.alloc (.cells cur e)).cell? ⟨n, j, none⟩ = some v := by
  subst hn
  have hb : (w.alloc (.cells cur e)).heap[w.heap.size]? = some (.cells cur e) := by simp [World.alloc, -World.alloc_eq]
  simp only [World.cell?, hb]
  exact h
theorem oce {w : World} {o : Obj} {b j : Nat} {v : Value} (hb : b < w.heap.size) (h : w.cell? ⟨b, j, none⟩ = some v) : (w.alloc o).cell? ⟨b, j, none⟩ = some v :=
  (World.cell?_of_block (Below.heap_alloc w o b hb)).trans h
theorem new_block (w : World) (o : Obj) {n : Nat} (hn : n = w.heap.size) : (w.alloc o).heap[n]? = some o := by
  subst hn
  simp [World.alloc, -World.alloc_eq]
def Tb.cells (t : Tb) : List Value := [.int .i64 t.n, .int .i64 t.lv, .int .i64 t.sz, .string t.f, .string t.l]
def Tb.val (t : Tb) : Value := .agg #[.int .i64 t.n, .int .i64 t.lv, .int .i64 t.sz, .string t.f, .string t.l]
/-- A table in a box of its own. -/
def BoxB (B : Nat) (t : Tb) (w : World) : Prop :=
  w.heap[B]? = some (.cells #[.int .i64 t.n, .int .i64 t.lv, .int .i64 t.sz, .string t.f, .string t.l] 89)
section
variable {B : Nat} {t : Tb} {w : World}
theorem BoxB.lt (h : BoxB B t w) : B < w.heap.size := (Array.getElem?_eq_some_iff.1 h).1
theorem BoxB.c0 (h : BoxB B t w) : w.cell? ⟨B, 0, none⟩ = some (.int .i64 t.n) := by unfold World.cell?; rw [show w.heap[B]? = _ from h]; rfl
theorem BoxB.c1 (h : BoxB B t w) : w.cell? ⟨B, 1, none⟩ = some (.int .i64 t.lv) := by unfold World.cell?; rw [show w.heap[B]? = _ from h]; rfl
theorem BoxB.c2 (h : BoxB B t w) : w.cell? ⟨B, 2, none⟩ = some (.int .i64 t.sz) := by unfold World.cell?; rw [show w.heap[B]? = _ from h]; rfl
theorem BoxB.c3 (h : BoxB B t w) : w.cell? ⟨B, 3, none⟩ = some (.string t.f) := by unfold World.cell?; rw [show w.heap[B]? = _ from h]; rfl
theorem BoxB.c4 (h : BoxB B t w) : w.cell? ⟨B, 4, none⟩ = some (.string t.l) := by unfold World.cell?; rw [show w.heap[B]? = _ from h]; rfl
theorem BoxB.fz (h : BoxB B t w) (j : Nat) : w.frozen? ⟨B, j, none⟩ = false := by unfold World.frozen?; rw [show w.heap[B]? = _ from h]; simp
theorem BoxB.below {w' : World} (h : BoxB B t w) (hb : Below w.heap.size w w') : BoxB B t w' := (hb.block B h.lt).trans h
theorem BoxB.turn {w' : World} {F : List Nat} (h : BoxB B t w) (hb : Turn F w w') (hF : B ∉ F) : BoxB B t w' := (hb.block B h.lt hF).trans h
end
/-- A slice of tables: there are none, or they lie in one block. -/
def TbsAt (n₀ : Nat) (w : World) (a : Option Addr) (len : Nat) (es : List Tb) : Prop :=
  es.length = len ∧ (len = 0 ∨ ∃ b off, a = some ⟨b, off, none⟩ ∧ b < n₀ ∧ ∀ i (h : i < es.length), ∀ j u, es[i].cells[j]? = some u → w.cell? ⟨b, off + i * 5 + j, none⟩ = some u)
theorem TbsAt.below {n₀ : Nat} {A B : World} {a : Option Addr} {len : Nat} {es : List Tb} (h : TbsAt n₀ A a len es) (hb : Below n₀ A B) : TbsAt n₀ B a len es := by
  refine ⟨h.1, ?_⟩
  rcases h.2 with h0 | ⟨b, off, e, hlt, hc⟩
  · exact .inl h0
  · exact .inr ⟨b, off, e, hlt, fun i hi j u hu => (hb.cell (p := ⟨b, off + i * 5 + j, none⟩) hlt).trans (hc i hi j u hu)⟩
theorem TbsAt.mono {n₀ n₁ : Nat} {w : World} {a : Option Addr} {len : Nat} {es : List Tb} (h : TbsAt n₀ w a len es) (hn : n₀ ≤ n₁) : TbsAt n₁ w a len es := by
  refine ⟨h.1, ?_⟩
  rcases h.2 with h0 | ⟨b, off, e, hlt, hc⟩
  · exact .inl h0
  · exact .inr ⟨b, off, e, Nat.lt_of_lt_of_le hlt hn, hc⟩
theorem TbsAt.grown {w w' : World} {a : Option Addr} {len : Nat} {es : List Tb} (h : TbsAt w.heap.size w a len es) (hb : Below w.heap.size w w') : TbsAt w'.heap.size w' a len es := (h.below hb).mono hb.size
/-- Of a place in it: where it lies, and its cells. -/
theorem TbsAt.at {n₀ : Nat} {w : World} {a : Option Addr} {len : Nat} {es : List Tb} (h : TbsAt n₀ w a len es) {i : Nat} (hi : i < len) :
    ∃ b off, a = some ⟨b, off, none⟩ ∧ b < n₀ ∧ ∀ j u, (tabAt es i).cells[j]? = some u → w.cell? ⟨b, off + i * 5 + j, none⟩ = some u := by
  have hl := h.1
  rcases h.2 with h0 | ⟨b, off, e, h1, h2⟩
  · omega
  · exact ⟨b, off, e, h1, by rw [tabAt_get (show i < es.length by omega)]; exact h2 i (by omega)⟩
def cellsT (ts : List Tb) : List Value := ts.flatMap Tb.cells
theorem cells_len (t : Tb) : t.cells.length = 5 := rfl
theorem cellsT_len : ∀ ts : List Tb, (cellsT ts).length = ts.length * 5
  | [] => rfl
  | t :: ts => by
    have := cellsT_len ts
    unfold cellsT at this ⊢
    rw [List.flatMap_cons, List.length_append, this, cells_len, List.length_cons]
    omega
theorem cellsT_append (a b : List Tb) : cellsT (a ++ b) = cellsT a ++ cellsT b := by simp [cellsT]
theorem cellsT_one (t : Tb) : cellsT [t] = t.cells := by simp [cellsT]
theorem cellsT_get : ∀ (ts : List Tb) (i : Nat) (h : i < ts.length) (j : Nat), j < 5 → (cellsT ts)[i * 5 + j]? = ts[i].cells[j]?
  | t :: ts, 0, _, j, hj => by
    have e : cellsT (t :: ts) = t.cells ++ cellsT ts := by simp [cellsT]
    rw [e, Nat.zero_mul, Nat.zero_add, List.getElem?_append_left (by rw [cells_len]; exact hj)]
    rfl
  | t :: ts, i + 1, h, j, hj => by
    have e : cellsT (t :: ts) = t.cells ++ cellsT ts := by simp [cellsT]
    rw [e, List.getElem?_append_right (by rw [cells_len]; omega), cells_len, show (i + 1) * 5 + j - 5 = i * 5 + j by omega, cellsT_get ts i (by simpa using h) j hj]
    rfl
theorem cells_lt {t : Tb} {j : Nat} {u : Value} (h : t.cells[j]? = some u) : j < 5 := by
  have := (List.getElem?_eq_some_iff.1 h).1
  simpa [Tb.cells] using this
/-- A row of tables of a call's own. -/
def RowB (w : World) (v : Value) (ts : List Tb) : Prop := Row w 89 5 v ts.length (cellsT ts)
theorem RowB.at {w : World} {a : Option Addr} {n c : Nat} {ts : List Tb} (h : RowB w (.slice a n c) ts) : n = ts.length ∧ TbsAt w.heap.size w a n ts := by
  obtain ⟨a', c', e, -, -⟩ := Row.le h
  cases e
  refine ⟨rfl, rfl, ?_⟩
  rcases Nat.eq_zero_or_pos ts.length with h0 | h0
  · exact .inl h0
  · rcases h.2 with ⟨h1, -⟩ | ⟨g, cap, cur, e, hg, -⟩
    · omega
    · cases e
      refine .inr ⟨g, 0, rfl, (Array.getElem?_eq_some_iff.1 hg).1, fun i hi j u hu => ?_⟩
      rw [Nat.add_assoc]
      exact Row.cell h g 0 _ rfl (i * 5 + j) u (by rw [cellsT_get ts i hi j (cells_lt hu)]; exact hu)
theorem row_nilB (w : World) : RowB w (.slice none 0 0) [] := row_nil _ _ _
theorem infoTab : (Tryz.prog.info? 89).map (fun i => (i.zero, i.size, i.bytes)) = some (some Tb.zero.val, 5, 56) := by kernel_rfl
def Tb.Ok (e : Tb) : Prop := (-9223372036854775808 ≤ e.n ∧ e.n ≤ 9223372036854775807) ∧ (-9223372036854775808 ≤ e.lv ∧ e.lv ≤ 9223372036854775807) ∧ (-9223372036854775808 ≤ e.sz ∧ e.sz ≤ 9223372036854775807) ∧ e.f.size ≤ maxLen ∧ e.l.size ≤ maxLen
set_option maxRecDepth 100000 in
theorem tab_of {H : Type} {enc : TypeId × Value → H} {w : World} {base n : Nat} {sp : Nat → Bool} {held : Bool} {cs : List Value} {y : DataW H × List MemPlace}
    (h : DataW.trod enc Tryz.prog w base sp held n 89 cs = some y) (hl : cs.length = 5) : ∃ p : Tb, p.Ok ∧ cs = p.cells := by
  obtain ⟨xs, k, hk, hxy, _, hxl, hf⟩ := DataW.trod_struct Tryz.underlying89 h
  have c3 : Tryz.prog.cellsOf 3 = 1 := by kernel_rfl
  have c9 : Tryz.prog.cellsOf 9 = 1 := by kernel_rfl
  match xs, hxl, cs, hl with
  | [y0, y1, y2, y3, y4], _, [v0, v1, v2, v3, v4], _ =>
    have g0 := hf 0 _ rfl
    have g1 := hf 1 _ rfl
    have g2 := hf 2 _ rfl
    have g3 := hf 3 _ rfl
    have g4 := hf 4 _ rfl
    simp [c3, c9] at g0 g1 g2 g3 g4
    obtain ⟨z0, e0, -, b0⟩ := DataW.trod_int Tryz.underlying3 g0
    obtain ⟨z1, e1, -, b1⟩ := DataW.trod_int Tryz.underlying3 g1
    obtain ⟨z2, e2, -, b2⟩ := DataW.trod_int Tryz.underlying3 g2
    obtain ⟨s3, e3, -, b3⟩ := DataW.trod_string Tryz.underlying9 g3
    obtain ⟨s4, e4, -, b4⟩ := DataW.trod_string Tryz.underlying9 g4
    simp only [List.cons.injEq, and_true] at e0 e1 e2 e3 e4
    subst e0 e1 e2 e3 e4
    have k0 := bounds_i64 b0
    have k1 := bounds_i64 b1
    have k2 := bounds_i64 b2
    exact ⟨⟨z0, z1, z2, s3, s4⟩, ⟨k0, k1, k2, b3, b4⟩, rfl⟩
theorem tab_val {H : Type} {enc : TypeId × Value → H} {w : World} {base n : Nat} {sp : Nat → Bool} {held : Bool} {cs : Array Value} {y : DataW H × List MemPlace}
    (h : DataW.trod enc Tryz.prog w base sp held n 89 (Value.agg cs).cells.toList = some y) (hl : cs.size = Tryz.prog.cellsOf 89) : ∃ p : Tb, p.Ok ∧ Value.agg cs = p.val := by
  have c4 : Tryz.prog.cellsOf 89 = 5 := by kernel_rfl
  obtain ⟨p, hp, he⟩ := tab_of h (by rw [Value.cells, Array.length_toList, hl, c4])
  refine ⟨p, hp, ?_⟩
  have : cs = p.cells.toArray := by
    apply Array.ext'
    rw [List.toList_toArray]
    exact he
  rw [this]
  rfl
theorem add_plainT (b o j : Nat) : (⟨b, o, none⟩ : Addr).add j = ⟨b, o + j, none⟩ := by unfold Addr.add; split <;> simp_all
theorem block_ltT {w : World} {a : Addr} {v : Value} (h : w.cell? a = some v) : a.block < w.heap.size := by
  rcases Nat.lt_or_ge a.block w.heap.size with h1 | h1
  · exact h1
  · simp [World.cell?, Array.getElem?_eq_none h1] at h
/-- A list of tables that came in. -/
def IsTs (w : World) (a : Option Addr) (len : Nat) (l : List Tb) : Prop := len ≤ maxLen ∧ (∀ x ∈ l, x.Ok) ∧ TbsAt w.heap.size w a len l
theorem choose_ltT {α : Type} (z : α) {n : Nat} {p : Nat → α → Prop} (h : ∀ i, i < n → ∃ x, p i x) : ∃ f : Nat → α, ∀ i, i < n → p i (f i) := by
  classical
  exact ⟨fun i => if hi : i < n then Classical.choose (h i hi) else z, fun i hi => by
    simp only [hi, dite_true]
    exact Classical.choose_spec (h i hi)⟩
set_option maxRecDepth 100000 in
theorem rowT_of {H : Type} {enc : TypeId × Value → H} {w : World} {base fuel : Nat} {held : Bool} {a : Option Addr} {len cap : Nat} {x : DataW H × List MemPlace}
    (h : DataW.trod enc Tryz.prog w base (fun _ => true) held fuel 49 (Value.slice a len cap).cells.toList = some x) : (∃ l, IsTs w a len l) ∧ (a = none → cap = 0) ∧ len ≤ cap ∧ cap ≤ maxLen := by
  have c4 : Tryz.prog.cellsOf 89 = 5 := by kernel_rfl
  rcases open_slice Tryz.underlying49 h with ⟨hcs, _⟩ | ⟨y, l, c, m, n, D, Pl, hcs, _, hl, hm, hmm, _, hx⟩
  · simp [Value.cells] at hcs
    obtain ⟨rfl, rfl, rfl⟩ := hcs
    exact ⟨⟨[], by unfold maxLen; omega, by simp, rfl, .inl rfl⟩, fun _ => rfl, Nat.le_refl _, Nat.zero_le _⟩
  · simp [Value.cells] at hcs
    obtain ⟨rfl, rfl, rfl⟩ := hcs
    simp at hmm
    subst hmm
    have each : ∀ i, i < len → ∃ p : Tb, p.Ok ∧ ∀ j u, p.cells[j]? = some u → w.cell? (y.add (i * 5 + j)) = some u := by
      intro i hi
      obtain ⟨cs', h1, h2⟩ := hx i (by omega)
      rw [c4] at h1
      obtain ⟨_, hlen, hcell⟩ := World.cells?_some h1
      obtain ⟨p, hp, rfl⟩ := tab_of h2 hlen
      refine ⟨p, hp, fun j u hj => ?_⟩
      have := hcell j (cells_lt hj)
      rw [Addr.add_add] at this
      rw [this, hj]
    obtain ⟨q, hq⟩ := choose_ltT Tb.zero each
    refine ⟨⟨(List.range len).map q, Nat.le_trans hl hm, ?_, by simp, ?_⟩, (fun h => by cases h), hl, hm⟩
    · intro p hp
      obtain ⟨i, hi, rfl⟩ := List.mem_map.1 hp
      exact (hq i (List.mem_range.1 hi)).1
    · rcases Nat.eq_zero_or_pos len with h0 | h0
      · exact .inl h0
      · right
        have hc0 := (hq 0 h0).2 0 _ rfl
        obtain ⟨b, off, spot⟩ := y
        have hs : spot = none := by simpa [Addr.add] using World.cell?_spot hc0
        subst hs
        refine ⟨b, off, rfl, block_ltT hc0, ?_⟩
        intro i hi j u hu
        have hi' : i < len := by simpa using hi
        have e : ((List.range len).map q)[i] = q i := by simp
        rw [e] at hu
        have := (hq i hi').2 j u hu
        rw [add_plainT, ← Nat.add_assoc] at this
        exact this
/-- What a table that fits has. -/
def Tb.Short (e : Tb) : Prop := e.f.size ≤ 9000 ∧ e.l.size ≤ 9000
def lensT (x : Tb) : List Int := [(x.f.size : Int), (x.l.size : Int)]
theorem lensT_small {x : Tb} {r : Int} (h1 : -1 ≤ r) (h2 : r ≤ 9000) (h : 0 ≤ roomL r (lensT x)) : x.Short := by
  obtain ⟨-, -, h3⟩ := roomL_le (lensT x) r h1 (by simp [lensT])
  have := h3 h
  simp only [lensT, List.mem_cons, List.not_mem_nil, or_false, forall_eq_or_imp, forall_eq] at this
  unfold Tb.Short
  omega
/-- A slice of tables that can be read: none at all, or one that lies somewhere. -/
def TbsV (w : World) (v : Value) (ts : List Tb) : Prop := (v = .slice none 0 0 ∧ ts = []) ∨ ∃ y cap, v = .slice (some y) ts.length cap ∧ ∀ j u, (cellsT ts)[j]? = some u → w.cell? (y.add j) = some u
theorem TbsV.below {w w' : World} {v : Value} {ts : List Tb} (h : TbsV w v ts) (hb : Below w.heap.size w w') : TbsV w' v ts := by
  rcases h with h | ⟨y, cap, rfl, hc⟩
  · exact .inl h
  · exact .inr ⟨y, cap, rfl, fun j u hu => (hb.cell (p := y.add j) (World.block_lt_of_cell? w _ (hc j u hu))).trans (hc j u hu)⟩
theorem TbsV.belowB {B : Nat} {w0 w w' : World} {v : Value} {ts : List Tb} (h : TbsV w0 v ts) (hB : B = w0.heap.size) (h1 : Below B w0 w) (h2 : Below B w w') : TbsV w' v ts := by
  subst hB
  exact h.below (h1.trans h2)
theorem TbsV.len {w : World} {v : Value} {ts : List Tb} (h : TbsV w v ts) : ∃ a cap, v = .slice a ts.length cap := by
  rcases h with ⟨rfl, rfl⟩ | ⟨y, cap, rfl, hc⟩
  · exact ⟨_, _, rfl⟩
  · exact ⟨_, _, rfl⟩
theorem TbsV.at {w : World} {a : Option Addr} {n cap : Nat} {ts : List Tb} (h : TbsV w (.slice a n cap) ts) {i : Nat} (hi : i < ts.length) :
    ∃ b off, a = some ⟨b, off, none⟩ ∧ b < w.heap.size ∧ ∀ j u, (tabAt ts i).cells[j]? = some u → w.cell? ⟨b, off + i * 5 + j, none⟩ = some u := by
  rcases h with ⟨-, rfl⟩ | ⟨y, c, e, hc⟩
  · simp at hi
  · cases e
    have h0 : (cellsT ts)[0]? = some (.int .i64 (tabAt ts 0).n) := by
      have := cellsT_get ts 0 (by omega) 0 (by omega)
      rw [Nat.zero_mul, Nat.zero_add, ← tabAt_get] at this
      rw [this]
      rfl
    have c0 := hc 0 _ h0
    obtain ⟨b, off, spot⟩ := y
    have hs : spot = none := by simpa [Addr.add] using World.cell?_spot c0
    subst hs
    refine ⟨b, off, rfl, block_ltT c0, fun j u hu => ?_⟩
    have := hc (i * 5 + j) u (by rw [cellsT_get ts i hi j (cells_lt hu), ← tabAt_get hi]; exact hu)
    rw [add_plainT, ← Nat.add_assoc] at this
    exact this
theorem RowB.v {w : World} {v : Value} {ts : List Tb} (h : RowB w v ts) : TbsV w v ts := by
  rcases h.2 with ⟨h0, rfl | ⟨b, o, rfl⟩⟩ | ⟨g, cap, cur, rfl, hg, -⟩
  · exact .inl ⟨rfl, List.eq_nil_of_length_eq_zero h0⟩
  · refine .inr ⟨_, 0, by rw [h0], fun j u hu => ?_⟩
    rw [List.eq_nil_of_length_eq_zero h0] at hu
    cases hu
  · refine .inr ⟨_, _, rfl, fun j u hu => ?_⟩
    rw [add_plainT]
    exact Row.cell h g 0 _ rfl j u hu
theorem TbsAt.v {n₀ : Nat} {w : World} {a : Option Addr} {len cap : Nat} {ts : List Tb} (h : TbsAt n₀ w a len ts) (hn : a = none → cap = 0) : TbsV w (.slice a len cap) ts := by
  obtain ⟨hl, h⟩ := h
  cases a with
  | none =>
    rcases h with h0 | ⟨b, off, e, -⟩
    · subst h0
      rw [hn rfl]
      exact .inl ⟨rfl, List.eq_nil_of_length_eq_zero hl⟩
    · cases e
  | some y =>
    refine .inr ⟨y, cap, by rw [hl], fun j u hu => ?_⟩
    have hj : j < ts.length * 5 := by rw [← cellsT_len]; exact (List.getElem?_eq_some_iff.1 hu).1
    rcases h with h0 | ⟨b, off, e, -, hc⟩
    · omega
    · cases e
      have h2 := cellsT_get ts (j / 5) (by omega) (j % 5) (by omega)
      rw [show j / 5 * 5 + j % 5 = j by omega, hu] at h2
      have := hc (j / 5) (by omega) (j % 5) u h2.symm
      rw [add_plainT]
      rw [show off + j / 5 * 5 + j % 5 = off + j by omega] at this
      exact this
theorem cellsT_one1 (ts : List Tb) : ∀ u ∈ cellsT ts, u.oneCell' = true := by
  intro u hu
  unfold cellsT at hu
  obtain ⟨t, -, ht⟩ := List.mem_flatMap.1 hu
  simp [Tb.cells] at ht
  rcases ht with rfl | rfl | rfl | rfl | rfl <;> rfl
theorem TbsV.src {w : World} {v : Value} {ts : List Tb} (h : TbsV w v ts) : Src Tryz.prog 5 49 v ts.length (cellsT ts) w := by
  rcases h with ⟨rfl, rfl⟩ | ⟨y, cap, rfl, hc⟩
  · exact Src.ofNil (P := Tryz.prog) w (size := 5) Tryz.underlying49 0
  · exact Src.ofSlice (P := Tryz.prog) w (size := 5) Tryz.underlying49 y ts.length cap (cellsT ts) (cellsT_len ts) hc (cellsT_one1 ts)
end Go.Proofs.YtlecffpjcjlabaaGreat
