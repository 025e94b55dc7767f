/- wal's GetBatch, of bytes that PutBatch told. -/
import Derived.Test.YtlgcbapgbpofoaaGreatWC
import Derived.Test.YtlgcbapgbpofoaaGreatFZ
namespace Go.Proofs.YtlgcbapgbpofoaaGreat
open Go.RowKit

theorem IsRd.blk {w w' : World} {b : Nat} {s : ByteArray} {e : Int} (h : IsRd w b s e) (hb : w'.heap[b]? = w.heap[b]?) : IsRd w' b s e := by
  have h1 : ∀ j, w'.cell? ⟨b, j, none⟩ = w.cell? ⟨b, j, none⟩ := fun j => World.cell?_of_block hb
  have h2 : ∀ j, w'.frozen? ⟨b, j, none⟩ = w.frozen? ⟨b, j, none⟩ := fun j => by unfold World.frozen?; simp only [hb]
  exact ⟨(h1 0).trans h.c0, (h1 1).trans h.c1, (h2 0).trans h.f0, (h2 1).trans h.f1⟩
/-- A batch in a box. -/
def BoxB (w : World) (n : Nat) (first : Int) (V : Value) : Prop := w.heap[n]? = some (.cells #[.int .u64 first, V] 48)
theorem BoxB.c0 {w : World} {n : Nat} {f : Int} {V : Value} (h : BoxB w n f V) : w.cell? ⟨n, 0, none⟩ = some (.int .u64 f) := by unfold World.cell?; rw [show w.heap[n]? = _ from h]; rfl
theorem BoxB.c1 {w : World} {n : Nat} {f : Int} {V : Value} (h : BoxB w n f V) : w.cell? ⟨n, 1, none⟩ = some V := by unfold World.cell?; rw [show w.heap[n]? = _ from h]; rfl
theorem BoxB.f0 {w : World} {n : Nat} {f : Int} {V : Value} (h : BoxB w n f V) : w.frozen? ⟨n, 0, none⟩ = false := by unfold World.frozen?; rw [show w.heap[n]? = _ from h]; simp
theorem BoxB.f1 {w : World} {n : Nat} {f : Int} {V : Value} (h : BoxB w n f V) : w.frozen? ⟨n, 1, none⟩ = false := by unfold World.frozen?; rw [show w.heap[n]? = _ from h]; simp
theorem BoxB.set1 {w : World} {n : Nat} {f : Int} {V : Value} (h : BoxB w n f V) (U : Value) : BoxB (w.setCell ⟨n, 1, none⟩ U) n f U := heap_setCell_same w n 1 #[.int .u64 f, V] 48 _ h
theorem BoxB.lt {w : World} {n : Nat} {f : Int} {V : Value} (h : BoxB w n f V) : n < w.heap.size := (Array.getElem?_eq_some_iff.1 h).1
def cellsW (ws : List Wr) : List Value := (ws.map Wr.cells).flatten
theorem cellsW_length : ∀ ws : List Wr, (cellsW ws).length = ws.length * 3
  | [] => rfl
  | x :: ws => by
    have := cellsW_length ws
    simp only [cellsW, List.map_cons, List.flatten_cons, List.length_append, List.length_cons] at this ⊢
    rw [this]
    show 3 + _ = _
    omega
theorem cellsW_snoc (ws : List Wr) (x : Wr) : cellsW (ws ++ [x]) = cellsW ws ++ x.cells := by simp [cellsW]
theorem cellsW_get : ∀ (ws : List Wr) (i : Nat) (h : i < ws.length) (j : Nat) (u : Value), ws[i].cells[j]? = some u → (cellsW ws)[i * 3 + j]? = some u
  | x :: ws, 0, _, j, u, hu => by
    have hj : j < x.cells.length := (List.getElem?_eq_some_iff.1 hu).1
    show (x.cells ++ cellsW ws)[0 * 3 + j]? = some u
    rw [Nat.zero_mul, Nat.zero_add, List.getElem?_append_left hj]
    exact hu
  | x :: ws, i + 1, h, j, u, hu => by
    have := cellsW_get ws i (by simpa using h) j u hu
    show (x.cells ++ cellsW ws)[(i + 1) * 3 + j]? = some u
    have hx : x.cells.length = 3 := rfl
    rw [List.getElem?_append_right (by rw [hx]; omega), hx, show (i + 1) * 3 + j - 3 = i * 3 + j by omega]
    exact this
/-- A row of writes, as a slice of writes. -/
theorem wrs_of_row {w : World} {V : Value} {ws : List Wr} (h : Row w 105 3 V ws.length (cellsW ws)) : ∃ a cap, V = .slice a ws.length cap ∧ WrsAt w.heap.size w a ws.length ws := by
  obtain ⟨a, cap, rfl, -, -⟩ := h.le
  refine ⟨a, cap, rfl, rfl, ?_⟩
  rcases h.2 with ⟨h0, -⟩ | ⟨g, cap', cur, e, hg, -⟩
  · exact .inl h0
  · simp only [Value.slice.injEq] at e
    obtain ⟨rfl, -, rfl⟩ := e
    refine .inr ⟨g, 0, rfl, (Array.getElem?_eq_some_iff.1 hg).1, fun i hi j u hu => ?_⟩
    rw [Nat.zero_add, ← Nat.zero_add (i * 3 + j)]
    exact h.cell g 0 _ rfl _ u (cellsW_get ws i hi j u hu)
/-- .. that has some. -/
theorem row_shape {w : World} {V : Value} {ws : List Wr} (h : Row w 105 3 V ws.length (cellsW ws)) (hne : ws.length ≠ 0) : ∃ g cap, V = .slice (some ⟨g, 0, none⟩) ws.length cap ∧ ob V = some g ∧ WrsAt w.heap.size w (some ⟨g, 0, none⟩) ws.length ws ∧ g < w.heap.size := by
  obtain ⟨a, c, e1, hw⟩ := wrs_of_row h
  rcases h.2 with ⟨h0, -⟩ | ⟨g, cap', cur, e, hg, -⟩
  · exact absurd h0 hne
  · rw [e] at e1
    simp only [Value.slice.injEq] at e1
    obtain ⟨rfl, -, rfl⟩ := e1
    exact ⟨g, cap' + 1, e, by rw [e]; rfl, hw, (Array.getElem?_eq_some_iff.1 hg).1⟩
theorem dec_bit (d : Bool) (rest : List UInt8) : decB ((if d then [1] else [0]) ++ rest) = (d, rest, 0) := by cases d <;> rfl
theorem str_len (l : List UInt8) : (⟨l.toArray⟩ : ByteArray).size = l.length := by simp [ByteArray.size]
theorem rbool_at (d : Bool) (b : Nat) (rest : List UInt8) (W : World) (h : IsRd W b ⟨((if d then [1] else [0]) ++ rest).toArray⟩ 0) :
    Calls Tryz.prog 66 #[.pointer (some ⟨b, 0, none⟩)] W fun e w' => e = .returned (.bool d) ∧ IsRd w' b ⟨rest.toArray⟩ 0 ∧ W.grownBy w' (some b) :=
  rbool_ok b _ W h (by rw [List.toList_toArray]; exact dec_bit d rest)
theorem rtext_at (x : ByteArray) (b : Nat) (most : Int) (rest : List UInt8) (W : World) (h : IsRd W b ⟨(Lib.uvarint x.size ++ (x.data.toList ++ rest)).toArray⟩ 0) (hx : (x.size : Int) ≤ most) (hm : most ≤ 1000000) (hr : rest.length ≤ 10000000) :
    Calls Tryz.prog 67 #[.pointer (some ⟨b, 0, none⟩), .int .i64 most] W fun e w' => e = .returned (.string x) ∧ IsRd w' b ⟨rest.toArray⟩ 0 ∧ W.grownBy w' (some b) := by
  have hl := len_data' x
  have hz := Lib.uvarint_length64 (x := x.size) (by omega)
  have := rtext_ok b _ most W h (by rw [str_len, List.length_append, List.length_append]; omega) (by omega) (t := x.data.toList) (r := rest) (by rw [List.toList_toArray, ← hl]; exact decT_laid most _ _ (by omega) (by omega))
  rw [str_eta] at this
  exact this
theorem rvar_at (x : Nat) (b : Nat) (rest : List UInt8) (W : World) (h : IsRd W b ⟨(Lib.uvarint x ++ rest).toArray⟩ 0) (hx : x < 18446744073709551616) (hr : rest.length ≤ 10000000) :
    Calls Tryz.prog 63 #[.pointer (some ⟨b, 0, none⟩)] W fun e w' => e = .returned (.int .u64 (x : Int)) ∧ IsRd w' b ⟨rest.toArray⟩ 0 ∧ W.grownBy w' (some b) := by
  have hz := Lib.uvarint_length64 hx
  exact rvar_ok b _ W h (by rw [str_len, List.length_append]; omega) (by rw [List.toList_toArray]; exact decV_laid x rest hx)
theorem rcount_at (x : Nat) (b : Nat) (rest : List UInt8) (W : World) (h : IsRd W b ⟨(Lib.uvarint x ++ rest).toArray⟩ 0) (hx : x ≤ 60000) (hr : rest.length ≤ 10000000) :
    Calls Tryz.prog 64 #[.pointer (some ⟨b, 0, none⟩), .int .i64 60000] W fun e w' => e = .returned (.int .i64 (x : Int)) ∧ IsRd w' b ⟨rest.toArray⟩ 0 ∧ W.grownBy w' (some b) := by
  have hz := Lib.uvarint_length64 (x := x) (by omega)
  exact rcount_ok b _ 60000 W h (by rw [str_len, List.length_append]; omega) (by omega) (by rw [List.toList_toArray]; exact decC_laid 60000 x rest (by omega) (by omega))
theorem infoW : (Tryz.prog.info? 105).map (fun i => (i.zero, i.size, i.bytes)) = some (some (.agg #[.string ⟨#[]⟩, .string ⟨#[]⟩, .bool false]), 3, 40) := by kernel_rfl
/-- What GetBatch has in hand: the answer's box, the reader, the batch's box and its row of writes. -/
structure GSt (w : World) (R0 RB B5 : Nat) (first : Nat) (rest : List UInt8) (ws : List Wr) (V : Value) (wr : World) : Prop where
  r0 : BoxB wr R0 0 (.slice none 0 0)
  rd : IsRd wr RB ⟨rest.toArray⟩ 0
  b5 : BoxB wr B5 (first : Int) V
  row : Row wr 105 3 V ws.length (cellsW ws)
  own : ∀ k, ob V = some k → w.heap.size ≤ k ∧ k ≠ R0 ∧ k ≠ RB ∧ k ≠ B5
  bel : Below w.heap.size w wr
section
variable {w wr wr' : World} {R0 RB B5 first : Nat} {rest rest' : List UInt8} {ws : List Wr} {V : Value}
theorem GSt.below (h : GSt w R0 RB B5 first rest ws V wr) (hb : Below wr.heap.size wr wr') : GSt w R0 RB B5 first rest ws V wr' :=
  ⟨(hb.block _ h.r0.lt).trans h.r0, h.rd.below hb h.rd.lt, (hb.block _ h.b5.lt).trans h.b5, h.row.kept (fun k hk => hb.block k (h.row.lt k hk)), h.own, h.bel.trans (hb.mono h.bel.size)⟩
theorem GSt.read (h : GSt w R0 RB B5 first rest ws V wr) (hg : wr.grownBy wr' (some RB)) (hr : IsRd wr' RB ⟨rest'.toArray⟩ 0) (h0 : R0 ≠ RB) (h5 : B5 ≠ RB) (hw : w.heap.size ≤ RB) : GSt w R0 RB B5 first rest' ws V wr' :=
  ⟨(hg.block _ h.r0.lt (fun e => h0 (by cases e; rfl))).trans h.r0, hr, (hg.block _ h.b5.lt (fun e => h5 (by cases e; rfl))).trans h.b5, h.row.kept (fun k hk => hg.block k (h.row.lt k hk) (fun e => (h.own k hk).2.2.1 (by cases e; rfl))), h.own,
   ⟨hg.os.trans h.bel.os, hg.tape.trans h.bel.tape, hg.output.trans h.bel.output, Nat.le_trans h.bel.size hg.size, fun k hk => (hg.block k (Nat.lt_of_lt_of_le hk h.bel.size) (fun e => by cases e; omega)).trans (h.bel.block k hk)⟩⟩
/-- Behind the append of a write, and the store of what it told. -/
theorem GSt.more {x : Wr} {v' : Value} {w5 : World} (h : GSt w R0 RB B5 first rest ws V wr) (hrow : Row w5 105 3 v' (ws.length + 1) (cellsW ws ++ x.cells)) (hg : wr.grownBy w5 (ob V)) (hob : ob v' = ob V ∨ (ob v' = some wr.heap.size ∧ wr.grownBy w5 none))
    (hw5 : w.heap.size ≤ B5) (n05 : R0 ≠ B5) (nB5 : RB ≠ B5) : GSt w R0 RB B5 first rest (ws ++ [x]) v' (w5.setCell ⟨B5, 1, none⟩ v') ∧ BoxB w5 B5 (first : Int) V := by
  have own' : ∀ k, ob v' = some k → w.heap.size ≤ k ∧ k ≠ R0 ∧ k ≠ RB ∧ k ≠ B5 := by
    intro k hk
    rcases hob with e | ⟨e, -⟩
    · exact h.own k (by rw [← e]; exact hk)
    · rw [e] at hk
      cases hk
      have h1 := h.r0.lt
      have h2 := h.rd.lt
      have h3 := h.b5.lt
      have h4 := h.bel.size
      exact ⟨h4, by omega, by omega, by omega⟩
  have kp : ∀ k, k < wr.heap.size → ob V ≠ some k → w5.heap[k]? = wr.heap[k]? := fun k hk hne => hg.block k hk (fun e => hne e.symm)
  have k0 := kp R0 h.r0.lt (fun e => (h.own _ e).2.1 rfl)
  have kB := kp RB h.rd.lt (fun e => (h.own _ e).2.2.1 rfl)
  have k5 := kp B5 h.b5.lt (fun e => (h.own _ e).2.2.2 rfl)
  have b5' : BoxB w5 B5 (first : Int) V := k5.trans h.b5
  have st : ∀ k, k ≠ B5 → (w5.setCell ⟨B5, 1, none⟩ v').heap[k]? = w5.heap[k]? := fun k hk => Below.heap_setCell w5 ⟨B5, 1, none⟩ v' k hk
  refine ⟨⟨(st R0 n05).trans (k0.trans h.r0), h.rd.blk ((st RB nB5).trans kB), b5'.set1 v', ?_, own', ?_⟩, b5'⟩
  · rw [List.length_append, cellsW_snoc]
    exact hrow.kept (fun k hk => st k (own' k hk).2.2.2)
  · refine ⟨hg.os.trans h.bel.os, hg.tape.trans h.bel.tape, hg.output.trans h.bel.output, ?_, fun k hk => ?_⟩
    · exact Nat.le_trans h.bel.size (by simpa using hg.size)
    · rw [st k (by omega)]
      exact (hg.block k (Nat.lt_of_lt_of_le hk h.bel.size) (fun e => by have := (h.own k e.symm).1; omega)).trans (h.bel.block k hk)
end
end Go.Proofs.YtlgcbapgbpofoaaGreat
