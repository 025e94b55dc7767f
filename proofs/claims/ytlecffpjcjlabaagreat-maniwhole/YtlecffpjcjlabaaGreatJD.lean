/- edit's Put. -/
import Derived.Test.YtlecffpjcjlabaaGreatJC
import Derived.Test.YtlecffpjcjlabaaGreatJR
import Derived.Deep.QuietTactic
namespace Go.Proofs.YtlecffpjcjlabaaGreat
open Go.RowKit Go.Shelf

/-- A builder of a call that began at w0, holding bytes; what lies beside it stays. -/
def BldF (w0 : World) (b : Nat) (acc : List UInt8) (w : World) : Prop := Lib.IsBuilderF 183 5 w0.heap.size b (Lib.byteCells acc) w ∧ Below w0.heap.size w0 w
theorem freshF (w : World) : BldF w w.heap.size [] (w.alloc (Obj.cells #[Value.pointer none, Value.slice none 0 0] 183)) :=
  ⟨Lib.IsBuilderF.of (Lib.fresh_isBuilder _ _ _), (Below.refl _ _).alloc (Nat.le_refl _) _⟩
theorem BldF.below {w0 w w' : World} {b : Nat} {acc : List UInt8} (h : BldF w0 b acc w) (hb : Below w.heap.size w w') : BldF w0 b acc w' := by
  have one : ∀ p, Lib.BuilderAtF 183 5 w0.heap.size b p (Lib.byteCells acc) w → Lib.BuilderAtF 183 5 w0.heap.size b p (Lib.byteCells acc) w' := by
    rintro p ⟨hB, v, hv, hown, hne⟩
    have hlt := (Array.getElem?_eq_some_iff.1 hv).1
    refine ⟨hB, v, (hb.block b hlt).trans hv, ⟨hown.1, ?_⟩, hne⟩
    rcases hown.2 with h0 | ⟨g, cap, cur, fz, e1, e2, e3, e4⟩
    · exact .inl h0
    · exact .inr ⟨g, cap, cur, fz, e1, e2, (hb.block g (Array.getElem?_eq_some_iff.1 e3).1).trans e3, e4⟩
  exact ⟨h.1.elim (fun x => .inl (one _ x)) (fun x => .inr (one _ x)), h.2.trans (hb.mono h.2.size)⟩
theorem writeF_any (w0 : World) (b : Nat) (acc : List UInt8) (A : ByteArray) (w : World) (h : BldF w0 b acc w) (hl : acc.length + A.size ≤ 140737488355328) :
    Calls Tryz.prog 153 #[.pointer (some ⟨b, 0, none⟩), .string A] w fun e w' => e = .returned (.tuple #[.int .i64 A.size, .nilIface]) ∧ BldF w0 b (acc ++ A.data.toList) w' ∧ Lib.OthersKept 5 (some b) w w' := by
  refine (Tryz.Builder_WriteString_k w0.heap.size b (Lib.byteCells acc) A w h.1 (by simpa [Lib.byteCells] using hl) h.2.size).mono ?_
  rintro e w1 ⟨rfl, hq, hb, hk⟩
  refine ⟨rfl, ⟨.inr ?_, h.2.trans hb⟩, hk⟩
  rw [Lib.byteCells_append]
  exact hq
theorem stringF_any (w0 : World) (b : Nat) (acc : List UInt8) (w : World) (h : BldF w0 b acc w) :
    Calls Tryz.prog 156 #[.pointer (some ⟨b, 0, none⟩)] w fun e w' => e = .returned (.string ⟨acc.toArray⟩) ∧ Below w0.heap.size w0 w' := by
  refine (Tryz.Builder_String_any_k w0.heap.size b acc w h.1 h.2.size).mono ?_
  rintro e w1 ⟨rfl, -, hb, -⟩
  exact ⟨rfl, h.2.trans hb⟩
theorem BoxB.kept {w w' : World} {n b : Nat} {t : Tb} (h : BoxB n t w) (hk : Lib.OthersKept 5 (some b) w w') (hn : n ≠ b) : BoxB n t w' :=
  hk n _ h (fun e => hn (by cases e; rfl)) (fun c fz e => by cases e)
/-- The bytes of a table, and of an edit. -/
def putT (t : Tb) : List UInt8 := vars [t.n.toNat, t.lv.toNat, t.sz.toNat] ++ ntexts [t.f, t.l]
def putTs (ts : List Tb) : List UInt8 := (ts.map putT).flatten
def putI (ks : List Int) : List UInt8 := (ks.map fun k => vars [k.toNat]).flatten
def putE (e : Ed) : List UInt8 := vars [e.log.toNat, e.next.toNat, e.seq] ++ (vars [e.add.length] ++ (putTs e.add ++ (vars [e.drop.length] ++ putI e.drop)))
theorem putTs_snoc (ts : List Tb) (x : Tb) : putTs (ts ++ [x]) = putTs ts ++ putT x := by simp [putTs]
theorem putI_snoc (ks : List Int) (k : Int) : putI (ks ++ [k]) = putI ks ++ vars [k.toNat] := by simp [putI]
theorem one_vars (z : Nat) (h : z < 18446744073709551616) : (vars [z]).length ≤ 10 := by have := vars_length [z] (by simpa using h); simpa using this
theorem three_vars (x y z : Nat) (hx : x < 18446744073709551616) (hy : y < 18446744073709551616) (hz : z < 18446744073709551616) : (vars [x, y, z]).length ≤ 30 := by have := vars_length [x, y, z] (by simp; exact ⟨hx, hy, hz⟩); simpa using this
theorem two_texts (x y : ByteArray) (hx : x.size ≤ 9000) (hy : y.size ≤ 9000) : (ntexts [x, y]).length ≤ 18020 := by
  have := ntexts_length [x, y] (fun s hs => by simp at hs; unfold maxLen; rcases hs with rfl | rfl <;> omega)
  simp [ntotal] at this
  omega
theorem ba_size (l : List UInt8) : (⟨l.toArray⟩ : ByteArray).size = l.length := by simp [ByteArray.size]
theorem var1_any (x b : Nat) (W : World) (hx : x < 18446744073709551616) (h0 : W.cell? ⟨b, 0, none⟩ = some (.int .u64 (x : Int))) :
    Calls Tryz.prog 154 #[.slice (some ⟨b, 0, none⟩) 1 1] W fun e w' => e = .returned (.string ⟨(vars [x]).toArray⟩) ∧ Below W.heap.size W w' :=
  var_any b 0 1 [x] W (fun s hs => by simp at hs; rw [hs]; exact hx) (by simp) (fun i hi => by
    match i, hi with
    | 0, _ => exact h0) (World.block_lt_of_cell? W _ h0)
theorem var3_any (x y z b : Nat) (W : World) (hx : x < 18446744073709551616) (hy : y < 18446744073709551616) (hz : z < 18446744073709551616) (h0 : W.cell? ⟨b, 0, none⟩ = some (.int .u64 (x : Int))) (h1 : W.cell? ⟨b, 1, none⟩ = some (.int .u64 (y : Int))) (h2 : W.cell? ⟨b, 2, none⟩ = some (.int .u64 (z : Int))) :
    Calls Tryz.prog 154 #[.slice (some ⟨b, 0, none⟩) 3 3] W fun e w' => e = .returned (.string ⟨(vars [x, y, z]).toArray⟩) ∧ Below W.heap.size W w' :=
  var_any b 0 3 [x, y, z] W (fun s hs => by simp at hs; rcases hs with rfl | rfl | rfl <;> assumption) (by simp) (fun i hi => by
    match i, hi with
    | 0, _ => exact h0
    | 1, _ => exact h1
    | 2, _ => exact h2) (World.block_lt_of_cell? W _ h0)
theorem text2_any (x y : ByteArray) (b : Nat) (W : World) (hx : x.size ≤ 1000000) (hy : y.size ≤ 1000000) (h0 : W.cell? ⟨b, 0, none⟩ = some (.string x)) (h1 : W.cell? ⟨b, 1, none⟩ = some (.string y)) :
    Calls Tryz.prog 155 #[.slice (some ⟨b, 0, none⟩) 2 2] W fun e w' => e = .returned (.string ⟨(ntexts [x, y]).toArray⟩) ∧ Below W.heap.size W w' :=
  text_any b 0 2 [x, y] W (fun s hs => by simp at hs; unfold maxLen; rcases hs with rfl | rfl <;> omega) (by simp [ntotal]; omega) (fun i hi => by
    match i, hi with
    | 0, _ => exact h0
    | 1, _ => exact h1) (World.block_lt_of_cell? W _ h0)
end Go.Proofs.YtlecffpjcjlabaaGreat
