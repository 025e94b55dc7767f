/- The set of the marks that are told. -/
import Derived.Test.YtcbailiniigcnaaGreatHM8
import Derived.Maps.Own
import Derived.Maps.OwnIn
import Derived.Maps.OwnSet
import Derived.Maps.Views
import Derived.DeepKeys4
namespace Go.Proofs.YtcbailiniigcnaaGreat
open Go.ChangeShapes Go.WideShapes Go.ChangeAt Go.Deep Go.RowKit Go.Lib
open Go.Maps (Keyed)

theorem laidOut14 : laidOutB Tryz.prog = true := by kernel_rfl
set_option maxRecDepth 100000 in
theorem rowMark : (105 : TypeId) < Tryz.prog.types.size := of_decide_eq_true (by kernel_rfl)
theorem wideMark : (match Tryz.prog.underlying 105 with | some (.array _ _) | some (.struct _) => true | _ => false) = true := by rw [Tryz.underlying105]
set_option maxRecDepth 100000 in
theorem lawMark : Keyed Tryz.prog 105 := Keyed.of_law (deep_law_laid laidOut14 (m := 2) (by omega) rowMark (by kernel_rfl) wideMark)
theorem zeroUnit (w : World) : (zeroValue 106).run Tryz.prog w = .ok (.agg #[]) w := by kernel_rfl
set_option maxRecDepth 100000 in
theorem keyTypeMark : Tryz.prog.keyType 105 = true := by kernel_rfl
theorem cellsMark : Tryz.prog.cellsOf 105 = 2 := by kernel_rfl
def markV (k : ByteArray) (s : Int) : Value := .agg #[.string k, .int .u64 s]
theorem key_mark (k : ByteArray) (s : Int) (hk : k.size ≤ maxLen) (h0 : 0 ≤ s) (h1 : s < 18446744073709551616) : ∃ kl, keyOf Tryz.prog 105 (markV k s) = some kl := by
  obtain ⟨m, hm⟩ : ∃ m, Tryz.prog.types.size = m + 1 := Nat.exists_eq_add_one_of_ne_zero (fun e => by have := rowMark; rw [e] at this; exact absurd this (Nat.not_lt_zero _))
  have hw : (Lit.int .u64 s).wf = true := by
    have e1 : IntKind.u64.min = 0 := rfl
    have e2 : IntKind.u64.max = 18446744073709551615 := rfl
    simp only [Lit.wf, e1, e2, Bool.and_eq_true, decide_eq_true_eq]
    omega
  have c1 : Tryz.prog.cellsOf 9 = 1 := by kernel_rfl
  have c2 : Tryz.prog.cellsOf 23 = 1 := by kernel_rfl
  rw [← Option.isSome_iff_exists]
  unfold keyOf markV
  rw [Tryz.underlying105]
  simp only [keyTypeMark, Value.formed, Tryz.underlying105, cellsMark]
  rw [hm]
  simp [Program.keyLits, Tryz.underlying105, Tryz.underlying9, Tryz.underlying23, cellsMark, c1, c2, hk, hw, Value.cells]
theorem markV_inj {k l : ByteArray} {s t : Int} (h : markV k s = markV l t) : k = l ∧ s = t := by
  unfold markV at h
  simp only [Value.agg.injEq, Array.mk.injEq, List.cons.injEq, Value.string.injEq, Value.int.injEq, true_and, and_true] at h
  exact h
/-- The marks that are told. -/
def TellsM (D : DataW Unit) (O : List Ent) : Prop := Maps.IsMap D ∧ ∀ (x : Ent) kl, keyOf Tryz.prog 105 (markV x.k x.s) = some kl → (Maps.has D kl = true ↔ ∃ e ∈ O, SameE e x)
theorem tellsM_nil : TellsM (.map []) [] := ⟨⟨[], rfl⟩, fun x kl _ => ⟨fun h => by simp [Maps.has] at h, fun ⟨e, he, _⟩ => by cases he⟩⟩
theorem TellsM.put {D : DataW Unit} {O : List Ent} (h : TellsM D O) (x : Ent) {kl : Lit} (hk : keyOf Tryz.prog 105 (markV x.k x.s) = some kl) (d : DataW Unit) : TellsM (D.put kl d) (O ++ [x]) := by
  refine ⟨?_, fun y kl' hk' => ?_⟩
  · obtain ⟨es, rfl⟩ := h.1
    exact ⟨_, rfl⟩
  · by_cases e : kl' = kl
    · subst e
      have hv := markV_inj (lawMark.inj hk hk')
      rw [Maps.has_put_same h.1 (lawMark.key hk)]
      exact ⟨fun _ => ⟨x, by simp, hv⟩, fun _ => rfl⟩
    · rw [Maps.has_put_other e, h.2 y kl' hk']
      constructor
      · rintro ⟨z, hz, hs⟩
        exact ⟨z, List.mem_append_left _ hz, hs⟩
      · rintro ⟨z, hz, hs⟩
        rcases List.mem_append.1 hz with hz | hz
        · exact ⟨z, hz, hs⟩
        · simp only [List.mem_singleton] at hz
          subst hz
          refine absurd ?_ e
          rw [show markV y.k y.s = markV z.k z.s by rw [hs.1, hs.2], hk] at hk'
          exact (Option.some.inj hk').symm
/-- How much waits, read from memory. -/
def heapSum (w : World) (p : Nat) : Nat :=
  match w.cell? ⟨p, 0, none⟩ with
  | some (.slice (some a) n _) => ((List.range n).map fun i => match w.cell? ⟨a.block, a.off + i * 2, none⟩ with | some (.slice _ l _) => l | _ => 0).sum
  | _ => 0
theorem heapSum_eq {w : World} {p : Nat} {v : Value} {H : List Hd} (h : HpAt w p v H) : heapSum w p = sumH H := by
  unfold heapSum
  rw [h.cell]
  obtain ⟨a, cap, hv, -, -⟩ := h.2.le
  have hs : sumH H = ((List.range H.length).map fun i => (H.getD i Hd.zero).l.length).sum := by
    unfold sumH
    congr 1
    refine List.ext_getElem (by simp) fun i h1 h2 => ?_
    have h3 : i < H.length := by simpa using h1
    simp [List.getElem?_eq_getElem h3]
  by_cases h0 : H.length = 0
  · obtain rfl : H = [] := List.eq_nil_of_length_eq_zero h0
    rw [hv]
    cases a <;> rfl
  · rcases h.2.2 with ⟨e, -⟩ | ⟨g, c, cur, hv2, -⟩
    · omega
    · have hr := h.2
      rw [hv2] at hr ⊢
      rw [hs]
      simp only
      congr 1
      refine List.map_congr_left fun i hi => ?_
      have := (hsAt_of hr rfl i (List.mem_range.1 hi)).1
      rw [this]
end Go.Proofs.YtcbailiniigcnaaGreat
