/- edit's readInt, readTable. -/
import Derived.Test.YtlecffpjcjlabaaGreatJA
import Derived.Test.YtlecffpjcjlabaaGreatJR
namespace Go.Proofs.YtlecffpjcjlabaaGreat
open Go.RowKit Go.Shelf

set_option maxHeartbeats 1000000 in
theorem pr_end {w : World} {b : Nat} {l : List UInt8} {e : Int} (h : Rdr w b l e) :
    Calls Tryz.prog 290 #[.pointer (some ⟨b, 0, none⟩)] w fun x w' => x = .returned (.int .i64 (if e ≠ 0 then e else if l.length = 0 then 0 else 4)) ∧ w = w' := by
  have C1 := Lib.hid (pr_err h)
  by_cases he : e = 0
  · subst he
    have C2 := Lib.hid (pr_left h)
    rw [if_neg (by simp)]
    by_cases hl : l.length = 0
    · rw [if_pos hl]
      rw [hl] at C2
      clear h hl
      go_enter Tryz.func290, Tryz.ntmps290
      go_wp2_with (first | (go_at_call 303; (with_reducible refine C1.out.mono ?_); rintro _ w1 ⟨rfl, rfl⟩) | (go_at_call 308; (with_reducible refine C2.out.mono ?_); rintro _ w2 ⟨rfl, rfl⟩) | fail)
      go_ret
      exact ⟨rfl, rfl⟩
    · rw [if_neg hl]
      have hd : decide ((0 : Int) < (l.length : Int)) = true := by simp; omega
      have hd2 : 0 < l.length := by omega
      clear h hl
      go_enter Tryz.func290, Tryz.ntmps290
      go_wp2_with (first | (go_at_call 303; (with_reducible refine C1.out.mono ?_); rintro _ w1 ⟨rfl, rfl⟩) | (go_at_call 308; (with_reducible refine C2.out.mono ?_); rintro _ w2 ⟨rfl, rfl⟩) | fail)
      go_ret
      exact ⟨rfl, rfl⟩
  · rw [if_pos he]
    have hd : (e != 0) = true := by simpa using he
    clear h he
    go_enter Tryz.func290, Tryz.ntmps290
    go_wp2_with (first | (go_at_call 303; (with_reducible refine C1.out.mono ?_); rintro _ w1 ⟨rfl, rfl⟩) | fail)
    go_ret
    exact ⟨rfl, rfl⟩
theorem rdV_zero {l : List UInt8} {e : Int} (h : 0 < (rdV l e).1) : (rdV l e).2.2 = 0 := by
  by_cases he : e = 0
  · subst he
    rcases decV_cases l with ⟨v, r, hv⟩ | ⟨e, he, hv⟩
    · rw [rdV_ok hv]
    · rw [rdV_bad hv he] at h; simp at h
  · rw [rdV_err he] at h; simp at h
theorem rdV_lt (l : List UInt8) (e : Int) : (rdV l e).1 < 18446744073709551616 := by
  unfold rdV
  split
  · simp
  · split
    · simp
    · exact decV_lt l 0 0 (by omega) (by simp)
/-- An int, read: the number, what is left, the error. -/
def rdI (l : List UInt8) (e : Int) : Nat × List UInt8 × Int := if 4611686018427387904 < (rdV l e).1 then (0, (rdV l e).2.1, 4) else rdV l e
theorem rdI_le (l : List UInt8) (e : Int) : (rdI l e).1 ≤ 4611686018427387904 := by
  unfold rdI
  split
  · simp
  · omega
set_option maxHeartbeats 2000000 in
theorem readInt_any {w : World} {b : Nat} {l : List UInt8} {e : Int} (h : Rdr w b l e) :
    Calls Tryz.prog 285 #[.pointer (some ⟨b, 0, none⟩)] w fun x w' => x = .returned (.int .i64 ((rdI l e).1 : Int)) ∧ Rdr w' b (rdI l e).2.1 (rdI l e).2.2 ∧ w.grownBy w' (some b) := by
  have C1 := Lib.hid (pr_var h)
  have HZ := Lib.hid (rdV_zero (l := l) (e := e))
  unfold rdI
  obtain ⟨v1, l1, e1⟩ : ∃ x, x = rdV l e := ⟨_, rfl⟩
  generalize rdV l e = R at *
  obtain ⟨v, l1, e1⟩ := R
  simp only at C1 HZ ⊢
  by_cases hv : 4611686018427387904 < v
  · rw [if_pos hv]
    obtain rfl : e1 = 0 := HZ.out (by omega)
    have d1 : decide ((4611686018427387904 : Int) < (v : Int)) = true := by simp; omega
    clear hv h
    go_enter Tryz.func285, Tryz.ntmps285
    go_wp2_with fail
    go_at_call 286
    (with_reducible refine C1.out.mono ?_)
    rintro _ w1 ⟨rfl, hr1, hg1⟩
    obtain ⟨s, hs, hsl, hsz⟩ := hr1.at
    have C2 := Lib.hid (fail_first b s 4 w1 hs)
    have HF := Lib.hid (show Rdr (w1.setCell ⟨b, 1, none⟩ (.int .i64 4)) b l1 4 from Rdr.of (hs.setErr 4) (fun h => absurd (show (4 : Int) = 0 from h) (by decide)) hsz)
    have HG := Lib.hid (grownBy_trans hg1 (grownBy_set w1 b 1 (.int .i64 4)))
    clear hr1 hg1 hs hsl hsz
    go_wp2_with (go_at_call 302; (with_reducible refine C2.out.mono ?_); rintro _ w2 ⟨rfl, rfl⟩)
    go_ret
    exact ⟨rfl, HF.out, HG.out⟩
  · rw [if_neg hv]
    have d1 : decide ((4611686018427387904 : Int) < (v : Int)) = false := by simp; omega
    have hw : IntKind.i64.wrap (v : Int) = (v : Int) := by rw [IntKind.wrap_i64]; omega
    clear hv h
    go_enter Tryz.func285, Tryz.ntmps285
    go_wp2_with fail
    go_at_call 286
    (with_reducible refine C1.out.mono ?_)
    rintro _ w1 ⟨rfl, hr1, hg1⟩
    have HF := Lib.hid hr1
    have HG := Lib.hid hg1
    clear hr1 hg1
    go_wp2_with fail
    go_ret
    exact ⟨rfl, HF.out, HG.out⟩
/-- A table, read. -/
def rdTb (l : List UInt8) (e : Int) : Tb × List UInt8 × Int :=
  let a := rdI l e
  let b := rdI a.2.1 a.2.2
  let c := rdI b.2.1 b.2.2
  let d := rdT 300 c.2.1 c.2.2
  let f := rdT 300 d.2.1 d.2.2
  (⟨(a.1 : Int), (b.1 : Int), (c.1 : Int), ⟨d.1.toArray⟩, ⟨f.1.toArray⟩⟩, f.2.1, f.2.2)
theorem BoxB.grown {w w' : World} {B b : Nat} {t : Tb} (h : BoxB B t w) (hg : w.grownBy w' (some b)) (hn : B ≠ b) : BoxB B t w' := (hg.block B h.lt (fun e => hn (by cases e; rfl))).trans h
theorem Rdr.setOther {w : World} {b X o : Nat} {l : List UInt8} {e : Int} {u : Value} (h : Rdr w b l e) (hX : X ≠ b) : Rdr (w.setCell ⟨X, o, none⟩ u) b l e := by
  obtain ⟨s, hr, hl, hs⟩ := h
  refine ⟨s, ?_, hl, hs⟩
  have hb : (w.setCell ⟨X, o, none⟩ u).heap[b]? = w.heap[b]? := heap_setCell_other w ⟨X, o, none⟩ b u (fun e => hX e.symm)
  exact ⟨(World.cell?_of_block hb).trans hr.c0, (World.cell?_of_block hb).trans hr.c1, (World.frozen?_of_block hb).trans hr.f0, (World.frozen?_of_block hb).trans hr.f1⟩
theorem BoxB.set {w : World} {B : Nat} {t : Tb} (h : BoxB B t w) (o : Nat) (u : Value) (t' : Tb) (he : #[Value.int .i64 t.n, .int .i64 t.lv, .int .i64 t.sz, .string t.f, .string t.l].setIfInBounds o u = #[.int .i64 t'.n, .int .i64 t'.lv, .int .i64 t'.sz, .string t'.f, .string t'.l]) : BoxB B t' (w.setCell ⟨B, o, none⟩ u) := by
  unfold BoxB
  rw [heap_setCell_same w B o _ _ u h, he]
theorem BoxB.setOther {w : World} {B X o : Nat} {t : Tb} {u : Value} (h : BoxB B t w) (hX : X ≠ B) : BoxB B t (w.setCell ⟨X, o, none⟩ u) :=
  (heap_setCell_other w ⟨X, o, none⟩ B u (fun e => hX e.symm)).trans h
end Go.Proofs.YtlecffpjcjlabaaGreat
