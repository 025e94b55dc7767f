/- The statements' Light, PlainV, SameV. -/
import Derived.Test.YtmcgfafkggannaaJE
namespace Go.Proofs.Ytmcgfafkggannaa
open Go.RowKit Go.Shelf

set_option maxHeartbeats 4000000 in
set_option maxRecDepth 100000 in
theorem light_any (e : Ed) (va vd : Value) (w : World) (h : EdW w e va vd) :
    Calls Try.prog 6 #[ediV e.log e.next e.seq va vd] w fun x w' => ∃ t : Bool, x = .returned (.bool t) ∧ (t = true → e.add.length ≤ 40 ∧ (∀ t ∈ e.add, t.Short) ∧ e.drop.length ≤ 60) ∧ Below w.heap.size w w' := by
  obtain ⟨log, next, seq, add, drop⟩ := e
  have HE := Lib.hid h
  obtain ⟨-, -, -, ha, hd, hla, hld, hka, -⟩ := h
  simp only at ha hd hla hld hka ⊢
  obtain ⟨aa, ac, rfl⟩ := ha.len
  obtain ⟨da, dc, rfl⟩ := hd.len
  unfold ediV
  obtain ⟨W1, hW1⟩ : ∃ W1, w.alloc (.cells #[.int .i64 log, .int .i64 next, .int .u64 (seq : Int), .slice aa add.length ac, .slice da drop.length dc] 26) = W1 := ⟨_, rfl⟩
  have b1 : Below w.heap.size w W1 := by rw [← hW1]; exact (Below.refl _ _).alloc (Nat.le_refl _) _
  have y1 : BoxEd w.heap.size log next seq (.slice aa add.length ac) (.slice da drop.length dc) W1 := by rw [← hW1]; exact new_block _ _ rfl
  have C1 := Lib.hid (small12_any _ add W1 (ha.below b1) (by unfold maxLen at hla; omega) hka)
  have q3 := y1.c3
  have HY1 := Lib.hid y1
  have HB1 := Lib.hid b1
  have hdm : drop.length ≤ 9223372036854775807 := by unfold maxLen at hld; omega
  clear ha hd hla hld hka b1 y1
  go_enter Try.func6, Try.ntmps6
  go_wp2_with fail
  try rw [hW1]
  clear hW1
  go_at_call 7
  (with_reducible refine C1.out.mono ?_)
  rintro _ w2 ⟨t, rfl, ht, hb2⟩
  have q4 := (HY1.out.below hb2).c4
  have HB2 := Lib.hid (HB1.out.trans (hb2.mono HB1.out.size))
  have HT := Lib.hid ht
  clear hb2 ht C1 q3
  cases t with
  | false =>
    go_wp2_with fail
    go_ret
    exact ⟨false, rfl, fun h => (by cases h), HB2.out⟩
  | true =>
    by_cases h6 : drop.length ≤ 60
    · have d6 : decide ((drop.length : Int) ≤ 60) = true := by simp; omega
      go_wp2_with fail
      go_ret
      exact ⟨true, rfl, fun _ => ⟨(HT.out (by first | rfl | trivial)).1, (HT.out (by first | rfl | trivial)).2, h6⟩, HB2.out⟩
    · have d6 : decide ((drop.length : Int) ≤ 60) = false := by simp; omega
      go_wp2_with fail
      go_ret
      exact ⟨false, rfl, fun h => (by cases h), HB2.out⟩
/-- A version of the document's own. -/
def BoxR (B : Nat) (log next : Int) (seq : Nat) (v : Value) (w : World) : Prop := w.heap[B]? = some (.cells #[.int .i64 log, .int .i64 next, .int .u64 (seq : Int), v] 43)
section
variable {B : Nat} {log next : Int} {seq : Nat} {v : Value} {w w' : World}
theorem BoxR.lt (h : BoxR B log next seq v w) : B < w.heap.size := (Array.getElem?_eq_some_iff.1 h).1
theorem BoxR.c0 (h : BoxR B log next seq v w) : w.cell? ⟨B, 0, none⟩ = some (.int .i64 log) := by unfold World.cell?; rw [show w.heap[B]? = _ from h]; rfl
theorem BoxR.c1 (h : BoxR B log next seq v w) : w.cell? ⟨B, 1, none⟩ = some (.int .i64 next) := by unfold World.cell?; rw [show w.heap[B]? = _ from h]; rfl
theorem BoxR.c2 (h : BoxR B log next seq v w) : w.cell? ⟨B, 2, none⟩ = some (.int .u64 (seq : Int)) := by unfold World.cell?; rw [show w.heap[B]? = _ from h]; rfl
theorem BoxR.c3 (h : BoxR B log next seq v w) : w.cell? ⟨B, 3, none⟩ = some v := by unfold World.cell?; rw [show w.heap[B]? = _ from h]; rfl
theorem BoxR.f (h : BoxR B log next seq v w) (j : Nat) : w.frozen? ⟨B, j, none⟩ = false := by unfold World.frozen?; rw [show w.heap[B]? = _ from h]; simp
theorem BoxR.below (h : BoxR B log next seq v w) (hb : Below w.heap.size w w') : BoxR B log next seq v w' := (hb.block B h.lt).trans h
end
set_option maxHeartbeats 4000000 in
set_option maxRecDepth 100000 in
theorem plainV_any (log next : Int) (seq : Nat) (a : Option Addr) (n c : Nat) (w : World) :
    Calls Try.prog 14 #[.agg #[.int .i64 log, .int .i64 next, .int .u64 (seq : Int), .slice a n c]] w fun x w' => x = .returned (.agg #[.int .i64 log, .int .i64 next, .int .u64 (seq : Int), .slice a n c]) ∧ Below w.heap.size w w' := by
  obtain ⟨W1, hW1⟩ : ∃ W1, (w.alloc (.cells #[.int .i64 log, .int .i64 next, .int .u64 (seq : Int), .slice a n c] 33)).alloc (.cells #[.int .i64 0, .int .i64 0, .int .u64 0, .slice none 0 0] 43) = W1 := ⟨_, rfl⟩
  have b1 : Below w.heap.size w W1 := by rw [← hW1]; exact ((Below.refl _ _).alloc (Nat.le_refl _) _).alloc (by simp) _
  have x1 : BoxV w.heap.size log next seq (.slice a n c) W1 := by rw [← hW1]; exact (Below.heap_alloc _ _ _ (by simp)).trans (new_block _ _ rfl)
  have z1 : BoxR (w.heap.size + 1) 0 0 0 (.slice none 0 0) W1 := by rw [← hW1]; exact new_block _ _ (by simp)
  have p0 := x1.c0
  have p1 := x1.c1
  have p2 := x1.c2
  have p3 := x1.c3
  have g0 := z1.c0
  have g1 := z1.c1
  have g2 := z1.c2
  have g3 := z1.c3
  have f0 := z1.f 0
  have f1 := z1.f 1
  have f2 := z1.f 2
  have f3 := z1.f 3
  have HB := Lib.hid b1
  clear b1 x1 z1
  go_enter Try.func14, Try.ntmps14
  go_upto_region 1 with fail
  try rw [hW1]
  clear hW1
  go_wp2_with fail
  refine bodyPost_ret (by simp [results, Try.results14, go_sem, g0, g1, g2, g3]; try rfl) rfl ?_
  exact ⟨rfl, below_set4 HB.out _ (by omega) _ _ _ _⟩
set_option maxHeartbeats 4000000 in
set_option maxRecDepth 100000 in
theorem sameV_yes (log next : Int) (seq : Nat) (u v : Value) (ts : List Tb) (w : World) (hU : TbsV w u ts) (hV : TbsV w v ts) (hl : ts.length ≤ 100000) :
    Calls Try.prog 13 #[.agg #[.int .i64 log, .int .i64 next, .int .u64 (seq : Int), u], .agg #[.int .i64 log, .int .i64 next, .int .u64 (seq : Int), v]] w fun x w' => x = .returned (.bool true) ∧ Below w.heap.size w w' := by
  obtain ⟨W1, hW1⟩ : ∃ W1, (w.alloc (.cells #[.int .i64 log, .int .i64 next, .int .u64 (seq : Int), u] 33)).alloc (.cells #[.int .i64 log, .int .i64 next, .int .u64 (seq : Int), v] 43) = W1 := ⟨_, rfl⟩
  have b1 : Below w.heap.size w W1 := by rw [← hW1]; exact ((Below.refl _ _).alloc (Nat.le_refl _) _).alloc (by simp) _
  have x1 : BoxV w.heap.size log next seq u W1 := by rw [← hW1]; exact (Below.heap_alloc _ _ _ (by simp)).trans (new_block _ _ rfl)
  have z1 : BoxR (w.heap.size + 1) log next seq v W1 := by rw [← hW1]; exact new_block _ _ (by simp)
  have C1 := Lib.hid (sameT_yes u v ts W1 (hU.below b1) (hV.below b1) hl)
  obtain ⟨a, c, rfl⟩ := hU.len
  obtain ⟨a2, c2, rfl⟩ := hV.len
  have p0 := x1.c0
  have p1 := x1.c1
  have p2 := x1.c2
  have p3 := x1.c3
  have g0 := z1.c0
  have g1 := z1.c1
  have g2 := z1.c2
  have g3 := z1.c3
  have HB := Lib.hid b1
  clear b1 x1 z1 hU hV
  go_enter Try.func13, Try.ntmps13
  go_upto_region 1 with fail
  try rw [hW1]
  clear hW1
  go_wp2_with (go_at_call 16; (with_reducible refine C1.out.mono ?_); rintro _ w2 ⟨rfl, hb2⟩)
  go_ret
  exact ⟨rfl, HB.out.trans (hb2.mono HB.out.size)⟩
end Go.Proofs.Ytmcgfafkggannaa
