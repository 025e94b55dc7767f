/- edit's Valid and Apply. -/
import Derived.Test.YtmcgfafkggannaaGreatJ8
import Derived.Test.YtmcgfafkggannaaGreatJ3
namespace Go.Proofs.YtmcgfafkggannaaGreat
open Go.RowKit Go.Shelf

/-- A version in a box of its own. -/
def BoxV (B : Nat) (log next : Int) (seq : Nat) (v : Value) (w : World) : Prop := w.heap[B]? = some (.cells #[.int .i64 log, .int .i64 next, .int .u64 (seq : Int), v] 25)
section
variable {B : Nat} {log next : Int} {seq : Nat} {v : Value} {w w' : World}
theorem BoxV.lt (h : BoxV B log next seq v w) : B < w.heap.size := (Array.getElem?_eq_some_iff.1 h).1
theorem BoxV.c0 (h : BoxV B log next seq v w) : w.cell? ⟨B, 0, none⟩ = some (.int .i64 log) := by unfold World.cell?; rw [show w.heap[B]? = _ from h]; rfl
theorem BoxV.c1 (h : BoxV B log next seq v w) : w.cell? ⟨B, 1, none⟩ = some (.int .i64 next) := by unfold World.cell?; rw [show w.heap[B]? = _ from h]; rfl
theorem BoxV.c2 (h : BoxV B log next seq v w) : w.cell? ⟨B, 2, none⟩ = some (.int .u64 (seq : Int)) := by unfold World.cell?; rw [show w.heap[B]? = _ from h]; rfl
theorem BoxV.c3 (h : BoxV B log next seq v w) : w.cell? ⟨B, 3, none⟩ = some v := by unfold World.cell?; rw [show w.heap[B]? = _ from h]; rfl
theorem BoxV.f (h : BoxV B log next seq v w) (j : Nat) : w.frozen? ⟨B, j, none⟩ = false := by unfold World.frozen?; rw [show w.heap[B]? = _ from h]; simp
theorem BoxV.below (h : BoxV B log next seq v w) (hb : Below w.heap.size w w') : BoxV B log next seq v w' := (hb.block B h.lt).trans h
theorem BoxV.turn {F : List Nat} (h : BoxV B log next seq v w) (hb : Turn F w w') (hF : B ∉ F) : BoxV B log next seq v w' := (hb.block B h.lt hF).trans h
theorem BoxV.set3 (h : BoxV B log next seq v w) (u : Value) : BoxV B log next seq u (w.setCell ⟨B, 3, none⟩ u) := (heap_setCell_same w B 3 _ _ u h).trans rfl
end
theorem RowB.short {w : World} {v : Value} {ts : List Tb} (h : RowB w v ts) : ∃ a cap, v = .slice a ts.length cap := by
  obtain ⟨a, cap, e, -, -⟩ := Row.le h
  exact ⟨a, cap, e⟩
set_option maxHeartbeats 4000000 in
set_option maxRecDepth 100000 in
theorem valid_any (v : Vr) (vv : Value) (w : World) (hT : TbsV w vv v.ts) (hl : v.ts.length ≤ 100000) (hok : ∀ t ∈ v.ts, t.Ok) :
    Calls Tryz.prog 23 #[.agg #[.int .i64 v.log, .int .i64 v.next, .int .u64 (v.seq : Int), vv]] w fun e w' => ∃ b : Bool, e = .returned (.bool b) ∧ (b = true ↔ RightV v) ∧ Below w.heap.size w w' := by
  obtain ⟨log, next, seq, ts⟩ := v
  simp only at hT hl hok ⊢
  obtain ⟨W1, hW1⟩ : ∃ W1, w.alloc (.cells #[.int .i64 log, .int .i64 next, .int .u64 (seq : Int), vv] 25) = W1 := ⟨_, rfl⟩
  have b1 : Below w.heap.size w W1 := by rw [← hW1]; exact (Below.refl _ _).alloc (Nat.le_refl _) _
  have x1 : BoxV w.heap.size log next seq vv W1 := by rw [← hW1]; exact new_block _ _ rfl
  have C1 := Lib.hid (scloneT_any vv ts W1 (hT.below b1) (by omega))
  have c3 := x1.c3
  have HOK := Lib.hid hok
  have HB1 := Lib.hid b1
  have HX1 := Lib.hid x1
  obtain ⟨va, vc, rfl⟩ := hT.len
  clear hT hok b1 x1
  go_enter Tryz.func23, Tryz.ntmps23
  go_wp2_with fail
  try rw [hW1]
  clear hW1
  go_at_call 59
  (with_reducible refine C1.out.mono ?_)
  rintro _ w2 ⟨v2, rfl, hr2, hb2, ho2⟩
  have x2 := HX1.out.below hb2
  have hx2 := x2.lt
  have x3 := x2.set3 v2
  have hne2 : ∀ k, ob v2 = some k → k ≠ w.heap.size := fun k hk e => by have h1 := ho2 k hk; have h2 := HX1.out.lt; omega
  have hr3 : RowB (w2.setCell ⟨w.heap.size, 3, none⟩ v2) v2 ts := Row.kept hr2 (fun k hk => heap_setCell_other w2 ⟨w.heap.size, 3, none⟩ k _ (hne2 k hk))
  have hb3 : Below w.heap.size w (w2.setCell ⟨w.heap.size, 3, none⟩ v2) := (HB1.out.trans (hb2.mono HB1.out.size)).setCell (p := ⟨w.heap.size, 3, none⟩) (Nat.le_refl _) v2
  obtain ⟨a2, cc2, rfl⟩ := hr2.short
  have k3 := x2.c3
  have kf := x2.f 3
  have m3 := x3.c3
  have HX3 := Lib.hid x3
  have HB3 := Lib.hid hb3
  have HN2 := Lib.hid hne2
  have HO2 := Lib.hid ho2
  have C2 := Lib.hid (sortT_any ts _ _ hr3 hl)
  obtain ⟨W3, hW3⟩ : ∃ W3, w2.setCell ⟨w.heap.size, 3, none⟩ (.slice a2 ts.length cc2) = W3 := ⟨_, rfl⟩
  rw [hW3] at C2 HX3 HB3 m3
  clear hr3 hr2 x3 hb3 hne2 ho2 hb2 x2 C1
  go_wp2_with fail
  try rw [hW3]
  clear hW3
  go_at_call 50
  (with_reducible refine C2.out.mono ?_)
  rintro _ w4 ⟨rfl, S, hp, hs, hr4, ht4⟩
  have hF : w.heap.size ∉ (ob (.slice a2 ts.length cc2)).toList := fun h => HN2.out w.heap.size (by simpa using h) rfl
  have x4 := HX3.out.turn ht4 hF
  have e0 := x4.c0
  have e1 := x4.c1
  have e2 := x4.c2
  have e3 := x4.c3
  have hb4 : Below w.heap.size w w4 := HB3.out.trans (ht4.below HB3.out.size (fun k hk => by have h1 := HO2.out k (by simpa using hk); have h2 := HB1.out.size; omega))
  have hSl : S.length ≤ 100000 := by rw [hp.length_eq]; exact hl
  have C3 := Lib.hid (isRight_any log next seq _ S w4 hr4.v hSl (fun t ht => HOK.out t (hp.mem_iff.1 ht)))
  have HB4 := Lib.hid hb4
  have HRS := Lib.hid (show lookB ⟨log, next, seq, S⟩ = true ↔ RightV ⟨log, next, seq, ts⟩ by
    rw [lookB_iff, look_iff _ hs]
    exact ⟨fun h => h.perm hp.symm, fun h => h.perm hp⟩)
  generalize lookB ⟨log, next, seq, S⟩ = R at *
  clear hp hs hr4 ht4 x4 hb4 C2
  go_wp2_with (go_at_call 52; (with_reducible refine C3.out.mono ?_); rintro _ w5 ⟨rfl, hb5⟩)
  go_ret
  exact ⟨R, rfl, HRS.out, HB4.out.trans (hb5.mono HB4.out.size)⟩
end Go.Proofs.YtmcgfafkggannaaGreat
