/- mem's put. -/
import Derived.Test.YthaalhigmihijabM1
namespace Go.Proofs.Ythaalhigmihijab
open Go.RowKit

section
variable {B p sz la : Nat} {ds : List Int} {ns ns' : List Nd} {w w' : World}
/-- A table behind a version that was put in. -/
theorem Tab.put (h : Tab B p ds ns sz la w) (hs : Skp B p ns' w') (ht : TurnT p ns w w') (hf : ∀ k ∈ foot p ns', k ∈ foot p ns ∨ w.heap.size ≤ k) : Tab B p ds ns' sz la w' := by
  refine ⟨hs, ?_, (ht.2 14 (by omega)).trans h.size, (ht.2 15 (by omega)).trans h.last⟩
  obtain ⟨v, h1, h2, h3⟩ := h.dr
  refine ⟨v, (ht.2 13 (by omega)).trans h1, h2.kept fun k hk => ht.1.block k (h2.lt k hk) (h3 k hk).2, fun b hb => ⟨(h3 b hb).1, fun hm => ?_⟩⟩
  rcases hf b hm with h4 | h4
  · exact (h3 b hb).2 h4
  · have := h2.lt b hb
    omega
theorem skp_set (h : Skp B p ns w) {j : Nat} (hj : 12 < j) (v : Value) : Skp B p ns (w.setCell ⟨p, j, none⟩ v) := by
  refine ⟨⟨fun pre n r he => ?_, ?_, h.lst.lev, h.lst.nodup⟩, h.right, h.base⟩
  · have ho := h.lst.chain pre n r he
    refine ⟨fun i u hi => ?_, fun t ht => ?_, fun i => (World.frozen?_setCell _ _ _ _).trans (ho.warm i)⟩
    · have := ent_lt4 hi
      exact (World.cell?_setCell_other w _ _ _ (fun q => by injection q with q1 q2; omega)).trans (ho.ent i u hi)
    · exact (World.cell?_setCell_other w _ _ _ (fun q => by injection q with q1 q2; omega)).trans (ho.nxt t ht)
  · exact (World.cell?_setCell_other w _ _ _ (fun q => by injection q with q1 q2; omega)).trans h.lst.cnt
theorem row_set (j : Nat) (u : Value) {v : Value} (hr : Row w 3 1 v ds.length (cellsI ds)) (ho : ∀ b, ob v = some b → B ≤ b ∧ b ∉ foot p ns) : Row (w.setCell ⟨p, j, none⟩ u) 3 1 v ds.length (cellsI ds) :=
  hr.kept fun k hk => heap_setCell_other w ⟨p, j, none⟩ k _ (fun e => (ho k hk).2 (by rw [show k = p from e]; simp [foot, hd]))
theorem Tab.setSize (h : Tab B p ds ns sz la w) (s : Nat) : Tab B p ds ns s la (w.setCell ⟨p, 14, none⟩ (.int .i64 (s : Int))) := by
  obtain ⟨v, h1, h2, h3⟩ := h.dr
  exact ⟨skp_set h.skp (by omega) _, ⟨v, (World.cell?_setCell_other w _ _ _ (fun q => by injection q with q1 q2; omega)).trans h1, row_set 14 _ h2 h3, h3⟩, World.cell?_setCell_same w _ _ h.size, (World.cell?_setCell_other w _ _ _ (fun q => by injection q with q1 q2; omega)).trans h.last⟩
theorem Tab.setLast (h : Tab B p ds ns sz la w) (l : Nat) : Tab B p ds ns sz l (w.setCell ⟨p, 15, none⟩ (.int .u64 (l : Int))) := by
  obtain ⟨v, h1, h2, h3⟩ := h.dr
  exact ⟨skp_set h.skp (by omega) _, ⟨v, (World.cell?_setCell_other w _ _ _ (fun q => by injection q with q1 q2; omega)).trans h1, row_set 15 _ h2 h3, h3⟩, (World.cell?_setCell_other w _ _ _ (fun q => by injection q with q1 q2; omega)).trans h.size, World.cell?_setCell_same w _ _ h.last⟩
end
theorem puts_mono {W W' : World} {x : Ent} {l : Nat} {ns ns' : List Nd} {t : Bool} (h : Puts W' x l ns t ns') (hle : W.heap.size ≤ W'.heap.size) : Puts W x l ns t ns' := by
  rcases h with h | ⟨h1, h2, h3, P, Q, a, h4, h5, h6⟩
  · exact .inl h
  · exact .inr ⟨h1, h2, h3, P, Q, a, h4, h5, Nat.le_trans hle h6⟩
theorem puts_yes {W : World} {x : Ent} {l : Nat} {ns ns' : List Nd} {t : Bool} (h : Puts W x l ns t ns') (hv : validB x.k x.n x.v = true) (hn : ∀ y ∈ ns, ¬ same2 y.e x) : t = true := by
  rcases h with ⟨-, -, h | ⟨y, hy, h⟩⟩ | ⟨h, -⟩
  · rw [hv] at h
    cases h
  · exact absurd h (hn y hy)
  · exact h
/-- The draws stay where they are. -/
def Same13 (p : Nat) (w w' : World) : Prop := w'.cell? ⟨p, 13, none⟩ = w.cell? ⟨p, 13, none⟩
theorem Same13.trans {p : Nat} {a b c : World} (h : Same13 p a b) (k : Same13 p b c) : Same13 p a c := Eq.trans k h
theorem same13_below {p : Nat} {w w' : World} (h : Below w.heap.size w w') (hp : p < w.heap.size) : Same13 p w w' := h.cell (p := ⟨p, 13, none⟩) hp
theorem Same13.set {p j : Nat} {w w' : World} {v : Value} (h : Same13 p w w') (hj : j ≠ 13) : Same13 p w (w'.setCell ⟨p, j, none⟩ v) :=
  Eq.trans (World.cell?_setCell_other _ _ _ _ (fun q => by injection q with q1 q2; omega)) h
/-- What a version counts. -/
def sizeE (x : Ent) : Nat := x.k.size + x.v.size + 16
set_option maxHeartbeats 4000000 in
set_option maxRecDepth 100000 in
theorem mput_any {B p sz la : Nat} {ds : List Int} {ns : List Nd} {w : World} (h : Tab B p ds ns sz la w) (x : Ent) (hx : x.Nice) (hv : validB x.k x.n x.v = true) (hn : ∀ y ∈ ns, ¬ same2 y.e x) (hl : ns.length ≤ 100000) (hds : ds.length ≤ 1000000) (hs : sz ≤ 1000000000000) :
    Calls Try.prog 37 #[.pointer (some ⟨p, 0, none⟩), ev x.k x.s x.n x.v] w fun e w' => e = .returned (.tuple #[]) ∧ ∃ ns', Puts w x (lvl (drawAt ds ns.length)) ns true ns' ∧ Tab B p ds ns' (sz + sizeE x) la w' ∧ Turn (foot p ns) w w' ∧ Same13 p w w' := by
  obtain ⟨W, hW⟩ : ∃ W, w.alloc (.cells #[.string x.k, .int .u64 x.s, .int .i64 x.n, .string x.v] 30) = W := ⟨_, rfl⟩
  have hB : Below w.heap.size w W := by rw [← hW]; exact (Below.refl _ _).alloc (Nat.le_refl _) _
  have hbx : Boxe w.heap.size x.k x.s x.n x.v W := by rw [← hW]; exact new_block _ _ rfl
  have hkv : x.k.size ≤ 300 ∧ x.v.size ≤ 60000 := by
    unfold validB at hv
    simp at hv
    omega
  have CL := Lib.hid (fun W' (h' : Tab B p ds ns sz la W') => level_any h' (by omega) hds)
  generalize hz : drawAt ds ns.length = z at *
  have CP := Lib.hid (fun W' (h' : Tab B p ds ns sz la W') => put_step_t h'.skp x hx z (by omega))
  have HH := Lib.hid (h.below hB)
  have HB := Lib.hid hB
  have HX := Lib.hid hbx
  have HN := Lib.hid hn
  have HV := Lib.hid hv
  have HPW := Lib.hid h.hdlt
  have HF := Lib.hid (show w.heap.size ∉ foot p ns from fun hm => by have := h.skp.lst.lt _ hm; omega)
  have b0 := hbx.c0
  have b1 := hbx.c1
  have b2 := hbx.c2
  have b3 := hbx.c3
  unfold ev at CP ⊢
  clear h hn hv hB hbx hz hx
  go_enter Try.func37, Try.ntmps37
  go_upto_region 1 with fail
  clear hW
  go_region_held3 (fun w' => w'.cell? ⟨w.heap.size, 0, none⟩ = some (.string x.k) ∧ w'.cell? ⟨w.heap.size, 1, none⟩ = some (.int .u64 x.s) ∧ w'.cell? ⟨w.heap.size, 2, none⟩ = some (.int .i64 x.n) ∧ w'.cell? ⟨w.heap.size, 3, none⟩ = some (.string x.v)) (first | go_keep | exact ⟨b0, b1, b2, b3⟩ | exact ⟨b10, b11, b12, b13⟩ | exact ⟨b20, b21, b22, b23⟩) (first | (go_at_call 51; (with_reducible refine (CL.out _ HH.out.drew).mono ?_); rintro e w1 ⟨rfl, hb1⟩; have hx1 := HX.out.drew.below hb1; have b10 := hx1.c0; have b11 := hx1.c1; have b12 := hx1.c2; have b13 := hx1.c3; have ht1 := HH.out.drew.below hb1) | (go_at_call 11; (with_reducible refine (CP.out _ ht1).mono ?_); rintro e w2 ⟨t, ns', rfl, hp2, hs2, ht2⟩; have hx2 : Boxe w.heap.size x.k x.s x.n x.v w2 := (ht2.1.block _ hx1.lt HF.out).trans hx1; have b20 := hx2.c0; have b21 := hx2.c1; have b22 := hx2.c2; have b23 := hx2.c3) | fail)
  obtain rfl := puts_yes hp2 HV.out HN.out
  have htab := ht1.put hs2 ht2 (puts_foot hp2)
  have c14 := htab.size
  have f14 := htab.warm 14
  have HFIN := Lib.hid (htab.setSize (sz + sizeE x))
  have HP2 := Lib.hid (puts_mono hp2 (show w.heap.size ≤ w1.heap.size from Nat.le_trans HB.out.size hb1.size))
  have HT2 := Lib.hid (show Turn (foot p ns) w w2 from ((turn_of_below HB.out).drew.trans (turn_of_below (F := []) hb1) (by simp)).trans ht2.1 (fun k hk => .inl hk))
  have H13 := Lib.hid (show Same13 p w w2 from (same13_below (HB.out.drew.trans (hb1.mono HB.out.size)) HPW.out).trans (ht2.2 13 (by omega)))
  have HE := Lib.hid (show ((sz + sizeE x : Nat) : Int) = (sz : Int) + ((x.k.size : Int) + (x.v.size : Int) + 16) by unfold sizeE; omega)
  rw [HE.out] at HFIN
  clear htab hp2 hs2 ht2 ht1 hx1 hb1 b10 b11 b12 b13 b0 b1 b2 b3 b21 b22 hx2
  have k1 : (x.k.size : Int) ≤ 300 := by omega
  have k2 : (x.v.size : Int) ≤ 60000 := by omega
  have r1 : IntKind.i64.wrap ((x.k.size : Int) + (x.v.size : Int)) = (x.k.size : Int) + (x.v.size : Int) := by rw [IntKind.wrap_i64]; omega
  have r2 : IntKind.i64.wrap ((x.k.size : Int) + (x.v.size : Int) + 16) = (x.k.size : Int) + (x.v.size : Int) + 16 := by rw [IntKind.wrap_i64]; omega
  have r3 : IntKind.i64.wrap ((sz : Int) + ((x.k.size : Int) + (x.v.size : Int) + 16)) = (sz : Int) + ((x.k.size : Int) + (x.v.size : Int) + 16) := by rw [IntKind.wrap_i64]; omega
  go_wp2_with fail
  go_region_with (fail)
  all_goals go_wp2
  all_goals go_end0
  all_goals exact ⟨rfl, _, HP2.out, HFIN.out.drew, (HT2.out.setCell (.inl (by simp [foot, hd])) _).drew, H13.out.set (by omega)⟩
end Go.Proofs.Ythaalhigmihijab
