/- Parts of stage 8, joined: M1 M2 M3 M4 M5 M6. -/
import Derived.Test.YthaalhigmihijabGreatYD
import Derived.Test.YthaalhigmihijabGreatH1
namespace Go.Proofs.YthaalhigmihijabGreat
open Go.RowKit

/-- At p lies a table of the nodes ns, of these draws, size and last number, all of it from block B on. -/
structure Tab (B p : Nat) (ds : List Int) (ns : List Nd) (sz la : Nat) (w : World) : Prop where
  skp : Skp B p ns w
  dr : ∃ v, w.cell? ⟨p, 13, none⟩ = some v ∧ Row w 3 1 v ds.length (cellsI ds) ∧ ∀ b, ob v = some b → B ≤ b ∧ b ∉ foot p ns
  size : w.cell? ⟨p, 14, none⟩ = some (.int .i64 (sz : Int))
  last : w.cell? ⟨p, 15, none⟩ = some (.int .u64 (la : Int))
section
variable {B p sz la : Nat} {ds : List Int} {ns : List Nd} {w w' : World}
theorem Tab.hdlt (h : Tab B p ds ns sz la w) : p < w.heap.size := h.skp.lst.hdlt
theorem Tab.below (h : Tab B p ds ns sz la w) (hb : Below w.heap.size w w') : Tab B p ds ns sz la w' := by
  refine ⟨h.skp.below hb, ?_, (hb.cell (p := ⟨p, 14, none⟩) h.hdlt).trans h.size, (hb.cell (p := ⟨p, 15, none⟩) h.hdlt).trans h.last⟩
  obtain ⟨v, h1, h2, h3⟩ := h.dr
  exact ⟨v, (hb.cell (p := ⟨p, 13, none⟩) h.hdlt).trans h1, h2.kept fun k hk => hb.block k (h2.lt k hk), h3⟩
theorem Tab.drew (h : Tab B p ds ns sz la w) : Tab B p ds ns sz la w.drew := ⟨h.skp.drew, h.dr, h.size, h.last⟩
theorem Tab.warm (h : Tab B p ds ns sz la w) (j : Nat) : w.frozen? ⟨p, j, none⟩ = false := (h.skp.lst.chain [] (hd p) _ rfl).warm j
theorem Tab.base (h : Tab B p ds ns sz la w) : B ≤ p := h.skp.base p (by simp [foot, hd])
end
theorem lst_tab {p : Nat} {v : Value} {w : World} (h : w.heap[p]? = some (.cells #[.string ⟨#[]⟩, .int .u64 0, .int .i64 0, .string ⟨#[]⟩, .pointer none, .pointer none, .pointer none, .pointer none, .pointer none, .pointer none, .pointer none, .pointer none, .int .i64 0, v, .int .i64 0, .int .u64 0] 42)) : Lst p 0 [] w ∧ w.cell? ⟨p, 13, none⟩ = some v ∧ w.cell? ⟨p, 14, none⟩ = some (.int .i64 0) ∧ w.cell? ⟨p, 15, none⟩ = some (.int .u64 0) := by
  have hc : ∀ j u, (#[.string ⟨#[]⟩, .int .u64 0, .int .i64 0, .string ⟨#[]⟩, .pointer none, .pointer none, .pointer none, .pointer none, .pointer none, .pointer none, .pointer none, .pointer none, .int .i64 0, v, .int .i64 0, .int .u64 0] : Array Value)[j]? = some u → w.cell? ⟨p, j, none⟩ = some u := fun j u hu => by
    simp only [World.cell?, h]
    exact hu
  refine ⟨⟨fun pre n r e => ?_, hc 12 _ rfl, by simp, by simp [foot]⟩, hc 13 _ rfl, hc 14 _ rfl, hc 15 _ rfl⟩
  cases pre with
  | cons a b => simp at e
  | nil =>
    simp only [List.nil_append, List.cons.injEq] at e
    obtain ⟨rfl, rfl⟩ := e
    refine ⟨fun j u hu => ?_, fun i hi => ?_, fun j => by simp [World.frozen?, hd, h]⟩
    · match j, hu with
      | 0, hu => exact (hc 0 _ rfl).trans hu
      | 1, hu => exact (hc 1 _ rfl).trans hu
      | 2, hu => exact (hc 2 _ rfl).trans hu
      | 3, hu => exact (hc 3 _ rfl).trans hu
    · rw [if_pos (show i < (hd p).l from hi)]
      match i, hi with
      | 0, _ => exact hc 4 _ rfl
      | 1, _ => exact hc 5 _ rfl
      | 2, _ => exact hc 6 _ rfl
      | 3, _ => exact hc 7 _ rfl
      | 4, _ => exact hc 8 _ rfl
      | 5, _ => exact hc 9 _ rfl
      | 6, _ => exact hc 10 _ rfl
      | 7, _ => exact hc 11 _ rfl
theorem tab_new {B p : Nat} {v : Value} {ds : List Int} {w : World} (h : w.heap[p]? = some (.cells #[.string ⟨#[]⟩, .int .u64 0, .int .i64 0, .string ⟨#[]⟩, .pointer none, .pointer none, .pointer none, .pointer none, .pointer none, .pointer none, .pointer none, .pointer none, .int .i64 0, v, .int .i64 0, .int .u64 0] 42)) (hB : B ≤ p) (hr : Row w 3 1 v ds.length (cellsI ds)) (ho : ∀ b, ob v = some b → B ≤ b ∧ b ≠ p) : Tab B p ds [] 0 0 w := by
  obtain ⟨h1, h2, h3, h4⟩ := lst_tab h
  refine ⟨⟨h1, ⟨by simp, List.Pairwise.nil, by simp⟩, fun k hk => by simp [foot, hd] at hk; omega⟩, ⟨v, h2, hr, fun b hb => ⟨(ho b hb).1, ?_⟩⟩, h3, h4⟩
  have := (ho b hb).2
  simpa [foot, hd] using this
set_option maxHeartbeats 1000000 in
set_option maxRecDepth 100000 in
theorem memNew_any (v : Value) (ds : List Int) (w : World) (h : IntsV w v ds) (hn : ds.length ≤ 1000000) :
    Calls Tryz.prog 6 #[v] w fun e w' => ∃ p, e = .returned (.pointer (some ⟨p, 0, none⟩)) ∧ Tab w.heap.size p ds [] 0 0 w' ∧ Below w.heap.size w w' := by
  have C := Lib.hid (scloneI_any v ds w h (by omega))
  clear h
  go_enter Tryz.func6, Tryz.ntmps6
  go_wp2_with (first | (go_at_call 24; (with_reducible refine C.out.mono ?_); rintro e w1 ⟨v', rfl, hr, hb, ho⟩; obtain ⟨a', c', rfl, -, -⟩ := hr.le) | fail)
  go_ret
  have hb2 : Below w1.heap.size w1 (w1.alloc (.cells #[.string ⟨#[]⟩, .int .u64 0, .int .i64 0, .string ⟨#[]⟩, .pointer none, .pointer none, .pointer none, .pointer none, .pointer none, .pointer none, .pointer none, .pointer none, .int .i64 0, .slice a' ds.length c', .int .i64 0, .int .u64 0] 42)) := (Below.refl _ _).alloc (Nat.le_refl _) _
  refine ⟨w1.heap.size, rfl, tab_new (new_block _ _ rfl) hb.size (hr.kept fun k hk => hb2.block k (hr.lt k hk)) (fun b h1 => ⟨ho b h1, ?_⟩), hb.trans (hb2.mono hb.size)⟩
  have := hr.lt b h1
  omega
/-- The level of the next version. -/
def drawAt (ds : List Int) (c : Nat) : Int := if ds.length = 0 then 1 else ds.getD (c % ds.length) 0
set_option maxHeartbeats 2000000 in
set_option maxRecDepth 100000 in
theorem level_any {B p sz la : Nat} {ds : List Int} {ns : List Nd} {w : World} (h : Tab B p ds ns sz la w) (hl : ns.length ≤ 1000000) (hds : ds.length ≤ 1000000) :
    Calls Tryz.prog 102 #[.pointer (some ⟨p, 0, none⟩)] w fun e w' => e = .returned (.int .i64 (drawAt ds ns.length)) ∧ Below w.heap.size w w' := by
  obtain ⟨v, hv, hr, -⟩ := h.dr
  have CL := Lib.hid (fun W (h' : Lst p ns.length ns W) => len_any h')
  have HL := Lib.hid h.skp.lst
  obtain ⟨a, cap, rfl, -, -⟩ := hr.le
  by_cases h0 : ds.length = 0
  · have HD := Lib.hid (show drawAt ds ns.length = 1 from if_pos h0)
    rw [h0] at hv
    clear h hr h0 hds
    go_enter Tryz.func102, Tryz.ntmps102
    go_wp2
    go_ret
    exact ⟨by rw [HD.out]; rfl, Below.refl _ _⟩
  · have hpos : 0 < ds.length := by omega
    have hmod : ns.length % ds.length < ds.length := Nat.mod_lt _ hpos
    obtain ⟨b, o, ha, hcd⟩ : ∃ b o, a = some ⟨b, o, none⟩ ∧ w.cell? ⟨b, o + ns.length % ds.length, none⟩ = some (.int .i64 (drawAt ds ns.length)) := by
      rcases hr.2 with ⟨h1, -⟩ | ⟨g, c, cur, hv', -⟩
      · omega
      · cases hv'
        refine ⟨g, 0, rfl, hr.cell g 0 _ rfl _ _ ?_⟩
        unfold drawAt cellsI
        rw [if_neg h0, List.getElem?_map, List.getElem?_eq_getElem hmod, List.getD_eq_getElem?_getD, List.getElem?_eq_getElem hmod]
        rfl
    subst ha
    generalize drawAt ds ns.length = z at hcd ⊢
    have hlen0 : ((ds.length : Int) == 0) = false := by rw [beq_eq_false_iff_ne]; omega
    have w1 : IntKind.u64.wrap (ns.length : Int) = (ns.length : Int) := by rw [IntKind.wrap_u64]; omega
    have w2 : IntKind.u64.wrap (ds.length : Int) = (ds.length : Int) := by rw [IntKind.wrap_u64]; omega
    have hrem : (ns.length : Int).tmod (ds.length : Int) = ((ns.length % ds.length : Nat) : Int) := by
      rw [Int.tmod_eq_emod_of_nonneg (by omega)]
      simp
    clear h hr h0
    generalize ns.length % ds.length = r at *
    generalize ds.length = L at *
    generalize ns.length = c at *
    have hL0 : ¬ L = 0 := by omega
    have hrL : (r : Int) < (L : Int) := by omega
    go_enter Tryz.func102, Tryz.ntmps102
    go_wp2
    go_region_held3 (fun w' => w'.cell? ⟨p, 13, none⟩ = some (.slice (some ⟨b, o, none⟩) L cap) ∧ w'.cell? ⟨b, o + r, none⟩ = some (.int .i64 z)) (first | go_keep | exact ⟨hv, hcd⟩) (first | (go_at_call 36; (with_reducible refine (CL.out _ HL.out.drew).mono ?_); rintro e w2 ⟨rfl, rfl⟩) | fail)
    all_goals go_wp2
    all_goals go_ret
    all_goals exact ⟨rfl, (Below.refl _ _).drew⟩
set_option maxHeartbeats 1000000 in
set_option maxRecDepth 100000 in
theorem version_any (K V : ByteArray) (D : Bool) (s : Int) (w : World) :
    Calls Tryz.prog 29 #[.agg #[.string K, .string V, .bool D], .int .u64 s] w fun e w' => e = .returned (ev K s (if D then 2 else 1) V) ∧ Below w.heap.size w w' := by
  cases D with
  | false =>
    go_enter Tryz.func29, Tryz.ntmps29
    go_wp2
    have c0 := fun j v (hj : (#[Value.string K, Value.int IntKind.u64 s, Value.int IntKind.i64 1, Value.string V] : Array Value)[j]? = some v) => ncell (W := w.alloc (Obj.cells #[Value.string K, Value.string V, Value.bool false] 82)) (t := 34) (n := w.heap.size + 1) (j := j) (v := v) (by simp) hj
    have d0 := c0 0 _ rfl
    have d1 := c0 1 _ rfl
    have d2 := c0 2 _ rfl
    have d3 := c0 3 _ rfl
    refine bodyPost_ret (v := ev K s 1 V) (by simp [results, Tryz.results29, go_sem, d0, d1, d2, d3, ev]) rfl ?_
    exact ⟨rfl, ((Below.refl _ _).alloc (Nat.le_refl _) _).alloc (by simp) _⟩
  | true =>
    go_enter Tryz.func29, Tryz.ntmps29
    go_wp2
    have c0 := fun j v (hj : (#[Value.string K, Value.int IntKind.u64 s, Value.int IntKind.i64 2, Value.string V] : Array Value)[j]? = some v) => ncell (W := w.alloc (Obj.cells #[Value.string K, Value.string V, Value.bool true] 82)) (t := 34) (n := w.heap.size + 1) (j := j) (v := v) (by simp) hj
    have d0 := c0 0 _ rfl
    have d1 := c0 1 _ rfl
    have d2 := c0 2 _ rfl
    have d3 := c0 3 _ rfl
    refine bodyPost_ret (v := ev K s 2 V) (by simp [results, Tryz.results29, go_sem, d0, d1, d2, d3, ev]) rfl ?_
    exact ⟨rfl, ((Below.refl _ _).alloc (Nat.le_refl _) _).alloc (by simp) _⟩
end Go.Proofs.YthaalhigmihijabGreat

namespace Go.Proofs.YthaalhigmihijabGreat
open Go.RowKit

section
variable {B p sz la : Nat} {ds : List Int} {ns ns' : List Nd} {w w' : World}
/-- A table behind a version that was put in. -/
theorem Tab.put (h : Tab B p ds ns sz la w) (hs : Skp B p ns' w') (ht : TurnT p ns w w') (hf : ∀ k ∈ foot p ns', k ∈ foot p ns ∨ w.heap.size ≤ k) : Tab B p ds ns' sz la w' := by
  refine ⟨hs, ?_, (ht.2 14 (by omega)).trans h.size, (ht.2 15 (by omega)).trans h.last⟩
  obtain ⟨v, h1, h2, h3⟩ := h.dr
  refine ⟨v, (ht.2 13 (by omega)).trans h1, h2.kept fun k hk => ht.1.block k (h2.lt k hk) (h3 k hk).2, fun b hb => ⟨(h3 b hb).1, fun hm => ?_⟩⟩
  rcases hf b hm with h4 | h4
  · exact (h3 b hb).2 h4
  · have := h2.lt b hb
    omega
theorem skp_set (h : Skp B p ns w) {j : Nat} (hj : 12 < j) (v : Value) : Skp B p ns (w.setCell ⟨p, j, none⟩ v) := by
  refine ⟨⟨fun pre n r he => ?_, ?_, h.lst.lev, h.lst.nodup⟩, h.right, h.base⟩
  · have ho := h.lst.chain pre n r he
    refine ⟨fun i u hi => ?_, fun t ht => ?_, fun i => (World.frozen?_setCell _ _ _ _).trans (ho.warm i)⟩
    · have := ent_lt4 hi
      exact (World.cell?_setCell_other w _ _ _ (fun q => by injection q with q1 q2; omega)).trans (ho.ent i u hi)
    · exact (World.cell?_setCell_other w _ _ _ (fun q => by injection q with q1 q2; omega)).trans (ho.nxt t ht)
  · exact (World.cell?_setCell_other w _ _ _ (fun q => by injection q with q1 q2; omega)).trans h.lst.cnt
theorem row_set (j : Nat) (u : Value) {v : Value} (hr : Row w 3 1 v ds.length (cellsI ds)) (ho : ∀ b, ob v = some b → B ≤ b ∧ b ∉ foot p ns) : Row (w.setCell ⟨p, j, none⟩ u) 3 1 v ds.length (cellsI ds) :=
  hr.kept fun k hk => heap_setCell_other w ⟨p, j, none⟩ k _ (fun e => (ho k hk).2 (by rw [show k = p from e]; simp [foot, hd]))
theorem Tab.setSize (h : Tab B p ds ns sz la w) (s : Nat) : Tab B p ds ns s la (w.setCell ⟨p, 14, none⟩ (.int .i64 (s : Int))) := by
  obtain ⟨v, h1, h2, h3⟩ := h.dr
  exact ⟨skp_set h.skp (by omega) _, ⟨v, (World.cell?_setCell_other w _ _ _ (fun q => by injection q with q1 q2; omega)).trans h1, row_set 14 _ h2 h3, h3⟩, World.cell?_setCell_same w _ _ h.size, (World.cell?_setCell_other w _ _ _ (fun q => by injection q with q1 q2; omega)).trans h.last⟩
theorem Tab.setLast (h : Tab B p ds ns sz la w) (l : Nat) : Tab B p ds ns sz l (w.setCell ⟨p, 15, none⟩ (.int .u64 (l : Int))) := by
  obtain ⟨v, h1, h2, h3⟩ := h.dr
  exact ⟨skp_set h.skp (by omega) _, ⟨v, (World.cell?_setCell_other w _ _ _ (fun q => by injection q with q1 q2; omega)).trans h1, row_set 15 _ h2 h3, h3⟩, (World.cell?_setCell_other w _ _ _ (fun q => by injection q with q1 q2; omega)).trans h.size, World.cell?_setCell_same w _ _ h.last⟩
end
theorem puts_mono {W W' : World} {x : Ent} {l : Nat} {ns ns' : List Nd} {t : Bool} (h : Puts W' x l ns t ns') (hle : W.heap.size ≤ W'.heap.size) : Puts W x l ns t ns' := by
  rcases h with h | ⟨h1, h2, h3, P, Q, a, h4, h5, h6⟩
  · exact .inl h
  · exact .inr ⟨h1, h2, h3, P, Q, a, h4, h5, Nat.le_trans hle h6⟩
theorem puts_yes {W : World} {x : Ent} {l : Nat} {ns ns' : List Nd} {t : Bool} (h : Puts W x l ns t ns') (hv : validB x.k x.n x.v = true) (hn : ∀ y ∈ ns, ¬ same2 y.e x) : t = true := by
  rcases h with ⟨-, -, h | ⟨y, hy, h⟩⟩ | ⟨h, -⟩
  · rw [hv] at h
    cases h
  · exact absurd h (hn y hy)
  · exact h
/-- The draws stay where they are. -/
def Same13 (p : Nat) (w w' : World) : Prop := w'.cell? ⟨p, 13, none⟩ = w.cell? ⟨p, 13, none⟩
theorem Same13.trans {p : Nat} {a b c : World} (h : Same13 p a b) (k : Same13 p b c) : Same13 p a c := Eq.trans k h
theorem same13_below {p : Nat} {w w' : World} (h : Below w.heap.size w w') (hp : p < w.heap.size) : Same13 p w w' := h.cell (p := ⟨p, 13, none⟩) hp
theorem Same13.set {p j : Nat} {w w' : World} {v : Value} (h : Same13 p w w') (hj : j ≠ 13) : Same13 p w (w'.setCell ⟨p, j, none⟩ v) :=
  Eq.trans (World.cell?_setCell_other _ _ _ _ (fun q => by injection q with q1 q2; omega)) h
/-- What a version counts. -/
def sizeE (x : Ent) : Nat := x.k.size + x.v.size + 16
set_option maxHeartbeats 4000000 in
set_option maxRecDepth 100000 in
theorem mput_any {B p sz la : Nat} {ds : List Int} {ns : List Nd} {w : World} (h : Tab B p ds ns sz la w) (x : Ent) (hx : x.Nice) (hv : validB x.k x.n x.v = true) (hn : ∀ y ∈ ns, ¬ same2 y.e x) (hl : ns.length ≤ 100000) (hds : ds.length ≤ 1000000) (hs : sz ≤ 1000000000000) :
    Calls Tryz.prog 28 #[.pointer (some ⟨p, 0, none⟩), ev x.k x.s x.n x.v] w fun e w' => e = .returned (.tuple #[]) ∧ ∃ ns', Puts w x (lvl (drawAt ds ns.length)) ns true ns' ∧ Tab B p ds ns' (sz + sizeE x) la w' ∧ Turn (foot p ns) w w' ∧ Same13 p w w' := by
  obtain ⟨W, hW⟩ : ∃ W, w.alloc (.cells #[.string x.k, .int .u64 x.s, .int .i64 x.n, .string x.v] 34) = W := ⟨_, rfl⟩
  have hB : Below w.heap.size w W := by rw [← hW]; exact (Below.refl _ _).alloc (Nat.le_refl _) _
  have hbx : Boxe w.heap.size x.k x.s x.n x.v W := by rw [← hW]; exact new_block _ _ rfl
  have hkv : x.k.size ≤ 300 ∧ x.v.size ≤ 60000 := by
    unfold validB at hv
    simp at hv
    omega
  have CL := Lib.hid (fun W' (h' : Tab B p ds ns sz la W') => level_any h' (by omega) hds)
  generalize hz : drawAt ds ns.length = z at *
  have CP := Lib.hid (fun W' (h' : Tab B p ds ns sz la W') => put_step_t h'.skp x hx z (by omega))
  have HH := Lib.hid (h.below hB)
  have HB := Lib.hid hB
  have HX := Lib.hid hbx
  have HN := Lib.hid hn
  have HV := Lib.hid hv
  have HPW := Lib.hid h.hdlt
  have HF := Lib.hid (show w.heap.size ∉ foot p ns from fun hm => by have := h.skp.lst.lt _ hm; omega)
  have b0 := hbx.c0
  have b1 := hbx.c1
  have b2 := hbx.c2
  have b3 := hbx.c3
  unfold ev at CP ⊢
  clear h hn hv hB hbx hz hx
  go_enter Tryz.func28, Tryz.ntmps28
  go_upto_region 1 with fail
  clear hW
  go_region_held3 (fun w' => w'.cell? ⟨w.heap.size, 0, none⟩ = some (.string x.k) ∧ w'.cell? ⟨w.heap.size, 1, none⟩ = some (.int .u64 x.s) ∧ w'.cell? ⟨w.heap.size, 2, none⟩ = some (.int .i64 x.n) ∧ w'.cell? ⟨w.heap.size, 3, none⟩ = some (.string x.v)) (first | go_keep | exact ⟨b0, b1, b2, b3⟩ | exact ⟨b10, b11, b12, b13⟩ | exact ⟨b20, b21, b22, b23⟩) (first | (go_at_call 102; (with_reducible refine (CL.out _ HH.out.drew).mono ?_); rintro e w1 ⟨rfl, hb1⟩; have hx1 := HX.out.drew.below hb1; have b10 := hx1.c0; have b11 := hx1.c1; have b12 := hx1.c2; have b13 := hx1.c3; have ht1 := HH.out.drew.below hb1) | (go_at_call 101; (with_reducible refine (CP.out _ ht1).mono ?_); rintro e w2 ⟨t, ns', rfl, hp2, hs2, ht2⟩; have hx2 : Boxe w.heap.size x.k x.s x.n x.v w2 := (ht2.1.block _ hx1.lt HF.out).trans hx1; have b20 := hx2.c0; have b21 := hx2.c1; have b22 := hx2.c2; have b23 := hx2.c3) | fail)
  obtain rfl := puts_yes hp2 HV.out HN.out
  have htab := ht1.put hs2 ht2 (puts_foot hp2)
  have c14 := htab.size
  have f14 := htab.warm 14
  have HFIN := Lib.hid (htab.setSize (sz + sizeE x))
  have HP2 := Lib.hid (puts_mono hp2 (show w.heap.size ≤ w1.heap.size from Nat.le_trans HB.out.size hb1.size))
  have HT2 := Lib.hid (show Turn (foot p ns) w w2 from ((turn_of_below HB.out).drew.trans (turn_of_below (F := []) hb1) (by simp)).trans ht2.1 (fun k hk => .inl hk))
  have H13 := Lib.hid (show Same13 p w w2 from (same13_below (HB.out.drew.trans (hb1.mono HB.out.size)) HPW.out).trans (ht2.2 13 (by omega)))
  have HE := Lib.hid (show ((sz + sizeE x : Nat) : Int) = (sz : Int) + ((x.k.size : Int) + (x.v.size : Int) + 16) by unfold sizeE; omega)
  rw [HE.out] at HFIN
  clear htab hp2 hs2 ht2 ht1 hx1 hb1 b10 b11 b12 b13 b0 b1 b2 b3 b21 b22 hx2
  have k1 : (x.k.size : Int) ≤ 300 := by omega
  have k2 : (x.v.size : Int) ≤ 60000 := by omega
  have r1 : IntKind.i64.wrap ((x.k.size : Int) + (x.v.size : Int)) = (x.k.size : Int) + (x.v.size : Int) := by rw [IntKind.wrap_i64]; omega
  have r2 : IntKind.i64.wrap ((x.k.size : Int) + (x.v.size : Int) + 16) = (x.k.size : Int) + (x.v.size : Int) + 16 := by rw [IntKind.wrap_i64]; omega
  have r3 : IntKind.i64.wrap ((sz : Int) + ((x.k.size : Int) + (x.v.size : Int) + 16)) = (sz : Int) + ((x.k.size : Int) + (x.v.size : Int) + 16) := by rw [IntKind.wrap_i64]; omega
  go_wp2_with fail
  go_region_with (fail)
  all_goals go_wp2
  all_goals go_end0
  all_goals exact ⟨rfl, _, HP2.out, HFIN.out.drew, (HT2.out.setCell (.inl (by simp [foot, hd])) _).drew, H13.out.set (by omega)⟩
end Go.Proofs.YthaalhigmihijabGreat

namespace Go.Proofs.YthaalhigmihijabGreat
open Go.RowKit

/-- What a write makes of its key, at a number. -/
def verE (x : Wr) (s : Nat) : Ent := ⟨x.k, (s : Int), if x.d then 2 else 1, x.v⟩
def vers (first : Nat) : List Wr → List Ent
  | [] => []
  | x :: r => verE x first :: vers (first + 1) r
theorem vers_length : ∀ (ws : List Wr) (f : Nat), (vers f ws).length = ws.length
  | [], _ => rfl
  | _ :: r, f => by simp [vers, vers_length r]
theorem vers_get : ∀ (ws : List Wr) (f i : Nat) (h : i < ws.length), (vers f ws)[i]? = some (verE ws[i] (f + i))
  | x :: r, f, 0, _ => rfl
  | x :: r, f, i + 1, h => by
    have := vers_get r (f + 1) i (by simpa using h)
    rw [show vers f (x :: r) = verE x f :: vers (f + 1) r from rfl, List.getElem?_cons_succ, this]
    rw [show f + 1 + i = f + (i + 1) by omega]
    rfl
theorem vers_mem {ws : List Wr} {f : Nat} {e : Ent} (h : e ∈ vers f ws) : ∃ i, ∃ hi : i < ws.length, e = verE ws[i] (f + i) := by
  obtain ⟨i, hi⟩ := List.mem_iff_getElem?.1 h
  have hl : i < ws.length := by rw [← vers_length ws f]; exact (List.getElem?_eq_some_iff.1 hi).1
  rw [vers_get ws f i hl] at hi
  exact ⟨i, hl, (Option.some.inj hi).symm⟩
theorem vers_take {ws : List Wr} {f i : Nat} {e : Ent} (h : e ∈ (vers f ws).take i) : (f : Int) ≤ e.s ∧ e.s < ((f + i : Nat) : Int) := by
  obtain ⟨j, hj⟩ := List.mem_iff_getElem?.1 h
  have hjl := (List.getElem?_eq_some_iff.1 hj).1
  rw [List.length_take, vers_length] at hjl
  rw [List.getElem?_take_of_lt (by omega), vers_get ws f j (by omega)] at hj
  rw [← Option.some.inj hj]
  simp only [verE]
  omega
def sizeL (L : List Ent) : Nat := (L.map sizeE).sum
theorem sizeL_append (A B : List Ent) : sizeL (A ++ B) = sizeL A + sizeL B := by simp [sizeL]
theorem sizeL_le : ∀ (L : List Ent) (n : Nat), (∀ e ∈ L, e.Fit) → L.length ≤ n → sizeL L ≤ n * 60316
  | [], _, _, _ => by simp [sizeL]
  | e :: L, n, h, hl => by
    cases n with
    | zero => simp at hl
    | succ n =>
      have h1 := sizeL_le L n (fun x hx => h x (List.mem_cons_of_mem _ hx)) (by simpa using hl)
      have h2 := h e (by simp)
      have e1 : sizeL (e :: L) = sizeE e + sizeL L := by simp [sizeL]
      rw [e1, Nat.add_mul]
      unfold sizeE
      have := h2.1
      have := h2.2.1
      omega
/-- Does Add take it? -/
def addOk (la first : Nat) (ws : List Wr) : Bool := wrsOk ws && decide (la < first) && decide (first + ws.length ≤ 4611686018427387904)
def addV (la first : Nat) (ws : List Wr) : Value := if addOk la first ws then .tuple #[.int .u64 ((first + ws.length : Nat) : Int), .int .i64 0] else .tuple #[.int .u64 0, .int .i64 1]
def addL (L : List Ent) (la first : Nat) (ws : List Wr) : List Ent := if addOk la first ws then L ++ vers first ws else L
def addLa (la first : Nat) (ws : List Wr) : Nat := if addOk la first ws then first + ws.length - 1 else la
theorem addOk_no {la first : Nat} {ws : List Wr} (h : addOk la first ws = false) (L : List Ent) : addV la first ws = .tuple #[.int .u64 0, .int .i64 1] ∧ addL L la first ws = L ∧ addLa la first ws = la := by
  unfold addV addL addLa
  rw [h]
  exact ⟨rfl, rfl, rfl⟩
theorem addOk_yes {la first : Nat} {ws : List Wr} (h : addOk la first ws = true) (L : List Ent) : addV la first ws = .tuple #[.int .u64 ((first + ws.length : Nat) : Int), .int .i64 0] ∧ addL L la first ws = L ++ vers first ws ∧ addLa la first ws = first + ws.length - 1 := by
  unfold addV addL addLa
  rw [h]
  exact ⟨rfl, rfl, rfl⟩
theorem addOk_of {la first : Nat} {ws : List Wr} (h1 : wrsOk ws = true) (h2 : la < first) (h3 : first + ws.length ≤ 4611686018427387904) : addOk la first ws = true := by
  unfold addOk
  rw [h1, decide_eq_true h2, decide_eq_true h3]
  rfl
theorem addOk_bad {la first : Nat} {ws : List Wr} (h : wrsOk ws = false ∨ ¬ la < first ∨ ¬ first + ws.length ≤ 4611686018427387904) : addOk la first ws = false := by
  unfold addOk
  rcases h with h | h | h
  · rw [h]; rfl
  · rw [decide_eq_false h, Bool.and_false]; rfl
  · rw [decide_eq_false h, Bool.and_false]
theorem verE_valid {x : Wr} (h : wrOk x = true) (s : Nat) : validB (verE x s).k (verE x s).n (verE x s).v = true := by
  have h1 := wrOk_sizes h
  unfold wrOk at h
  simp at h
  unfold validB verE
  cases hd : x.d with
  | false => simp; omega
  | true =>
    have hv : x.v = ByteArray.empty := by
      rcases h.2 with h2 | h2
      · rw [hd] at h2
        cases h2
      · exact h2
    rw [hv]
    simp
    omega
theorem verE_nice {x : Wr} (h : wrOk x = true) {s : Nat} (hs : s < 18446744073709551616) : (verE x s).Nice := by
  have h1 := wrOk_sizes h
  refine ⟨?_, ?_, ?_, ?_⟩ <;> simp only [verE] <;> (try unfold maxLen) <;> omega
theorem verE_fit {x : Wr} (h : wrOk x = true) {s : Nat} (hs : s < 18446744073709551616) : (verE x s).Fit := by
  have h1 := wrOk_sizes h
  refine ⟨?_, ?_, ?_, ?_⟩ <;> simp only [verE] <;> omega
/-- The table at p holds the versions L, the last number is la. -/
structure Mem (B p : Nat) (ds : List Int) (L : List Ent) (la : Nat) (ns : List Nd) (w : World) : Prop where
  tab : Tab B p ds ns (sizeL L) la w
  mem : ∀ e, e ∈ entsOf ns ↔ e ∈ L
  len : ns.length = L.length
  old : ∀ e ∈ L, e.s ≤ (la : Int)
theorem Mem.below {B p la : Nat} {ds : List Int} {L : List Ent} {ns : List Nd} {w w' : World} (h : Mem B p ds L la ns w) (hb : Below w.heap.size w w') : Mem B p ds L la ns w' := ⟨h.tab.below hb, h.mem, h.len, h.old⟩
theorem Mem.drew {B p la : Nat} {ds : List Int} {L : List Ent} {ns : List Nd} {w : World} (h : Mem B p ds L la ns w) : Mem B p ds L la ns w.drew := ⟨h.tab.drew, h.mem, h.len, h.old⟩
theorem Mem.fit {B p la : Nat} {ds : List Int} {L : List Ent} {ns : List Nd} {w : World} (h : Mem B p ds L la ns w) : ∀ e ∈ L, e.Fit := fun e he => by
  obtain ⟨n, hn, rfl⟩ := mem_entsOf.1 ((h.mem e).2 he)
  exact h.tab.skp.right.fit n hn
/-- Behind the first i versions of a batch. -/
structure Adds (B p : Nat) (ds : List Int) (L V : List Ent) (la i : Nat) (ns : List Nd) (w : World) : Prop where
  tab : Tab B p ds ns (sizeL L + sizeL (V.take i)) la w
  mem : ∀ e, e ∈ entsOf ns ↔ e ∈ L ∨ e ∈ V.take i
  len : ns.length = L.length + i
theorem Mem.adds {B p la : Nat} {ds : List Int} {L : List Ent} {ns : List Nd} {w : World} (h : Mem B p ds L la ns w) (V : List Ent) : Adds B p ds L V la 0 ns w :=
  ⟨by simpa [sizeL] using h.tab, fun e => by simp [h.mem e], by simp [h.len]⟩
theorem Adds.step {B p la i : Nat} {ds : List Int} {L V : List Ent} {ns ns' : List Nd} {x : Ent} {l : Nat} {w w' W : World} (h : Adds B p ds L V la i ns w) (hx : V[i]? = some x) (hp : Puts W x l ns true ns') (ht : Tab B p ds ns' (sizeL L + sizeL (V.take i) + sizeE x) la w') : Adds B p ds L V la (i + 1) ns' w' := by
  have e1 : V.take (i + 1) = V.take i ++ [x] := by rw [List.take_add_one, hx]; rfl
  refine ⟨?_, fun e => ?_, ?_⟩
  · rw [e1, sizeL_append, ← Nat.add_assoc]
    simpa [sizeL] using ht
  · rw [puts_mem hp e, h.mem e, e1, List.mem_append, List.mem_singleton]
    constructor
    · rintro ((h | h) | ⟨-, h⟩)
      · exact .inl h
      · exact .inr (.inl h)
      · exact .inr (.inr h)
    · rintro (h | h | h)
      · exact .inl (.inl h)
      · exact .inl (.inr h)
      · exact .inr ⟨rfl, h⟩
  · rcases hp with ⟨h0, -⟩ | ⟨-, -, -, P, Q, a, hc, rfl, -⟩
    · cases h0
    · have := h.len
      rw [hc.all] at this
      simp at this ⊢
      omega
theorem Adds.fresh {B p la i first : Nat} {ds : List Int} {L : List Ent} {ws : List Wr} {ns : List Nd} {w : World} (h : Adds B p ds L (vers first ws) la i ns w) (hla : la < first) (ho : ∀ e ∈ L, e.s ≤ (la : Int)) (x : Wr) : ∀ y ∈ ns, ¬ same2 y.e (verE x (first + i)) := by
  intro y hy hs
  have h2 : y.e.s = ((first + i : Nat) : Int) := hs.2
  rcases (h.mem y.e).1 (mem_entsOf.2 ⟨y, hy, rfl⟩) with h1 | h1
  · have := ho _ h1
    omega
  · have := vers_take h1
    omega
theorem Adds.done {B p la first : Nat} {ds : List Int} {L : List Ent} {ws : List Wr} {ns : List Nd} {w : World} (h : Adds B p ds L (vers first ws) la ws.length ns w) (hla : la < first) (ho : ∀ e ∈ L, e.s ≤ (la : Int)) (hpos : 1 ≤ ws.length) : Mem B p ds (L ++ vers first ws) (first + ws.length - 1) ns (w.setCell ⟨p, 15, none⟩ (.int .u64 ((first + ws.length - 1 : Nat) : Int))) := by
  have e : (vers first ws).take ws.length = vers first ws := List.take_of_length_le (by rw [vers_length]; exact Nat.le_refl _)
  refine ⟨?_, fun x => ?_, ?_, fun x hx => ?_⟩
  · have := h.tab.setLast (first + ws.length - 1)
    rw [e, ← sizeL_append] at this
    exact this
  · rw [h.mem x, e, List.mem_append]
  · rw [h.len, List.length_append, vers_length]
  · rcases List.mem_append.1 hx with hx | hx
    · have := ho x hx
      omega
    · obtain ⟨i, hi, rfl⟩ := vers_mem hx
      simp only [verE]
      omega
end Go.Proofs.YthaalhigmihijabGreat

namespace Go.Proofs.YthaalhigmihijabGreat
open Go.RowKit

set_option maxHeartbeats 4000000 in
set_option maxRecDepth 100000 in
theorem memAdd_any {B p la : Nat} {ds : List Int} {L : List Ent} {ns : List Nd} {w : World} (h : Mem B p ds L la ns w) (first : Nat) (a : Option Addr) (len cap : Nat) (ws : List Wr) (hE : WrsAt w.heap.size w a len ws) (hok : ∀ x ∈ ws, x.Ok) (ha : ∀ b off, a = some ⟨b, off, none⟩ → 0 < len → b ∉ foot p ns) (hl : len ≤ 60) (hf : first < 18446744073709551616) (hL : L.length ≤ 50000) (hds : ds.length ≤ 1000000) (hla : la < 18446744073709551616) :
    Calls Tryz.prog 10 #[.pointer (some ⟨p, 0, none⟩), .int .u64 (first : Int), .slice a len cap] w fun e w' => e = .returned (addV la first ws) ∧ ∃ ns', Mem B p ds (addL L la first ws) (addLa la first ws) ns' w' ∧ Turn (foot p ns) w w' ∧ (∀ k ∈ foot p ns', k ∈ foot p ns ∨ w.heap.size ≤ k) ∧ Same13 p w w' := by
  have hel := hE.1
  have CB := Lib.hid (putBatch_any first a len cap ws w hE hl hok hf)
  have HH := Lib.hid h
  have HE := Lib.hid hE
  have HA := Lib.hid ha
  cases hw : wrsOk ws with
  | false =>
    rw [putV_no first hw] at CB
    have HN := Lib.hid (addOk_no (addOk_bad (la := la) (first := first) (.inl hw)) L)
    clear h hE ha hok hw
    go_enter Tryz.func10, Tryz.ntmps10
    go_wp2_with (first | (go_at_call 27; (with_reducible refine CB.out.mono ?_); rintro e w1 ⟨rfl, hb⟩) | fail)
    refine bodyPost_ret (results_tmp2 rfl _ _ _) rfl ?_
    exact ⟨by rw [HN.out.1]; rfl, ns, by rw [HN.out.2.1, HN.out.2.2]; exact HH.out.below hb, turn_of_below hb, fun k hk => .inl hk, same13_below hb HH.out.tab.hdlt⟩
  | true =>
    rw [putV_yes first hw] at CB
    generalize (⟨(putB first ws).toArray⟩ : ByteArray) = bs at CB
    have hlw : IntKind.u64.wrap (len : Int) = (len : Int) := by rw [IntKind.wrap_u64]; omega
    have HPOS := Lib.hid (wrsOk_pos hw)
    have HWOK := Lib.hid hw
    have HWS := Lib.hid (wrsOk_all hw)
    have hsub : IntKind.u64.wrap (4611686018427387904 - (len : Int)) = 4611686018427387904 - (len : Int) := by rw [IntKind.wrap_u64]; omega
    by_cases hgo : la < first ∧ first + len ≤ 4611686018427387904
    · obtain ⟨g1, g2⟩ := hgo
      have d1 : decide ((first : Int) ≤ (la : Int)) = false := by simp; omega
      have d1' : decide (first ≤ la) = false := by simp; omega
      have d2 : decide (4611686018427387904 - (len : Int) < (first : Int)) = false := by simp; omega
      have HY := Lib.hid (addOk_yes (addOk_of hw g1 (by rw [hel]; exact g2)) L)
      clear h hE ha hok hw
      go_enter Tryz.func10, Tryz.ntmps10
      go_wp2_with (first | (go_at_call 27; (with_reducible refine CB.out.mono ?_); rintro e w1 ⟨rfl, hb⟩; have hc15 := (HH.out.below hb).tab.last) | fail)
      have HB := Lib.hid hb
      clear hb hc15
      go_loopw [42] (fun iv wr => ∃ (i : Nat) (ns' : List Nd), iv = .int .i64 (i : Int) ∧ i ≤ len ∧ Adds B p ds L (vers first ws) la i ns' wr ∧ Turn (foot p ns) w wr ∧ (∀ k ∈ foot p ns', k ∈ foot p ns ∨ w.heap.size ≤ k) ∧ Same13 p w wr) (fun iv _ => len - (intOf iv).toNat)
      case atStart => exact ⟨0, ns, rfl, Nat.zero_le _, (HH.out.below HB.out).adds _, turn_of_below HB.out, fun k hk => .inl hk, same13_below HB.out HH.out.tab.hdlt⟩
      case round =>
        obtain ⟨i, ns', rfl, hil0, hadd, htu, hft, h13⟩ := hrel
        have H13 := Lib.hid h13
        clear h13
        by_cases hlt : i < len
        · have hil : (i : Int) < (len : Int) := by omega
          obtain ⟨b, off, rfl, hblt, ⟨K, V, D⟩, hget, hcell⟩ : ∃ b off, a = some ⟨b, off, none⟩ ∧ b < w.heap.size ∧ ∃ x : Wr, ws[i]? = some x ∧ ∀ j u, x.cells[j]? = some u → wr.cell? ⟨b, off + i * 3 + j, none⟩ = some u := by
            rcases HE.out.2 with h0 | ⟨b, off, e, h1, h2⟩
            · omega
            · exact ⟨b, off, e, h1, ws[i]'(by omega), List.getElem?_eq_getElem (by omega), fun j u hu => (htu.cell h1 (HA.out b off e (by omega))).trans (h2 i (by omega) j u hu)⟩
          have q0 : wr.cell? ⟨b, off + i * 3, none⟩ = some (.string K) := hcell 0 _ rfl
          have q1 : wr.cell? ⟨b, off + i * 3 + 1, none⟩ = some (.string V) := hcell 1 _ rfl
          have q2 : wr.cell? ⟨b, off + i * 3 + 2, none⟩ = some (.bool D) := hcell 2 _ rfl
          have hwx : wrOk ⟨K, V, D⟩ = true := HWS.out _ (List.mem_of_getElem? hget)
          have hget2 : (vers first ws)[i]? = some (verE ⟨K, V, D⟩ (first + i)) := by
            have := vers_get ws first i (by omega)
            rw [this]
            rw [List.getElem?_eq_getElem (by omega)] at hget
            rw [Option.some.inj hget]
          have hfit := HH.out.fit
          have hszL : sizeL L + sizeL ((vers first ws).take i) ≤ 1000000000000 := by
            have h1 := sizeL_le L 50000 hfit hL
            have h2 := sizeL_le ((vers first ws).take i) 60 (fun e he => by
              obtain ⟨j, hj, rfl⟩ := vers_mem (List.mem_of_mem_take he)
              exact verE_fit (HWS.out _ (List.getElem_mem _)) (by omega)) (by rw [List.length_take]; omega)
            omega
          have CP := Lib.hid (fun W (h' : Tab B p ds ns' (sizeL L + sizeL ((vers first ws).take i)) la W) => mput_any h' (verE ⟨K, V, D⟩ (first + i)) (verE_nice hwx (by omega)) (verE_valid hwx _) (hadd.fresh g1 HH.out.old _) (by rw [hadd.len]; omega) hds hszL)
          have hw1 : IntKind.u64.wrap (i : Int) = (i : Int) := by rw [IntKind.wrap_u64]; omega
          have hw2 : IntKind.u64.wrap ((first : Int) + (i : Int)) = ((first + i : Nat) : Int) := by rw [IntKind.wrap_u64]; omega
          generalize first + i = S at CP hw2 hget2
          have CV := Lib.hid (fun W => version_any K V D (S : Int) W)
          have hbox : ∀ (o : Obj), Below wr.heap.size wr (wr.alloc o) := fun o => (Below.refl _ _).alloc (Nat.le_refl _) _
          have HBX := Lib.hid hbox
          have HADD := Lib.hid hadd
          have HTU := Lib.hid htu
          have HFT := Lib.hid hft
          have HG2 := Lib.hid hget2
          unfold ev verE at CP
          unfold ev at CV
          clear hcell hget hget2 hadd htu hft hfit hszL hwx hbox
          go_wp2_with (first | (go_at_call 29; (with_reducible refine (CV.out _).mono ?_); rintro e w2 ⟨rfl, hb2⟩) | (go_at_call 28; (with_reducible refine (CP.out _ (HADD.out.tab.below ((HBX.out _).trans (hb2.mono (HBX.out _).size)))).mono ?_); rintro e w3 ⟨rfl, ns3, hp3, ht3, hu3, hv3⟩) | fail)
          have hB2 := (HBX.out _).trans (hb2.mono (HBX.out _).size)
          go_roundw
          case rel =>
            refine ⟨i + 1, ns3, by go_num, by omega, HADD.out.step HG2.out (puts_mono hp3 (Nat.le_refl _)) ht3, ?_, fun k hk => ?_, (H13.out.trans (same13_below hB2 HADD.out.tab.hdlt)).trans hv3⟩
            · exact (HTU.out.trans (turn_of_below (F := []) hB2) (by simp)).trans hu3 HFT.out
            · rcases puts_foot hp3 k hk with h4 | h4
              · exact HFT.out k h4
              · exact .inr (Nat.le_trans HTU.out.size (Nat.le_trans hB2.size h4))
          case measure => simp [intOf]; omega
        · obtain rfl : i = len := by omega
          have cl := hadd.tab.last
          have fl := hadd.tab.warm 15
          have hwa : IntKind.u64.wrap ((first : Int) + (i : Int)) = (first : Int) + (i : Int) := by rw [IntKind.wrap_u64]; omega
          have hwb : IntKind.u64.wrap ((first : Int) + (i : Int) - 1) = (first : Int) + (i : Int) - 1 := by rw [IntKind.wrap_u64]; omega
          have HADD := Lib.hid hadd
          have HTU := Lib.hid htu
          have HFT := Lib.hid hft
          clear hadd htu hft
          go_wp2
          refine bodyPost_ret (results_tmp2 rfl _ _ _) rfl ?_
          have hd1 := HADD.out
          rw [← hel] at hd1
          have hd2 := hd1.done g1 HH.out.old HPOS.out
          have e1 : ((first + ws.length - 1 : Nat) : Int) = (first : Int) + (i : Int) - 1 := by have := HPOS.out; omega
          have e2 : ((first + ws.length : Nat) : Int) = (first : Int) + (i : Int) := by omega
          rw [e1] at hd2
          refine ⟨by rw [HY.out.1, e2]; rfl, ns', ?_, HTU.out.setCell (.inl (by simp [foot, hd])) _, HFT.out, H13.out.set (by omega)⟩
          rw [HY.out.2.1, HY.out.2.2]
          exact hd2
    · have HN := Lib.hid (addOk_no (addOk_bad (la := la) (first := first) (ws := ws) (by rw [hel]; omega)) L)
      by_cases g1 : la < first
      · have d1 : decide ((first : Int) ≤ (la : Int)) = false := by simp; omega
        have d1' : decide (first ≤ la) = false := by simp; omega
        have d2 : decide (4611686018427387904 - (len : Int) < (first : Int)) = true := by simp; omega
        clear h hE ha hok hw hgo
        go_enter Tryz.func10, Tryz.ntmps10
        go_wp2_with (first | (go_at_call 27; (with_reducible refine CB.out.mono ?_); rintro e w1 ⟨rfl, hb⟩; have hc15 := (HH.out.below hb).tab.last) | fail)
        refine bodyPost_ret (results_tmp2 rfl _ _ _) rfl ?_
        exact ⟨by rw [HN.out.1]; rfl, ns, by rw [HN.out.2.1, HN.out.2.2]; exact HH.out.below hb, turn_of_below hb, fun k hk => .inl hk, same13_below hb HH.out.tab.hdlt⟩
      · have d1 : decide ((first : Int) ≤ (la : Int)) = true := by simp; omega
        have d1' : decide (first ≤ la) = true := by simp; omega
        clear h hE ha hok hw hgo
        go_enter Tryz.func10, Tryz.ntmps10
        go_wp2_with (first | (go_at_call 27; (with_reducible refine CB.out.mono ?_); rintro e w1 ⟨rfl, hb⟩; have hc15 := (HH.out.below hb).tab.last) | fail)
        refine bodyPost_ret (results_tmp2 rfl _ _ _) rfl ?_
        exact ⟨by rw [HN.out.1]; rfl, ns, by rw [HN.out.2.1, HN.out.2.2]; exact HH.out.below hb, turn_of_below hb, fun k hk => .inl hk, same13_below hb HH.out.tab.hdlt⟩
section
variable {B p sz la : Nat} {ds : List Int} {ns : List Nd} {w : World}
set_option maxHeartbeats 1000000 in
set_option maxRecDepth 100000 in
theorem memGet_any {P Q : List Nd} {k : ByteArray} {s : Int} (h : Tab B p ds ns sz la w) (hc : Cut k s ns P Q) :
    Calls Tryz.prog 12 #[.pointer (some ⟨p, 0, none⟩), .string k, .int .u64 s] w fun e w' => e = .returned (getV (getR k Q)) ∧ Below w.heap.size w w' := by
  obtain ⟨W, hW⟩ : ∃ W, w.alloc (.cells #[.string ⟨#[]⟩, .int .u64 0, .int .i64 0, .string ⟨#[]⟩] 34) = W := ⟨_, rfl⟩
  have hB : Below w.heap.size w W := by rw [← hW]; exact (Below.refl _ _).alloc (Nat.le_refl _) _
  have hx : Boxe w.heap.size ⟨#[]⟩ 0 0 ⟨#[]⟩ W := by rw [← hW]; exact new_block _ _ rfl
  have C := Lib.hid (get_any (h.skp.lst.below hB) h.skp.right hc)
  generalize hg : getR k Q = g at C ⊢
  have HB := Lib.hid hB
  have HX := Lib.hid hx
  unfold getV Ent.val ev at C
  obtain ⟨y, hy⟩ : ∃ y, g.getD Ent.zero = y := ⟨_, rfl⟩
  rw [hy] at C
  clear h hc hB hx hg
  go_enter Tryz.func12, Tryz.ntmps12
  go_wp2_with (first | (go_at_call 32; (with_reducible refine C.out.mono ?_); rintro e w1 ⟨rfl, hb⟩; have hx1 := HX.out.below hb; have d0 := hx1.c0; have d1 := hx1.c1; have d2 := hx1.c2; have d3 := hx1.c3; have t0 := hx1.f 0; have t1 := hx1.f 1; have t2 := hx1.f 2; have t3 := hx1.f 3) | fail)
  have hB2 := HB.out.trans (hb.mono HB.out.size)
  refine bodyPost_ret (v := getV g) (by simp [results, Tryz.results12, go_sem, d0, d1, d2, d3, getV, hy, Ent.val, ev]) rfl ?_
  exact ⟨rfl, (((hB2.setCell (Nat.le_refl _) _).setCell (Nat.le_refl _) _).setCell (Nat.le_refl _) _).setCell (Nat.le_refl _) _⟩
theorem memRange_any {P Q : List Nd} {k : ByteArray} (tk : ByteArray) (h : Tab B p ds ns sz la w) (hc : Cut k 18446744073709551615 ns P Q) (hl : ns.length ≤ 1000000) :
    Calls Tryz.prog 14 #[.pointer (some ⟨p, 0, none⟩), .string k, .string tk] w fun e w' => ∃ v, e = .returned v ∧ Row w' 34 4 v (entsOf (upto tk Q)).length (cellsE (entsOf (upto tk Q))) ∧ (∀ b, ob v = some b → w.heap.size ≤ b) ∧ Below w.heap.size w w' := by
  have C := Lib.hid (between_any tk h.skp.lst h.skp.right hc hl)
  clear h hc
  go_enter Tryz.func14, Tryz.ntmps14
  go_wp2_with (first | (go_at_call 33; (with_reducible refine C.out.mono ?_); rintro e w1 ⟨v, rfl, hv, ho, hb⟩) | fail)
  go_ret
  exact ⟨v, rfl, hv, ho, hb⟩
theorem memSize_any (h : Tab B p ds ns sz la w) : Calls Tryz.prog 18 #[.pointer (some ⟨p, 0, none⟩)] w fun e w' => e = .returned (.int .i64 (sz : Int)) ∧ w = w' := by
  have c := h.size
  clear h
  go_enter Tryz.func18, Tryz.ntmps18
  go_wp2
  go_ret
  exact ⟨rfl, rfl⟩
theorem memLast_any (h : Tab B p ds ns sz la w) : Calls Tryz.prog 21 #[.pointer (some ⟨p, 0, none⟩)] w fun e w' => e = .returned (.int .u64 (la : Int)) ∧ w = w' := by
  have c := h.last
  clear h
  go_enter Tryz.func21, Tryz.ntmps21
  go_wp2
  go_ret
  exact ⟨rfl, rfl⟩
theorem memLen_any (h : Tab B p ds ns sz la w) : Calls Tryz.prog 20 #[.pointer (some ⟨p, 0, none⟩)] w fun e w' => e = .returned (.int .i64 (ns.length : Int)) ∧ w = w' := by
  have C := Lib.hid (len_any h.skp.lst)
  clear h
  go_enter Tryz.func20, Tryz.ntmps20
  go_wp2_with (first | (go_at_call 36; (with_reducible refine C.out.mono ?_); rintro e w1 ⟨rfl, rfl⟩) | fail)
  go_ret
  exact ⟨rfl, rfl⟩
end
end Go.Proofs.YthaalhigmihijabGreat

namespace Go.Proofs.YthaalhigmihijabGreat
open Go.RowKit

theorem ents_unique {ns : List Nd} (ho : ns.Pairwise ltN) {x y : Ent} (hx : x ∈ entsOf ns) (hy : y ∈ entsOf ns) (hs : same2 x y) : x = y := by
  have h1 : (entsOf ns).Pairwise ltE := ents_ord ho
  generalize entsOf ns = l at *
  induction l with
  | nil => cases hx
  | cons a l ih =>
    rw [List.pairwise_cons] at h1
    have h0 : cmpE x.k x.s y.k y.s = 0 := (cmpE_eq _ _ _ _).2 hs
    rcases List.mem_cons.1 hx with rfl | hx'
    · rcases List.mem_cons.1 hy with rfl | hy'
      · rfl
      · have := h1.1 y hy'
        unfold ltE at this
        omega
    · rcases List.mem_cons.1 hy with rfl | hy'
      · have := h1.1 x hx'
        unfold ltE at this
        rw [cmpE_swap, this] at h0
        omega
      · exact ih hx' hy' h1.2
theorem get_is {key : ByteArray} {s : Int} {ns P Q : List Nd} {x : Ent} (ho : ns.Pairwise ltN) (hc : Cut key s ns P Q) (hx : x ∈ entsOf ns) (hk : x.k = key) (hs : x.s ≤ s) (hm : ∀ e ∈ entsOf ns, e.k = key → e.s ≤ s → e.s ≤ x.s) : getR key Q = some x := by
  obtain ⟨y, hy, hle⟩ := getR_most ho hc hx hk hs
  obtain ⟨h1, h2, h3⟩ := getR_right hc hy
  rw [hy, ents_unique ho h3 hx ⟨h1.trans hk.symm, Int.le_antisymm (hm y h3 h1 h2) hle⟩]
theorem get_no {key : ByteArray} {s : Int} {ns P Q : List Nd} (hc : Cut key s ns P Q) (hm : ∀ e ∈ entsOf ns, e.k = key → ¬ e.s ≤ s) : getR key Q = none := by
  cases hg : getR key Q with
  | none => rfl
  | some y =>
    obtain ⟨h1, h2, h3⟩ := getR_right hc hg
    exact absurd h2 (hm y h3 h1)
theorem take_filter {α : Type} (f : α → Bool) : ∀ l : List α, l.Pairwise (fun x y => f y = true → f x = true) → l.takeWhile f = l.filter f
  | [], _ => rfl
  | a :: l, h => by
    rw [List.pairwise_cons] at h
    cases ha : f a with
    | true => rw [List.takeWhile_cons, List.filter_cons, ha, if_pos rfl, if_pos rfl, take_filter f l h.2]
    | false =>
      rw [List.takeWhile_cons, List.filter_cons, ha]
      simp only [Bool.false_eq_true, if_false]
      symm
      rw [List.filter_eq_nil_iff]
      intro y hy hf
      rw [h.1 y hy hf] at ha
      cases ha
/-- What a range of a list in order tells. -/
theorem range_filter {k : ByteArray} {ns P Q : List Nd} (ho : ns.Pairwise ltN) (hf : ∀ n ∈ ns, n.e.Fit) (hc : Cut k 18446744073709551615 ns P Q) (tk : ByteArray) :
    entsOf (upto tk Q) = (entsOf ns).filter fun e => !(Op.bytesLess e.k.toList k.toList) && (decide (tk.size = 0) || Op.bytesLess e.k.toList tk.toList) := by
  have hq : entsOf Q = (entsOf ns).filter fun e => !(Op.bytesLess e.k.toList k.toList) := by
    rw [cut_filter hc]
    apply List.filter_congr
    intro e he
    obtain ⟨n, hn, rfl⟩ := mem_entsOf.1 he
    rw [key_less n.e.k k n.e.s (hf n hn).2.2.2]
    simp
  have hsub : ∀ n ∈ Q, n ∈ ns := fun n hn => by rw [hc.all]; simp [hn]
  have hqo : Q.Pairwise ltN := by
    rw [hc.all] at ho
    exact (List.pairwise_append.1 ho).2.1
  have hu : entsOf (upto tk Q) = (entsOf Q).filter fun e => decide (tk.size = 0) || Op.bytesLess e.k.toList tk.toList := by
    by_cases h0 : tk.size = 0
    · rw [upto_all h0]
      symm
      rw [List.filter_eq_self]
      intro e _
      simp [h0]
    · have e1 : upto tk Q = Q.filter fun x => Op.bytesLess x.e.k.toList tk.toList := by
        unfold upto
        rw [if_neg h0]
        apply take_filter
        refine List.Pairwise.imp_of_mem ?_ hqo
        intro x y hx hy hxy h1
        rw [key_less y.e.k tk y.e.s (hf y (hsub y hy)).2.2.2] at h1
        rw [key_less x.e.k tk x.e.s (hf x (hsub x hx)).2.2.2]
        exact decide_eq_true (cmpE_trans _ _ _ _ _ _ hxy (of_decide_eq_true h1))
      rw [e1]
      simp only [h0, decide_false, Bool.false_or]
      unfold entsOf
      rw [List.filter_map]
      rfl
  rw [hu, hq, List.filter_filter]
  apply List.filter_congr
  intro e he
  rw [Bool.and_comm]
theorem memAdd_nil (first : Int) (v : Value) (w : World) : Calls Tryz.prog 10 #[.pointer none, .int .u64 first, v] w fun e w' => e = .returned (.tuple #[.int .u64 0, .int .i64 1]) ∧ w = w' := by
  go_enter Tryz.func10, Tryz.ntmps10
  go_wp2
  refine bodyPost_ret (results_tmp2 rfl _ _ _) rfl ?_
  exact ⟨rfl, rfl⟩
set_option maxHeartbeats 1000000 in
theorem memGet_nil (k : ByteArray) (s : Int) (w : World) : Calls Tryz.prog 12 #[.pointer none, .string k, .int .u64 s] w fun e w' => e = .returned (getV none) ∧ Below w.heap.size w w' := by
  obtain ⟨W, hW⟩ : ∃ W, w.alloc (.cells #[.string ⟨#[]⟩, .int .u64 0, .int .i64 0, .string ⟨#[]⟩] 34) = W := ⟨_, rfl⟩
  have hB : Below w.heap.size w W := by rw [← hW]; exact (Below.refl _ _).alloc (Nat.le_refl _) _
  have hx : Boxe w.heap.size ⟨#[]⟩ 0 0 ⟨#[]⟩ W := by rw [← hW]; exact new_block _ _ rfl
  have d0 := hx.c0
  have d1 := hx.c1
  have d2 := hx.c2
  have d3 := hx.c3
  have t0 := hx.f 0
  have t1 := hx.f 1
  have t2 := hx.f 2
  have t3 := hx.f 3
  go_enter Tryz.func12, Tryz.ntmps12
  go_wp2
  refine bodyPost_ret (v := getV none) (by simp [results, Tryz.results12, go_sem, d0, d1, d2, d3, getV, Ent.zero, Ent.val, ev]) rfl ?_
  exact ⟨rfl, (((hB.setCell (Nat.le_refl _) _).setCell (Nat.le_refl _) _).setCell (Nat.le_refl _) _).setCell (Nat.le_refl _) _⟩
theorem memRange_nil (k tk : ByteArray) (w : World) : Calls Tryz.prog 14 #[.pointer none, .string k, .string tk] w fun e w' => e = .returned (.slice none 0 0) ∧ w = w' := by
  go_enter Tryz.func14, Tryz.ntmps14
  go_wp2
  go_ret
  exact ⟨rfl, rfl⟩
theorem memSize_nil (w : World) : Calls Tryz.prog 18 #[.pointer none] w fun e w' => e = .returned (.int .i64 0) ∧ w = w' := by
  go_enter Tryz.func18, Tryz.ntmps18
  go_wp2
  go_ret
  exact ⟨rfl, rfl⟩
theorem memLen_nil (w : World) : Calls Tryz.prog 20 #[.pointer none] w fun e w' => e = .returned (.int .i64 0) ∧ w = w' := by
  go_enter Tryz.func20, Tryz.ntmps20
  go_wp2
  go_ret
  exact ⟨rfl, rfl⟩
theorem memLast_nil (w : World) : Calls Tryz.prog 21 #[.pointer none] w fun e w' => e = .returned (.int .u64 0) ∧ w = w' := by
  go_enter Tryz.func21, Tryz.ntmps21
  go_wp2
  go_ret
  exact ⟨rfl, rfl⟩
def wA : Wr := ⟨⟨#[97]⟩, ⟨#[]⟩, false⟩
def wD : Wr := ⟨⟨#[97]⟩, ⟨#[]⟩, true⟩
theorem tab_mem {B p : Nat} {ds : List Int} {w : World} (h : Tab B p ds [] 0 0 w) : Mem B p ds [] 0 [] w := ⟨h, by simp [entsOf], rfl, by simp⟩
theorem addAD {B p : Nat} {ds : List Int} {w : World} (h : Mem B p ds [] 0 [] w) (b cap : Nat) (hds : ds.length ≤ 1000000) (hb : b < w.heap.size) (hp : b ≠ p) (hc : ∀ j u, (#[.string ⟨#[97]⟩, .string ⟨#[]⟩, .bool false, .string ⟨#[97]⟩, .string ⟨#[]⟩, .bool true] : Array Value)[j]? = some u → w.cell? ⟨b, j, none⟩ = some u) :
    Calls Tryz.prog 10 #[.pointer (some ⟨p, 0, none⟩), .int .u64 5, .slice (some ⟨b, 0, none⟩) 2 cap] w fun e w' => e = .returned (.tuple #[.int .u64 7, .int .i64 0]) ∧ ∃ ns', Mem B p ds (vers 5 [wA, wD]) 6 ns' w' ∧ Turn (foot p []) w w' ∧ (∀ k ∈ foot p ns', k ∈ foot p [] ∨ w.heap.size ≤ k) ∧ Same13 p w w' := by
  have hy : addOk 0 5 [wA, wD] = true := addOk_of (by decide) (by omega) (by simp)
  have := memAdd_any h 5 (some ⟨b, 0, none⟩) 2 cap [wA, wD] ⟨rfl, .inr ⟨b, 0, rfl, hb, fun i hi j u hu => ?_⟩⟩ (fun x hx => ?_) (fun b' off e _ => ?_) (by omega) (by omega) (by simp) hds (by omega)
  · rw [(addOk_yes hy []).1, (addOk_yes hy []).2.1, (addOk_yes hy []).2.2] at this
    exact this
  · match i, hi with
    | 0, _ =>
      match j, hu with
      | 0, hu => exact (hc 0 _ rfl).trans hu
      | 1, hu => exact (hc 1 _ rfl).trans hu
      | 2, hu => exact (hc 2 _ rfl).trans hu
    | 1, _ =>
      match j, hu with
      | 0, hu => exact (hc 3 _ rfl).trans hu
      | 1, hu => exact (hc 4 _ rfl).trans hu
      | 2, hu => exact (hc 5 _ rfl).trans hu
  · simp at hx
    rcases hx with rfl | rfl <;> exact ⟨by unfold maxLen; decide, by unfold maxLen; decide⟩
  · cases e
    simpa [foot, hd] using hp
theorem versAD : vers 5 [wA, wD] = [⟨⟨#[97]⟩, 5, 1, ⟨#[]⟩⟩, ⟨⟨#[97]⟩, 6, 2, ⟨#[]⟩⟩] := rfl
theorem get5 {B p : Nat} {ds : List Int} {ns : List Nd} {w : World} (h : Mem B p ds (vers 5 [wA, wD]) 6 ns w) :
    Calls Tryz.prog 12 #[.pointer (some ⟨p, 0, none⟩), .string ⟨#[97]⟩, .int .u64 5] w fun e w' => e = .returned (.tuple #[.agg #[.string ⟨#[97]⟩, .int .u64 5, .int .i64 1, .string ⟨#[]⟩], .bool true]) ∧ Below w.heap.size w w' := by
  obtain ⟨P, Q, hc⟩ := cut_of ⟨#[97]⟩ 5 ns h.tab.skp.right.ord
  have hg := get_is (x := ⟨⟨#[97]⟩, 5, 1, ⟨#[]⟩⟩) h.tab.skp.right.ord hc ((h.mem _).2 (by rw [versAD]; simp)) rfl (Int.le_refl _) (fun e he hk hs => hs)
  have := memGet_any h.tab hc
  rw [hg] at this
  exact this
theorem get6 {B p : Nat} {ds : List Int} {ns : List Nd} {w : World} (h : Mem B p ds (vers 5 [wA, wD]) 6 ns w) :
    Calls Tryz.prog 12 #[.pointer (some ⟨p, 0, none⟩), .string ⟨#[97]⟩, .int .u64 6] w fun e w' => e = .returned (.tuple #[.agg #[.string ⟨#[97]⟩, .int .u64 6, .int .i64 2, .string ⟨#[]⟩], .bool true]) ∧ Below w.heap.size w w' := by
  obtain ⟨P, Q, hc⟩ := cut_of ⟨#[97]⟩ 6 ns h.tab.skp.right.ord
  have hg := get_is (x := ⟨⟨#[97]⟩, 6, 2, ⟨#[]⟩⟩) h.tab.skp.right.ord hc ((h.mem _).2 (by rw [versAD]; simp)) rfl (Int.le_refl _) (fun e he hk hs => hs)
  have := memGet_any h.tab hc
  rw [hg] at this
  exact this
theorem size34 {B p : Nat} {ds : List Int} {ns : List Nd} {w : World} (h : Mem B p ds (vers 5 [wA, wD]) 6 ns w) : Calls Tryz.prog 18 #[.pointer (some ⟨p, 0, none⟩)] w fun e w' => e = .returned (.int .i64 34) ∧ w = w' := memSize_any h.tab
theorem len2 {B p : Nat} {ds : List Int} {ns : List Nd} {w : World} (h : Mem B p ds (vers 5 [wA, wD]) 6 ns w) : Calls Tryz.prog 20 #[.pointer (some ⟨p, 0, none⟩)] w fun e w' => e = .returned (.int .i64 2) ∧ w = w' := by
  have := memLen_any h.tab
  rw [h.len] at this
  exact this
theorem last6 {B p : Nat} {ds : List Int} {ns : List Nd} {w : World} (h : Mem B p ds (vers 5 [wA, wD]) 6 ns w) : Calls Tryz.prog 21 #[.pointer (some ⟨p, 0, none⟩)] w fun e w' => e = .returned (.int .u64 6) ∧ w = w' := memLast_any h.tab
set_option maxHeartbeats 4000000 in
set_option maxRecDepth 100000 in
theorem alive8_any (w : World) : Calls Tryz.prog 4 #[] w fun e w' => e = .returned (.bool true) ∧ Below w.heap.size w w' := by
  obtain ⟨W, hW⟩ : ∃ W, w.alloc (.cells #[.int .i64 1, .int .i64 2] 3) = W := ⟨_, rfl⟩
  have hB : Below w.heap.size w W := by rw [← hW]; exact (Below.refl _ _).alloc (Nat.le_refl _) _
  have hI : IntsV W (.slice (some ⟨w.heap.size, 0, none⟩) 2 2) [1, 2] := intsV_plain w.heap.size 0 2 [1, 2] (fun j u hu => by
    rw [← hW]
    match j, hu with
    | 0, hu => exact ncell rfl hu
    | 1, hu => exact ncell rfl hu)
  have CN := Lib.hid (memNew_any _ [1, 2] W hI (by simp))
  have CA := Lib.hid (fun (p b cap : Nat) W' (h : Mem W.heap.size p [1, 2] [] 0 [] W') hb hp hc => addAD h b cap (by simp) hb hp hc)
  have C5 := Lib.hid (fun (p : Nat) ns W' (h : Mem W.heap.size p [1, 2] (vers 5 [wA, wD]) 6 ns W') => get5 h)
  have C6 := Lib.hid (fun (p : Nat) ns W' (h : Mem W.heap.size p [1, 2] (vers 5 [wA, wD]) 6 ns W') => get6 h)
  have CS := Lib.hid (fun (p : Nat) ns W' (h : Mem W.heap.size p [1, 2] (vers 5 [wA, wD]) 6 ns W') => size34 h)
  have CL := Lib.hid (fun (p : Nat) ns W' (h : Mem W.heap.size p [1, 2] (vers 5 [wA, wD]) 6 ns W') => len2 h)
  have CT := Lib.hid (fun (p : Nat) ns W' (h : Mem W.heap.size p [1, 2] (vers 5 [wA, wD]) 6 ns W') => last6 h)
  have HB := Lib.hid hB
  clear hB hI
  go_enter Tryz.func4, Tryz.ntmps4
  go_wp2_with fail
  (with_reducible refine CN.out.mono ?_)
  rintro e w1 ⟨p, rfl, ht, hb1⟩
  clear hW
  have H1 := Lib.hid (tab_mem ht)
  have HB1 := Lib.hid hb1
  have hp1 := ht.hdlt
  have hpB := ht.base
  clear ht hb1
  have hb2 : Below w1.heap.size w1 (w1.alloc (.cells #[.string ⟨#[97]⟩, .string ⟨#[]⟩, .bool false, .string ⟨#[97]⟩, .string ⟨#[]⟩, .bool true] 82)) := (Below.refl _ _).alloc (Nat.le_refl _) _
  have HB2 := Lib.hid hb2
  clear hb2
  go_wp2_with fail
  (with_reducible refine (CA.out p _ _ _ (H1.out.below HB2.out) (by simp) (by omega) (fun j u hu => ncell rfl hu)).mono ?_)
  rintro e w2 ⟨rfl, ns, hm2, ht2, -⟩
  have H2 := Lib.hid hm2
  have HT2 := Lib.hid ht2
  clear hm2 ht2
  go_wp2_with fail
  (with_reducible refine (C5.out p ns _ H2.out).mono ?_)
  rintro e w3 ⟨rfl, hb3⟩
  have H3 := Lib.hid (H2.out.below hb3)
  have HB3 := Lib.hid hb3
  clear hb3
  go_wp2_with fail
  obtain ⟨W4, hW4⟩ : ∃ W4, w3.alloc (.cells #[.string ⟨#[97]⟩, .int .u64 5, .int .i64 1, .string ⟨#[]⟩] 34) = W4 := ⟨_, rfl⟩
  have hb4 : Below w3.heap.size w3 W4 := by rw [← hW4]; exact (Below.refl _ _).alloc (Nat.le_refl _) _
  have hx4 : Boxe w3.heap.size ⟨#[97]⟩ 5 1 ⟨#[]⟩ W4 := by rw [← hW4]; exact new_block _ _ rfl
  have H4 := Lib.hid (H3.out.below hb4)
  have HB4 := Lib.hid hb4
  have HX4 := Lib.hid hx4
  rw [hW4]
  clear hb4 hx4 hW4
  (with_reducible refine (C6.out p ns _ H4.out).mono ?_)
  rintro e w5 ⟨rfl, hb5⟩
  have H5 := Lib.hid (H4.out.below hb5)
  have HX5 := Lib.hid (HX4.out.below hb5)
  have HB5 := Lib.hid hb5
  clear hb5
  go_upto_region 7 with fail
  obtain ⟨W6, hW6⟩ : ∃ W6, w5.alloc (.cells #[.string ⟨#[97]⟩, .int .u64 6, .int .i64 2, .string ⟨#[]⟩] 34) = W6 := ⟨_, rfl⟩
  have hb6 : Below w5.heap.size w5 W6 := by rw [← hW6]; exact (Below.refl _ _).alloc (Nat.le_refl _) _
  have hx6 : Boxe w5.heap.size ⟨#[97]⟩ 6 2 ⟨#[]⟩ W6 := by rw [← hW6]; exact new_block _ _ rfl
  have H6 := Lib.hid (H5.out.below hb6)
  have hx5 := HX5.out.below hb6
  have k1 := hx5.c1
  have k2 := hx6.c2
  have HB6 := Lib.hid hb6
  rw [hW6]
  clear hb6 hx6 hx5 hW6
  go_wp2_with (first | (go_at_call 18; (with_reducible refine (CS.out p ns _ H6.out).mono ?_); rintro e w7 ⟨rfl, rfl⟩) | (go_at_call 20; (with_reducible refine (CL.out p ns _ H6.out).mono ?_); rintro e w7 ⟨rfl, rfl⟩) | (go_at_call 21; (with_reducible refine (CT.out p ns _ H6.out).mono ?_); rintro e w7 ⟨rfl, rfl⟩) | fail)
  go_ret
  refine ⟨rfl, ?_⟩
  have s0 := HB.out.size
  have s1 := HB1.out.size
  have s2 := HB2.out.size
  have s3 := HT2.out.size
  have s4 := HB3.out.size
  have s5 := HB4.out.size
  have s6 := HB5.out.size
  have hb1 : Below w.heap.size w w1 := HB.out.trans (HB1.out.mono s0)
  have hb2 := hb1.trans (HB2.out.mono (by omega))
  have hb3 := hb2.trans (HT2.out.below (by omega) (fun k hk => by simp [foot, hd] at hk; omega))
  have hb4 := hb3.trans (HB3.out.mono (by omega))
  have hb5 := hb4.trans (HB4.out.mono (by omega))
  have hb6 := hb5.trans (HB5.out.mono (by omega))
  exact hb6.trans (HB6.out.mono (by omega))
end Go.Proofs.YthaalhigmihijabGreat

namespace Go.Proofs.YthaalhigmihijabGreat
open Go.RowKit

section
variable {B p q sz la la' : Nat} {ds es : List Int} {ns ns' ms ms' : List Nd} {L L' : List Ent} {w w1 w2 : World}
theorem Tab.drlt (h : Tab B p ds ns sz la w) : ∀ v b, w.cell? ⟨p, 13, none⟩ = some v → ob v = some b → b < w.heap.size := by
  intro v b hv hb
  obtain ⟨v', h1, h2, -⟩ := h.dr
  rw [h1] at hv
  cases hv
  exact h2.lt b hb
theorem Tab.turned {F : List Nat} (h : Tab B p ds ns sz la w) (ht : Turn F w w1) (hF : ∀ k ∈ foot p ns, k ∉ F) (hv : ∀ v b, w.cell? ⟨p, 13, none⟩ = some v → ob v = some b → b ∉ F) : Tab B p ds ns sz la w1 := by
  have hp : p ∉ F := hF p (by simp [foot, hd])
  refine ⟨h.skp.turned ht hF, ?_, (ht.cell h.hdlt hp).trans h.size, (ht.cell h.hdlt hp).trans h.last⟩
  obtain ⟨v, h1, h2, h3⟩ := h.dr
  exact ⟨v, (ht.cell h.hdlt hp).trans h1, h2.kept fun k hk => ht.block k (h2.lt k hk) (hv v k h1 hk), h3⟩
theorem Mem.turned {F : List Nat} (h : Mem B p ds L la ns w) (ht : Turn F w w1) (hF : ∀ k ∈ foot p ns, k ∉ F) (hv : ∀ v b, w.cell? ⟨p, 13, none⟩ = some v → ob v = some b → b ∉ F) : Mem B p ds L la ns w1 :=
  ⟨h.tab.turned ht hF hv, h.mem, h.len, h.old⟩
/-- Two tables of the same versions, apart. -/
structure Two (B p q : Nat) (ds es : List Int) (L : List Ent) (la : Nat) (ns ms : List Nd) (w : World) : Prop where
  one : Mem B p ds L la ns w
  two : Mem B q es L la ms w
  sep : ∀ k ∈ foot p ns, k ∉ foot q ms
  drp : ∀ v b, w.cell? ⟨p, 13, none⟩ = some v → ob v = some b → b ∉ foot q ms
  drq : ∀ v b, w.cell? ⟨q, 13, none⟩ = some v → ob v = some b → b ∉ foot p ns
theorem Two.below (h : Two B p q ds es L la ns ms w) (hb : Below w.heap.size w w1) : Two B p q ds es L la ns ms w1 :=
  ⟨h.one.below hb, h.two.below hb, h.sep, fun v b hv => h.drp v b (by rw [← hv]; exact (hb.cell (p := ⟨p, 13, none⟩) h.one.tab.hdlt).symm), fun v b hv => h.drq v b (by rw [← hv]; exact (hb.cell (p := ⟨q, 13, none⟩) h.two.tab.hdlt).symm)⟩
theorem Two.mid (h : Two B p q ds es L la ns ms w) (t1 : Turn (foot p ns) w w1) : Mem B q es L la ms w1 :=
  h.two.turned t1 (fun k hk hn => h.sep k hn hk) h.drq
theorem Two.step (h : Two B p q ds es L la ns ms w) (h1 : Mem B p ds L' la' ns' w1) (t1 : Turn (foot p ns) w w1) (f1 : ∀ k ∈ foot p ns', k ∈ foot p ns ∨ w.heap.size ≤ k) (s1 : Same13 p w w1) (h2 : Mem B q es L' la' ms' w2) (t2 : Turn (foot q ms) w1 w2) (f2 : ∀ k ∈ foot q ms', k ∈ foot q ms ∨ w1.heap.size ≤ k) (s2 : Same13 q w1 w2) : Two B p q ds es L' la' ns' ms' w2 := by
  have hpq : p ∉ foot q ms := h.sep p (by simp [foot, hd])
  have hqp : q ∉ foot p ns := fun hn => h.sep q hn (by simp [foot, hd])
  have hsep : ∀ k ∈ foot p ns', k ∉ foot q ms := fun k hk hq => by
    rcases f1 k hk with h3 | h3
    · exact h.sep k h3 hq
    · have := h.two.tab.skp.lst.lt k hq
      omega
  have c13 : ∀ v, w1.cell? ⟨p, 13, none⟩ = some v → w.cell? ⟨p, 13, none⟩ = some v := fun v hv => Eq.trans (Eq.symm s1) hv
  have e13 : w2.cell? ⟨p, 13, none⟩ = w1.cell? ⟨p, 13, none⟩ := t2.cell h1.tab.hdlt hpq
  have eq13 : w2.cell? ⟨q, 13, none⟩ = w.cell? ⟨q, 13, none⟩ := Eq.trans s2 (t1.cell h.two.tab.hdlt hqp)
  refine ⟨h1.turned t2 hsep (fun v b hv => h.drp v b (c13 v hv)), h2, fun k hk hq => ?_, fun v b hv hb hq => ?_, fun v b hv hb hq => ?_⟩
  · rcases f2 k hq with h3 | h3
    · exact hsep k hk h3
    · have := h1.tab.skp.lst.lt k hk
      omega
  · rw [e13] at hv
    have hv' := c13 v hv
    rcases f2 b hq with h3 | h3
    · exact h.drp v b hv' hb h3
    · have := h.one.tab.drlt v b hv' hb
      have := t1.size
      omega
  · rw [eq13] at hv
    rcases f1 b hq with h3 | h3
    · exact h.drq v b hv hb h3
    · have := h.two.tab.drlt v b hv hb
      omega
theorem Two.same (h : Two B p q ds es L la ns ms w) : entsOf ns = entsOf ms :=
  sorted_ext _ _ (ents_ord h.one.tab.skp.right.ord) (ents_ord h.two.tab.skp.right.ord) (fun e => (h.one.mem e).trans (h.two.mem e).symm)
end
theorem less_trans {a b c : List UInt8} (h1 : Op.bytesLess a b = true) (h2 : Op.bytesLess b c = true) : Op.bytesLess a c = true := by
  rw [less_cb] at *
  exact decide_eq_true (cb_trans _ _ _ (of_decide_eq_true h1) (of_decide_eq_true h2))
theorem le_less {a b c : List UInt8} (h1 : Op.bytesLess b a = false) (h2 : Op.bytesLess b c = true) : Op.bytesLess a c = true := by
  rcases cb_vals a b with h | h | h
  · exact less_trans (by rw [less_cb]; exact decide_eq_true h) h2
  · rw [cb_eq a b h]
    exact h2
  · rw [less_cb] at h1
    have := cb_swap a b
    rw [h] at this
    exact absurd this (of_decide_eq_false h1)
theorem less_le {a b c : List UInt8} (h1 : Op.bytesLess a b = true) (h2 : Op.bytesLess c b = false) : Op.bytesLess a c = true := by
  rcases cb_vals b c with h | h | h
  · exact less_trans h1 (by rw [less_cb]; exact decide_eq_true h)
  · rw [← cb_eq b c h]
    exact h1
  · rw [less_cb] at h2
    have := cb_swap b c
    rw [h] at this
    exact absurd this (of_decide_eq_false h2)
theorem le_le {a b c : List UInt8} (h1 : Op.bytesLess b a = false) (h2 : Op.bytesLess c b = false) : Op.bytesLess c a = false := by
  cases h : Op.bytesLess c a with
  | false => rfl
  | true =>
    rw [less_le h h1] at h2
    cases h2
/-- A range in two parts is the range of all. -/
theorem range_parts {l : List Ent} (hl : l.Pairwise ltE) (f m t : ByteArray) (hm : m.size ≠ 0) (ht : t.size ≠ 0) (hfm : Op.bytesLess m.toList f.toList = false) (hmt : Op.bytesLess t.toList m.toList = false) :
    (l.filter fun e => !(Op.bytesLess e.k.toList f.toList) && (decide (m.size = 0) || Op.bytesLess e.k.toList m.toList)) ++ (l.filter fun e => !(Op.bytesLess e.k.toList m.toList) && (decide (t.size = 0) || Op.bytesLess e.k.toList t.toList)) = l.filter fun e => !(Op.bytesLess e.k.toList f.toList) && (decide (t.size = 0) || Op.bytesLess e.k.toList t.toList) := by
  simp only [hm, ht, decide_false, Bool.false_or]
  apply sorted_ext
  · rw [List.pairwise_append]
    refine ⟨hl.filter _, hl.filter _, fun x hx y hy => ?_⟩
    simp only [List.mem_filter, Bool.and_eq_true, Bool.not_eq_true'] at hx hy
    have hxy := less_le hx.2.2 hy.2.1
    rw [ByteArray.toList_eq, ByteArray.toList_eq, less_cb] at hxy
    have h1 := of_decide_eq_true hxy
    unfold ltE cmpE
    rw [if_neg (by rw [h1]; decide)]
    exact h1
  · exact hl.filter _
  · intro e
    simp only [List.mem_append, List.mem_filter, Bool.and_eq_true, Bool.not_eq_true']
    constructor
    · rintro (⟨h1, h2, h3⟩ | ⟨h1, h2, h3⟩)
      · exact ⟨h1, h2, less_le h3 hmt⟩
      · exact ⟨h1, le_le hfm h2, h3⟩
    · rintro ⟨h1, h2, h3⟩
      cases h4 : Op.bytesLess e.k.toList m.toList with
      | true => exact .inl ⟨h1, h2, rfl⟩
      | false => exact .inr ⟨h1, rfl, h3⟩
end Go.Proofs.YthaalhigmihijabGreat
