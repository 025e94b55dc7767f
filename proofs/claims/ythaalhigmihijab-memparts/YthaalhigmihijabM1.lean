/- mem: a table in memory; New, level, version. -/
import Derived.Test.YthaalhigmihijabYD
import Derived.Test.YthaalhigmihijabMC
import Derived.Test.YthaalhigmihijabMS
namespace Go.Proofs.Ythaalhigmihijab
open Go.RowKit

/-- At p lies a table of the nodes ns, of these draws, size and last number, all of it from block B on. -/
structure Tab (B p : Nat) (ds : List Int) (ns : List Nd) (sz la : Nat) (w : World) : Prop where
  skp : Skp B p ns w
  dr : ∃ v, w.cell? ⟨p, 13, none⟩ = some v ∧ Row w 3 1 v ds.length (cellsI ds) ∧ ∀ b, ob v = some b → B ≤ b ∧ b ∉ foot p ns
  size : w.cell? ⟨p, 14, none⟩ = some (.int .i64 (sz : Int))
  last : w.cell? ⟨p, 15, none⟩ = some (.int .u64 (la : Int))
section
variable {B p sz la : Nat} {ds : List Int} {ns : List Nd} {w w' : World}
theorem Tab.hdlt (h : Tab B p ds ns sz la w) : p < w.heap.size := h.skp.lst.hdlt
theorem Tab.below (h : Tab B p ds ns sz la w) (hb : Below w.heap.size w w') : Tab B p ds ns sz la w' := by
  refine ⟨h.skp.below hb, ?_, (hb.cell (p := ⟨p, 14, none⟩) h.hdlt).trans h.size, (hb.cell (p := ⟨p, 15, none⟩) h.hdlt).trans h.last⟩
  obtain ⟨v, h1, h2, h3⟩ := h.dr
  exact ⟨v, (hb.cell (p := ⟨p, 13, none⟩) h.hdlt).trans h1, h2.kept fun k hk => hb.block k (h2.lt k hk), h3⟩
theorem Tab.drew (h : Tab B p ds ns sz la w) : Tab B p ds ns sz la w.drew := ⟨h.skp.drew, h.dr, h.size, h.last⟩
theorem Tab.warm (h : Tab B p ds ns sz la w) (j : Nat) : w.frozen? ⟨p, j, none⟩ = false := (h.skp.lst.chain [] (hd p) _ rfl).warm j
theorem Tab.base (h : Tab B p ds ns sz la w) : B ≤ p := h.skp.base p (by simp [foot, hd])
end
theorem lst_tab {p : Nat} {v : Value} {w : World} (h : w.heap[p]? = some (.cells #[.string ⟨#[]⟩, .int .u64 0, .int .i64 0, .string ⟨#[]⟩, .pointer none, .pointer none, .pointer none, .pointer none, .pointer none, .pointer none, .pointer none, .pointer none, .int .i64 0, v, .int .i64 0, .int .u64 0] 77)) : Lst p 0 [] w ∧ w.cell? ⟨p, 13, none⟩ = some v ∧ w.cell? ⟨p, 14, none⟩ = some (.int .i64 0) ∧ w.cell? ⟨p, 15, none⟩ = some (.int .u64 0) := by
  have hc : ∀ j u, (#[.string ⟨#[]⟩, .int .u64 0, .int .i64 0, .string ⟨#[]⟩, .pointer none, .pointer none, .pointer none, .pointer none, .pointer none, .pointer none, .pointer none, .pointer none, .int .i64 0, v, .int .i64 0, .int .u64 0] : Array Value)[j]? = some u → w.cell? ⟨p, j, none⟩ = some u := fun j u hu => by
    simp only [World.cell?, h]
    exact hu
  refine ⟨⟨fun pre n r e => ?_, hc 12 _ rfl, by simp, by simp [foot]⟩, hc 13 _ rfl, hc 14 _ rfl, hc 15 _ rfl⟩
  cases pre with
  | cons a b => simp at e
  | nil =>
    simp only [List.nil_append, List.cons.injEq] at e
    obtain ⟨rfl, rfl⟩ := e
    refine ⟨fun j u hu => ?_, fun i hi => ?_, fun j => by simp [World.frozen?, hd, h]⟩
    · match j, hu with
      | 0, hu => exact (hc 0 _ rfl).trans hu
      | 1, hu => exact (hc 1 _ rfl).trans hu
      | 2, hu => exact (hc 2 _ rfl).trans hu
      | 3, hu => exact (hc 3 _ rfl).trans hu
    · rw [if_pos (show i < (hd p).l from hi)]
      match i, hi with
      | 0, _ => exact hc 4 _ rfl
      | 1, _ => exact hc 5 _ rfl
      | 2, _ => exact hc 6 _ rfl
      | 3, _ => exact hc 7 _ rfl
      | 4, _ => exact hc 8 _ rfl
      | 5, _ => exact hc 9 _ rfl
      | 6, _ => exact hc 10 _ rfl
      | 7, _ => exact hc 11 _ rfl
theorem tab_new {B p : Nat} {v : Value} {ds : List Int} {w : World} (h : w.heap[p]? = some (.cells #[.string ⟨#[]⟩, .int .u64 0, .int .i64 0, .string ⟨#[]⟩, .pointer none, .pointer none, .pointer none, .pointer none, .pointer none, .pointer none, .pointer none, .pointer none, .int .i64 0, v, .int .i64 0, .int .u64 0] 77)) (hB : B ≤ p) (hr : Row w 3 1 v ds.length (cellsI ds)) (ho : ∀ b, ob v = some b → B ≤ b ∧ b ≠ p) : Tab B p ds [] 0 0 w := by
  obtain ⟨h1, h2, h3, h4⟩ := lst_tab h
  refine ⟨⟨h1, ⟨by simp, List.Pairwise.nil, by simp⟩, fun k hk => by simp [foot, hd] at hk; omega⟩, ⟨v, h2, hr, fun b hb => ⟨(ho b hb).1, ?_⟩⟩, h3, h4⟩
  have := (ho b hb).2
  simpa [foot, hd] using this
set_option maxHeartbeats 1000000 in
set_option maxRecDepth 100000 in
theorem memNew_any (v : Value) (ds : List Int) (w : World) (h : IntsV w v ds) (hn : ds.length ≤ 1000000) :
    Calls Try.prog 26 #[v] w fun e w' => ∃ p, e = .returned (.pointer (some ⟨p, 0, none⟩)) ∧ Tab w.heap.size p ds [] 0 0 w' ∧ Below w.heap.size w w' := by
  have C := Lib.hid (scloneI_any v ds w h (by omega))
  clear h
  go_enter Try.func26, Try.ntmps26
  go_wp2_with (first | (go_at_call 39; (with_reducible refine C.out.mono ?_); rintro e w1 ⟨v', rfl, hr, hb, ho⟩; obtain ⟨a', c', rfl, -, -⟩ := hr.le) | fail)
  go_ret
  have hb2 : Below w1.heap.size w1 (w1.alloc (.cells #[.string ⟨#[]⟩, .int .u64 0, .int .i64 0, .string ⟨#[]⟩, .pointer none, .pointer none, .pointer none, .pointer none, .pointer none, .pointer none, .pointer none, .pointer none, .int .i64 0, .slice a' ds.length c', .int .i64 0, .int .u64 0] 77)) := (Below.refl _ _).alloc (Nat.le_refl _) _
  refine ⟨w1.heap.size, rfl, tab_new (new_block _ _ rfl) hb.size (hr.kept fun k hk => hb2.block k (hr.lt k hk)) (fun b h1 => ⟨ho b h1, ?_⟩), hb.trans (hb2.mono hb.size)⟩
  have := hr.lt b h1
  omega
/-- The level of the next version. -/
def drawAt (ds : List Int) (c : Nat) : Int := if ds.length = 0 then 1 else ds.getD (c % ds.length) 0
set_option maxHeartbeats 2000000 in
set_option maxRecDepth 100000 in
theorem level_any {B p sz la : Nat} {ds : List Int} {ns : List Nd} {w : World} (h : Tab B p ds ns sz la w) (hl : ns.length ≤ 1000000) (hds : ds.length ≤ 1000000) :
    Calls Try.prog 51 #[.pointer (some ⟨p, 0, none⟩)] w fun e w' => e = .returned (.int .i64 (drawAt ds ns.length)) ∧ Below w.heap.size w w' := by
  obtain ⟨v, hv, hr, -⟩ := h.dr
  have CL := Lib.hid (fun W (h' : Lst p ns.length ns W) => len_any h')
  have HL := Lib.hid h.skp.lst
  obtain ⟨a, cap, rfl, -, -⟩ := hr.le
  by_cases h0 : ds.length = 0
  · have HD := Lib.hid (show drawAt ds ns.length = 1 from if_pos h0)
    rw [h0] at hv
    clear h hr h0 hds
    go_enter Try.func51, Try.ntmps51
    go_wp2
    go_ret
    exact ⟨by rw [HD.out]; rfl, Below.refl _ _⟩
  · have hpos : 0 < ds.length := by omega
    have hmod : ns.length % ds.length < ds.length := Nat.mod_lt _ hpos
    obtain ⟨b, o, ha, hcd⟩ : ∃ b o, a = some ⟨b, o, none⟩ ∧ w.cell? ⟨b, o + ns.length % ds.length, none⟩ = some (.int .i64 (drawAt ds ns.length)) := by
      rcases hr.2 with ⟨h1, -⟩ | ⟨g, c, cur, hv', -⟩
      · omega
      · cases hv'
        refine ⟨g, 0, rfl, hr.cell g 0 _ rfl _ _ ?_⟩
        unfold drawAt cellsI
        rw [if_neg h0, List.getElem?_map, List.getElem?_eq_getElem hmod, List.getD_eq_getElem?_getD, List.getElem?_eq_getElem hmod]
        rfl
    subst ha
    generalize drawAt ds ns.length = z at hcd ⊢
    have hlen0 : ((ds.length : Int) == 0) = false := by rw [beq_eq_false_iff_ne]; omega
    have w1 : IntKind.u64.wrap (ns.length : Int) = (ns.length : Int) := by rw [IntKind.wrap_u64]; omega
    have w2 : IntKind.u64.wrap (ds.length : Int) = (ds.length : Int) := by rw [IntKind.wrap_u64]; omega
    have hrem : (ns.length : Int).tmod (ds.length : Int) = ((ns.length % ds.length : Nat) : Int) := by
      rw [Int.tmod_eq_emod_of_nonneg (by omega)]
      simp
    clear h hr h0
    generalize ns.length % ds.length = r at *
    generalize ds.length = L at *
    generalize ns.length = c at *
    have hL0 : ¬ L = 0 := by omega
    have hrL : (r : Int) < (L : Int) := by omega
    go_enter Try.func51, Try.ntmps51
    go_wp2
    go_region_held3 (fun w' => w'.cell? ⟨p, 13, none⟩ = some (.slice (some ⟨b, o, none⟩) L cap) ∧ w'.cell? ⟨b, o + r, none⟩ = some (.int .i64 z)) (first | go_keep | exact ⟨hv, hcd⟩) (first | (go_at_call 16; (with_reducible refine (CL.out _ HL.out.drew).mono ?_); rintro e w2 ⟨rfl, rfl⟩) | fail)
    all_goals go_wp2
    all_goals go_ret
    all_goals exact ⟨rfl, (Below.refl _ _).drew⟩
set_option maxHeartbeats 1000000 in
set_option maxRecDepth 100000 in
theorem version_any (K V : ByteArray) (D : Bool) (s : Int) (w : World) :
    Calls Try.prog 38 #[.agg #[.string K, .string V, .bool D], .int .u64 s] w fun e w' => e = .returned (ev K s (if D then 2 else 1) V) ∧ Below w.heap.size w w' := by
  cases D with
  | false =>
    go_enter Try.func38, Try.ntmps38
    go_wp2
    have c0 := fun j v (hj : (#[Value.string K, Value.int IntKind.u64 s, Value.int IntKind.i64 1, Value.string V] : Array Value)[j]? = some v) => ncell (W := w.alloc (Obj.cells #[Value.string K, Value.string V, Value.bool false] 52)) (t := 30) (n := w.heap.size + 1) (j := j) (v := v) (by simp) hj
    have d0 := c0 0 _ rfl
    have d1 := c0 1 _ rfl
    have d2 := c0 2 _ rfl
    have d3 := c0 3 _ rfl
    refine bodyPost_ret (v := ev K s 1 V) (by simp [results, Try.results38, go_sem, d0, d1, d2, d3, ev]) rfl ?_
    exact ⟨rfl, ((Below.refl _ _).alloc (Nat.le_refl _) _).alloc (by simp) _⟩
  | true =>
    go_enter Try.func38, Try.ntmps38
    go_wp2
    have c0 := fun j v (hj : (#[Value.string K, Value.int IntKind.u64 s, Value.int IntKind.i64 2, Value.string V] : Array Value)[j]? = some v) => ncell (W := w.alloc (Obj.cells #[Value.string K, Value.string V, Value.bool true] 52)) (t := 30) (n := w.heap.size + 1) (j := j) (v := v) (by simp) hj
    have d0 := c0 0 _ rfl
    have d1 := c0 1 _ rfl
    have d2 := c0 2 _ rfl
    have d3 := c0 3 _ rfl
    refine bodyPost_ret (v := ev K s 2 V) (by simp [results, Try.results38, go_sem, d0, d1, d2, d3, ev]) rfl ?_
    exact ⟨rfl, ((Below.refl _ _).alloc (Nat.le_refl _) _).alloc (by simp) _⟩
end Go.Proofs.Ythaalhigmihijab
