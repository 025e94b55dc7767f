/- RE N8 N9 N7 in one -/
import Derived.Test.YtmcgfafkggannaaGreatRA
import Derived.Test.YtmcgfafkggannaaGreatT12A
import Derived.Deep.RegionHeld3
namespace Go.Proofs.YtmcgfafkggannaaGreat
open Go.RowKit

def rdE (l : List UInt8) (e : Int) : Int := if e ≠ 0 then e else if l.length = 0 then 0 else 4
set_option maxHeartbeats 2000000 in
theorem rr_end {w : World} {b : Nat} {l : List UInt8} {e : Int} (h : Rdr w b l e) :
    Calls Tryz.prog 48 #[.pointer (some ⟨b, 0, none⟩)] w fun x w' => x = .returned (.int .i64 (rdE l e)) ∧ w = w' := by
  by_cases he : e = 0
  · subst he
    obtain ⟨s, hi, rfl, hs⟩ := h.at
    have c0 := hi.c0
    have c1 := hi.c1
    by_cases hz : s.size = 0
    · have hr : rdE s.data.toList 0 = 0 := by unfold rdE; rw [if_neg (by simp), if_pos (by rw [len_data']; exact hz)]
      rw [hr]
      have dz : decide (0 < (s.size : Int)) = false := decide_eq_false (by omega)
      have dz2 : decide (0 < s.size) = false := decide_eq_false (by omega)
      clear hi h hz hr
      go_enter Tryz.func48, Tryz.ntmps48
      go_wp2
      go_ret
      exact ⟨rfl, rfl⟩
    · have hr : rdE s.data.toList 0 = 4 := by unfold rdE; rw [if_neg (by simp), if_neg (by rw [len_data']; exact hz)]
      rw [hr]
      have dz : decide (0 < (s.size : Int)) = true := decide_eq_true (by omega)
      have dz2 : decide (0 < s.size) = true := decide_eq_true (by omega)
      have dz3 : 0 < s.size := by omega
      clear hi h hz hr
      go_enter Tryz.func48, Tryz.ntmps48
      go_wp2
      go_ret
      exact ⟨rfl, rfl⟩
  · have hr : rdE l e = e := by unfold rdE; rw [if_pos he]
    rw [hr]
    obtain ⟨s, hi, -⟩ := id h
    have c1 := hi.c1
    have hd : (e != 0) = true := by simpa using he
    clear hi he hr
    go_enter Tryz.func48, Tryz.ntmps48
    go_wp2
    go_ret
    exact ⟨rfl, rfl⟩
end Go.Proofs.YtmcgfafkggannaaGreat

namespace Go.Proofs.YtmcgfafkggannaaGreat
open Go.RowKit Go.Shelf

set_option maxHeartbeats 4000000 in
set_option maxRecDepth 100000 in
theorem rreadInt_any {w : World} {b : Nat} {l : List UInt8} {e : Int} (h : Rdr w b l e) :
    Calls Tryz.prog 44 #[.pointer (some ⟨b, 0, none⟩)] w fun x w' => x = .returned (.int .i64 ((rdI l e).1 : Int)) ∧ Rdr w' b (rdI l e).2.1 (rdI l e).2.2 ∧ w.grownBy w' (some b) := by
  have C1 := Lib.hid (rr_var h)
  have HZ := Lib.hid (rdV_zero (l := l) (e := e))
  unfold rdI
  generalize rdV l e = R at *
  obtain ⟨v, l1, e1⟩ := R
  simp only at C1 HZ ⊢
  by_cases hv : 4611686018427387904 < v
  · rw [if_pos hv]
    obtain rfl : e1 = 0 := HZ.out (by omega)
    have d1 : decide ((4611686018427387904 : Int) < (v : Int)) = true := by simp; omega
    clear hv h
    go_enter Tryz.func44, Tryz.ntmps44
    go_wp2_with fail
    go_at_call 45
    (with_reducible refine C1.out.mono ?_)
    rintro _ w1 ⟨rfl, hr1, hg1⟩
    obtain ⟨s, hs, hsl, hsz⟩ := hr1.at
    have C2 := Lib.hid (rrfail_any b s 4 w1 hs)
    have HF := Lib.hid (show Rdr (w1.setCell ⟨b, 1, none⟩ (.int .i64 4)) b l1 4 from Rdr.of (hs.setErr 4) (fun h => absurd (show (4 : Int) = 0 from h) (by decide)) hsz)
    have HG := Lib.hid (grownBy_trans hg1 (grownBy_set w1 b 1 (.int .i64 4)))
    have q1 := hs.c1
    have q2 := (hs.setErr 4).c1
    clear hr1 hg1 hs hsl hsz
    go_wp2_with (go_at_call 126; (with_reducible refine C2.out.mono ?_); rintro _ w2 ⟨⟨vv, rfl⟩, rfl⟩)
    go_ret
    exact ⟨rfl, HF.out, HG.out⟩
  · rw [if_neg hv]
    have d1 : decide ((4611686018427387904 : Int) < (v : Int)) = false := by simp; omega
    have hw : IntKind.i64.wrap (v : Int) = (v : Int) := by rw [IntKind.wrap_i64]; omega
    clear h
    go_enter Tryz.func44, Tryz.ntmps44
    go_wp2_with fail
    go_at_call 45
    (with_reducible refine C1.out.mono ?_)
    rintro _ w1 ⟨rfl, hr1, hg1⟩
    have HF := Lib.hid hr1
    have HG := Lib.hid hg1
    obtain ⟨s, hs, -, -⟩ := hr1
    have q1 := hs.c1
    clear hg1 hs
    by_cases he : e1 = 0
    · subst he
      clear hv
      go_wp2_with fail
      go_ret
      exact ⟨rfl, HF.out, HG.out⟩
    · have hv0 : v = 0 := by
        rcases Nat.eq_zero_or_pos v with h | h
        · exact h
        · exact absurd (HZ.out h) he
      subst hv0
      have de : (e1 == 0) = false := by simpa using he
      clear hv he
      go_wp2_with fail
      go_ret
      exact ⟨rfl, HF.out, HG.out⟩
/-- Where Get stands: its result's block, the reader, the edit, and the edit's lists. -/
structure GS (w0 : World) (l : List UInt8) (e : Int) (log next : Int) (seq : Nat) (A : List Tb) (D : List Int) (va vd : Value) (w : World) : Prop where
  z : BoxRE w0.heap.size 0 0 0 (.slice none 0 0) (.slice none 0 0) w
  r : Rdr w (w0.heap.size + 1) l e
  x : BoxRE (w0.heap.size + 2) log next seq va vd w
  ra : RowB w va A
  rd : RowN w vd D
  oa : ∀ k, ob va = some k → w0.heap.size + 3 ≤ k
  od : ∀ k, ob vd = some k → w0.heap.size + 3 ≤ k
  na : ∀ k, ob va = some k → ob vd ≠ some k
  b : Below w0.heap.size w0 w
section
variable {w0 w w' : World} {l l' : List UInt8} {e e' : Int} {log next : Int} {seq : Nat} {A : List Tb} {D : List Int} {va vd : Value}
theorem GS.keep (h : GS w0 l e log next seq A D va vd w) (hk : ∀ k, k < w.heap.size → k ≠ w0.heap.size + 1 → w'.heap[k]? = w.heap[k]?) (hr : Rdr w' (w0.heap.size + 1) l' e') (hb : Below w0.heap.size w0 w') : GS w0 l' e' log next seq A D va vd w' :=
  ⟨(hk _ h.z.lt (by omega)).trans h.z, hr, (hk _ h.x.lt (by omega)).trans h.x, Row.kept h.ra (fun k q => hk k (Row.lt h.ra k q) (by have := h.oa k q; omega)), Row.kept h.rd (fun k q => hk k (Row.lt h.rd k q) (by have := h.od k q; omega)), h.oa, h.od, h.na, hb⟩
theorem GS.grown (h : GS w0 l e log next seq A D va vd w) (hg : w.grownBy w' (some (w0.heap.size + 1))) (hr : Rdr w' (w0.heap.size + 1) l' e') : GS w0 l' e' log next seq A D va vd w' :=
  h.keep (fun k hk hn => hg.block k hk (fun q => hn (by cases q; rfl))) hr (below_rowT h.b (Nat.le_refl _) hg (fun k q => by cases q; omega))
theorem GS.below (h : GS w0 l e log next seq A D va vd w) (hb : Below w.heap.size w w') : GS w0 l e log next seq A D va vd w' :=
  h.keep (fun k hk _ => hb.block k hk) (h.r.below hb h.r.lt) (h.b.trans (hb.mono h.b.size))
theorem GS.other (h : GS w0 l e log next seq A D va vd w) (X o : Nat) (u : Value) (hX : w0.heap.size + 3 ≤ X) (h1 : ob va ≠ some X) (h2 : ob vd ≠ some X) : GS w0 l e log next seq A D va vd (w.setCell ⟨X, o, none⟩ u) := by
  have hk : ∀ k, k ≠ X → (w.setCell ⟨X, o, none⟩ u).heap[k]? = w.heap[k]? := fun k hk => heap_setCell_other w ⟨X, o, none⟩ k u hk
  exact ⟨(hk _ (by omega)).trans h.z, h.r.setOther (by omega), (hk _ (by omega)).trans h.x, Row.kept h.ra (fun k q => hk k (fun e => h1 (e ▸ q))), Row.kept h.rd (fun k q => hk k (fun e => h2 (e ▸ q))), h.oa, h.od, h.na, h.b.setCell (p := ⟨X, o, none⟩) (by show w0.heap.size ≤ X; omega) u⟩
theorem GS.st (h : GS w0 l e log next seq A D va vd w) (o : Nat) (u : Value) {log' next' : Int} {seq' : Nat} (he : #[Value.int .i64 log, .int .i64 next, .int .u64 (seq : Int), va, vd].setIfInBounds o u = #[.int .i64 log', .int .i64 next', .int .u64 (seq' : Int), va, vd]) : GS w0 l e log' next' seq' A D va vd (w.setCell ⟨w0.heap.size + 2, o, none⟩ u) := by
  have hk : ∀ k, k ≠ w0.heap.size + 2 → (w.setCell ⟨w0.heap.size + 2, o, none⟩ u).heap[k]? = w.heap[k]? := fun k hk => heap_setCell_other w ⟨w0.heap.size + 2, o, none⟩ k u hk
  refine ⟨(hk _ (by omega)).trans h.z, h.r.setOther (by omega), ?_, Row.kept h.ra (fun k q => hk k (by have := h.oa k q; omega)), Row.kept h.rd (fun k q => hk k (by have := h.od k q; omega)), h.oa, h.od, h.na, h.b.setCell (p := ⟨w0.heap.size + 2, o, none⟩) (by show w0.heap.size ≤ w0.heap.size + 2; omega) u⟩
  unfold BoxRE
  rw [heap_setCell_same w (w0.heap.size + 2) o _ _ u h.x, he]
/-- One more table. -/
theorem GS.addT {w2 w3 : World} {v7 : Value} {t : Tb} (h : GS w0 l e log next seq A D va vd w2) (hrow : RowB w3 v7 (A ++ [t])) (hgrow : w2.grownBy w3 (ob va)) (hob : ob v7 = ob va ∨ (ob v7 = some w2.heap.size ∧ w2.grownBy w3 none)) : GS w0 l e log next seq (A ++ [t]) D v7 vd (w3.setCell ⟨w0.heap.size + 2, 3, none⟩ v7) := by
  have hs := h.x.lt
  have hk3 : ∀ k, k < w2.heap.size → ob va ≠ some k → w3.heap[k]? = w2.heap[k]? := fun k hk hn => hgrow.block k hk (fun q => hn q.symm)
  have hk : ∀ k, k ≠ w0.heap.size + 2 → (w3.setCell ⟨w0.heap.size + 2, 3, none⟩ v7).heap[k]? = w3.heap[k]? := fun k hk => heap_setCell_other w3 ⟨w0.heap.size + 2, 3, none⟩ k v7 hk
  have hne : ∀ k, k < w0.heap.size + 3 → ob va ≠ some k := fun k hk q => by have := h.oa k q; omega
  have hov : ∀ k, ob v7 = some k → w0.heap.size + 3 ≤ k := fun k q => by
    rcases hob with e1 | ⟨e1, -⟩
    · exact h.oa k (by rw [← e1]; exact q)
    · rw [e1] at q; cases q; omega
  have hr3 : Rdr w3 (w0.heap.size + 1) l e := h.r.turn (turn_of_grown (F := (ob va).toList) hgrow (fun k hk => .inl (by simp [hk]))) (fun q => hne (w0.heap.size + 1) (by omega) (by simpa using q))
  refine ⟨(hk _ (by omega)).trans ((hk3 _ (by omega) (hne _ (by omega))).trans h.z), hr3.setOther (by omega), ?_, Row.kept hrow (fun k q => hk k (by have := hov k q; omega)), ?_, hov, h.od, ?_, ?_⟩
  · unfold BoxRE
    rw [heap_setCell_same w3 (w0.heap.size + 2) 3 _ _ v7 ((hk3 _ (by omega) (hne _ (by omega))).trans h.x)]
    rfl
  · refine Row.kept h.rd (fun k q => (hk k (by have := h.od k q; omega)).trans (hk3 k (Row.lt h.rd k q) (fun q2 => h.na k q2 q)))
  · intro k q q2
    rcases hob with e1 | ⟨e1, -⟩
    · exact h.na k (by rw [← e1]; exact q) q2
    · rw [e1] at q; cases q
      have := Row.lt h.rd _ q2
      omega
  · exact (below_rowT h.b (Nat.le_refl _) hgrow (fun k q => by have := h.oa k q; omega)).setCell (p := ⟨w0.heap.size + 2, 3, none⟩) (by show w0.heap.size ≤ w0.heap.size + 2; omega) v7
/-- One more int. -/
theorem GS.addN {w2 w3 : World} {v7 : Value} {d : Int} (h : GS w0 l e log next seq A D va vd w2) (hrow : RowN w3 v7 (D ++ [d])) (hgrow : w2.grownBy w3 (ob vd)) (hob : ob v7 = ob vd ∨ (ob v7 = some w2.heap.size ∧ w2.grownBy w3 none)) : GS w0 l e log next seq A (D ++ [d]) va v7 (w3.setCell ⟨w0.heap.size + 2, 4, none⟩ v7) := by
  have hs := h.x.lt
  have hk3 : ∀ k, k < w2.heap.size → ob vd ≠ some k → w3.heap[k]? = w2.heap[k]? := fun k hk hn => hgrow.block k hk (fun q => hn q.symm)
  have hk : ∀ k, k ≠ w0.heap.size + 2 → (w3.setCell ⟨w0.heap.size + 2, 4, none⟩ v7).heap[k]? = w3.heap[k]? := fun k hk => heap_setCell_other w3 ⟨w0.heap.size + 2, 4, none⟩ k v7 hk
  have hne : ∀ k, k < w0.heap.size + 3 → ob vd ≠ some k := fun k hk q => by have := h.od k q; omega
  have hov : ∀ k, ob v7 = some k → w0.heap.size + 3 ≤ k := fun k q => by
    rcases hob with e1 | ⟨e1, -⟩
    · exact h.od k (by rw [← e1]; exact q)
    · rw [e1] at q; cases q; omega
  have hr3 : Rdr w3 (w0.heap.size + 1) l e := h.r.turn (turn_of_grown (F := (ob vd).toList) hgrow (fun k hk => .inl (by simp [hk]))) (fun q => hne (w0.heap.size + 1) (by omega) (by simpa using q))
  refine ⟨(hk _ (by omega)).trans ((hk3 _ (by omega) (hne _ (by omega))).trans h.z), hr3.setOther (by omega), ?_, ?_, Row.kept hrow (fun k q => hk k (by have := hov k q; omega)), h.oa, hov, ?_, ?_⟩
  · unfold BoxRE
    rw [heap_setCell_same w3 (w0.heap.size + 2) 4 _ _ v7 ((hk3 _ (by omega) (hne _ (by omega))).trans h.x)]
    rfl
  · refine Row.kept h.ra (fun k q => (hk k (by have := h.oa k q; omega)).trans (hk3 k (Row.lt h.ra k q) (fun q2 => h.na k q q2)))
  · intro k q q2
    rcases hob with e1 | ⟨e1, -⟩
    · exact h.na k q (by rw [← e1]; exact q2)
    · rw [e1] at q2; cases q2
      have := Row.lt h.ra _ q
      omega
  · exact (below_rowT h.b (Nat.le_refl _) hgrow (fun k q => by have := h.od k q; omega)).setCell (p := ⟨w0.heap.size + 2, 4, none⟩) (by show w0.heap.size ≤ w0.heap.size + 2; omega) v7
end
theorem rdTs_step (m : Nat) (acc : List Tb) (l : List UInt8) : ((rdTb l 0).2.2 ≠ 0 → (rdTs (m + 1) acc l).2.2 = (rdTb l 0).2.2) ∧ ((rdTb l 0).2.2 = 0 → rdTs (m + 1) acc l = rdTs m (acc ++ [(rdTb l 0).1]) (rdTb l 0).2.1) := by
  constructor
  · intro h; unfold rdTs; rw [if_pos h]
  · intro h; conv => lhs; unfold rdTs
    rw [if_neg (by simp [h])]
theorem rdIs_step (m : Nat) (acc : List Int) (l : List UInt8) : ((rdI l 0).2.2 ≠ 0 → (rdIs (m + 1) acc l).2.2 = (rdI l 0).2.2) ∧ ((rdI l 0).2.2 = 0 → rdIs (m + 1) acc l = rdIs m (acc ++ [((rdI l 0).1 : Int)]) (rdI l 0).2.1) := by
  constructor
  · intro h; unfold rdIs; rw [if_pos h]
  · intro h; conv => lhs; unfold rdIs
    rw [if_neg (by simp [h])]
end Go.Proofs.YtmcgfafkggannaaGreat

namespace Go.Proofs.YtmcgfafkggannaaGreat
open Go.RowKit Go.Shelf

theorem rdTb_eq (l : List UInt8) (e : Int) {a b c : Nat × List UInt8 × Int} {d f : List UInt8 × List UInt8 × Int} (ha : rdI l e = a) (hb : rdI a.2.1 a.2.2 = b) (hc : rdI b.2.1 b.2.2 = c) (hd : rdT 300 c.2.1 c.2.2 = d) (hf : rdT 300 d.2.1 d.2.2 = f) : rdTb l e = (⟨(a.1 : Int), (b.1 : Int), (c.1 : Int), ⟨d.1.toArray⟩, ⟨f.1.toArray⟩⟩, f.2.1, f.2.2) := by
  subst ha hb hc hd hf
  rfl
theorem infoIntZ : (Tryz.prog.info? 3).map (fun i => (i.zero, i.size, i.bytes)) = some (some (.int .i64 0), 1, 8) := by kernel_rfl
theorem srcN_new (d : Int) (w : World) : Src Tryz.prog 1 26 (.slice (some ⟨w.heap.size, 0, none⟩) 1 1) 1 [.int .i64 d] (w.alloc (.cells #[.int .i64 d] 3)) :=
  Src.ofSlice (P := Tryz.prog) _ (size := 1) Tryz.underlying26 ⟨w.heap.size, 0, none⟩ 1 1 _ rfl (fun j u hu => by
    match j, hu with
    | 0, hu => simpa [Addr.add] using hu) (by simp [Value.oneCell'])
/-- What is told of lists of tables as they are read. -/
def AtT (N : Nat) (D : List Tb × List UInt8 × Int) (i : Nat) (A : List Tb) (l : List UInt8) (e : Int) : Prop := (e = 0 → A.length = i ∧ i ≤ N ∧ D = rdTs (N - i) A l) ∧ (e ≠ 0 → D.2.2 = e)
def AtI (N : Nat) (D : List Int × List UInt8 × Int) (i : Nat) (A : List Int) (l : List UInt8) (e : Int) : Prop := (e = 0 → A.length = i ∧ i ≤ N ∧ D = rdIs (N - i) A l) ∧ (e ≠ 0 → D.2.2 = e)
theorem AtT.step {N i : Nat} {D : List Tb × List UInt8 × Int} {A : List Tb} {l : List UInt8} (h : AtT N D i A l 0) (hi : i < N) : AtT N D (i + 1) (A ++ [(rdTb l 0).1]) (rdTb l 0).2.1 (rdTb l 0).2.2 := by
  obtain ⟨h1, h2, h3⟩ := h.1 rfl
  obtain ⟨m, hm⟩ : ∃ m, N - i = m + 1 := ⟨N - i - 1, by omega⟩
  rw [hm] at h3
  have hs := rdTs_step m A l
  refine ⟨fun he => ⟨by simp [h1], by omega, ?_⟩, fun he => by rw [h3]; exact hs.1 he⟩
  rw [h3, hs.2 he, show N - (i + 1) = m by omega]
theorem AtI.step {N i : Nat} {D : List Int × List UInt8 × Int} {A : List Int} {l : List UInt8} (h : AtI N D i A l 0) (hi : i < N) : AtI N D (i + 1) (A ++ [((rdI l 0).1 : Int)]) (rdI l 0).2.1 (rdI l 0).2.2 := by
  obtain ⟨h1, h2, h3⟩ := h.1 rfl
  obtain ⟨m, hm⟩ : ∃ m, N - i = m + 1 := ⟨N - i - 1, by omega⟩
  rw [hm] at h3
  have hs := rdIs_step m A l
  refine ⟨fun he => ⟨by simp [h1], by omega, ?_⟩, fun he => by rw [h3]; exact hs.1 he⟩
  rw [h3, hs.2 he, show N - (i + 1) = m by omega]
theorem AtT.fin {N i : Nat} {D : List Tb × List UInt8 × Int} {A : List Tb} {l : List UInt8} {e : Int} (h : AtT N D i A l e) (hi : e = 0 → ¬ i < N) : D.2.2 = e ∧ (e = 0 → D.1 = A ∧ D.2.1 = l) := by
  by_cases he : e = 0
  · obtain ⟨h1, h2, h3⟩ := h.1 he
    rw [show N - i = 0 by have := hi he; omega] at h3
    subst he
    rw [h3]
    exact ⟨rfl, fun _ => ⟨rfl, rfl⟩⟩
  · exact ⟨h.2 he, fun q => absurd q he⟩
theorem AtI.fin {N i : Nat} {D : List Int × List UInt8 × Int} {A : List Int} {l : List UInt8} {e : Int} (h : AtI N D i A l e) (hi : e = 0 → ¬ i < N) : D.2.2 = e ∧ (e = 0 → D.1 = A ∧ D.2.1 = l) := by
  by_cases he : e = 0
  · obtain ⟨h1, h2, h3⟩ := h.1 he
    rw [show N - i = 0 by have := hi he; omega] at h3
    subst he
    rw [h3]
    exact ⟨rfl, fun _ => ⟨rfl, rfl⟩⟩
  · exact ⟨h.2 he, fun q => absurd q he⟩
theorem atT_start (l : List UInt8) (e : Int) : AtT (rdC 10000 l e).1 (rdLT l e) 0 [] (rdC 10000 l e).2.1 (rdC 10000 l e).2.2 := by
  refine ⟨fun he => ⟨rfl, Nat.zero_le _, ?_⟩, fun he => ?_⟩
  · unfold rdLT; rw [if_neg (by simp [he])]; rfl
  · unfold rdLT; rw [if_pos he]
theorem atI_start (l : List UInt8) (e : Int) : AtI (rdC 10000 l e).1 (rdLI l e) 0 [] (rdC 10000 l e).2.1 (rdC 10000 l e).2.2 := by
  refine ⟨fun he => ⟨rfl, Nat.zero_le _, ?_⟩, fun he => ?_⟩
  · unfold rdLI; rw [if_neg (by simp [he])]; rfl
  · unfold rdLI; rw [if_pos he]
/-- A reader with an error may stand anywhere. -/
theorem Rdr.any {w : World} {b : Nat} {l l' : List UInt8} {e : Int} (h : Rdr w b l e) (hl : e = 0 → l' = l) : Rdr w b l' e := by
  obtain ⟨s, h1, h2, h3⟩ := h
  exact ⟨s, h1, fun he => by rw [h2 he, hl he], h3⟩
set_option maxHeartbeats 16000000 in
set_option maxRecDepth 100000 in
theorem rget12_any (s : ByteArray) (w : World) (hs : s.size ≤ 100000000) :
    Calls Tryz.prog 13 #[.string s] w fun x w' => GetV w w' x s.data.toList ∧ Below w.heap.size w w' := by
  obtain ⟨l, hl⟩ : ∃ l, s.data.toList = l := ⟨_, rfl⟩
  rw [hl]
  obtain ⟨W1, hW1⟩ : ∃ W1, ((w.alloc (.cells #[.int .i64 0, .int .i64 0, .int .u64 0, .slice none 0 0, .slice none 0 0] 55)).alloc (.cells #[.string s, .int .i64 0] 106)).alloc (.cells #[.int .i64 0, .int .i64 0, .int .u64 0, .slice none 0 0, .slice none 0 0] 55) = W1 := ⟨_, rfl⟩
  have g0 : GS w l 0 0 0 0 [] [] (.slice none 0 0) (.slice none 0 0) W1 := by
    rw [← hW1]
    refine ⟨(Below.heap_alloc _ _ _ (by simp; omega)).trans ((Below.heap_alloc _ _ _ (by simp)).trans (new_block _ _ rfl)), ?_, new_block _ _ (by simp), row_nilB _, row_nilN _, fun k q => by simp [ob] at q, fun k q => by simp [ob] at q, fun k q => by simp [ob] at q, (((Below.refl _ _).alloc (Nat.le_refl _) _).alloc (by simp) _).alloc (by simp; omega) _⟩
    have hh : (((w.alloc (.cells #[.int .i64 0, .int .i64 0, .int .u64 0, .slice none 0 0, .slice none 0 0] 55)).alloc (.cells #[.string s, .int .i64 0] 106)).alloc (.cells #[.int .i64 0, .int .i64 0, .int .u64 0, .slice none 0 0, .slice none 0 0] 55)).heap[w.heap.size + 1]? = some (.cells #[.string s, .int .i64 0] 106) := (Below.heap_alloc _ _ _ (by simp)).trans (new_block _ _ (by simp))
    exact ⟨s, ⟨by unfold World.cell?; rw [hh]; rfl, by unfold World.cell?; rw [hh]; rfl, by unfold World.frozen?; rw [hh]; simp, by unfold World.frozen?; rw [hh]; simp⟩, fun _ => hl, hs⟩
  obtain ⟨p0, hp0⟩ : ∃ p, rdI l (0 : Int) = p := ⟨_, rfl⟩
  obtain ⟨p1, hp1⟩ : ∃ p, rdI p0.2.1 p0.2.2 = p := ⟨_, rfl⟩
  obtain ⟨p2, hp2⟩ : ∃ p, rdV p1.2.1 p1.2.2 = p := ⟨_, rfl⟩
  obtain ⟨p3, hp3⟩ : ∃ p, rdC 10000 p2.2.1 p2.2.2 = p := ⟨_, rfl⟩
  obtain ⟨D, hD⟩ : ∃ D, rdLT p2.2.1 p2.2.2 = D := ⟨_, rfl⟩
  obtain ⟨p4, hp4⟩ : ∃ p, rdC 10000 D.2.1 D.2.2 = p := ⟨_, rfl⟩
  obtain ⟨F, hF⟩ : ∃ F, rdLI D.2.1 D.2.2 = F := ⟨_, rfl⟩
  have HGP := Lib.hid (show getP l = (⟨(p0.1 : Int), (p1.1 : Int), p2.1, D.1, F.1⟩, rdE F.2.1 F.2.2) by
    unfold getP rdE
    simp only [hp0, hp1, hp2, hD, hF])
  have HC0 := Lib.hid (show ∀ W, Rdr W (w.heap.size + 1) l 0 → Calls Tryz.prog 44 #[.pointer (some ⟨w.heap.size + 1, 0, none⟩)] W fun x w' => x = .returned (.int .i64 (p0.1 : Int)) ∧ Rdr w' (w.heap.size + 1) p0.2.1 p0.2.2 ∧ W.grownBy w' (some (w.heap.size + 1)) from fun W h => by rw [← hp0]; exact rreadInt_any h)
  have HC1 := Lib.hid (show ∀ W, Rdr W (w.heap.size + 1) p0.2.1 p0.2.2 → Calls Tryz.prog 44 #[.pointer (some ⟨w.heap.size + 1, 0, none⟩)] W fun x w' => x = .returned (.int .i64 (p1.1 : Int)) ∧ Rdr w' (w.heap.size + 1) p1.2.1 p1.2.2 ∧ W.grownBy w' (some (w.heap.size + 1)) from fun W h => by rw [← hp1]; exact rreadInt_any h)
  have HC2 := Lib.hid (show ∀ W, Rdr W (w.heap.size + 1) p1.2.1 p1.2.2 → Calls Tryz.prog 45 #[.pointer (some ⟨w.heap.size + 1, 0, none⟩)] W fun x w' => x = .returned (.int .u64 (p2.1 : Int)) ∧ Rdr w' (w.heap.size + 1) p2.2.1 p2.2.2 ∧ W.grownBy w' (some (w.heap.size + 1)) from fun W h => by rw [← hp2]; exact rr_var h)
  have HC3 := Lib.hid (show ∀ W, Rdr W (w.heap.size + 1) p2.2.1 p2.2.2 → Calls Tryz.prog 46 #[.pointer (some ⟨w.heap.size + 1, 0, none⟩), .int .i64 10000] W fun x w' => x = .returned (.int .i64 (p3.1 : Int)) ∧ Rdr w' (w.heap.size + 1) p3.2.1 p3.2.2 ∧ W.grownBy w' (some (w.heap.size + 1)) from fun W h => by rw [← hp3]; exact rr_count 10000 (by omega) h)
  have HC4 := Lib.hid (show ∀ W, Rdr W (w.heap.size + 1) D.2.1 D.2.2 → Calls Tryz.prog 46 #[.pointer (some ⟨w.heap.size + 1, 0, none⟩), .int .i64 10000] W fun x w' => x = .returned (.int .i64 (p4.1 : Int)) ∧ Rdr w' (w.heap.size + 1) p4.2.1 p4.2.2 ∧ W.grownBy w' (some (w.heap.size + 1)) from fun W h => by rw [← hp4]; exact rr_count 10000 (by omega) h)
  have HAT := Lib.hid (show AtT p3.1 D 0 [] p3.2.1 p3.2.2 by rw [← hp3, ← hD]; exact atT_start _ _)
  have HAI := Lib.hid (show AtI p4.1 F 0 [] p4.2.1 p4.2.2 by rw [← hp4, ← hF]; exact atI_start _ _)
  have HZD := Lib.hid (show F.2.2 = 0 → D.2.2 = 0 from fun h => Classical.byContradiction fun hn => by
    have h1 : p4.2.2 = D.2.2 := by rw [← hp4, rdC_err hn]
    have h2 := (show AtI p4.1 F 0 [] p4.2.1 p4.2.2 by rw [← hp4, ← hF]; exact atI_start _ _).2 (by rw [h1]; exact hn)
    rw [h2, h1] at h
    exact hn h)
  have hn3 : p3.1 ≤ 10000 := by rw [← hp3]; have := rdC_le (most := 10000) p2.2.1 p2.2.2 (by decide); omega
  have hn4 : p4.1 ≤ 10000 := by rw [← hp4]; have := rdC_le (most := 10000) D.2.1 D.2.2 (by decide); omega
  have HG0 := Lib.hid g0
  obtain ⟨i0, hi0, hz0, hzs, hzb⟩ := info_parts infoTab
  obtain ⟨j0, hj0, hy0, hys, hyb⟩ := info_parts infoIntZ
  clear hs hl hp0 hp1 hp2 hp3 hD hp4 hF g0
  go_enter Tryz.func13, Tryz.ntmps13
  go_upto_region 3 with fail
  try rw [hW1]
  clear hW1
  go_wp2_with fail
  go_at_call 44
  (with_reducible refine (HC0.out _ HG0.out.r).mono ?_)
  rintro _ w1 ⟨rfl, r1, q1⟩
  have k1 := HG0.out.grown q1 r1
  have HG1 := Lib.hid (k1.st (log' := (p0.1 : Int)) 0 (.int .i64 (p0.1 : Int)) rfl)
  have f0 := k1.x.f 0
  have c0 := k1.x.c0
  obtain ⟨V1, hV1⟩ : ∃ W, w1.setCell ⟨w.heap.size + 2, 0, none⟩ (.int .i64 (p0.1 : Int)) = W := ⟨_, rfl⟩
  rw [hV1] at HG1
  clear r1 q1 k1
  go_upto_region 4 with fail
  try rw [hV1]
  clear hV1 f0 c0
  go_wp2_with fail
  go_at_call 44
  (with_reducible refine (HC1.out _ HG1.out.r).mono ?_)
  rintro _ w2 ⟨rfl, r1, q1⟩
  have k1 := HG1.out.grown q1 r1
  have HG2 := Lib.hid (k1.st (next' := (p1.1 : Int)) 1 (.int .i64 (p1.1 : Int)) rfl)
  have f1 := k1.x.f 1
  have c1 := k1.x.c1
  obtain ⟨V2, hV2⟩ : ∃ W, w2.setCell ⟨w.heap.size + 2, 1, none⟩ (.int .i64 (p1.1 : Int)) = W := ⟨_, rfl⟩
  rw [hV2] at HG2
  clear r1 q1 k1
  go_upto_region 5 with fail
  try rw [hV2]
  clear hV2 f1 c1
  go_wp2_with fail
  go_at_call 45
  (with_reducible refine (HC2.out _ HG2.out.r).mono ?_)
  rintro _ w3 ⟨rfl, r1, q1⟩
  have k1 := HG2.out.grown q1 r1
  have HG3 := Lib.hid (k1.st (seq' := p2.1) 2 (.int .u64 (p2.1 : Int)) rfl)
  have f2 := k1.x.f 2
  have c2 := k1.x.c2
  obtain ⟨V3, hV3⟩ : ∃ W, w3.setCell ⟨w.heap.size + 2, 2, none⟩ (.int .u64 (p2.1 : Int)) = W := ⟨_, rfl⟩
  rw [hV3] at HG3
  clear r1 q1 k1
  go_upto_region 6 with fail
  try rw [hV3]
  clear hV3 f2 c2
  go_wp2_with fail
  go_at_call 46
  (with_reducible refine (HC3.out _ HG3.out.r).mono ?_)
  rintro _ w4 ⟨rfl, r1, q1⟩
  have HG4 := Lib.hid (HG3.out.grown q1 r1)
  clear r1 q1 HC0 HC1 HC2 HC3 HG0 HG1 HG2 HG3
  generalize p3.2.1 = l3 at *
  generalize p3.2.2 = e3 at *
  generalize p3.1 = N at *
  go_upto_region 8 with fail
  go_loopw [7] (fun iv wr => ∃ (i : Nat) (A : List Tb) (V : Value) (l : List UInt8) (e : Int), iv = .int .i64 (i : Int) ∧ Hid (GS w l e (p0.1 : Int) (p1.1 : Int) p2.1 A [] V (.slice none 0 0) wr) ∧ Hid (AtT N D i A l e) ∧ i ≤ N ∧ A.length ≤ N) (fun iv _ => N - (intOf iv).toNat)
  case atStart => exact ⟨0, [], _, l3, e3, rfl, HG4, HAT, Nat.zero_le _, Nat.zero_le _⟩
  case round =>
    clear HG4 HAT
    obtain ⟨i, A, V, l1, e1, rfl, HG, HA, hiN, hAN⟩ := hrel
    obtain ⟨aV, cV, rfl⟩ := HG.out.ra.short
    obtain ⟨sr, hsr, -, -⟩ := HG.out.r
    have qe := hsr.c1
    clear hsr
    go_upto_region 8 with fail
    go_cut [34] from 25 to 34 (fun v wx => ∃ c : Bool, v = .bool c ∧ Hid (c = true ↔ (i < N ∧ e1 = 0)) ∧ wr = wx)
    case first =>
      by_cases h1 : i < N
      · have d1 : decide ((i : Int) < (N : Int)) = true := by simp; omega
        by_cases h2 : e1 = 0
        · subst h2
          go_wp2_with fail
          go_meet
          exact ⟨true, rfl, Lib.hid ⟨fun _ => ⟨h1, by first | rfl | trivial⟩, fun _ => rfl⟩, rfl⟩
        · have d2 : (e1 == 0) = false := by simpa using h2
          have HNO := Lib.hid (show ¬ (i < N ∧ e1 = 0) from fun q => h2 q.2)
          clear h2
          go_wp2_with fail
          go_meet
          exact ⟨false, rfl, Lib.hid ⟨fun h => (by cases h), fun h => absurd h HNO.out⟩, rfl⟩
      · have d1 : decide ((i : Int) < (N : Int)) = false := by simp; omega
        have HNO := Lib.hid (show ¬ (i < N ∧ e1 = 0) from fun q => h1 q.1)
        go_wp2_with fail
        go_meet
        exact ⟨false, rfl, Lib.hid ⟨fun h => (by cases h), fun h => absurd h HNO.out⟩, rfl⟩
    case rest =>
    obtain ⟨cc, rfl, HCC, rfl⟩ := hcut
    cases cc with
    | true =>
      have hgo : i < N ∧ e1 = 0 := by simpa using HCC.out
      obtain ⟨hlt, rfl⟩ := hgo
      have hiI : (i : Int) < (N : Int) := by omega
      have HST := Lib.hid (HA.out.step hlt)
      obtain ⟨a0, ha0⟩ : ∃ p, rdI l1 (0 : Int) = p := ⟨_, rfl⟩
      obtain ⟨a1, ha1⟩ : ∃ p, rdI a0.2.1 a0.2.2 = p := ⟨_, rfl⟩
      obtain ⟨a2, ha2⟩ : ∃ p, rdI a1.2.1 a1.2.2 = p := ⟨_, rfl⟩
      obtain ⟨a3, ha3⟩ : ∃ p, rdT 300 a2.2.1 a2.2.2 = p := ⟨_, rfl⟩
      obtain ⟨a4, ha4⟩ : ∃ p, rdT 300 a3.2.1 a3.2.2 = p := ⟨_, rfl⟩
      rw [rdTb_eq l1 0 ha0 ha1 ha2 ha3 ha4] at HST
      simp only at HST
      have HD0 := Lib.hid (show ∀ W, Rdr W (w.heap.size + 1) l1 0 → Calls Tryz.prog 44 #[.pointer (some ⟨w.heap.size + 1, 0, none⟩)] W fun x w' => x = .returned (.int .i64 (a0.1 : Int)) ∧ Rdr w' (w.heap.size + 1) a0.2.1 a0.2.2 ∧ W.grownBy w' (some (w.heap.size + 1)) from fun W h => by rw [← ha0]; exact rreadInt_any h)
      have HD1 := Lib.hid (show ∀ W, Rdr W (w.heap.size + 1) a0.2.1 a0.2.2 → Calls Tryz.prog 44 #[.pointer (some ⟨w.heap.size + 1, 0, none⟩)] W fun x w' => x = .returned (.int .i64 (a1.1 : Int)) ∧ Rdr w' (w.heap.size + 1) a1.2.1 a1.2.2 ∧ W.grownBy w' (some (w.heap.size + 1)) from fun W h => by rw [← ha1]; exact rreadInt_any h)
      have HD2 := Lib.hid (show ∀ W, Rdr W (w.heap.size + 1) a1.2.1 a1.2.2 → Calls Tryz.prog 44 #[.pointer (some ⟨w.heap.size + 1, 0, none⟩)] W fun x w' => x = .returned (.int .i64 (a2.1 : Int)) ∧ Rdr w' (w.heap.size + 1) a2.2.1 a2.2.2 ∧ W.grownBy w' (some (w.heap.size + 1)) from fun W h => by rw [← ha2]; exact rreadInt_any h)
      obtain ⟨T3, hT3⟩ : ∃ T : ByteArray, ⟨a3.1.toArray⟩ = T := ⟨_, rfl⟩
      obtain ⟨T4, hT4⟩ : ∃ T : ByteArray, ⟨a4.1.toArray⟩ = T := ⟨_, rfl⟩
      rw [hT3, hT4] at HST
      have HD3 := Lib.hid (show ∀ W, Rdr W (w.heap.size + 1) a2.2.1 a2.2.2 → Calls Tryz.prog 47 #[.pointer (some ⟨w.heap.size + 1, 0, none⟩), .int .i64 300] W fun x w' => x = .returned (.string T3) ∧ Rdr w' (w.heap.size + 1) a3.2.1 a3.2.2 ∧ W.grownBy w' (some (w.heap.size + 1)) from fun W h => by rw [← hT3, ← ha3]; exact rr_text 300 (by omega) (by omega) h)
      have HD4 := Lib.hid (show ∀ W, Rdr W (w.heap.size + 1) a3.2.1 a3.2.2 → Calls Tryz.prog 47 #[.pointer (some ⟨w.heap.size + 1, 0, none⟩), .int .i64 300] W fun x w' => x = .returned (.string T4) ∧ Rdr w' (w.heap.size + 1) a4.2.1 a4.2.2 ∧ W.grownBy w' (some (w.heap.size + 1)) from fun W h => by rw [← hT4, ← ha4]; exact rr_text 300 (by omega) (by omega) h)
      clear ha0 ha1 ha2 ha3 ha4 hT3 hT4
      obtain ⟨X, hX⟩ : ∃ X, wr.heap.size = X := ⟨_, rfl⟩
      obtain ⟨T0, hT0⟩ : ∃ W, wr.alloc (.cells #[.int .i64 0, .int .i64 0, .int .i64 0, .string ⟨#[]⟩, .string ⟨#[]⟩] 80) = W := ⟨_, rfl⟩
      have HX0 := Lib.hid (show BoxB X Tb.zero T0 by rw [← hT0, ← hX]; exact new_block _ _ rfl)
      have HE0 := Lib.hid (show GS w l1 0 (p0.1 : Int) (p1.1 : Int) p2.1 A [] (.slice aV A.length cV) (.slice none 0 0) T0 by rw [← hT0]; exact HG.out.below ((Below.refl _ _).alloc (Nat.le_refl _) _))
      have hXb : w.heap.size + 3 ≤ X := by have := HG.out.x.lt; omega
      have hXa : ob (.slice aV A.length cV) ≠ some X := fun q => by have := Row.lt HG.out.ra X q; omega
      have hXd : ob (.slice none 0 0) ≠ some X := fun q => by simp [ob] at q
      go_upto_region 11 with fail
      try rw [hT0, hX]
      clear hT0 hX qe
      go_wp2_with fail
      go_at_call 44
      (with_reducible refine (HD0.out _ HE0.out.r).mono ?_)
      rintro _ u0 ⟨rfl, r1, q1⟩
      have x1 : BoxB X Tb.zero u0 := HX0.out.grown q1 (by omega)
      have HE1 := Lib.hid ((HE0.out.grown q1 r1).other X 0 (.int .i64 (a0.1 : Int)) hXb hXa hXd)
      have HX1 := Lib.hid (x1.set 0 (.int .i64 (a0.1 : Int)) ⟨(a0.1 : Int), 0, 0, ⟨#[]⟩, ⟨#[]⟩⟩ rfl)
      have f0 := x1.fz 0
      have c0 := x1.c0
      obtain ⟨Y0, hY0⟩ : ∃ W, u0.setCell ⟨X, 0, none⟩ (.int .i64 (a0.1 : Int)) = W := ⟨_, rfl⟩
      rw [hY0] at HE1 HX1
      clear r1 q1 x1
      go_upto_region 12 with fail
      try rw [hY0]
      clear hY0 f0 c0
      go_wp2_with fail
      go_at_call 44
      (with_reducible refine (HD1.out _ HE1.out.r).mono ?_)
      rintro _ u1 ⟨rfl, r1, q1⟩
      have x1 : BoxB X ⟨(a0.1 : Int), 0, 0, ⟨#[]⟩, ⟨#[]⟩⟩ u1 := HX1.out.grown q1 (by omega)
      have HE2 := Lib.hid ((HE1.out.grown q1 r1).other X 1 (.int .i64 (a1.1 : Int)) hXb hXa hXd)
      have HX2 := Lib.hid (x1.set 1 (.int .i64 (a1.1 : Int)) ⟨(a0.1 : Int), (a1.1 : Int), 0, ⟨#[]⟩, ⟨#[]⟩⟩ rfl)
      have f1 := x1.fz 1
      have c1 := x1.c1
      obtain ⟨Y1, hY1⟩ : ∃ W, u1.setCell ⟨X, 1, none⟩ (.int .i64 (a1.1 : Int)) = W := ⟨_, rfl⟩
      rw [hY1] at HE2 HX2
      clear r1 q1 x1
      go_upto_region 13 with fail
      try rw [hY1]
      clear hY1 f1 c1
      go_wp2_with fail
      go_at_call 44
      (with_reducible refine (HD2.out _ HE2.out.r).mono ?_)
      rintro _ u2 ⟨rfl, r1, q1⟩
      have x1 : BoxB X ⟨(a0.1 : Int), (a1.1 : Int), 0, ⟨#[]⟩, ⟨#[]⟩⟩ u2 := HX2.out.grown q1 (by omega)
      have HE3 := Lib.hid ((HE2.out.grown q1 r1).other X 2 (.int .i64 (a2.1 : Int)) hXb hXa hXd)
      have HX3 := Lib.hid (x1.set 2 (.int .i64 (a2.1 : Int)) ⟨(a0.1 : Int), (a1.1 : Int), (a2.1 : Int), ⟨#[]⟩, ⟨#[]⟩⟩ rfl)
      have f2 := x1.fz 2
      have c2 := x1.c2
      obtain ⟨Y2, hY2⟩ : ∃ W, u2.setCell ⟨X, 2, none⟩ (.int .i64 (a2.1 : Int)) = W := ⟨_, rfl⟩
      rw [hY2] at HE3 HX3
      clear r1 q1 x1
      go_upto_region 14 with fail
      try rw [hY2]
      clear hY2 f2 c2
      go_wp2_with fail
      go_at_call 47
      (with_reducible refine (HD3.out _ HE3.out.r).mono ?_)
      rintro _ u3 ⟨rfl, r1, q1⟩
      have x1 : BoxB X ⟨(a0.1 : Int), (a1.1 : Int), (a2.1 : Int), ⟨#[]⟩, ⟨#[]⟩⟩ u3 := HX3.out.grown q1 (by omega)
      have HE4 := Lib.hid ((HE3.out.grown q1 r1).other X 3 (.string T3) hXb hXa hXd)
      have HX4 := Lib.hid (x1.set 3 (.string T3) ⟨(a0.1 : Int), (a1.1 : Int), (a2.1 : Int), T3, ⟨#[]⟩⟩ rfl)
      have f3 := x1.fz 3
      have c3 := x1.c3
      obtain ⟨Y3, hY3⟩ : ∃ W, u3.setCell ⟨X, 3, none⟩ (.string T3) = W := ⟨_, rfl⟩
      rw [hY3] at HE4 HX4
      clear r1 q1 x1
      go_upto_region 15 with fail
      try rw [hY3]
      clear hY3 f3 c3
      go_wp2_with fail
      go_at_call 47
      (with_reducible refine (HD4.out _ HE4.out.r).mono ?_)
      rintro _ u4 ⟨rfl, r1, q1⟩
      have x1 : BoxB X ⟨(a0.1 : Int), (a1.1 : Int), (a2.1 : Int), T3, ⟨#[]⟩⟩ u4 := HX4.out.grown q1 (by omega)
      have HE5 := Lib.hid ((HE4.out.grown q1 r1).other X 4 (.string T4) hXb hXa hXd)
      have HX5 := Lib.hid (x1.set 4 (.string T4) ⟨(a0.1 : Int), (a1.1 : Int), (a2.1 : Int), T3, T4⟩ rfl)
      have f4 := x1.fz 4
      have c4 := x1.c4
      obtain ⟨Y4, hY4⟩ : ∃ W, u4.setCell ⟨X, 4, none⟩ (.string T4) = W := ⟨_, rfl⟩
      rw [hY4] at HE5 HX5
      clear r1 q1 x1
      go_upto_region 16 with fail
      try rw [hY4]
      clear hY4 f4 c4
      have c0 := HX5.out.c0
      have c1 := HX5.out.c1
      have c2 := HX5.out.c2
      have c3 := HX5.out.c3
      have c4 := HX5.out.c4
      simp only at c0 c1 c2 c3 c4
      have m3 := HE5.out.x.c3
      have HRA := Lib.hid (show Row (Y4.alloc (.cells #[.int .i64 (a0.1 : Int), .int .i64 (a1.1 : Int), .int .i64 (a2.1 : Int), .string T3, .string T4] 80)) 80 5 (.slice aV A.length cV) A.length (cellsT A) from rowT_new HE5.out.ra _)
      have H1 := Lib.hid (show A.length + 1 ≤ maxLen by unfold maxLen; omega)
      have H2 := Lib.hid (show (A.length + 1) * 56 ≤ 140737488355328 by omega)
      have HE6 := Lib.hid (HE5.out.below ((Below.refl _ _).alloc (Nat.le_refl _) (.cells #[.int .i64 (a0.1 : Int), .int .i64 (a1.1 : Int), .int .i64 (a2.1 : Int), .string T3, .string T4] 80)))
      have HKX := Lib.hid (show ∀ w7 : World, (Y4.alloc (.cells #[.int .i64 (a0.1 : Int), .int .i64 (a1.1 : Int), .int .i64 (a2.1 : Int), .string T3, .string T4] 80)).grownBy w7 (ob (.slice aV A.length cV)) → w7.cell? ⟨w.heap.size + 2, 3, none⟩ = some (.slice aV A.length cV) ∧ w7.frozen? ⟨w.heap.size + 2, 3, none⟩ = false from fun w7 h => by
        have bx : BoxRE (w.heap.size + 2) (p0.1 : Int) (p1.1 : Int) p2.1 (.slice aV A.length cV) (.slice none 0 0) w7 := (h.block _ HE6.out.x.lt (fun q => by have := HE6.out.oa _ q.symm; omega)).trans HE6.out.x
        exact ⟨bx.c3, bx.f 3⟩)
      go_wp2_with (at_builtin; refine wpList_append_row _ rfl _ _ 23 23 rfl 80 i0 _ 5 56 Tryz.underlying23 hi0 hz0 hzs hzb rfl (.slice aV A.length cV) _ _ rfl HRA.out _ rfl 1 _ (srcT_new ⟨(a0.1 : Int), (a1.1 : Int), (a2.1 : Int), T3, T4⟩ Y4) H1.out H2.out ?_; intro v7 w7 hrow7 hgrow7 hob7; obtain ⟨n3, o3⟩ := HKX.out w7 hgrow7; obtain ⟨aW, cW, rfl, -, -⟩ := Row.le hrow7)
      have hrow8 : RowB w7 (.slice aW (A.length + 1) cW) (A ++ [⟨(a0.1 : Int), (a1.1 : Int), (a2.1 : Int), T3, T4⟩]) := by
        unfold RowB
        rw [List.length_append, cellsT_append, cellsT_one]
        exact hrow7
      have HE7 := Lib.hid (HE6.out.addT hrow8 hgrow7 hob7)
      have hAl : (A ++ [(⟨(a0.1 : Int), (a1.1 : Int), (a2.1 : Int), T3, T4⟩ : Tb)]).length ≤ N := by
        have := (HA.out.1 rfl).1
        simp
        omega
      clear hrow7 hrow8 hgrow7 hob7 HRA n3 o3
      go_roundw
      case rel => exact ⟨i + 1, _, _, _, _, by go_num, HE7, HST, by omega, hAl⟩
      case measure => simp [intOf]; omega
    | false =>
      have hgo : ¬ (i < N ∧ e1 = 0) := fun h => by
        have := HCC.out.2 h
        simp at this
      have HFN := Lib.hid (HA.out.fin (fun he h => hgo ⟨h, he⟩))
      have HG5 := Lib.hid (show GS w D.2.1 D.2.2 (p0.1 : Int) (p1.1 : Int) p2.1 A [] (.slice aV A.length cV) (.slice none 0 0) wr from by
        have hh := HFN.out
        rw [hh.1]
        exact HG.out.keep (fun _ _ _ => rfl) (HG.out.r.any (fun he => (hh.2 he).2)) HG.out.b)
      have HAD := Lib.hid (show D.2.2 = 0 → D.1 = A from fun h => (HFN.out.2 (by rw [← HFN.out.1]; exact h)).1)
      clear HG HA HFN hgo
      obtain ⟨w1, hw1⟩ : ∃ w1, w1 = wr := ⟨wr, rfl⟩
      subst hw1
      go_upto_region 17 with fail
      go_wp2_with fail
      go_at_call 46
      (with_reducible refine (HC4.out _ HG5.out.r).mono ?_)
      rintro _ w6 ⟨rfl, r1, q1⟩
      have HG6 := Lib.hid (HG5.out.grown q1 r1)
      clear r1 q1 qe HC4 HG5
      generalize p4.2.1 = l4 at *
      generalize p4.2.2 = e4 at *
      generalize p4.1 = M at *
      go_upto_region 19 with fail
      go_loopw [9] (fun iv wr => ∃ (k : Nat) (B : List Int) (V : Value) (l : List UInt8) (e : Int), iv = .int .i64 (k : Int) ∧ Hid (GS w l e (p0.1 : Int) (p1.1 : Int) p2.1 A B (.slice aV A.length cV) V wr) ∧ Hid (AtI M F k B l e) ∧ k ≤ M ∧ B.length ≤ M) (fun iv _ => M - (intOf iv).toNat)
      case atStart => exact ⟨0, [], _, l4, e4, rfl, HG6, HAI, Nat.zero_le _, Nat.zero_le _⟩
      case round =>
        clear HG6 HAI
        obtain ⟨k, B, V, l5, e5, rfl, HG, HA, hkM, hBM⟩ := hrel
        obtain ⟨bV, dV, rfl⟩ := HG.out.rd.short
        obtain ⟨sr, hsr, -, -⟩ := HG.out.r
        have qe := hsr.c1
        clear hsr
        go_upto_region 19 with fail
        go_cut [69] from 60 to 69 (fun v wx => ∃ c : Bool, v = .bool c ∧ Hid (c = true ↔ (k < M ∧ e5 = 0)) ∧ wr = wx)
        case first =>
          by_cases h1 : k < M
          · have d1 : decide ((k : Int) < (M : Int)) = true := by simp; omega
            by_cases h2 : e5 = 0
            · subst h2
              go_wp2_with fail
              go_meet
              exact ⟨true, rfl, Lib.hid ⟨fun _ => ⟨h1, by first | rfl | trivial⟩, fun _ => rfl⟩, rfl⟩
            · have d2 : (e5 == 0) = false := by simpa using h2
              have HNO := Lib.hid (show ¬ (k < M ∧ e5 = 0) from fun q => h2 q.2)
              clear h2
              go_wp2_with fail
              go_meet
              exact ⟨false, rfl, Lib.hid ⟨fun h => (by cases h), fun h => absurd h HNO.out⟩, rfl⟩
          · have d1 : decide ((k : Int) < (M : Int)) = false := by simp; omega
            have HNO := Lib.hid (show ¬ (k < M ∧ e5 = 0) from fun q => h1 q.1)
            go_wp2_with fail
            go_meet
            exact ⟨false, rfl, Lib.hid ⟨fun h => (by cases h), fun h => absurd h HNO.out⟩, rfl⟩
        case rest =>
        obtain ⟨cc, rfl, HCC2, rfl⟩ := hcut
        cases cc with
        | true =>
          have hgo2 : k < M ∧ e5 = 0 := by simpa using HCC2.out
          obtain ⟨hlt, rfl⟩ := hgo2
          have HST := Lib.hid (HA.out.step hlt)
          obtain ⟨a0, ha0⟩ : ∃ p, rdI l5 (0 : Int) = p := ⟨_, rfl⟩
          have HD0 := Lib.hid (show ∀ W, Rdr W (w.heap.size + 1) l5 0 → Calls Tryz.prog 44 #[.pointer (some ⟨w.heap.size + 1, 0, none⟩)] W fun x w' => x = .returned (.int .i64 (a0.1 : Int)) ∧ Rdr w' (w.heap.size + 1) a0.2.1 a0.2.2 ∧ W.grownBy w' (some (w.heap.size + 1)) from fun W h => by rw [← ha0]; exact rreadInt_any h)
          rw [ha0] at HST
          clear ha0
          go_upto_region 21 with fail
          have HGd := Lib.hid (show GS w l5 0 (p0.1 : Int) (p1.1 : Int) p2.1 A B (.slice aV A.length cV) (.slice bV B.length dV) wr.drew from HG.out.below ((Below.refl _ _).drew))
          have m4 := HGd.out.x.c4
          have H1 := Lib.hid (show B.length + 1 ≤ maxLen by unfold maxLen; omega)
          have H2 := Lib.hid (show (B.length + 1) * 8 ≤ 140737488355328 by omega)
          have HKX := Lib.hid (show ∀ w5 w7 : World, GS w a0.2.1 a0.2.2 (p0.1 : Int) (p1.1 : Int) p2.1 A B (.slice aV A.length cV) (.slice bV B.length dV) w5 → w5.grownBy w7 (ob (.slice bV B.length dV)) → w7.cell? ⟨w.heap.size + 2, 4, none⟩ = some (.slice bV B.length dV) ∧ w7.frozen? ⟨w.heap.size + 2, 4, none⟩ = false from fun w5 w7 g h => by
            have bx : BoxRE (w.heap.size + 2) (p0.1 : Int) (p1.1 : Int) p2.1 (.slice aV A.length cV) (.slice bV B.length dV) w7 := (h.block _ g.x.lt (fun q => by have := g.od _ q.symm; omega)).trans g.x
            exact ⟨bx.c4, bx.f 4⟩)
          have HAL := Lib.hid (show ∀ (w5 : World) (o : Obj), GS w a0.2.1 a0.2.2 (p0.1 : Int) (p1.1 : Int) p2.1 A B (.slice aV A.length cV) (.slice bV B.length dV) w5 → GS w a0.2.1 a0.2.2 (p0.1 : Int) (p1.1 : Int) p2.1 A B (.slice aV A.length cV) (.slice bV B.length dV) (w5.alloc o) from fun w5 o g => g.below ((Below.refl _ _).alloc (Nat.le_refl _) o))
          go_region_law (first
            | (go_simp; go_at_call 44; (with_reducible refine (HD0.out _ HGd.out.r).mono ?_); rintro _ w5 ⟨rfl, r1, q1⟩; have HG5 := Lib.hid (HGd.out.grown q1 r1); have m5 := HG5.out.x.c4; have m6 : ∀ o, (w5.alloc o).cell? ⟨w.heap.size + 2, 4, none⟩ = some (.slice bV B.length dV) := fun o => (HAL.out w5 o HG5.out).x.c4; clear r1 q1; go_wp2_with (fail))
            | (refine step_append_row _ rfl (.tmp 73) (.tmp 76) 26 26 rfl 3 j0 _ 1 8 Tryz.underlying26 hj0 hy0 hys hyb rfl (.slice bV B.length dV) B.length (cellsN B) (by simp [Act.eval]) (HAL.out w5 _ HG5.out).rd _ (by simp [Act.eval]) 1 [.int .i64 (a0.1 : Int)] (srcN_new (a0.1 : Int) w5) H1.out H2.out ?_; intro v7 w7 hrow7 hgrow7 hob7; obtain ⟨n4, o4⟩ := HKX.out _ w7 (HAL.out w5 _ HG5.out) hgrow7; obtain ⟨aW, cW, rfl, -, -⟩ := Row.le hrow7)
            | fail)
          all_goals
            have hrow8 : RowN w7 (.slice aW (B.length + 1) cW) (B ++ [(a0.1 : Int)]) := by
              unfold RowN
              rw [List.length_append, cellsN_append]
              exact hrow7
            have HE7 := Lib.hid ((HAL.out w5 _ HG5.out).addN hrow8 hgrow7 hob7)
            have hBl : (B ++ [(a0.1 : Int)]).length ≤ M := by
              have := (HA.out.1 (by first | rfl | trivial)).1
              simp
              omega
            clear hrow7 hrow8 hgrow7 hob7 n4 o4 m4 m5 m6
          all_goals try simp only [List.getElem_toArray, List.getElem_cons_succ, List.getElem_cons_zero, Act.put, List.setIfInBounds_toArray, List.set_cons_zero, List.set_cons_succ]
          all_goals go_wp2_with fail
          all_goals go_roundw
          all_goals first
            | exact ⟨k + 1, _, _, _, _, by go_num, HE7, HST, by omega, hBl⟩
            | (simp [intOf]; omega)
        | false =>
          have hgo2 : ¬ (k < M ∧ e5 = 0) := fun h => by
            have := HCC2.out.2 h
            simp at this
          have HFN2 := Lib.hid (HA.out.fin (fun he h => hgo2 ⟨h, he⟩))
          have HG7 := Lib.hid (show GS w F.2.1 F.2.2 (p0.1 : Int) (p1.1 : Int) p2.1 A B (.slice aV A.length cV) (.slice bV B.length dV) wr from by
            have hh := HFN2.out
            rw [hh.1]
            exact HG.out.keep (fun _ _ _ => rfl) (HG.out.r.any (fun he => (hh.2 he).2)) HG.out.b)
          have HFD := Lib.hid (show F.2.2 = 0 → F.1 = B from fun h => (HFN2.out.2 (by rw [← HFN2.out.1]; exact h)).1)
          have CE := Lib.hid (rr_end HG7.out.r)
          have r0 := HG7.out.z.c0
          have r1 := HG7.out.z.c1
          have r2 := HG7.out.z.c2
          have r3 := HG7.out.z.c3
          have r4 := HG7.out.z.c4
          have g0 := HG7.out.z.f 0
          have g1 := HG7.out.z.f 1
          have g2 := HG7.out.z.f 2
          have g3 := HG7.out.z.f 3
          have g4 := HG7.out.z.f 4
          have x0 := HG7.out.x.c0
          have x1 := HG7.out.x.c1
          have x2 := HG7.out.x.c2
          have x3 := HG7.out.x.c3
          have x4 := HG7.out.x.c4
          clear HG HA HFN2 hgo2 qe
          by_cases he : rdE F.2.1 F.2.2 = 0
          · rw [he] at CE
            have HF0 := Lib.hid (show F.2.2 = 0 by
              unfold rdE at he
              by_cases h : F.2.2 = 0
              · exact h
              · rw [if_pos h] at he; exact absurd he h)
            have HD0 := Lib.hid (show D.2.2 = 0 from HZD.out HF0.out)
            have HGQ := Lib.hid (show getP l = (⟨(p0.1 : Int), (p1.1 : Int), p2.1, A, B⟩, 0) by rw [HGP.out, he, HAD.out HD0.out, HFD.out HF0.out])
            clear he
            go_wp2_with (go_at_call 48; (with_reducible refine CE.out.mono ?_); rintro _ wz ⟨rfl, rfl⟩)
            refine bodyPost_ret (by simp [results, Tryz.results13, go_sem, r0, r1, r2, r3, r4]; try rfl) rfl ?_
            unfold GetV
            rw [HGQ.out]
            refine ⟨.inr ⟨rfl, .slice aV A.length cV, .slice bV B.length dV, rfl, Row.kept HG7.out.ra (fun q hq => block_set5 _ _ _ _ _ _ _ q (by have := HG7.out.oa q hq; omega)), Row.kept HG7.out.rd (fun q hq => block_set5 _ _ _ _ _ _ _ q (by have := HG7.out.od q hq; omega)), fun q hq => (by have := HG7.out.oa q hq; omega), fun q hq => (by have := HG7.out.od q hq; omega), HG7.out.na⟩, below_set5 HG7.out.b _ (Nat.le_refl _) _ _ _ _ _⟩
          · obtain ⟨ee, hee⟩ : ∃ ee, rdE F.2.1 F.2.2 = ee := ⟨_, rfl⟩
            rw [hee] at CE he
            have de : (ee == 0) = false := by simpa using he
            have HGQ := Lib.hid (show (getP l).2 = ee by rw [HGP.out, ← hee])
            have HNE := Lib.hid he
            clear he hee
            go_wp2_with (go_at_call 48; (with_reducible refine CE.out.mono ?_); rintro _ wz ⟨rfl, rfl⟩)
            refine bodyPost_ret (by simp [results, Tryz.results13, go_sem, r0, r1, r2, r3, r4]; try rfl) rfl ?_
            unfold GetV
            rw [HGQ.out]
            exact ⟨.inl ⟨HNE.out, rfl⟩, below_set5 HG7.out.b _ (Nat.le_refl _) _ _ _ _ _⟩
end Go.Proofs.YtmcgfafkggannaaGreat

namespace Go.Proofs.YtmcgfafkggannaaGreat
open Go.RowKit Go.Shelf

theorem vars_four (a b c d : Nat) : vars [a, b, c, d] = vars [a, b, c] ++ vars [d] := by simp [vars]
theorem vars_one (a : Nat) : vars [a] = Lib.uvarint a := by simp [vars]
theorem text_two (f l : ByteArray) : ntexts [f, l] = (Lib.uvarint f.size ++ f.data.toList) ++ (Lib.uvarint l.size ++ l.data.toList) := by simp [ntexts]
theorem cat_list (A B : ByteArray) : (A ++ B).data.toList = A.data.toList ++ B.data.toList := by simp
theorem cat_size (A B : ByteArray) : (A ++ B).size = A.size + B.size := by simp
theorem ba_ext {A B : ByteArray} (h : A.data.toList = B.data.toList) : A = B := by
  cases A; cases B
  simp only at h
  congr
  exact Array.ext' h
theorem putTs_take {ts : List Tb} {i : Nat} (h : i < ts.length) : putTs (ts.take (i + 1)) = putTs (ts.take i) ++ putT (tabAt ts i) := by rw [take_snocT h, putTs_snoc]
theorem putI_take {ks : List Int} {i : Nat} (h : i < ks.length) : putI (ks.take (i + 1)) = putI (ks.take i) ++ vars [(intAt ks i).toNat] := by rw [take_snocI h, putI_snoc]
def RPutV (e : Ed) (x : Ending) : Prop := x = .returned (PutV e)
theorem rputV_no {e : Ed} (h : canB e = false) : RPutV e (.returned (.tuple #[.string ⟨#[]⟩, .int .i64 1])) := by unfold RPutV PutV; rw [h]; rfl
theorem rputV_yes {e : Ed} {S : ByteArray} (h : canB e = true) (hs : S.data.toList = putE e) : RPutV e (.returned (.tuple #[.string S, .int .i64 0])) := by
  unfold RPutV PutV
  rw [h]
  have : S = ⟨(putE e).toArray⟩ := ba_ext (by rw [hs])
  rw [this]
  rfl
set_option maxHeartbeats 16000000 in
set_option maxRecDepth 100000 in
theorem rput12_any (e : Ed) (va vd : Value) (w : World) (hA : TbsV w va e.add) (hD : IntsV w vd e.drop) (he : e.Ok) :
    Calls Tryz.prog 10 #[ediV e.log e.next e.seq va vd] w fun x w' => RPutV e x ∧ Below w.heap.size w w' := by
  obtain ⟨log, next, seq, add, drop⟩ := e
  obtain ⟨hk1, hk2, hk3, hl1, hl2, hk4, hk5⟩ := he
  simp only at hA hD hk1 hk2 hk3 hl1 hl2 hk4 hk5
  obtain ⟨aa, ac, rfl⟩ := hA.len
  obtain ⟨da, dc, rfl⟩ := hD.len
  unfold ediV
  simp only
  obtain ⟨W1, hW1⟩ : ∃ W1, w.alloc (.cells #[.int .i64 log, .int .i64 next, .int .u64 (seq : Int), .slice aa add.length ac, .slice da drop.length dc] 55) = W1 := ⟨_, rfl⟩
  have b1 : Below w.heap.size w W1 := by rw [← hW1]; exact (Below.refl _ _).alloc (Nat.le_refl _) _
  have y1 : BoxRE w.heap.size log next seq (.slice aa add.length ac) (.slice da drop.length dc) W1 := by rw [← hW1]; exact new_block _ _ rfl
  have HY := Lib.hid y1
  have HB1 := Lib.hid b1
  have HA := Lib.hid (hA.below b1)
  have HD := Lib.hid (hD.below b1)
  have HK4 := Lib.hid hk4
  have HK5 := Lib.hid hk5
  have HBX := Lib.hid (show ∀ W, Below W1.heap.size W1 W → Below w.heap.size w W from fun W h => b1.trans (h.mono b1.size))
  have p0 := y1.c0
  have p1 := y1.c1
  have p2 := y1.c2
  have p3 := y1.c3
  clear hA hD b1 y1 hk4 hk5
  go_enter Tryz.func10, Tryz.ntmps10
  go_upto_region 1 with fail
  try rw [hW1]
  clear hW1
  by_cases g1 : log < 0
  · have d1 : decide (log < 0) = true := decide_eq_true g1
    have HNO := Lib.hid (rputV_no (e := ⟨log, next, seq, add, drop⟩) (by unfold canB; simp only; rw [decide_eq_false (by omega)]; rfl))
    clear g1
    go_wp2_with fail
    go_ret2
    exact ⟨HNO.out, HB1.out⟩
  have d1 : decide (log < 0) = false := decide_eq_false g1
  by_cases g2 : next < 0
  · have d2 : decide (next < 0) = true := decide_eq_true g2
    have HNO := Lib.hid (rputV_no (e := ⟨log, next, seq, add, drop⟩) (by unfold canB; simp only; rw [decide_eq_false (by omega)]; rfl))
    clear g1 g2
    go_wp2_with fail
    go_ret2
    exact ⟨HNO.out, HB1.out⟩
  have d2 : decide (next < 0) = false := decide_eq_false g2
  obtain ⟨log, rfl⟩ : ∃ m : Nat, log = (m : Int) := ⟨log.toNat, by omega⟩
  obtain ⟨next, rfl⟩ : ∃ m : Nat, next = (m : Int) := ⟨next.toNat, by omega⟩
  have hw1 : IntKind.u64.wrap (log : Int) = (log : Int) := by rw [IntKind.wrap_u64]; omega
  have hw2 : IntKind.u64.wrap (next : Int) = (next : Int) := by rw [IntKind.wrap_u64]; omega
  have hw3 : IntKind.u64.wrap (add.length : Int) = (add.length : Int) := by rw [IntKind.wrap_u64]; omega
  have hw4 : IntKind.u64.wrap (drop.length : Int) = (drop.length : Int) := by rw [IntKind.wrap_u64]; omega
  have HCB := Lib.hid (show canB ⟨(log : Int), (next : Int), seq, add, drop⟩ = (add.all tabPos && drop.all fun k => decide (0 ≤ k)) by
    unfold canB
    simp only
    rw [decide_eq_true (by omega), Bool.true_and])
  obtain ⟨pre, hpre⟩ : ∃ pre, vars [log, next, seq] ++ vars [add.length] = pre := ⟨_, rfl⟩
  have hprel : pre.length ≤ 40 := by
    rw [← hpre, List.length_append]
    have h1 := three_vars log next seq (by omega) (by omega) hk3
    have h2 := one_vars add.length (by omega)
    omega
  have HPE := Lib.hid (show putE ⟨(log : Int), (next : Int), seq, add, drop⟩ = pre ++ (putTs add ++ (vars [drop.length] ++ putI drop)) by
    unfold putE
    simp only
    rw [← hpre, List.append_assoc]
    rfl)
  obtain ⟨U0, hU0⟩ : ∃ U : ByteArray, ⟨(vars [log, next, seq, add.length]).toArray⟩ = U := ⟨_, rfl⟩
  have HU0 := Lib.hid (show U0.data.toList = pre by rw [← hU0, ← hpre, vars_four])
  have hU0s : U0.size ≤ 40 := by rw [← len_data', HU0.out]; exact hprel
  have C0 := Lib.hid (show Calls Tryz.prog 34 #[.slice (some ⟨W1.heap.size, 0, none⟩) 4 4] (W1.alloc (.cells #[.int .u64 (log : Int), .int .u64 (next : Int), .int .u64 (seq : Int), .int .u64 (add.length : Int)] 22)) fun x w' => x = .returned (.string U0) ∧ Below (W1.alloc (.cells #[.int .u64 (log : Int), .int .u64 (next : Int), .int .u64 (seq : Int), .int .u64 (add.length : Int)] 22)).heap.size (W1.alloc (.cells #[.int .u64 (log : Int), .int .u64 (next : Int), .int .u64 (seq : Int), .int .u64 (add.length : Int)] 22)) w' from by
    rw [← hU0]
    exact refVars_any W1.heap.size 0 4 [log, next, seq, add.length] _ (by simp; omega) (by simp) (fun i hi => by
      match i, hi with
      | 0, _ => exact nce rfl rfl
      | 1, _ => exact nce rfl rfl
      | 2, _ => exact nce rfl rfl
      | 3, _ => exact nce rfl rfl) (by simp))
  clear hU0 hpre g1 g2
  go_wp2_with fail
  go_at_call 34
  (with_reducible refine C0.out.mono ?_)
  rintro _ w2 ⟨rfl, hb2⟩
  have HB2 := Lib.hid (show Below W1.heap.size W1 w2 from ((Below.refl _ _).alloc (Nat.le_refl _) _).trans (hb2.mono (by simp)))
  clear hb2 C0 p0 p1 p2 p3
  go_upto_region 5 with fail
  go_loopw [4, 5] (fun sv iv wr => ∃ (i : Nat) (U : ByteArray), sv = .string U ∧ iv = .int .i64 (i : Int) ∧ i ≤ add.length ∧ U.size ≤ 40 + i * 18050 ∧ Hid (U.data.toList = pre ++ putTs (add.take i)) ∧ Hid ((add.take i).all tabPos = true) ∧ Hid (Below W1.heap.size W1 wr)) (fun _ iv _ => add.length - (intOf iv).toNat)
  case atStart => exact ⟨0, U0, rfl, rfl, Nat.zero_le _, by omega, Lib.hid (by rw [HU0.out]; simp [putTs]), Lib.hid rfl, HB2⟩
  case round =>
    obtain ⟨i, U, rfl, rfl, hi, hUs, HU, HAL, HBL⟩ := hrel
    have q3 := (HY.out.below HBL.out).c3
    by_cases hlt : i < add.length
    · obtain ⟨b, off, rfl, hblt, hcell⟩ := (HA.out.below HBL.out).at hlt
      have hmem : tabAt add i ∈ add := by rw [tabAt_get hlt]; exact List.getElem_mem _
      obtain ⟨hkx, hsx⟩ := HK4.out _ hmem
      have HTK := Lib.hid (putTs_take hlt)
      have HAT := Lib.hid (fun h => all_takeT (f := tabPos) hlt HAL.out h)
      have HAN := Lib.hid (fun h => all_notT (f := tabPos) hlt h)
      generalize tabAt add i = x at *
      obtain ⟨n1, l1, z1, f1, g1⟩ := x
      unfold Tb.Ok maxLen at hkx
      unfold Tb.Short at hsx
      simp only at hkx hsx
      have c0 : wr.cell? ⟨b, off + i * 5, none⟩ = some (.int .i64 n1) := hcell 0 _ rfl
      have c1 : wr.cell? ⟨b, off + i * 5 + 1, none⟩ = some (.int .i64 l1) := hcell 1 _ rfl
      have c2 : wr.cell? ⟨b, off + i * 5 + 2, none⟩ = some (.int .i64 z1) := hcell 2 _ rfl
      have c3 : wr.cell? ⟨b, off + i * 5 + 3, none⟩ = some (.string f1) := hcell 3 _ rfl
      have c4 : wr.cell? ⟨b, off + i * 5 + 4, none⟩ = some (.string g1) := hcell 4 _ rfl
      have hiI : (i : Int) < (add.length : Int) := by omega
      obtain ⟨W2, hW2⟩ : ∃ W2, wr.alloc (.cells #[.int .i64 n1, .int .i64 l1, .int .i64 z1, .string f1, .string g1] 80) = W2 := ⟨_, rfl⟩
      have b2 : Below wr.heap.size wr W2 := by rw [← hW2]; exact (Below.refl _ _).alloc (Nat.le_refl _) _
      have HBW := Lib.hid (show Below W1.heap.size W1 W2 from HBL.out.trans (b2.mono HBL.out.size))
      have HT2 := Lib.hid (show BoxB wr.heap.size ⟨n1, l1, z1, f1, g1⟩ W2 by rw [← hW2]; exact new_block _ _ rfl)
      clear hcell b2 hmem
      go_upto_region 8 with fail
      try rw [hW2]
      clear hW2 c0 c1 c2 c3 c4 q3
      obtain ⟨X, hX⟩ : ∃ X, wr.heap.size = X := ⟨_, rfl⟩
      rw [hX] at HT2 ⊢
      clear hX
      have c0 := HT2.out.c0
      have c1 := HT2.out.c1
      have c2 := HT2.out.c2
      have c3 := HT2.out.c3
      have c4 := HT2.out.c4
      simp only at c0 c1 c2 c3 c4
      by_cases h1 : n1 < 0
      · have e1 : decide (n1 < 0) = true := decide_eq_true h1
        have HNO := Lib.hid (rputV_no (e := ⟨(log : Int), (next : Int), seq, add, drop⟩) (by rw [HCB.out, HAN.out (by unfold tabPos; simp only; rw [decide_eq_false (by omega)])]; rfl))
        clear h1
        go_wp2_with fail
        go_ret2
        exact ⟨HNO.out, HBX.out _ HBW.out⟩
      have e1 : decide (n1 < 0) = false := decide_eq_false h1
      by_cases h2 : l1 < 0
      · have e2 : decide (l1 < 0) = true := decide_eq_true h2
        have HNO := Lib.hid (rputV_no (e := ⟨(log : Int), (next : Int), seq, add, drop⟩) (by rw [HCB.out, HAN.out (by unfold tabPos; simp only; rw [decide_eq_false (by omega)])]; rfl))
        clear h1 h2
        go_wp2_with fail
        go_ret2
        exact ⟨HNO.out, HBX.out _ HBW.out⟩
      have e2 : decide (l1 < 0) = false := decide_eq_false h2
      by_cases h3 : z1 < 0
      · have e3 : decide (z1 < 0) = true := decide_eq_true h3
        have HNO := Lib.hid (rputV_no (e := ⟨(log : Int), (next : Int), seq, add, drop⟩) (by rw [HCB.out, HAN.out (by unfold tabPos; simp only; rw [decide_eq_false (by omega)])]; rfl))
        clear h1 h2 h3
        go_wp2_with fail
        go_ret2
        exact ⟨HNO.out, HBX.out _ HBW.out⟩
      have e3 : decide (z1 < 0) = false := decide_eq_false h3
      obtain ⟨n1, rfl⟩ : ∃ m : Nat, n1 = (m : Int) := ⟨n1.toNat, by omega⟩
      obtain ⟨l1, rfl⟩ : ∃ m : Nat, l1 = (m : Int) := ⟨l1.toNat, by omega⟩
      obtain ⟨z1, rfl⟩ : ∃ m : Nat, z1 = (m : Int) := ⟨z1.toNat, by omega⟩
      have v1 : IntKind.u64.wrap (n1 : Int) = (n1 : Int) := by rw [IntKind.wrap_u64]; omega
      have v2 : IntKind.u64.wrap (l1 : Int) = (l1 : Int) := by rw [IntKind.wrap_u64]; omega
      have v3 : IntKind.u64.wrap (z1 : Int) = (z1 : Int) := by rw [IntKind.wrap_u64]; omega
      have HAY := Lib.hid (HAT.out (by unfold tabPos; simp only; exact decide_eq_true (by omega)))
      clear h1 h2 h3
      go_upto_region 10 with fail
      obtain ⟨A1, hA1⟩ : ∃ A : ByteArray, ⟨(vars [n1, l1, z1]).toArray⟩ = A := ⟨_, rfl⟩
      obtain ⟨A2, hA2⟩ : ∃ A : ByteArray, ⟨(Lib.uvarint f1.size ++ f1.data.toList).toArray⟩ = A := ⟨_, rfl⟩
      obtain ⟨A3, hA3⟩ : ∃ A : ByteArray, ⟨(Lib.uvarint g1.size ++ g1.data.toList).toArray⟩ = A := ⟨_, rfl⟩
      have s1 : A1.size ≤ 30 := by rw [← hA1, ba_size]; exact three_vars n1 l1 z1 (by omega) (by omega) (by omega)
      have s2 : A2.size ≤ 9010 := by rw [← hA2, ba_size, List.length_append, len_data']; have := Lib.uvarint_length64 (x := f1.size) (by omega); omega
      have s3 : A3.size ≤ 9010 := by rw [← hA3, ba_size, List.length_append, len_data']; have := Lib.uvarint_length64 (x := g1.size) (by omega); omega
      have CV := Lib.hid (show Calls Tryz.prog 34 #[.slice (some ⟨W2.heap.size, 0, none⟩) 3 3] (W2.alloc (.cells #[.int .u64 (n1 : Int), .int .u64 (l1 : Int), .int .u64 (z1 : Int)] 22)).drew fun x w' => x = .returned (.string A1) ∧ Below (W2.alloc (.cells #[.int .u64 (n1 : Int), .int .u64 (l1 : Int), .int .u64 (z1 : Int)] 22)).drew.heap.size (W2.alloc (.cells #[.int .u64 (n1 : Int), .int .u64 (l1 : Int), .int .u64 (z1 : Int)] 22)).drew w' from by
        rw [← hA1]
        exact refVars_any W2.heap.size 0 3 [n1, l1, z1] _ (by simp; omega) (by simp) (fun i hi => by
          match i, hi with
          | 0, _ => exact nce (w := W2) rfl rfl
          | 1, _ => exact nce (w := W2) rfl rfl
          | 2, _ => exact nce (w := W2) rfl rfl) (by simp))
      have CF := Lib.hid (show ∀ W, Calls Tryz.prog 35 #[.string f1] W fun x w' => x = .returned (.string A2) ∧ Below W.heap.size W w' from fun W => by rw [← hA2]; exact refText_any f1 W (by omega))
      have CG := Lib.hid (show ∀ W, Calls Tryz.prog 35 #[.string g1] W fun x w' => x = .returned (.string A3) ∧ Below W.heap.size W w' from fun W => by rw [← hA3]; exact refText_any g1 W (by omega))
      have HCA := Lib.hid (show (U ++ A1 ++ A2 ++ A3).data.toList = pre ++ putTs (add.take (i + 1)) by
        rw [cat_list, cat_list, cat_list, HU.out, HTK.out, ← hA1, ← hA2, ← hA3]
        unfold putT
        simp only
        rw [text_two]
        simp)
      obtain ⟨S1, hS1⟩ : ∃ S, U ++ A1 = S := ⟨_, rfl⟩
      obtain ⟨S2, hS2⟩ : ∃ S, S1 ++ A2 = S := ⟨_, rfl⟩
      obtain ⟨S3, hS3⟩ : ∃ S, S2 ++ A3 = S := ⟨_, rfl⟩
      have z1' : S1.size ≤ 40 + i * 18050 + 30 := by rw [← hS1, cat_size]; omega
      have z2' : S2.size ≤ 40 + i * 18050 + 9040 := by rw [← hS2, cat_size]; omega
      have z3' : S3.size ≤ 40 + (i + 1) * 18050 := by rw [← hS3, cat_size]; omega
      have i1 : ¬ (9223372036854775807 < U.size + A1.size) := by omega
      have i2 : ¬ (9223372036854775807 < S1.size + A2.size) := by omega
      have i3 : ¬ (9223372036854775807 < S2.size + A3.size) := by omega
      rw [hS1, hS2, hS3] at HCA
      have HBZ := Lib.hid (show Below W1.heap.size W1 (W2.alloc (.cells #[.int .u64 (n1 : Int), .int .u64 (l1 : Int), .int .u64 (z1 : Int)] 22)).drew from (HBW.out.alloc HBW.out.size _).drew)
      have HTZ := Lib.hid (show ∀ W, Below (W2.alloc (.cells #[.int .u64 (n1 : Int), .int .u64 (l1 : Int), .int .u64 (z1 : Int)] 22)).drew.heap.size (W2.alloc (.cells #[.int .u64 (n1 : Int), .int .u64 (l1 : Int), .int .u64 (z1 : Int)] 22)).drew W → W.cell? ⟨X, 0, none⟩ = some (.int .i64 (n1 : Int)) ∧ W.cell? ⟨X, 1, none⟩ = some (.int .i64 (l1 : Int)) ∧ W.cell? ⟨X, 2, none⟩ = some (.int .i64 (z1 : Int)) ∧ W.cell? ⟨X, 3, none⟩ = some (.string f1) ∧ W.cell? ⟨X, 4, none⟩ = some (.string g1) from fun W h => by
        have hb := (HT2.out.below ((Below.refl W2.heap.size W2).alloc (Nat.le_refl _) (.cells #[.int .u64 (n1 : Int), .int .u64 (l1 : Int), .int .u64 (z1 : Int)] 22))).below (w' := W) (h.mono (Nat.le_refl _) |> fun k => ⟨k.os, k.tape, k.output, k.size, k.block⟩)
        exact ⟨hb.c0, hb.c1, hb.c2, hb.c3, hb.c4⟩)
      clear hA1 hA2 hA3 s1 s2 s3 hkx hsx z1' z2'
      go_region_held3 (fun W => W.cell? ⟨X, 0, none⟩ = some (.int .i64 (n1 : Int)) ∧ W.cell? ⟨X, 1, none⟩ = some (.int .i64 (l1 : Int)) ∧ W.cell? ⟨X, 2, none⟩ = some (.int .i64 (z1 : Int)) ∧ W.cell? ⟨X, 3, none⟩ = some (.string f1) ∧ W.cell? ⟨X, 4, none⟩ = some (.string g1))
        (first | (go_keep; done) | exact HTZ.out _ (Below.refl _ _) | exact HTZ.out _ hb3 | exact HTZ.out _ HBb.out | exact HTZ.out _ HBd.out)
        (first
          | (go_at_call 34; (with_reducible refine CV.out.mono ?_); rintro _ w3 ⟨rfl, hb3⟩)
          | (go_at_call 35; (with_reducible refine (CF.out _).mono ?_); rintro _ w4 ⟨rfl, hb4⟩; have HBb := Lib.hid (hb3.trans (hb4.mono hb3.size)))
          | (go_at_call 35; (with_reducible refine (CG.out _).mono ?_); rintro _ w5 ⟨rfl, hb5⟩; have HBd := Lib.hid (HBb.out.trans (hb5.mono HBb.out.size)))
          | fail)
      all_goals
        have HB5 := Lib.hid (show Below W1.heap.size W1 w5 from HBZ.out.trans (HBd.out.mono HBZ.out.size))
      all_goals go_wp2_with fail
      all_goals go_roundw
      all_goals first
        | exact ⟨i + 1, S3, by rw [hS1, hS2, hS3], by go_num, by omega, z3', HCA, HAY, HB5⟩
        | exact ⟨i + 1, S3, rfl, by go_num, by omega, z3', HCA, HAY, HB5⟩
        | (simp [intOf]; omega)
    · obtain rfl : i = add.length := by omega
      have hd : decide ((add.length : Int) < (add.length : Int)) = false := by simp
      rw [List.take_length] at HU HAL
      have q4 := (HY.out.below HBL.out).c4
      obtain ⟨A1, hA1⟩ : ∃ A : ByteArray, ⟨(Lib.uvarint drop.length).toArray⟩ = A := ⟨_, rfl⟩
      have s1 : A1.size ≤ 10 := by rw [← hA1, ba_size]; exact Lib.uvarint_length64 (by omega)
      have CV := Lib.hid (show ∀ W, Calls Tryz.prog 36 #[.int .u64 (drop.length : Int)] W fun x w' => x = .returned (.string A1) ∧ Below W.heap.size W w' from fun W => by rw [← hA1]; exact refVar_any drop.length (by omega) W)
      obtain ⟨S1, hS1⟩ : ∃ S, U ++ A1 = S := ⟨_, rfl⟩
      have z1 : S1.size ≤ 50 + add.length * 18050 := by rw [← hS1, cat_size]; omega
      have i1 : ¬ (9223372036854775807 < U.size + A1.size) := by omega
      have HS1 := Lib.hid (show S1.data.toList = pre ++ (putTs add ++ vars [drop.length]) by rw [← hS1, cat_list, HU.out, ← hA1, vars_one]; simp)
      clear hA1 s1
      go_wp2_with fail
      go_at_call 36
      (with_reducible refine (CV.out _).mono ?_)
      rintro _ w3 ⟨rfl, hb3⟩
      have HB3 := Lib.hid (show Below W1.heap.size W1 w3 from HBL.out.trans (hb3.mono HBL.out.size))
      clear hb3 CV q3 q4
      go_upto_region 13 with fail
      try rw [hS1]
      clear hS1
      go_loopw [4, 7] (fun sv iv wr => ∃ (k : Nat) (U : ByteArray), sv = .string U ∧ iv = .int .i64 (k : Int) ∧ k ≤ drop.length ∧ U.size ≤ 50 + add.length * 18050 + k * 10 ∧ Hid (U.data.toList = pre ++ (putTs add ++ (vars [drop.length] ++ putI (drop.take k)))) ∧ Hid ((drop.take k).all (fun k => decide (0 ≤ k)) = true) ∧ Hid (Below W1.heap.size W1 wr)) (fun _ iv _ => drop.length - (intOf iv).toNat)
      case atStart => exact ⟨0, S1, rfl, rfl, Nat.zero_le _, by omega, Lib.hid (by rw [HS1.out]; simp [putI]), Lib.hid rfl, HB3⟩
      case round =>
        clear HU HBL
        obtain ⟨k, U, rfl, rfl, hk, hUs, HU, HDL, HBL⟩ := hrel
        have q4 := (HY.out.below HBL.out).c4
        by_cases hkl : k < drop.length
        · obtain ⟨bd, od, rfl, hbd, hcd⟩ := (HD.out.below HBL.out).at hkl
          have hmem : intAt drop k ∈ drop := by rw [intAt_get hkl]; exact List.getElem_mem _
          have hkd := HK5.out _ hmem
          have HTK := Lib.hid (putI_take hkl)
          have HAT := Lib.hid (fun h => all_takeI (f := fun k => decide (0 ≤ k)) hkl HDL.out h)
          have HAN := Lib.hid (fun h => all_notI (f := fun k => decide (0 ≤ k)) hkl h)
          generalize intAt drop k = d at *
          have hkI : (k : Int) < (drop.length : Int) := by omega
          clear hmem
          by_cases h1 : d < 0
          · have e1 : decide (d < 0) = true := decide_eq_true h1
            have HNO := Lib.hid (rputV_no (e := ⟨(log : Int), (next : Int), seq, add, drop⟩) (by rw [HCB.out, HAN.out (decide_eq_false (by omega)), Bool.and_false]))
            clear h1
            go_wp2_with fail
            go_ret2
            exact ⟨HNO.out, HBX.out _ HBL.out⟩
          have e1 : decide (d < 0) = false := decide_eq_false h1
          obtain ⟨d, rfl⟩ : ∃ m : Nat, d = (m : Int) := ⟨d.toNat, by omega⟩
          have v1 : IntKind.u64.wrap (d : Int) = (d : Int) := by rw [IntKind.wrap_u64]; omega
          have HAY := Lib.hid (HAT.out (decide_eq_true (by omega)))
          obtain ⟨A1, hA1⟩ : ∃ A : ByteArray, ⟨(Lib.uvarint d).toArray⟩ = A := ⟨_, rfl⟩
          have s1 : A1.size ≤ 10 := by rw [← hA1, ba_size]; exact Lib.uvarint_length64 (by omega)
          have CV := Lib.hid (show ∀ W, Calls Tryz.prog 36 #[.int .u64 (d : Int)] W fun x w' => x = .returned (.string A1) ∧ Below W.heap.size W w' from fun W => by rw [← hA1]; exact refVar_any d (by omega) W)
          obtain ⟨S2, hS2⟩ : ∃ S, U ++ A1 = S := ⟨_, rfl⟩
          have z2 : S2.size ≤ 50 + add.length * 18050 + (k + 1) * 10 := by rw [← hS2, cat_size]; omega
          have i2 : ¬ (9223372036854775807 < U.size + A1.size) := by omega
          have HS2 := Lib.hid (show S2.data.toList = pre ++ (putTs add ++ (vars [drop.length] ++ putI (drop.take (k + 1)))) by rw [← hS2, cat_list, HU.out, HTK.out, ← hA1, vars_one, vars_one]; simp)
          clear hA1 s1 h1 hkd
          go_wp2_with fail
          go_at_call 36
          (with_reducible refine (CV.out _).mono ?_)
          rintro _ w4 ⟨rfl, hb4⟩
          have HB4 := Lib.hid (show Below W1.heap.size W1 w4 from HBL.out.trans (hb4.mono HBL.out.size))
          clear hb4 CV q4
          go_wp2_with fail
          go_roundw
          case rel => exact ⟨k + 1, S2, rfl, by go_num, by omega, z2, HS2, HAY, HB4⟩
          case measure => simp [intOf]; omega
        · obtain rfl : k = drop.length := by omega
          have hd2 : decide ((drop.length : Int) < (drop.length : Int)) = false := by simp
          rw [List.take_length] at HU HDL
          have HYES := Lib.hid (rputV_yes (e := ⟨(log : Int), (next : Int), seq, add, drop⟩) (S := U) (by rw [HCB.out, HAL.out, HDL.out]; rfl) (by rw [HU.out, HPE.out]))
          go_wp2_with fail
          go_ret2
          exact ⟨HYES.out, HBX.out _ HBL.out⟩
end Go.Proofs.YtmcgfafkggannaaGreat
