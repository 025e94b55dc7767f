/- merge's heads: Push and Pop. -/
import Derived.Test.YtcbailiniigcnaaGreatHM4
namespace Go.Proofs.YtcbailiniigcnaaGreat
open Go.ChangeShapes Go.WideShapes Go.ChangeAt Go.Deep Go.RowKit Go.Lib

theorem infoH : (Tryz.prog.info? 170).map (fun i => (i.zero, i.size, i.bytes)) = some (some (.agg #[.slice none 0 0, .int .i64 0]), 2, 32) := by kernel_rfl
theorem info_parts14 {n : Nat} {z : Value} {size bytes : Nat} (h : (Tryz.prog.info? n).map (fun i => (i.zero, i.size, i.bytes)) = some (some z, size, bytes)) : ∃ i, Tryz.prog.info? n = some i ∧ i.zero = some z ∧ i.size = size ∧ i.bytes = bytes := by
  cases hi : Tryz.prog.info? n with
  | none => rw [hi] at h; cases h
  | some i =>
    rw [hi] at h
    simp only [Option.map_some, Option.some.injEq, Prod.mk.injEq] at h
    exact ⟨i, rfl, h.1, h.2.1, h.2.2⟩
theorem cellsH_append (H K : List Hd) : cellsH (H ++ K) = cellsH H ++ cellsH K := by
  unfold cellsH
  rw [List.flatMap_append]
theorem tHead (X : Value) (w : World) : (Instr.typeAssert (.iface 170 X) 20 170 false).run Tryz.prog w = .ok X w := by kernel_rfl
/-- The array of a heap: as it was, or a new one. -/
def ObN (w : World) (v v' : Value) : Prop := ob v' = ob v ∨ ∃ b, ob v' = some b ∧ w.heap.size ≤ b
/-- A new slice in the box. -/
theorem HpI.store {B p : Nat} {v v' : Value} {H H' : List Hd} {w w5 : World} {F : List Nat} (h : HpI B w p v H) (ht : Turn F w w5) (hF : ∀ x ∈ F, x ≠ p ∧ B ≤ x) (hr : Row w5 170 2 v' H'.length (cellsH H')) (ho : ∀ b, ob v' = some b → B ≤ b ∧ b ≠ p) (hd : ∀ x ∈ H', HdAt B w x) :
    HpI B (w5.setCell ⟨p, 0, none⟩ v') p v' H' ∧ Turn (p :: F) w (w5.setCell ⟨p, 0, none⟩ v') := by
  have hp5 : w5.heap[p]? = some (.cells #[v] 167 (0, 0)) := (ht.block p h.at_.lt (fun e => (hF p e).1 rfl)).trans h.at_.1
  have ht2 : Turn (p :: F) w (w5.setCell ⟨p, 0, none⟩ v') := (ht.mono (fun x hx => .inl (List.mem_cons_of_mem _ hx))).setCell (.inl (by simp)) _
  refine ⟨⟨⟨?_, ?_⟩, h.box, fun b hb => (ho b hb).1, fun x hx => (hd x hx).turn ht2 h.lt (fun y hy => ?_)⟩, ht2⟩
  · have := heap_setCell_same w5 p 0 _ _ v' hp5
    simpa using this
  · exact hr.kept fun k hk => heap_setCell_other _ _ _ _ (ho k hk).2
  · rcases List.mem_cons.1 hy with rfl | hy
    · exact h.box
    · exact (hF y hy).2
set_option maxHeartbeats 4000000 in
set_option maxRecDepth 100000 in
theorem hpush_any (B p : Nat) (v : Value) (H : List Hd) (x : Hd) (w : World) (h : HpI B w p v H) (hx : HdAt B w x) (hN : H.length ≤ 1000000) :
    Calls Tryz.prog 141 #[.pointer (some ⟨p, 0, none⟩), .iface 170 x.val] w fun e w' => e = .returned (.tuple #[]) ∧ ∃ v', HpI B w' p v' (H ++ [x]) ∧ Turn (hblk p v) w w' ∧ ObN w v v' := by
  obtain ⟨i0, hi0, hz0, hz1, hz2⟩ := info_parts14 infoH
  have hcell := h.at_.cell
  have hwarm := h.at_.warm 0
  have hpl := h.at_.lt
  have hap := h.at_.apart
  have HR := Lib.hid h.at_.2
  have HH := Lib.hid h
  have HX := Lib.hid hx
  have HBa := Lib.hid (show H.length + 1 ≤ maxLen by unfold maxLen; omega)
  have HBb := Lib.hid (show (H.length + 1) * 32 ≤ 140737488355328 by omega)
  have HEQ := Lib.hid (show cellsH (H ++ [x]) = cellsH H ++ [.slice x.a x.l.length x.c, .int .i64 (x.i : Int)] from by rw [cellsH_append]; rfl)
  unfold Hd.val
  generalize x.l.length = xl at *
  generalize (x.i : Int) = xi at *
  generalize x.a = xa at *
  generalize x.c = xc at *
  have TA := tHead
  have HB1 := Lib.hid (((Below.refl w.heap.size w).alloc (Nat.le_refl _) (.cells #[.slice xa xl xc, .int .i64 xi] 170)).drew)
  have HR2 := Lib.hid (row_below HR.out HB1.out)
  have HC2 := Lib.hid ((HB1.out.cell (p := ⟨p, 0, none⟩) hpl).trans hcell)
  have HF2 := Lib.hid ((World.frozen?_of_block (HB1.out.block p hpl)).trans hwarm)
  have HPL := Lib.hid (Nat.lt_of_lt_of_le hpl HB1.out.size)
  have HS := Lib.hid (show Src Tryz.prog 2 167 (.slice (some ⟨w.heap.size, 0, none⟩) 1 1) 1 [.slice xa xl xc, .int .i64 xi] ((w.alloc (.cells #[.slice xa xl xc, .int .i64 xi] 170)).drew) from Src.ofSlice (P := Tryz.prog) _ (size := 2) Tryz.underlying167 ⟨w.heap.size, 0, none⟩ 1 1 _ rfl (fun j u hu => by
    match j, hu with
    | 0, hu => simpa [Addr.add] using hu
    | 1, hu => simpa [Addr.add] using hu) (by simp [Value.oneCell']))
  clear h hx hN
  go_enter Tryz.func141, Tryz.ntmps141
  go_wp2_with fail
  go_region_law (refine step_append_row _ rfl (.tmp 7) (.tmp 10) 167 167 rfl 170 i0 _ 2 32 Tryz.underlying167 hi0 hz0 hz1 hz2 rfl v _ _ (by simp [Act.eval]) HR2.out _ (by simp [Act.eval]) 1 _ HS.out HBa.out HBb.out ?_; intro v' w5 hrow5 hgrow5 hob5; obtain ⟨a5, c5, rfl, -, -⟩ := hrow5.le; have k58 : w5.cell? ⟨p, 0, none⟩ = some v := (hgrow5.cell (a := ⟨p, 0, none⟩) HC2.out (Ne.symm hap)); have f58 : w5.frozen? ⟨p, 0, none⟩ = false := (World.frozen?_of_block (hgrow5.block p HPL.out (Ne.symm hap))).trans HF2.out)
  all_goals
    have hb5 := HB1.out
    have HO := Lib.hid (show ObN w v (.slice a5 (H.length + 1) c5) from by
      rcases hob5 with e | ⟨e, -⟩
      · exact .inl e
      · exact .inr ⟨_, e, hb5.size⟩)
    have ht5 : Turn (ob v).toList w w5 := (turn_of_below (F := (ob v).toList) hb5).trans (turn_of_grown (F := (ob v).toList) hgrow5 (fun k hk => .inl (by rw [hk]; simp))) (fun x hx => .inl hx)
    have HE := Lib.hid (HH.out.store (v' := .slice a5 (H.length + 1) c5) (H' := H ++ [x]) ht5 (fun y hy => by
      have hy2 : ob v = some y := by
        cases hv : ob v with
        | none => rw [hv] at hy; simp at hy
        | some z => rw [hv] at hy; simp at hy; rw [hy]
      exact ⟨fun e => hap (by rw [hy2, e]), HH.out.arr y hy2⟩) (by rw [HEQ.out, List.length_append]; exact hrow5) (fun b hb => by
      rcases HO.out with e | ⟨b', e, hge⟩
      · rw [e] at hb
        exact ⟨HH.out.arr b hb, fun e2 => hap (by rw [hb, e2])⟩
      · rw [hb] at e
        cases e
        exact ⟨Nat.le_trans HH.out.lt hge, by omega⟩) (fun y hy => by
      rcases List.mem_append.1 hy with hy | hy
      · exact HH.out.hds y hy
      · simp at hy
        rw [hy]
        exact HX.out))
    clear hb5 ht5 hrow5 hgrow5 hob5
  all_goals go_wp2
  all_goals first | go_end0 | refine bodyPost_ret (results_none rfl _ _ _) rfl ?_
  all_goals exact ⟨rfl, _, HE.out.1, HE.out.2, HO.out⟩
theorem getD_last (K : List Hd) (y : Hd) : (K ++ [y]).getD K.length Hd.zero = y := by
  rw [List.getD_eq_getElem?_getD, List.getElem?_append_right (Nat.le_refl _)]
  simp
set_option maxHeartbeats 4000000 in
set_option maxRecDepth 100000 in
theorem hpop_any (B p : Nat) (v : Value) (K : List Hd) (y : Hd) (w : World) (h : HpI B w p v (K ++ [y])) (hN : K.length ≤ 1000000) :
    Calls Tryz.prog 140 #[.pointer (some ⟨p, 0, none⟩)] w fun e w' => e = .returned (.iface 170 y.val) ∧ ∃ v', HpI B w' p v' K ∧ Turn (hblk p v) w w' ∧ ob v' = ob v := by
  obtain ⟨g, c, hv, hgp, hgl, hc1, hc2⟩ := h.open (by simp)
  obtain ⟨n, hn⟩ : ∃ n, n = K.length + 1 := ⟨_, rfl⟩
  obtain ⟨m, hm⟩ : ∃ m, m = K.length := ⟨_, rfl⟩
  have hlen : (K ++ [y]).length = n := by rw [List.length_append, hn]; rfl
  rw [hlen] at hv hc1
  have hcell := h.at_.cell
  rw [hv] at hcell
  have hwarm := h.at_.warm 0
  have hpl := h.at_.lt
  have hrow := h.at_.2
  rw [hv, hlen] at hrow
  obtain ⟨y0, y1⟩ := hsAt_of (by rw [hlen]; exact hrow) hlen.symm m (by omega)
  rw [hm, getD_last, ← hm, Nat.zero_add] at y0 y1
  have s1 : (n : Int) - 1 = (m : Int) := by omega
  have s2 : IntKind.i64.wrap (m : Int) = (m : Int) := by rw [IntKind.wrap_i64]; omega
  have u1 : (0 : Int) ≤ (m : Int) := by omega
  have u2 : (m : Int) < (n : Int) := by omega
  have u3 : (m : Int) ≤ (c : Int) := by omega
  have u4 : m ≤ c := by omega
  have HH := Lib.hid h
  have HROW := Lib.hid hrow
  have HV := Lib.hid hv
  have HM := Lib.hid (show m = K.length ∧ n = K.length + 1 ∧ n ≤ c from ⟨hm, hn, hc1⟩)
  unfold Hd.val
  generalize y.l.length = yl at *
  generalize (y.i : Int) = yi at *
  generalize y.a = ya at *
  generalize y.c = yc at *
  have HB1 := Lib.hid ((Below.refl w.heap.size w).alloc (Nat.le_refl _) (.cells #[.slice ya yl yc, .int .i64 yi] 170))
  clear h hrow hv hm hn hc1 hlen
  go_enter Tryz.func140, Tryz.ntmps140
  go_wp2_with fail
  go_ret
  obtain ⟨rfl, -, -⟩ := HM.out
  have hr := HROW.out.cut K.length (by omega) rfl
  rw [cellsH_append, List.take_left' (cellsH_length K)] at hr
  obtain ⟨c', rfl⟩ : ∃ c', c = c' + 1 := ⟨c - 1, by have := HM.out; omega⟩
  have hob : ob (.slice (some ⟨g, 0, none⟩) K.length (c' + 1)) = ob v := by rw [HV.out]; rfl
  obtain ⟨q1, q2⟩ := HH.out.store (v' := .slice (some ⟨g, 0, none⟩) K.length (c' + 1)) (H' := K) (Turn.refl [] w) (by simp) hr (fun b hb => ⟨HH.out.arr b (by rw [← hob]; exact hb), fun e => HH.out.at_.apart (by rw [← hob, hb, e])⟩) (fun x hx => HH.out.hds x (List.mem_append_left _ hx))
  exact ⟨rfl, _, q1.below ((Below.refl _ _).alloc (Nat.le_refl _) _), (q2.mono (by
    intro x hx
    simp at hx
    subst hx
    exact .inl (mem_hblk.2 (.inl rfl)))).alloc _, hob⟩
end Go.Proofs.YtcbailiniigcnaaGreat
