/- Heads: Push, Pop; container/heap; take; waiting; the set of marks (HM5 .. HM8, HT1). -/
import Derived.Test.YtcbailiniigcnaaGreatHM4
import Derived.Maps.Own
import Derived.Maps.OwnIn
import Derived.Maps.OwnSet
import Derived.Maps.Views
import Derived.DeepKeys4
namespace Go.Proofs.YtcbailiniigcnaaGreat
open Go.ChangeShapes Go.WideShapes Go.ChangeAt Go.Deep Go.RowKit Go.Lib

theorem infoH : (Tryz.prog.info? 170).map (fun i => (i.zero, i.size, i.bytes)) = some (some (.agg #[.slice none 0 0, .int .i64 0]), 2, 32) := by kernel_rfl
theorem info_parts14 {n : Nat} {z : Value} {size bytes : Nat} (h : (Tryz.prog.info? n).map (fun i => (i.zero, i.size, i.bytes)) = some (some z, size, bytes)) : ∃ i, Tryz.prog.info? n = some i ∧ i.zero = some z ∧ i.size = size ∧ i.bytes = bytes := by
  cases hi : Tryz.prog.info? n with
  | none => rw [hi] at h; cases h
  | some i =>
    rw [hi] at h
    simp only [Option.map_some, Option.some.injEq, Prod.mk.injEq] at h
    exact ⟨i, rfl, h.1, h.2.1, h.2.2⟩
theorem cellsH_append (H K : List Hd) : cellsH (H ++ K) = cellsH H ++ cellsH K := by
  unfold cellsH
  rw [List.flatMap_append]
theorem tHead (X : Value) (w : World) : (Instr.typeAssert (.iface 170 X) 20 170 false).run Tryz.prog w = .ok X w := by kernel_rfl
/-- The array of a heap: as it was, or a new one. -/
def ObN (w : World) (v v' : Value) : Prop := ob v' = ob v ∨ ∃ b, ob v' = some b ∧ w.heap.size ≤ b
/-- A new slice in the box. -/
theorem HpI.store {B p : Nat} {v v' : Value} {H H' : List Hd} {w w5 : World} {F : List Nat} (h : HpI B w p v H) (ht : Turn F w w5) (hF : ∀ x ∈ F, x ≠ p ∧ B ≤ x) (hr : Row w5 170 2 v' H'.length (cellsH H')) (ho : ∀ b, ob v' = some b → B ≤ b ∧ b ≠ p) (hd : ∀ x ∈ H', HdAt B w x) :
    HpI B (w5.setCell ⟨p, 0, none⟩ v') p v' H' ∧ Turn (p :: F) w (w5.setCell ⟨p, 0, none⟩ v') := by
  have hp5 : w5.heap[p]? = some (.cells #[v] 167 (0, 0)) := (ht.block p h.at_.lt (fun e => (hF p e).1 rfl)).trans h.at_.1
  have ht2 : Turn (p :: F) w (w5.setCell ⟨p, 0, none⟩ v') := (ht.mono (fun x hx => .inl (List.mem_cons_of_mem _ hx))).setCell (.inl (by simp)) _
  refine ⟨⟨⟨?_, ?_⟩, h.box, fun b hb => (ho b hb).1, fun x hx => (hd x hx).turn ht2 h.lt (fun y hy => ?_)⟩, ht2⟩
  · have := heap_setCell_same w5 p 0 _ _ v' hp5
    simpa using this
  · exact hr.kept fun k hk => heap_setCell_other _ _ _ _ (ho k hk).2
  · rcases List.mem_cons.1 hy with rfl | hy
    · exact h.box
    · exact (hF y hy).2
set_option maxHeartbeats 4000000 in
set_option maxRecDepth 100000 in
theorem hpush_any (B p : Nat) (v : Value) (H : List Hd) (x : Hd) (w : World) (h : HpI B w p v H) (hx : HdAt B w x) (hN : H.length ≤ 1000000) :
    Calls Tryz.prog 141 #[.pointer (some ⟨p, 0, none⟩), .iface 170 x.val] w fun e w' => e = .returned (.tuple #[]) ∧ ∃ v', HpI B w' p v' (H ++ [x]) ∧ Turn (hblk p v) w w' ∧ ObN w v v' := by
  obtain ⟨i0, hi0, hz0, hz1, hz2⟩ := info_parts14 infoH
  have hcell := h.at_.cell
  have hwarm := h.at_.warm 0
  have hpl := h.at_.lt
  have hap := h.at_.apart
  have HR := Lib.hid h.at_.2
  have HH := Lib.hid h
  have HX := Lib.hid hx
  have HBa := Lib.hid (show H.length + 1 ≤ maxLen by unfold maxLen; omega)
  have HBb := Lib.hid (show (H.length + 1) * 32 ≤ 140737488355328 by omega)
  have HEQ := Lib.hid (show cellsH (H ++ [x]) = cellsH H ++ [.slice x.a x.l.length x.c, .int .i64 (x.i : Int)] from by rw [cellsH_append]; rfl)
  unfold Hd.val
  generalize x.l.length = xl at *
  generalize (x.i : Int) = xi at *
  generalize x.a = xa at *
  generalize x.c = xc at *
  have TA := tHead
  have HB1 := Lib.hid (((Below.refl w.heap.size w).alloc (Nat.le_refl _) (.cells #[.slice xa xl xc, .int .i64 xi] 170)).drew)
  have HR2 := Lib.hid (row_below HR.out HB1.out)
  have HC2 := Lib.hid ((HB1.out.cell (p := ⟨p, 0, none⟩) hpl).trans hcell)
  have HF2 := Lib.hid ((World.frozen?_of_block (HB1.out.block p hpl)).trans hwarm)
  have HPL := Lib.hid (Nat.lt_of_lt_of_le hpl HB1.out.size)
  have HS := Lib.hid (show Src Tryz.prog 2 167 (.slice (some ⟨w.heap.size, 0, none⟩) 1 1) 1 [.slice xa xl xc, .int .i64 xi] ((w.alloc (.cells #[.slice xa xl xc, .int .i64 xi] 170)).drew) from Src.ofSlice (P := Tryz.prog) _ (size := 2) Tryz.underlying167 ⟨w.heap.size, 0, none⟩ 1 1 _ rfl (fun j u hu => by
    match j, hu with
    | 0, hu => simpa [Addr.add] using hu
    | 1, hu => simpa [Addr.add] using hu) (by simp [Value.oneCell']))
  clear h hx hN
  go_enter Tryz.func141, Tryz.ntmps141
  go_wp2_with fail
  go_region_law (refine step_append_row _ rfl (.tmp 7) (.tmp 10) 167 167 rfl 170 i0 _ 2 32 Tryz.underlying167 hi0 hz0 hz1 hz2 rfl v _ _ (by simp [Act.eval]) HR2.out _ (by simp [Act.eval]) 1 _ HS.out HBa.out HBb.out ?_; intro v' w5 hrow5 hgrow5 hob5; obtain ⟨a5, c5, rfl, -, -⟩ := hrow5.le; have k58 : w5.cell? ⟨p, 0, none⟩ = some v := (hgrow5.cell (a := ⟨p, 0, none⟩) HC2.out (Ne.symm hap)); have f58 : w5.frozen? ⟨p, 0, none⟩ = false := (World.frozen?_of_block (hgrow5.block p HPL.out (Ne.symm hap))).trans HF2.out)
  all_goals
    have hb5 := HB1.out
    have HO := Lib.hid (show ObN w v (.slice a5 (H.length + 1) c5) from by
      rcases hob5 with e | ⟨e, -⟩
      · exact .inl e
      · exact .inr ⟨_, e, hb5.size⟩)
    have ht5 : Turn (ob v).toList w w5 := (turn_of_below (F := (ob v).toList) hb5).trans (turn_of_grown (F := (ob v).toList) hgrow5 (fun k hk => .inl (by rw [hk]; simp))) (fun x hx => .inl hx)
    have HE := Lib.hid (HH.out.store (v' := .slice a5 (H.length + 1) c5) (H' := H ++ [x]) ht5 (fun y hy => by
      have hy2 : ob v = some y := by
        cases hv : ob v with
        | none => rw [hv] at hy; simp at hy
        | some z => rw [hv] at hy; simp at hy; rw [hy]
      exact ⟨fun e => hap (by rw [hy2, e]), HH.out.arr y hy2⟩) (by rw [HEQ.out, List.length_append]; exact hrow5) (fun b hb => by
      rcases HO.out with e | ⟨b', e, hge⟩
      · rw [e] at hb
        exact ⟨HH.out.arr b hb, fun e2 => hap (by rw [hb, e2])⟩
      · rw [hb] at e
        cases e
        exact ⟨Nat.le_trans HH.out.lt hge, by omega⟩) (fun y hy => by
      rcases List.mem_append.1 hy with hy | hy
      · exact HH.out.hds y hy
      · simp at hy
        rw [hy]
        exact HX.out))
    clear hb5 ht5 hrow5 hgrow5 hob5
  all_goals go_wp2
  all_goals first | go_end0 | refine bodyPost_ret (results_none rfl _ _ _) rfl ?_
  all_goals exact ⟨rfl, _, HE.out.1, HE.out.2, HO.out⟩
theorem getD_last (K : List Hd) (y : Hd) : (K ++ [y]).getD K.length Hd.zero = y := by
  rw [List.getD_eq_getElem?_getD, List.getElem?_append_right (Nat.le_refl _)]
  simp
set_option maxHeartbeats 4000000 in
set_option maxRecDepth 100000 in
theorem hpop_any (B p : Nat) (v : Value) (K : List Hd) (y : Hd) (w : World) (h : HpI B w p v (K ++ [y])) (hN : K.length ≤ 1000000) :
    Calls Tryz.prog 140 #[.pointer (some ⟨p, 0, none⟩)] w fun e w' => e = .returned (.iface 170 y.val) ∧ ∃ v', HpI B w' p v' K ∧ Turn (hblk p v) w w' ∧ ob v' = ob v := by
  obtain ⟨g, c, hv, hgp, hgl, hc1, hc2⟩ := h.open (by simp)
  obtain ⟨n, hn⟩ : ∃ n, n = K.length + 1 := ⟨_, rfl⟩
  obtain ⟨m, hm⟩ : ∃ m, m = K.length := ⟨_, rfl⟩
  have hlen : (K ++ [y]).length = n := by rw [List.length_append, hn]; rfl
  rw [hlen] at hv hc1
  have hcell := h.at_.cell
  rw [hv] at hcell
  have hwarm := h.at_.warm 0
  have hpl := h.at_.lt
  have hrow := h.at_.2
  rw [hv, hlen] at hrow
  obtain ⟨y0, y1⟩ := hsAt_of (by rw [hlen]; exact hrow) hlen.symm m (by omega)
  rw [hm, getD_last, ← hm, Nat.zero_add] at y0 y1
  have s1 : (n : Int) - 1 = (m : Int) := by omega
  have s2 : IntKind.i64.wrap (m : Int) = (m : Int) := by rw [IntKind.wrap_i64]; omega
  have u1 : (0 : Int) ≤ (m : Int) := by omega
  have u2 : (m : Int) < (n : Int) := by omega
  have u3 : (m : Int) ≤ (c : Int) := by omega
  have u4 : m ≤ c := by omega
  have HH := Lib.hid h
  have HROW := Lib.hid hrow
  have HV := Lib.hid hv
  have HM := Lib.hid (show m = K.length ∧ n = K.length + 1 ∧ n ≤ c from ⟨hm, hn, hc1⟩)
  unfold Hd.val
  generalize y.l.length = yl at *
  generalize (y.i : Int) = yi at *
  generalize y.a = ya at *
  generalize y.c = yc at *
  have HB1 := Lib.hid ((Below.refl w.heap.size w).alloc (Nat.le_refl _) (.cells #[.slice ya yl yc, .int .i64 yi] 170))
  clear h hrow hv hm hn hc1 hlen
  go_enter Tryz.func140, Tryz.ntmps140
  go_wp2_with fail
  go_ret
  obtain ⟨rfl, -, -⟩ := HM.out
  have hr := HROW.out.cut K.length (by omega) rfl
  rw [cellsH_append, List.take_left' (cellsH_length K)] at hr
  obtain ⟨c', rfl⟩ : ∃ c', c = c' + 1 := ⟨c - 1, by have := HM.out; omega⟩
  have hob : ob (.slice (some ⟨g, 0, none⟩) K.length (c' + 1)) = ob v := by rw [HV.out]; rfl
  obtain ⟨q1, q2⟩ := HH.out.store (v' := .slice (some ⟨g, 0, none⟩) K.length (c' + 1)) (H' := K) (Turn.refl [] w) (by simp) hr (fun b hb => ⟨HH.out.arr b (by rw [← hob]; exact hb), fun e => HH.out.at_.apart (by rw [← hob, hb, e])⟩) (fun x hx => HH.out.hds x (List.mem_append_left _ hx))
  exact ⟨rfl, _, q1.below ((Below.refl _ _).alloc (Nat.le_refl _) _), (q2.mono (by
    intro x hx
    simp at hx
    subst hx
    exact .inl (mem_hblk.2 (.inl rfl)))).alloc _, hob⟩
end Go.Proofs.YtcbailiniigcnaaGreat

namespace Go.Proofs.YtcbailiniigcnaaGreat
open Go.ChangeShapes Go.WideShapes Go.ChangeAt Go.Deep Go.RowKit Go.Lib

theorem getD_left (K : List Hd) (y : Hd) {k : Nat} (hk : k < K.length) : (K ++ [y]).getD k Hd.zero = K.getD k Hd.zero := by
  rw [List.getD_eq_getElem?_getD, List.getD_eq_getElem?_getD, List.getElem?_append_left hk]
theorem up_start {H : List Hd} (x : Hd) (h : HeapH H H.length) : HeapUp (H ++ [x]) (H ++ [x]).length H.length := by
  rw [List.length_append]
  constructor
  · intro a c hc hk hcn
    have hc2 : c < H.length := by simp at hcn; omega
    have ha : a < H.length := by unfold Kid at hk; omega
    rw [getD_left _ _ ha, getD_left _ _ hc2]
    exact h a c hk hc2
  · intro a c _ hk hcn
    simp at hcn
    unfold Kid at hk
    omega
theorem turn_next {p : Nat} {v v' : Value} {a b c : World} (h : Turn (hblk p v) a b) (k : Turn (hblk p v') b c) (ho : ObN a v v') : Turn (hblk p v) a c :=
  h.trans k fun x hx => by
    rcases mem_hblk.1 hx with rfl | hx
    · exact .inl (mem_hblk.2 (.inl rfl))
    · rcases ho with e | ⟨b', e, hge⟩
      · exact .inl (mem_hblk.2 (.inr (by rw [← e]; exact hx)))
      · rw [e] at hx
        cases hx
        exact .inr hge
theorem ObN.same {a : World} {v v' v'' : Value} (h : ObN a v v') (e : ob v'' = ob v') : ObN a v v'' := by
  rcases h with h | ⟨x, h1, h2⟩
  · exact .inl (e.trans h)
  · exact .inr ⟨x, e.trans h1, h2⟩
set_option maxHeartbeats 4000000 in
set_option maxRecDepth 100000 in
theorem gpush_any (B p : Nat) (v : Value) (H : List Hd) (x : Hd) (w : World) (h : HpI B w p v H) (hh : HeapH H H.length) (hx : HdAt B w x) (hN : H.length ≤ 999999) :
    Calls Tryz.prog 115 #[.iface 100 (.pointer (some ⟨p, 0, none⟩)), .iface 170 x.val] w fun e w' => e = .returned (.tuple #[]) ∧ ∃ v' H', HpI B w' p v' H' ∧ H'.Perm (H ++ [x]) ∧ HeapH H' H'.length ∧ Turn (hblk p v) w w' ∧ ObN w v v' := by
  have C1 := Lib.hid (hpush_any B p v H x w h hx (by omega))
  have C2 := Lib.hid (fun (v' : Value) (W : World) (h' : HpI B W p v' (H ++ [x])) => up_any B p H.length v' (H ++ [x]) W h' (by simp) (up_start x hh) (by rw [List.length_append]; simp; omega))
  have M1 := fun n' W => mPush n' ⟨p, 0, none⟩ W
  obtain ⟨n, hn⟩ : ∃ n, H.length = n := ⟨_, rfl⟩
  obtain ⟨n1, hn1⟩ : ∃ n1, n1 = n + 1 := ⟨_, rfl⟩
  have s1 : (n1 : Int) - 1 = (n : Int) := by omega
  have s2 : IntKind.i64.wrap (n : Int) = (n : Int) := by rw [IntKind.wrap_i64]; omega
  rw [hn] at C2
  have HN := Lib.hid (show (H ++ [x]).length = n1 by rw [List.length_append, hn, hn1]; rfl)
  generalize x.val = xv at *
  clear h hh hx hN hn hn1
  go_enter Tryz.func115, Tryz.ntmps115
  go_wp2_with (first
    | (go_at_call 141; (with_reducible refine C1.out.mono ?_); rintro e w1 ⟨rfl, v1, h1, ht1, ho1⟩; obtain ⟨g, c, hv, -, -, -, -⟩ := h1.open (by simp); rw [HN.out] at hv; have hc1 := h1.at_.cell; have hc2 := hc1; rw [hv] at hc2; have M2 := fun n' => mLen n' p (some ⟨g, 0, none⟩) n1 c w1 hc2; have C3 := Lib.hid (C2.out v1 w1 h1); have CLN := Lib.hid (hlen_any (some ⟨g, 0, none⟩) n1 c w1); have HV := Lib.hid hv; clear hv hc1 hc2)
    | (go_at_call 86; (with_reducible refine CLN.out.mono ?_); rintro e w2 ⟨rfl, rfl⟩)
    | (go_at_call 121; (with_reducible refine C3.out.mono ?_); rintro e w3 ⟨rfl, H', h3, hp3, hh3, ht3⟩)
    | fail)
  all_goals first | go_end0 | refine bodyPost_ret (results_none rfl _ _ _) rfl ?_
  exact ⟨rfl, v1, H', h3, hp3, hh3, turn_next ht1 ht3 ho1, ho1⟩
theorem down_start {h0 : Hd} {T : List Hd} (h : HeapH (h0 :: T) (T.length + 1)) : HeapDn (swH (h0 :: T) 0 T.length) T.length 0 := by
  have hg := fun k => swH_get (h0 :: T) 0 T.length k (by simp) (by simp)
  constructor
  · intro a c ha hk hcn
    rw [hg, hg, if_neg (by unfold Kid at hk; omega), if_neg ha, if_neg (by omega), if_neg (by unfold Kid at hk; omega)]
    exact h a c hk (by omega)
  · intro a c hk
    unfold Kid at hk
    omega
theorem last_of {H : List Hd} {m : Nat} (hl : H.length = m + 1) : H = H.take m ++ [H.getD m Hd.zero] := by
  have hm : m < H.length := by omega
  rw [List.getD_eq_getElem?_getD, List.getElem?_eq_getElem hm]
  have := List.take_append_drop m H
  rw [List.drop_eq_getElem_cons hm, List.drop_eq_nil_of_le (by omega)] at this
  exact this.symm
theorem heap_take {H : List Hd} {m : Nat} (hl : H.length = m + 1) (h : HeapH H m) : HeapH (H.take m) (H.take m).length := by
  have hk : (H.take m).length = m := by rw [List.length_take]; omega
  rw [hk]
  intro a c hx hc
  have hgt : ∀ k, k < m → (H.take m).getD k Hd.zero = H.getD k Hd.zero := fun k hk => by
    rw [List.getD_eq_getElem?_getD, List.getD_eq_getElem?_getD, List.getElem?_take, if_pos hk]
  rw [hgt a (by unfold Kid at hx; omega), hgt c hc]
  exact h a c hx hc
set_option maxHeartbeats 4000000 in
set_option maxRecDepth 100000 in
theorem gpop_any (B p : Nat) (v : Value) (h0 : Hd) (T : List Hd) (w : World) (h : HpI B w p v (h0 :: T)) (hh : HeapH (h0 :: T) (h0 :: T).length) (hN : T.length ≤ 999999) :
    Calls Tryz.prog 116 #[.iface 100 (.pointer (some ⟨p, 0, none⟩))] w fun e w' => e = .returned (.iface 170 h0.val) ∧ ∃ v' K, HpI B w' p v' K ∧ K.Perm T ∧ HeapH K K.length ∧ Turn (hblk p v) w w' ∧ ob v' = ob v := by
  obtain ⟨n, hn⟩ : ∃ n, (h0 :: T).length = n := ⟨_, rfl⟩
  obtain ⟨m, hm⟩ : ∃ m, T.length = m := ⟨_, rfl⟩
  have hnm : n = m + 1 := by rw [← hn, ← hm]; rfl
  have s1 : (n : Int) - 1 = (m : Int) := by omega
  have s2 : IntKind.i64.wrap (m : Int) = (m : Int) := by rw [IntKind.wrap_i64]; omega
  obtain ⟨g, c, hv, -, -, -, -⟩ := h.open (by simp)
  rw [hn] at hv
  have hc1 := h.at_.cell
  rw [hv] at hc1
  have M1 := fun n' => mLen n' p (some ⟨g, 0, none⟩) n c w hc1
  have M2 := fun n' => mSwap n' p (some ⟨g, 0, none⟩) n c w hc1
  have M3 := fun n' W => mPop n' ⟨p, 0, none⟩ W
  have CLN := Lib.hid (hlen_any (some ⟨g, 0, none⟩) n c w)
  have C1 := Lib.hid (hswap_at h hv hn 0 m (by omega) (by omega))
  have hdn := down_start (h0 := h0) (T := T) (by rw [← hm] at hnm; rw [← hnm, ← hn]; exact hh)
  rw [hm] at hdn
  have hsl : (swH (h0 :: T) 0 m).length = m + 1 := by rw [swH_length, hn, hnm]
  have C2 := Lib.hid (fun (W : World) (h' : HpI B W p v (swH (h0 :: T) 0 m)) => down_any B p 0 m v (swH (h0 :: T) 0 m) W h' (by omega) (by omega) hdn (by omega) (by omega))
  have HPE := Lib.hid (swH_perm (h0 :: T) 0 m (by simp) (by omega))
  have HLA := Lib.hid (show (swH (h0 :: T) 0 m).getD m Hd.zero = h0 from by rw [swH_get _ _ _ _ (by simp) (by omega), if_pos rfl]; rfl)
  have HSL := Lib.hid hsl
  have HM := Lib.hid (show m ≤ 1000000 by omega)
  have HV := Lib.hid hv
  clear h hh hN hn hm hnm hv hdn hsl hc1
  go_enter Tryz.func116, Tryz.ntmps116
  go_wp2_with (first
    | (go_at_call 86; (with_reducible refine CLN.out.mono ?_); rintro e w2 ⟨rfl, rfl⟩)
    | (go_at_call 142; refine C1.out.mono ?_; rintro e w1 ⟨rfl, h1, ht1⟩; have C3 := Lib.hid (C2.out w1 h1))
    | (go_at_call 122; refine C3.out.mono ?_; rintro e w3 ⟨hb3, H3, h3, hp3, hh3, hl3, ht3⟩; obtain ⟨b3, rfl⟩ := hb3; have hlen3 := hp3.length_eq.trans HSL.out; have h3' := h3; rw [last_of hlen3] at h3'; have C4 := Lib.hid (hpop_any B p v (H3.take m) (H3.getD m Hd.zero) w3 h3' (by rw [List.length_take]; have := HM.out; omega)); have HL := Lib.hid (show H3.length = m + 1 ∧ H3.getD m Hd.zero = h0 from ⟨hlen3, (hl3 m (Nat.le_refl _)).trans HLA.out⟩); rw [HL.out.2] at C4; clear hlen3 h3' hl3)
    | (go_at_call 140; (with_reducible refine C4.out.mono ?_); rintro e w4 ⟨rfl, v4, h4, ht4, ho4⟩)
    | fail)
  go_ret
  refine ⟨rfl, v4, _, h4, ?_, heap_take HL.out.1 hh3, (ht1.trans ht3 (fun x hx => .inl hx)).trans ht4 (fun x hx => .inl hx), ho4⟩
  have hq := hp3.trans HPE.out
  rw [last_of HL.out.1, HL.out.2] at hq
  exact (List.perm_append_comm.trans hq).cons_inv
set_option maxHeartbeats 4000000 in
set_option maxRecDepth 100000 in
theorem gfix_any (B p : Nat) (v : Value) (H : List Hd) (w : World) (h : HpI B w p v H) (hp : 0 < H.length) (hd : HeapDn H H.length 0) (hN : H.length ≤ 999999) :
    Calls Tryz.prog 117 #[.iface 100 (.pointer (some ⟨p, 0, none⟩)), .int .i64 0] w fun e w' => e = .returned (.tuple #[]) ∧ ∃ K, HpI B w' p v K ∧ K.Perm H ∧ HeapH K K.length ∧ Turn (hblk p v) w w' := by
  obtain ⟨n, hn⟩ : ∃ n, H.length = n := ⟨_, rfl⟩
  obtain ⟨g, c, hv, -, -, -, -⟩ := h.open hp
  rw [hn] at hv
  have hc1 := h.at_.cell
  rw [hv] at hc1
  have M1 := fun n' => mLen n' p (some ⟨g, 0, none⟩) n c w hc1
  have CLN := Lib.hid (hlen_any (some ⟨g, 0, none⟩) n c w)
  rw [hn] at hd
  have C2 := Lib.hid (down_any B p 0 n v H w h hp (by omega) hd (by omega) (by omega))
  have C3 := Lib.hid (fun (K : List Hd) (W : World) (h' : HpI B W p v K) (hpe : K.Perm H) (hh : HeapH K n) => up_any B p 0 v K W h' (by rw [hpe.length_eq]; exact hp) ⟨fun a b _ hk hb => hh a b hk (by rw [hpe.length_eq, hn] at hb; exact hb), fun a b hk => by unfold Kid at hk; omega⟩ (by rw [hpe.length_eq]; omega))
  have HL := Lib.hid (show ∀ K : List Hd, K.Perm H → K.length = n from fun K hk => hk.length_eq.trans hn)
  have HV := Lib.hid hv
  clear h hd hN hn hv hc1 hp
  go_enter Tryz.func117, Tryz.ntmps117
  go_wp2_with (first
    | (go_at_call 86; (with_reducible refine CLN.out.mono ?_); rintro e w2 ⟨rfl, rfl⟩)
    | fail)
  go_at_call 122
  refine C2.out.mono ?_
  rintro e w3 ⟨hb3, K, h3, hp3, hh3, hl3, ht3⟩
  obtain ⟨b3, rfl⟩ := hb3
  have C4 := Lib.hid (C3.out K w3 h3 hp3 hh3)
  cases b3 with
  | true =>
    go_wp2_with fail
    first | go_end0 | refine bodyPost_ret (results_none rfl _ _ _) rfl ?_
    exact ⟨rfl, K, h3, hp3, by rw [HL.out K hp3]; exact hh3, ht3⟩
  | false =>
    go_wp2_with (first | (go_at_call 121; refine C4.out.mono ?_; rintro e w4 ⟨rfl, K4, h4, hp4, hh4, ht4⟩) | fail)
    first | go_end0 | refine bodyPost_ret (results_none rfl _ _ _) rfl ?_
    exact ⟨rfl, K4, h4, hp4.trans hp3, hh4, ht3.trans ht4 (fun x hx => .inl hx)⟩
end Go.Proofs.YtcbailiniigcnaaGreat

namespace Go.Proofs.YtcbailiniigcnaaGreat
open Go.ChangeShapes Go.WideShapes Go.ChangeAt Go.Deep Go.RowKit Go.Lib

/-- The array turned, the box as it was. -/
theorem HpI.with2 {B p : Nat} {v : Value} {H H' : List Hd} {w w' : World} {g c n : Nat} (h : HpI B w p v H) (hv : v = .slice (some ⟨g, 0, none⟩) n (c + 1)) (hR : Row w' 170 2 v H.length (cellsH H')) (hl : H'.length = H.length) (hm : ∀ x ∈ H', HdAt B w x) (ht : Turn [g] w w') : HpI B w' p v H' := by
  have hgp : g ≠ p := fun e => h.at_.apart (by rw [hv, e]; rfl)
  refine ⟨⟨(ht.block p h.at_.lt (by simp; exact fun e => hgp e.symm)).trans h.at_.1, by rw [hl]; exact hR⟩, h.box, h.arr, fun x hx => (hm x hx).turn ht h.lt (by
    intro y hy
    simp at hy
    subst hy
    exact h.arr y (by rw [hv]; rfl))⟩
/-- What is left of a list behind its first one. -/
def Hd.rest (h : Hd) : Hd := ⟨match h.a with | some a => some ⟨a.block, a.off + 4, none⟩ | none => none, h.c - 1, h.l.tail, h.i⟩
theorem HdAt.rest {n₀ : Nat} {w : World} {h : Hd} (hh : HdAt n₀ w h) (ht : h.l.tail ≠ []) : HdAt n₀ w h.rest := by
  obtain ⟨b, off, e, hlt, hne, hc⟩ := hh
  refine ⟨b, off + 4, by unfold Hd.rest; rw [e], hlt, ⟨ht, by show h.l.tail.length ≤ h.c - 1; rw [List.length_tail]; have := hne.2; omega⟩, fun i hi j u hu => ?_⟩
  have hi2 : i < h.l.tail.length := hi
  have hi3 : i + 1 < h.l.length := by rw [List.length_tail] at hi2; omega
  have := hc (i + 1) hi3 j u (by
    have e2 : h.rest.l[i] = h.l[i + 1] := List.getElem_tail (l := h.l) hi2
    rw [← e2]
    exact hu)
  rw [show off + 4 + i * 4 + j = off + (i + 1) * 4 + j by omega]
  exact this
theorem down_rest {h0 h1 : Hd} {T : List Hd} {n : Nat} (h : HeapH (h0 :: T) n) : HeapDn (h1 :: T) n 0 := by
  have hg : ∀ k, k ≠ 0 → (h1 :: T).getD k Hd.zero = (h0 :: T).getD k Hd.zero := fun k hk => by
    obtain ⟨j, rfl⟩ : ∃ j, k = j + 1 := ⟨k - 1, by omega⟩
    rfl
  constructor
  · intro a c ha hk hc
    rw [hg a ha, hg c (by unfold Kid at hk; omega)]
    exact h a c hk hc
  · intro a c hk
    unfold Kid at hk
    omega
set_option maxHeartbeats 8000000 in
set_option maxRecDepth 100000 in
theorem take_any (B p : Nat) (v : Value) (h0 : Hd) (T : List Hd) (w : World) (h : HpI B w p v (h0 :: T)) (hh : HeapH (h0 :: T) (h0 :: T).length) (hN : T.length ≤ 900000) :
    Calls Tryz.prog 87 #[.pointer (some ⟨p, 0, none⟩)] w fun e w' => e = .returned (ev h0.e.k h0.e.s h0.e.n h0.e.v) ∧ ∃ v' H', HpI B w' p v' H' ∧ Took (h0 :: T) H' ∧ Turn (hblk p v) w w' ∧ ob v' = ob v := by
  obtain ⟨n, hn⟩ : ∃ n, (h0 :: T).length = n := ⟨_, rfl⟩
  obtain ⟨g, c, hv, hgp, hgl, hnc, -⟩ := h.open (by simp)
  rw [hn] at hv hnc
  have hpos : 0 < n := by rw [← hn]; simp
  have u1 : (0 : Int) < (n : Int) := by omega
  have hx := h.hds h0 (by simp)
  have hlp := Hd.pos hx
  have hcap := Hd.cap hx
  obtain ⟨b, off, hb, hbl, x0, x1, x2, x3⟩ := hx.first
  have hrow := h.at_.2
  rw [hv, hn] at hrow
  obtain ⟨a0, a1⟩ := hsAt_of (by rw [hn]; exact hrow) hn.symm 0 (by omega)
  simp only [Nat.zero_mul, Nat.add_zero, Nat.zero_add, List.getD_cons_zero] at a0 a1
  rw [hb] at a0
  have hcell := h.at_.cell
  rw [hv] at hcell
  have hpl := h.at_.lt
  obtain ⟨L, hL⟩ : ∃ L, h0.l.length = L := ⟨_, rfl⟩
  rw [hL] at a0 hlp hcap
  have u2 : (0 : Int) < (L : Int) := by omega
  have hBw := h.lt
  have hbw : b < w.heap.size := by omega
  obtain ⟨W1, hW1⟩ : ∃ W, w.alloc (.cells #[.string ⟨#[]⟩, .int .u64 0, .int .i64 0, .string ⟨#[]⟩] 56) = W := ⟨_, rfl⟩
  have hb1 : Below w.heap.size w W1 := by rw [← hW1]; exact (Below.refl _ _).alloc (Nat.le_refl _) _
  have hs1 : W1.heap.size = w.heap.size + 1 := by rw [← hW1]; simp
  unfold ev
  generalize hE : h0.e = E at *
  obtain ⟨ek, es, en, ew⟩ := E
  simp only at x0 x1 x2 x3
  obtain ⟨W2, hW2⟩ : ∃ W, W1.alloc (.cells #[.string ek, .int .u64 es, .int .i64 en, .string ew] 56) = W := ⟨_, rfl⟩
  have hb12 : Below W1.heap.size W1 W2 := by rw [← hW2]; exact (Below.refl _ _).alloc (Nat.le_refl _) _
  have hs2 : W2.heap.size = W1.heap.size + 1 := by rw [← hW2]; simp
  have hb2 : Below w.heap.size w W2 := hb1.trans (hb12.mono (by omega))
  have r0 : W2.heap[w.heap.size]? = some (.cells #[.string ⟨#[]⟩, .int .u64 0, .int .i64 0, .string ⟨#[]⟩] 56 (0, 0)) := (hb12.block w.heap.size (by omega)).trans (by rw [← hW1]; exact heap_alloc_new w _)
  have r1 : W2.heap[W1.heap.size]? = some (.cells #[.string ek, .int .u64 es, .int .i64 en, .string ew] 56 (0, 0)) := by rw [← hW2]; exact heap_alloc_new W1 _
  have p1 := (hb1.cell (p := ⟨p, 0, none⟩) hpl).trans hcell
  have g1 := (hb1.cell (p := ⟨g, 0, none⟩) hgl).trans a0
  have y0 := (hb1.cell (p := ⟨b, _, none⟩) hbw).trans x0
  have y1 := (hb1.cell (p := ⟨b, _, none⟩) hbw).trans x1
  have y2 := (hb1.cell (p := ⟨b, _, none⟩) hbw).trans x2
  have y3 := (hb1.cell (p := ⟨b, _, none⟩) hbw).trans x3
  have g2 := (hb2.cell (p := ⟨g, 0, none⟩) hgl).trans a0
  have f2 : W2.frozen? ⟨g, 0, none⟩ = false := (World.frozen?_of_block (hb2.block g hgl)).trans (hrow_warm hrow rfl hpos 0)
  have HH := Lib.hid h
  have HH2 := Lib.hid (h.below hb2)
  have HB2 := Lib.hid hb2
  have HROW := Lib.hid (row_below hrow (hb2.mono (Nat.le_refl _)))
  have HV := Lib.hid hv
  have HHP := Lib.hid hh
  have HX := Lib.hid hx
  have HNF := Lib.hid (show w.heap.size ∉ hblk p v ∧ W1.heap.size ∉ hblk p v from ⟨fun e => by
    rcases mem_hblk.1 e with e | e
    · omega
    · have := h.at_.2.lt _ e; omega, fun e => by
    rcases mem_hblk.1 e with e | e
    · omega
    · have := h.at_.2.lt _ e; omega⟩)
  -- what holds behind the heap's call
  have HA := Lib.hid (show ∀ W3 v3 K, Turn (hblk p v) W2 W3 → HpI B W3 p v3 K → ob v3 = ob v → ((W3.cell? ⟨W1.heap.size, 0, none⟩ = some (.string ek) ∧ W3.cell? ⟨W1.heap.size, 1, none⟩ = some (.int .u64 es) ∧ W3.cell? ⟨W1.heap.size, 2, none⟩ = some (.int .i64 en) ∧ W3.cell? ⟨W1.heap.size, 3, none⟩ = some (.string ew)) ∧ (W3.cell? ⟨w.heap.size, 0, none⟩ = some (.string ⟨#[]⟩) ∧ W3.cell? ⟨w.heap.size, 1, none⟩ = some (.int .u64 0) ∧ W3.cell? ⟨w.heap.size, 2, none⟩ = some (.int .i64 0) ∧ W3.cell? ⟨w.heap.size, 3, none⟩ = some (.string ⟨#[]⟩)) ∧ (∀ j, W3.frozen? ⟨w.heap.size, j, none⟩ = false) ∧
      ∀ a b c d, HpI B ((((W3.setCell ⟨w.heap.size, 0, none⟩ a).setCell ⟨w.heap.size, 1, none⟩ b).setCell ⟨w.heap.size, 2, none⟩ c).setCell ⟨w.heap.size, 3, none⟩ d) p v3 K ∧ Turn (hblk p v) w ((((W3.setCell ⟨w.heap.size, 0, none⟩ a).setCell ⟨w.heap.size, 1, none⟩ b).setCell ⟨w.heap.size, 2, none⟩ c).setCell ⟨w.heap.size, 3, none⟩ d)) from fun W3 v3 K ht hk he => by
    have k0 : W3.heap[w.heap.size]? = _ := (ht.block w.heap.size (by omega) HNF.out.1).trans r0
    have k1 : W3.heap[W1.heap.size]? = _ := (ht.block W1.heap.size (by omega) HNF.out.2).trans r1
    have c0 : ∀ i u, (#[.string ⟨#[]⟩, .int .u64 0, .int .i64 0, .string ⟨#[]⟩] : Array Value)[i]? = some u → W3.cell? ⟨w.heap.size, i, none⟩ = some u := fun i u hu => by simp only [World.cell?, k0]; exact hu
    have c1 : ∀ i u, (#[.string ek, .int .u64 es, .int .i64 en, .string ew] : Array Value)[i]? = some u → W3.cell? ⟨W1.heap.size, i, none⟩ = some u := fun i u hu => by simp only [World.cell?, k1]; exact hu
    refine ⟨⟨c1 0 _ rfl, c1 1 _ rfl, c1 2 _ rfl, c1 3 _ rfl⟩, ⟨c0 0 _ rfl, c0 1 _ rfl, c0 2 _ rfl, c0 3 _ rfl⟩, fun j => by simp [World.frozen?, k0], fun a b c d => ?_⟩
    have t1 : Turn [w.heap.size] W3 ((((W3.setCell ⟨w.heap.size, 0, none⟩ a).setCell ⟨w.heap.size, 1, none⟩ b).setCell ⟨w.heap.size, 2, none⟩ c).setCell ⟨w.heap.size, 3, none⟩ d) := ((((Turn.refl _ _).setCell (.inl (by simp)) _).setCell (.inl (by simp)) _).setCell (.inl (by simp)) _).setCell (.inl (by simp)) _
    refine ⟨hk.turn t1 (fun x hx => ?_), ((turn_of_below hb2).trans ht (fun x hx => .inl hx)).trans t1 (fun x hx => .inr ?_)⟩
    · simp at hx
      subst hx
      refine ⟨fun e => HNF.out.1 (mem_hblk.2 ?_), hBw⟩
      rw [← he]
      exact mem_hblk.1 e
    · simp at hx
      omega)
  have HSZ := Lib.hid (show w.heap.size < W1.heap.size ∧ W1.heap.size < W2.heap.size from ⟨by omega, by omega⟩)
  clear h hh hx hrow hv hb1 hb12 hb2 hs1 hs2 r0 r1
  go_enter Tryz.func87, Tryz.ntmps87
  by_cases h1 : L = 1
  · subst h1
    have C1 := Lib.hid (gpop_any B p v h0 T W2 HH2.out HHP.out (by omega))
    have HTK := Lib.hid (show ∀ K, K.Perm T → HeapH K K.length → Took (h0 :: T) K from fun K hp hk => ⟨h0, T, rfl, hk, .inl ⟨by
      have : h0.l.tail.length = 0 := by rw [List.length_tail, hL]
      exact List.eq_nil_of_length_eq_zero this, hp⟩⟩)
    clear hL
    go_wp2_with fail
    go_at_call 116
    refine C1.out.mono ?_
    rintro e w3 ⟨rfl, v3, K, h3, hp3, hh3, ht3, ho3⟩
    obtain ⟨⟨c0, c1, c2, c3⟩, ⟨z0, z1, z2, z3⟩, hf, hend⟩ := HA.out w3 v3 K ht3 h3 ho3
    have HE := Lib.hid hend
    have f0 := hf 0
    have f1 := hf 1
    have f3 := hf 2
    have f4 := hf 3
    clear hend hf
    go_wp2_with fail
    refine bodyPost_ret (by simp [results, Tryz.results87, go_sem, z0, z1, z2, z3]; try rfl) rfl ?_
    exact ⟨rfl, v3, K, (HE.out _ _ _ _).1, HTK.out K hp3 hh3, (HE.out _ _ _ _).2, ho3⟩
  · have d1 : ((L : Int) == 1) = false := by rw [beq_eq_false_iff_ne]; omega
    obtain ⟨C, hC⟩ : ∃ C, h0.c = C := ⟨_, rfl⟩
    rw [hC] at hcap g2
    have u5 : (1 : Int) ≤ (L : Int) := by omega
    have u6 : (1 : Int) ≤ (C : Int) := by omega
    have u7 : ¬ C = 1 := by omega
    have u8 : ¬ C - 1 = 0 := by omega
    have htl : h0.l.tail.length = L - 1 := by rw [List.length_tail, hL]
    have htn : h0.l.tail ≠ [] := fun e => by rw [e] at htl; simp at htl; omega
    have hgo : ob v = some g := by
      obtain ⟨c', rfl⟩ : ∃ c', c = c' + 1 := ⟨c - 1, by omega⟩
      rw [HV.out]
      rfl
    obtain ⟨W3, hW3⟩ : ∃ W, W2.setCell ⟨g, 0, none⟩ (.slice (some ⟨b, off + 4, none⟩) (L - 1) (C - 1)) = W := ⟨_, rfl⟩
    have ht23 : Turn [g] W2 W3 := by rw [← hW3]; exact (Turn.refl _ _).setCell (.inl (by simp)) _
    have hp3 : HpI B W3 p v (h0.rest :: T) := by
      obtain ⟨c', rfl⟩ : ∃ c', c = c' + 1 := ⟨c - 1, by omega⟩
      refine HH2.out.with2 HV.out ?_ rfl (fun x hx => ?_) ht23
      · have hr := hrow_set HROW.out rfl rfl 0 (by omega) (.slice (some ⟨b, off + 4, none⟩) (L - 1) (C - 1))
        rw [Nat.add_zero, hW3] at hr
        have he : (cellsH (h0 :: T)).set 0 (.slice (some ⟨b, off + 4, none⟩) (L - 1) (C - 1)) = cellsH (h0.rest :: T) := by
          have e1 : cellsH (h0 :: T) = .slice h0.a h0.l.length h0.c :: .int .i64 (h0.i : Int) :: cellsH T := rfl
          have e2 : cellsH (h0.rest :: T) = .slice h0.rest.a h0.l.tail.length (h0.c - 1) :: .int .i64 (h0.i : Int) :: cellsH T := rfl
          have e3 : h0.rest.a = some ⟨b, off + 4, none⟩ := by unfold Hd.rest; rw [hb]
          rw [e1, e2, e3, htl, hC]
          rfl
        rw [he] at hr
        rw [HV.out, hn]
        exact hr
      · rcases List.mem_cons.1 hx with rfl | hx
        · exact (HH2.out.hds h0 (by simp)).rest htn
        · exact HH2.out.hds x (List.mem_cons_of_mem _ hx)
    have C2 := Lib.hid (gfix_any B p v (h0.rest :: T) W3 hp3 (by simp) (down_rest (h0 := h0) HHP.out) (by simp; omega))
    have HTK := Lib.hid (show ∀ K, K.Perm (h0.rest :: T) → HeapH K K.length → Took (h0 :: T) K from fun K hp hk => ⟨h0, T, rfl, hk, .inr ⟨h0.rest, rfl, rfl, htn, hp⟩⟩)
    have HT23 := Lib.hid (show Turn (hblk p v) W2 W3 from ht23.mono (fun x hx => by
      simp at hx
      subst hx
      exact .inl (mem_hblk.2 (.inr hgo))))
    clear hL hb htl htn hgo ht23 hp3 hn hnc
    go_wp2_with fail
    go_at_call 117
    refine C2.out.mono ?_
    rintro e w3 ⟨rfl, K, h3, hp3, hh3, ht3⟩
    obtain ⟨⟨c0, c1, c2, c3⟩, ⟨z0, z1, z2, z3⟩, hf, hend⟩ := HA.out w3 v K (HT23.out.trans ht3 (fun x hx => .inl hx)) h3 rfl
    have HE := Lib.hid hend
    have f0 := hf 0
    have f1 := hf 1
    have f3 := hf 2
    have f4 := hf 3
    clear hend hf
    go_wp2_with fail
    refine bodyPost_ret (by simp [results, Tryz.results87, go_sem, z0, z1, z2, z3]; try rfl) rfl ?_
    exact ⟨rfl, v, K, (HE.out _ _ _ _).1, HTK.out K hp3 hh3, (HE.out _ _ _ _).2, rfl⟩
end Go.Proofs.YtcbailiniigcnaaGreat

namespace Go.Proofs.YtcbailiniigcnaaGreat
open Go.ChangeShapes Go.WideShapes Go.ChangeAt Go.Deep Go.RowKit Go.Lib

theorem hdAt_of {B : Nat} {w : World} {a : Option Addr} {c i : Nat} {l : List Ent} (h : EntsAt B w a l.length l) (hc : l.length ≤ c) (hl : l ≠ []) : HdAt B w ⟨a, c, l, i⟩ := by
  rcases h.2 with h0 | ⟨b, off, e, hb, hcell⟩
  · exact absurd (List.eq_nil_of_length_eq_zero h0) hl
  · exact ⟨b, off, e, hb, ⟨hl, hc⟩, hcell⟩
theorem hblk_new {p B : Nat} {v v' : Value} {w : World} (ho : ObN w v v') (hv : ∀ x ∈ hblk p v, B ≤ x) (hw : B ≤ w.heap.size) : ∀ x ∈ hblk p v', B ≤ x := fun x hx => by
  rcases mem_hblk.1 hx with rfl | hx
  · exact hv _ (mem_hblk.2 (.inl rfl))
  · rcases ho with e | ⟨b, e, hge⟩
    · exact hv x (mem_hblk.2 (.inr (by rw [← e]; exact hx)))
    · rw [hx] at e
      cases e
      omega
theorem HdAt.kept {n₀ : Nat} {A B : World} {h : Hd} (hh : HdAt n₀ A h) (hb : Below n₀ A B) : HdAt n₀ B h := hh.below hb
/-- Lists of versions, their own blocks below n₀. -/
def LsIn (n₀ : Nat) (w : World) (a : Option Addr) (n : Nat) (ls : List (List Ent)) : Prop :=
  ls.length = n ∧ (n = 0 ∨ ∃ b off, a = some ⟨b, off, none⟩ ∧ b < n₀ ∧ ∀ i (h : i < ls.length), ∃ ai ci, w.cell? ⟨b, off + i, none⟩ = some (.slice ai ls[i].length ci) ∧ EntsAt n₀ w ai ls[i].length ls[i] ∧ ls[i].length ≤ ci)
theorem LsAt.lsIn {w : World} {a : Option Addr} {n : Nat} {ls : List (List Ent)} (h : LsAt w a n ls) : LsIn w.heap.size w a n ls := h
theorem LsIn.below {n₀ : Nat} {w w' : World} {a : Option Addr} {n : Nat} {ls : List (List Ent)} (h : LsIn n₀ w a n ls) (hb : Below n₀ w w') : LsIn n₀ w' a n ls := by
  refine ⟨h.1, ?_⟩
  rcases h.2 with h0 | ⟨b, off, e, hlt, hc⟩
  · exact .inl h0
  · refine .inr ⟨b, off, e, hlt, fun i hi => ?_⟩
    obtain ⟨ai, ci, h1, h2, h3⟩ := hc i hi
    exact ⟨ai, ci, (hb.cell (p := ⟨b, off + i, none⟩) hlt).trans h1, h2.below hb, h3⟩
set_option maxHeartbeats 8000000 in
set_option maxRecDepth 100000 in
theorem waiting_any (n₀ : Nat) (a : Option Addr) (n cap : Nat) (ls : List (List Ent)) (w : World) (hn₀ : n₀ ≤ w.heap.size) (hL : LsIn n₀ w a n ls) (hn : n ≤ 8) :
    Calls Tryz.prog 85 #[.slice a n cap] w fun e w' => ∃ p v H, e = .returned (.pointer (some ⟨p, 0, none⟩)) ∧ HpI n₀ w' p v H ∧ WaI ls ls.length H ∧ sumH H ≤ ls.flatten.length ∧ (∀ x ∈ hblk p v, w.heap.size ≤ x) ∧ Below w.heap.size w w' := by
  obtain rfl : ls.length = n := hL.1
  have HL := Lib.hid hL
  obtain ⟨W1, hW1⟩ : ∃ W, w.alloc (.cells #[] 170) = W := ⟨_, rfl⟩
  obtain ⟨W2, hW2⟩ : ∃ W, W1.alloc (.cells #[.slice (some ⟨w.heap.size, 0, none⟩) 0 0] 167) = W := ⟨_, rfl⟩
  have hs1 : W1.heap.size = w.heap.size + 1 := by rw [← hW1]; simp
  have hb1 : Below w.heap.size w W2 := by rw [← hW2, ← hW1]; exact ((Below.refl _ _).alloc (Nat.le_refl _) _).alloc (by simp) _
  have hp1 : HpI n₀ W2 W1.heap.size (.slice (some ⟨w.heap.size, 0, none⟩) 0 0) [] := ⟨⟨by rw [← hW2]; exact heap_alloc_new W1 _, rfl, .inl ⟨rfl, .inr ⟨_, _, rfl⟩⟩⟩, by omega, fun b hb => by simp [ob] at hb, fun h hh => by cases hh⟩
  have hf1 : ∀ x ∈ hblk W1.heap.size (.slice (some ⟨w.heap.size, 0, none⟩) 0 0), w.heap.size ≤ x := fun x hx => by
    rcases mem_hblk.1 hx with rfl | hx
    · omega
    · simp [ob] at hx
  have HP1 := Lib.hid hp1
  have HF1 := Lib.hid hf1
  have HN0 := Lib.hid hn₀
  have HB1 := Lib.hid hb1
  have HSZ := Lib.hid hs1
  clear hL hp1 hb1 hs1 hf1 hn₀
  go_enter Tryz.func85, Tryz.ntmps85
  go_wp2_with fail
  go_loopw [10] (fun iv wr => ∃ (i : Nat) (v : Value) (H : List Hd), iv = .int .i64 (i : Int) ∧ i ≤ ls.length ∧ Hid (HpI n₀ wr W1.heap.size v H ∧ ∀ x ∈ hblk W1.heap.size v, w.heap.size ≤ x) ∧ Hid (WaI ls i H ∧ H.length ≤ i ∧ sumH H ≤ (ls.take i).flatten.length) ∧ Hid (Below w.heap.size w wr)) (fun iv _ => ls.length - (Go.RowKit.intOf iv).toNat)
  case atStart => exact ⟨0, _, [], rfl, Nat.zero_le _, Lib.hid ⟨HP1.out, HF1.out⟩, Lib.hid ⟨waI_nil ls, Nat.le_refl _, by simp [sumH]⟩, HB1⟩
  case round =>
    obtain ⟨i, v, H, rfl, hile, HP, HW, HB⟩ := hrel
    by_cases hlt : i < ls.length
    · have hli : (i : Int) < (ls.length : Int) := by omega
      have hld : decide ((i : Int) < (ls.length : Int)) = true := by simp; omega
      obtain ⟨b, off, rfl, hbl, ai, ci, hc, hE, hcap⟩ : ∃ b off, a = some ⟨b, off, none⟩ ∧ b < n₀ ∧ ∃ ai ci, w.cell? ⟨b, off + i, none⟩ = some (.slice ai (ls[i]'hlt).length ci) ∧ EntsAt n₀ w ai (ls[i]'hlt).length (ls[i]'hlt) ∧ (ls[i]'hlt).length ≤ ci := by
        rcases HL.out.2 with h0 | ⟨b, off, e, h1, h2⟩
        · omega
        · obtain ⟨ai, ci, h3, h4, h5⟩ := h2 i hlt
          exact ⟨b, off, e, h1, ai, ci, h3, h4, h5⟩
      have hcr := (HB.out.cell (p := ⟨b, _, none⟩) (Nat.lt_of_lt_of_le hbl HN0.out)).trans hc
      have hpi : ls[i]? = some ls[i] := List.getElem?_eq_getElem hlt
      have hft := flat_take ls i hlt
      generalize ls[i] = l at *
      by_cases hle : l = []
      · subst hle
        have HW2 := Lib.hid (show WaI ls (i + 1) H ∧ H.length ≤ i + 1 ∧ sumH H ≤ (ls.take (i + 1)).flatten.length from ⟨HW.out.1.none hpi, by have := HW.out.2.1; omega, by rw [hft, List.length_append]; have := HW.out.2.2; omega⟩)
        simp only [List.length_nil] at hcr
        clear hc hE hcap hpi hft
        go_wp2_with fail
        go_roundw
        case rel => exact ⟨i + 1, v, H, by go_num, hlt, HP, HW2, HB⟩
        case measure => simp [Go.RowKit.intOf]; omega
      · have hlp : 0 < l.length := List.length_pos_iff.2 hle
        have u1 : (0 : Int) < (l.length : Int) := by omega
        have u2 : decide ((0 : Int) < (l.length : Int)) = true := by simp; omega
        have CP := Lib.hid (gpush_any n₀ W1.heap.size v H ⟨ai, ci, l, i⟩ wr HP.out.1 HW.out.1.heap ((hdAt_of hE hcap hle).below (HB.out.mono HN0.out)) (by have := HW.out.2.1; omega))
        have HM := Lib.hid (show ∀ H', HeapH H' H'.length → H'.Perm (H ++ [(⟨ai, ci, l, i⟩ : Hd)]) → WaI ls (i + 1) H' ∧ H'.length ≤ i + 1 ∧ sumH H' ≤ (ls.take (i + 1)).flatten.length from fun H' h1 h2 => ⟨HW.out.1.more rfl hpi hle h1 h2, by rw [h2.length_eq, List.length_append]; have := HW.out.2.1; simp; omega, by
          have h3 : sumH (H ++ [(⟨ai, ci, l, i⟩ : Hd)]) = sumH H + l.length := by unfold sumH; simp
          rw [sumH_perm h2, h3, hft, List.length_append]
          have := HW.out.2.2
          omega⟩)
        unfold Hd.val at CP
        dsimp only at CP
        clear hc hE hcap hpi hle hft
        generalize l.length = len at *
        go_wp2_with (first | (go_at_call 115; (with_reducible refine CP.out.mono ?_); rintro e w1 ⟨rfl, v', H', hp', hpe, hh', ht', ho'⟩; have HP2 := Lib.hid (show HpI n₀ w1 W1.heap.size v' H' ∧ ∀ x ∈ hblk W1.heap.size v', w.heap.size ≤ x from ⟨hp', hblk_new ho' HP.out.2 HB.out.size⟩); have HW2 := Lib.hid (HM.out H' hh' hpe); have HB2 := Lib.hid (HB.out.trans (ht'.below HB.out.size HP.out.2)); clear hp' hpe hh' ht' ho') | fail)
        go_roundw
        case rel => exact ⟨i + 1, v', H', by go_num, hlt, HP2, HW2, HB2⟩
        case measure => simp [Go.RowKit.intOf]; omega
    · obtain rfl : i = ls.length := by omega
      have hsum := HW.out.2.2
      rw [List.take_length] at hsum
      have HSU := Lib.hid hsum
      clear hsum
      go_wp2_with fail
      go_ret
      exact ⟨_, v, H, rfl, HP.out.1, HW.out.1, HSU.out, HP.out.2, HB.out⟩
end Go.Proofs.YtcbailiniigcnaaGreat

namespace Go.Proofs.YtcbailiniigcnaaGreat
open Go.ChangeShapes Go.WideShapes Go.ChangeAt Go.Deep Go.RowKit Go.Lib
open Go.Maps (Keyed)

theorem laidOut14 : laidOutB Tryz.prog = true := by kernel_rfl
set_option maxRecDepth 100000 in
theorem rowMark : (105 : TypeId) < Tryz.prog.types.size := of_decide_eq_true (by kernel_rfl)
theorem wideMark : (match Tryz.prog.underlying 105 with | some (.array _ _) | some (.struct _) => true | _ => false) = true := by rw [Tryz.underlying105]
set_option maxRecDepth 100000 in
theorem lawMark : Keyed Tryz.prog 105 := Keyed.of_law (deep_law_laid laidOut14 (m := 2) (by omega) rowMark (by kernel_rfl) wideMark)
theorem zeroUnit (w : World) : (zeroValue 106).run Tryz.prog w = .ok (.agg #[]) w := by kernel_rfl
set_option maxRecDepth 100000 in
theorem keyTypeMark : Tryz.prog.keyType 105 = true := by kernel_rfl
theorem cellsMark : Tryz.prog.cellsOf 105 = 2 := by kernel_rfl
def markV (k : ByteArray) (s : Int) : Value := .agg #[.string k, .int .u64 s]
theorem key_mark (k : ByteArray) (s : Int) (hk : k.size ≤ maxLen) (h0 : 0 ≤ s) (h1 : s < 18446744073709551616) : ∃ kl, keyOf Tryz.prog 105 (markV k s) = some kl := by
  obtain ⟨m, hm⟩ : ∃ m, Tryz.prog.types.size = m + 1 := Nat.exists_eq_add_one_of_ne_zero (fun e => by have := rowMark; rw [e] at this; exact absurd this (Nat.not_lt_zero _))
  have hw : (Lit.int .u64 s).wf = true := by
    have e1 : IntKind.u64.min = 0 := rfl
    have e2 : IntKind.u64.max = 18446744073709551615 := rfl
    simp only [Lit.wf, e1, e2, Bool.and_eq_true, decide_eq_true_eq]
    omega
  have c1 : Tryz.prog.cellsOf 9 = 1 := by kernel_rfl
  have c2 : Tryz.prog.cellsOf 23 = 1 := by kernel_rfl
  rw [← Option.isSome_iff_exists]
  unfold keyOf markV
  rw [Tryz.underlying105]
  simp only [keyTypeMark, Value.formed, Tryz.underlying105, cellsMark]
  rw [hm]
  simp [Program.keyLits, Tryz.underlying105, Tryz.underlying9, Tryz.underlying23, cellsMark, c1, c2, hk, hw, Value.cells]
theorem markV_inj {k l : ByteArray} {s t : Int} (h : markV k s = markV l t) : k = l ∧ s = t := by
  unfold markV at h
  simp only [Value.agg.injEq, Array.mk.injEq, List.cons.injEq, Value.string.injEq, Value.int.injEq, true_and, and_true] at h
  exact h
/-- The marks that are told. -/
def TellsM (D : DataW Unit) (O : List Ent) : Prop := Maps.IsMap D ∧ ∀ (x : Ent) kl, keyOf Tryz.prog 105 (markV x.k x.s) = some kl → (Maps.has D kl = true ↔ ∃ e ∈ O, SameE e x)
theorem tellsM_nil : TellsM (.map []) [] := ⟨⟨[], rfl⟩, fun x kl _ => ⟨fun h => by simp [Maps.has] at h, fun ⟨e, he, _⟩ => by cases he⟩⟩
theorem TellsM.put {D : DataW Unit} {O : List Ent} (h : TellsM D O) (x : Ent) {kl : Lit} (hk : keyOf Tryz.prog 105 (markV x.k x.s) = some kl) (d : DataW Unit) : TellsM (D.put kl d) (O ++ [x]) := by
  refine ⟨?_, fun y kl' hk' => ?_⟩
  · obtain ⟨es, rfl⟩ := h.1
    exact ⟨_, rfl⟩
  · by_cases e : kl' = kl
    · subst e
      have hv := markV_inj (lawMark.inj hk hk')
      rw [Maps.has_put_same h.1 (lawMark.key hk)]
      exact ⟨fun _ => ⟨x, by simp, hv⟩, fun _ => rfl⟩
    · rw [Maps.has_put_other e, h.2 y kl' hk']
      constructor
      · rintro ⟨z, hz, hs⟩
        exact ⟨z, List.mem_append_left _ hz, hs⟩
      · rintro ⟨z, hz, hs⟩
        rcases List.mem_append.1 hz with hz | hz
        · exact ⟨z, hz, hs⟩
        · simp only [List.mem_singleton] at hz
          subst hz
          refine absurd ?_ e
          rw [show markV y.k y.s = markV z.k z.s by rw [hs.1, hs.2], hk] at hk'
          exact (Option.some.inj hk').symm
/-- How much waits, read from memory. -/
def heapSum (w : World) (p : Nat) : Nat :=
  match w.cell? ⟨p, 0, none⟩ with
  | some (.slice (some a) n _) => ((List.range n).map fun i => match w.cell? ⟨a.block, a.off + i * 2, none⟩ with | some (.slice _ l _) => l | _ => 0).sum
  | _ => 0
theorem heapSum_eq {w : World} {p : Nat} {v : Value} {H : List Hd} (h : HpAt w p v H) : heapSum w p = sumH H := by
  unfold heapSum
  rw [h.cell]
  obtain ⟨a, cap, hv, -, -⟩ := h.2.le
  have hs : sumH H = ((List.range H.length).map fun i => (H.getD i Hd.zero).l.length).sum := by
    unfold sumH
    congr 1
    refine List.ext_getElem (by simp) fun i h1 h2 => ?_
    have h3 : i < H.length := by simpa using h1
    simp [List.getElem?_eq_getElem h3]
  by_cases h0 : H.length = 0
  · obtain rfl : H = [] := List.eq_nil_of_length_eq_zero h0
    rw [hv]
    cases a <;> rfl
  · rcases h.2.2 with ⟨e, -⟩ | ⟨g, c, cur, hv2, -⟩
    · omega
    · have hr := h.2
      rw [hv2] at hr ⊢
      rw [hs]
      simp only
      congr 1
      refine List.map_congr_left fun i hi => ?_
      have := (hsAt_of hr rfl i (List.mem_range.1 hi)).1
      rw [this]
end Go.Proofs.YtcbailiniigcnaaGreat
