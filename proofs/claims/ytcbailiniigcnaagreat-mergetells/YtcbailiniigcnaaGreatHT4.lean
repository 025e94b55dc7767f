/- merge.All. -/
import Derived.Test.YtcbailiniigcnaaGreatHT3
import Derived.Stop.RegionWithIn
namespace Go.Proofs.YtcbailiniigcnaaGreat
open Go.RowKit Go.Shelf Go.Lib

attribute [local go_sem] Oper.semAt_some

/-- What is told so far: a box with a row of the call's own. -/
def OutI (w : World) (X : Nat) (e : TypeId) (te : TypeId) (size : Nat) (cells : List Ent → List Value) (num : List Ent → Nat) (pre : List Ent) (S : List Nat) (W : World) : Prop :=
  ∃ v, W.heap[X]? = some (.cells #[v] te (0, 0)) ∧ Row W e size v (num pre) (cells pre) ∧ (∀ b, ob v = some b → w.heap.size ≤ b ∧ b ≠ X) ∧ S = X :: (ob v).toList ∧ Below w.heap.size w W
theorem mem_box {X : Nat} {v : Value} {k : Nat} : k ∈ X :: (ob v).toList ↔ k = X ∨ ob v = some k := mem_hblk (p := X) (v := v)
theorem outI_ok (w : World) (X : Nat) (hX : w.heap.size ≤ X) (e te : TypeId) (size : Nat) (cells : List Ent → List Value) (num : List Ent → Nat) : JOk w.heap.size (OutI w X e te size cells num) := by
  refine ⟨?_, ?_⟩
  · rintro pre S W ⟨v, h1, h2, h3, rfl, h4⟩ k hk
    rcases mem_box.1 hk with rfl | hk
    · exact ⟨hX, (Array.getElem?_eq_some_iff.1 h1).1⟩
    · exact ⟨(h3 k hk).1, h2.lt k hk⟩
  · rintro pre S W W' T ⟨v, h1, h2, h3, rfl, h4⟩ ht hT
    have hx := (Array.getElem?_eq_some_iff.1 h1).1
    have hno : ∀ k, k < W.heap.size → k ∈ X :: (ob v).toList → k ∉ T := fun k hk hm he => by
      rcases hT k he with ⟨-, h⟩ | h
      · exact h hm
      · omega
    refine ⟨v, (ht.block X hx (hno X hx (by simp))).trans h1, h2.kept fun k hk => ht.block k (h2.lt k hk) (hno k (h2.lt k hk) (mem_box.2 (.inr hk))), h3, rfl, h4.trans (ht.below h4.size (fun k hk => ?_))⟩
    rcases hT k hk with ⟨h, -⟩ | h
    · exact h
    · have := h4.size; omega
/-- One more is appended, and the box bears it. -/
theorem outI_push {w W W3 W6 w5 : World} {X : Nat} {e te : TypeId} {size : Nat} {cells : List Ent → List Value} {num : List Ent → Nat} {pre' : List Ent} {v v' : Value}
    (h1 : W3.heap[X]? = some (.cells #[v] te (0, 0))) (h3 : ∀ b, ob v = some b → w.heap.size ≤ b ∧ b ≠ X) (hX : w.heap.size ≤ X) (h4 : Below w.heap.size w W3) (hW : W.heap.size ≤ W3.heap.size)
    (ht : Turn [] W3 W6) (hr : Row w5 e size v' (num pre') (cells pre')) (hg : W6.grownBy w5 (ob v)) (ho : ob v' = ob v ∨ (ob v' = some W6.heap.size ∧ W6.grownBy w5 none)) :
    ∃ S' T, OutI w X e te size cells num pre' S' (w5.setCell ⟨X, 0, none⟩ v') ∧ Turn T W3 (w5.setCell ⟨X, 0, none⟩ v') ∧ (∀ k ∈ T, k ∈ X :: (ob v).toList ∨ W.heap.size ≤ k) ∧ ∀ k ∈ S', k ∈ X :: (ob v).toList ∨ W.heap.size ≤ k := by
  have hx := (Array.getElem?_eq_some_iff.1 h1).1
  have s6 := ht.size
  have t5 : Turn (X :: (ob v).toList) W3 w5 := (ht.mono (G := X :: (ob v).toList) (by simp)).trans (turn_of_grown (F := X :: (ob v).toList) hg (fun k hk => .inl (mem_box.2 (.inr hk)))) (fun k hk => .inl hk)
  have hvX : ob v ≠ some X := fun h => (h3 X h).2 rfl
  have hb5 : w5.heap[X]? = some (.cells #[v] te (0, 0)) := (hg.block X (by omega) (fun h => hvX h.symm)).trans ((ht.block X hx (by simp)).trans h1)
  have hnew : ∀ b, ob v' = some b → w.heap.size ≤ b ∧ b ≠ X := fun b hb => by
    rcases ho with h | ⟨h, -⟩
    · exact h3 b (h ▸ hb)
    · rw [hb] at h
      cases h
      have := h4.size
      exact ⟨by omega, by omega⟩
  have t6 : Turn (X :: (ob v).toList) W3 (w5.setCell ⟨X, 0, none⟩ v') := t5.setCell (.inl (by simp)) _
  refine ⟨_, _, ⟨v', ?_, hr.kept fun k hk => heap_setCell_other _ _ _ _ (hnew k hk).2, hnew, rfl, h4.trans (t6.below h4.size (fun k hk => ?_))⟩, t6, fun k hk => .inl hk, fun k hk => ?_⟩
  · have := heap_setCell_same w5 X 0 _ _ v' hb5
    simpa using this
  · rcases mem_box.1 hk with rfl | hk
    · exact hX
    · exact (h3 k hk).1
  · rcases mem_box.1 hk with rfl | hk
    · exact .inl (by simp)
    · rcases ho with h | ⟨h, -⟩
      · exact .inl (mem_box.2 (.inr (h ▸ hk)))
      · rw [hk] at h
        cases h
        exact .inr (by omega)
set_option maxHeartbeats 8000000 in
set_option maxRecDepth 100000 in
theorem allC : AllC := by
  intro a n cap ls w hL hn hl hs
  refine (callsIn_wide (n := 0)).1 ?_
  obtain ⟨i0, hi0, hz0, hz1, hz2⟩ := info_parts infoE5
  refine callsIn_of_wp_marks Tryz.func8 rfl trivial ?_ rfl
  simp only [Tryz.ntmps8, List.size_toArray, List.length_cons, List.length_nil, Nat.reduceAdd, Nat.reduceSub, Array.replicate_succ, Array.replicate_zero, List.push_toArray, List.append_toArray, List.nil_append, List.cons_append]
  obtain ⟨W1, hW1⟩ : ∃ W, w.alloc (.cells #[.slice none 0 0] 26) = W := ⟨_, rfl⟩
  gi_wp2_with (refine ⟨trivial, rfl, ?_⟩; gi_at_call 22; refine (inOrder_in _ a n cap _).mono ?_; rintro e w1 ⟨rfl, rfl⟩)
  obtain ⟨W2, hW2⟩ : ∃ W, W1.alloc (.cells #[.slice a n cap] 22) = W := ⟨_, rfl⟩
  have hs1 : W1.heap.size = w.heap.size + 1 := by rw [← hW1]; simp
  have hb1 : Below w.heap.size w W2 := by rw [← hW2, ← hW1]; exact ((Below.refl _ _).alloc (Nat.le_refl _) _).alloc (by simp) _
  have hbox : W2.heap[w.heap.size]? = some (.cells #[.slice none 0 0] 26 (0, 0)) := by
    rw [← hW2]
    refine (Below.heap_alloc W1 _ _ (by omega)).trans ?_
    rw [← hW1]
    exact heap_alloc_new w _
  have hcB : W2.cell? ⟨W1.heap.size, 0, none⟩ = some (.slice a n cap) := by rw [← hW2]; exact nce rfl rfl
  rw [hW2]
  have HS1 := Lib.hid hs1
  clear hs1
  refine wpIn_rangeOrd (Bs := W1.heap.size) (sa := a) (n := n) (cap := cap) (ls := ls) (by rfl) hcB rfl w.heap.size hb1.size (hL.lsIn.below hb1) hn hl hs
    (OutI w w.heap.size 56 26 4 cellsE List.length) (outI_ok _ _ (Nat.le_refl _) _ _ _ _ _) [w.heap.size] ⟨_, hbox, row_nil _ _ _, fun b hb => none_ne hb, rfl, hb1⟩
    (fun x W => { tmps := #[.slice a n cap, undef, .slice none 0 0, .pointer (some ⟨w.heap.size, 0, none⟩), .pointer (some ⟨W.heap.size, 0, none⟩), .slice a n cap, .func (.func 84) #[] #[.pointer (some ⟨W1.heap.size, 0, none⟩)], x.val, undef, undef, undef, undef, undef, undef], defers := [] })
    (fun x W => W.alloc (.cells x.cells.toArray 56)) (fun x W => turn_of_below ((Below.refl _ _).alloc (Nat.le_refl _) _)) ?assign ?body ?done
  case assign =>
    intro l x W K hK
    obtain ⟨xk, xs, xn, xv⟩ := x
    simp only [Ent.val, ev, Ent.cells] at hK ⊢
    gi_wp2
    exact hK
  case done =>
    rintro D S W hD hDS ⟨v, h1, h2, h3, rfl, h4⟩ hK
    have hc : W.cell? ⟨w.heap.size, 0, none⟩ = some v := by simp only [World.cell?, h1]; rfl
    gi_wp2
    refine ⟨by simp, .inl ⟨_, _, rfl, run_takeDeferred hK, ?_⟩⟩
    have tp := turn_put W D (.deferred none)
    refine ⟨_, results_tmp rfl _ _ _, v, rfl, ⟨h2.kept fun k hk => tp.block k (h2.lt k hk) (fun e => hDS ?_), fun b hb => (h3 b hb).1⟩, h4.trans (tp.below h4.size (fun k hk => ?_))⟩
    · simp at e
      subst e
      exact mem_box.2 (.inr hk)
    · simp at hk
      subst hk
      have := hb1.size
      omega
  case body =>
    rintro l pre x S W W3 L ⟨v, h1, h2, h3, rfl, h4⟩ ht hL2 hSW hok - hlen
    obtain ⟨xk, xs, xn, xv⟩ := x
    have hsz := ht.size
    rw [World.size_alloc] at hsz
    have hx := (Array.getElem?_eq_some_iff.1 h1).1
    have hne : W.heap.size ≠ L := by omega
    have he3 : W3.heap[W.heap.size]? = some (.cells #[.string xk, .int .u64 xs, .int .i64 xn, .string xv] 56 (0, 0)) := (ht.block _ (by rw [World.size_alloc]; omega) (by simp; exact hne)).trans (heap_alloc_new W _)
    obtain ⟨y0, y1, y2, y3⟩ := round_cells (M := W3.heap.size) he3 (Turn.refl _ _) (by have := (Array.getElem?_eq_some_iff.1 he3).1; omega)
    have k0 : W3.cell? ⟨w.heap.size, 0, none⟩ = some v := by simp only [World.cell?, h1]; rfl
    have HK0 := Lib.hid (show W3.drew.cell? ⟨w.heap.size, 0, none⟩ = some v from k0)
    have HF0 := Lib.hid (show W3.drew.frozen? ⟨w.heap.size, 0, none⟩ = false from (show W3.frozen? ⟨w.heap.size, 0, none⟩ = false by simp [World.frozen?, h1]))
    have HXL := Lib.hid (show w.heap.size < W3.drew.heap.size from hx)
    have HROW := Lib.hid (show Row W3.drew 56 4 v pre.length (cellsE pre) from h2)
    have HVX := Lib.hid (show ob v ≠ some w.heap.size from fun h => (h3 _ h).2 rfl)
    have HBa := Lib.hid (show pre.length + 1 ≤ maxLen by unfold maxLen; omega)
    have HBb := Lib.hid (show (pre.length + 1) * 48 ≤ 140737488355328 by omega)
    have CF := Lib.hid (fun W' => freshU_any xk xs xn xv W' (by have := hok.2.1; simp only at this; omega) (by have := hok.2.2; simp only at this; omega))
    have HQR := Lib.hid (show ∀ (v' : Value) (W' : World), Row W' 56 4 v' (pre.length + 1) (cellsE pre ++ [.string xk, .int .u64 xs, .int .i64 xn, .string xv]) → Row W' 56 4 v' (pre ++ [(⟨xk, xs, xn, xv⟩ : Ent)]).length (cellsE (pre ++ [(⟨xk, xs, xn, xv⟩ : Ent)])) from fun _ _ h => by
      rw [List.length_append, cellsE_append]
      exact h)
    have HFIN := Lib.hid (fun (W6 w5 : World) (v' : Value) (ht : Turn [] W3 W6) (hr : Row w5 56 4 v' (pre ++ [(⟨xk, xs, xn, xv⟩ : Ent)]).length (cellsE (pre ++ [(⟨xk, xs, xn, xv⟩ : Ent)]))) (hg : W6.grownBy w5 (ob v)) (ho : ob v' = ob v ∨ (ob v' = some W6.heap.size ∧ W6.grownBy w5 none)) =>
      outI_push (w := w) (W := W) (te := 26) (num := List.length) (cells := cellsE) (pre' := pre ++ [(⟨xk, xs, xn, xv⟩ : Ent)]) h1 h3 (Nat.le_refl _) h4 (by omega) ht hr hg ho)
    unfold ev at CF
    simp only [Ent.val, ev]
    clear h1 h2 h3 h4 he3 hsz hx hne ht hL2 hSW hL
    gi_wp2
    refine wpIn_region_any (by kernel_rfl) ?_
    change wpAnyIn _ _ _ _ _ _ _ _ _ (World.drew _)
    refine wpAnyIn_ready (rs := [0, 1]) (by kernel_rfl) (by simp) ?_
    refine AllReadyIn.cons rfl (fun K hK => ?_) (AllReadyIn.cons rfl (fun K hK => ?_) (AllReadyIn.nil))
    · go_simp
      refine hK _ _ ?_
      clear hK K
      refine wpAnyIn_ready (rs := [1]) (by kernel_rfl) (by simp) ?_
      refine AllReadyIn.cons rfl (fun K hK => ?_) (AllReadyIn.nil)
      go_simp
      refine hK _ _ ?_
      clear hK K
      refine wpAnyIn_ready (rs := [2]) (by kernel_rfl) (by simp) ?_
      refine AllReadyIn.cons rfl (fun K hK => ?_) (AllReadyIn.nil)
      go_simp
      gi_wp2_with (refine ⟨trivial, rfl, ?_⟩; gi_at_call 23; refine ((callsIn_wide.2 (CF.out _)).inRound l).mono ?_; rintro e w1 ⟨rfl, hbF⟩)
      have HB1 := Lib.hid hbF
      have k1 := (hbF.cell (p := ⟨w.heap.size, 0, none⟩) HXL.out).trans HK0.out
      have HB2 := Lib.hid (hbF.trans ((Below.refl w1.heap.size w1).alloc (Nat.le_refl _) (.cells #[.string xk, .int .u64 xs, .int .i64 xn, .string xv] 56)|>.mono hbF.size))
      have HK2 := Lib.hid ((HB2.out.cell (p := ⟨w.heap.size, 0, none⟩) HXL.out).trans HK0.out)
      have k2 := HK2.out
      have HL2 := Lib.hid (Nat.lt_of_lt_of_le HXL.out HB2.out.size)
      have HF2 := Lib.hid ((World.frozen?_of_block (HB2.out.block w.heap.size HXL.out)).trans HF0.out)
      have HT6 := Lib.hid (show Turn [] W3 _ from (Turn.refl [] W3).drew.trans (turn_of_below (F := []) HB2.out) (by simp))
      clear hbF
      refine wpAnyIn_ready (rs := [3]) (by kernel_rfl) (by simp) ?_
      refine AllReadyIn.cons rfl (fun K hK => ?_) (AllReadyIn.nil)
      go_simp
      refine hK _ _ ?_
      clear hK K
      refine wpAnyIn_ready (rs := [4]) (by kernel_rfl) (by simp) ?_
      refine AllReadyIn.cons rfl (fun K hK => ?_) (AllReadyIn.nil)
      refine stepIn_append_row (by rfl) (.tmp 8) (.tmp 11) 26 26 (by rfl) 56 i0 _ 4 48 Tryz.underlying26 hi0 hz0 hz1 hz2 rfl v _ _ (by simp [Act.eval]) (row_below HROW.out HB2.out) _ (by simp [Act.eval]) 1 _ (src_new ⟨xk, xs, xn, xv⟩ w1) HBa.out HBb.out ?_
      intro v5 w5 hrow5 hgrow5 hob5
      obtain ⟨a5, c5, rfl, -, -⟩ := hrow5.le
      have k5 : w5.cell? ⟨w.heap.size, 0, none⟩ = some v := hgrow5.cell (a := ⟨w.heap.size, 0, none⟩) HK2.out (fun h => HVX.out h.symm)
      have f5 : w5.frozen? ⟨w.heap.size, 0, none⟩ = false := (World.frozen?_of_block (hgrow5.block w.heap.size HL2.out (fun h => HVX.out h.symm))).trans HF2.out
      refine hK _ _ ?_
      clear hK K
      refine wpAnyIn_ready (rs := [5]) (by kernel_rfl) (by simp) ?_
      refine AllReadyIn.cons rfl (fun K hK => ?_) (AllReadyIn.nil)
      go_simp
      refine hK _ _ ?_
      clear hK K
      refine wpAnyIn_done (by kernel_rfl) ?_ _
      exact ⟨rfl, HFIN.out _ _ _ HT6.out (HQR.out _ _ hrow5) hgrow5 hob5⟩
    · go_simp
      refine hK _ _ ?_
      clear hK K
      refine wpAnyIn_ready (rs := [0, 2]) (by kernel_rfl) (by simp) ?_
      refine AllReadyIn.cons rfl (fun K hK => ?_) (AllReadyIn.cons rfl (fun K hK => ?_) (AllReadyIn.nil))
      · go_simp
        refine hK _ _ ?_
        clear hK K
        refine wpAnyIn_ready (rs := [2]) (by kernel_rfl) (by simp) ?_
        refine AllReadyIn.cons rfl (fun K hK => ?_) (AllReadyIn.nil)
        go_simp
        gi_wp2_with (refine ⟨trivial, rfl, ?_⟩; gi_at_call 23; refine ((callsIn_wide.2 (CF.out _)).inRound l).mono ?_; rintro e w1 ⟨rfl, hbF⟩)
        have HB1 := Lib.hid hbF
        have k1 := (hbF.cell (p := ⟨w.heap.size, 0, none⟩) HXL.out).trans HK0.out
        have HB2 := Lib.hid (hbF.trans ((Below.refl w1.heap.size w1).alloc (Nat.le_refl _) (.cells #[.string xk, .int .u64 xs, .int .i64 xn, .string xv] 56)|>.mono hbF.size))
        have HK2 := Lib.hid ((HB2.out.cell (p := ⟨w.heap.size, 0, none⟩) HXL.out).trans HK0.out)
        have k2 := HK2.out
        have HL2 := Lib.hid (Nat.lt_of_lt_of_le HXL.out HB2.out.size)
        have HF2 := Lib.hid ((World.frozen?_of_block (HB2.out.block w.heap.size HXL.out)).trans HF0.out)
        have HT6 := Lib.hid (show Turn [] W3 _ from (Turn.refl [] W3).drew.trans (turn_of_below (F := []) HB2.out) (by simp))
        clear hbF
        refine wpAnyIn_ready (rs := [3]) (by kernel_rfl) (by simp) ?_
        refine AllReadyIn.cons rfl (fun K hK => ?_) (AllReadyIn.nil)
        go_simp
        refine hK _ _ ?_
        clear hK K
        refine wpAnyIn_ready (rs := [4]) (by kernel_rfl) (by simp) ?_
        refine AllReadyIn.cons rfl (fun K hK => ?_) (AllReadyIn.nil)
        refine stepIn_append_row (by rfl) (.tmp 8) (.tmp 11) 26 26 (by rfl) 56 i0 _ 4 48 Tryz.underlying26 hi0 hz0 hz1 hz2 rfl v _ _ (by simp [Act.eval]) (row_below HROW.out HB2.out) _ (by simp [Act.eval]) 1 _ (src_new ⟨xk, xs, xn, xv⟩ w1) HBa.out HBb.out ?_
        intro v5 w5 hrow5 hgrow5 hob5
        obtain ⟨a5, c5, rfl, -, -⟩ := hrow5.le
        have k5 : w5.cell? ⟨w.heap.size, 0, none⟩ = some v := hgrow5.cell (a := ⟨w.heap.size, 0, none⟩) HK2.out (fun h => HVX.out h.symm)
        have f5 : w5.frozen? ⟨w.heap.size, 0, none⟩ = false := (World.frozen?_of_block (hgrow5.block w.heap.size HL2.out (fun h => HVX.out h.symm))).trans HF2.out
        refine hK _ _ ?_
        clear hK K
        refine wpAnyIn_ready (rs := [5]) (by kernel_rfl) (by simp) ?_
        refine AllReadyIn.cons rfl (fun K hK => ?_) (AllReadyIn.nil)
        go_simp
        refine hK _ _ ?_
        clear hK K
        refine wpAnyIn_done (by kernel_rfl) ?_ _
        exact ⟨rfl, HFIN.out _ _ _ HT6.out (HQR.out _ _ hrow5) hgrow5 hob5⟩
      · go_simp
        gi_wp2_with (refine ⟨trivial, rfl, ?_⟩; gi_at_call 23; refine ((callsIn_wide.2 (CF.out _)).inRound l).mono ?_; rintro e w1 ⟨rfl, hbF⟩)
        have HB1 := Lib.hid hbF
        have k1 := (hbF.cell (p := ⟨w.heap.size, 0, none⟩) HXL.out).trans HK0.out
        have HB2 := Lib.hid (hbF.trans ((Below.refl w1.heap.size w1).alloc (Nat.le_refl _) (.cells #[.string xk, .int .u64 xs, .int .i64 xn, .string xv] 56)|>.mono hbF.size))
        have HK2 := Lib.hid ((HB2.out.cell (p := ⟨w.heap.size, 0, none⟩) HXL.out).trans HK0.out)
        have k2 := HK2.out
        have HL2 := Lib.hid (Nat.lt_of_lt_of_le HXL.out HB2.out.size)
        have HF2 := Lib.hid ((World.frozen?_of_block (HB2.out.block w.heap.size HXL.out)).trans HF0.out)
        have HT6 := Lib.hid (show Turn [] W3 _ from (Turn.refl [] W3).drew.trans (turn_of_below (F := []) HB2.out) (by simp))
        clear hbF
        refine wpAnyIn_ready (rs := [0, 3]) (by kernel_rfl) (by simp) ?_
        refine AllReadyIn.cons rfl (fun K hK => ?_) (AllReadyIn.cons rfl (fun K hK => ?_) (AllReadyIn.nil))
        · go_simp
          refine hK _ _ ?_
          clear hK K
          refine wpAnyIn_ready (rs := [3]) (by kernel_rfl) (by simp) ?_
          refine AllReadyIn.cons rfl (fun K hK => ?_) (AllReadyIn.nil)
          go_simp
          refine hK _ _ ?_
          clear hK K
          refine wpAnyIn_ready (rs := [4]) (by kernel_rfl) (by simp) ?_
          refine AllReadyIn.cons rfl (fun K hK => ?_) (AllReadyIn.nil)
          refine stepIn_append_row (by rfl) (.tmp 8) (.tmp 11) 26 26 (by rfl) 56 i0 _ 4 48 Tryz.underlying26 hi0 hz0 hz1 hz2 rfl v _ _ (by simp [Act.eval]) (row_below HROW.out HB2.out) _ (by simp [Act.eval]) 1 _ (src_new ⟨xk, xs, xn, xv⟩ w1) HBa.out HBb.out ?_
          intro v5 w5 hrow5 hgrow5 hob5
          obtain ⟨a5, c5, rfl, -, -⟩ := hrow5.le
          have k5 : w5.cell? ⟨w.heap.size, 0, none⟩ = some v := hgrow5.cell (a := ⟨w.heap.size, 0, none⟩) HK2.out (fun h => HVX.out h.symm)
          have f5 : w5.frozen? ⟨w.heap.size, 0, none⟩ = false := (World.frozen?_of_block (hgrow5.block w.heap.size HL2.out (fun h => HVX.out h.symm))).trans HF2.out
          refine hK _ _ ?_
          clear hK K
          refine wpAnyIn_ready (rs := [5]) (by kernel_rfl) (by simp) ?_
          refine AllReadyIn.cons rfl (fun K hK => ?_) (AllReadyIn.nil)
          go_simp
          refine hK _ _ ?_
          clear hK K
          refine wpAnyIn_done (by kernel_rfl) ?_ _
          exact ⟨rfl, HFIN.out _ _ _ HT6.out (HQR.out _ _ hrow5) hgrow5 hob5⟩
        · go_simp
          refine hK _ _ ?_
          clear hK K
          refine wpAnyIn_ready (rs := [0]) (by kernel_rfl) (by simp) ?_
          refine AllReadyIn.cons rfl (fun K hK => ?_) (AllReadyIn.nil)
          go_simp
          refine hK _ _ ?_
          clear hK K
          refine wpAnyIn_ready (rs := [4]) (by kernel_rfl) (by simp) ?_
          refine AllReadyIn.cons rfl (fun K hK => ?_) (AllReadyIn.nil)
          refine stepIn_append_row (by rfl) (.tmp 8) (.tmp 11) 26 26 (by rfl) 56 i0 _ 4 48 Tryz.underlying26 hi0 hz0 hz1 hz2 rfl v _ _ (by simp [Act.eval]) (row_below HROW.out HB2.out) _ (by simp [Act.eval]) 1 _ (src_new ⟨xk, xs, xn, xv⟩ w1) HBa.out HBb.out ?_
          intro v5 w5 hrow5 hgrow5 hob5
          obtain ⟨a5, c5, rfl, -, -⟩ := hrow5.le
          have k5 : w5.cell? ⟨w.heap.size, 0, none⟩ = some v := hgrow5.cell (a := ⟨w.heap.size, 0, none⟩) HK2.out (fun h => HVX.out h.symm)
          have f5 : w5.frozen? ⟨w.heap.size, 0, none⟩ = false := (World.frozen?_of_block (hgrow5.block w.heap.size HL2.out (fun h => HVX.out h.symm))).trans HF2.out
          refine hK _ _ ?_
          clear hK K
          refine wpAnyIn_ready (rs := [5]) (by kernel_rfl) (by simp) ?_
          refine AllReadyIn.cons rfl (fun K hK => ?_) (AllReadyIn.nil)
          go_simp
          refine hK _ _ ?_
          clear hK K
          refine wpAnyIn_done (by kernel_rfl) ?_ _
          exact ⟨rfl, HFIN.out _ _ _ HT6.out (HQR.out _ _ hrow5) hgrow5 hob5⟩
end Go.Proofs.YtcbailiniigcnaaGreat
