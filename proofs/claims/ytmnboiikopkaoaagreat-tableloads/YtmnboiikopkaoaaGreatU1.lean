/- Joined: UW UX UU UY UZ. -/
import Derived.Test.YtmnboiikopkaoaaGreatUT
import Derived.Test.YtmnboiikopkaoaaGreatVG9
import Derived.Lib.ConvBytes
namespace Go.Proofs.YtmnboiikopkaoaaGreat
open Go.RowKit

/-- A builder in a block of its own, holding bytes. -/
structure Bl (w : World) (b : Nat) (V : Value) (acc : List UInt8) : Prop where
  at_ : ∃ pv, (pv = .pointer none ∨ pv = .pointer (some ⟨b, 0, none⟩)) ∧ w.heap[b]? = some (.cells #[pv, V] 83)
  row : Row w 5 1 V acc.length (Lib.byteCells acc)
  nb : ob V ≠ some b
section
variable {w w' : World} {b : Nat} {V : Value} {acc : List UInt8}
theorem Bl.lt (h : Bl w b V acc) : b < w.heap.size := by
  obtain ⟨pv, -, h1⟩ := h.at_
  exact (Array.getElem?_eq_some_iff.1 h1).1
theorem Bl.c1 (h : Bl w b V acc) : w.cell? ⟨b, 1, none⟩ = some V := by
  obtain ⟨pv, -, h1⟩ := h.at_
  unfold World.cell?; rw [h1]; rfl
theorem Bl.f (h : Bl w b V acc) (j : Nat) : w.frozen? ⟨b, j, none⟩ = false := by
  obtain ⟨pv, -, h1⟩ := h.at_
  unfold World.frozen?; rw [h1]; simp
theorem Bl.kept (h : Bl w b V acc) (h1 : w'.heap[b]? = w.heap[b]?) (h2 : ∀ k, ob V = some k → w'.heap[k]? = w.heap[k]?) : Bl w' b V acc := by
  obtain ⟨pv, hp, hb⟩ := h.at_
  exact ⟨⟨pv, hp, h1.trans hb⟩, h.row.kept h2, h.nb⟩
theorem Bl.below (h : Bl w b V acc) (hb : Below w.heap.size w w') : Bl w' b V acc := h.kept (hb.block b h.lt) (fun k hk => hb.block k (h.row.lt k hk))
theorem Bl.fresh (w : World) : Bl (w.alloc (.cells #[.pointer none, .slice none 0 0] 83)) w.heap.size (.slice none 0 0) [] :=
  ⟨⟨_, .inl rfl, new_block _ _ rfl⟩, row_nil _ _ _, by simp [ob]⟩
set_option maxHeartbeats 1000000 in
theorem blen_any (h : Bl w b V acc) : Calls Tryz.prog 43 #[.pointer (some ⟨b, 0, none⟩)] w fun e w' => e = .returned (.int .i64 (acc.length : Int)) ∧ w = w' := by
  obtain ⟨a, cap, rfl, -, -⟩ := h.row.le
  have hc := h.c1
  clear h
  go_enter Tryz.func43, Tryz.ntmps43
  go_wp2
  go_ret
  exact ⟨rfl, rfl⟩
theorem bcheck_any (h : Bl w b V acc) : Calls Tryz.prog 71 #[.pointer (some ⟨b, 0, none⟩)] w fun e w' => e = .returned (.tuple #[]) ∧ Bl w' b V acc ∧ w'.cell? ⟨b, 0, none⟩ = some (.pointer (some ⟨b, 0, none⟩)) ∧ w.grownBy w' (some b) := by
  obtain ⟨pv, hp, hb⟩ := h.at_
  rcases hp with rfl | rfl
  · refine (Any.Builder_copyCheck_fresh Tryz.lays240 Tryz.Builder_X72_240 b w ?_ ?_ (h.f 0)).mono ?_
    · unfold World.cell?; rw [hb]; rfl
    · unfold World.shape?; rw [hb]; rfl
    · rintro e w1 ⟨rfl, rfl⟩
      have h1 := heap_setCell_same w b 0 _ _ (.pointer (some ⟨b, 0, none⟩)) hb
      refine ⟨rfl, ⟨⟨_, .inr rfl, h1⟩, h.row.kept (fun k hk => heap_setCell_other w ⟨b, 0, none⟩ k _ (fun e => h.nb (by rw [hk, e]))), h.nb⟩, ?_, grownBy_set w b 0 _⟩
      unfold World.cell?; rw [h1]; rfl
  · refine (Any.Builder_copyCheck_used Tryz.lays240 Tryz.Builder_X72_240 b w ?_).mono ?_
    · unfold World.cell?; rw [hb]; rfl
    · rintro e w1 ⟨rfl, rfl⟩
      refine ⟨rfl, h, ?_, grownBy_drewN w1 0 _⟩
      unfold World.cell?; rw [hb]; rfl
set_option maxHeartbeats 1000000 in
theorem bwrite_any (h : Bl w b V acc) (A : ByteArray) (hl : acc.length + A.size ≤ 1000000000) :
    Calls Tryz.prog 37 #[.pointer (some ⟨b, 0, none⟩), .string A] w fun e w' => e = .returned (.tuple #[.int .i64 (A.size : Int), .nilIface]) ∧ ∃ V', Bl w' b V' (acc ++ A.data.toList) ∧ (ob V' = ob V ∨ ∃ g, ob V' = some g ∧ w.heap.size ≤ g) ∧ Turn (b :: (ob V).toList) w w' := by
  obtain ⟨i0, hi, hz0, hzs, hzb⟩ := info_parts infoByte
  have CC := Lib.hid (bcheck_any h)
  have H1 := Lib.hid (show acc.length + A.size ≤ maxLen by unfold maxLen; omega)
  have H2 := Lib.hid (show (acc.length + A.size) * 1 ≤ 140737488355328 by omega)
  obtain ⟨va, vc, rfl, -, -⟩ := h.row.le
  clear h hl
  go_enter Tryz.func37, Tryz.ntmps37
  go_wp2_with fail
  go_at_call 71
  refine CC.out.mono ?_
  rintro _ w1 ⟨rfl, h1, c0, g1⟩
  have HB1 := Lib.hid h1
  have HG1 := Lib.hid g1
  have c1 := h1.c1
  clear CC h1 g1
  go_wp2_with (at_builtin; refine wpList_append_row _ rfl _ _ 78 9 rfl 5 i0 _ 1 1 Tryz.underlying78 hi hz0 hzs hzb rfl (.slice va acc.length vc) _ _ rfl HB1.out.row _ rfl A.size _ (src_strB A _) H1.out H2.out ?_; intro v' w2 hrow2 hgrow2 hob2; obtain ⟨a2, cc2, rfl, -, -⟩ := hrow2.le; have hbk : w2.heap[b]? = w1.heap[b]? := hgrow2.block b HB1.out.lt (fun e => HB1.out.nb e.symm); have d1 : w2.cell? ⟨b, 1, none⟩ = some (.slice va acc.length vc) := (World.cell?_of_block hbk).trans c1; have f1 : w2.frozen? ⟨b, 1, none⟩ = false := (World.frozen?_of_block hbk).trans (HB1.out.f 1))
  go_ret2
  have hw : w.heap.size ≤ w1.heap.size := HG1.out.size
  have hnb : ob (.slice a2 (acc.length + A.size) cc2) ≠ some b := fun e2 => by
    rcases hob2 with e | ⟨e, -⟩
    · exact HB1.out.nb (by rw [← e]; exact e2)
    · rw [e] at e2; cases e2
      have := HB1.out.lt
      omega
  refine ⟨rfl, _, ⟨?_, ?_, hnb⟩, ?_, ?_⟩
  · obtain ⟨pv, hp, hb⟩ := HB1.out.at_
    exact ⟨pv, hp, heap_setCell_same w2 b 1 _ _ _ (hbk.trans hb)⟩
  · have hr : Row w2 5 1 (.slice a2 (acc.length + A.size) cc2) (acc ++ A.data.toList).length (Lib.byteCells (acc ++ A.data.toList)) := by
      rw [List.length_append, len_data', Lib.byteCells_append]; exact hrow2
    exact hr.kept fun k hk => heap_setCell_other w2 ⟨b, 1, none⟩ k _ (fun e => hnb (by rw [hk, e]))
  · rcases hob2 with e | ⟨e, -⟩
    · exact .inl e
    · exact .inr ⟨_, e, hw⟩
  · have t1 : Turn (b :: (ob (.slice va acc.length vc)).toList) w w1 := turn_of_grown HG1.out (fun k hk => .inl (by cases hk; simp))
    have t2 : Turn (b :: (ob (.slice va acc.length vc)).toList) w w2 := t1.trans (turn_of_grown (F := (ob (.slice va acc.length vc)).toList) hgrow2 (fun k hk => .inl (by rw [hk]; simp))) (fun x hx => .inl (List.mem_cons_of_mem _ hx))
    exact t2.setCell (p := ⟨b, 1, none⟩) (.inl (by simp)) _
theorem freeze_turn (w : World) (g n : Nat) : Turn [g] w (w.freeze ⟨g, 0, none⟩ n) := by
  unfold World.freeze
  split
  · exact Turn.refl _ _
  · exact ⟨rfl, rfl, rfl, by simp, fun k _ hn => by
      have hk : ¬ g = k := fun e => hn (by simp [e])
      simp only [Array.getElem?_modify]
      rw [if_neg hk]⟩
set_option maxHeartbeats 2000000 in
set_option maxRecDepth 100000 in
theorem bstr_any (h : Bl w b V acc) (hne : acc ≠ []) : Calls Tryz.prog 47 #[.pointer (some ⟨b, 0, none⟩)] w fun e w' => e = .returned (.string ⟨acc.toArray⟩) ∧ Turn (ob V).toList w w' := by
  have hc1 := h.c1
  have hl0 : acc.length ≠ 0 := fun e => hne (List.eq_nil_of_length_eq_zero e)
  obtain ⟨g, cap, cur, rfl, hg, h1, h2, h3, -⟩ : ∃ g cap cur, V = .slice (some ⟨g, 0, none⟩) acc.length (cap + 1) ∧ w.heap[g]? = some (.cells cur 5 (0, 0)) ∧ acc.length ≤ cap + 1 ∧ cap + 1 ≤ maxLen ∧ cur.size = (cap + 1) * 1 ∧ True := by
    rcases h.row.2 with ⟨h0, -⟩ | ⟨g, cap, cur, e, hg, h1, h2, h3, h4⟩
    · exact absurd h0 hl0
    · exact ⟨g, cap, cur, e, hg, h1, h2, h3, trivial⟩
  have hcell := h.row.cell g 0 _ rfl
  have c1 : w.drew.cell? ⟨b, 1, none⟩ = some (.slice (some ⟨g, 0, none⟩) acc.length (cap + 1)) := hc1
  have hSD : (Builtin.unsafeSliceData_ #[78] 134 #[.slice (some ⟨g, 0, none⟩) acc.length (cap + 1)]).run Tryz.prog w.drew = .ok (.pointer (some ⟨g, 0, none⟩)) w.drew :=
    Lib.run_unsafeSliceData_row _ _ _ _ _ _ (by omega)
  have hUS : (Builtin.unsafeString_ #[134, 3] 9 #[.pointer (some ⟨g, 0, none⟩), .int .i64 acc.length]).run Tryz.prog w.drew = .ok (.string ⟨acc.toArray⟩) (w.drew.freeze ⟨g, 0, none⟩ acc.length) := by
    refine Lib.run_unsafeString_row w.drew 134 3 9 5 Tryz.underlying134 Tryz.Builder_Extra_169.cellsByte g cur.size (by have hg' : w.drew.heap[g]? = some (.cells cur 5 (0, 0)) := hg; simp [World.shape?, hg']) acc hne (by omega) (by unfold maxLen at h2; omega) ?_
    intro j x hx
    have := hcell j (.int .u8 x.toNat) (by simp [Lib.byteCells, hx])
    rw [Nat.zero_add] at this
    rw [addrJ]
    exact this
  have HT := Lib.hid (show Turn (ob (.slice (some ⟨g, 0, none⟩) acc.length (cap + 1))).toList w (w.drew.freeze ⟨g, 0, none⟩ acc.length) from ((Turn.refl [g] w).drew).trans (freeze_turn w.drew g acc.length) (fun _ h => .inl h))
  have mixed : Tryz.prog.follows .mixedOrders = true := by kernel_rfl
  clear h hcell hg h1 h2 h3 hl0 hne
  go_enter Tryz.func47, Tryz.ntmps47
  go_wp2
  go_region_o
  all_goals (go_wp2; go_ret; exact ⟨rfl, HT.out⟩)
end
/-- Two builders of a call that began at w, apart. -/
structure PutS (w : World) (bb ib : Nat) (VB VI : Value) (body idx : List UInt8) (wr : World) : Prop where
  b : Bl wr bb VB body
  i : Bl wr ib VI idx
  ne : bb ≠ ib
  nbi : ob VB ≠ some ib
  nib : ob VI ≠ some bb
  nn : ∀ k, ob VB = some k → ob VI ≠ some k
  lb : w.heap.size ≤ bb
  li : w.heap.size ≤ ib
  lvb : ∀ k, ob VB = some k → w.heap.size ≤ k
  lvi : ∀ k, ob VI = some k → w.heap.size ≤ k
  bel : Below w.heap.size w wr
section
variable {w wr wy : World} {bb ib : Nat} {VB VI V' : Value} {body idx acc' : List UInt8}
theorem PutS.below (h : PutS w bb ib VB VI body idx wr) (hb : Below wr.heap.size wr wy) : PutS w bb ib VB VI body idx wy :=
  ⟨h.b.below hb, h.i.below hb, h.ne, h.nbi, h.nib, h.nn, h.lb, h.li, h.lvb, h.lvi, h.bel.trans (hb.mono h.bel.size)⟩
theorem PutS.onB (h : PutS w bb ib VB VI body idx wr) (h1 : Bl wy bb V' acc') (ho : ob V' = ob VB ∨ ∃ g, ob V' = some g ∧ wr.heap.size ≤ g) (ht : Turn (bb :: (ob VB).toList) wr wy) : PutS w bb ib V' VI acc' idx wy := by
  have hn : ∀ k, ob V' = some k → k ≠ ib ∧ ob VI ≠ some k ∧ w.heap.size ≤ k := fun k hk => by
    rcases ho with e | ⟨g, e, hge⟩
    · rw [e] at hk
      exact ⟨fun e2 => h.nbi (by rw [hk, e2]), h.nn k hk, h.lvb k hk⟩
    · rw [e] at hk; cases hk
      have h1 := h.i.lt
      have h2 := h.bel.size
      exact ⟨by omega, fun e2 => by have := h.i.row.lt _ e2; omega, by omega⟩
  refine ⟨h1, h.i.kept (ht.block ib h.i.lt ?_) (fun k hk => ht.block k (h.i.row.lt k hk) ?_), h.ne, fun e => (hn _ e).1 rfl, h.nib, fun k hk => (hn k hk).2.1, h.lb, h.li, fun k hk => (hn k hk).2.2, h.lvi, h.bel.trans (ht.below h.bel.size (fun x hx => ?_))⟩
  · intro hm
    rcases List.mem_cons.1 hm with e | hm
    · exact h.ne e.symm
    · exact h.nbi (by simpa using hm)
  · intro hm
    rcases List.mem_cons.1 hm with e | hm
    · exact h.nib (by rw [hk, e])
    · exact h.nn k (by simpa using hm) hk
  · rcases List.mem_cons.1 hx with rfl | hx
    · exact h.lb
    · exact h.lvb x (by simpa using hx)
theorem PutS.onI (h : PutS w bb ib VB VI body idx wr) (h1 : Bl wy ib V' acc') (ho : ob V' = ob VI ∨ ∃ g, ob V' = some g ∧ wr.heap.size ≤ g) (ht : Turn (ib :: (ob VI).toList) wr wy) : PutS w bb ib VB V' body acc' wy := by
  have hn : ∀ k, ob V' = some k → k ≠ bb ∧ ob VB ≠ some k ∧ w.heap.size ≤ k := fun k hk => by
    rcases ho with e | ⟨g, e, hge⟩
    · rw [e] at hk
      exact ⟨fun e2 => h.nib (by rw [hk, e2]), fun e2 => h.nn k e2 hk, h.lvi k hk⟩
    · rw [e] at hk; cases hk
      have h1 := h.b.lt
      have h2 := h.bel.size
      exact ⟨by omega, fun e2 => by have := h.b.row.lt _ e2; omega, by omega⟩
  refine ⟨h.b.kept (ht.block bb h.b.lt ?_) (fun k hk => ht.block k (h.b.row.lt k hk) ?_), h1, h.ne, h.nbi, fun e => (hn _ e).1 rfl, fun k hk e => (hn k e).2.1 hk, h.lb, h.li, h.lvb, fun k hk => (hn k hk).2.2, h.bel.trans (ht.below h.bel.size (fun x hx => ?_))⟩
  · intro hm
    rcases List.mem_cons.1 hm with e | hm
    · exact h.ne e
    · exact h.nib (by simpa using hm)
  · intro hm
    rcases List.mem_cons.1 hm with e | hm
    · exact h.nbi (by rw [hk, e])
    · exact h.nn k hk (by simpa using hm)
  · rcases List.mem_cons.1 hx with rfl | hx
    · exact h.li
    · exact h.lvi x (by simpa using hx)
theorem writeI_any (h : PutS w bb ib VB VI body idx wr) (A : ByteArray) (hl : idx.length + A.size ≤ 1000000000) :
    Calls Tryz.prog 37 #[.pointer (some ⟨ib, 0, none⟩), .string A] wr fun e w' => e = .returned (.tuple #[.int .i64 (A.size : Int), .nilIface]) ∧ ∃ V', Hid (PutS w bb ib VB V' body (idx ++ A.data.toList) w') :=
  (bwrite_any h.i A hl).mono fun _ _ ⟨h1, V', h2, h3, h4⟩ => ⟨h1, V', Lib.hid (h.onI h2 h3 h4)⟩
theorem writeB_any (h : PutS w bb ib VB VI body idx wr) (A : ByteArray) (hl : body.length + A.size ≤ 1000000000) :
    Calls Tryz.prog 37 #[.pointer (some ⟨bb, 0, none⟩), .string A] wr fun e w' => e = .returned (.tuple #[.int .i64 (A.size : Int), .nilIface]) ∧ ∃ V', Hid (PutS w bb ib V' VI (body ++ A.data.toList) idx w') :=
  (bwrite_any h.b A hl).mono fun _ _ ⟨h1, V', h2, h3, h4⟩ => ⟨h1, V', Lib.hid (h.onB h2 h3 h4)⟩
end
end Go.Proofs.YtmnboiikopkaoaaGreat

namespace Go.Proofs.YtmnboiikopkaoaaGreat
open Go.RowKit

/-- The bytes of some of four numbers. -/
def laid4 (A N C M : Nat) : Nat → List UInt8
  | 0 => []
  | 1 => be A 6
  | 2 => be A 6 ++ be N 6
  | 3 => be A 6 ++ be N 6 ++ be C 6
  | _ => be A 6 ++ be N 6 ++ be C 6 ++ be M 6
set_option maxHeartbeats 4000000 in
set_option maxRecDepth 100000 in
theorem footLay_any (A N C M : Nat) (w : World) (hA : A < 1000000000) (hN : N < 1000000000) (hC : C < 1000000000) (hM : M < 1000000000) :
    Calls Tryz.prog 79 #[.agg #[.int .i64 (A : Int), .int .i64 (N : Int), .int .i64 (C : Int), .int .i64 (M : Int)]] w fun e w' => e = .returned (.string ⟨(sealF (laid4 A N C M 4)).toArray⟩) ∧ Below w.heap.size w w' := by
  have hB : Below w.heap.size w (w.alloc (.cells #[.int .i64 (A : Int), .int .i64 (N : Int), .int .i64 (C : Int), .int .i64 (M : Int)] 99)) := (Below.refl _ _).alloc (Nat.le_refl _) _
  have HB := Lib.hid hB
  clear hB
  go_enter Tryz.func79, Tryz.ntmps79
  go_wp2
  go_loopw [3, 19] (fun bv iv wr => ∃ (k : Nat) (V : Value), V = bv ∧ iv = .int .i64 (k : Int) ∧ k ≤ 4 ∧ Hid (Row wr 5 1 V (laid4 A N C M k).length (Lib.byteCells (laid4 A N C M k)) ∧ (∀ g, ob V = some g → w.heap.size ≤ g) ∧ Below w.heap.size w wr)) (fun _ iv _ => 4 - (intOf iv).toNat)
  case atStart => exact ⟨0, _, rfl, rfl, Nat.zero_le _, Lib.hid ⟨row_nil _ _ _, by simp [ob], HB.out⟩⟩
  case round =>
    obtain ⟨k, V, rfl, rfl, hk, HI⟩ := hrel
    obtain ⟨va, vc, rfl, -, -⟩ := HI.out.1.le
    have hcase : k = 0 ∨ k = 1 ∨ k = 2 ∨ k = 3 ∨ k = 4 := by omega
    rcases hcase with rfl | rfl | rfl | rfl | rfl
    · have CP := Lib.hid (tplace_any (.slice va (laid4 A N C M 0).length vc) _ A _ HI.out.1 hA (by simp [laid4]))
      have hix : ∀ w : World, (Instr.index 156 (.agg #[.int .i64 (A : Int), .int .i64 (N : Int), .int .i64 (C : Int), .int .i64 (M : Int)]) (.int .i64 0)).run Tryz.prog w = .ok (.int .i64 (A : Int)) w := fun _ => by kernel_rfl
      rw [show ((0 : Nat) : Int) = 0 from rfl]
      go_wp2_with (go_at_call 116; (with_reducible refine CP.out.mono ?_); rintro _ w3 ⟨v3, rfl, r3, g3, o3⟩)
      go_roundw
      case rel =>
        refine ⟨1, v3, rfl, by go_num, by omega, Lib.hid ⟨?_, ?_, below_row HI.out.2.2 (Nat.le_refl _) g3 HI.out.2.1⟩⟩
        · have e : laid4 A N C M 1 = laid4 A N C M 0 ++ be A 6 := rfl
          rw [e, List.length_append, be_length, Lib.byteCells_append]
          exact r3
        · intro g hg
          rcases o3 with e | ⟨g', e, hge⟩
          · exact HI.out.2.1 g (by rw [← e]; exact hg)
          · rw [e] at hg; cases hg
            exact Nat.le_trans HI.out.2.2.size hge
      case measure => simp [intOf]
    · have CP := Lib.hid (tplace_any (.slice va (laid4 A N C M 1).length vc) _ N _ HI.out.1 hN (by simp [laid4, be_length]))
      have hix : ∀ w : World, (Instr.index 156 (.agg #[.int .i64 (A : Int), .int .i64 (N : Int), .int .i64 (C : Int), .int .i64 (M : Int)]) (.int .i64 1)).run Tryz.prog w = .ok (.int .i64 (N : Int)) w := fun _ => by kernel_rfl
      rw [show ((1 : Nat) : Int) = 1 from rfl]
      go_wp2_with (go_at_call 116; (with_reducible refine CP.out.mono ?_); rintro _ w3 ⟨v3, rfl, r3, g3, o3⟩)
      go_roundw
      case rel =>
        refine ⟨2, v3, rfl, by go_num, by omega, Lib.hid ⟨?_, ?_, below_row HI.out.2.2 (Nat.le_refl _) g3 HI.out.2.1⟩⟩
        · have e : laid4 A N C M 2 = laid4 A N C M 1 ++ be N 6 := rfl
          rw [e, List.length_append, be_length, Lib.byteCells_append]
          exact r3
        · intro g hg
          rcases o3 with e | ⟨g', e, hge⟩
          · exact HI.out.2.1 g (by rw [← e]; exact hg)
          · rw [e] at hg; cases hg
            exact Nat.le_trans HI.out.2.2.size hge
      case measure => simp [intOf]
    · have CP := Lib.hid (tplace_any (.slice va (laid4 A N C M 2).length vc) _ C _ HI.out.1 hC (by simp [laid4, be_length]))
      have hix : ∀ w : World, (Instr.index 156 (.agg #[.int .i64 (A : Int), .int .i64 (N : Int), .int .i64 (C : Int), .int .i64 (M : Int)]) (.int .i64 2)).run Tryz.prog w = .ok (.int .i64 (C : Int)) w := fun _ => by kernel_rfl
      rw [show ((2 : Nat) : Int) = 2 from rfl]
      go_wp2_with (go_at_call 116; (with_reducible refine CP.out.mono ?_); rintro _ w3 ⟨v3, rfl, r3, g3, o3⟩)
      go_roundw
      case rel =>
        refine ⟨3, v3, rfl, by go_num, by omega, Lib.hid ⟨?_, ?_, below_row HI.out.2.2 (Nat.le_refl _) g3 HI.out.2.1⟩⟩
        · have e : laid4 A N C M 3 = laid4 A N C M 2 ++ be C 6 := rfl
          rw [e, List.length_append, be_length, Lib.byteCells_append]
          exact r3
        · intro g hg
          rcases o3 with e | ⟨g', e, hge⟩
          · exact HI.out.2.1 g (by rw [← e]; exact hg)
          · rw [e] at hg; cases hg
            exact Nat.le_trans HI.out.2.2.size hge
      case measure => simp [intOf]
    · have CP := Lib.hid (tplace_any (.slice va (laid4 A N C M 3).length vc) _ M _ HI.out.1 hM (by simp [laid4, be_length]))
      have hix : ∀ w : World, (Instr.index 156 (.agg #[.int .i64 (A : Int), .int .i64 (N : Int), .int .i64 (C : Int), .int .i64 (M : Int)]) (.int .i64 3)).run Tryz.prog w = .ok (.int .i64 (M : Int)) w := fun _ => by kernel_rfl
      rw [show ((3 : Nat) : Int) = 3 from rfl]
      go_wp2_with (go_at_call 116; (with_reducible refine CP.out.mono ?_); rintro _ w3 ⟨v3, rfl, r3, g3, o3⟩)
      go_roundw
      case rel =>
        refine ⟨4, v3, rfl, by go_num, by omega, Lib.hid ⟨?_, ?_, below_row HI.out.2.2 (Nat.le_refl _) g3 HI.out.2.1⟩⟩
        · have e : laid4 A N C M 4 = laid4 A N C M 3 ++ be M 6 := rfl
          rw [e, List.length_append, be_length, Lib.byteCells_append]
          exact r3
        · intro g hg
          rcases o3 with e | ⟨g', e, hge⟩
          · exact HI.out.2.1 g (by rw [← e]; exact hg)
          · rw [e] at hg; cases hg
            exact Nat.le_trans HI.out.2.2.size hge
      case measure => simp [intOf]
    · have hcv := conv_rowB HI.out.1
      obtain ⟨S, hS⟩ : ∃ S : ByteArray, ⟨(laid4 A N C M 4).toArray⟩ = S := ⟨_, rfl⟩
      have hSd : S.data.toList = laid4 A N C M 4 := by rw [← hS]
      have hSs : S.size ≤ 1000000 := by rw [← len_data', hSd]; simp [laid4, be_length]
      rw [hS] at hcv
      have CS := Lib.hid (fun W => seal_any S W hSs)
      rw [hSd] at CS
      clear hS hSd hSs
      go_wp2_with (go_at_call 48; (with_reducible refine (CS.out _).mono ?_); rintro _ w3 ⟨rfl, b3⟩)
      go_ret
      exact ⟨rfl, HI.out.2.2.trans (b3.mono HI.out.2.2.size)⟩
set_option maxHeartbeats 4000000 in
set_option maxRecDepth 100000 in
theorem tjoin_any (x y z : ByteArray) (w : World) (hx : x.size ≤ 100000000) (hy : y.size ≤ 100000000) (hz : z.size ≤ 100000000) :
    Calls Tryz.prog 46 #[.string x, .string y, .string z] w fun e w' => e = .returned (.string (x ++ y ++ z ++ ⟨(sealF (laid4 x.size y.size (x.size + y.size) z.size 4)).toArray⟩)) ∧ Below w.heap.size w w' := by
  obtain ⟨s, hs⟩ : ∃ s, x.size + y.size = s := ⟨_, rfl⟩
  have hsI : (x.size : Int) + (y.size : Int) = (s : Int) := by omega
  rw [hs]
  have CL := Lib.hid (fun W => footLay_any x.size y.size s z.size W (by omega) (by omega) (by omega) (by omega))
  obtain ⟨Fo, hF⟩ : ∃ Fo : ByteArray, ⟨(sealF (laid4 x.size y.size s z.size 4)).toArray⟩ = Fo := ⟨_, rfl⟩
  have hFs : Fo.size ≤ 100 := by
    rw [← len_data', ← hF]
    simp [sealF, laid4, be_length]
  rw [hF] at CL ⊢
  have h1 : x.data.size + y.data.size ≤ 9223372036854775807 := by show x.size + y.size ≤ _; omega
  have h2 : (x ++ y).data.size + z.data.size ≤ 9223372036854775807 := by show (x ++ y).size + z.size ≤ _; rw [ByteArray.size_append]; omega
  have h3 : (x ++ y ++ z).data.size + Fo.data.size ≤ 9223372036854775807 := by show (x ++ y ++ z).size + Fo.size ≤ _; rw [ByteArray.size_append, ByteArray.size_append]; omega
  have k1 : ¬ (9223372036854775807 < x.size + y.size) := by omega
  have k2 : ¬ (9223372036854775807 < (x ++ y).size + z.size) := by rw [ByteArray.size_append]; omega
  have k3 : ¬ (9223372036854775807 < (x ++ y ++ z).size + Fo.size) := by rw [ByteArray.size_append, ByteArray.size_append]; omega
  clear hF hs
  go_enter Tryz.func46, Tryz.ntmps46
  go_wp2_with (go_at_call 79; (with_reducible refine (CL.out _).mono ?_); rintro _ w3 ⟨rfl, b3⟩)
  go_ret
  exact ⟨rfl, b3⟩
end Go.Proofs.YtmnboiikopkaoaaGreat

namespace Go.Proofs.YtmnboiikopkaoaaGreat
open Go.RowKit

theorem infoStrU : (Tryz.prog.info? 9).map (fun i => (i.zero, i.size, i.bytes)) = some (some (.string ⟨#[]⟩), 1, 16) := by kernel_rfl
def cellsK (l : List ByteArray) : List Value := l.map .string
theorem keysT_step (es : List Ent) (k : Nat) : keysT es (k + 1) = if k = 0 ∨ keyT es (k - 1) ≠ keyT es k then keysT es k ++ [keyT es k] else keysT es k := rfl
set_option maxHeartbeats 8000000 in
set_option maxRecDepth 100000 in
theorem keysOf_any {w : World} (a : Option Addr) (len cap : Nat) (es : List Ent) (hE : EntsAt w.heap.size w a len es) (hl : len ≤ 100000) :
    Calls Tryz.prog 45 #[.slice a len cap] w fun e w' => ∃ v, e = .returned v ∧ Row w' 9 1 v (keysT es len).length (cellsK (keysT es len)) ∧ (∀ k, ob v = some k → w.heap.size ≤ k) ∧ Below w.heap.size w w' := by
  have hel := hE.1
  obtain ⟨i0, hi0, hz0, hzs, hzb⟩ := info_parts infoStrU
  have HE := Lib.hid (show ∀ W, Below w.heap.size w W → ∀ i, i < len → ∃ b off, a = some ⟨b, off, none⟩ ∧ b < w.heap.size ∧ ∃ s n v, ∀ j u, (Ent.mk (keyT es i) s n v).cells[j]? = some u → W.cell? ⟨b, off + i * 4 + j, none⟩ = some u from fun W hW i hi => by
    rcases (hE.below hW).2 with h0 | ⟨b, off, e, h1, h2⟩
    · omega
    · refine ⟨b, off, e, h1, (entAt es i).s, (entAt es i).n, (entAt es i).v, ?_⟩
      have : Ent.mk (keyT es i) (entAt es i).s (entAt es i).n (entAt es i).v = es[i]'(by omega) := by rw [← entAt_get (show i < es.length by omega)]; rfl
      rw [this]
      exact h2 i (by omega))
  clear hE hel
  go_enter Tryz.func45, Tryz.ntmps45
  go_wp2
  go_loopw [3, 8] (fun ov iv wr => ∃ (i : Nat) (V : Value), V = ov ∧ iv = .int .i64 (i : Int) ∧ i ≤ len ∧ Hid (Row wr 9 1 V (keysT es i).length (cellsK (keysT es i)) ∧ (∀ k, ob V = some k → w.heap.size ≤ k) ∧ Below w.heap.size w wr)) (fun _ iv _ => len - (intOf iv).toNat)
  case atStart => exact ⟨0, _, rfl, rfl, Nat.zero_le _, Lib.hid ⟨row_nil _ _ _, by simp [ob], Below.refl _ _⟩⟩
  case round =>
    obtain ⟨i, V, rfl, rfl, hil, HI⟩ := hrel
    by_cases hlt : i < len
    · obtain ⟨b, off, rfl, hblt, s, n, v, hc⟩ := HE.out wr HI.out.2.2 i hlt
      have hiI : (i : Int) < (len : Int) := by omega
      have q0 : wr.cell? ⟨b, off + i * 4, none⟩ = some (.string (keyT es i)) := hc 0 _ rfl
      have q1 : wr.cell? ⟨b, off + i * 4 + 1, none⟩ = some (.int .u64 s) := hc 1 _ rfl
      have q2 : wr.cell? ⟨b, off + i * 4 + 2, none⟩ = some (.int .i64 n) := hc 2 _ rfl
      have q3 : wr.cell? ⟨b, off + i * 4 + 3, none⟩ = some (.string v) := hc 3 _ rfl
      obtain ⟨W6, hW6⟩ : ∃ W6, wr.alloc (.cells #[.string (keyT es i), .int .u64 s, .int .i64 n, .string v] 48) = W6 := ⟨_, rfl⟩
      have b6 : Below wr.heap.size wr W6 := by rw [← hW6]; exact (Below.refl _ _).alloc (Nat.le_refl _) _
      have k0 : W6.cell? ⟨wr.heap.size, 0, none⟩ = some (.string (keyT es i)) := by rw [← hW6]; exact nce rfl rfl
      have hkl : (keysT es i).length ≤ 100000 := by have := keysT_len es i; omega
      have HI6 := Lib.hid (show Row W6 9 1 V (keysT es i).length (cellsK (keysT es i)) ∧ (∀ k, ob V = some k → w.heap.size ≤ k) ∧ Below w.heap.size w W6 from ⟨row_below HI.out.1 b6, HI.out.2.1, HI.out.2.2.trans (b6.mono HI.out.2.2.size)⟩)
      have hbw : b < W6.heap.size := by have := HI6.out.2.2.size; omega
      have HKS := Lib.hid (keysT_step es i)
      have hprev : 0 < i → W6.cell? ⟨b, off + (i - 1) * 4, none⟩ = some (.string (keyT es (i - 1))) := fun h0 => by
        obtain ⟨b', off', e', -, s', n', v', hc'⟩ := HE.out W6 HI6.out.2.2 (i - 1) (by omega)
        cases e'
        exact hc' 0 _ rfl
      have HPV := Lib.hid hprev
      obtain ⟨va, vc, rfl, -, -⟩ := HI6.out.1.le
      clear hc b6 hprev HI
      go_upto_region 5 with fail
      try rw [hW6]
      clear hW6
      go_cut [25] from 13 to 24 (fun t wx => ∃ nd, t = .bool (decide (i = 0 ∨ keyT es (i - 1) ≠ keyT es i)) ∧ wx = W6.drewN nd)
      case first =>
        by_cases h0 : i = 0
        · subst h0
          have HD := Lib.hid (show decide ((0 : Nat) = 0 ∨ keyT es (0 - 1) ≠ keyT es 0) = true from decide_eq_true (.inl rfl))
          go_quiet (fail)
          go_wp2_with fail
          go_meet
          exact ⟨_, by rw [HD.out], rfl⟩
        · obtain ⟨m, hm⟩ : ∃ m, i = m + 1 := ⟨i - 1, by omega⟩
          have hmI : (i : Int) - 1 = (m : Int) := by omega
          have hmL : (m : Int) < (len : Int) := by omega
          have hmN : m < len := by omega
          have hwm : IntKind.i64.wrap (m : Int) = (m : Int) := by rw [IntKind.wrap_i64]; omega
          have p0 := HPV.out (by omega)
          rw [show i - 1 = m by omega] at p0
          have hz : ((i : Int) == 0) = false := by simp; omega
          cases hq : ((keyT es m).toList == (keyT es i).toList) with
          | true =>
            have HD := Lib.hid (show decide (i = 0 ∨ keyT es (i - 1) ≠ keyT es i) = false by
              rw [decide_eq_false_iff_not]
              rintro (h | h)
              · exact h0 h
              · rw [show i - 1 = m by omega] at h
                exact h (strU_eq hq))
            clear hm h0
            go_quiet (fail)
            go_wp2_with fail
            go_meet
            exact ⟨_, by rw [HD.out], rfl⟩
          | false =>
            have HD := Lib.hid (show decide (i = 0 ∨ keyT es (i - 1) ≠ keyT es i) = true by
              rw [decide_eq_true_eq]
              right
              rw [show i - 1 = m by omega]
              exact strU_neq hq)
            clear hm h0
            go_quiet (fail)
            go_wp2_with fail
            go_meet
            exact ⟨_, by rw [HD.out], rfl⟩
      case rest =>
        obtain ⟨nd, rfl, rfl⟩ := hcut
        have kd : (W6.drewN nd).cell? ⟨wr.heap.size, 0, none⟩ = some (.string (keyT es i)) := k0
        by_cases hq : i = 0 ∨ keyT es (i - 1) ≠ keyT es i
        · rw [decide_eq_true hq]
          rw [if_pos hq] at HKS
          have hB7 : Below W6.heap.size W6 ((W6.drewN nd).alloc (.cells #[.string (keyT es i)] 9)) := (belowN (Below.refl _ _) nd).alloc (Nat.le_refl _) _
          have HB7 := Lib.hid hB7
          have HSRC := Lib.hid (show Src Tryz.prog 1 66 (.slice (some ⟨W6.heap.size, 0, none⟩) 1 1) 1 [.string (keyT es i)] ((W6.drewN nd).alloc (.cells #[.string (keyT es i)] 9)) from Src.ofSlice (P := Tryz.prog) _ (size := 1) Tryz.underlying66 ⟨W6.heap.size, 0, none⟩ 1 1 _ rfl (fun j u hu => by
            match j, hu with
            | 0, hu => have hu' := Option.some.inj hu; subst hu'; exact nce (w := W6.drewN nd) rfl rfl) (by simp [Value.oneCell']))
          have HBa := Lib.hid (show (keysT es i).length + 1 ≤ maxLen by unfold maxLen; omega)
          have HBb := Lib.hid (show ((keysT es i).length + 1) * 16 ≤ 140737488355328 by omega)
          clear hq hB7 k0
          go_wp2_with (at_builtin; refine wpList_append_row _ rfl _ _ 66 66 rfl 9 i0 _ 1 16 Tryz.underlying66 hi0 hz0 hzs hzb rfl (.slice va (keysT es i).length vc) _ _ rfl (row_below HI6.out.1 HB7.out) _ rfl 1 _ HSRC.out HBa.out HBb.out ?_; intro v8 w8 hrow8 hgrow8 hob8)
          go_roundw
          case rel =>
            have h7 : Below w.heap.size w ((W6.drewN nd).alloc (.cells #[.string (keyT es i)] 9)) := HI6.out.2.2.trans (HB7.out.mono HI6.out.2.2.size)
            refine ⟨i + 1, v8, rfl, by go_num, by omega, Lib.hid ⟨?_, ?_, below_row h7 (Nat.le_refl _) hgrow8 HI6.out.2.1⟩⟩
            · rw [HKS.out, List.length_append]
              show Row w8 9 1 v8 ((keysT es i).length + 1) (cellsK (keysT es i ++ [keyT es i]))
              unfold cellsK
              rw [List.map_append]
              exact hrow8
            · intro k hk
              rcases hob8 with e | ⟨e, -⟩
              · exact HI6.out.2.1 k (by rw [← e]; exact hk)
              · rw [e] at hk; cases hk
                exact h7.size
          case measure => simp [intOf]; omega
        · rw [decide_eq_false hq]
          rw [if_neg hq] at HKS
          clear hq
          go_wp2_with fail
          go_roundw
          case rel => exact ⟨i + 1, _, rfl, by go_num, by omega, Lib.hid (by rw [HKS.out]; exact ⟨HI6.out.1, HI6.out.2.1, belowN HI6.out.2.2 nd⟩)⟩
          case measure => simp [intOf]; omega
    · obtain rfl : i = len := by omega
      go_wp2
      go_ret
      exact ⟨V, rfl, HI.out.1, HI.out.2.1, HI.out.2.2⟩
theorem keys_rowS {w : World} {v : Value} {l : List ByteArray} (h : Row w 9 1 v l.length (cellsK l)) (hs : ∀ s ∈ l, s.size ≤ maxLen) : ∃ a cap, v = .slice a l.length cap ∧ IsRowS w a l.length l := by
  have hc := h.cell
  obtain ⟨a, cap, rfl, -, -⟩ := h.le
  refine ⟨a, cap, rfl, rfl, hs, ?_⟩
  rcases h.2 with ⟨h0, -⟩ | ⟨g, cap', cur, e, hg, -⟩
  · exact .inl h0
  · cases e
    refine .inr ⟨g, 0, rfl, (Array.getElem?_eq_some_iff.1 hg).1, fun i hi => ?_⟩
    exact hc g 0 _ rfl i _ (by simp [cellsK, hi])
end Go.Proofs.YtmnboiikopkaoaaGreat

namespace Go.Proofs.YtmnboiikopkaoaaGreat
open Go.RowKit

theorem ordB_next {es : List Ent} {k : Nat} (h1 : ordB es (8 * k) = true) (hk : 8 * k < es.length) (h2 : 0 < k → cmpN (entAt es (8 * k - 1)) (entAt es (8 * k)) < 0) (h3 : ordB (chunkT es k) (chunkT es k).length = true) : ordB es (min (8 * (k + 1)) es.length) = true := by
  refine ordB_all (fun i hi => ?_)
  by_cases hlt : i < 8 * k
  · exact ordB_at h1 hlt
  · obtain ⟨j, rfl⟩ : ∃ j, i = 8 * k + j := ⟨i - 8 * k, by omega⟩
    have hj : j < 8 := by omega
    have hc : j < (chunkT es k).length := by rw [chunkT_len]; omega
    have h4 := ordB_at h3 hc
    have e1 : entAt (chunkT es k) j = entAt es (8 * k + j) := entAt_piece es (8 * k) 8 j hj
    rw [e1] at h4
    refine ⟨h4.1, fun h0 => ?_⟩
    by_cases hj0 : j = 0
    · subst hj0
      exact h2 (by omega)
    · have h5 := h4.2 (by omega)
      have e2 : entAt (chunkT es k) (j - 1) = entAt es (8 * k + (j - 1)) := entAt_piece es (8 * k) 8 (j - 1) (by omega)
      rw [e2] at h5
      rw [show 8 * k + j - 1 = 8 * k + (j - 1) by omega]
      exact h5
theorem EntsAt.piece {n0 : Nat} {w : World} {a : Option Addr} {b off len : Nat} {es : List Ent} (h : EntsAt n0 w (some ⟨b, off, none⟩) len es) (k : Nat) (hk : 8 * k < len) (ha : a = some ⟨b, off + 8 * k * 4, none⟩) : EntsAt n0 w a (chunkT es k).length (chunkT es k) := by
  subst ha
  refine ⟨rfl, .inr ?_⟩
  have hl := h.1
  rcases h.2 with h0 | ⟨b', off', e, h1, h2⟩
  · omega
  · cases e
    refine ⟨b, off + 8 * k * 4, rfl, h1, fun i hi j u hu => ?_⟩
    have hlen : i < 8 ∧ 8 * k + i < es.length := by rw [chunkT_len] at hi; omega
    have e2 : (chunkT es k)[i] = es[8 * k + i]'hlen.2 := by
      rw [← entAt_get hi, ← entAt_get hlen.2]
      exact entAt_piece es (8 * k) 8 i hlen.1
    rw [e2] at hu
    have := h2 (8 * k + i) hlen.2 j u hu
    rw [show off + 8 * k * 4 + i * 4 + j = off + (8 * k + i) * 4 + j by omega]
    exact this
theorem putBV_yes {es : List Ent} (h : ordB es es.length = true) : putBV es = .tuple #[.string ⟨(blkB es).toArray⟩, .int .i64 0] := by unfold putBV; rw [if_pos h]
theorem putBV_no {es : List Ent} (h : ¬ ordB es es.length = true) : putBV es = .tuple #[.string ⟨#[]⟩, .int .i64 1] := by unfold putBV; rw [if_neg h]
theorem tabV_not {es : List Ent} (h : ¬ (es ≠ [] ∧ ordB es es.length = true)) : tabV es = .tuple #[.string ⟨#[]⟩, .int .i64 1] := by unfold tabV; rw [if_neg h]
/-- A block is no longer than its versions, and a little more. -/
theorem blkB_short (es : List Ent) (hl : es.length ≤ 8) (hok : ∀ x ∈ es, x.Ok) (ho : ordB es es.length = true) : (blkB es).length ≤ sizeEs es + 600 := by
  have h1 := bodyP_len es (fun i hi => by
    have h1 := valid_parts (ordB_at ho hi).1
    unfold sizeE
    omega) (fun i hi => by
    have h1 := hok _ (List.getElem_mem hi)
    rw [entAt_get hi]
    unfold Ent.Ok at h1
    omega) es.length (Nat.le_refl _)
  have h2 := sizeEs_le es es.length
  have h3 := tailB_cnt es es.length
  unfold blkB sealF
  simp only [List.length_append, be_length]
  omega
theorem blksT_short {es : List Ent} (ho : ordB es es.length = true) (hok : ∀ x ∈ es, x.Ok) : ∀ k, (blksT es k).length ≤ sizeEs (es.take (8 * k)) + 600 * k
  | 0 => by simp [blksT]
  | k + 1 => by
    have ih := blksT_short ho hok k
    have h1 := blkB_short (chunkT es k) (by rw [chunkT_len]; omega) (fun x hx => hok x (chunkT_mem hx)) (chunkT_ord ho k)
    have h2 : sizeEs (es.take (8 * (k + 1))) = sizeEs (es.take (8 * k)) + sizeEs (chunkT es k) := by
      rw [takeT_step]
      unfold sizeEs
      rw [List.map_append, List.sum_append]
    show (blksT es k ++ _).length ≤ _
    rw [List.length_append, h2]
    omega
theorem idxT_few {es : List Ent} (h : FineT es) : ∀ k, k ≤ numT es → (idxT es k).length ≤ 340 * k
  | 0, _ => by simp [idxT]
  | k + 1, hk => by
    have ih := idxT_few h k (by omega)
    have hn : numT es ≤ 19 := by have := h.few; unfold numT; omega
    have h1 := textT_len (keyT es (8 * k)) (valid_parts (ordB_at h.ord (show 8 * k < es.length by unfold numT at hk; omega)).1).1
    have hb := blksT_size es h.short h.ok k
    have hc := chunkT_size es h.short h.ok k
    have h2 := vars_length [(blksT es k).length, (blkB (chunkT es k)).length] (fun z hz => by
      simp at hz
      omega)
    show (idxT es k ++ (textT _ ++ vars _)).length ≤ _
    rw [List.length_append, List.length_append]
    simp only [List.length_cons, List.length_nil] at h2
    omega
/-- A table's bytes are not many. -/
theorem tabB_few {es : List Ent} (h : FineT es) : (tabB es).length ≤ 100000 := by
  have h1 := blksT_short h.ord h.ok (numT es)
  have h1' := sizeEs_le es (8 * numT es)
  have hs := h.short
  have hn : numT es ≤ 19 := by have := h.few; unfold numT; omega
  have hpos : 0 < es.length := List.length_pos_iff.2 h.some'
  have hk300 : ∀ i, i < es.length → (keyT es i).size ≤ 300 := fun i hi => (valid_parts (ordB_at h.ord hi).1).1
  have h2 := idxT_few h (numT es) (Nat.le_refl _)
  have h3 := textT_len (keyT es (es.length - 1)) (hk300 _ (by omega))
  have h4 := uv_len (numT es) (by omega)
  have h5 := uv_len es.length (by have := h.few; omega)
  have h6 := keysT_len es es.length
  have h7 := h.few
  have h8 : szB 10 (keysT es es.length).length ≤ 2000 := by
    unfold szB
    have : 10 * (keysT es es.length).length ≤ 1500 := by omega
    omega
  unfold tabB filT indT footT sealF
  simp only [List.length_append, be_length, mkB_len]
  omega
end Go.Proofs.YtmnboiikopkaoaaGreat

namespace Go.Proofs.YtmnboiikopkaoaaGreat
open Go.RowKit

theorem keyT_loose {es : List Ent} (hsz : sizeEs es ≤ 20000) {i : Nat} (hi : i < es.length) : (keyT es i).size ≤ 20000 := by
  have h1 := sizeE_le es i hi
  unfold keyT
  rw [entAt_get hi]
  unfold sizeE at h1
  omega
theorem idxT_loose {es : List Ent} (hl : es.length ≤ 150) (hsz : sizeEs es ≤ 20000) (hok : ∀ x ∈ es, x.Ok) : ∀ k, k ≤ numT es → (idxT es k).length ≤ 20100 * k
  | 0, _ => by simp [idxT]
  | k + 1, hk => by
    have ih := idxT_loose hl hsz hok k (by omega)
    have hn : numT es ≤ 19 := by unfold numT; omega
    have h1 := keyT_loose hsz (show 8 * k < es.length by unfold numT at hk; omega)
    have h4 := uv_len (keyT es (8 * k)).size (by omega)
    have hb := blksT_size es hsz hok k
    have hc := chunkT_size es hsz hok k
    have h2 := vars_length [(blksT es k).length, (blkB (chunkT es k)).length] (fun z hz => by
      simp at hz
      omega)
    show (idxT es k ++ (textT _ ++ vars _)).length ≤ _
    unfold textT
    rw [List.length_append, List.length_append, List.length_append, len_data']
    simp only [List.length_cons, List.length_nil] at h2
    omega
set_option maxHeartbeats 8000000 in
set_option maxRecDepth 100000 in
theorem tput_some {w : World} (b off len cap : Nat) (es : List Ent) (hE : EntsAt w.heap.size w (some ⟨b, off, none⟩) len es) (h0 : 0 < len) (hlm : len ≤ 150) (hcap : len ≤ cap) (hok : ∀ x ∈ es, x.Ok) (hsz : sizeEs es ≤ 20000) :
    Calls Tryz.prog 17 #[.slice (some ⟨b, off, none⟩) len cap] w fun e w' => e = .returned (tabV es) ∧ Below w.heap.size w w' := by
  have hel := hE.1
  have hne : es ≠ [] := fun e => by rw [e] at hel; simp at hel; omega
  have hnT : numT es = (len + 7) / 8 := by unfold numT; rw [hel]
  obtain ⟨nT, hnt⟩ : ∃ nT, numT es = nT := ⟨_, rfl⟩
  have hn19 : nT ≤ 19 := by omega
  have HE := Lib.hid hE
  have HOK := Lib.hid hok
  have HNE := Lib.hid hne
  have HNT := Lib.hid hnt
  have HEL := Lib.hid hel
  have HBS := Lib.hid (fun k => blksT_size es hsz hok k)
  have HCS := Lib.hid (fun k => chunkT_size es hsz hok k)
  have HIL := Lib.hid (idxT_loose (by omega) hsz hok)
  have CB := Lib.hid (fun W => blocksOf_any len W (by omega))
  rw [← hnT, hnt] at CB
  rw [hnt] at HIL
  have hwn : IntKind.u64.wrap (nT : Int) = (nT : Int) := by rw [IntKind.wrap_u64]; omega
  have hwl : IntKind.u64.wrap (len : Int) = (len : Int) := by rw [IntKind.wrap_u64]; omega
  have hz : ((len : Int) == 0) = false := by simp; omega
  obtain ⟨W, hW⟩ : ∃ W, (w.alloc (.cells #[.pointer none, .slice none 0 0] 83)).alloc (.cells #[.pointer none, .slice none 0 0] 83) = W := ⟨_, rfl⟩
  obtain ⟨bb, hbb⟩ : ∃ bb, w.heap.size = bb := ⟨_, rfl⟩
  obtain ⟨ib, hib⟩ : ∃ ib, w.heap.size + 1 = ib := ⟨_, rfl⟩
  have hbW : Below w.heap.size w W := by rw [← hW]; exact ((Below.refl _ _).alloc (Nat.le_refl _) _).alloc (by simp) _
  have hP : PutS w bb ib (.slice none 0 0) (.slice none 0 0) [] [] W := by
    refine ⟨?_, ?_, by omega, by simp [ob], by simp [ob], by simp [ob], by omega, by omega, by simp [ob], by simp [ob], hbW⟩
    · have h1 := Bl.fresh w
      rw [hbb] at h1
      rw [← hW]
      exact h1.below ((Below.refl _ _).alloc (Nat.le_refl _) _)
    · have h1 := Bl.fresh (w.alloc (.cells #[.pointer none, .slice none 0 0] 83))
      rw [show (w.alloc (.cells #[.pointer none, .slice none 0 0] 83)).heap.size = ib by simp; omega] at h1
      rw [← hW]
      exact h1
  have HP := Lib.hid hP
  have HBBE := Lib.hid hbb
  have HIBE := Lib.hid hib
  have hbi : bb + 1 = ib := by omega
  clear hE hok hne hnt hel hnT hP hbW
  go_enter Tryz.func17, Tryz.ntmps17
  go_upto_region 4 with fail
  try rw [hW]
  try rw [HIBE.out]
  try rw [HBBE.out]
  try rw [hbi]
  clear hW hbb hib hbi
  go_wp2_with (go_at_call 39; (with_reducible refine (CB.out _).mono ?_); rintro _ w1 ⟨rfl, rfl⟩)
  go_at_call 38
  refine (varP1 nT (by omega) _).mono ?_
  rintro _ w2 ⟨rfl, b2⟩
  have HP2 := Lib.hid (HP.out.below b2)
  obtain ⟨A1, hA1⟩ : ∃ A1 : ByteArray, ⟨(Lib.uvarint nT).toArray⟩ = A1 := ⟨_, rfl⟩
  have hA1d : A1.data.toList = Lib.uvarint nT := by rw [← hA1]
  have hA1s : A1.size ≤ 10 := by rw [← len_data', hA1d]; exact uv_len nT (by omega)
  have CW1 := Lib.hid (writeI_any HP2.out A1 (by simp; omega))
  rw [hA1d, List.nil_append] at CW1
  (try rw [hA1])
  clear b2 CB HP hA1d hA1
  go_wp2_with fail
  go_at_call 37
  refine CW1.out.mono ?_
  rintro _ w3 ⟨rfl, VI3, HP3⟩
  clear CW1 HP2 hA1s
  go_wp2_with fail
  go_loopw [6] (fun iv wr => ∃ (k A : Nat) (VB VI : Value), iv = .int .i64 (A : Int) ∧ Hid (A = 8 * k) ∧ k ≤ nT ∧ Hid (PutS w bb ib VB VI (blksT es k) (Lib.uvarint nT ++ idxT es k) wr) ∧ Hid (ordB es (min (8 * k) len) = true)) (fun iv _ => len + 8 - (intOf iv).toNat)
  case atStart => exact ⟨0, 0, _, VI3, rfl, Lib.hid rfl, Nat.zero_le _, Lib.hid (by show PutS w bb ib _ VI3 [] (Lib.uvarint nT ++ []) _; rw [List.append_nil]; exact HP3.out), Lib.hid (by simp; rfl)⟩
  case round =>
    obtain ⟨k, A, VB, VI, rfl, HA, hkn, HP4, HORD⟩ := hrel
    have hA := HA.out
    clear HP3
    by_cases hlt : A < len
    · have h8 : 8 * k < es.length := by rw [HEL.out]; omega
      have hkn2 : k < nT := by have h1 := HNT.out; unfold numT at h1; rw [HEL.out] at h1; omega
      have HC := Lib.hid (show ∀ W', Below w.heap.size w W' → ∀ i, i < len → ∀ j u, (entAt es i).cells[j]? = some u → W'.cell? ⟨b, off + i * 4 + j, none⟩ = some u from fun W' hW' i hi j u hu => by
        rcases (HE.out.below hW').2 with h | ⟨b', off', e, -, h2⟩
        · omega
        · cases e
          rw [entAt_get (show i < es.length by rw [HEL.out]; exact hi)] at hu
          exact h2 i (by rw [HEL.out]; exact hi) j u hu)
      have hAI : (A : Int) < (len : Int) := by omega
      have hwA : IntKind.i64.wrap (A : Int) = (A : Int) := by rw [IntKind.wrap_i64]; omega
      obtain ⟨y, hy⟩ : ∃ y, entAt es A = y := ⟨_, rfl⟩
      have hc := HC.out wr HP4.out.bel A hlt
      rw [hy] at hc
      have q0 : wr.cell? ⟨b, off + A * 4, none⟩ = some (.string y.k) := hc 0 _ rfl
      have q1 : wr.cell? ⟨b, off + A * 4 + 1, none⟩ = some (.int .u64 y.s) := hc 1 _ rfl
      have q2 : wr.cell? ⟨b, off + A * 4 + 2, none⟩ = some (.int .i64 y.n) := hc 2 _ rfl
      have q3 : wr.cell? ⟨b, off + A * 4 + 3, none⟩ = some (.string y.v) := hc 3 _ rfl
      have HHA := Lib.hid hA
      have HY := Lib.hid hy
      clear hc hA
      go_upto_region 8 with fail
      go_cut [41] from 27 to 40 (fun v wx => ∃ W5, W5 = wx ∧ v = .bool (decide (0 < k) && decide (0 ≤ cmpN (entAt es (A - 1)) (entAt es A))) ∧ Hid (Below wr.heap.size wr W5))
      case first =>
        by_cases hk0 : k = 0
        · have hA0 : A = 0 := by rw [HHA.out, hk0]
          subst hA0
          have HD := Lib.hid (show decide (0 < k) = false by simp; omega)
          clear hk0
          go_quiet (fail)
          go_wp2_with fail
          go_meet
          exact ⟨_, rfl, by rw [HD.out]; rfl, Lib.hid (belowN (Below.refl _ _) _)⟩
        · obtain ⟨m, hm⟩ : ∃ m, A = m + 1 := ⟨A - 1, by have := HHA.out; omega⟩
          have hmI : (A : Int) - 1 = (m : Int) := by omega
          have hmL : (m : Int) < (len : Int) := by omega
          have hmN : m < len := by omega
          have hwm : IntKind.i64.wrap (m : Int) = (m : Int) := by rw [IntKind.wrap_i64]; omega
          have hAp : decide ((0 : Int) < (A : Int)) = true := by simp; omega
          have hAp2 : decide (0 < A) = true := by simp; omega
          obtain ⟨x, hx⟩ : ∃ x, entAt es m = x := ⟨_, rfl⟩
          have hc := HC.out wr HP4.out.bel m hmN
          rw [hx] at hc
          have p0 : wr.cell? ⟨b, off + m * 4, none⟩ = some (.string x.k) := hc 0 _ rfl
          have p1 : wr.cell? ⟨b, off + m * 4 + 1, none⟩ = some (.int .u64 x.s) := hc 1 _ rfl
          have p2 : wr.cell? ⟨b, off + m * 4 + 2, none⟩ = some (.int .i64 x.n) := hc 2 _ rfl
          have p3 : wr.cell? ⟨b, off + m * 4 + 3, none⟩ = some (.string x.v) := hc 3 _ rfl
          have CC := Lib.hid (fun W => compare_any x.k x.s x.n x.v y.k y.s y.n y.v W)
          unfold ev at CC
          have hbl : b < wr.heap.size := World.block_lt_of_cell? wr _ q0
          have HCC := Lib.hid (show ∀ W', Below wr.heap.size wr W' → (W'.cell? ⟨b, off + m * 4, none⟩ = some (.string x.k) ∧ W'.cell? ⟨b, off + m * 4 + 1, none⟩ = some (.int .u64 x.s) ∧ W'.cell? ⟨b, off + m * 4 + 2, none⟩ = some (.int .i64 x.n) ∧ W'.cell? ⟨b, off + m * 4 + 3, none⟩ = some (.string x.v)) ∧ (W'.cell? ⟨b, off + A * 4, none⟩ = some (.string y.k) ∧ W'.cell? ⟨b, off + A * 4 + 1, none⟩ = some (.int .u64 y.s) ∧ W'.cell? ⟨b, off + A * 4 + 2, none⟩ = some (.int .i64 y.n) ∧ W'.cell? ⟨b, off + A * 4 + 3, none⟩ = some (.string y.v)) from fun W' h => ⟨⟨(h.cell (p := ⟨b, off + m * 4, none⟩) hbl).trans p0, (h.cell (p := ⟨b, off + m * 4 + 1, none⟩) hbl).trans p1, (h.cell (p := ⟨b, off + m * 4 + 2, none⟩) hbl).trans p2, (h.cell (p := ⟨b, off + m * 4 + 3, none⟩) hbl).trans p3⟩, ⟨(h.cell (p := ⟨b, off + A * 4, none⟩) hbl).trans q0, (h.cell (p := ⟨b, off + A * 4 + 1, none⟩) hbl).trans q1, (h.cell (p := ⟨b, off + A * 4 + 2, none⟩) hbl).trans q2, (h.cell (p := ⟨b, off + A * 4 + 3, none⟩) hbl).trans q3⟩⟩)
          obtain ⟨X, hX⟩ : ∃ X, cmpE x.k x.s y.k y.s = X := ⟨_, rfl⟩
          rw [hX] at CC
          have HD := Lib.hid (show (decide (0 < k) && decide (0 ≤ cmpN (entAt es (A - 1)) (entAt es A))) = decide (0 ≤ X) by
            rw [show A - 1 = m by omega, hx, HY.out, decide_eq_true (show 0 < k by omega)]
            unfold cmpN
            rw [hX]; rfl)
          clear hc hk0 hm hX hx
          go_region_held3 (fun W' => (W'.cell? ⟨b, off + m * 4, none⟩ = some (.string x.k) ∧ W'.cell? ⟨b, off + m * 4 + 1, none⟩ = some (.int .u64 x.s) ∧ W'.cell? ⟨b, off + m * 4 + 2, none⟩ = some (.int .i64 x.n) ∧ W'.cell? ⟨b, off + m * 4 + 3, none⟩ = some (.string x.v)) ∧ (W'.cell? ⟨b, off + A * 4, none⟩ = some (.string y.k) ∧ W'.cell? ⟨b, off + A * 4 + 1, none⟩ = some (.int .u64 y.s) ∧ W'.cell? ⟨b, off + A * 4 + 2, none⟩ = some (.int .i64 y.n) ∧ W'.cell? ⟨b, off + A * 4 + 3, none⟩ = some (.string y.v))) (first | go_keep | exact HCC.out _ BA | exact HCC.out _ (Below.refl _ _).drew | fail) (first | (go_at_call 40; (with_reducible refine (CC.out _).mono ?_); rintro _ wa ⟨rfl, ba⟩; have BA : Below wr.heap.size wr wa := (Below.refl _ _).drew.trans ba) | fail)
          all_goals go_wp2_with fail
          all_goals go_meet
          all_goals exact ⟨_, rfl, by rw [HD.out], Lib.hid BA⟩
      case rest =>
        obtain ⟨W5, rfl, rfl, HB5⟩ := hcut
        have HP5 := Lib.hid (HP4.out.below HB5.out)
        cases hT : (decide (0 < k) && decide (0 ≤ cmpN (entAt es (A - 1)) (entAt es A))) with
        | true =>
          have HNO := Lib.hid (tabV_not (es := es) (fun h => by
            rw [Bool.and_eq_true, decide_eq_true_eq, decide_eq_true_eq] at hT
            have h1 := (ordB_at h.2 (show A < es.length by rw [HHA.out]; exact h8)).2 (by have := HHA.out; omega)
            omega))
          clear hT
          go_wp2_with fail
          go_ret2
          exact ⟨by rw [HNO.out]; rfl, HP5.out.bel⟩
        | false =>
          have HCMP := Lib.hid (show 0 < k → cmpN (entAt es (8 * k - 1)) (entAt es (8 * k)) < 0 from fun h0' => by
            rw [decide_eq_true h0', Bool.true_and, decide_eq_false_iff_not, HHA.out] at hT
            omega)
          obtain ⟨H, hH⟩ : ∃ H, min (A + 8) len = H := ⟨_, rfl⟩
          have hmin : ∀ (ts : Array TypeId) (t : TypeId) (w : World), (Builtin.min_ ts t #[.int .i64 ((A : Int) + 8), .int .i64 (len : Int)]).run Tryz.prog w = .ok (.int .i64 (H : Int)) w := fun ts t w => by
            rw [run_min_int2]
            congr 2
            split <;> omega
          have hwA8 : IntKind.i64.wrap ((A : Int) + 8) = (A : Int) + 8 := by rw [IntKind.wrap_i64]; omega
          have hAH : A ≤ H := by omega
          have hHc : H ≤ cap := by omega
          have hAHI : (A : Int) ≤ (H : Int) := by omega
          have hHcI : (H : Int) ≤ (cap : Int) := by omega
          have hcnt : (chunkT es k).length = H - A := by rw [chunkT_len, HEL.out, ← HHA.out]; omega
          have CPB := Lib.hid (putP_any (w := W5) (some ⟨b, off + A * 4, none⟩) (chunkT es k).length (cap - A) (chunkT es k) (((HE.out.below HP5.out.bel).mono HP5.out.bel.size).piece k (by have := HHA.out; omega) (by rw [HHA.out])) (by omega) (by omega) (fun x hx => HOK.out x (chunkT_mem hx)) (Nat.le_trans (sizeEs_piece es _ _) hsz))
          rw [hcnt] at CPB
          clear hT hH
          go_wp2_with fail
          go_at_call 41
          refine CPB.out.mono ?_
          rintro _ w6 ⟨rfl, b6⟩
          have HP6 := Lib.hid (HP5.out.below b6)
          clear CPB HP5 HP4 HB5 b6 q0 q1 q2 q3
          by_cases hoc : ordB (chunkT es k) (chunkT es k).length = true
          · rw [putBV_yes hoc]
            have HORD2 := Lib.hid (show ordB es (min (8 * (k + 1)) len) = true by
              have h1 := HORD.out
              rw [Nat.min_eq_left (by have := HEL.out; omega)] at h1
              have := ordB_next h1 h8 HCMP.out hoc
              rwa [HEL.out] at this)
            have hbsz := HBS.out k
            have hcsz := HCS.out k
            have hisz := HIL.out k hkn
            obtain ⟨Bk, hBk⟩ : ∃ Bk : ByteArray, ⟨(blkB (chunkT es k)).toArray⟩ = Bk := ⟨_, rfl⟩
            have hBd : Bk.data.toList = blkB (chunkT es k) := by rw [← hBk]
            have hBs : Bk.size = (blkB (chunkT es k)).length := by rw [← len_data', hBd]
            rw [hBk]
            have hkl := keyT_loose hsz (show A < es.length by rw [HHA.out]; exact h8)
            have hky : y.k = keyT es A := by rw [← HY.out]; rfl
            rw [← hky] at hkl
            have r0 : w6.cell? ⟨b, off + A * 4, none⟩ = some (.string y.k) := by
              have := HC.out w6 HP6.out.bel A hlt 0
              rw [HY.out] at this
              exact this _ rfl
            have HHKY := Lib.hid hky
            have HBD := Lib.hid hBd
            have HBSZ := Lib.hid hBs
            have hb57 : (blksT es k).length ≤ 1200000 := by omega
            have huv := uv_len nT (by omega)
            have hi57 : (Lib.uvarint nT ++ idxT es k).length ≤ 400000 := by rw [List.length_append]; omega
            obtain ⟨BL, hBL⟩ : ∃ BL, (blksT es k).length = BL := ⟨_, rfl⟩
            have hwb : IntKind.u64.wrap (BL : Int) = (BL : Int) := by rw [IntKind.wrap_u64]; omega
            have hBks : Bk.size ≤ 60000 := by omega
            have hwbk : IntKind.u64.wrap (Bk.size : Int) = (Bk.size : Int) := by rw [IntKind.wrap_u64]; omega
            have HBL := Lib.hid hBL
            have hBLs : BL ≤ 1200000 := by omega
            clear hBk hBd hBs hbsz hcsz hisz hky hoc hBL hb57
            go_wp2_with fail
            go_at_call 42
            refine (textP1 y.k (by omega) _).mono ?_
            rintro _ w7 ⟨rfl, b7⟩
            have HP7 := Lib.hid (HP6.out.below b7)
            obtain ⟨T1, hT1⟩ : ∃ T1 : ByteArray, ⟨(Lib.uvarint y.k.size ++ y.k.data.toList).toArray⟩ = T1 := ⟨_, rfl⟩
            have hT1d : T1.data.toList = textT y.k := by rw [← hT1]; rfl
            have hT1s : T1.size ≤ 20010 := by
              have := uv_len y.k.size (by omega)
              rw [← len_data', hT1d]
              unfold textT
              rw [List.length_append, len_data']
              omega
            have CW7 := Lib.hid (writeI_any HP7.out T1 (by omega))
            rw [hT1d] at CW7
            (try rw [hT1])
            clear b7 hT1 HP6 r0
            go_wp2_with fail
            go_at_call 37
            refine CW7.out.mono ?_
            rintro _ w8 ⟨rfl, VI8, HP8⟩
            have CL8 := Lib.hid (blen_any HP8.out.b)
            rw [HBL.out] at CL8
            clear CW7 HP7
            go_wp2_with (go_at_call 43; (with_reducible refine CL8.out.mono ?_); rintro _ w9 ⟨rfl, rfl⟩)
            go_at_call 38
            refine (varP2 BL Bk.size (by omega) (by omega) _).mono ?_
            rintro _ w10 ⟨rfl, b10⟩
            have HP10 := Lib.hid (HP8.out.below b10)
            obtain ⟨T2, hT2⟩ : ∃ T2 : ByteArray, ⟨(vars [BL, Bk.size]).toArray⟩ = T2 := ⟨_, rfl⟩
            have hT2d : T2.data.toList = vars [BL, Bk.size] := by rw [← hT2]
            have hT2s : T2.size ≤ 20 := by
              have := vars_length [BL, Bk.size] (fun z hz => by simp at hz; omega)
              rw [← len_data', hT2d]
              simpa using this
            have CW10 := Lib.hid (writeI_any HP10.out T2 (by
              have : (textT y.k).length ≤ 20010 := by rw [← hT1d, len_data']; exact hT1s
              rw [List.length_append]
              omega))
            rw [hT2d] at CW10
            (try rw [hT2])
            clear b10 hT2 HP8 CL8 hT2d hT1d hT1s
            go_wp2_with fail
            go_at_call 37
            refine CW10.out.mono ?_
            rintro _ w11 ⟨rfl, VI11, HP11⟩
            have CW11 := Lib.hid (writeB_any HP11.out Bk (by rw [HBL.out]; omega))
            rw [HBD.out] at CW11
            clear CW10 HP10 hT2s
            go_wp2_with fail
            go_at_call 37
            refine CW11.out.mono ?_
            rintro _ w12 ⟨rfl, VB12, HP12⟩
            clear CW11 HP11
            go_wp2_with fail
            go_roundw
            case rel =>
              refine ⟨k + 1, A + 8, VB12, VI11, by go_num, Lib.hid (by rw [HHA.out]; omega), by omega, Lib.hid ?_, HORD2⟩
              have e1 : Lib.uvarint nT ++ idxT es (k + 1) = Lib.uvarint nT ++ idxT es k ++ textT y.k ++ vars [BL, Bk.size] := by
                show _ ++ (idxT es k ++ (textT (keyT es (8 * k)) ++ vars [(blksT es k).length, (blkB (chunkT es k)).length])) = _
                rw [HHKY.out, HHA.out, HBL.out, HBSZ.out]
                simp only [List.append_assoc]
              rw [e1]
              exact HP12.out
            case measure => simp [intOf]; omega
          · rw [putBV_no hoc]
            have HNO := Lib.hid (tabV_not (es := es) (fun h => hoc (chunkT_ord h.2 k)))
            clear hoc
            go_wp2_with fail
            go_ret2
            exact ⟨by rw [HNO.out]; rfl, HP6.out.bel⟩
    · obtain rfl : k = nT := by
        have h1 := HNT.out
        unfold numT at h1
        rw [HEL.out] at h1
        omega
      have hord : ordB es es.length = true := by
        have h1 := HORD.out
        rw [Nat.min_eq_right (by omega)] at h1
        rw [HEL.out]; exact h1
      have HF := Lib.hid (show FineT es from ⟨HNE.out, hord, by rw [HEL.out]; exact hlm, hsz, HOK.out⟩)
      have HTV := Lib.hid (show tabV es = .tuple #[.string ⟨(tabB es).toArray⟩, .int .i64 0] by unfold tabV; rw [if_pos ⟨HNE.out, hord⟩])
      obtain ⟨m, hm⟩ : ∃ m, len = m + 1 := ⟨len - 1, by omega⟩
      have hmI : (len : Int) - 1 = (m : Int) := by omega
      have hmL : (m : Int) < (len : Int) := by omega
      have hmN : m < len := by omega
      have hwm : IntKind.i64.wrap (m : Int) = (m : Int) := by rw [IntKind.wrap_i64]; omega
      have hisz := HIL.out k (Nat.le_refl _)
      have hbsz := HBS.out k
      have huv := uv_len k (by omega)
      have huv2 := uv_len len (by omega)
      have hi57 : (Lib.uvarint k ++ idxT es k).length ≤ 400000 := by rw [List.length_append]; omega
      have HLAST := Lib.hid (show ∀ W', Below w.heap.size w W' → W'.cell? ⟨b, off + m * 4, none⟩ = some (.string (keyT es m)) from fun W' hW' => by
        rcases (HE.out.below hW').2 with h | ⟨b', off', e, -, h2⟩
        · omega
        · cases e
          unfold keyT
          rw [entAt_get (show m < es.length by rw [HEL.out]; exact hmN)]
          exact h2 m (by rw [HEL.out]; exact hmN) 0 _ rfl)
      have HKM := Lib.hid (show keyT es m = keyT es (es.length - 1) by rw [HEL.out, hm]; rfl)
      have hkl := keyT_loose hsz (show m < es.length by rw [HEL.out]; exact hmN)
      have hkk : ∀ s ∈ keysT es len, s.size ≤ maxLen := fun s hs => by
        obtain ⟨i, hi, rfl⟩ := keysT_mem es len s hs
        have := keyT_loose hsz (show i < es.length by rw [HEL.out]; exact hi)
        unfold maxLen; omega
      have HKK := Lib.hid hkk
      have hknl := keysT_len es len
      have hdA : decide ((A : Int) < (len : Int)) = false := by simp; omega
      have hdA2 : decide (A < len) = false := by simp; omega
      generalize keyT es m = LK at *
      clear hord hm hA hlt hkk
      go_wp2_with fail
      go_at_call 38
      refine (varP1 len (by omega) _).mono ?_
      rintro _ w5 ⟨rfl, b5⟩
      have HP5 := Lib.hid (HP4.out.below b5)
      obtain ⟨T1, hT1⟩ : ∃ T1 : ByteArray, ⟨(Lib.uvarint len).toArray⟩ = T1 := ⟨_, rfl⟩
      have hT1d : T1.data.toList = Lib.uvarint len := by rw [← hT1]
      have hT1s : T1.size ≤ 10 := by rw [← len_data', hT1d]; exact huv2
      have CW5 := Lib.hid (writeI_any HP5.out T1 (by omega))
      rw [hT1d] at CW5
      (try rw [hT1])
      clear b5 hT1 HP4 hT1d
      go_wp2_with fail
      go_at_call 37
      refine CW5.out.mono ?_
      rintro _ w6 ⟨rfl, VI6, HP6⟩
      have r0 := HLAST.out w6 HP6.out.bel
      clear CW5 HP5 hT1s
      go_wp2_with fail
      go_at_call 42
      refine (textP1 LK (by omega) _).mono ?_
      rintro _ w7 ⟨rfl, b7⟩
      have HP7 := Lib.hid (HP6.out.below b7)
      obtain ⟨T2, hT2⟩ : ∃ T2 : ByteArray, ⟨(Lib.uvarint LK.size ++ LK.data.toList).toArray⟩ = T2 := ⟨_, rfl⟩
      have hT2d : T2.data.toList = textT LK := by rw [← hT2]; rfl
      have hT2s : T2.size ≤ 20010 := by
        have := uv_len LK.size (by omega)
        rw [← len_data', hT2d]
        unfold textT
        rw [List.length_append, len_data']
        omega
      have CW7 := Lib.hid (writeI_any HP7.out T2 (by rw [List.length_append]; omega))
      rw [hT2d] at CW7
      (try rw [hT2])
      clear b7 hT2 HP6 r0
      go_wp2_with fail
      go_at_call 37
      refine CW7.out.mono ?_
      rintro _ w8 ⟨rfl, VI8, HP8⟩
      have CK := Lib.hid (keysOf_any (w := w8) (some ⟨b, off, none⟩) len cap es ((HE.out.below HP8.out.bel).mono HP8.out.bel.size) (by omega))
      clear CW7 HP7
      go_wp2_with fail
      go_at_call 45
      refine CK.out.mono ?_
      rintro _ w9 ⟨kv, rfl, rk, -, b9⟩
      have HP9 := Lib.hid (HP8.out.below b9)
      obtain ⟨ka, kc, rfl, hrs⟩ := keys_rowS rk HKK.out
      have CM := Lib.hid (make_any 10 4 ka (keysT es len).length kc (keysT es len) w9 (by omega) (by omega) (by omega) (by omega) (by omega) hrs)
      clear CK HP8 rk b9 hrs
      go_wp2_with fail
      go_at_call 44
      refine CM.out.mono ?_
      rintro _ w10 ⟨rfl, b10⟩
      have HP10 := Lib.hid (HP9.out.below b10)
      obtain ⟨FI, hFI⟩ : ∃ FI : ByteArray, ⟨(mkB 10 4 (keysT es len)).toArray⟩ = FI := ⟨_, rfl⟩
      have hFId : FI.data.toList = mkB 10 4 (keysT es len) := by rw [← hFI]
      have hFIs : FI.size ≤ 3000 := by
        rw [← len_data', hFId, mkB_len]
        unfold szB
        omega
      have CSF := Lib.hid (fun W => seal_any FI W (by omega))
      have hbne : blksT es k ≠ [] := by
        obtain ⟨k', hk'⟩ : ∃ k', k = k' + 1 := ⟨k - 1, by have h1 := HNT.out; unfold numT at h1; rw [HEL.out] at h1; omega⟩
        intro e
        rw [hk'] at e
        have h1 : (blksT es k' ++ blkB (chunkT es k')).length = 0 := by rw [show blksT es k' ++ blkB (chunkT es k') = [] from e]; rfl
        rw [List.length_append] at h1
        unfold blkB sealF at h1
        simp only [List.length_append, be_length] at h1
        omega
      have CS1 := Lib.hid (bstr_any HP10.out.b hbne)
      obtain ⟨S1, hS1⟩ : ∃ S1 : ByteArray, ⟨(blksT es k).toArray⟩ = S1 := ⟨_, rfl⟩
      have hS1d : S1.data.toList = blksT es k := by rw [← hS1]
      have hS1s : S1.size ≤ 1200000 := by rw [← len_data', hS1d]; omega
      rw [hS1] at CS1
      clear CM HP9 b10
      (try rw [hFI])
      clear hFI hS1
      go_wp2_with fail
      go_at_call 47
      refine CS1.out.mono ?_
      rintro _ w11 ⟨rfl, t11⟩
      have HI11 := Lib.hid (show Bl w11 ib VI8 _ from HP10.out.i.kept (t11.block ib HP10.out.i.lt (fun hm => HP10.out.nbi (by simpa using hm))) (fun j hj => t11.block j (HP10.out.i.row.lt j hj) (fun hm => HP10.out.nn j (by simpa using hm) hj)))
      have HB11 := Lib.hid (show Below w.heap.size w w11 from HP10.out.bel.trans (t11.below HP10.out.bel.size (fun x hx => HP10.out.lvb x (by simpa using hx))))
      have HLV := Lib.hid HP10.out.lvi
      clear CS1 t11 HP10 hbne
      go_wp2_with fail
      go_at_call 48
      refine (CSF.out _).mono ?_
      rintro _ w12 ⟨rfl, b12⟩
      have HI12 := Lib.hid (HI11.out.below b12)
      have HB12 := Lib.hid (HB11.out.trans (b12.mono HB11.out.size))
      generalize hIL : Lib.uvarint k ++ idxT es k ++ Lib.uvarint len ++ textT LK = IL at HI12
      have hILs : IL.length ≤ 500000 := by
        have : (textT LK).length ≤ 20010 := by rw [← hT2d, len_data']; exact hT2s
        rw [← hIL]
        simp only [List.length_append] at hi57 ⊢
        omega
      have hILne : IL ≠ [] := by
        intro e
        have h1 : (Lib.uvarint len).length = 0 := by
          rw [e] at hIL
          have := congrArg List.length hIL
          simp only [List.length_append, List.length_nil] at this
          omega
        have h2 := Lib.uvarint_pos len
        omega
      have CS2 := Lib.hid (bstr_any HI12.out hILne)
      obtain ⟨S2, hS2⟩ : ∃ S2 : ByteArray, ⟨IL.toArray⟩ = S2 := ⟨_, rfl⟩
      have hS2d : S2.data.toList = IL := by rw [← hS2]
      have hS2s : S2.size ≤ 500000 := by rw [← len_data', hS2d]; exact hILs
      rw [hS2] at CS2
      have CSI := Lib.hid (fun W => seal_any S2 W (by omega))
      obtain ⟨S3, hS3⟩ : ∃ S3 : ByteArray, ⟨(sealF FI.data.toList).toArray⟩ = S3 := ⟨_, rfl⟩
      have hS3d : S3.data.toList = sealF FI.data.toList := by rw [← hS3]
      obtain ⟨S4, hS4⟩ : ∃ S4 : ByteArray, ⟨(sealF S2.data.toList).toArray⟩ = S4 := ⟨_, rfl⟩
      have hS4d : S4.data.toList = sealF S2.data.toList := by rw [← hS4]
      rw [hS4] at CSI
      have hS3s : S3.size ≤ 4000 := by rw [← len_data', hS3d]; unfold sealF; rw [List.length_append, be_length, len_data']; omega
      have hS4s : S4.size ≤ 600000 := by rw [← len_data', hS4d]; unfold sealF; rw [List.length_append, be_length, len_data']; omega
      have CJ := Lib.hid (fun W => tjoin_any S1 S3 S4 W (by omega) (by omega) (by omega))
      have HTB := Lib.hid (show S1 ++ S3 ++ S4 ++ ⟨(sealF (laid4 S1.size S3.size (S1.size + S3.size) S4.size 4)).toArray⟩ = (⟨(tabB es).toArray⟩ : ByteArray) by
        have e1 : S1.size = (blksT es (numT es)).length := by rw [← len_data', hS1d, HNT.out]
        have e3 : S3.data.toList = filT es := by rw [hS3d, hFId]; unfold filT; rw [HEL.out]
        have e4 : S4.data.toList = indT es := by
          rw [hS4d, hS2d, ← hIL]
          unfold indT
          rw [HNT.out, HEL.out, HKM.out, HEL.out]
        have e5 : S3.size = (filT es).length := by rw [← len_data', e3]
        have e6 : S4.size = (indT es).length := by rw [← len_data', e4]
        apply bytes_ext
        rw [ByteArray.data_append, Array.toList_append, ByteArray.data_append, Array.toList_append, ByteArray.data_append, Array.toList_append, hS1d, e3, e4, e1, e5, e6]
        unfold tabB footT laid4
        rw [HNT.out]
        rfl)
      generalize S1 ++ S3 ++ S4 ++ ⟨(sealF (laid4 S1.size S3.size (S1.size + S3.size) S4.size 4)).toArray⟩ = RS at CJ HTB
      (try rw [hS3])
      clear hFId hS1d hS2 hS2d hS3 hS3d hS4 hS4d hIL hILne CSF b12 HI11 HB11
      go_wp2_with fail
      go_at_call 47
      refine CS2.out.mono ?_
      rintro _ w13 ⟨rfl, t13⟩
      have HB13 := Lib.hid (show Below w.heap.size w w13 from HB12.out.trans (t13.below HB12.out.size (fun x hx => HLV.out x (by simpa using hx))))
      clear t13 HB12 HI12 CS2
      go_wp2_with fail
      go_at_call 48
      refine (CSI.out _).mono ?_
      rintro _ w14 ⟨rfl, b14⟩
      have HB14 := Lib.hid (HB13.out.trans (b14.mono HB13.out.size))
      clear b14 HB13
      go_wp2_with fail
      go_at_call 46
      refine (CJ.out _).mono ?_
      rintro _ w15 ⟨rfl, b15⟩
      go_wp2_with fail
      go_ret2
      exact ⟨by rw [HTV.out, HTB.out]; rfl, HB14.out.trans (b15.mono HB14.out.size)⟩
set_option maxHeartbeats 1000000 in
theorem tput_none {w : World} (a : Option Addr) (cap : Nat) : Calls Tryz.prog 17 #[.slice a 0 cap] w fun e w' => e = .returned (tabV []) ∧ Below w.heap.size w w' := by
  have HNO := Lib.hid (tabV_not (es := []) (fun h => h.1 rfl))
  go_enter Tryz.func17, Tryz.ntmps17
  go_wp2
  go_ret2
  exact ⟨by rw [HNO.out]; rfl, Below.refl _ _⟩
theorem tput_any {w : World} (a : Option Addr) (len cap : Nat) (es : List Ent) (hE : EntsAt w.heap.size w a len es) (hlm : len ≤ 150) (hcap : len ≤ cap) (hok : ∀ x ∈ es, x.Ok) (hsz : sizeEs es ≤ 20000) :
    Calls Tryz.prog 17 #[.slice a len cap] w fun e w' => e = .returned (tabV es) ∧ Below w.heap.size w w' := by
  by_cases h0 : len = 0
  · subst h0
    have : es = [] := List.eq_nil_of_length_eq_zero hE.1
    subst this
    exact tput_none a cap
  · obtain ⟨b, off, rfl⟩ : ∃ b off, a = some ⟨b, off, none⟩ := by
      rcases hE.2 with h | ⟨b, off, e, -⟩
      · exact absurd h h0
      · exact ⟨b, off, e⟩
    exact tput_some b off len cap es hE (by omega) hlm hcap hok hsz
end Go.Proofs.YtmnboiikopkaoaaGreat
