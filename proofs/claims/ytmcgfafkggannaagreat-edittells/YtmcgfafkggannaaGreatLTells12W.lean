/- EditTells, walked. -/
import Derived.Test.YtmcgfafkggannaaGreatT12D
import Derived.Test.YtmcgfafkggannaaGreatT12A
import Derived.BigRegion
namespace Go.Proofs.YtmcgfafkggannaaGreat
open Go.RowKit Go.Shelf

theorem rdTs_len : ∀ (n : Nat) (acc : List Tb) (l : List UInt8), (rdTs n acc l).1.length ≤ acc.length + n
  | 0, acc, l => by simp [rdTs]
  | n + 1, acc, l => by
    unfold rdTs
    split
    · simp
    · have := rdTs_len n (acc ++ [(rdTb l 0).1]) (rdTb l 0).2.1
      simp at this
      omega
theorem rdIs_len : ∀ (n : Nat) (acc : List Int) (l : List UInt8), (rdIs n acc l).1.length ≤ acc.length + n
  | 0, acc, l => by simp [rdIs]
  | n + 1, acc, l => by
    unfold rdIs
    split
    · simp
    · have := rdIs_len n (acc ++ [((rdI l 0).1 : Int)]) (rdI l 0).2.1
      simp at this
      omega
theorem getQ_len (l : List UInt8) : (getQ l).1.add.length ≤ 10000 ∧ (getQ l).1.drop.length ≤ 10000 := by
  unfold getQ
  split
  · unfold getP
    simp only
    constructor
    · generalize (rdV (rdI (rdI l 0).2.1 (rdI l 0).2.2).2.1 (rdI (rdI l 0).2.1 (rdI l 0).2.2).2.2) = c
      unfold rdLT
      split
      · exact Nat.zero_le _
      · have h1 := rdTs_len (rdC 10000 c.2.1 c.2.2).1 [] (rdC 10000 c.2.1 c.2.2).2.1
        have h2 := rdC_le (most := 10000) c.2.1 c.2.2 (by decide)
        simp at h1
        omega
    · generalize rdLT _ _ = c
      unfold rdLI
      split
      · exact Nat.zero_le _
      · have h1 := rdIs_len (rdC 10000 c.2.1 c.2.2).1 [] (rdC 10000 c.2.1 c.2.2).2.1
        have h2 := rdC_le (most := 10000) c.2.1 c.2.2 (by decide)
        simp at h1
        omega
  · exact ⟨Nat.zero_le _, Nat.zero_le _⟩
theorem putV_form (e : Ed) : ∃ (S : ByteArray) (E : Int), PutV e = .tuple #[.string S, .int .i64 E] := by
  unfold PutV
  split <;> exact ⟨_, _, rfl⟩
theorem EdW.below {w w' : World} {e : Ed} {va vd : Value} (h : EdW w e va vd) (hb : Below w.heap.size w w') : EdW w' e va vd := ⟨h.l, h.n, h.s, h.a.below hb, h.d.below hb, h.la, h.ld, h.ka, h.kd⟩
/-- The statement's own boxes: the version and the edit that came in, and their lists. -/
structure SA (w0 : World) (v : Vr) (vv : Value) (e : Ed) (va vd : Value) (w : World) : Prop where
  x : BoxV w0.heap.size v.log v.next v.seq vv w
  y : BoxEd (w0.heap.size + 1) e.log e.next e.seq va vd w
  t : TbsV w vv v.ts
  a : TbsV w va e.add
  d : IntsV w vd e.drop
  b : Below w0.heap.size w0 w
theorem SA.below {w0 w w' : World} {v : Vr} {vv : Value} {e : Ed} {va vd : Value} (h : SA w0 v vv e va vd w) (hb : Below w.heap.size w w') : SA w0 v vv e va vd w' := ⟨h.x.below hb, h.y.below hb, h.t.below hb, h.a.below hb, h.d.below hb, h.b.trans (hb.mono h.b.size)⟩
/-- What is handed in, lent: the boxes and the lists. -/
structure KQ (v : Vr) (e : Ed) (X9 X10 g1 c1 g2 c2 g3 c3 : Nat) (W : World) : Prop where
  x : BoxV X9 v.log v.next v.seq (.slice (some ⟨g1, 0, none⟩) v.ts.length (c1 + 1)) W
  y : BoxEd X10 e.log e.next e.seq (.slice (some ⟨g2, 0, none⟩) e.add.length (c2 + 1)) (.slice (some ⟨g3, 0, none⟩) e.drop.length (c3 + 1)) W
  t : LentTs W g1 c1 v.ts
  a : LentTs W g2 c2 e.add
  d : LentNs W g3 c3 e.drop
theorem KQ.keep {v : Vr} {e : Ed} {X9 X10 g1 c1 g2 c2 g3 c3 : Nat} (A C : World) (hk : ∀ k ∈ [X9, X10, g1, g2, g3], C.heap[k]? = A.heap[k]?) (h : KQ v e X9 X10 g1 c1 g2 c2 g3 c3 A) : KQ v e X9 X10 g1 c1 g2 c2 g3 c3 C :=
  ⟨(hk X9 (by simp)).trans h.x, (hk X10 (by simp)).trans h.y, h.t.keep (hk g1 (by simp)), h.a.keep (hk g2 (by simp)), h.d.keep (hk g3 (by simp))⟩
theorem KQ.made {v : Vr} {e : Ed} {X9 X10 g1 c1 g2 c2 g3 c3 : Nat} {v0 v1 v2 : Value} {wr wc w3 w4 w5 : World} (hx : BoxV X9 v.log v.next v.seq v0 wc) (hy : BoxEd X10 e.log e.next e.seq v1 v2 wc) (hne : X9 ≠ X10) (h9 : wr.heap.size ≤ X9) (h10 : wr.heap.size ≤ X10) (q1 : LentTs w3 g1 c1 v.ts ∧ wc.heap.size ≤ g1 ∧ Below wc.heap.size wc w3) (q2 : LentTs w4 g2 c2 e.add ∧ w3.heap.size ≤ g2 ∧ Below w3.heap.size w3 w4) (q3 : LentNs w5 g3 c3 e.drop ∧ w4.heap.size ≤ g3 ∧ Below w4.heap.size w4 w5) (hb : Below wr.heap.size wr w5) (_hsz : wr.heap.size ≤ wc.heap.size) {wx : World}
    (hw : ((w5.setCell ⟨X9, 3, none⟩ (.slice (some ⟨g1, 0, none⟩) v.ts.length (c1 + 1))).setCell ⟨X10, 3, none⟩ (.slice (some ⟨g2, 0, none⟩) e.add.length (c2 + 1))).setCell ⟨X10, 4, none⟩ (.slice (some ⟨g3, 0, none⟩) e.drop.length (c3 + 1)) = wx) :
    KQ v e X9 X10 g1 c1 g2 c2 g3 c3 wx ∧ ([X9, X10, g1, g2, g3].Nodup ∧ ∀ q ∈ [X9, X10, g1, g2, g3], wr.heap.size ≤ q ∧ q < wx.heap.size) ∧ Below wr.heap.size wr wx := by
  obtain ⟨l1, b1, s1⟩ := q1
  obtain ⟨l2, b2, s2⟩ := q2
  obtain ⟨l3, b3, s3⟩ := q3
  have t1 := l1.lt
  have t2 := l2.lt
  have t3 := l3.lt
  have z1 := s1.size
  have z2 := s2.size
  have z3 := s3.size
  have y9 := hx.lt
  have y10 := hy.lt
  have hall := bt12 s1 (bt12 s2 s3)
  have x5 := hx.below hall
  have e5 := hy.below hall
  have hsx : wx.heap.size = w5.heap.size := by rw [← hw]; simp
  have ho : ∀ k, k ≠ X9 → k ≠ X10 → wx.heap[k]? = w5.heap[k]? := fun k k1 k2 => by
    rw [← hw, heap_setCell_other _ ⟨X10, 4, none⟩ k _ k2, heap_setCell_other _ ⟨X10, 3, none⟩ k _ k2, heap_setCell_other _ ⟨X9, 3, none⟩ k _ k1]
  refine ⟨⟨?_, ?_, (l1.below (bt12 s2 s3)).keep (ho _ (by omega) (by omega)), (l2.below s3).keep (ho _ (by omega) (by omega)), l3.keep (ho _ (by omega) (by omega))⟩, ⟨?_, ?_⟩, ?_⟩
  · have h1 := x5.set3 (.slice (some ⟨g1, 0, none⟩) v.ts.length (c1 + 1))
    rw [← hw]
    exact (heap_setCell_other _ ⟨X10, 4, none⟩ X9 _ hne).trans ((heap_setCell_other _ ⟨X10, 3, none⟩ X9 _ hne).trans h1)
  · rw [← hw]
    exact ((e5.setOther (X := X9) (o := 3) (u := .slice (some ⟨g1, 0, none⟩) v.ts.length (c1 + 1)) hne).set 3 _ _ _ _ _ _ rfl).set 4 _ _ _ _ _ _ rfl
  · simp only [List.nodup_cons, List.mem_cons, List.not_mem_nil, or_false, not_or, not_false_eq_true, List.nodup_nil, and_true]
    omega
  · intro q hq
    rw [hsx]
    simp only [List.mem_cons, List.not_mem_nil, or_false] at hq
    omega
  · rw [← hw]
    exact ((hb.setCell (p := ⟨X9, 3, none⟩) h9 _).setCell (p := ⟨X10, 3, none⟩) h10 _).setCell (p := ⟨X10, 4, none⟩) h10 _
theorem two_nodup {x y : Value} (h : ∀ q, ob x = some q → ob y ≠ some q) : ((ob x).toList ++ (ob y).toList).Nodup := by
  cases hx : ob x with
  | none => cases ob y <;> simp
  | some k =>
    cases hy : ob y with
    | none => simp
    | some m =>
      simp only [Option.toList_some, List.cons_append, List.nil_append, List.nodup_cons, List.mem_cons, List.not_mem_nil, or_false, not_false_eq_true, List.nodup_nil, and_true]
      intro e
      exact h k hx (by rw [hy, e])
set_option maxHeartbeats 16000000 in
set_option maxRecDepth 100000 in
theorem editTells_walk (v : Vr) (vv : Value) (e : Ed) (va vd : Value) (b : ByteArray) (hbm : b.size ≤ maxLen) (w : World) (hV : VrW w v vv) (hE : EdW w e va vd) : Calls Tryz.prog 3 #[verV v.log v.next v.seq vv, ediV e.log e.next e.seq va vd, .string b] w fun x w' => x = .returned (.bool true) ∧ Below w.heap.size w w' := by
  have CA := Lib.hid (fun W => alive12_any W)
  obtain ⟨log, next, seq, ts⟩ := v
  obtain ⟨elog, enext, eseq, add, drop⟩ := e
  have HE := Lib.hid hE
  have HV := Lib.hid hV
  have hVa : TbsV w vv ts := hV.a
  have hEa : TbsV w va add := hE.a
  have hEd : IntsV w vd drop := hE.d
  obtain ⟨ta, tc, rfl⟩ := hVa.len
  obtain ⟨aa, ac, rfl⟩ := hEa.len
  obtain ⟨da, dc, rfl⟩ := hEd.len
  have hb63 : b.size ≤ 9223372036854775807 := by unfold maxLen at hbm; omega
  unfold ediV verV
  simp only
  obtain ⟨W1, hW1⟩ : ∃ W1, (w.alloc (.cells #[.int .i64 log, .int .i64 next, .int .u64 (seq : Int), .slice ta ts.length tc] 25)).alloc (.cells #[.int .i64 elog, .int .i64 enext, .int .u64 (eseq : Int), .slice aa add.length ac, .slice da drop.length dc] 28) = W1 := ⟨_, rfl⟩
  have b1 : Below w.heap.size w W1 := by rw [← hW1]; exact ((Below.refl _ _).alloc (Nat.le_refl _) _).alloc (by simp) _
  have s1 : SA w ⟨log, next, seq, ts⟩ (.slice ta ts.length tc) ⟨elog, enext, eseq, add, drop⟩ (.slice aa add.length ac) (.slice da drop.length dc) W1 := ⟨by rw [← hW1]; exact (Below.heap_alloc _ _ _ (by simp)).trans (new_block _ _ rfl), by rw [← hW1]; exact new_block _ _ (by simp), hVa.below b1, hEa.below b1, hEd.below b1, b1⟩
  have HS1 := Lib.hid s1
  have CS := Lib.hid (small12_any _ ts W1 s1.t (by have := hV.la; unfold maxLen at this; simp only at this; omega) hV.ka)
  have HCL := Lib.hid (fun W (h : Below W1.heap.size W1 W) => light_any ⟨elog, enext, eseq, add, drop⟩ _ _ W ((hE.below b1).below h))
  unfold ediV at HCL
  simp only at HCL
  have p3 := s1.x.c3
  try simp only at p3
  clear hV hE hVa hEa hEd hbm b1 s1
  go_enter Tryz.func3, Tryz.ntmps3
  go_upto_region 1 with fail
  try rw [hW1]
  clear hW1
  go_cut [37] from 24 to 37 (fun v wx => ∃ c : Bool, v = .bool c ∧ Hid (c = false → (ts.length ≤ 40 ∧ ∀ x ∈ ts, x.Short) ∧ (add.length ≤ 40 ∧ (∀ t ∈ add, t.Short) ∧ drop.length ≤ 60) ∧ b.size ≤ 6000) ∧ Hid (Below W1.heap.size W1 wx))
  case first =>
    go_wp2_with fail
    go_at_call 4
    (with_reducible refine CS.out.mono ?_)
    rintro _ w2 ⟨t1, rfl, ht1, hb2⟩
    have s2 := HS1.out.below hb2
    have q0 := s2.y.c0
    have q1 := s2.y.c1
    have q2 := s2.y.c2
    have q3 := s2.y.c3
    have q4 := s2.y.c4
    simp only at q0 q1 q2 q3 q4
    have HT1 := Lib.hid ht1
    have HB2 := Lib.hid hb2
    have CL := Lib.hid (HCL.out w2 hb2)
    clear s2 ht1 hb2 CS p3 HCL
    cases t1 with
    | false =>
      go_wp2_with fail
      go_meet
      exact ⟨true, rfl, Lib.hid (fun h => by cases h), HB2⟩
    | true =>
      go_wp2_with fail
      go_at_call 5
      (with_reducible refine CL.out.mono ?_)
      rintro _ w3 ⟨t2, rfl, ht2, hb3⟩
      have HT2 := Lib.hid ht2
      have HB3 := Lib.hid (bt12 HB2.out hb3)
      clear ht2 hb3 CL q0 q1 q2 q3 q4
      cases t2 with
      | false =>
        go_wp2_with fail
        go_meet
        exact ⟨true, rfl, Lib.hid (fun h => by cases h), HB3⟩
      | true =>
        by_cases h6 : b.size ≤ 6000
        · have d6 : decide ((6000 : Int) < (b.size : Int)) = false := by simp; omega
          go_wp2_with fail
          go_meet
          exact ⟨false, rfl, Lib.hid (fun _ => ⟨HT1.out (by first | rfl | trivial), HT2.out (by first | rfl | trivial), h6⟩), HB3⟩
        · have d6 : decide ((6000 : Int) < (b.size : Int)) = true := by simp; omega
          go_wp2_with fail
          go_meet
          exact ⟨true, rfl, Lib.hid (fun h => by cases h), HB3⟩
  case rest =>
    clear CS HCL p3
    obtain ⟨c, rfl, HG, HBW⟩ := hcut
    cases c with
    | true =>
      go_wp2_with (go_at_call 6; (with_reducible refine (CA.out _).mono ?_); rintro _ w2 ⟨rfl, hb2⟩)
      go_ret
      exact ⟨rfl, HS1.out.b.trans ((bt12 HBW.out hb2).mono HS1.out.b.size)⟩
    | false =>
      obtain ⟨⟨hl1, hsh1⟩, ⟨hl2, hsh2, hl3⟩, hb6⟩ := HG.out (by first | rfl | trivial)
      have HK1 := Lib.hid (show ∀ t ∈ ts, t.Ok ∧ t.Short from fun t ht => ⟨HV.out.ka t ht, hsh1 t ht⟩)
      have HK2 := Lib.hid (show ∀ t ∈ add, t.Ok ∧ t.Short from fun t ht => ⟨HE.out.ka t ht, hsh2 t ht⟩)
      have HK3 := Lib.hid (show ∀ k ∈ drop, -9223372036854775808 ≤ k ∧ k ≤ 9223372036854775807 from HE.out.kd)
      have HEO := Lib.hid (show (⟨elog, enext, eseq, add, drop⟩ : Ed).Ok from ⟨HE.out.l.2, HE.out.n.2, HE.out.s, by show add.length ≤ 10000; omega, by show drop.length ≤ 10000; omega, HK2.out, HK3.out⟩)
      clear HG hsh1 hsh2
      obtain ⟨W2, hW2⟩ : ∃ W, wc.alloc (.cells #[.slice none 0 0, .slice none 0 0, .slice none 0 0, .slice none 0 0, .slice none 0 0, .slice none 0 0, .slice none 0 0, .slice none 0 0, .slice none 0 0, .slice none 0 0, .slice none 0 0, .slice none 0 0, .slice none 0 0, .slice none 0 0, .slice none 0 0, .slice none 0 0, .slice none 0 0, .slice none 0 0, .slice none 0 0, .slice none 0 0, .slice none 0 0, .slice none 0 0, .slice none 0 0, .slice none 0 0, .slice none 0 0, .slice none 0 0, .slice none 0 0, .slice none 0 0] 48) = W := ⟨_, rfl⟩
      have HW2 := Lib.hid (show Below W1.heap.size W1 W2 by rw [← hW2]; exact HBW.out.alloc HBW.out.size _)
      have HK := Lib.hid (show St12 W1.heap.size wc.heap.size [] (fun _ => True) [] [] [] [] W2 by
        rw [← hW2]
        refine ⟨Book.start (book_newB W1.heap.size wc HBW.out.size), List.nodup_nil, (fun k hk => by cases hk), trivial, fun _ _ _ _ => trivial, ?_⟩
        have := HBW.out.size
        simp
        omega)
      go_upto_region 5 with fail
      try rw [hW2]
      generalize wc.heap.size = bk at HK ⊢
      clear hW2 HBW
      go_loopw [8] (fun kv wr => ∃ k : Nat, kv = .int .i64 (k : Int) ∧ k ≤ 2 ∧ Hid (St12 W1.heap.size bk [] (fun _ => True) [] [] [] [] wr) ∧ Hid (Below W1.heap.size W1 wr)) (fun kv _ => 2 - (intOf kv).toNat)
      case atStart => exact ⟨0, rfl, by omega, HK, HW2⟩
      case round =>
        clear HK HW2
        obtain ⟨k, rfl, hk2, HK, HBL⟩ := hrel
        by_cases hlt : k < 2
        · have hkI : (k : Int) < 2 := by omega
          have sr := HS1.out.below HBL.out
          have q0 := sr.x.c0
          have q1 := sr.x.c1
          have q2 := sr.x.c2
          have q3 := sr.x.c3
          have r0 := sr.y.c0
          have r1 := sr.y.c1
          have r2 := sr.y.c2
          have r3 := sr.y.c3
          have r4 := sr.y.c4
          simp only at q0 q1 q2 q3 r0 r1 r2 r3 r4
          clear sr
          go_upto_region 7 with fail
          go_cut [9, 10] from 45 to 46 (fun v9 v10 wx => ∃ X9 X10 : Nat, v9 = .pointer (some ⟨X9, 0, none⟩) ∧ v10 = .pointer (some ⟨X10, 0, none⟩) ∧ Hid (BoxV X9 log next seq (.slice ta ts.length tc) wx) ∧ Hid (BoxEd X10 elog enext eseq (.slice aa add.length ac) (.slice da drop.length dc) wx) ∧ Hid (X9 ≠ X10 ∧ wr.heap.size ≤ X9 ∧ wr.heap.size ≤ X10) ∧ Hid (Below wr.heap.size wr wx))
          case first =>
            have hB0 : w.heap.size < wr.heap.size := (HS1.out.below HBL.out).x.lt
            have hB1 : w.heap.size + 1 < wr.heap.size := (HS1.out.below HBL.out).y.lt
            have n0 := fun (o : Obj) => oce (w := wr) (o := o) hB0 q0
            have n1 := fun (o : Obj) => oce (w := wr) (o := o) hB0 q1
            have n2 := fun (o : Obj) => oce (w := wr) (o := o) hB0 q2
            have n3 := fun (o : Obj) => oce (w := wr) (o := o) hB0 q3
            have m0 := fun (o : Obj) => oce (w := wr) (o := o) hB1 r0
            have m1 := fun (o : Obj) => oce (w := wr) (o := o) hB1 r1
            have m2 := fun (o : Obj) => oce (w := wr) (o := o) hB1 r2
            have m3 := fun (o : Obj) => oce (w := wr) (o := o) hB1 r3
            have m4 := fun (o : Obj) => oce (w := wr) (o := o) hB1 r4
            go_region
            all_goals go_wp2_with fail
            all_goals go_meet
            all_goals first
              | exact ⟨wr.heap.size, wr.heap.size + 1, rfl, rfl, Lib.hid ((Below.heap_alloc _ _ _ (by simp)).trans (new_block _ _ rfl)), Lib.hid (new_block _ _ (by simp)), Lib.hid ⟨by omega, by omega, by omega⟩, Lib.hid ((((Below.refl _ _).alloc (Nat.le_refl _) _).alloc (by simp) _).drew)⟩
              | exact ⟨wr.heap.size + 1, wr.heap.size, rfl, rfl, Lib.hid (new_block _ _ (by simp)), Lib.hid ((Below.heap_alloc _ _ _ (by simp)).trans (new_block _ _ rfl)), Lib.hid ⟨by omega, by omega, by omega⟩, Lib.hid ((((Below.refl _ _).alloc (Nat.le_refl _) _).alloc (by simp) _).drew)⟩
          case rest =>
            obtain ⟨X9, X10, rfl, rfl, HX9, HX10, HXX, HB7⟩ := hcut
            clear q0 q1 q2 q3 r0 r1 r2 r3 r4
            obtain ⟨hne, hx9, hx10⟩ := HXX.out
            have hne' : X10 ≠ X9 := fun q => hne q.symm
            have HSR := Lib.hid (show ∀ W, Below wr.heap.size wr W → SA w ⟨log, next, seq, ts⟩ (.slice ta ts.length tc) ⟨elog, enext, eseq, add, drop⟩ (.slice aa add.length ac) (.slice da drop.length dc) W from fun W h => (HS1.out.below HBL.out).below h)
            have HSC := Lib.hid (show ∀ W, Below wr.heap.size wr W → W.cell? ⟨w.heap.size, 3, none⟩ = some (.slice ta ts.length tc) ∧ W.cell? ⟨w.heap.size + 1, 3, none⟩ = some (.slice aa add.length ac) ∧ W.cell? ⟨w.heap.size + 1, 4, none⟩ = some (.slice da drop.length dc) from fun W h => ⟨(HSR.out W h).x.c3, (HSR.out W h).y.c3, (HSR.out W h).y.c4⟩)
            have HBd := Lib.hid (show Below wr.heap.size wr wc.drew from HB7.out.drew)
            have C1 := Lib.hid (lentT_any _ ts wc.drew (HSR.out _ HBd.out).t (by omega))
            have HC2 := Lib.hid (fun W (h : Below wr.heap.size wr W) => lentT_any _ add W (HSR.out _ h).a (by show add.length ≤ 1000000; omega))
            have HC3 := Lib.hid (fun W (h : Below wr.heap.size wr W) => lentN_any _ drop W (HSR.out _ h).d (by show drop.length ≤ 1000000; omega))
            obtain ⟨y0, y1, y2⟩ := HSC.out _ HBd.out
            go_upto_region 8 with fail
            go_cut [9, 10] from 47 to 58 (fun v9 v10 wx => v9 = .pointer (some ⟨X9, 0, none⟩) ∧ v10 = .pointer (some ⟨X10, 0, none⟩) ∧ ∃ g1 c1 g2 c2 g3 c3 : Nat, Hid (KQ ⟨log, next, seq, ts⟩ ⟨elog, enext, eseq, add, drop⟩ X9 X10 g1 c1 g2 c2 g3 c3 wx) ∧ Hid ([X9, X10, g1, g2, g3].Nodup ∧ ∀ q ∈ [X9, X10, g1, g2, g3], wr.heap.size ≤ q ∧ q < wx.heap.size) ∧ Hid (Below wr.heap.size wr wx))
            case first =>
              go_region_held3 (fun W => W.cell? ⟨w.heap.size, 3, none⟩ = some (.slice ta ts.length tc) ∧ W.cell? ⟨w.heap.size + 1, 3, none⟩ = some (.slice aa add.length ac) ∧ W.cell? ⟨w.heap.size + 1, 4, none⟩ = some (.slice da drop.length dc))
                (first | (go_keep; done) | exact HSC.out _ HB3.out | exact HSC.out _ HB4.out | exact HSC.out _ HB5.out | exact HSC.out _ (HB5.out.setCell (p := ⟨X9, 3, none⟩) hx9 _) | exact HSC.out _ ((HB5.out.setCell (p := ⟨X9, 3, none⟩) hx9 _).setCell (p := ⟨X10, 3, none⟩) hx10 _) | exact HSC.out _ (((HB5.out.setCell (p := ⟨X9, 3, none⟩) hx9 _).setCell (p := ⟨X10, 3, none⟩) hx10 _).setCell (p := ⟨X10, 4, none⟩) hx10 _))
                (first
                  | (go_at_call 7; (with_reducible refine C1.out.mono ?_); rintro _ w3 ⟨g1, c1, rfl, hL1, hg1, hb3⟩; have HB3 := Lib.hid (show Below wr.heap.size wr w3 from HBd.out.trans (hb3.mono HBd.out.size)); have HQ1 := Lib.hid (show LentTs w3 g1 c1 ts ∧ wc.heap.size ≤ g1 ∧ Below wc.heap.size wc w3 from ⟨hL1, hg1, ⟨hb3.os, hb3.tape, hb3.output, hb3.size, hb3.block⟩⟩); clear hL1 hg1 hb3)
                  | (go_at_call 7; (with_reducible refine (HC2.out _ HB3.out).mono ?_); rintro _ w4 ⟨g2, c2, rfl, hL2, hg2, hb4⟩; have HB4 := Lib.hid (show Below wr.heap.size wr w4 from HB3.out.trans (hb4.mono HB3.out.size)); have HQ2 := Lib.hid (show LentTs w4 g2 c2 add ∧ w3.heap.size ≤ g2 ∧ Below w3.heap.size w3 w4 from ⟨hL2, hg2, hb4⟩); clear hL2 hg2 hb4)
                  | (go_at_call 8; (with_reducible refine (HC3.out _ HB4.out).mono ?_); rintro _ w5 ⟨g3, c3, rfl, hL3, hg3, hb5⟩; have HB5 := Lib.hid (show Below wr.heap.size wr w5 from HB4.out.trans (hb5.mono HB4.out.size)); have HQ3 := Lib.hid (show LentNs w5 g3 c3 drop ∧ w4.heap.size ≤ g3 ∧ Below w4.heap.size w4 w5 from ⟨hL3, hg3, hb5⟩); have x9 := HX9.out.below (bt12 HQ1.out.2.2 (bt12 HQ2.out.2.2 hb5)); have x10 := HX10.out.below (bt12 HQ1.out.2.2 (bt12 HQ2.out.2.2 hb5)); have e1 := x9.c3; have e2 := x9.f 3; have e3 := x10.c3; have e4 := x10.f 3; have e5 := x10.c4; have e6 := x10.f 4; clear hL3 hg3 hb5 x9 x10)
                  | fail)
              have HMD := Lib.hid (KQ.made (v := ⟨log, next, seq, ts⟩) (e := ⟨elog, enext, eseq, add, drop⟩) HX9.out HX10.out hne hx9 hx10 HQ1.out HQ2.out HQ3.out HB5.out HB7.out.size rfl)
              go_wp2_with fail
              go_meet
              exact ⟨rfl, rfl, g1, c1, g2, c2, g3, c3, Lib.hid HMD.out.1, Lib.hid HMD.out.2.1, Lib.hid HMD.out.2.2⟩
            case rest =>
              obtain ⟨rfl, rfl, g1, c1, g2, c2, g3, c3, HKQ, HND, HB8⟩ := hcut
              clear C1 HC2 HC3 HSC y0 y1 y2 HBd HX9 HX10 HXX HB7 hne hne' hx9 hx10
              have HK8 := Lib.hid (HK.out.more HB8.out [X9, X10, g1, g2, g3] (KQ ⟨log, next, seq, ts⟩ ⟨elog, enext, eseq, add, drop⟩ X9 X10 g1 c1 g2 c2 g3 c3) HND.out.1 HND.out.2 HKQ.out KQ.keep)
              have HBL8 := Lib.hid (show Below W1.heap.size W1 wc from HBL.out.trans (HB8.out.mono HBL.out.size))
              clear HK HND HB8 HSR
              rw [List.append_nil] at HK8
              obtain ⟨S, E, hSE⟩ := putV_form ⟨elog, enext, eseq, add, drop⟩
              have HSA := Lib.hid (show ∀ W, Below W1.heap.size W1 W → SA w ⟨log, next, seq, ts⟩ (.slice ta ts.length tc) ⟨elog, enext, eseq, add, drop⟩ (.slice aa add.length ac) (.slice da drop.length dc) W from fun W h => HS1.out.below h)
              -- Put
              have C9 : Hid (Calls Tryz.prog 9 #[.agg #[.int .i64 elog, .int .i64 enext, .int .u64 (eseq : Int), .slice (some ⟨g2, 0, none⟩) add.length (c2 + 1), .slice (some ⟨g3, 0, none⟩) drop.length (c3 + 1)]] wc fun x w' => x = .returned (.tuple #[.string S, .int .i64 E]) ∧ Below wc.heap.size wc w') := Lib.hid (by
                have h := put_any ⟨elog, enext, eseq, add, drop⟩ _ _ wc HKQ.out.a.v HKQ.out.d.v HEO.out
                rw [hSE] at h
                exact h)
              have d0 := HKQ.out.y.c0
              have d1 := HKQ.out.y.c1
              have d2 := HKQ.out.y.c2
              have d3 := HKQ.out.y.c3
              have d4 := HKQ.out.y.c4
              simp only at d0 d1 d2 d3 d4
              go_wp2_with fail
              go_at_call 9
              (with_reducible refine C9.out.mono ?_)
              rintro _ w9 ⟨rfl, hb9⟩
              have HK9 := Lib.hid (HK8.out.below hb9)
              have HBL9 := Lib.hid (show Below W1.heap.size W1 w9 from HBL8.out.trans (hb9.mono HBL8.out.size))
              clear hb9 C9 d0 d1 d2 d3 d4 HK8 HBL8 HKQ
              -- the document's own Put
              have r0 := (HSA.out _ HBL9.out).y.c0
              have r1 := (HSA.out _ HBL9.out).y.c1
              have r2 := (HSA.out _ HBL9.out).y.c2
              have r3 := (HSA.out _ HBL9.out).y.c3
              have r4 := (HSA.out _ HBL9.out).y.c4
              simp only at r0 r1 r2 r3 r4
              have CP := Lib.hid (plainE_any elog enext eseq aa add.length ac da drop.length dc w9)
              go_wp2_with fail
              go_at_call 11
              (with_reducible refine CP.out.mono ?_)
              rintro _ wa ⟨rfl, hba⟩
              have HKa := Lib.hid (HK9.out.below hba)
              have HBLa := Lib.hid (show Below W1.heap.size W1 wa from HBL9.out.trans (hba.mono HBL9.out.size))
              clear hba CP HK9 HBL9 r0 r1 r2 r3 r4
              have CR : Hid (Calls Tryz.prog 10 #[.agg #[.int .i64 elog, .int .i64 enext, .int .u64 (eseq : Int), .slice aa add.length ac, .slice da drop.length dc]] wa fun x w' => x = .returned (.tuple #[.string S, .int .i64 E]) ∧ Below wa.heap.size wa w') := Lib.hid (by
                have h := rput12_any ⟨elog, enext, eseq, add, drop⟩ _ _ wa (HSA.out _ HBLa.out).a (HSA.out _ HBLa.out).d HEO.out
                unfold RPutV at h
                rw [hSE] at h
                exact h)
              go_wp2_with fail
              go_at_call 10
              (with_reducible refine CR.out.mono ?_)
              rintro _ wb ⟨rfl, hbb⟩
              have HKb := Lib.hid (HKa.out.below hbb)
              have HBLb := Lib.hid (show Below W1.heap.size W1 wb from HBLa.out.trans (hbb.mono HBLa.out.size))
              clear hbb CR HKa HBLa hSE
              -- Get
              have CG := Lib.hid (get_any b wb (by omega))
              go_wp2_with fail
              go_at_call 12
              (with_reducible refine CG.out.mono ?_)
              rintro _ wd ⟨hgv, hbd⟩
              obtain ⟨a5, n5, c5, a6, n6, c6, rfl, hr5, hr6, ho5, ho6, hn56⟩ := getV_one hgv
              have HGL := Lib.hid (getQ_len b.data.toList)
              have HKd := Lib.hid (HKb.out.rowTI hbd hr5 hr6 ho5 ho6 hn56)
              have HBLd := Lib.hid (show Below W1.heap.size W1 wd from HBLb.out.trans (hbd.mono HBLb.out.size))
              obtain ⟨GQ, hGQ⟩ : ∃ GQ, getQ b.data.toList = GQ := ⟨_, rfl⟩
              have HGQ := Lib.hid hGQ
              rw [hGQ] at HGL HKd ⊢
              clear hgv hr5 hr6 ho5 ho6 hn56 hGQ CG HKb HBLb
              obtain ⟨We, hWe⟩ : ∃ W, wd.alloc (.cells #[.int .i64 GQ.1.log, .int .i64 GQ.1.next, .int .u64 (GQ.1.seq : Int), .slice a5 n5 c5, .slice a6 n6 c6] 28) = W := ⟨_, rfl⟩
              have be : Below wd.heap.size wd We := by rw [← hWe]; exact alloc_b _ _
              have HKe := Lib.hid (HKd.out.more be [wd.heap.size] (BoxEd wd.heap.size GQ.1.log GQ.1.next GQ.1.seq (.slice a5 n5 c5) (.slice a6 n6 c6)) (by simp) (fun q hq => by simp at hq; rw [hq, ← hWe]; simp) (by rw [← hWe]; exact new_block _ _ rfl) (fun A C hk h => (hk wd.heap.size (by simp)).trans h))
              have HBLe := Lib.hid (show Below W1.heap.size W1 We from HBLd.out.trans (be.mono HBLd.out.size))
              go_upto_region 12 with fail
              try rw [hWe]
              clear hWe be HKd HBLd hbd
              obtain ⟨A15, hA15⟩ : ∃ A, wd.heap.size = A := ⟨_, rfl⟩
              rw [hA15] at HKe ⊢
              clear hA15
              -- the document's own Get
              have CG := Lib.hid (rget12_any b We (by omega))
              go_wp2_with fail
              go_at_call 13
              (with_reducible refine CG.out.mono ?_)
              rintro _ wf ⟨hgv, hbf⟩
              obtain ⟨a7, n7, c7, a8, n8, c8, rfl, hr7, hr8, ho7, ho8, hn78⟩ := getV_one hgv
              rw [HGQ.out] at hr7 hr8 ⊢
              have HKf := Lib.hid (HKe.out.more hbf ((ob (.slice a7 n7 c7)).toList ++ (ob (.slice a8 n8 c8)).toList) (fun W => RowB W (.slice a7 n7 c7) GQ.1.add ∧ RowN W (.slice a8 n8 c8) GQ.1.drop) (two_nodup hn78) (fun q hq => by
                rcases List.mem_append.1 hq with h | h
                · have h' : ob (.slice a7 n7 c7) = some q := by simpa using h
                  exact ⟨ho7 q h', Row.lt hr7 q h'⟩
                · have h' : ob (.slice a8 n8 c8) = some q := by simpa using h
                  exact ⟨ho8 q h', Row.lt hr8 q h'⟩) ⟨hr7, hr8⟩ (fun A C hk h => ⟨Row.kept h.1 (fun q hq => hk q (by simp [hq])), Row.kept h.2 (fun q hq => hk q (by simp [hq]))⟩))
              have HBLf := Lib.hid (show Below W1.heap.size W1 wf from HBLe.out.trans (hbf.mono HBLe.out.size))
              clear hgv hr7 hr8 ho7 ho8 hn78 CG HKe HBLe hbf
              obtain ⟨Wg, hWg⟩ : ∃ W, wf.alloc (.cells #[.int .i64 GQ.1.log, .int .i64 GQ.1.next, .int .u64 (GQ.1.seq : Int), .slice a7 n7 c7, .slice a8 n8 c8] 55) = W := ⟨_, rfl⟩
              have bg : Below wf.heap.size wf Wg := by rw [← hWg]; exact alloc_b _ _
              have HKg := Lib.hid (HKf.out.more bg [wf.heap.size] (BoxRE wf.heap.size GQ.1.log GQ.1.next GQ.1.seq (.slice a7 n7 c7) (.slice a8 n8 c8)) (by simp) (fun q hq => by simp at hq; rw [hq, ← hWg]; simp) (by rw [← hWg]; exact new_block _ _ rfl) (fun A C hk h => (hk wf.heap.size (by simp)).trans h))
              have HBLg := Lib.hid (show Below W1.heap.size W1 Wg from HBLf.out.trans (bg.mono HBLf.out.size))
              go_upto_region 13 with fail
              try rw [hWg]
              clear hWg bg HKf HBLf
              obtain ⟨A17, hA17⟩ : ∃ A, wf.heap.size = A := ⟨_, rfl⟩
              rw [hA17] at HKg ⊢
              clear hA17
              -- Apply
              obtain ⟨R, er, hRl, hAP⟩ := appV_all ⟨log, next, seq, ts⟩ ⟨elog, enext, eseq, add, drop⟩
              simp only at hRl
              have HAP := Lib.hid hAP
              clear hAP
              have kq := HKg.out.p.1.1.1.2
              have CX : Hid (Calls Tryz.prog 14 #[.agg #[.int .i64 log, .int .i64 next, .int .u64 (seq : Int), .slice (some ⟨g1, 0, none⟩) ts.length (c1 + 1)], .agg #[.int .i64 elog, .int .i64 enext, .int .u64 (eseq : Int), .slice (some ⟨g2, 0, none⟩) add.length (c2 + 1), .slice (some ⟨g3, 0, none⟩) drop.length (c3 + 1)]] Wg fun x w' => ApplyV Wg w' x ⟨log, next, seq, ts⟩ ⟨elog, enext, eseq, add, drop⟩ ∧ Below Wg.heap.size Wg w') := Lib.hid (apply_any ⟨log, next, seq, ts⟩ ⟨elog, enext, eseq, add, drop⟩ _ _ _ Wg kq.t.v kq.a.v kq.d.v (by show ts.length ≤ 10000; omega) (by show add.length ≤ 10000; omega) (by show drop.length ≤ 10000; omega) HK1.out HK2.out HK3.out)
              have d0 := kq.x.c0
              have d1 := kq.x.c1
              have d2 := kq.x.c2
              have d3 := kq.x.c3
              have f0 := kq.y.c0
              have f1 := kq.y.c1
              have f2 := kq.y.c2
              have f3 := kq.y.c3
              have f4 := kq.y.c4
              simp only at d0 d1 d2 d3 f0 f1 f2 f3 f4
              clear kq
              go_wp2_with fail
              go_at_call 14
              (with_reducible refine CX.out.mono ?_)
              rintro _ wh ⟨hav, hbh⟩
              obtain ⟨a9, n9, c9, rfl, hr9, ho9⟩ := HAP.out _ _ _ hav
              have HKh := Lib.hid (HKg.out.rowT hbh hr9 ho9)
              have HBLh := Lib.hid (show Below W1.heap.size W1 wh from HBLg.out.trans (hbh.mono HBLg.out.size))
              clear hav hr9 ho9 CX HKg HBLg hbh d0 d1 d2 d3 f0 f1 f2 f3 f4
              obtain ⟨Wi, hWi⟩ : ∃ W, wh.alloc (.cells #[.int .i64 R.log, .int .i64 R.next, .int .u64 (R.seq : Int), .slice a9 n9 c9] 25) = W := ⟨_, rfl⟩
              have bi : Below wh.heap.size wh Wi := by rw [← hWi]; exact alloc_b _ _
              have HKi := Lib.hid (HKh.out.more bi [wh.heap.size] (BoxV wh.heap.size R.log R.next R.seq (.slice a9 n9 c9)) (by simp) (fun q hq => by simp at hq; rw [hq, ← hWi]; simp) (by rw [← hWi]; exact new_block _ _ rfl) (fun A C hk h => (hk wh.heap.size (by simp)).trans h))
              have HBLi := Lib.hid (show Below W1.heap.size W1 Wi from HBLh.out.trans (bi.mono HBLh.out.size))
              go_upto_region 14 with fail
              try rw [hWi]
              clear hWi bi HKh HBLh
              obtain ⟨A19, hA19⟩ : ∃ A, wh.heap.size = A := ⟨_, rfl⟩
              rw [hA19] at HKi ⊢
              clear hA19
              have hsi := HKi.out.sz
              go_cut [21, 22] from 86 to 93 (fun v21 v22 wx => ∃ (A21 : Nat) (ab : Option Addr) (nb cb : Nat), v21 = .pointer (some ⟨A21, 0, none⟩) ∧ v22 = .int .i64 er ∧ Hid (RowB wx (.slice ab nb cb) R.ts ∧ (∀ q, ob (.slice ab nb cb) = some q → Wi.heap.size ≤ q ∧ q ≠ A21) ∧ Wi.heap.size ≤ A21 ∧ BoxR A21 R.log R.next R.seq (.slice ab nb cb) wx ∧ Below Wi.heap.size Wi wx))
              case first =>
                --BEGIN14
                have HSD := Lib.hid (show ∀ W, Below Wi.heap.size Wi W → SA w ⟨log, next, seq, ts⟩ (.slice ta ts.length tc) ⟨elog, enext, eseq, add, drop⟩ (.slice aa add.length ac) (.slice da drop.length dc) W from fun W h => HSA.out W (HBLi.out.trans (h.mono HBLi.out.size)))
                have HXD := Lib.hid (show ∀ W, Below Wi.heap.size Wi W → W.cell? ⟨w.heap.size, 0, none⟩ = some (.int .i64 log) ∧ W.cell? ⟨w.heap.size, 1, none⟩ = some (.int .i64 next) ∧ W.cell? ⟨w.heap.size, 2, none⟩ = some (.int .u64 (seq : Int)) ∧ W.cell? ⟨w.heap.size, 3, none⟩ = some (.slice ta ts.length tc) ∧ W.cell? ⟨w.heap.size + 1, 0, none⟩ = some (.int .i64 elog) ∧ W.cell? ⟨w.heap.size + 1, 1, none⟩ = some (.int .i64 enext) ∧ W.cell? ⟨w.heap.size + 1, 2, none⟩ = some (.int .u64 (eseq : Int)) ∧ W.cell? ⟨w.heap.size + 1, 3, none⟩ = some (.slice aa add.length ac) ∧ W.cell? ⟨w.heap.size + 1, 4, none⟩ = some (.slice da drop.length dc) from fun W h => ⟨(HSD.out W h).x.c0, (HSD.out W h).x.c1, (HSD.out W h).x.c2, (HSD.out W h).x.c3, (HSD.out W h).y.c0, (HSD.out W h).y.c1, (HSD.out W h).y.c2, (HSD.out W h).y.c3, (HSD.out W h).y.c4⟩)
                have CPV := Lib.hid (fun W => plainV_any log next seq ta ts.length tc W)
                have CPE := Lib.hid (fun W => plainE_any elog enext eseq aa add.length ac da drop.length dc W)
                have HRA := Lib.hid (show ∀ W, Below Wi.heap.size Wi W → Calls Tryz.prog 15 #[.agg #[.int .i64 log, .int .i64 next, .int .u64 (seq : Int), .slice ta ts.length tc], .agg #[.int .i64 elog, .int .i64 enext, .int .u64 (eseq : Int), .slice aa add.length ac, .slice da drop.length dc]] W fun x w' => ∃ ab nb cb, x = .returned (.tuple #[.agg #[.int .i64 R.log, .int .i64 R.next, .int .u64 (R.seq : Int), .slice ab nb cb], .int .i64 er]) ∧ RowB w' (.slice ab nb cb) R.ts ∧ (∀ q, ob (.slice ab nb cb) = some q → W.heap.size ≤ q) ∧ Below W.heap.size W w' from fun W h => by
                  refine (rapply_any ⟨log, next, seq, ts⟩ ⟨elog, enext, eseq, add, drop⟩ _ _ _ W (HSD.out W h).t (HSD.out W h).a (HSD.out W h).d (by show ts.length ≤ 4000; omega) (by show add.length ≤ 4000; omega) (by show drop.length ≤ 10000; omega) (fun t ht => (HK1.out t ht).1) (fun t ht => (HK2.out t ht).1)).mono ?_
                  rintro x w' ⟨hav, hb⟩
                  obtain ⟨ab, nb, cb, hx, h1, h2⟩ := HAP.out _ _ _ hav
                  exact ⟨ab, nb, cb, hx, h1, h2, hb⟩)
                have HBy := Lib.hid (show Below Wi.heap.size Wi Wi.drew from (Below.refl _ _).drew)
                have HBz := Lib.hid (show Below Wi.heap.size Wi (Wi.alloc (.cells #[.int .i64 0, .int .i64 0, .int .u64 0, .slice none 0 0] 63)).drew from ((Below.refl _ _).alloc (Nat.le_refl _) _).drew)
                have u1 : (fun W => W.cell? ⟨w.heap.size, 0, none⟩ = some (.int .i64 log) ∧ W.cell? ⟨w.heap.size, 1, none⟩ = some (.int .i64 next) ∧ W.cell? ⟨w.heap.size, 2, none⟩ = some (.int .u64 (seq : Int)) ∧ W.cell? ⟨w.heap.size, 3, none⟩ = some (.slice ta ts.length tc) ∧ W.cell? ⟨w.heap.size + 1, 0, none⟩ = some (.int .i64 elog) ∧ W.cell? ⟨w.heap.size + 1, 1, none⟩ = some (.int .i64 enext) ∧ W.cell? ⟨w.heap.size + 1, 2, none⟩ = some (.int .u64 (eseq : Int)) ∧ W.cell? ⟨w.heap.size + 1, 3, none⟩ = some (.slice aa add.length ac) ∧ W.cell? ⟨w.heap.size + 1, 4, none⟩ = some (.slice da drop.length dc)) Wi.drew := HXD.out _ HBy.out
                refine wp_region_noPanic ?_
                refine wp_region_held (S := (fun W => W.cell? ⟨w.heap.size, 0, none⟩ = some (.int .i64 log) ∧ W.cell? ⟨w.heap.size, 1, none⟩ = some (.int .i64 next) ∧ W.cell? ⟨w.heap.size, 2, none⟩ = some (.int .u64 (seq : Int)) ∧ W.cell? ⟨w.heap.size, 3, none⟩ = some (.slice ta ts.length tc) ∧ W.cell? ⟨w.heap.size + 1, 0, none⟩ = some (.int .i64 elog) ∧ W.cell? ⟨w.heap.size + 1, 1, none⟩ = some (.int .i64 enext) ∧ W.cell? ⟨w.heap.size + 1, 2, none⟩ = some (.int .u64 (eseq : Int)) ∧ W.cell? ⟨w.heap.size + 1, 3, none⟩ = some (.slice aa add.length ac) ∧ W.cell? ⟨w.heap.size + 1, 4, none⟩ = some (.slice da drop.length dc))) (by kernel_rfl) ?_
                refine wpAnyH_take (i := 0) (v := ?_) rfl (by kernel_rfl) (by kernel_rfl) (by kernel_rfl) (fun _ _ _ h => h) (Or.inl ⟨by rfl, ?_⟩) u1 ?_
                rotate_left
                focus (simp only [List.getElem_toArray, List.getElem_cons_zero]; intro w' hS; obtain ⟨s0, s1, s2, s3, s4, s5, s6, s7, s8⟩ := hS; first | (go_simp; done) | (go_simp; with_reducible rfl))
                simp only [List.getElem_toArray, List.getElem_cons_zero, Act.put, List.setIfInBounds_toArray, List.set_cons_zero, List.set_cons_succ]
                refine wpAnyH_take (i := 2) (v := ?_) rfl (by kernel_rfl) (by kernel_rfl) (by kernel_rfl) (fun _ _ _ h => h) (Or.inl ⟨by rfl, ?_⟩) u1 ?_
                rotate_left
                focus (simp only [List.getElem_toArray, List.getElem_cons_succ, List.getElem_cons_zero]; intro w' hS; obtain ⟨s0, s1, s2, s3, s4, s5, s6, s7, s8⟩ := hS; first | (go_simp; done) | (go_simp; with_reducible rfl))
                simp only [List.getElem_toArray, List.getElem_cons_succ, List.getElem_cons_zero, Act.put, List.setIfInBounds_toArray, List.set_cons_zero, List.set_cons_succ]
                refine wpAnyH_ready (rs := [1, 8]) (by kernel_rfl) (by simp) ?_
                refine AllReadyH.cons rfl (fun K hK => ?_) (AllReadyH.cons rfl (fun K hK => ?_) AllReadyH.nil)
                · skip
                  simp only [List.getElem_toArray, List.getElem_cons_succ, List.getElem_cons_zero]
                  go_simp
                  refine (CPV.out _).mono ?_
                  rintro _ wA ⟨rfl, hb⟩
                  have HBA := Lib.hid (show Below Wi.heap.size Wi wA from (HBy.out).trans (hb.mono (HBy.out).size))
                  clear hb
                  dsimp only
                  refine hK.out _ _ (HXD.out _ HBA.out) (fun _ => ?_)
                  try simp only [List.getElem_toArray, List.getElem_cons_succ, List.getElem_cons_zero, Act.put, List.setIfInBounds_toArray, List.set_cons_zero, List.set_cons_succ]
                  refine wpAnyH_ready (rs := [3, 8]) (by kernel_rfl) (by simp) ?_
                  refine AllReadyH.cons rfl (fun K hK => ?_) (AllReadyH.cons rfl (fun K hK => ?_) AllReadyH.nil)
                  · skip
                    simp only [List.getElem_toArray, List.getElem_cons_succ, List.getElem_cons_zero]
                    go_simp
                    refine (CPE.out _).mono ?_
                    rintro _ wB ⟨rfl, hb⟩
                    have HBB := Lib.hid (show Below Wi.heap.size Wi wB from (HBA.out).trans (hb.mono (HBA.out).size))
                    clear hb
                    dsimp only
                    refine hK.out _ _ (HXD.out _ HBB.out) (fun _ => ?_)
                    try simp only [List.getElem_toArray, List.getElem_cons_succ, List.getElem_cons_zero, Act.put, List.setIfInBounds_toArray, List.set_cons_zero, List.set_cons_succ]
                    refine wpAnyH_ready (rs := [4, 8]) (by kernel_rfl) (by simp) ?_
                    refine AllReadyH.cons rfl (fun K hK => ?_) (AllReadyH.cons rfl (fun K hK => ?_) AllReadyH.nil)
                    · skip
                      simp only [List.getElem_toArray, List.getElem_cons_succ, List.getElem_cons_zero]
                      go_simp
                      refine (HRA.out _ HBB.out).mono ?_
                      rintro _ wC ⟨ab, nb, cb, rfl, hr, ho, hb⟩
                      have HBo := Lib.hid (show Below Wi.heap.size Wi wC from (HBB.out).trans (hb.mono (HBB.out).size))
                      have HRo := Lib.hid hr
                      have HOo := Lib.hid (show ∀ q, ob (.slice ab nb cb) = some q → Wi.heap.size ≤ q from fun q hq => Nat.le_trans (HBB.out).size (ho q hq))
                      clear hr ho hb
                      have u9 := HXD.out _ HBo.out
                      dsimp only
                      refine hK.out _ _ u9 (fun _ => ?_)
                      try simp only [List.getElem_toArray, List.getElem_cons_succ, List.getElem_cons_zero, Act.put, List.setIfInBounds_toArray, List.set_cons_zero, List.set_cons_succ]
                      refine wpAnyH_take (i := 5) (v := ?_) rfl (by kernel_rfl) (by kernel_rfl) (by kernel_rfl) (fun _ _ _ h => h) (Or.inl ⟨by rfl, ?_⟩) u9 ?_
                      rotate_left
                      focus (simp only [List.getElem_toArray, List.getElem_cons_succ, List.getElem_cons_zero]; intro w' hS; obtain ⟨s0, s1, s2, s3, s4, s5, s6, s7, s8⟩ := hS; first | (go_simp; done) | (go_simp; with_reducible rfl))
                      simp only [List.getElem_toArray, List.getElem_cons_succ, List.getElem_cons_zero, Act.put, List.setIfInBounds_toArray, List.set_cons_zero, List.set_cons_succ]
                      refine wpAnyH_take (i := 6) (v := ?_) rfl (by kernel_rfl) (by kernel_rfl) (by kernel_rfl) (fun _ _ _ h => h) (Or.inl ⟨by rfl, ?_⟩) u9 ?_
                      rotate_left
                      focus (simp only [List.getElem_toArray, List.getElem_cons_succ, List.getElem_cons_zero]; intro w' hS; obtain ⟨s0, s1, s2, s3, s4, s5, s6, s7, s8⟩ := hS; first | (go_simp; done) | (go_simp; with_reducible rfl))
                      simp only [List.getElem_toArray, List.getElem_cons_succ, List.getElem_cons_zero, Act.put, List.setIfInBounds_toArray, List.set_cons_zero, List.set_cons_succ]
                      refine wpAnyH_take (i := 7) (v := ?_) rfl (by kernel_rfl) (by kernel_rfl) (by kernel_rfl) (fun _ _ _ h => h) (Or.inl ⟨by rfl, ?_⟩) u9 ?_
                      rotate_left
                      focus (simp only [List.getElem_toArray, List.getElem_cons_succ, List.getElem_cons_zero]; intro w' hS; obtain ⟨s0, s1, s2, s3, s4, s5, s6, s7, s8⟩ := hS; first | (go_simp; done) | (go_simp; with_reducible rfl))
                      simp only [List.getElem_toArray, List.getElem_cons_succ, List.getElem_cons_zero, Act.put, List.setIfInBounds_toArray, List.set_cons_zero, List.set_cons_succ]
                      refine wpAnyH_ready (rs := [8]) (by kernel_rfl) (by simp) ?_
                      refine AllReadyH.cons rfl (fun K hK => ?_) AllReadyH.nil
                      simp only [List.getElem_toArray, List.getElem_cons_succ, List.getElem_cons_zero]
                      go_simp
                      refine hK.out _ _ (HXD.out _ (HBo.out.alloc HBo.out.size _)) (fun _ => ?_)
                      try simp only [List.getElem_toArray, List.getElem_cons_succ, List.getElem_cons_zero, Act.put, List.setIfInBounds_toArray, List.set_cons_zero, List.set_cons_succ]
                      have HZn := Lib.hid (show BoxR wC.heap.size 0 0 0 (.slice none 0 0) (wC.alloc (.cells #[.int .i64 0, .int .i64 0, .int .u64 0, .slice none 0 0] 63)) from new_block _ _ rfl)
                      refine wpAnyH_ready (rs := [9]) (by kernel_rfl) (by simp) ?_
                      refine AllReadyH.cons rfl (fun K hK => ?_) AllReadyH.nil
                      simp only [List.getElem_toArray, List.getElem_cons_succ, List.getElem_cons_zero]
                      go_simp
                      refine hK.out _ _ (by first | exact HXD.out _ (below_set4 (HBo.out.alloc HBo.out.size _) _ HBo.out.size _ _ _ _) | exact HXD.out _ (HBo.out.alloc HBo.out.size _)) (fun u8 => ?_)
                      try simp only [List.getElem_toArray, List.getElem_cons_succ, List.getElem_cons_zero, Act.put, List.setIfInBounds_toArray, List.set_cons_zero, List.set_cons_succ]
                      refine wpAnyH_take (i := 10) (v := ?_) rfl (by kernel_rfl) (by kernel_rfl) (by kernel_rfl) (fun _ _ _ h => h) (Or.inl ⟨by rfl, ?_⟩) u8 ?_
                      rotate_left
                      focus (simp only [List.getElem_toArray, List.getElem_cons_succ, List.getElem_cons_zero]; intro w' hS; obtain ⟨s0, s1, s2, s3, s4, s5, s6, s7, s8⟩ := hS; first | (go_simp; done) | (go_simp; with_reducible rfl))
                      simp only [List.getElem_toArray, List.getElem_cons_succ, List.getElem_cons_zero, Act.put, List.setIfInBounds_toArray, List.set_cons_zero, List.set_cons_succ]
                      refine wpAnyH_done (by kernel_rfl) ?_ _
                      refine NoPanic.normal ?_
                      go_wp2_with fail
                      go_meet
                      have hlt : ∀ q, ob (.slice ab nb cb) = some q → q ≠ wC.heap.size := fun q hq => by have := Row.lt HRo.out q hq; omega
                      first
                        | exact ⟨wC.heap.size, ab, nb, cb, rfl, rfl, Lib.hid ⟨rowT_new HRo.out _, fun q hq => ⟨HOo.out q hq, hlt q hq⟩, HBo.out.size, new_block _ _ rfl, HBo.out.alloc HBo.out.size _⟩⟩
                        | exact ⟨wC.heap.size, ab, nb, cb, rfl, rfl, Lib.hid ⟨Row.kept (rowT_new HRo.out _) (fun q hq => block_set4 _ _ _ _ _ _ q (hlt q hq)), fun q hq => ⟨HOo.out q hq, hlt q hq⟩, HBo.out.size, BoxR.set4 HZn.out R.log R.next R.seq _, below_set4 (HBo.out.alloc HBo.out.size _) _ HBo.out.size _ _ _ _⟩⟩
                    · skip
                      simp only [List.getElem_toArray, List.getElem_cons_succ, List.getElem_cons_zero]
                      go_simp
                      refine hK.out _ _ (HXD.out _ (HBB.out.alloc HBB.out.size _)) (fun _ => ?_)
                      try simp only [List.getElem_toArray, List.getElem_cons_succ, List.getElem_cons_zero, Act.put, List.setIfInBounds_toArray, List.set_cons_zero, List.set_cons_succ]
                      have HZ0 := Lib.hid (show BoxR wB.heap.size 0 0 0 (.slice none 0 0) (wB.alloc (.cells #[.int .i64 0, .int .i64 0, .int .u64 0, .slice none 0 0] 63)) from new_block wB _ rfl)
                      have HXn := Lib.hid (show Wi.heap.size ≤ wB.heap.size from HBB.out.size)
                      have HBm := Lib.hid (show Below Wi.heap.size Wi (wB.alloc (.cells #[.int .i64 0, .int .i64 0, .int .u64 0, .slice none 0 0] 63)) from HBB.out.alloc HBB.out.size _)
                      refine wpAnyH_ready (rs := [4]) (by kernel_rfl) (by simp) ?_
                      refine AllReadyH.cons rfl (fun K hK => ?_) AllReadyH.nil
                      simp only [List.getElem_toArray, List.getElem_cons_succ, List.getElem_cons_zero]
                      go_simp
                      refine (HRA.out _ HBm.out).mono ?_
                      rintro _ wC ⟨ab, nb, cb, rfl, hr, ho, hb⟩
                      have HBo := Lib.hid (show Below Wi.heap.size Wi wC from (HBm.out).trans (hb.mono (HBm.out).size))
                      have HZn := Lib.hid (HZ0.out.below hb)
                      have HOp := Lib.hid (show ∀ q, ob (.slice ab nb cb) = some q → wB.heap.size < q from fun q hq => by have h1 := ho q hq; have h2 := HZ0.out.lt; omega)
                      have HRo := Lib.hid hr
                      have HOo := Lib.hid (show ∀ q, ob (.slice ab nb cb) = some q → Wi.heap.size ≤ q from fun q hq => Nat.le_trans (HBm.out).size (ho q hq))
                      clear hr ho hb
                      have u9 := HXD.out _ HBo.out
                      dsimp only
                      refine hK.out _ _ u9 (fun _ => ?_)
                      try simp only [List.getElem_toArray, List.getElem_cons_succ, List.getElem_cons_zero, Act.put, List.setIfInBounds_toArray, List.set_cons_zero, List.set_cons_succ]
                      refine wpAnyH_take (i := 5) (v := ?_) rfl (by kernel_rfl) (by kernel_rfl) (by kernel_rfl) (fun _ _ _ h => h) (Or.inl ⟨by rfl, ?_⟩) u9 ?_
                      rotate_left
                      focus (simp only [List.getElem_toArray, List.getElem_cons_succ, List.getElem_cons_zero]; intro w' hS; obtain ⟨s0, s1, s2, s3, s4, s5, s6, s7, s8⟩ := hS; first | (go_simp; done) | (go_simp; with_reducible rfl))
                      simp only [List.getElem_toArray, List.getElem_cons_succ, List.getElem_cons_zero, Act.put, List.setIfInBounds_toArray, List.set_cons_zero, List.set_cons_succ]
                      refine wpAnyH_take (i := 6) (v := ?_) rfl (by kernel_rfl) (by kernel_rfl) (by kernel_rfl) (fun _ _ _ h => h) (Or.inl ⟨by rfl, ?_⟩) u9 ?_
                      rotate_left
                      focus (simp only [List.getElem_toArray, List.getElem_cons_succ, List.getElem_cons_zero]; intro w' hS; obtain ⟨s0, s1, s2, s3, s4, s5, s6, s7, s8⟩ := hS; first | (go_simp; done) | (go_simp; with_reducible rfl))
                      simp only [List.getElem_toArray, List.getElem_cons_succ, List.getElem_cons_zero, Act.put, List.setIfInBounds_toArray, List.set_cons_zero, List.set_cons_succ]
                      refine wpAnyH_take (i := 7) (v := ?_) rfl (by kernel_rfl) (by kernel_rfl) (by kernel_rfl) (fun _ _ _ h => h) (Or.inl ⟨by rfl, ?_⟩) u9 ?_
                      rotate_left
                      focus (simp only [List.getElem_toArray, List.getElem_cons_succ, List.getElem_cons_zero]; intro w' hS; obtain ⟨s0, s1, s2, s3, s4, s5, s6, s7, s8⟩ := hS; first | (go_simp; done) | (go_simp; with_reducible rfl))
                      simp only [List.getElem_toArray, List.getElem_cons_succ, List.getElem_cons_zero, Act.put, List.setIfInBounds_toArray, List.set_cons_zero, List.set_cons_succ]
                      have t0 := HZn.out.c0
                      have t1 := HZn.out.c1
                      have t2 := HZn.out.c2
                      have t3 := HZn.out.c3
                      have t4 := HZn.out.f 0
                      have t5 := HZn.out.f 1
                      have t6 := HZn.out.f 2
                      have t7 := HZn.out.f 3
                      refine wpAnyH_ready (rs := [9]) (by kernel_rfl) (by simp) ?_
                      refine AllReadyH.cons rfl (fun K hK => ?_) AllReadyH.nil
                      simp only [List.getElem_toArray, List.getElem_cons_succ, List.getElem_cons_zero]
                      go_simp
                      refine hK.out _ _ (HXD.out _ (below_set4 HBo.out _ HXn.out _ _ _ _)) (fun u8 => ?_)
                      try simp only [List.getElem_toArray, List.getElem_cons_succ, List.getElem_cons_zero, Act.put, List.setIfInBounds_toArray, List.set_cons_zero, List.set_cons_succ]
                      refine wpAnyH_take (i := 10) (v := ?_) rfl (by kernel_rfl) (by kernel_rfl) (by kernel_rfl) (fun _ _ _ h => h) (Or.inl ⟨by rfl, ?_⟩) u8 ?_
                      rotate_left
                      focus (simp only [List.getElem_toArray, List.getElem_cons_succ, List.getElem_cons_zero]; intro w' hS; obtain ⟨s0, s1, s2, s3, s4, s5, s6, s7, s8⟩ := hS; first | (go_simp; done) | (go_simp; with_reducible rfl))
                      simp only [List.getElem_toArray, List.getElem_cons_succ, List.getElem_cons_zero, Act.put, List.setIfInBounds_toArray, List.set_cons_zero, List.set_cons_succ]
                      refine wpAnyH_done (by kernel_rfl) ?_ _
                      refine NoPanic.normal ?_
                      go_wp2_with fail
                      go_meet
                      have hlt : ∀ q, ob (.slice ab nb cb) = some q → q ≠ wB.heap.size := fun q hq => by have h1 := HOp.out q hq; omega
                      exact ⟨wB.heap.size, ab, nb, cb, rfl, rfl, Lib.hid ⟨Row.kept HRo.out (fun q hq => block_set4 _ _ _ _ _ _ q (hlt q hq)), fun q hq => ⟨HOo.out q hq, hlt q hq⟩, HXn.out, BoxR.set4 HZn.out R.log R.next R.seq _, below_set4 HBo.out _ HXn.out _ _ _ _⟩⟩
                  · skip
                    simp only [List.getElem_toArray, List.getElem_cons_succ, List.getElem_cons_zero]
                    go_simp
                    refine hK.out _ _ (HXD.out _ (HBA.out.alloc HBA.out.size _)) (fun _ => ?_)
                    try simp only [List.getElem_toArray, List.getElem_cons_succ, List.getElem_cons_zero, Act.put, List.setIfInBounds_toArray, List.set_cons_zero, List.set_cons_succ]
                    have HZ0 := Lib.hid (show BoxR wA.heap.size 0 0 0 (.slice none 0 0) (wA.alloc (.cells #[.int .i64 0, .int .i64 0, .int .u64 0, .slice none 0 0] 63)) from new_block wA _ rfl)
                    have HXn := Lib.hid (show Wi.heap.size ≤ wA.heap.size from HBA.out.size)
                    have HBm := Lib.hid (show Below Wi.heap.size Wi (wA.alloc (.cells #[.int .i64 0, .int .i64 0, .int .u64 0, .slice none 0 0] 63)) from HBA.out.alloc HBA.out.size _)
                    refine wpAnyH_ready (rs := [3]) (by kernel_rfl) (by simp) ?_
                    refine AllReadyH.cons rfl (fun K hK => ?_) AllReadyH.nil
                    simp only [List.getElem_toArray, List.getElem_cons_succ, List.getElem_cons_zero]
                    go_simp
                    refine (CPE.out _).mono ?_
                    rintro _ wB ⟨rfl, hb⟩
                    have HBB := Lib.hid (show Below Wi.heap.size Wi wB from (HBm.out).trans (hb.mono (HBm.out).size))
                    have HZB := Lib.hid (HZ0.out.below hb)
                    clear hb
                    dsimp only
                    refine hK.out _ _ (HXD.out _ HBB.out) (fun _ => ?_)
                    try simp only [List.getElem_toArray, List.getElem_cons_succ, List.getElem_cons_zero, Act.put, List.setIfInBounds_toArray, List.set_cons_zero, List.set_cons_succ]
                    refine wpAnyH_ready (rs := [4]) (by kernel_rfl) (by simp) ?_
                    refine AllReadyH.cons rfl (fun K hK => ?_) AllReadyH.nil
                    simp only [List.getElem_toArray, List.getElem_cons_succ, List.getElem_cons_zero]
                    go_simp
                    refine (HRA.out _ HBB.out).mono ?_
                    rintro _ wC ⟨ab, nb, cb, rfl, hr, ho, hb⟩
                    have HBo := Lib.hid (show Below Wi.heap.size Wi wC from (HBB.out).trans (hb.mono (HBB.out).size))
                    have HZn := Lib.hid (HZB.out.below hb)
                    have HOp := Lib.hid (show ∀ q, ob (.slice ab nb cb) = some q → wA.heap.size < q from fun q hq => by have h1 := ho q hq; have h2 := HZB.out.lt; omega)
                    have HRo := Lib.hid hr
                    have HOo := Lib.hid (show ∀ q, ob (.slice ab nb cb) = some q → Wi.heap.size ≤ q from fun q hq => Nat.le_trans (HBB.out).size (ho q hq))
                    clear hr ho hb
                    have u9 := HXD.out _ HBo.out
                    dsimp only
                    refine hK.out _ _ u9 (fun _ => ?_)
                    try simp only [List.getElem_toArray, List.getElem_cons_succ, List.getElem_cons_zero, Act.put, List.setIfInBounds_toArray, List.set_cons_zero, List.set_cons_succ]
                    refine wpAnyH_take (i := 5) (v := ?_) rfl (by kernel_rfl) (by kernel_rfl) (by kernel_rfl) (fun _ _ _ h => h) (Or.inl ⟨by rfl, ?_⟩) u9 ?_
                    rotate_left
                    focus (simp only [List.getElem_toArray, List.getElem_cons_succ, List.getElem_cons_zero]; intro w' hS; obtain ⟨s0, s1, s2, s3, s4, s5, s6, s7, s8⟩ := hS; first | (go_simp; done) | (go_simp; with_reducible rfl))
                    simp only [List.getElem_toArray, List.getElem_cons_succ, List.getElem_cons_zero, Act.put, List.setIfInBounds_toArray, List.set_cons_zero, List.set_cons_succ]
                    refine wpAnyH_take (i := 6) (v := ?_) rfl (by kernel_rfl) (by kernel_rfl) (by kernel_rfl) (fun _ _ _ h => h) (Or.inl ⟨by rfl, ?_⟩) u9 ?_
                    rotate_left
                    focus (simp only [List.getElem_toArray, List.getElem_cons_succ, List.getElem_cons_zero]; intro w' hS; obtain ⟨s0, s1, s2, s3, s4, s5, s6, s7, s8⟩ := hS; first | (go_simp; done) | (go_simp; with_reducible rfl))
                    simp only [List.getElem_toArray, List.getElem_cons_succ, List.getElem_cons_zero, Act.put, List.setIfInBounds_toArray, List.set_cons_zero, List.set_cons_succ]
                    refine wpAnyH_take (i := 7) (v := ?_) rfl (by kernel_rfl) (by kernel_rfl) (by kernel_rfl) (fun _ _ _ h => h) (Or.inl ⟨by rfl, ?_⟩) u9 ?_
                    rotate_left
                    focus (simp only [List.getElem_toArray, List.getElem_cons_succ, List.getElem_cons_zero]; intro w' hS; obtain ⟨s0, s1, s2, s3, s4, s5, s6, s7, s8⟩ := hS; first | (go_simp; done) | (go_simp; with_reducible rfl))
                    simp only [List.getElem_toArray, List.getElem_cons_succ, List.getElem_cons_zero, Act.put, List.setIfInBounds_toArray, List.set_cons_zero, List.set_cons_succ]
                    have t0 := HZn.out.c0
                    have t1 := HZn.out.c1
                    have t2 := HZn.out.c2
                    have t3 := HZn.out.c3
                    have t4 := HZn.out.f 0
                    have t5 := HZn.out.f 1
                    have t6 := HZn.out.f 2
                    have t7 := HZn.out.f 3
                    refine wpAnyH_ready (rs := [9]) (by kernel_rfl) (by simp) ?_
                    refine AllReadyH.cons rfl (fun K hK => ?_) AllReadyH.nil
                    simp only [List.getElem_toArray, List.getElem_cons_succ, List.getElem_cons_zero]
                    go_simp
                    refine hK.out _ _ (HXD.out _ (below_set4 HBo.out _ HXn.out _ _ _ _)) (fun u8 => ?_)
                    try simp only [List.getElem_toArray, List.getElem_cons_succ, List.getElem_cons_zero, Act.put, List.setIfInBounds_toArray, List.set_cons_zero, List.set_cons_succ]
                    refine wpAnyH_take (i := 10) (v := ?_) rfl (by kernel_rfl) (by kernel_rfl) (by kernel_rfl) (fun _ _ _ h => h) (Or.inl ⟨by rfl, ?_⟩) u8 ?_
                    rotate_left
                    focus (simp only [List.getElem_toArray, List.getElem_cons_succ, List.getElem_cons_zero]; intro w' hS; obtain ⟨s0, s1, s2, s3, s4, s5, s6, s7, s8⟩ := hS; first | (go_simp; done) | (go_simp; with_reducible rfl))
                    simp only [List.getElem_toArray, List.getElem_cons_succ, List.getElem_cons_zero, Act.put, List.setIfInBounds_toArray, List.set_cons_zero, List.set_cons_succ]
                    refine wpAnyH_done (by kernel_rfl) ?_ _
                    refine NoPanic.normal ?_
                    go_wp2_with fail
                    go_meet
                    have hlt : ∀ q, ob (.slice ab nb cb) = some q → q ≠ wA.heap.size := fun q hq => by have h1 := HOp.out q hq; omega
                    exact ⟨wA.heap.size, ab, nb, cb, rfl, rfl, Lib.hid ⟨Row.kept HRo.out (fun q hq => block_set4 _ _ _ _ _ _ q (hlt q hq)), fun q hq => ⟨HOo.out q hq, hlt q hq⟩, HXn.out, BoxR.set4 HZn.out R.log R.next R.seq _, below_set4 HBo.out _ HXn.out _ _ _ _⟩⟩
                · skip
                  simp only [List.getElem_toArray, List.getElem_cons_succ, List.getElem_cons_zero]
                  go_simp
                  refine hK.out _ _ (HXD.out _ HBz.out) (fun _ => ?_)
                  try simp only [List.getElem_toArray, List.getElem_cons_succ, List.getElem_cons_zero, Act.put, List.setIfInBounds_toArray, List.set_cons_zero, List.set_cons_succ]
                  have HZ0 := Lib.hid (show BoxR Wi.heap.size 0 0 0 (.slice none 0 0) (Wi.alloc (.cells #[.int .i64 0, .int .i64 0, .int .u64 0, .slice none 0 0] 63)).drew from new_block Wi _ rfl)
                  have HXn := Lib.hid (show Wi.heap.size ≤ Wi.heap.size from Nat.le_refl _)
                  have HBm := Lib.hid (show Below Wi.heap.size Wi (Wi.alloc (.cells #[.int .i64 0, .int .i64 0, .int .u64 0, .slice none 0 0] 63)).drew from HBz.out)
                  refine wpAnyH_ready (rs := [1]) (by kernel_rfl) (by simp) ?_
                  refine AllReadyH.cons rfl (fun K hK => ?_) AllReadyH.nil
                  simp only [List.getElem_toArray, List.getElem_cons_succ, List.getElem_cons_zero]
                  go_simp
                  refine (CPV.out _).mono ?_
                  rintro _ wA ⟨rfl, hb⟩
                  have HBA := Lib.hid (show Below Wi.heap.size Wi wA from (HBm.out).trans (hb.mono (HBm.out).size))
                  have HZA := Lib.hid (HZ0.out.below hb)
                  clear hb
                  dsimp only
                  refine hK.out _ _ (HXD.out _ HBA.out) (fun _ => ?_)
                  try simp only [List.getElem_toArray, List.getElem_cons_succ, List.getElem_cons_zero, Act.put, List.setIfInBounds_toArray, List.set_cons_zero, List.set_cons_succ]
                  refine wpAnyH_ready (rs := [3]) (by kernel_rfl) (by simp) ?_
                  refine AllReadyH.cons rfl (fun K hK => ?_) AllReadyH.nil
                  simp only [List.getElem_toArray, List.getElem_cons_succ, List.getElem_cons_zero]
                  go_simp
                  refine (CPE.out _).mono ?_
                  rintro _ wB ⟨rfl, hb⟩
                  have HBB := Lib.hid (show Below Wi.heap.size Wi wB from (HBA.out).trans (hb.mono (HBA.out).size))
                  have HZB := Lib.hid (HZA.out.below hb)
                  clear hb
                  dsimp only
                  refine hK.out _ _ (HXD.out _ HBB.out) (fun _ => ?_)
                  try simp only [List.getElem_toArray, List.getElem_cons_succ, List.getElem_cons_zero, Act.put, List.setIfInBounds_toArray, List.set_cons_zero, List.set_cons_succ]
                  refine wpAnyH_ready (rs := [4]) (by kernel_rfl) (by simp) ?_
                  refine AllReadyH.cons rfl (fun K hK => ?_) AllReadyH.nil
                  simp only [List.getElem_toArray, List.getElem_cons_succ, List.getElem_cons_zero]
                  go_simp
                  refine (HRA.out _ HBB.out).mono ?_
                  rintro _ wC ⟨ab, nb, cb, rfl, hr, ho, hb⟩
                  have HBo := Lib.hid (show Below Wi.heap.size Wi wC from (HBB.out).trans (hb.mono (HBB.out).size))
                  have HZn := Lib.hid (HZB.out.below hb)
                  have HOp := Lib.hid (show ∀ q, ob (.slice ab nb cb) = some q → Wi.heap.size < q from fun q hq => by have h1 := ho q hq; have h2 := HZB.out.lt; omega)
                  have HRo := Lib.hid hr
                  have HOo := Lib.hid (show ∀ q, ob (.slice ab nb cb) = some q → Wi.heap.size ≤ q from fun q hq => Nat.le_trans (HBB.out).size (ho q hq))
                  clear hr ho hb
                  have u9 := HXD.out _ HBo.out
                  dsimp only
                  refine hK.out _ _ u9 (fun _ => ?_)
                  try simp only [List.getElem_toArray, List.getElem_cons_succ, List.getElem_cons_zero, Act.put, List.setIfInBounds_toArray, List.set_cons_zero, List.set_cons_succ]
                  refine wpAnyH_take (i := 5) (v := ?_) rfl (by kernel_rfl) (by kernel_rfl) (by kernel_rfl) (fun _ _ _ h => h) (Or.inl ⟨by rfl, ?_⟩) u9 ?_
                  rotate_left
                  focus (simp only [List.getElem_toArray, List.getElem_cons_succ, List.getElem_cons_zero]; intro w' hS; obtain ⟨s0, s1, s2, s3, s4, s5, s6, s7, s8⟩ := hS; first | (go_simp; done) | (go_simp; with_reducible rfl))
                  simp only [List.getElem_toArray, List.getElem_cons_succ, List.getElem_cons_zero, Act.put, List.setIfInBounds_toArray, List.set_cons_zero, List.set_cons_succ]
                  refine wpAnyH_take (i := 6) (v := ?_) rfl (by kernel_rfl) (by kernel_rfl) (by kernel_rfl) (fun _ _ _ h => h) (Or.inl ⟨by rfl, ?_⟩) u9 ?_
                  rotate_left
                  focus (simp only [List.getElem_toArray, List.getElem_cons_succ, List.getElem_cons_zero]; intro w' hS; obtain ⟨s0, s1, s2, s3, s4, s5, s6, s7, s8⟩ := hS; first | (go_simp; done) | (go_simp; with_reducible rfl))
                  simp only [List.getElem_toArray, List.getElem_cons_succ, List.getElem_cons_zero, Act.put, List.setIfInBounds_toArray, List.set_cons_zero, List.set_cons_succ]
                  refine wpAnyH_take (i := 7) (v := ?_) rfl (by kernel_rfl) (by kernel_rfl) (by kernel_rfl) (fun _ _ _ h => h) (Or.inl ⟨by rfl, ?_⟩) u9 ?_
                  rotate_left
                  focus (simp only [List.getElem_toArray, List.getElem_cons_succ, List.getElem_cons_zero]; intro w' hS; obtain ⟨s0, s1, s2, s3, s4, s5, s6, s7, s8⟩ := hS; first | (go_simp; done) | (go_simp; with_reducible rfl))
                  simp only [List.getElem_toArray, List.getElem_cons_succ, List.getElem_cons_zero, Act.put, List.setIfInBounds_toArray, List.set_cons_zero, List.set_cons_succ]
                  have t0 := HZn.out.c0
                  have t1 := HZn.out.c1
                  have t2 := HZn.out.c2
                  have t3 := HZn.out.c3
                  have t4 := HZn.out.f 0
                  have t5 := HZn.out.f 1
                  have t6 := HZn.out.f 2
                  have t7 := HZn.out.f 3
                  refine wpAnyH_ready (rs := [9]) (by kernel_rfl) (by simp) ?_
                  refine AllReadyH.cons rfl (fun K hK => ?_) AllReadyH.nil
                  simp only [List.getElem_toArray, List.getElem_cons_succ, List.getElem_cons_zero]
                  go_simp
                  refine hK.out _ _ (HXD.out _ (below_set4 HBo.out _ HXn.out _ _ _ _)) (fun u8 => ?_)
                  try simp only [List.getElem_toArray, List.getElem_cons_succ, List.getElem_cons_zero, Act.put, List.setIfInBounds_toArray, List.set_cons_zero, List.set_cons_succ]
                  refine wpAnyH_take (i := 10) (v := ?_) rfl (by kernel_rfl) (by kernel_rfl) (by kernel_rfl) (fun _ _ _ h => h) (Or.inl ⟨by rfl, ?_⟩) u8 ?_
                  rotate_left
                  focus (simp only [List.getElem_toArray, List.getElem_cons_succ, List.getElem_cons_zero]; intro w' hS; obtain ⟨s0, s1, s2, s3, s4, s5, s6, s7, s8⟩ := hS; first | (go_simp; done) | (go_simp; with_reducible rfl))
                  simp only [List.getElem_toArray, List.getElem_cons_succ, List.getElem_cons_zero, Act.put, List.setIfInBounds_toArray, List.set_cons_zero, List.set_cons_succ]
                  refine wpAnyH_done (by kernel_rfl) ?_ _
                  refine NoPanic.normal ?_
                  go_wp2_with fail
                  go_meet
                  have hlt : ∀ q, ob (.slice ab nb cb) = some q → q ≠ Wi.heap.size := fun q hq => by have h1 := HOp.out q hq; omega
                  exact ⟨Wi.heap.size, ab, nb, cb, rfl, rfl, Lib.hid ⟨Row.kept HRo.out (fun q hq => block_set4 _ _ _ _ _ _ q (hlt q hq)), fun q hq => ⟨HOo.out q hq, hlt q hq⟩, HXn.out, BoxR.set4 HZn.out R.log R.next R.seq _, below_set4 HBo.out _ HXn.out _ _ _ _⟩⟩
                --END14
              case rest =>
                obtain ⟨A21, ab, nb, cb, rfl, rfl, HRB⟩ := hcut
                obtain ⟨hrb, hob, hA21, hbx, hbi⟩ := HRB.out
                have HKj := Lib.hid (HKi.out.more hbi (A21 :: (ob (.slice ab nb cb)).toList) (fun W => BoxR A21 R.log R.next R.seq (.slice ab nb cb) W ∧ RowB W (.slice ab nb cb) R.ts) (by
                  refine List.nodup_cons.2 ⟨fun hq => ?_, by cases ob (.slice ab nb cb) <;> simp⟩
                  exact (hob A21 (by simpa using hq)).2 rfl) (fun q hq => by
                  rcases List.mem_cons.1 hq with h | h
                  · rw [h]; exact ⟨hA21, hbx.lt⟩
                  · have h' : ob (.slice ab nb cb) = some q := by simpa using h
                    exact ⟨(hob q h').1, Row.lt hrb q h'⟩) ⟨hbx, hrb⟩ (fun A C hk h => ⟨(hk A21 (by simp)).trans h.1, Row.kept h.2 (fun q hq => hk q (by simp [hq]))⟩))
                have HBLj := Lib.hid (show Below W1.heap.size W1 wc from HBLi.out.trans (hbi.mono HBLi.out.size))
                clear HRB hrb hob hA21 hbx hbi HKi HBLi hsi
                -- Whole
                have kq := HKj.out.p.1.1.1.1.1.2
                have CW : Hid (Calls Tryz.prog 17 #[.agg #[.int .i64 log, .int .i64 next, .int .u64 (seq : Int), .slice (some ⟨g1, 0, none⟩) ts.length (c1 + 1)]] wc fun x w' => ∃ r, x = .returned (.agg #[.int .i64 log, .int .i64 next, .int .u64 (seq : Int), r, .slice none 0 0]) ∧ RowB w' r ts ∧ (∀ k, ob r = some k → wc.heap.size ≤ k) ∧ Below wc.heap.size wc w') := Lib.hid (whole_any ⟨log, next, seq, ts⟩ _ wc kq.t.v (by show ts.length ≤ 10000; omega) (fun t ht => (HK1.out t ht).2))
                have d0 := kq.x.c0
                have d1 := kq.x.c1
                have d2 := kq.x.c2
                have d3 := kq.x.c3
                simp only at d0 d1 d2 d3
                clear kq
                go_wp2_with fail
                go_at_call 17
                (with_reducible refine CW.out.mono ?_)
                rintro _ wk ⟨r23, rfl, hr23, ho23, hbk⟩
                obtain ⟨az, cz, rfl⟩ := hr23.short
                have HKk := Lib.hid (HKj.out.rowT hbk hr23 ho23)
                have HBLk := Lib.hid (show Below W1.heap.size W1 wk from HBLj.out.trans (hbk.mono HBLj.out.size))
                clear hr23 ho23 CW HKj HBLj hbk d0 d1 d2 d3
                obtain ⟨Wl, hWl⟩ : ∃ W, wk.alloc (.cells #[.int .i64 log, .int .i64 next, .int .u64 (seq : Int), .slice az ts.length cz, .slice none 0 0] 28) = W := ⟨_, rfl⟩
                have bl : Below wk.heap.size wk Wl := by rw [← hWl]; exact alloc_b _ _
                have HKl := Lib.hid (HKk.out.more bl [wk.heap.size] (BoxEd wk.heap.size log next seq (.slice az ts.length cz) (.slice none 0 0)) (by simp) (fun q hq => by simp at hq; rw [hq, ← hWl]; simp) (by rw [← hWl]; exact new_block _ _ rfl) (fun A C hk h => (hk wk.heap.size (by simp)).trans h))
                have HBLl := Lib.hid (show Below W1.heap.size W1 Wl from HBLk.out.trans (bl.mono HBLk.out.size))
                have HWl := Lib.hid hWl
                clear hWl
                go_upto_region 16 with fail
                rw [HWl.out]
                clear HWl bl HKk HBLk
                obtain ⟨A23, hA23⟩ : ∃ A, wk.heap.size = A := ⟨_, rfl⟩
                rw [hA23] at HKl ⊢
                clear hA23
                have k15 := HKl.out.p.1.1.1.1.1.2
                have e3 := k15.c3
                clear k15
                have CB1 := Lib.hid (St12.addT (A := [(.slice az ts.length cz, ts.map elT), (.slice a9 n9 c9, R.ts.map elT)]) (C := []) (v := .slice a5 n5 c5) (zs := GQ.1.add.map elT) HKl.out (by rw [List.length_map]; have := HGL.out.1; omega))
                go_wp2_with fail
                go_at_call 18
                (with_reducible refine CB1.out.mono ?_)
                rintro _ wm ⟨rfl, hkm, hbm⟩
                have HKm := Lib.hid hkm
                have HBLm := Lib.hid (show Below W1.heap.size W1 wm from HBLl.out.trans hbm)
                clear hkm hbm CB1 HKl HBLl e3
                have k15 := HKm.out.p.1.1.1.1.1.2
                have e4 := k15.c4
                clear k15
                have CB2 := Lib.hid (St12.addI (A := []) (C := []) (v := .slice a6 n6 c6) (zs := GQ.1.drop) HKm.out (by have := HGL.out.2; omega))
                go_wp2_with fail
                go_at_call 19
                (with_reducible refine CB2.out.mono ?_)
                rintro _ wn ⟨rfl, hkm, hbm⟩
                have HKn := Lib.hid hkm
                have HBLn := Lib.hid (show Below W1.heap.size W1 wn from HBLm.out.trans hbm)
                clear hkm hbm CB2 HKm HBLm e4
                have k19 := HKn.out.p.1.1.2
                have e3 := k19.c3
                clear k19
                have CB3 := Lib.hid (St12.addT (A := [(.slice az ts.length cz, ts.map elT)]) (C := []) (v := .slice a9 n9 c9) (zs := R.ts.map elT) HKn.out (by rw [List.length_map]; omega))
                go_wp2_with fail
                go_at_call 18
                (with_reducible refine CB3.out.mono ?_)
                rintro _ wo ⟨rfl, hkm, hbm⟩
                have HKo := Lib.hid hkm
                have HBLo := Lib.hid (show Below W1.heap.size W1 wo from HBLn.out.trans hbm)
                clear hkm hbm CB3 HKn HBLn e3
                have k23 := HKo.out.p.2
                have e3 := k23.c3
                clear k23
                have CB4 := Lib.hid (St12.addT (A := []) (C := []) (v := .slice az ts.length cz) (zs := ts.map elT) HKo.out (by rw [List.length_map]; omega))
                go_wp2_with fail
                go_at_call 18
                (with_reducible refine CB4.out.mono ?_)
                rintro _ wp ⟨rfl, hkm, hbm⟩
                have HKp := Lib.hid hkm
                have HBLp := Lib.hid (show Below W1.heap.size W1 wp from HBLo.out.trans hbm)
                clear hkm hbm CB4 HKo HBLo e3
                go_wp2_with fail
                obtain ⟨RB, hRB⟩ : ∃ RB : Bool, (RB = true ↔ RightV ⟨log, next, seq, ts⟩) := by
                  by_cases h : RightV ⟨log, next, seq, ts⟩
                  · exact ⟨true, ⟨fun _ => h, fun _ => rfl⟩⟩
                  · exact ⟨false, ⟨fun q => (by cases q), fun q => absurd q h⟩⟩
                have hL : ∀ W, Below wp.heap.size wp W → Below W1.heap.size W1 W := fun W h => HBLp.out.trans (h.mono HBLp.out.size)
                have hK := fun W (h : Below wp.heap.size wp W) => HKp.out.below h
                have HCL := Lib.hid (show ∀ W, Below wp.heap.size wp W → W.cell? ⟨w.heap.size, 0, none⟩ = some (.int .i64 log) ∧ W.cell? ⟨w.heap.size, 1, none⟩ = some (.int .i64 next) ∧ W.cell? ⟨w.heap.size, 2, none⟩ = some (.int .u64 (seq : Int)) ∧ W.cell? ⟨w.heap.size, 3, none⟩ = some (.slice ta ts.length tc) ∧ W.cell? ⟨w.heap.size + 1, 3, none⟩ = some (.slice aa add.length ac) ∧ W.cell? ⟨w.heap.size + 1, 4, none⟩ = some (.slice da drop.length dc) ∧ W.cell? ⟨X9, 0, none⟩ = some (.int .i64 log) ∧ W.cell? ⟨X9, 1, none⟩ = some (.int .i64 next) ∧ W.cell? ⟨X9, 2, none⟩ = some (.int .u64 (seq : Int)) ∧ W.cell? ⟨X9, 3, none⟩ = some (.slice (some ⟨g1, 0, none⟩) ts.length (c1 + 1)) ∧ W.cell? ⟨X10, 3, none⟩ = some (.slice (some ⟨g2, 0, none⟩) add.length (c2 + 1)) ∧ W.cell? ⟨X10, 4, none⟩ = some (.slice (some ⟨g3, 0, none⟩) drop.length (c3 + 1)) ∧ W.cell? ⟨A15, 0, none⟩ = some (.int .i64 GQ.1.log) ∧ W.cell? ⟨A15, 1, none⟩ = some (.int .i64 GQ.1.next) ∧ W.cell? ⟨A15, 2, none⟩ = some (.int .u64 (GQ.1.seq : Int)) ∧ W.cell? ⟨A15, 3, none⟩ = some (.slice a5 n5 c5) ∧ W.cell? ⟨A15, 4, none⟩ = some (.slice a6 n6 c6) ∧ W.cell? ⟨A17, 0, none⟩ = some (.int .i64 GQ.1.log) ∧ W.cell? ⟨A17, 1, none⟩ = some (.int .i64 GQ.1.next) ∧ W.cell? ⟨A17, 2, none⟩ = some (.int .u64 (GQ.1.seq : Int)) ∧ W.cell? ⟨A17, 3, none⟩ = some (.slice a7 n7 c7) ∧ W.cell? ⟨A17, 4, none⟩ = some (.slice a8 n8 c8) ∧ W.cell? ⟨A19, 0, none⟩ = some (.int .i64 R.log) ∧ W.cell? ⟨A19, 1, none⟩ = some (.int .i64 R.next) ∧ W.cell? ⟨A19, 2, none⟩ = some (.int .u64 (R.seq : Int)) ∧ W.cell? ⟨A19, 3, none⟩ = some (.slice a9 n9 c9) ∧ W.cell? ⟨A21, 0, none⟩ = some (.int .i64 R.log) ∧ W.cell? ⟨A21, 1, none⟩ = some (.int .i64 R.next) ∧ W.cell? ⟨A21, 2, none⟩ = some (.int .u64 (R.seq : Int)) ∧ W.cell? ⟨A21, 3, none⟩ = some (.slice ab nb cb) ∧ W.cell? ⟨A23, 0, none⟩ = some (.int .i64 log) ∧ W.cell? ⟨A23, 1, none⟩ = some (.int .i64 next) ∧ W.cell? ⟨A23, 2, none⟩ = some (.int .u64 (seq : Int)) ∧ W.cell? ⟨A23, 3, none⟩ = some (.slice az ts.length cz) ∧ W.cell? ⟨A23, 4, none⟩ = some (.slice none 0 0) from fun W h => ⟨(HSA.out W (hL W h)).x.c0, (HSA.out W (hL W h)).x.c1, (HSA.out W (hL W h)).x.c2, (HSA.out W (hL W h)).x.c3, (HSA.out W (hL W h)).y.c3, (HSA.out W (hL W h)).y.c4, (hK W h).p.1.1.1.1.1.1.2.x.c0, (hK W h).p.1.1.1.1.1.1.2.x.c1, (hK W h).p.1.1.1.1.1.1.2.x.c2, (hK W h).p.1.1.1.1.1.1.2.x.c3, (hK W h).p.1.1.1.1.1.1.2.y.c3, (hK W h).p.1.1.1.1.1.1.2.y.c4, (hK W h).p.1.1.1.1.1.2.c0, (hK W h).p.1.1.1.1.1.2.c1, (hK W h).p.1.1.1.1.1.2.c2, (hK W h).p.1.1.1.1.1.2.c3, (hK W h).p.1.1.1.1.1.2.c4, (hK W h).p.1.1.1.2.c0, (hK W h).p.1.1.1.2.c1, (hK W h).p.1.1.1.2.c2, (hK W h).p.1.1.1.2.c3, (hK W h).p.1.1.1.2.c4, (hK W h).p.1.1.2.c0, (hK W h).p.1.1.2.c1, (hK W h).p.1.1.2.c2, (hK W h).p.1.1.2.c3, (hK W h).p.1.2.1.c0, (hK W h).p.1.2.1.c1, (hK W h).p.1.2.1.c2, (hK W h).p.1.2.1.c3, (hK W h).p.2.c0, (hK W h).p.2.c1, (hK W h).p.2.c2, (hK W h).p.2.c3, (hK W h).p.2.c4⟩)
                have HQ1 := Lib.hid (show ∀ W, Below wp.heap.size wp W → Calls Tryz.prog 20 #[.agg #[.int .i64 GQ.1.log, .int .i64 GQ.1.next, .int .u64 (GQ.1.seq : Int), .slice a5 n5 c5, .slice a6 n6 c6], .agg #[.int .i64 GQ.1.log, .int .i64 GQ.1.next, .int .u64 (GQ.1.seq : Int), .slice a7 n7 c7, .slice a8 n8 c8]] W fun x w' => x = .returned (.bool true) ∧ Below wp.heap.size wp w' from fun W h => (sameEd_yes _ _ _ _ _ GQ.1.add _ _ GQ.1.drop W ((hK W h).tbs (by simp)) (RowB.v (hK W h).p.1.1.1.1.2.1) (by have := HGL.out.1; omega) ((hK W h).ints (by simp)) (RowN.v (hK W h).p.1.1.1.1.2.2) (by have := HGL.out.2; omega)).mono (fun _ _ q => ⟨q.1, bt12 h q.2⟩))
                have HQ2 := Lib.hid (show ∀ W, Below wp.heap.size wp W → Calls Tryz.prog 21 #[.agg #[.int .i64 R.log, .int .i64 R.next, .int .u64 (R.seq : Int), .slice a9 n9 c9], .agg #[.int .i64 R.log, .int .i64 R.next, .int .u64 (R.seq : Int), .slice ab nb cb]] W fun x w' => x = .returned (.bool true) ∧ Below wp.heap.size wp w' from fun W h => (sameV_yes _ _ _ _ _ R.ts W ((hK W h).tbs (by simp)) (RowB.v (hK W h).p.1.2.2) (by omega)).mono (fun _ _ q => ⟨q.1, bt12 h q.2⟩))
                have HQ3 := Lib.hid (show ∀ W, Below wp.heap.size wp W → Calls Tryz.prog 16 #[.agg #[.int .i64 log, .int .i64 next, .int .u64 (seq : Int), .slice ta ts.length tc]] W fun x w' => x = .returned (.agg #[.int .i64 log, .int .i64 next, .int .u64 (seq : Int), .slice ta ts.length tc]) ∧ Below wp.heap.size wp w' from fun W h => (plainV_any log next seq ta ts.length tc W).mono (fun _ _ q => ⟨q.1, bt12 h q.2⟩))
                have HQ4 := Lib.hid (show ∀ W, Below wp.heap.size wp W → Calls Tryz.prog 22 #[.agg #[.int .i64 log, .int .i64 next, .int .u64 (seq : Int), .slice ta ts.length tc]] W fun x w' => x = .returned (.agg #[.int .i64 log, .int .i64 next, .int .u64 (seq : Int), .slice ta ts.length tc, .slice none 0 0]) ∧ Below wp.heap.size wp w' from fun W h => (rwhole_any log next seq ta ts.length tc W).mono (fun _ _ q => ⟨q.1, bt12 h q.2⟩))
                have HQ5 := Lib.hid (show ∀ W, Below wp.heap.size wp W → Calls Tryz.prog 20 #[.agg #[.int .i64 log, .int .i64 next, .int .u64 (seq : Int), .slice az ts.length cz, .slice none 0 0], .agg #[.int .i64 log, .int .i64 next, .int .u64 (seq : Int), .slice ta ts.length tc, .slice none 0 0]] W fun x w' => x = .returned (.bool true) ∧ Below wp.heap.size wp w' from fun W h => (sameEd_yes _ _ _ _ _ ts _ _ [] W ((hK W h).tbs (by simp)) (HSA.out W (hL W h)).t (by omega) (intsV_nil _) (intsV_nil _) (by simp)).mono (fun _ _ q => ⟨q.1, bt12 h q.2⟩))
                have HQ6 := Lib.hid (show ∀ W, Below wp.heap.size wp W → Calls Tryz.prog 23 #[.agg #[.int .i64 log, .int .i64 next, .int .u64 (seq : Int), .slice (some ⟨g1, 0, none⟩) ts.length (c1 + 1)]] W fun x w' => x = .returned (.bool RB) ∧ Below wp.heap.size wp w' from fun W h => by
                  refine (valid_any ⟨log, next, seq, ts⟩ _ W (hK W h).p.1.1.1.1.1.1.2.t.v (by show ts.length ≤ 100000; omega) (fun t ht => (HK1.out t ht).1)).mono ?_
                  rintro _ w' ⟨bb, rfl, q2, q3⟩
                  have : bb = RB := by rw [Bool.eq_iff_iff]; exact q2.trans hRB.symm
                  rw [this]
                  exact ⟨rfl, bt12 h q3⟩)
                have HQ8 := Lib.hid (show ∀ W, Below wp.heap.size wp W → Calls Tryz.prog 24 #[.agg #[.int .i64 log, .int .i64 next, .int .u64 (seq : Int), .slice ta ts.length tc]] W fun x w' => x = .returned (.bool RB) ∧ Below wp.heap.size wp w' from fun W h => by
                  refine (rvalid_any ⟨log, next, seq, ts⟩ _ W (HSA.out W (hL W h)).t (by show ts.length ≤ 100000; omega) (fun t ht => (HK1.out t ht).1)).mono ?_
                  rintro _ w' ⟨bb, rfl, q2, q3⟩
                  have : bb = RB := by rw [Bool.eq_iff_iff]; exact q2.trans hRB.symm
                  rw [this]
                  exact ⟨rfl, bt12 h q3⟩)
                have HQ9 := Lib.hid (show ∀ W, Below wp.heap.size wp W → Calls Tryz.prog 25 #[.slice (some ⟨g1, 0, none⟩) ts.length (c1 + 1), .slice ta ts.length tc] W fun x w' => x = .returned (.bool true) ∧ Below wp.heap.size wp w' from fun W h => (staysT_any g1 c1 _ ts W (hK W h).p.1.1.1.1.1.1.2.t (HSA.out W (hL W h)).t (by omega)).mono (fun _ _ q => ⟨q.1, bt12 h q.2⟩))
                have HQA := Lib.hid (show ∀ W, Below wp.heap.size wp W → Calls Tryz.prog 25 #[.slice (some ⟨g2, 0, none⟩) add.length (c2 + 1), .slice aa add.length ac] W fun x w' => x = .returned (.bool true) ∧ Below wp.heap.size wp w' from fun W h => (staysT_any g2 c2 _ add W (hK W h).p.1.1.1.1.1.1.2.a (HSA.out W (hL W h)).a (by omega)).mono (fun _ _ q => ⟨q.1, bt12 h q.2⟩))
                have HQB := Lib.hid (show ∀ W, Below wp.heap.size wp W → Calls Tryz.prog 26 #[.slice (some ⟨g3, 0, none⟩) drop.length (c3 + 1), .slice da drop.length dc] W fun x w' => x = .returned (.bool true) ∧ Below wp.heap.size wp w' from fun W h => (staysN_any g3 c3 _ drop W (hK W h).p.1.1.1.1.1.1.2.d (HSA.out W (hL W h)).d (by omega)).mono (fun _ _ q => ⟨q.1, bt12 h q.2⟩))
                have HB0 := Lib.hid (show Below wp.heap.size wp wp.drew from (Below.refl _ _).drew)
                have HEND := Lib.hid (show ∀ W, Below wp.heap.size wp W → St12 W1.heap.size bk [] (fun _ => True) [] [] [] [] W ∧ Below W1.heap.size W1 W from fun W h => ⟨⟨((hK W h).bk.other (ls := []) (fun q hq => by cases hq)).forget, List.nodup_nil, (fun q hq => by cases hq), trivial, fun _ _ _ _ => trivial, (hK W h).sz⟩, hL W h⟩)
                have hS0 := HCL.out _ HB0.out
                clear hL hK hRB
                obtain ⟨z0, z1, z2, z3, z4, z5, z6, z7, z8, z9, z10, z11, z12, z13, z14, z15, z16, z17, z18, z19, z20, z21, z22, z23, z24, z25, z26, z27, z28, z29, z30, z31, z32, z33, z34⟩ := hS0
                simp only [List.append_eq, List.cons_append, List.nil_append]
                go_region_held3 (fun W => W.cell? ⟨w.heap.size, 0, none⟩ = some (.int .i64 log) ∧ W.cell? ⟨w.heap.size, 1, none⟩ = some (.int .i64 next) ∧ W.cell? ⟨w.heap.size, 2, none⟩ = some (.int .u64 (seq : Int)) ∧ W.cell? ⟨w.heap.size, 3, none⟩ = some (.slice ta ts.length tc) ∧ W.cell? ⟨w.heap.size + 1, 3, none⟩ = some (.slice aa add.length ac) ∧ W.cell? ⟨w.heap.size + 1, 4, none⟩ = some (.slice da drop.length dc) ∧ W.cell? ⟨X9, 0, none⟩ = some (.int .i64 log) ∧ W.cell? ⟨X9, 1, none⟩ = some (.int .i64 next) ∧ W.cell? ⟨X9, 2, none⟩ = some (.int .u64 (seq : Int)) ∧ W.cell? ⟨X9, 3, none⟩ = some (.slice (some ⟨g1, 0, none⟩) ts.length (c1 + 1)) ∧ W.cell? ⟨X10, 3, none⟩ = some (.slice (some ⟨g2, 0, none⟩) add.length (c2 + 1)) ∧ W.cell? ⟨X10, 4, none⟩ = some (.slice (some ⟨g3, 0, none⟩) drop.length (c3 + 1)) ∧ W.cell? ⟨A15, 0, none⟩ = some (.int .i64 GQ.1.log) ∧ W.cell? ⟨A15, 1, none⟩ = some (.int .i64 GQ.1.next) ∧ W.cell? ⟨A15, 2, none⟩ = some (.int .u64 (GQ.1.seq : Int)) ∧ W.cell? ⟨A15, 3, none⟩ = some (.slice a5 n5 c5) ∧ W.cell? ⟨A15, 4, none⟩ = some (.slice a6 n6 c6) ∧ W.cell? ⟨A17, 0, none⟩ = some (.int .i64 GQ.1.log) ∧ W.cell? ⟨A17, 1, none⟩ = some (.int .i64 GQ.1.next) ∧ W.cell? ⟨A17, 2, none⟩ = some (.int .u64 (GQ.1.seq : Int)) ∧ W.cell? ⟨A17, 3, none⟩ = some (.slice a7 n7 c7) ∧ W.cell? ⟨A17, 4, none⟩ = some (.slice a8 n8 c8) ∧ W.cell? ⟨A19, 0, none⟩ = some (.int .i64 R.log) ∧ W.cell? ⟨A19, 1, none⟩ = some (.int .i64 R.next) ∧ W.cell? ⟨A19, 2, none⟩ = some (.int .u64 (R.seq : Int)) ∧ W.cell? ⟨A19, 3, none⟩ = some (.slice a9 n9 c9) ∧ W.cell? ⟨A21, 0, none⟩ = some (.int .i64 R.log) ∧ W.cell? ⟨A21, 1, none⟩ = some (.int .i64 R.next) ∧ W.cell? ⟨A21, 2, none⟩ = some (.int .u64 (R.seq : Int)) ∧ W.cell? ⟨A21, 3, none⟩ = some (.slice ab nb cb) ∧ W.cell? ⟨A23, 0, none⟩ = some (.int .i64 log) ∧ W.cell? ⟨A23, 1, none⟩ = some (.int .i64 next) ∧ W.cell? ⟨A23, 2, none⟩ = some (.int .u64 (seq : Int)) ∧ W.cell? ⟨A23, 3, none⟩ = some (.slice az ts.length cz) ∧ W.cell? ⟨A23, 4, none⟩ = some (.slice none 0 0))
                  (first | with_reducible exact HCL.out _ HB1.out | with_reducible exact HCL.out _ HB2.out | with_reducible exact HCL.out _ HB3.out | with_reducible exact HCL.out _ HB4.out | with_reducible exact HCL.out _ HB5.out | with_reducible exact HCL.out _ HB6.out | with_reducible exact HCL.out _ HB7.out | with_reducible exact HCL.out _ HB8.out | with_reducible exact HCL.out _ HB9.out | with_reducible exact HCL.out _ HBA.out | with_reducible exact HCL.out _ HBB.out | go_keep)
                  (first
                    | (go_at_call 20; (with_reducible refine (HQ1.out _ HB0.out).mono ?_); rintro _ v1 ⟨rfl, hb⟩; have HB1 := Lib.hid hb; clear hb)
                    | (go_at_call 21; (with_reducible refine (HQ2.out _ HB1.out).mono ?_); rintro _ v2 ⟨rfl, hb⟩; have HB2 := Lib.hid hb; clear hb)
                    | (go_at_call 16; (with_reducible refine (HQ3.out _ HB2.out).mono ?_); rintro _ v3 ⟨rfl, hb⟩; have HB3 := Lib.hid hb; clear hb)
                    | (go_at_call 22; (with_reducible refine (HQ4.out _ HB3.out).mono ?_); rintro _ v4 ⟨rfl, hb⟩; have HB4 := Lib.hid hb; clear hb)
                    | (go_at_call 20; (with_reducible refine (HQ5.out _ HB4.out).mono ?_); rintro _ v5 ⟨rfl, hb⟩; have HB5 := Lib.hid hb; clear hb)
                    | (go_at_call 23; (with_reducible refine (HQ6.out _ HB5.out).mono ?_); rintro _ v6 ⟨rfl, hb⟩; have HB6 := Lib.hid hb; clear hb)
                    | (go_at_call 16; (with_reducible refine (HQ3.out _ HB6.out).mono ?_); rintro _ v7 ⟨rfl, hb⟩; have HB7 := Lib.hid hb; clear hb)
                    | (go_at_call 24; (with_reducible refine (HQ8.out _ HB7.out).mono ?_); rintro _ v8 ⟨rfl, hb⟩; have HB8 := Lib.hid hb; clear hb)
                    | (go_at_call 25; (with_reducible refine (HQ9.out _ HB8.out).mono ?_); rintro _ v9 ⟨rfl, hb⟩; have HB9 := Lib.hid hb; clear hb)
                    | (go_at_call 25; (with_reducible refine (HQA.out _ HB9.out).mono ?_); rintro _ vA ⟨rfl, hb⟩; have HBA := Lib.hid hb; clear hb)
                    | (go_at_call 26; (with_reducible refine (HQB.out _ HBA.out).mono ?_); rintro _ vB ⟨rfl, hb⟩; have HBB := Lib.hid hb; clear hb)
                    | fail)
                have HKZ := Lib.hid (HEND.out _ HBB.out).1
                have HBZ := Lib.hid (HEND.out _ HBB.out).2
                go_wp2_with fail
                go_roundw
                case rel => exact ⟨k + 1, by go_num, by omega, HKZ, HBZ⟩
                case measure => simp [intOf]; omega
        · obtain rfl : k = 2 := by omega
          go_wp2_with fail
          go_at_call 6
          (with_reducible refine (CA.out _).mono ?_)
          rintro _ w2 ⟨rfl, b2⟩
          have HK2' := Lib.hid (HK.out.below b2)
          have HW2 := Lib.hid (bt12 HBL.out b2)
          have CZ := Lib.hid (HK2'.out.bk.apart HK2'.out.sz)
          clear b2
          go_wp2_with fail
          go_at_call 27
          (with_reducible refine CZ.out.mono ?_)
          rintro _ w5 ⟨rfl, b5⟩
          go_wp2_with fail
          go_ret
          exact ⟨rfl, HS1.out.b.trans ((HW2.out.trans b5).mono HS1.out.b.size)⟩
end Go.Proofs.YtmcgfafkggannaaGreat
