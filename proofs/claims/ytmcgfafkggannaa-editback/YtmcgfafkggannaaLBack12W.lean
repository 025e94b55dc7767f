/- EditBack, walked. -/
import Derived.Test.YtmcgfafkggannaaJF
namespace Go.Proofs.Ytmcgfafkggannaa
open Go.RowKit Go.Shelf

theorem EdW.below {w w' : World} {e : Ed} {va vd : Value} (h : EdW w e va vd) (hb : Below w.heap.size w w') : EdW w' e va vd := ⟨h.l, h.n, h.s, h.a.below hb, h.d.below hb, h.la, h.ld, h.ka, h.kd⟩
theorem tb_one (w : World) (x : Tb) : TbsV (w.alloc (.cells #[.int .i64 x.n, .int .i64 x.lv, .int .i64 x.sz, .string x.f, .string x.l] 28)) (.slice (some ⟨w.heap.size, 0, none⟩) 1 1) [x] :=
  .inr ⟨_, _, rfl, fun j u hu => by
    rw [add_plainT, Nat.zero_add]
    refine nce rfl ?_
    simpa [cellsT, Tb.cells] using hu⟩
theorem int_one (w : World) (k : Int) : IntsV (w.alloc (.cells #[.int .i64 k] 3)) (.slice (some ⟨w.heap.size, 0, none⟩) 1 1) [k] :=
  .inr ⟨_, _, rfl, fun j hj => by
    rw [add_plainT, Nat.zero_add]
    have : j = 0 := by simpa using hj
    subst this
    exact nce rfl rfl⟩
/-- The statement's own boxes: the edit and the table. -/
structure SB (w0 : World) (e : Ed) (va vd : Value) (t : Tb) (w : World) : Prop where
  e : BoxEd w0.heap.size e.log e.next e.seq va vd w
  t : BoxB (w0.heap.size + 1) t w
  b : Below w0.heap.size w0 w
theorem SB.below {w0 w w' : World} {e : Ed} {va vd : Value} {t : Tb} (h : SB w0 e va vd t w) (hb : Below w.heap.size w w') : SB w0 e va vd t w' := ⟨h.e.below hb, h.t.below hb, h.b.trans (hb.mono h.b.size)⟩
/-- A version in a box, and its tables. -/
structure SV (A : Nat) (v : Vr) (r : Value) (w : World) : Prop where
  x : BoxV A v.log v.next v.seq r w
  t : TbsV w r v.ts
theorem SV.below {A : Nat} {v : Vr} {r : Value} {w w' : World} (h : SV A v r w) (hb : Below w.heap.size w w') : SV A v r w' := ⟨h.x.below hb, h.t.below hb⟩
theorem bt12 {a b c : World} (h : Below a.heap.size a b) (k : Below b.heap.size b c) : Below a.heap.size a c := h.trans (k.mono h.size)
theorem alloc_b (w : World) (o : Obj) : Below w.heap.size w (w.alloc o) := (Below.refl _ _).alloc (Nat.le_refl _) _
set_option maxHeartbeats 16000000 in
set_option maxRecDepth 100000 in
theorem editBack_walk (e : Ed) (va vd : Value) (t : Tb) (ht : t.Ok) (w : World) (hE : EdW w e va vd) : Calls Try.prog 3 #[ediV e.log e.next e.seq va vd, t.val] w fun x w' => x = .returned (.bool true) ∧ Below w.heap.size w w' := by
  have CA := Lib.hid (fun W => alive12_any W)
  obtain ⟨log, next, seq, add, drop⟩ := e
  obtain ⟨tn, tl, tz, tf, tg⟩ := t
  have HE := Lib.hid hE
  have hEa : TbsV w va add := hE.a
  have hEd : IntsV w vd drop := hE.d
  obtain ⟨aa, ac, rfl⟩ := hEa.len
  obtain ⟨da, dc, rfl⟩ := hEd.len
  have HT := Lib.hid ht
  clear hE hEa hEd ht
  unfold ediV Tb.val
  simp only
  obtain ⟨W1, hW1⟩ : ∃ W1, (w.alloc (.cells #[.int .i64 log, .int .i64 next, .int .u64 (seq : Int), .slice aa add.length ac, .slice da drop.length dc] 26)).alloc (.cells #[.int .i64 tn, .int .i64 tl, .int .i64 tz, .string tf, .string tg] 28) = W1 := ⟨_, rfl⟩
  have s1 : SB w ⟨log, next, seq, add, drop⟩ (.slice aa add.length ac) (.slice da drop.length dc) ⟨tn, tl, tz, tf, tg⟩ W1 := by
    rw [← hW1]
    exact ⟨(Below.heap_alloc _ _ _ (by simp)).trans (new_block _ _ rfl), new_block _ _ (by simp), ((Below.refl _ _).alloc (Nat.le_refl _) _).alloc (by simp) _⟩
  have CL := Lib.hid (light_any ⟨log, next, seq, add, drop⟩ _ _ W1 (HE.out.below s1.b))
  unfold ediV at CL
  simp only at CL
  have HS1 := Lib.hid s1
  have c0 := s1.e.c0
  have c1 := s1.e.c1
  have c2 := s1.e.c2
  have c3 := s1.e.c3
  have c4 := s1.e.c4
  simp only at c0 c1 c2 c3 c4
  clear s1
  go_enter Try.func3, Try.ntmps3
  go_upto_region 1 with fail
  try rw [hW1]
  clear hW1
  go_cut [25] from 17 to 25 (fun v wx => ∃ c : Bool, v = .bool c ∧ Hid (c = false → add.length ≤ 40 ∧ (∀ x ∈ add, x.Short) ∧ drop.length ≤ 60 ∧ (⟨tn, tl, tz, tf, tg⟩ : Tb).Short) ∧ Hid (SB w ⟨log, next, seq, add, drop⟩ (.slice aa add.length ac) (.slice da drop.length dc) ⟨tn, tl, tz, tf, tg⟩ wx))
  case first =>
    go_wp2_with fail
    go_at_call 6
    (with_reducible refine CL.out.mono ?_)
    rintro _ w2 ⟨t1, rfl, ht1, hb2⟩
    have s2 := HS1.out.below hb2
    have HS2 := Lib.hid s2
    have HT1 := Lib.hid ht1
    have p0 := s2.t.c0
    have p1 := s2.t.c1
    have p2 := s2.t.c2
    have p3 := s2.t.c3
    have p4 := s2.t.c4
    simp only at p0 p1 p2 p3 p4
    have CS := Lib.hid (small12_any _ [⟨tn, tl, tz, tf, tg⟩] _ (tb_one w2 ⟨tn, tl, tz, tf, tg⟩) (by simp) (fun x hx => by simp at hx; rw [hx]; exact HT.out))
    simp only at CS
    clear s2 ht1 hb2 CL c0 c1 c2 c3 c4
    cases t1 with
    | false =>
      go_wp2_with fail
      go_meet
      exact ⟨true, rfl, Lib.hid (fun h => by cases h), HS2⟩
    | true =>
      go_wp2_with fail
      go_at_call 7
      (with_reducible refine CS.out.mono ?_)
      rintro _ w3 ⟨t2, rfl, ht2, hb3⟩
      have HT2 := Lib.hid ht2
      have HS3 := Lib.hid (HS2.out.below (bt12 (alloc_b w2 _) hb3))
      clear ht2 hb3 CS
      cases t2 with
      | false =>
        go_wp2_with fail
        go_meet
        exact ⟨true, rfl, Lib.hid (fun h => by cases h), HS3⟩
      | true =>
        go_wp2_with fail
        go_meet
        exact ⟨false, rfl, Lib.hid (fun _ => ⟨(HT1.out (by first | rfl | trivial)).1, (HT1.out (by first | rfl | trivial)).2.1, (HT1.out (by first | rfl | trivial)).2.2, (HT2.out (by first | rfl | trivial)).2 _ (by simp)⟩), HS3⟩
  case rest =>
    clear CL c0 c1 c2 c3 c4 HS1
    obtain ⟨c, rfl, HG, HS⟩ := hcut
    cases c with
    | true =>
      go_wp2_with (go_at_call 8; (with_reducible refine (CA.out _).mono ?_); rintro _ w2 ⟨rfl, hb2⟩)
      go_ret
      exact ⟨rfl, HS.out.b.trans (hb2.mono HS.out.b.size)⟩
    | false =>
      obtain ⟨hl1, hsh, hl2, hts⟩ := HG.out (by first | rfl | trivial)
      have HSH := Lib.hid hsh
      have HTS := Lib.hid hts
      clear HG hsh hts
      have HOKA := Lib.hid (show ∀ x ∈ add, x.Ok ∧ x.Short from fun x hx => ⟨HE.out.ka x hx, HSH.out x hx⟩)
      have c0 := HS.out.e.c0
      have c1 := HS.out.e.c1
      have c2 := HS.out.e.c2
      have c3 := HS.out.e.c3
      have c4 := HS.out.e.c4
      simp only at c0 c1 c2 c3 c4
      have C1 : Hid (Calls Try.prog 9 #[.agg #[.int .i64 0, .int .i64 0, .int .u64 0, .slice none 0 0], .agg #[.int .i64 log, .int .i64 next, .int .u64 (seq : Int), .slice aa add.length ac, .slice da drop.length dc]] wc fun x w' => ApplyV wc w' x Vr.zero ⟨log, next, seq, add, drop⟩ ∧ Below wc.heap.size wc w') := Lib.hid (apply_any Vr.zero ⟨log, next, seq, add, drop⟩ (.slice none 0 0) _ _ wc (tbsV_nil wc) (HE.out.a.below HS.out.b) (HE.out.d.below HS.out.b) (by decide) (by show add.length ≤ 10000; omega) (by show drop.length ≤ 10000; omega) (fun t ht => by cases ht) HOKA.out HE.out.kd)
      go_wp2_with fail
      go_at_call 9
      (with_reducible refine C1.out.mono ?_)
      rintro _ w2 ⟨hap, hb2⟩
      rcases hap with ⟨-, rfl⟩ | ⟨hyes, r2, rfl, hr2, -⟩
      · have HB2 := Lib.hid (HS.out.below hb2).b
        clear hb2 C1 c0 c1 c2 c3 c4
        go_wp2_with (go_at_call 8; (with_reducible refine (CA.out _).mono ?_); rintro _ w7 ⟨rfl, hb7⟩)
        go_ret
        exact ⟨rfl, (HB2.out.alloc HB2.out.size _).trans (hb7.mono (HB2.out.alloc HB2.out.size _).size)⟩
      obtain ⟨v, hv⟩ : ∃ v, nextV Vr.zero ⟨log, next, seq, add, drop⟩ = v := ⟨_, rfl⟩
      have hRV : RightV v := hv ▸ hyes.2
      have hST : Stands v.ts := hv ▸ next_stands _ _
      have hln : v.ts.length ≤ 40 := by
        rw [← hv]
        have := next_len Vr.zero ⟨log, next, seq, add, drop⟩
        have e0 : Vr.zero.ts.length = 0 := rfl
        simp only at this
        omega
      rw [hv] at hr2 ⊢
      obtain ⟨vl, vn, vs, vt⟩ := v
      unfold verV
      simp only at hr2 hln ⊢
      have HRV := Lib.hid hRV
      have HST : Hid (Stands vt) := Lib.hid hST
      obtain ⟨a2, cc2, rfl⟩ := hr2.short
      obtain ⟨W3, hW3⟩ : ∃ W3, w2.alloc (.cells #[.int .i64 vl, .int .i64 vn, .int .u64 (vs : Int), .slice a2 vt.length cc2] 33) = W3 := ⟨_, rfl⟩
      have b3 : Below w2.heap.size w2 W3 := by rw [← hW3]; exact alloc_b _ _
      have sb3 := (HS.out.below hb2).below b3
      have sv3 : SV w2.heap.size ⟨vl, vn, vs, vt⟩ (.slice a2 vt.length cc2) W3 := ⟨by rw [← hW3]; exact new_block _ _ rfl, hr2.v.below b3⟩
      have HSB3 := Lib.hid sb3
      have HSV3 := Lib.hid sv3
      have CW : Hid (Calls Try.prog 11 #[.agg #[.int .i64 vl, .int .i64 vn, .int .u64 (vs : Int), .slice a2 vt.length cc2]] W3 fun x w' => ∃ r, x = .returned (.agg #[.int .i64 vl, .int .i64 vn, .int .u64 (vs : Int), r, .slice none 0 0]) ∧ RowB w' r vt ∧ (∀ k, ob r = some k → W3.heap.size ≤ k) ∧ Below W3.heap.size W3 w') := Lib.hid (whole_any ⟨vl, vn, vs, vt⟩ _ W3 sv3.t (by show vt.length ≤ 10000; omega) (fun t ht => (right_ok HRV.out t ht).2))
      have p0 := sv3.x.c0
      have p1 := sv3.x.c1
      have p2 := sv3.x.c2
      have p3 := sv3.x.c3
      simp only at p0 p1 p2 p3
      clear hr2 b3 sb3 sv3 hb2 C1 hyes hv hRV hST c0 c1 c2 c3 c4
      go_upto_region 4 with fail
      try rw [hW3]
      clear hW3
      go_wp2_with fail
      go_at_call 11
      (with_reducible refine CW.out.mono ?_)
      rintro _ w4 ⟨r4, rfl, hr4, -, hb4⟩
      have HFT := Lib.hid (whole_fits HRV.out (by show vt.length ≤ 10000; omega))
      have hEok : (wholeE ⟨vl, vn, vs, vt⟩).Ok := by
        have h1 := HRV.out.1
        simp only at h1
        exact ⟨by show vl ≤ _; omega, by show vn ≤ _; omega, by show vs < _; omega, by show vt.length ≤ _; omega, by show (0 : Nat) ≤ 10000; omega, fun t ht => right_ok HRV.out t ht, fun k hk => by cases hk⟩
      have C3 := Lib.hid (put_any (wholeE ⟨vl, vn, vs, vt⟩) r4 (.slice none 0 0) w4 hr4.v (intsV_nil w4) hEok)
      have HPV := Lib.hid (show PutV (wholeE ⟨vl, vn, vs, vt⟩) = .tuple #[.string ⟨(putE (wholeE ⟨vl, vn, vs, vt⟩)).toArray⟩, .int .i64 0] by unfold PutV; rw [canB_fits HFT.out]; rfl)
      rw [HPV.out] at C3
      have HGP := Lib.hid (getP_laid _ HFT.out)
      have hlen : (putE (wholeE ⟨vl, vn, vs, vt⟩)).length ≤ 100000000 := by
        have h1 := HRV.out.1
        simp only at h1
        refine Nat.le_trans (putE_len hEok (by show 0 ≤ vl; omega) (by show 0 ≤ vn; omega)) ?_
        show 50 + vt.length * 18050 + 0 * 10 ≤ 100000000
        omega
      generalize putE (wholeE ⟨vl, vn, vs, vt⟩) = BS at *
      obtain ⟨a4, cc4, rfl⟩ := hr4.short
      have C3' : Hid (Calls Try.prog 10 #[.agg #[.int .i64 vl, .int .i64 vn, .int .u64 (vs : Int), .slice a4 vt.length cc4, .slice none 0 0]] w4 fun x w' => x = .returned (.tuple #[.string ⟨BS.toArray⟩, .int .i64 0]) ∧ Below w4.heap.size w4 w') := C3
      have HSB4 := Lib.hid (HSB3.out.below hb4)
      have HSV4 := Lib.hid (HSV3.out.below hb4)
      clear hr4 hb4 CW C3 HPV hEok HSB3 HSV3 p0 p1 p2 p3
      go_wp2_with fail
      go_at_call 10
      (with_reducible refine C3'.out.mono ?_)
      rintro _ w5 ⟨rfl, hb5⟩
      have HSB5 := Lib.hid (HSB4.out.below hb5)
      have HSV5 := Lib.hid (HSV4.out.below hb5)
      have C4 := Lib.hid (get_any ⟨BS.toArray⟩ w5 (by rw [ba_size]; exact hlen))
      clear hb5 C3' HSB4 HSV4
      go_wp2_with fail
      go_at_call 12
      (with_reducible refine C4.out.mono ?_)
      rintro _ w6 ⟨hgv, hb6⟩
      unfold GetV at hgv
      rw [HGP.out] at hgv
      rcases hgv with ⟨hn, -⟩ | ⟨-, va, vd, rfl, hva, hvd, -⟩
      · exact absurd rfl hn
      have hva' : RowB w6 va vt := hva
      have hvd' : RowN w6 vd [] := hvd
      obtain ⟨a6, c6, rfl⟩ := hva'.short
      obtain ⟨a9, c9, hs9⟩ := hvd'.short
      have hs9' : vd = .slice a9 0 c9 := hs9
      subst hs9'
      unfold ediV wholeE
      simp only
      obtain ⟨W7, hW7⟩ : ∃ W7, w6.alloc (.cells #[.int .i64 vl, .int .i64 vn, .int .u64 (vs : Int), .slice a6 vt.length c6, .slice a9 0 c9] 26) = W7 := ⟨_, rfl⟩
      have b7 : Below w6.heap.size w6 W7 := by rw [← hW7]; exact alloc_b _ _
      have y7 : BoxEd w6.heap.size vl vn vs (.slice a6 vt.length c6) (.slice a9 0 c9) W7 := by rw [← hW7]; exact new_block _ _ rfl
      have HSB7 := Lib.hid ((HSB5.out.below hb6).below b7)
      have HSV7 := Lib.hid ((HSV5.out.below hb6).below b7)
      have C5 : Hid (Calls Try.prog 9 #[.agg #[.int .i64 0, .int .i64 0, .int .u64 0, .slice none 0 0], .agg #[.int .i64 vl, .int .i64 vn, .int .u64 (vs : Int), .slice a6 vt.length c6, .slice a9 0 c9]] W7 fun x w' => ApplyV W7 w' x Vr.zero (wholeE ⟨vl, vn, vs, vt⟩) ∧ Below W7.heap.size W7 w') := Lib.hid (apply_any Vr.zero (wholeE ⟨vl, vn, vs, vt⟩) (.slice none 0 0) (.slice a6 vt.length c6) (.slice a9 0 c9) W7 (tbsV_nil W7) (hva'.v.below b7) (hvd'.v.below b7) (by decide) (by show vt.length ≤ 10000; omega) (by show (0 : Nat) ≤ 10000; omega) (fun t ht => by cases ht) (fun t ht => right_ok HRV.out t ht) (fun k hk => by cases hk))
      have q0 := y7.c0
      have q1 := y7.c1
      have q2 := y7.c2
      have q3 := y7.c3
      have q4 := y7.c4
      clear hva hvd hva' hvd' hs9 b7 y7 hb6 C4 HSB5 HSV5
      go_upto_region 8 with fail
      try rw [hW7]
      clear hW7
      go_wp2_with fail
      go_at_call 9
      (with_reducible refine C5.out.mono ?_)
      rintro _ w8 ⟨hap, hb8⟩
      rcases hap with ⟨hn, -⟩ | ⟨-, r8, rfl, hr8, -⟩
      · exact absurd (applies_whole HRV.out HST.out) hn
      rw [next_whole HRV.out HST.out] at hr8 ⊢
      unfold verV
      simp only at hr8 ⊢
      obtain ⟨a8, cc8, rfl⟩ := hr8.short
      obtain ⟨W9, hW9⟩ : ∃ W9, w8.alloc (.cells #[.int .i64 vl, .int .i64 vn, .int .u64 (vs : Int), .slice a8 vt.length cc8] 33) = W9 := ⟨_, rfl⟩
      have b9 : Below w8.heap.size w8 W9 := by rw [← hW9]; exact alloc_b _ _
      have HSB9 := Lib.hid ((HSB7.out.below hb8).below b9)
      have HSV9 := Lib.hid ((HSV7.out.below hb8).below b9)
      have HSX9 : Hid (SV w8.heap.size ⟨vl, vn, vs, vt⟩ (.slice a8 vt.length cc8) W9) := Lib.hid ⟨by rw [← hW9]; exact new_block _ _ rfl, hr8.v.below b9⟩
      clear hr8 b9 hb8 C5 HSB7 HSV7 q0 q1 q2 q3 q4
      go_upto_region 9 with fail
      try rw [hW9]
      clear hW9
      obtain ⟨A5, hA5⟩ : ∃ A, w2.heap.size = A := ⟨_, rfl⟩
      obtain ⟨A11, hA11⟩ : ∃ A, w8.heap.size = A := ⟨_, rfl⟩
      rw [hA5] at HSV9 ⊢
      rw [hA11] at HSX9 ⊢
      clear hA5 hA11
      have HCL := Lib.hid (show ∀ W, Below W9.heap.size W9 W → (W.cell? ⟨A5, 0, none⟩ = some (.int .i64 vl) ∧ W.cell? ⟨A5, 1, none⟩ = some (.int .i64 vn) ∧ W.cell? ⟨A5, 2, none⟩ = some (.int .u64 (vs : Int)) ∧ W.cell? ⟨A5, 3, none⟩ = some (.slice a2 vt.length cc2) ∧ W.cell? ⟨A11, 0, none⟩ = some (.int .i64 vl) ∧ W.cell? ⟨A11, 1, none⟩ = some (.int .i64 vn) ∧ W.cell? ⟨A11, 2, none⟩ = some (.int .u64 (vs : Int)) ∧ W.cell? ⟨A11, 3, none⟩ = some (.slice a8 vt.length cc8)) from fun W h => ⟨(HSV9.out.x.below h).c0, (HSV9.out.x.below h).c1, (HSV9.out.x.below h).c2, (HSV9.out.x.below h).c3, (HSX9.out.x.below h).c0, (HSX9.out.x.below h).c1, (HSX9.out.x.below h).c2, (HSX9.out.x.below h).c3⟩)
      have CPV := Lib.hid (fun W => plainV_any vl vn vs a2 vt.length cc2 W)
      have CSV := Lib.hid (fun W (h : Below W9.heap.size W9 W) => sameV_yes vl vn vs _ _ vt W (HSX9.out.t.below h) (HSV9.out.t.below h) (by omega))
      have CVD := Lib.hid (show ∀ W, Below W9.heap.size W9 W → Calls Try.prog 15 #[.agg #[.int .i64 vl, .int .i64 vn, .int .u64 (vs : Int), .slice a2 vt.length cc2]] W fun x w' => x = .returned (.bool true) ∧ Below W.heap.size W w' from fun W h => by
        refine (valid_any ⟨vl, vn, vs, vt⟩ _ W (HSV9.out.t.below h) (by show vt.length ≤ 100000; omega) (fun t ht => (right_ok HRV.out t ht).1)).mono ?_
        rintro _ w' ⟨bb, rfl, hbv, hbd⟩
        rw [hbv.2 HRV.out]
        exact ⟨rfl, hbd⟩)
      have hbz : Below W9.heap.size W9 W9.drew := (Below.refl _ _).drew
      have HBZ := Lib.hid hbz
      obtain ⟨e0, e1, e2, e3, f0, f1, f2, f3⟩ := HCL.out _ hbz
      clear hbz
      go_region_held3 (fun W => (W.cell? ⟨A5, 0, none⟩ = some (.int .i64 vl) ∧ W.cell? ⟨A5, 1, none⟩ = some (.int .i64 vn) ∧ W.cell? ⟨A5, 2, none⟩ = some (.int .u64 (vs : Int)) ∧ W.cell? ⟨A5, 3, none⟩ = some (.slice a2 vt.length cc2) ∧ W.cell? ⟨A11, 0, none⟩ = some (.int .i64 vl) ∧ W.cell? ⟨A11, 1, none⟩ = some (.int .i64 vn) ∧ W.cell? ⟨A11, 2, none⟩ = some (.int .u64 (vs : Int)) ∧ W.cell? ⟨A11, 3, none⟩ = some (.slice a8 vt.length cc8)))
        (first | go_keep | with_reducible exact HCL.out _ HBd.out | with_reducible exact HCL.out _ HBb.out | with_reducible exact HCL.out _ HBa.out)
        (first
          | (go_at_call 14; (with_reducible refine (CPV.out _).mono ?_); rintro _ wa ⟨rfl, hba⟩; have HBa := Lib.hid (bt12 HBZ.out hba))
          | (go_at_call 13; (with_reducible refine (CSV.out _ HBa.out).mono ?_); rintro _ wb ⟨rfl, hbb⟩; have HBb := Lib.hid (bt12 HBa.out hbb))
          | (go_at_call 15; (with_reducible refine (CVD.out _ HBb.out).mono ?_); rintro _ wd ⟨rfl, hbd⟩; have HBd := Lib.hid (bt12 HBb.out hbd))
          | fail)
      have HSBd := Lib.hid (HSB9.out.below HBd.out)
      have HSVd := Lib.hid (HSV9.out.below HBd.out)
      clear CPV CSV CVD HCL e0 e1 e2 e3 f0 f1 f2 f3 HBZ HBa HBb hba hbb hbd HSB9 HSV9 HSX9 HBd
      have c0 := HSBd.out.t.c0
      have c1 := HSBd.out.t.c1
      have c2 := HSBd.out.t.c2
      have c3 := HSBd.out.t.c3
      have c4 := HSBd.out.t.c4
      have p0 := HSVd.out.x.c0
      have p1 := HSVd.out.x.c1
      have p2 := HSVd.out.x.c2
      have p3 := HSVd.out.x.c3
      simp only at c0 c1 c2 c3 c4 p0 p1 p2 p3
      have HBt := Lib.hid (show Below wd.heap.size wd (wd.alloc (.cells #[.int .i64 tn, .int .i64 tl, .int .i64 tz, .string tf, .string tg] 28)) from alloc_b _ _)
      have C6 : Hid (Calls Try.prog 9 #[.agg #[.int .i64 vl, .int .i64 vn, .int .u64 (vs : Int), .slice a2 vt.length cc2], .agg #[.int .i64 0, .int .i64 0, .int .u64 0, .slice (some ⟨wd.heap.size, 0, none⟩) 1 1, .slice none 0 0]] (wd.alloc (.cells #[.int .i64 tn, .int .i64 tl, .int .i64 tz, .string tf, .string tg] 28)) fun x w' => ApplyV (wd.alloc (.cells #[.int .i64 tn, .int .i64 tl, .int .i64 tz, .string tf, .string tg] 28)) w' x ⟨vl, vn, vs, vt⟩ (addE ⟨tn, tl, tz, tf, tg⟩) ∧ Below (wd.alloc (.cells #[.int .i64 tn, .int .i64 tl, .int .i64 tz, .string tf, .string tg] 28)).heap.size (wd.alloc (.cells #[.int .i64 tn, .int .i64 tl, .int .i64 tz, .string tf, .string tg] 28)) w') := Lib.hid (apply_any ⟨vl, vn, vs, vt⟩ (addE ⟨tn, tl, tz, tf, tg⟩) _ (.slice (some ⟨wd.heap.size, 0, none⟩) 1 1) (.slice none 0 0) _ (HSVd.out.t.below HBt.out) (tb_one wd ⟨tn, tl, tz, tf, tg⟩) (intsV_nil _) (by show vt.length ≤ 10000; omega) (by show (1 : Nat) ≤ 10000; omega) (by show (0 : Nat) ≤ 10000; omega) (fun t ht => right_ok HRV.out t ht) (fun t ht => by simp [addE] at ht; rw [ht]; exact ⟨HT.out, HTS.out⟩) (fun k hk => by cases hk))
      go_wp2_with fail
      go_at_call 9
      (with_reducible refine C6.out.mono ?_)
      rintro _ w10 ⟨hap, hb10⟩
      have HBx := Lib.hid (bt12 HBt.out hb10)
      rcases hap with ⟨-, rfl⟩ | ⟨hyes, r10, rfl, hr10, -⟩
      · have HB2 := Lib.hid (HSBd.out.below HBx.out).b
        clear hb10 C6 c0 c1 c2 c3 c4 p0 p1 p2 p3 HBt HBx
        go_wp2_with (go_at_call 8; (with_reducible refine (CA.out _).mono ?_); rintro _ w7 ⟨rfl, hb7⟩)
        go_ret
        exact ⟨rfl, (HB2.out.alloc HB2.out.size _).trans (hb7.mono (HB2.out.alloc HB2.out.size _).size)⟩
      have hml := next_add_len ⟨tn, tl, tz, tf, tg⟩ HRV.out
      have HNB := Lib.hid (next_back ⟨tn, tl, tz, tf, tg⟩ HRV.out HST.out hyes.2)
      have HRM := Lib.hid hyes.2
      obtain ⟨m, hm⟩ : ∃ m, nextV ⟨vl, vn, vs, vt⟩ (addE ⟨tn, tl, tz, tf, tg⟩) = m := ⟨_, rfl⟩
      rw [hm] at hml hr10 HNB HRM ⊢
      obtain ⟨ml, mn, ms, mt⟩ := m
      unfold verV
      simp only at hr10 hml ⊢
      obtain ⟨a10, cc10, hs10⟩ := hr10.short
      rw [hml] at hs10
      subst hs10
      obtain ⟨W11, hW11⟩ : ∃ W11, w10.alloc (.cells #[.int .i64 ml, .int .i64 mn, .int .u64 (ms : Int), .slice a10 (vt.length + 1) cc10] 33) = W11 := ⟨_, rfl⟩
      have b11 : Below w10.heap.size w10 W11 := by rw [← hW11]; exact alloc_b _ _
      have HSB11 := Lib.hid ((HSBd.out.below HBx.out).below b11)
      have HSV11 := Lib.hid ((HSVd.out.below HBx.out).below b11)
      have HSM11 : Hid (SV w10.heap.size ⟨ml, mn, ms, mt⟩ (.slice a10 (vt.length + 1) cc10) W11) := Lib.hid ⟨by rw [← hW11]; exact new_block _ _ rfl, hr10.v.below b11⟩
      clear hr10 b11 hb10 C6 c0 c1 c2 c3 c4 p0 p1 p2 p3 HBt HBx hyes hm HSBd HSVd
      go_upto_region 12 with fail
      try rw [hW11]
      clear hW11
      have m0 := HSM11.out.x.c0
      have m1 := HSM11.out.x.c1
      have m2 := HSM11.out.x.c2
      have m3 := HSM11.out.x.c3
      have c0 := HSB11.out.t.c0
      simp only at m0 m1 m2 m3 c0
      have HBt := Lib.hid (show Below W11.heap.size W11 (W11.alloc (.cells #[.int .i64 tn] 3)) from alloc_b _ _)
      have hmt : mt.length ≤ 41 := by omega
      have C7 : Hid (Calls Try.prog 9 #[.agg #[.int .i64 ml, .int .i64 mn, .int .u64 (ms : Int), .slice a10 (vt.length + 1) cc10], .agg #[.int .i64 0, .int .i64 0, .int .u64 0, .slice none 0 0, .slice (some ⟨W11.heap.size, 0, none⟩) 1 1]] (W11.alloc (.cells #[.int .i64 tn] 3)) fun x w' => ApplyV (W11.alloc (.cells #[.int .i64 tn] 3)) w' x ⟨ml, mn, ms, mt⟩ (dropE tn) ∧ Below (W11.alloc (.cells #[.int .i64 tn] 3)).heap.size (W11.alloc (.cells #[.int .i64 tn] 3)) w') := Lib.hid (apply_any ⟨ml, mn, ms, mt⟩ (dropE tn) _ (.slice none 0 0) (.slice (some ⟨W11.heap.size, 0, none⟩) 1 1) _ (HSM11.out.t.below HBt.out) (tbsV_nil _) (int_one W11 tn) (by show mt.length ≤ 10000; omega) (by show (0 : Nat) ≤ 10000; omega) (by show (1 : Nat) ≤ 10000; omega) (fun t ht => right_ok HRM.out t ht) (fun t ht => by cases ht) (fun k hk => by simp [dropE] at hk; rw [hk]; exact HT.out.1))
      clear hml hmt
      go_wp2_with fail
      go_at_call 9
      (with_reducible refine C7.out.mono ?_)
      rintro _ w12 ⟨hap, hb12⟩
      have HBx := Lib.hid (bt12 HBt.out hb12)
      rcases hap with ⟨hn, -⟩ | ⟨-, r12, rfl, hr12, -⟩
      · exact absurd HNB.out.1 hn
      have e12 : nextV ⟨ml, mn, ms, mt⟩ (dropE tn) = ⟨vl, vn, vs, vt⟩ := HNB.out.2
      rw [e12] at hr12 ⊢
      unfold verV
      simp only at hr12 ⊢
      obtain ⟨a12, cc12, rfl⟩ := hr12.short
      obtain ⟨W13, hW13⟩ : ∃ W13, w12.alloc (.cells #[.int .i64 vl, .int .i64 vn, .int .u64 (vs : Int), .slice a12 vt.length cc12] 33) = W13 := ⟨_, rfl⟩
      have b13 : Below w12.heap.size w12 W13 := by rw [← hW13]; exact alloc_b _ _
      have HSB13 := Lib.hid ((HSB11.out.below HBx.out).below b13)
      have HSV13 := Lib.hid ((HSV11.out.below HBx.out).below b13)
      have HSM13 := Lib.hid ((HSM11.out.below HBx.out).below b13)
      have HSX13 : Hid (SV w12.heap.size ⟨vl, vn, vs, vt⟩ (.slice a12 vt.length cc12) W13) := Lib.hid ⟨by rw [← hW13]; exact new_block _ _ rfl, hr12.v.below b13⟩
      clear hr12 b13 hb12 C7 m0 m1 m2 m3 c0 HBt HBx e12 HSB11 HSV11 HSM11 HNB
      go_upto_region 15 with fail
      try rw [hW13]
      clear hW13
      obtain ⟨A13, hA13⟩ : ∃ A, w10.heap.size = A := ⟨_, rfl⟩
      obtain ⟨A15, hA15⟩ : ∃ A, w12.heap.size = A := ⟨_, rfl⟩
      rw [hA13] at HSM13 ⊢
      rw [hA15] at HSX13 ⊢
      clear hA13 hA15
      have HCL := Lib.hid (show ∀ W, Below W13.heap.size W13 W → (W.cell? ⟨A5, 0, none⟩ = some (.int .i64 vl) ∧ W.cell? ⟨A5, 1, none⟩ = some (.int .i64 vn) ∧ W.cell? ⟨A5, 2, none⟩ = some (.int .u64 (vs : Int)) ∧ W.cell? ⟨A5, 3, none⟩ = some (.slice a2 vt.length cc2) ∧ W.cell? ⟨A13, 3, none⟩ = some (.slice a10 (vt.length + 1) cc10) ∧ W.cell? ⟨A15, 0, none⟩ = some (.int .i64 vl) ∧ W.cell? ⟨A15, 1, none⟩ = some (.int .i64 vn) ∧ W.cell? ⟨A15, 2, none⟩ = some (.int .u64 (vs : Int)) ∧ W.cell? ⟨A15, 3, none⟩ = some (.slice a12 vt.length cc12)) from fun W h => ⟨(HSV13.out.x.below h).c0, (HSV13.out.x.below h).c1, (HSV13.out.x.below h).c2, (HSV13.out.x.below h).c3, (HSM13.out.x.below h).c3, (HSX13.out.x.below h).c0, (HSX13.out.x.below h).c1, (HSX13.out.x.below h).c2, (HSX13.out.x.below h).c3⟩)
      have CPV := Lib.hid (fun W => plainV_any vl vn vs a2 vt.length cc2 W)
      have CSV := Lib.hid (fun W (h : Below W13.heap.size W13 W) => sameV_yes vl vn vs _ _ vt W (HSX13.out.t.below h) (HSV13.out.t.below h) (by omega))
      have hwv : IntKind.i64.wrap ((vt.length : Int) + 1) = (vt.length : Int) + 1 := by rw [IntKind.wrap_i64]; omega
      have hbz : Below W13.heap.size W13 W13.drew := (Below.refl _ _).drew
      have HBZ := Lib.hid hbz
      obtain ⟨e0, e1, e2, e3, e4, f0, f1, f2, f3⟩ := HCL.out _ hbz
      clear hbz
      go_region_held3 (fun W => (W.cell? ⟨A5, 0, none⟩ = some (.int .i64 vl) ∧ W.cell? ⟨A5, 1, none⟩ = some (.int .i64 vn) ∧ W.cell? ⟨A5, 2, none⟩ = some (.int .u64 (vs : Int)) ∧ W.cell? ⟨A5, 3, none⟩ = some (.slice a2 vt.length cc2) ∧ W.cell? ⟨A13, 3, none⟩ = some (.slice a10 (vt.length + 1) cc10) ∧ W.cell? ⟨A15, 0, none⟩ = some (.int .i64 vl) ∧ W.cell? ⟨A15, 1, none⟩ = some (.int .i64 vn) ∧ W.cell? ⟨A15, 2, none⟩ = some (.int .u64 (vs : Int)) ∧ W.cell? ⟨A15, 3, none⟩ = some (.slice a12 vt.length cc12)))
        (first | go_keep | with_reducible exact HCL.out _ HBd.out | with_reducible exact HCL.out _ HBb.out | with_reducible exact HCL.out _ HBa.out)
        (first
          | (go_at_call 8; (with_reducible refine (CA.out _).mono ?_); rintro _ wa ⟨rfl, hba⟩; have HBa := Lib.hid (bt12 HBZ.out hba))
          | (go_at_call 14; (with_reducible refine (CPV.out _).mono ?_); rintro _ wb ⟨rfl, hbb⟩; have HBb := Lib.hid (bt12 HBa.out hbb))
          | (go_at_call 13; (with_reducible refine (CSV.out _ HBb.out).mono ?_); rintro _ wd ⟨rfl, hbd⟩; have HBd := Lib.hid (bt12 HBb.out hbd))
          | fail)
      have HB15 := Lib.hid (HSB13.out.below HBd.out).b
      clear CPV CSV HCL e0 e1 e2 e3 e4 f0 f1 f2 f3 HBZ HBa HBb hba hbb hbd HSB13 HSV13 HSX13 HSM13 HBd
      go_wp2_with fail
      go_ret
      exact ⟨rfl, HB15.out⟩
end Go.Proofs.Ytmcgfafkggannaa
