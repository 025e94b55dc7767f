/- ManiWhole's walk. -/
import Derived.Test.YtlecffpjcjlabaaGreatP13Q
import Derived.Deep.CutBlock
import Derived.Deep.CutRange
namespace Go.Proofs.YtlecffpjcjlabaaGreat
open Go.RowKit Go.Shelf

theorem sw_start {w w3 W5 : World} {p M X Z : Nat} {s1 : St} {m1 : Mf} {Qr : Nat → Prop} {ra : Option Addr} {rc : Nat} (hq : ∃ rs z, WholeI vStart 1000000 0 s1 m1 rs z) (hM : MSt w p M (0 + 24) (0 + 4000 + 9) s1 m1 false Qr w3) (b : Below w3.heap.size w3 W5) (hX : w3.heap.size = X) (hZ : Z = X + 1) (hs : W5.heap.size = X + 2)
    (hx : BoxV X m1.v.log m1.v.next m1.v.seq (.slice ra m1.v.ts.length rc) W5) (hz : BoxV Z m1.v.log m1.v.next m1.v.seq (.slice ra m1.v.ts.length rc) W5) (hr : RowQ Qr W5 (.slice ra m1.v.ts.length rc) m1.v.ts) (hQ : ∀ j, Qr j → j ≠ X ∧ j ≠ Z) : SW p M X Z 0 w W5 := by
  obtain ⟨rs, z, k⟩ := hq
  have k2 : WholeI m1.v 1000000 0 s1 m1 rs z := ⟨k.held, Like.refl _, Int.le_refl _, k.high, k.few, k.size⟩
  refine ⟨m1.v, m1.v, s1, m1, false, Qr, ⟨k2.sound _ False, k.held.fit.right, k.few, k.few, fun _ => ⟨rfl, rs, z, k2⟩⟩, (hM.made b fun j hj => ?_).up (by omega) (by omega), ⟨ra, rc, hx, hr⟩, ⟨ra, rc, hz, hr⟩, hQ, by omega⟩
  rcases hj with (hj | hj) | hj
  · exact .inr ⟨by omega, by omega⟩
  · exact .inr ⟨by omega, by omega⟩
  · exact .inl hj
theorem wend_first {w W5 : World} {p X Z : Nat} {er : Int} {s1 : St} {Qr : Nat → Prop} {ra : Option Addr} {rc : Nat} (he : er ≠ 0) (h : Hs (fun j => j < w.heap.size ∨ (j = X ∨ j = Z) ∨ Qr j) w.heap.size p (0 + 24) (0 + 4000 + 9) s1 W5) (hx : BoxV X Vr.zero.log Vr.zero.next Vr.zero.seq (.slice ra Vr.zero.ts.length rc) W5) (hz : BoxV Z Vr.zero.log Vr.zero.next Vr.zero.seq (.slice ra Vr.zero.ts.length rc) W5) (hr : RowQ Qr W5 (.slice ra Vr.zero.ts.length rc) Vr.zero.ts)
    (hQ : ∀ j, Qr j → j ≠ X ∧ j ≠ Z) (hb : Below w.heap.size w W5) (hX : w.heap.size ≤ X) (hZ : Z = X + 1) (hC : ∃ C, Sound (ConM C True) s1 ∧ ∀ j v, C j v → v = vStart ∧ FitV j v) : WEnd p X Z er w W5 :=
  ⟨s1, Vr.zero, Vr.zero, Qr, h.up (by omega) (by omega), ⟨ra, rc, hx, hr⟩, ⟨ra, rc, hz, hr⟩, hQ, by omega, hb, Nat.zero_le _, Nat.zero_le _, hX, by omega, fun x => absurd x he, fun _ => hC⟩
set_option maxHeartbeats 16000000 in
set_option maxRecDepth 100000 in
theorem maniWhole_hard (a : Option Addr) (len cap : Nat) (l : List EdS) (fuse dir : Int) (ka : Option Addr) (klen kcap : Nat) (ks : List Int) (agn dir2 : Int) (ka2 : Option Addr) (klen2 kcap2 : Nat) (ks2 : List Int) (w : World) (hI : IsEds w a len l) (hK : IsIs w ka klen ks) (hKc : klen ≤ kcap ∧ kcap ≤ maxLen) (hK2 : IsIs w ka2 klen2 ks2) (hKc2 : klen2 ≤ kcap2 ∧ kcap2 ≤ maxLen)
    (hl : len ≤ 30) (hf0 : 0 ≤ fuse) (hf1 : fuse ≤ 9223372036854775807) (ha0 : 0 ≤ agn) (ha1 : agn ≤ 9223372036854775807) (hk : klen ≤ 20) (hk2 : klen2 ≤ 20) :
    Calls Tryz.prog 5 #[.slice a len cap, .int .i64 fuse, .int .i64 dir, .slice ka klen kcap, .int .i64 agn, .int .i64 dir2, .slice ka2 klen2 kcap2] w fun e w' => e = .returned (.bool true) ∧ Below w.heap.size w w' := by
  obtain ⟨⟨C, q1, q2⟩, q3, q4⟩ := whole_start fuse
  obtain ⟨s0, hs0⟩ : ∃ s0, ({ St.new 0 with fuse := fuse } : St) = s0 := ⟨_, rfl⟩
  have hG : GoodO 4000 s0 := goodO_new (Nat.le_trans start_len (by decide)) (by rw [← hs0]; show (7 : Int) ≠ 0; decide)
  rw [hs0] at q1 q3 q4
  rcases hop : openM s0 with ⟨s1, er, m1⟩
  rw [hop] at q1 q3 q4
  simp only at q1 q3 q4
  have hfew : er = 0 → m1.v.ts.length ≤ 10000 := fun hz => by obtain ⟨rs, z, k⟩ := q3 hz; exact Nat.le_trans k.few (by omega)
  have HQ := Lib.hid (And.intro q1 (And.intro q2 (And.intro q3 q4)))
  have d1 : decide (30 < (len : Int)) = false := decide_eq_false (by omega)
  have d1' : decide (30 < len) = false := decide_eq_false (by omega)
  have d2 : decide (fuse < 0) = false := decide_eq_false (by omega)
  have d3 : decide (agn < 0) = false := decide_eq_false (by omega)
  have d4 : decide (20 < (klen : Int)) = false := decide_eq_false (by omega)
  have d4' : decide (20 < klen) = false := decide_eq_false (by omega)
  have d5 : decide (20 < (klen2 : Int)) = false := decide_eq_false (by omega)
  have d5' : decide (20 < klen2) = false := decide_eq_false (by omega)
  have CA := Lib.hid malive_any
  have C1 := Lib.hid (hs_new 0 (by omega) w)
  have C2 := Lib.hid (fun (W : World) (p : Nat) (h : Hs (fun k => k < w.heap.size) w.heap.size p 0 0 s0 W) (hb : Below w.heap.size w W) => start_any hb h (by omega) (by omega) hG hop hfew)
  have HI := Lib.hid hI
  have HK := Lib.hid (And.intro hK (And.intro hKc (And.intro hK2 hKc2)))
  have HS0 := Lib.hid hs0
  clear q1 q2 q3 q4 hG hI hK hKc hK2 hKc2 hs0 hop hfew
  go_enter Tryz.func5, Tryz.ntmps5
  go_wp2_with fail
  go_at_call 10
  (with_reducible refine C1.out.mono ?_)
  rintro _ w1 ⟨p, rfl, h1, b1⟩
  have CF := Lib.hid (hs_fuse13 h1 fuse hf1)
  have HB1 := Lib.hid b1
  clear h1 b1 C1
  go_wp2_with fail
  go_at_call 26
  (with_reducible refine CF.out.mono ?_)
  rintro _ w2 ⟨rfl, h2, b2, -⟩
  rw [HS0.out] at h2
  have C2' := Lib.hid (C2.out w2 p h2 (HB1.out.trans b2))
  clear h2 b2 CF C2 HB1
  go_wp2_with fail
  go_at_call 15
  (with_reducible refine C2'.out.mono ?_)
  rintro _ w3 ⟨pv, v0, ra0, rc0, Qr, rfl, b3, h3, hr3, hq3, hE0, hE1⟩
  obtain ⟨W4, hW4⟩ : ∃ W4, w3.alloc (.cells #[.int .i64 v0.log, .int .i64 v0.next, .int .u64 (v0.seq : Int), .slice ra0 v0.ts.length rc0] 63) = W4 := ⟨_, rfl⟩
  obtain ⟨W5, hW5⟩ : ∃ W5, W4.alloc (.cells #[.int .i64 v0.log, .int .i64 v0.next, .int .u64 (v0.seq : Int), .slice ra0 v0.ts.length rc0] 63) = W5 := ⟨_, rfl⟩
  obtain ⟨X, hX⟩ : ∃ X, w3.heap.size = X := ⟨_, rfl⟩
  obtain ⟨Z, hZ⟩ : ∃ Z, W4.heap.size = Z := ⟨_, rfl⟩
  have hZX : Z = X + 1 := by rw [← hZ, ← hW4, ← hX]; simp
  have b4 : Below w3.heap.size w3 W4 := by rw [← hW4]; exact (Below.refl _ _).alloc (Nat.le_refl _) _
  have b45 : Below W4.heap.size W4 W5 := by rw [← hW5]; exact (Below.refl _ _).alloc (Nat.le_refl _) _
  have b35 : Below w3.heap.size w3 W5 := b4.trans (b45.mono b4.size)
  have x4 : BoxV X v0.log v0.next v0.seq (.slice ra0 v0.ts.length rc0) W4 := by rw [← hW4, ← hX]; exact new_block _ _ rfl
  have x5 := x4.below b45
  have z5 : BoxV Z v0.log v0.next v0.seq (.slice ra0 v0.ts.length rc0) W5 := by rw [← hW5, ← hZ]; exact new_block _ _ rfl
  have hlt3 := h3.lt
  have hr5 : RowQ Qr W5 (.slice ra0 v0.ts.length rc0) v0.ts := hr3.kept fun j hj => b35.block j (hlt3 j (.inr hj))
  have hXw : w.heap.size ≤ X := by rw [← hX]; exact b3.size
  have hQr : ∀ j, Qr j → j ≠ X ∧ j ≠ Z := fun j hj => by have := hlt3 j (.inr hj); omega
  have hs5 : W5.heap.size = X + 2 := by rw [← hW5]; simp; omega
  have h5 : Hs (fun j => j < w.heap.size ∨ (j = X ∨ j = Z) ∨ Qr j) w.heap.size p (0 + 24) (0 + 4000 + 9) s1 W5 := h3.below b35 fun j hj => by
    rcases hj with hj | (hj | hj) | hj
    · exact .inl (.inl hj)
    · exact .inr ⟨by omega, by omega⟩
    · exact .inr ⟨by omega, by omega⟩
    · exact .inl (.inr hj)
  have e0 := x4.c0
  have e1 := x4.c1
  have e2 := x4.c2
  have e3 := x4.c3
  have H5 := Lib.hid (And.intro h5 (And.intro x5 (And.intro z5 (And.intro hr5 (And.intro hQr (And.intro (b3.trans (b35.mono b3.size)) (And.intro hXw hZX)))))))
  have HE := Lib.hid (And.intro hE0 (And.intro hE1 (And.intro b35 hs5)))
  have HW4 := Lib.hid hW4
  have HW5 := Lib.hid hW5
  have HX := Lib.hid hX
  have HZ := Lib.hid hZ
  obtain ⟨fb, hfb⟩ : ∃ fb, (er != 0) = fb := ⟨_, rfl⟩
  have HFB := Lib.hid hfb
  clear h5 x4 x5 z5 hr5 hQr b3 b35 b4 b45 h3 hr3 hq3 hE0 hE1 hXw hs5 hW4 hW5 hX hZ hZX hlt3 C2'
  go_upto_region 8 with fail
  rw [HW4.out, HX.out]
  go_upto_region 10 with fail
  rw [HW5.out, HZ.out]
  go_upto_block 0 with fail
  go_cut [] (fun wx => WEnd p X Z er w wx)
  case first =>
    by_cases he : er = 0
    · subst he
      obtain ⟨hv, M, rfl, hM⟩ := HE.out.1 rfl
      obtain ⟨h5, x5, z5, hr5, hQr, hb5, hXw, hZX⟩ := H5.out
      rw [hv] at x5 z5 hr5
      have HSW := Lib.hid (sw_start (HQ.out.2.2.1 rfl) hM HE.out.2.2.1 HX.out hZX HE.out.2.2.2 x5 z5 hr5 hQr)
      clear h5 x5 z5 hr5 hQr hb5 hXw hZX hM hv
      go_wp2_with fail
      go_loopw [21] (fun iv wr => ∃ i : Nat, iv = .int .i64 (i : Int) ∧ i ≤ len ∧ SW p M X Z i w wr) (fun iv _ => len - (intOf iv).toNat)
      case atStart => exact ⟨0, rfl, Nat.zero_le _, HSW.out⟩
      case round =>
        obtain ⟨i, rfl, hi, hsw⟩ := hrel
        have HSWI := Lib.hid hsw
        obtain ⟨now, nx, s, m, br, R, hW, hM, hX, hZ, hR, hXZ⟩ := hsw
        by_cases hlt : i < len
        · have hil : (i : Int) < (len : Int) := by omega
          cases hon : s.on with
          | false =>
            have CON := Lib.hid (mst_on hM hon)
            have HEND := Lib.hid (sw_end (by omega) HSWI.out)
            clear hW hM hX hZ hR hXZ hon
            go_wp2_with (first | (go_at_call 27; (with_reducible refine CON.out.mono ?_); rintro _ _ ⟨rfl, rfl⟩) | fail)
            go_meet
            exact HEND.out
          | true =>
            have CON := Lib.hid (mst_on hM hon)
            obtain ⟨b, off, e, aa, ac, da, dc, rfl, hbl, hEw, p0, p1, p2, p3, p4⟩ := HI.out.at (Below.refl _ _) hlt
            have HCW := Lib.hid (show ∀ W, Below w.heap.size w W → EdW W e (.slice aa e.add.length ac) (.slice da e.drop.length dc) ∧ W.cell? ⟨b, off + i * 5, none⟩ = some (.int .i64 e.log) ∧ W.cell? ⟨b, off + i * 5 + 1, none⟩ = some (.int .i64 e.next) ∧ W.cell? ⟨b, off + i * 5 + 2, none⟩ = some (.int .u64 (e.seq : Int)) ∧ W.cell? ⟨b, off + i * 5 + 3, none⟩ = some (.slice aa e.add.length ac) ∧ W.cell? ⟨b, off + i * 5 + 4, none⟩ = some (.slice da e.drop.length dc) from fun W hb =>
              ⟨hEw.below hb, (hb.cell (p := ⟨b, _, none⟩) hbl).trans p0, (hb.cell (p := ⟨b, _, none⟩) hbl).trans p1, (hb.cell (p := ⟨b, _, none⟩) hbl).trans p2, (hb.cell (p := ⟨b, _, none⟩) hbl).trans p3, (hb.cell (p := ⟨b, _, none⟩) hbl).trans p4⟩)
            obtain ⟨hE, q0, q1, q2, q3, q4⟩ := HCW.out wr hM.bel
            clear hEw p0 p1 p2 p3 p4
            have CL := light_any e _ _ wr hE
            unfold ediV at CL
            have CL := Lib.hid CL
            have hbr : b < wr.heap.size := Nat.lt_of_lt_of_le hbl hM.size
            have HEW := Lib.hid hE
            have HM := Lib.hid hM
            have HWS := Lib.hid (And.intro hW (And.intro hX (And.intro hZ (And.intro hR (And.intro hXZ hon)))))
            clear hE hM hW hX hZ hR hXZ hon
            go_wp2_with (first | (go_at_call 27; (with_reducible refine CON.out.mono ?_); rintro _ _ ⟨rfl, rfl⟩) | fail)
            go_at_call 25
            (with_reducible refine CL.out.mono ?_)
            rintro _ w6 ⟨t, rfl, ht, b6⟩
            have r0 := (b6.cell (p := ⟨b, off + i * 5, none⟩) hbr).trans q0
            have r1 := (b6.cell (p := ⟨b, off + i * 5 + 1, none⟩) hbr).trans q1
            have r2 := (b6.cell (p := ⟨b, off + i * 5 + 2, none⟩) hbr).trans q2
            have r3 := (b6.cell (p := ⟨b, off + i * 5 + 3, none⟩) hbr).trans q3
            have r4 := (b6.cell (p := ⟨b, off + i * 5 + 4, none⟩) hbr).trans q4
            have HB6 := Lib.hid b6
            have HB06 := Lib.hid (HM.out.bel.trans (b6.mono HM.out.size))
            clear q0 q1 q2 q3 q4 CL b6 CON
            cases t with
            | false =>
              go_wp2_with (go_at_call 9; (with_reducible refine (CA.out _).mono ?_); rintro _ w7 ⟨rfl, b7⟩)
              go_ret
              exact ⟨rfl, HB06.out.trans (b7.mono HB06.out.size)⟩
            | true =>
              obtain ⟨l1, l2, l3⟩ := ht rfl
              by_cases hx : e.next ≤ 1000000
              · have dx : decide (1000000 < e.next) = false := decide_eq_false (by omega)
                obtain ⟨hW, hX, hZ, hR, hXZ, hon⟩ := HWS.out
                have hok := HEW.out.ok l1 l2 l3
                obtain ⟨rfl, rs, z, hwI⟩ := hW.on hon
                have hM6 := HM.out.same HB6.out
                have hltm := HM.out.lt
                have hX6 : VerAt R X now w6 := hX.kept (HB6.out.block X (hltm X (.inl (.inl rfl)))) (fun j hj => HB6.out.block j (hltm j (.inr hj))) fun _ x => x
                have hZ6 : VerAt R Z nx w6 := hZ.kept (HB6.out.block Z (hltm Z (.inl (.inr rfl)))) (fun j hj => HB6.out.block j (hltm j (.inr hj))) fun _ x => x
                obtain ⟨ra, rc, bx, rx⟩ := hX6
                have hnow : now.ts.length ≤ 10000 := by have := hW.few; omega
                have hE6 := (HCW.out w6 HB06.out).1
                have HQ9 := Lib.hid (show ∀ W', Below w6.heap.size w6 W' → W'.cell? ⟨X, 0, none⟩ = some (.int .i64 now.log) ∧ W'.cell? ⟨X, 1, none⟩ = some (.int .i64 now.next) ∧ W'.cell? ⟨X, 2, none⟩ = some (.int .u64 (now.seq : Int)) ∧ W'.cell? ⟨X, 3, none⟩ = some (.slice ra now.ts.length rc) ∧ W'.cell? ⟨b, off + i * 5, none⟩ = some (.int .i64 e.log) ∧ W'.cell? ⟨b, off + i * 5 + 1, none⟩ = some (.int .i64 e.next) ∧ W'.cell? ⟨b, off + i * 5 + 2, none⟩ = some (.int .u64 (e.seq : Int)) ∧ W'.cell? ⟨b, off + i * 5 + 3, none⟩ = some (.slice aa e.add.length ac) ∧ W'.cell? ⟨b, off + i * 5 + 4, none⟩ = some (.slice da e.drop.length dc) from fun W' hb => by
                  have x' := bx.below hb
                  obtain ⟨-, c0, c1, c2, c3, c4⟩ := HCW.out W' (HB06.out.trans (hb.mono HB06.out.size))
                  exact ⟨x'.c0, x'.c1, x'.c2, x'.c3, c0, c1, c2, c3, c4⟩)
                obtain ⟨k0, k1, k2, k3, -⟩ := HQ9.out w6 (Below.refl _ _)
                have HBC := Lib.hid (show Below w6.heap.size w6 (w6.alloc (.cells #[.int .i64 0, .int .i64 0, .int .u64 0, .slice none 0 0] 63)).drew from ((Below.refl _ _).alloc (Nat.le_refl _) _).drew)
                have HZA := Lib.hid (show BoxV w6.heap.size 0 0 0 (.slice none 0 0) (w6.alloc (.cells #[.int .i64 0, .int .i64 0, .int .u64 0, .slice none 0 0] 63)).drew from (new_block _ _ rfl : (w6.alloc (.cells #[.int .i64 0, .int .i64 0, .int .u64 0, .slice none 0 0] 63)).heap[w6.heap.size]? = _))
                by_cases hap : Applies now e
                · obtain ⟨nv, hnv⟩ : ∃ nv, nextV now e = nv := ⟨_, rfl⟩
                  have HA := fun (W : World) (hb : Below w6.heap.size w6 W) => apply_told now e ra aa da rc ac dc W (rx.row.v.below hb) (hE6.a.below hb) (hE6.d.below hb) hnow (.inr hW.right) hok hap
                  rw [hnv] at HA
                  have HA := Lib.hid HA
                  have HP := Lib.hid (And.intro hW (And.intro hM6 (And.intro (show VerAt R X now w6 from ⟨ra, rc, bx, rx⟩) (And.intro hZ6 (And.intro hR (And.intro hXZ (And.intro hon (And.intro hwI (And.intro hok (And.intro hap (And.intro hnv (And.intro l1 (And.intro l3 hx)))))))))))))
                  clear hW hM6 hZ6 hR hXZ hon hwI hok hap hnv hX hZ hltm bx rx hE6 ht l1 l2 l3
                  go_upto_region 15 with fail
                  go_cut [22, 23] from 95 to 103 (fun xv ev wx => ∃ X6 W6, W6 = wx ∧ xv = .pointer (some ⟨X6, 0, none⟩) ∧ ev = .int .i64 0 ∧ Hid (AppS w6 nv X6 W6))
                  case first =>
                    go_region_held3 (fun W' => W'.cell? ⟨X, 0, none⟩ = some (.int .i64 now.log) ∧ W'.cell? ⟨X, 1, none⟩ = some (.int .i64 now.next) ∧ W'.cell? ⟨X, 2, none⟩ = some (.int .u64 (now.seq : Int)) ∧ W'.cell? ⟨X, 3, none⟩ = some (.slice ra now.ts.length rc) ∧ W'.cell? ⟨b, off + i * 5, none⟩ = some (.int .i64 e.log) ∧ W'.cell? ⟨b, off + i * 5 + 1, none⟩ = some (.int .i64 e.next) ∧ W'.cell? ⟨b, off + i * 5 + 2, none⟩ = some (.int .u64 (e.seq : Int)) ∧ W'.cell? ⟨b, off + i * 5 + 3, none⟩ = some (.slice aa e.add.length ac) ∧ W'.cell? ⟨b, off + i * 5 + 4, none⟩ = some (.slice da e.drop.length dc))
                      (first | (go_keep; done) | exact HQ9.out _ (Below.refl _ _).drew | exact HQ9.out _ BB | exact HQ9.out _ (BB.alloc BB.size _) | exact HQ9.out _ (below_set4 BB w6.heap.size (Nat.le_refl _) _ _ _ _) | exact HQ9.out _ (((Below.refl _ _).drew).alloc (Nat.le_refl _) _) | exact HQ9.out _ (((Below.refl _ _).alloc (Nat.le_refl _) _).drew) | fail)
                      (first
                        | (go_at_call 28; (with_reducible refine (HA.out w6.drew (Below.refl _ _).drew).mono ?_); rintro _ w7 ⟨ra7, rc7, rfl, hr7, ho7, b7⟩; have BB : Below w6.heap.size w6 w7 := (Below.refl _ _).drew.trans b7)
                        | (go_at_call 28; (with_reducible refine (HA.out _ HBC.out).mono ?_); rintro _ w7 ⟨ra7, rc7, rfl, hr7, ho7, b7⟩; have BB : Below w6.heap.size w6 w7 := HBC.out.trans (b7.mono HBC.out.size); have zb := HZA.out.below b7; have g0 := zb.c0; have g1 := zb.c1; have g2 := zb.c2; have g3 := zb.c3; have f0 := zb.f 0; have f1 := zb.f 1; have f2 := zb.f 2; have f3 := zb.f 3)
                        | fail)
                    all_goals go_wp2_with fail
                    all_goals go_meet
                    all_goals first
                      | exact ⟨_, _, rfl, rfl, rfl, Lib.hid (appS_new BB hr7 fun k hk => ho7 k hk)⟩
                      | exact ⟨_, _, rfl, rfl, rfl, Lib.hid (appS_set zb (Nat.le_refl _) BB hr7 fun k hk => ⟨by have h1 := ho7 k hk; simp at h1; omega, by have h1 := ho7 k hk; simp at h1; omega⟩)⟩
                      | fail
                  case rest =>
                    obtain ⟨X6, W6, rfl, rfl, rfl, HS6⟩ := hcut
                    obtain ⟨ra6, rc6, Q6, hx6, hr6, hq6, hge, hb6⟩ := HS6.out
                    obtain ⟨hW, hM6, hX6, hZ6, hR, hXZ, hon, hwI, hok, hap, hnv, l1, l3, -⟩ := HP.out
                    have hlt6 := hM6.lt
                    obtain ⟨rz, cz, bz, -⟩ := hZ6
                    have bz6 := bz.below hb6
                    obtain ⟨hM7, vX7, vZ7, hR7, x7, b7w⟩ := sw_stored hM6 hX6 hR hXZ _ _ _ _ bz6 hx6 hr6 hq6 hge hb6
                    have hr7 : RowQ (fun j => R j ∨ j = X6 ∨ Q6 j) (set4V W6 Z nv.log nv.next (nv.seq : Int) (.slice ra6 nv.ts.length rc6)) (.slice ra6 nv.ts.length rc6) nv.ts := fun w'' hw => hr6 w'' fun j hj => (hw j (.inr (.inr hj))).trans (set4V_block _ _ _ _ _ _ _ (hR7 j (.inr (.inr hj))).2)
                    obtain ⟨W7, hW7⟩ : ∃ W7, set4V W6 Z nv.log nv.next (nv.seq : Int) (.slice ra6 nv.ts.length rc6) = W7 := ⟨_, rfl⟩
                    rw [hW7] at hM7 vX7 vZ7 x7 b7w hr7
                    unfold set4V at hW7
                    have e0 := hx6.c0
                    have e1 := hx6.c1
                    have e2 := hx6.c2
                    have e3 := hx6.c3
                    have g0 := bz6.c0
                    have g1 := bz6.c1
                    have g2 := bz6.c2
                    have g3 := bz6.c3
                    have f0 := bz6.f 0
                    have f1 := bz6.f 1
                    have f2 := bz6.f 2
                    have f3 := bz6.f 3
                    obtain ⟨hE7, c0, c1, c2, c3, c4⟩ := HCW.out W7 b7w
                    have hmf := hwI.few
                    have hnl := next_len m.v e
                    have hK := next_whole_len hwI.held.fit.right hok (by omega)
                    rcases hadd : addM s m false e with ⟨sr, ea, mr, br'⟩
                    have CADD := Lib.hid (mst_add hM7 (by omega) (by omega) hwI.held.fit.num (.inr hwI.held.fit.right) (by omega) e aa ac da dc hE7.a hE7.d hok 723000 (light_putE hok l1 l3) (by omega) (by omega) 1515000 (by omega) sr ea mr br' hadd)
                    have STEP := hW.step hon hap l1 (by omega) (by omega) (by omega) (by omega) hx hadd
                    rw [hnv] at STEP
                    have STEP := Lib.hid STEP
                    have H7 := Lib.hid (And.intro vX7 (And.intro vZ7 (And.intro hR7 (And.intro x7 (And.intro hr7 hXZ)))))
                    have HW7 := Lib.hid hW7
                    clear hx6 hr6 hq6 hge hb6 hW hM6 hX6 hR hXZ hon hwI hok hap hnv l1 l3 hlt6 bz bz6 hM7 vX7 vZ7 hR7 x7 b7w hr7 hW7 hE7 hmf hnl hK hadd HA HQ9 HBC HZA HS6 k0 k1 k2 k3
                    go_upto_region 18 with fail
                    rw [HW7.out]
                    clear e0 e1 e2 e3 g0 g1 g2 g3 f0 f1 f2 f3
                    by_cases hea : ea = 0
                    · subst hea
                      have STEP1 := Lib.hid (STEP.out.1 rfl)
                      clear STEP
                      go_wp2_with fail
                      go_at_call 12
                      (with_reducible refine CADD.out.mono ?_)
                      rintro _ W8 ⟨rfl, hM8, hb8, hk8⟩
                      obtain ⟨vX7, vZ7, hR7, x7, hr7, hXZ⟩ := H7.out
                      have hkX := hk8 X (.inl (.inl rfl))
                      have hkZ := hk8 Z (.inl (.inr rfl))
                      obtain ⟨ry, cy, by7, -⟩ := vX7
                      have y8 : BoxV X now.log now.next now.seq (.slice ry now.ts.length cy) W8 := hkX.trans by7
                      have x8 : BoxV X6 nv.log nv.next nv.seq (.slice ra6 nv.ts.length rc6) W8 := (hk8 X6 (.inr (.inr (.inl rfl)))).trans x7
                      have vZ8 := vZ7.kept hkZ (fun j hj => hk8 j (.inr hj)) fun _ x => x
                      have HEND := Lib.hid (sw_ok STEP1.out hM8 (by omega) (by omega) y8 vZ8 hR7 hXZ (hr7.kept fun j hj => hk8 j (.inr hj)) x8)
                      have e0 := x8.c0
                      have e1 := x8.c1
                      have e2 := x8.c2
                      have e3 := x8.c3
                      have g0 := y8.c0
                      have g1 := y8.c1
                      have g2 := y8.c2
                      have g3 := y8.c3
                      have f0 := y8.f 0
                      have f1 := y8.f 1
                      have f2 := y8.f 2
                      have f3 := y8.f 3
                      clear hM8 hb8 hk8 vZ7 hR7 x7 hr7 hXZ hkX hkZ by7 y8 x8 vZ8 CADD
                      go_wp2_with fail
                      go_roundw
                      case rel => exact ⟨i + 1, by go_num, by omega, HEND.out⟩
                      case measure => simp [intOf]; omega
                    · have dea : (ea == 0) = false := by simpa using hea
                      have STEP1 := Lib.hid (STEP.out.2 hea)
                      clear STEP hea
                      go_wp2_with fail
                      go_at_call 12
                      (with_reducible refine CADD.out.mono ?_)
                      rintro _ W8 ⟨rfl, hM8, hb8, hk8⟩
                      obtain ⟨vX7, vZ7, hR7, x7, hr7, hXZ⟩ := H7.out
                      have HEND := Lib.hid (show SW p M X Z (i + 1) w W8 from ⟨now, nv, sr, mr, br', _, STEP1.out.more (by omega) (by omega), hM8.up (by omega) (by omega), vX7.kept (hk8 X (.inl (.inl rfl))) (fun j hj => hk8 j (.inr hj)) fun _ x => x, vZ7.kept (hk8 Z (.inl (.inr rfl))) (fun j hj => hk8 j (.inr hj)) fun _ x => x, hR7, hXZ⟩)
                      clear hM8 hb8 hk8 vX7 vZ7 hR7 x7 hr7 hXZ CADD
                      go_wp2_with fail
                      go_roundw
                      case rel => exact ⟨i + 1, by go_num, by omega, HEND.out⟩
                      case measure => simp [intOf]; omega
                · have HA := Lib.hid (fun (W : World) (hb : Below w6.heap.size w6 W) => apply_no now e ra aa da rc ac dc W (rx.row.v.below hb) (hE6.a.below hb) (hE6.d.below hb) hnow (.inr hW.right) hok hap)
                  have HP := Lib.hid (fun W' hb => sw_no (w' := W') hW hM6 (show VerAt R X now w6 from ⟨ra, rc, bx, rx⟩) hZ6 hR hXZ hb)
                  clear hW hM6 hZ6 hR hXZ hon hwI hok hap hX hZ hltm bx rx hE6 ht l1 l2 l3
                  go_upto_region 15 with fail
                  go_region_held3 (fun W' => W'.cell? ⟨X, 0, none⟩ = some (.int .i64 now.log) ∧ W'.cell? ⟨X, 1, none⟩ = some (.int .i64 now.next) ∧ W'.cell? ⟨X, 2, none⟩ = some (.int .u64 (now.seq : Int)) ∧ W'.cell? ⟨X, 3, none⟩ = some (.slice ra now.ts.length rc) ∧ W'.cell? ⟨b, off + i * 5, none⟩ = some (.int .i64 e.log) ∧ W'.cell? ⟨b, off + i * 5 + 1, none⟩ = some (.int .i64 e.next) ∧ W'.cell? ⟨b, off + i * 5 + 2, none⟩ = some (.int .u64 (e.seq : Int)) ∧ W'.cell? ⟨b, off + i * 5 + 3, none⟩ = some (.slice aa e.add.length ac) ∧ W'.cell? ⟨b, off + i * 5 + 4, none⟩ = some (.slice da e.drop.length dc))
                    (first | (go_keep; done) | exact HQ9.out _ (Below.refl _ _).drew | exact HQ9.out _ BB | exact HQ9.out _ (BB.alloc BB.size _) | exact HQ9.out _ (below_set4 BB w6.heap.size (Nat.le_refl _) _ _ _ _) | exact HQ9.out _ (((Below.refl _ _).drew).alloc (Nat.le_refl _) _) | exact HQ9.out _ (((Below.refl _ _).alloc (Nat.le_refl _) _).drew) | fail)
                    (first
                      | (go_at_call 28; (with_reducible refine (HA.out w6.drew (Below.refl _ _).drew).mono ?_); rintro _ w7 ⟨rfl, b7⟩; have BB : Below w6.heap.size w6 w7 := (Below.refl _ _).drew.trans b7)
                      | (go_at_call 28; (with_reducible refine (HA.out _ HBC.out).mono ?_); rintro _ w7 ⟨rfl, b7⟩; have BB : Below w6.heap.size w6 w7 := HBC.out.trans (b7.mono HBC.out.size); have zb := HZA.out.below b7; have g0 := zb.c0; have g1 := zb.c1; have g2 := zb.c2; have g3 := zb.c3; have f0 := zb.f 0; have f1 := zb.f 1; have f2 := zb.f 2; have f3 := zb.f 3)
                      | fail)
                  all_goals go_wp2_with fail
                  all_goals go_roundw
                  all_goals first
                    | exact ⟨i + 1, by go_num, by omega, HP.out _ (BB.alloc BB.size _)⟩
                    | exact ⟨i + 1, by go_num, by omega, HP.out _ (below_set4 BB w6.heap.size (Nat.le_refl _) _ _ _ _)⟩
                    | (simp [intOf]; omega)
              · have dx : decide (1000000 < e.next) = true := decide_eq_true (by omega)
                clear ht l1 l2 l3
                go_wp2_with (go_at_call 9; (with_reducible refine (CA.out _).mono ?_); rintro _ w7 ⟨rfl, b7⟩)
                go_ret
                exact ⟨rfl, HB06.out.trans (b7.mono HB06.out.size)⟩
        · have HEND := Lib.hid (sw_end (by omega) HSWI.out)
          obtain rfl : i = len := by omega
          clear hW hM hX hZ hR hXZ
          go_wp2_with fail
          go_meet
          exact HEND.out
    · have de : (er == 0) = false := by simpa using he
      obtain ⟨h5, x5, z5, hr5, hQr, hb5, hXw, hZX⟩ := H5.out
      rw [HE.out.2.1 he] at x5 z5 hr5
      have HEND := Lib.hid (wend_first (er := er) he h5 x5 z5 hr5 hQr hb5 hXw hZX ⟨C, HQ.out.1, HQ.out.2.1⟩)
      clear h5 x5 z5 hr5 hQr hb5 hXw hZX
      go_wp2_with fail
      go_loopw [21] (fun iv wr => iv = .int .i64 0 ∧ W5 = wr) (fun _ _ => 0)
      case atStart => exact ⟨rfl, rfl⟩
      case round =>
        obtain ⟨rfl, rfl⟩ := hrel
        by_cases h0 : 0 < len
        · have h0i : (0 : Int) < (len : Int) := by omega
          go_wp2_with fail
          go_meet
          exact HEND.out
        · have h0i : decide ((0 : Int) < (len : Int)) = false := decide_eq_false (by omega)
          have h0n : decide (0 < len) = false := decide_eq_false h0
          clear h0
          go_wp2_with fail
          go_meet
          exact HEND.out
  case rest =>
    obtain ⟨s, now, nx, R, hHs, hX, hZ, hR, hXZ, hBw, hf1n, hf2n, hXw, hZw, hE0, hE1⟩ := hcut
    obtain ⟨sA, eA, mA, sB, mB, o1, G1, L1, o2, G2, L2, P0, P1⟩ := tail_facts hE0 hE1 dir dir2 agn ks ks2
    obtain ⟨v, hv⟩ : ∃ v, mB.v = v := ⟨_, rfl⟩
    rw [hv] at L2 P0 P1
    obtain ⟨F, hF⟩ : ∃ F : Nat → Prop, (fun j => j < w.heap.size ∨ (j = X ∨ j = Z) ∨ R j) = F := ⟨_, rfl⟩
    rw [hF] at hHs
    have T1 := Lib.hid (hs_crashL hHs hBw (by omega) (by omega) dir ka klen kcap ks HK.out.1 HK.out.2.1)
    have HG := Lib.hid (And.intro o1 (And.intro G1 (And.intro L1 (And.intro o2 (And.intro G2 (And.intro L2 hv))))))
    have HV := Lib.hid (And.intro hX (And.intro hZ (And.intro hR (And.intro hXZ (And.intro hXw (And.intro hZw (And.intro hf1n hf2n)))))))
    have HP := Lib.hid (And.intro P0 P1)
    have HBW := Lib.hid hBw
    have HF := Lib.hid hF
    clear hHs hX hZ hR hXZ hBw hf1n hf2n hXw hZw hE0 hE1 o1 G1 L1 o2 G2 L2 P0 P1 hv hF HE H5 HQ HI
    go_wp2_with fail
    go_at_call 29
    (with_reducible refine T1.out.mono ?_)
    rintro _ u1 ⟨rfl, h1, b1, k1⟩
    have F1 := Lib.hid (show FsV F w.heap.size p 1000 100000000 _ wc u1 from ⟨h1, b1, k1⟩)
    have T2 := Lib.hid (hs_restore h1)
    clear h1 b1 k1 T1
    go_wp2_with fail
    go_at_call 30
    (with_reducible refine T2.out.mono ?_)
    rintro _ u2 ⟨rfl, h2, b2, k2⟩
    have F2 := Lib.hid (F1.out.then h2 b2 k2)
    have T3 := Lib.hid (hs_fuse13 h2 agn ha1)
    clear h2 b2 k2 T2 F1
    go_wp2_with fail
    go_at_call 26
    (with_reducible refine T3.out.mono ?_)
    rintro _ u3 ⟨rfl, h3, b3, k3⟩
    have F3 := Lib.hid (F2.out.then h3 b3 k3)
    have T4 := Lib.hid ((mopen_any h3 (by omega) (by omega) 7000000 HG.out.2.1 sA eA mA HG.out.1 HG.out.2.2.1).mono fun e w' h => openV_fs h)
    clear h3 b3 k3 T3 F2
    go_wp2_with fail
    go_at_call 15
    (with_reducible refine T4.out.mono ?_)
    rintro _ u4 ⟨ov, rfl, f4⟩
    have F4 := Lib.hid (F3.out.trans f4)
    have T5 := Lib.hid (hs_crashL f4.1 (HBW.out.trans F4.out.2.1) (by omega) (by omega) dir2 ka2 klen2 kcap2 ks2 HK.out.2.2.1 HK.out.2.2.2)
    clear f4 T4 F3
    go_wp2_with fail
    go_at_call 29
    (with_reducible refine T5.out.mono ?_)
    rintro _ u5 ⟨rfl, h5, b5, k5⟩
    have F5 := Lib.hid (F4.out.then h5 b5 k5)
    have T6 := Lib.hid (hs_restore h5)
    clear h5 b5 k5 T5 F4
    go_wp2_with fail
    go_at_call 30
    (with_reducible refine T6.out.mono ?_)
    rintro _ u6 ⟨rfl, h6, b6, k6⟩
    have F6 := Lib.hid (F5.out.then h6 b6 k6)
    have T7 := (mopen_any h6 (by omega) (by omega) 7000000 HG.out.2.2.2.2.1 sB 0 mB HG.out.2.2.2.1 (fun _ => by rw [HG.out.2.2.2.2.2.2]; exact HG.out.2.2.2.2.2.1)).mono fun e w' h => openV_last h
    rw [HG.out.2.2.2.2.2.2] at T7
    have T7 := Lib.hid T7
    clear h6 b6 k6 T6 F5
    go_wp2_with fail
    go_at_call 15
    (with_reducible refine T7.out.mono ?_)
    rintro _ u7 ⟨M2, rb, rcb, Q2, rfl, hr2, hq2, b7, k7, hlF⟩
    obtain ⟨hX, hZ, hR, hXZ, hXw, hZw, hf1n, hf2n⟩ := HV.out
    have kF : Kp F wc u7 := F6.out.2.2.trans k7
    have hFm : ∀ j, ((j = X ∨ j = Z) ∨ R j) → F j := fun j hj => by rw [← HF.out]; exact .inr hj
    have vX7 : VerAt R X now u7 := hX.kept (kF X (hFm X (.inl (.inl rfl)))) (fun j hj => kF j (hFm j (.inr hj))) fun _ x => x
    have vZ7 : VerAt R Z nx u7 := hZ.kept (kF Z (hFm Z (.inl (.inr rfl)))) (fun j hj => kF j (hFm j (.inr hj))) fun _ x => x
    obtain ⟨rx, cx, bx, qx⟩ := vX7
    obtain ⟨rz, cz, bz, qz⟩ := vZ7
    have bel7 : Below w.heap.size w u7 := HBW.out.trans (F6.out.2.1.trans b7)
    obtain ⟨W8, hW8⟩ : ∃ W8, u7.alloc (.cells #[.int .i64 v.log, .int .i64 v.next, .int .u64 (v.seq : Int), .slice rb v.ts.length rcb] 63) = W8 := ⟨_, rfl⟩
    obtain ⟨V, hV⟩ : ∃ V, u7.heap.size = V := ⟨_, rfl⟩
    have b8 : Below u7.heap.size u7 W8 := by rw [← hW8]; exact (Below.refl _ _).alloc (Nat.le_refl _) _
    have s8 : W8.heap.size = V + 1 := by rw [← hW8, ← hV]; simp
    have v8 : BoxV V v.log v.next v.seq (.slice rb v.ts.length rcb) W8 := by rw [← hW8, ← hV]; exact new_block _ _ rfl
    have x8 := bx.below b8
    have z8 := bz.below b8
    have tb8 : TbsV W8 (.slice rb v.ts.length rcb) v.ts := (hr2.kept fun j hj => b8.block j (hq2 j hj)).row.v
    have tx8 : TbsV W8 (.slice rx now.ts.length cx) now.ts := qx.row.v.below b8
    have tz8 : TbsV W8 (.slice rz nx.ts.length cz) nx.ts := qz.row.v.below b8
    have bel8 : Below w.heap.size w W8 := bel7.trans (b8.mono bel7.size)
    have e0 := v8.c0
    have e1 := v8.c1
    have e2 := v8.c2
    have e3 := v8.c3
    have HW8 := Lib.hid hW8
    have HVV := Lib.hid hV
    have H8 := Lib.hid (And.intro s8 (And.intro v8 (And.intro x8 (And.intro z8 (And.intro tb8 (And.intro tx8 (And.intro tz8 (And.intro bel8 (And.intro hXZ (And.intro hf1n hf2n))))))))))
    clear hX hZ hR hXZ hXw hZw hf1n hf2n kF hFm bx qx bz qz bel7 hW8 hV b8 s8 v8 x8 z8 tb8 tx8 tz8 bel8 hr2 hq2 b7 k7 hlF F6 T7
    go_upto_region 27 with fail
    rw [HW8.out, HVV.out]
    clear HW8
    by_cases he : er = 0
    · have hfb : fb = false := by rw [← HFB.out, he]; rfl
      subst hfb
      obtain ⟨s8, v8, x8, z8, tb8, tx8, tz8, bel8, hXZ, hf1n, hf2n⟩ := H8.out
      have hXl := x8.lt
      have hZl := z8.lt
      obtain ⟨W9, hW9⟩ : ∃ W9, W8.alloc (.cells #[.int .i64 v.log, .int .i64 v.next, .int .u64 (v.seq : Int), .slice rb v.ts.length rcb] 63) = W9 := ⟨_, rfl⟩
      obtain ⟨Y1, hY1⟩ : ∃ Y1, W8.heap.size = Y1 := ⟨_, rfl⟩
      have b9 : Below W8.heap.size W8 W9 := by rw [← hW9]; exact (Below.refl _ _).alloc (Nat.le_refl _) _
      have y9 : BoxV Y1 v.log v.next v.seq (.slice rb v.ts.length rcb) W9 := by rw [← hW9, ← hY1]; exact new_block _ _ rfl
      have x9 := x8.below b9
      have hs9 : W9.heap.size = Y1 + 1 := by rw [← hW9, ← hY1]; simp
      obtain ⟨W10, hW10⟩ : ∃ W10, W9.setCell ⟨Y1, 1, none⟩ (.int .i64 now.next) = W10 := ⟨_, rfl⟩
      have k10 : ∀ j, j ≠ Y1 → W10.heap[j]? = W9.heap[j]? := fun j hj => by rw [← hW10]; exact set_block _ _ _ _ _ hj
      have hs10 : W10.heap.size = Y1 + 1 := by rw [← hW10]; simpa using hs9
      have y10 : BoxV Y1 v.log now.next v.seq (.slice rb v.ts.length rcb) W10 := by rw [← hW10]; exact heap_setCell_same _ Y1 1 _ _ _ y9
      have v10 : BoxV V v.log v.next v.seq (.slice rb v.ts.length rcb) W10 := (k10 V (by omega)).trans (v8.below b9)
      have b810 : Below W8.heap.size W8 W10 := by rw [← hW10]; exact b9.setCell (p := ⟨Y1, 1, none⟩) (Nat.le_of_eq hY1) _
      have z10 := z8.below b810
      obtain ⟨W11, hW11⟩ : ∃ W11, W10.alloc (.cells #[.int .i64 v.log, .int .i64 v.next, .int .u64 (v.seq : Int), .slice rb v.ts.length rcb] 63) = W11 := ⟨_, rfl⟩
      obtain ⟨Z1, hZ1⟩ : ∃ Z1, W10.heap.size = Z1 := ⟨_, rfl⟩
      have b11 : Below W10.heap.size W10 W11 := by rw [← hW11]; exact (Below.refl _ _).alloc (Nat.le_refl _) _
      have w11 : BoxV Z1 v.log v.next v.seq (.slice rb v.ts.length rcb) W11 := by rw [← hW11, ← hZ1]; exact new_block _ _ rfl
      have z11 := z10.below b11
      obtain ⟨W12, hW12⟩ : ∃ W12, W11.setCell ⟨Z1, 1, none⟩ (.int .i64 nx.next) = W12 := ⟨_, rfl⟩
      have k12 : ∀ j, j ≠ Z1 → W12.heap[j]? = W11.heap[j]? := fun j hj => by rw [← hW12]; exact set_block _ _ _ _ _ hj
      have w12 : BoxV Z1 v.log nx.next v.seq (.slice rb v.ts.length rcb) W12 := by rw [← hW12]; exact heap_setCell_same _ Z1 1 _ _ _ w11
      have b1012 : Below W10.heap.size W10 W12 := by rw [← hW12]; exact b11.setCell (p := ⟨Z1, 1, none⟩) (Nat.le_of_eq hZ1) _
      have b812 : Below W8.heap.size W8 W12 := b810.trans (b1012.mono b810.size)
      have y12 := y10.below b1012
      have x12 := x8.below b812
      have z12 := z8.below b812
      have v12 := v8.below b812
      have tb12 := tb8.below b812
      have tx12 := tx8.below b812
      have tz12 := tz8.below b812
      have HQ12 := Lib.hid (show ∀ W', Below W12.heap.size W12 W' → W'.cell? ⟨V, 1, none⟩ = some (.int .i64 v.next) ∧ W'.cell? ⟨X, 0, none⟩ = some (.int .i64 now.log) ∧ W'.cell? ⟨X, 1, none⟩ = some (.int .i64 now.next) ∧ W'.cell? ⟨X, 2, none⟩ = some (.int .u64 (now.seq : Int)) ∧ W'.cell? ⟨X, 3, none⟩ = some (.slice rx now.ts.length cx) ∧ W'.cell? ⟨Y1, 0, none⟩ = some (.int .i64 v.log) ∧ W'.cell? ⟨Y1, 1, none⟩ = some (.int .i64 now.next) ∧ W'.cell? ⟨Y1, 2, none⟩ = some (.int .u64 (v.seq : Int)) ∧ W'.cell? ⟨Y1, 3, none⟩ = some (.slice rb v.ts.length rcb) ∧ W'.cell? ⟨Z, 0, none⟩ = some (.int .i64 nx.log) ∧ W'.cell? ⟨Z, 1, none⟩ = some (.int .i64 nx.next) ∧ W'.cell? ⟨Z, 2, none⟩ = some (.int .u64 (nx.seq : Int)) ∧ W'.cell? ⟨Z, 3, none⟩ = some (.slice rz nx.ts.length cz) ∧ W'.cell? ⟨Z1, 0, none⟩ = some (.int .i64 v.log) ∧ W'.cell? ⟨Z1, 1, none⟩ = some (.int .i64 nx.next) ∧ W'.cell? ⟨Z1, 2, none⟩ = some (.int .u64 (v.seq : Int)) ∧ W'.cell? ⟨Z1, 3, none⟩ = some (.slice rb v.ts.length rcb) from fun W' hb => by
        have a' := v12.below hb
        have b' := x12.below hb
        have c' := y12.below hb
        have d' := z12.below hb
        have e' := w12.below hb
        exact ⟨a'.c1, b'.c0, b'.c1, b'.c2, b'.c3, c'.c0, c'.c1, c'.c2, c'.c3, d'.c0, d'.c1, d'.c2, d'.c3, e'.c0, e'.c1, e'.c2, e'.c3⟩)
      have e8 := x9.c1
      have g9 := y9.c1
      have f9 := y9.f 1
      have a0 := v10.c0
      have a1 := v10.c1
      have a2 := v10.c2
      have a3 := v10.c3
      have c11 := z11.c1
      have g11 := w11.c1
      have f11 := w11.f 1
      have HT12 := Lib.hid (And.intro tb12 (And.intro tx12 (And.intro tz12 (And.intro (bel8.trans (b812.mono bel8.size)) (And.intro hf1n hf2n)))))
      have HW9 := Lib.hid hW9
      have HW10 := Lib.hid hW10
      have HW11 := Lib.hid hW11
      have HW12 := Lib.hid hW12
      have HY1 := Lib.hid hY1
      have HZ1 := Lib.hid hZ1
      clear s8 v8 x8 z8 tb8 tx8 tz8 bel8 hXZ hf1n hf2n hXl hZl hW9 hY1 b9 y9 x9 hs9 hW10 k10 hs10 y10 v10 b810 z10 hW11 hZ1 b11 w11 z11 hW12 k12 w12 b1012 b812 y12 x12 z12 v12 tb12 tx12 tz12
      go_upto_region 32 with fail
      rw [HW9.out, HY1.out]
      go_upto_region 33 with fail
      rw [HW10.out]
      go_upto_region 34 with fail
      rw [HW11.out, HZ1.out]
      go_upto_region 35 with fail
      rw [HW12.out]
      obtain ⟨hor, hge⟩ := HP.out.1 he
      have dg : decide (now.next ≤ v.next) = true := decide_eq_true hge
      have hvl : v.ts.length ≤ 10000 := HG.out.2.2.2.2.2.1
      obtain ⟨tb12, tx12, tz12, -, hf1n, hf2n⟩ := HT12.out
      obtain ⟨c0, c1, c2, c3, c4, c5, c6, c7, c8, c9, c10, c12, c13, c14, c15, c16, c17⟩ := HQ12.out W12 (Below.refl _ _)
      by_cases hlk : Like v now
      · have HS1 := Lib.hid (show ∀ W', Below W12.heap.size W12 W' → Calls Tryz.prog 17 #[.agg #[.int .i64 v.log, .int .i64 now.next, .int .u64 (v.seq : Int), .slice rb v.ts.length rcb], .agg #[.int .i64 now.log, .int .i64 now.next, .int .u64 (now.seq : Int), .slice rx now.ts.length cx]] W' fun x w' => x = .returned (.bool true) ∧ Below W'.heap.size W' w' from fun W' hb => by
          have t1 := tb12.below hb
          rw [hlk.log, hlk.seq]
          rw [hlk.ts] at t1 ⊢
          exact sameV_yes now.log now.next now.seq _ _ now.ts W' t1 (tx12.below hb) (by omega))
        clear hor hge hlk tb12 tx12 tz12 e0 e1 e2 e3 e8 g9 f9 a0 a1 a2 a3 c11 g11 f11
        --BEGIN35
        have u1 : (fun W' => W'.cell? ⟨V, 1, none⟩ = some (.int .i64 v.next) ∧ W'.cell? ⟨X, 0, none⟩ = some (.int .i64 now.log) ∧ W'.cell? ⟨X, 1, none⟩ = some (.int .i64 now.next) ∧ W'.cell? ⟨X, 2, none⟩ = some (.int .u64 (now.seq : Int)) ∧ W'.cell? ⟨X, 3, none⟩ = some (.slice rx now.ts.length cx) ∧ W'.cell? ⟨Y1, 0, none⟩ = some (.int .i64 v.log) ∧ W'.cell? ⟨Y1, 1, none⟩ = some (.int .i64 now.next) ∧ W'.cell? ⟨Y1, 2, none⟩ = some (.int .u64 (v.seq : Int)) ∧ W'.cell? ⟨Y1, 3, none⟩ = some (.slice rb v.ts.length rcb) ∧ W'.cell? ⟨Z, 0, none⟩ = some (.int .i64 nx.log) ∧ W'.cell? ⟨Z, 1, none⟩ = some (.int .i64 nx.next) ∧ W'.cell? ⟨Z, 2, none⟩ = some (.int .u64 (nx.seq : Int)) ∧ W'.cell? ⟨Z, 3, none⟩ = some (.slice rz nx.ts.length cz) ∧ W'.cell? ⟨Z1, 0, none⟩ = some (.int .i64 v.log) ∧ W'.cell? ⟨Z1, 1, none⟩ = some (.int .i64 nx.next) ∧ W'.cell? ⟨Z1, 2, none⟩ = some (.int .u64 (v.seq : Int)) ∧ W'.cell? ⟨Z1, 3, none⟩ = some (.slice rb v.ts.length rcb)) W12.drew := HQ12.out _ (Below.refl _ _).drew
        refine wp_region_noPanic ?_
        refine wp_region_held (S := (fun W' => W'.cell? ⟨V, 1, none⟩ = some (.int .i64 v.next) ∧ W'.cell? ⟨X, 0, none⟩ = some (.int .i64 now.log) ∧ W'.cell? ⟨X, 1, none⟩ = some (.int .i64 now.next) ∧ W'.cell? ⟨X, 2, none⟩ = some (.int .u64 (now.seq : Int)) ∧ W'.cell? ⟨X, 3, none⟩ = some (.slice rx now.ts.length cx) ∧ W'.cell? ⟨Y1, 0, none⟩ = some (.int .i64 v.log) ∧ W'.cell? ⟨Y1, 1, none⟩ = some (.int .i64 now.next) ∧ W'.cell? ⟨Y1, 2, none⟩ = some (.int .u64 (v.seq : Int)) ∧ W'.cell? ⟨Y1, 3, none⟩ = some (.slice rb v.ts.length rcb) ∧ W'.cell? ⟨Z, 0, none⟩ = some (.int .i64 nx.log) ∧ W'.cell? ⟨Z, 1, none⟩ = some (.int .i64 nx.next) ∧ W'.cell? ⟨Z, 2, none⟩ = some (.int .u64 (nx.seq : Int)) ∧ W'.cell? ⟨Z, 3, none⟩ = some (.slice rz nx.ts.length cz) ∧ W'.cell? ⟨Z1, 0, none⟩ = some (.int .i64 v.log) ∧ W'.cell? ⟨Z1, 1, none⟩ = some (.int .i64 nx.next) ∧ W'.cell? ⟨Z1, 2, none⟩ = some (.int .u64 (v.seq : Int)) ∧ W'.cell? ⟨Z1, 3, none⟩ = some (.slice rb v.ts.length rcb))) (by kernel_rfl) ?_
        refine wpAnyH_ready (rs := [0]) (by kernel_rfl) (by simp) ?_
        refine AllReadyH.cons rfl (fun K hK => ?_) AllReadyH.nil
        simp only [List.getElem_toArray, List.getElem_cons_zero]
        go_simp
        refine (CA.out _).mono ?_
        rintro _ wa ⟨rfl, ba⟩
        have HBA := Lib.hid (show Below W12.heap.size W12 wa from (Below.refl _ _).drew.trans ba)
        clear ba
        have u2 := HQ12.out _ HBA.out
        dsimp only
        refine hK.out _ _ u2 (fun _ => ?_)
        try simp only [List.getElem_toArray, List.getElem_cons_succ, List.getElem_cons_zero, Act.put, List.setIfInBounds_toArray, List.set_cons_zero, List.set_cons_succ]
        refine wpAnyH_take (i := 1) (v := ?_) rfl (by kernel_rfl) (by kernel_rfl) (by kernel_rfl) (fun _ _ _ h => h) (Or.inl ⟨by rfl, ?_⟩) u2 ?_
        rotate_left
        focus (simp only [List.getElem_toArray, List.getElem_cons_succ, List.getElem_cons_zero]; intro w' hS; obtain ⟨s0, s1, s2, s3, s4, s5, s6, s7, s8, s9, s10, s11, s12, s13, s14, s15, s16⟩ := hS; first | (go_simp; done) | (go_simp; with_reducible rfl))
        simp only [List.getElem_toArray, List.getElem_cons_succ, List.getElem_cons_zero, Act.put, List.setIfInBounds_toArray, List.set_cons_zero, List.set_cons_succ]
        refine wpAnyH_take (i := 2) (v := ?_) rfl (by kernel_rfl) (by kernel_rfl) (by kernel_rfl) (fun _ _ _ h => h) (Or.inl ⟨by rfl, ?_⟩) u2 ?_
        rotate_left
        focus (simp only [List.getElem_toArray, List.getElem_cons_succ, List.getElem_cons_zero]; intro w' hS; obtain ⟨s0, s1, s2, s3, s4, s5, s6, s7, s8, s9, s10, s11, s12, s13, s14, s15, s16⟩ := hS; first | (go_simp; done) | (go_simp; with_reducible rfl))
        simp only [List.getElem_toArray, List.getElem_cons_succ, List.getElem_cons_zero, Act.put, List.setIfInBounds_toArray, List.set_cons_zero, List.set_cons_succ]
        refine wpAnyH_take (i := 3) (v := ?_) rfl (by kernel_rfl) (by kernel_rfl) (by kernel_rfl) (fun _ _ _ h => h) (Or.inl ⟨by rfl, ?_⟩) u2 ?_
        rotate_left
        focus (simp only [List.getElem_toArray, List.getElem_cons_succ, List.getElem_cons_zero]; intro w' hS; obtain ⟨s0, s1, s2, s3, s4, s5, s6, s7, s8, s9, s10, s11, s12, s13, s14, s15, s16⟩ := hS; first | (go_simp; done) | (go_simp; with_reducible rfl))
        simp only [List.getElem_toArray, List.getElem_cons_succ, List.getElem_cons_zero, Act.put, List.setIfInBounds_toArray, List.set_cons_zero, List.set_cons_succ]
        refine wpAnyH_take (i := 4) (v := ?_) rfl (by kernel_rfl) (by kernel_rfl) (by kernel_rfl) (fun _ _ _ h => h) (Or.inl ⟨by rfl, ?_⟩) u2 ?_
        rotate_left
        focus (simp only [List.getElem_toArray, List.getElem_cons_succ, List.getElem_cons_zero]; intro w' hS; obtain ⟨s0, s1, s2, s3, s4, s5, s6, s7, s8, s9, s10, s11, s12, s13, s14, s15, s16⟩ := hS; first | (go_simp; done) | (go_simp; with_reducible rfl))
        simp only [List.getElem_toArray, List.getElem_cons_succ, List.getElem_cons_zero, Act.put, List.setIfInBounds_toArray, List.set_cons_zero, List.set_cons_succ]
        refine wpAnyH_take (i := 5) (v := ?_) rfl (by kernel_rfl) (by kernel_rfl) (by kernel_rfl) (fun _ _ _ h => h) (Or.inl ⟨by rfl, ?_⟩) u2 ?_
        rotate_left
        focus (simp only [List.getElem_toArray, List.getElem_cons_succ, List.getElem_cons_zero]; intro w' hS; obtain ⟨s0, s1, s2, s3, s4, s5, s6, s7, s8, s9, s10, s11, s12, s13, s14, s15, s16⟩ := hS; first | (go_simp; done) | (go_simp; with_reducible rfl))
        simp only [List.getElem_toArray, List.getElem_cons_succ, List.getElem_cons_zero, Act.put, List.setIfInBounds_toArray, List.set_cons_zero, List.set_cons_succ]
        refine wpAnyH_take (i := 6) (v := ?_) rfl (by kernel_rfl) (by kernel_rfl) (by kernel_rfl) (fun _ _ _ h => h) (Or.inl ⟨by rfl, ?_⟩) u2 ?_
        rotate_left
        focus (simp only [List.getElem_toArray, List.getElem_cons_succ, List.getElem_cons_zero]; intro w' hS; obtain ⟨s0, s1, s2, s3, s4, s5, s6, s7, s8, s9, s10, s11, s12, s13, s14, s15, s16⟩ := hS; first | (go_simp; done) | (go_simp; with_reducible rfl))
        simp only [List.getElem_toArray, List.getElem_cons_succ, List.getElem_cons_zero, Act.put, List.setIfInBounds_toArray, List.set_cons_zero, List.set_cons_succ]
        refine wpAnyH_take (i := 7) (v := ?_) rfl (by kernel_rfl) (by kernel_rfl) (by kernel_rfl) (fun _ _ _ h => h) (Or.inl ⟨by rfl, ?_⟩) u2 ?_
        rotate_left
        focus (simp only [List.getElem_toArray, List.getElem_cons_succ, List.getElem_cons_zero]; intro w' hS; obtain ⟨s0, s1, s2, s3, s4, s5, s6, s7, s8, s9, s10, s11, s12, s13, s14, s15, s16⟩ := hS; first | (go_simp; done) | (go_simp; with_reducible rfl))
        simp only [List.getElem_toArray, List.getElem_cons_succ, List.getElem_cons_zero, Act.put, List.setIfInBounds_toArray, List.set_cons_zero, List.set_cons_succ]
        refine wpAnyH_take (i := 8) (v := ?_) rfl (by kernel_rfl) (by kernel_rfl) (by kernel_rfl) (fun _ _ _ h => h) (Or.inl ⟨by rfl, ?_⟩) u2 ?_
        rotate_left
        focus (simp only [List.getElem_toArray, List.getElem_cons_succ, List.getElem_cons_zero]; intro w' hS; obtain ⟨s0, s1, s2, s3, s4, s5, s6, s7, s8, s9, s10, s11, s12, s13, s14, s15, s16⟩ := hS; first | (go_simp; done) | (go_simp; with_reducible rfl))
        simp only [List.getElem_toArray, List.getElem_cons_succ, List.getElem_cons_zero, Act.put, List.setIfInBounds_toArray, List.set_cons_zero, List.set_cons_succ]
        refine wpAnyH_take (i := 9) (v := ?_) rfl (by kernel_rfl) (by kernel_rfl) (by kernel_rfl) (fun _ _ _ h => h) (Or.inl ⟨by rfl, ?_⟩) u2 ?_
        rotate_left
        focus (simp only [List.getElem_toArray, List.getElem_cons_succ, List.getElem_cons_zero]; intro w' hS; obtain ⟨s0, s1, s2, s3, s4, s5, s6, s7, s8, s9, s10, s11, s12, s13, s14, s15, s16⟩ := hS; first | (go_simp; done) | (go_simp; with_reducible rfl))
        simp only [List.getElem_toArray, List.getElem_cons_succ, List.getElem_cons_zero, Act.put, List.setIfInBounds_toArray, List.set_cons_zero, List.set_cons_succ]
        refine wpAnyH_take (i := 10) (v := ?_) rfl (by kernel_rfl) (by kernel_rfl) (by kernel_rfl) (fun _ _ _ h => h) (Or.inl ⟨by rfl, ?_⟩) u2 ?_
        rotate_left
        focus (simp only [List.getElem_toArray, List.getElem_cons_succ, List.getElem_cons_zero]; intro w' hS; obtain ⟨s0, s1, s2, s3, s4, s5, s6, s7, s8, s9, s10, s11, s12, s13, s14, s15, s16⟩ := hS; first | (go_simp; done) | (go_simp; with_reducible rfl))
        simp only [List.getElem_toArray, List.getElem_cons_succ, List.getElem_cons_zero, Act.put, List.setIfInBounds_toArray, List.set_cons_zero, List.set_cons_succ]
        refine wpAnyH_ready (rs := [11]) (by kernel_rfl) (by simp) ?_
        refine AllReadyH.cons rfl (fun K hK => ?_) AllReadyH.nil
        simp only [List.getElem_toArray, List.getElem_cons_succ, List.getElem_cons_zero]
        go_simp
        refine (plainV_any _ _ _ _ _ _ wa).mono ?_
        rintro _ wb ⟨rfl, bb⟩
        have HBB := Lib.hid (show Below W12.heap.size W12 wb from HBA.out.trans (bb.mono HBA.out.size))
        clear bb
        have u3 := HQ12.out _ HBB.out
        dsimp only
        refine hK.out _ _ u3 (fun _ => ?_)
        try simp only [List.getElem_toArray, List.getElem_cons_succ, List.getElem_cons_zero, Act.put, List.setIfInBounds_toArray, List.set_cons_zero, List.set_cons_succ]
        refine wpAnyH_ready (rs := [12]) (by kernel_rfl) (by simp) ?_
        refine AllReadyH.cons rfl (fun K hK => ?_) AllReadyH.nil
        simp only [List.getElem_toArray, List.getElem_cons_succ, List.getElem_cons_zero]
        go_simp
        refine (HS1.out wb HBB.out).mono ?_
        rintro _ wd ⟨rfl, bc⟩
        have HBC := Lib.hid (show Below W12.heap.size W12 wd from HBB.out.trans (bc.mono HBB.out.size))
        clear bc
        have u4 := HQ12.out _ HBC.out
        dsimp only
        refine hK.out _ _ u4 (fun _ => ?_)
        try simp only [List.getElem_toArray, List.getElem_cons_succ, List.getElem_cons_zero, Act.put, List.setIfInBounds_toArray, List.set_cons_zero, List.set_cons_succ]
        refine wpAnyH_take (i := 13) (v := ?_) rfl (by kernel_rfl) (by kernel_rfl) (by kernel_rfl) (fun _ _ _ h => h) (Or.inl ⟨by rfl, ?_⟩) u4 ?_
        rotate_left
        focus (simp only [List.getElem_toArray, List.getElem_cons_succ, List.getElem_cons_zero]; intro w' hS; obtain ⟨s0, s1, s2, s3, s4, s5, s6, s7, s8, s9, s10, s11, s12, s13, s14, s15, s16⟩ := hS; first | (go_simp; done) | (go_simp; with_reducible rfl))
        simp only [List.getElem_toArray, List.getElem_cons_succ, List.getElem_cons_zero, Act.put, List.setIfInBounds_toArray, List.set_cons_zero, List.set_cons_succ]
        refine wpAnyH_take (i := 14) (v := undef) rfl (by kernel_rfl) (by kernel_rfl) (by kernel_rfl) (fun _ _ _ h => h) (Or.inr ⟨by rfl, rfl⟩) u4 ?_
        simp only [List.getElem_toArray, List.getElem_cons_succ, List.getElem_cons_zero, Act.put, List.setIfInBounds_toArray, List.set_cons_zero, List.set_cons_succ]
        refine wpAnyH_take (i := 15) (v := undef) rfl (by kernel_rfl) (by kernel_rfl) (by kernel_rfl) (fun _ _ _ h => h) (Or.inr ⟨by rfl, rfl⟩) u4 ?_
        simp only [List.getElem_toArray, List.getElem_cons_succ, List.getElem_cons_zero, Act.put, List.setIfInBounds_toArray, List.set_cons_zero, List.set_cons_succ]
        refine wpAnyH_take (i := 16) (v := undef) rfl (by kernel_rfl) (by kernel_rfl) (by kernel_rfl) (fun _ _ _ h => h) (Or.inr ⟨by rfl, rfl⟩) u4 ?_
        simp only [List.getElem_toArray, List.getElem_cons_succ, List.getElem_cons_zero, Act.put, List.setIfInBounds_toArray, List.set_cons_zero, List.set_cons_succ]
        refine wpAnyH_take (i := 17) (v := undef) rfl (by kernel_rfl) (by kernel_rfl) (by kernel_rfl) (fun _ _ _ h => h) (Or.inr ⟨by rfl, rfl⟩) u4 ?_
        simp only [List.getElem_toArray, List.getElem_cons_succ, List.getElem_cons_zero, Act.put, List.setIfInBounds_toArray, List.set_cons_zero, List.set_cons_succ]
        refine wpAnyH_take (i := 18) (v := ?_) rfl (by kernel_rfl) (by kernel_rfl) (by kernel_rfl) (fun _ _ _ h => h) (Or.inl ⟨by rfl, ?_⟩) u4 ?_
        rotate_left
        focus (simp only [List.getElem_toArray, List.getElem_cons_succ, List.getElem_cons_zero]; intro w' hS; obtain ⟨s0, s1, s2, s3, s4, s5, s6, s7, s8, s9, s10, s11, s12, s13, s14, s15, s16⟩ := hS; first | (go_simp; done) | (go_simp; with_reducible rfl))
        simp only [List.getElem_toArray, List.getElem_cons_succ, List.getElem_cons_zero, Act.put, List.setIfInBounds_toArray, List.set_cons_zero, List.set_cons_succ]
        refine wpAnyH_take (i := 19) (v := ?_) rfl (by kernel_rfl) (by kernel_rfl) (by kernel_rfl) (fun _ _ _ h => h) (Or.inl ⟨by rfl, ?_⟩) u4 ?_
        rotate_left
        focus (simp only [List.getElem_toArray, List.getElem_cons_succ, List.getElem_cons_zero]; intro w' hS; obtain ⟨s0, s1, s2, s3, s4, s5, s6, s7, s8, s9, s10, s11, s12, s13, s14, s15, s16⟩ := hS; first | (go_simp; done) | (go_simp; with_reducible rfl))
        simp only [List.getElem_toArray, List.getElem_cons_succ, List.getElem_cons_zero, Act.put, List.setIfInBounds_toArray, List.set_cons_zero, List.set_cons_succ]
        refine wpAnyH_take (i := 20) (v := ?_) rfl (by kernel_rfl) (by kernel_rfl) (by kernel_rfl) (fun _ _ _ h => h) (Or.inl ⟨by rfl, ?_⟩) u4 ?_
        rotate_left
        focus (simp only [List.getElem_toArray, List.getElem_cons_succ, List.getElem_cons_zero]; intro w' hS; obtain ⟨s0, s1, s2, s3, s4, s5, s6, s7, s8, s9, s10, s11, s12, s13, s14, s15, s16⟩ := hS; first | (go_simp; done) | (go_simp; with_reducible rfl))
        simp only [List.getElem_toArray, List.getElem_cons_succ, List.getElem_cons_zero, Act.put, List.setIfInBounds_toArray, List.set_cons_zero, List.set_cons_succ]
        refine wpAnyH_done (by kernel_rfl) ?_ _
        refine NoPanic.normal ?_
        --END35
        go_wp2_with fail
        go_ret
        exact ⟨rfl, HT12.out.2.2.2.1.trans (HBC.out.mono HT12.out.2.2.2.1.size)⟩
      · have hlx : Like v nx := hor.resolve_left hlk
        have HS1 := Lib.hid (show ∀ W', Below W12.heap.size W12 W' → Calls Tryz.prog 17 #[.agg #[.int .i64 v.log, .int .i64 now.next, .int .u64 (v.seq : Int), .slice rb v.ts.length rcb], .agg #[.int .i64 now.log, .int .i64 now.next, .int .u64 (now.seq : Int), .slice rx now.ts.length cx]] W' fun x w' => x = .returned (.bool false) ∧ Below W'.heap.size W' w' from fun W' hb => sameV_no v.log now.next v.seq now.log now.next now.seq _ _ v.ts now.ts W' (tb12.below hb) (tx12.below hb) (by omega) (by omega) fun h => hlk ⟨h.1, h.2.2.1, h.2.2.2⟩)
        have HS2 := Lib.hid (show ∀ W', Below W12.heap.size W12 W' → Calls Tryz.prog 17 #[.agg #[.int .i64 v.log, .int .i64 nx.next, .int .u64 (v.seq : Int), .slice rb v.ts.length rcb], .agg #[.int .i64 nx.log, .int .i64 nx.next, .int .u64 (nx.seq : Int), .slice rz nx.ts.length cz]] W' fun x w' => x = .returned (.bool true) ∧ Below W'.heap.size W' w' from fun W' hb => by
          have t1 := tb12.below hb
          rw [hlx.log, hlx.seq]
          rw [hlx.ts] at t1 ⊢
          exact sameV_yes nx.log nx.next nx.seq _ _ nx.ts W' t1 (tz12.below hb) (by omega))
        clear hor hge hlk hlx tb12 tx12 tz12 e0 e1 e2 e3 e8 g9 f9 a0 a1 a2 a3 c11 g11 f11
        go_region_held3 (fun W' => W'.cell? ⟨V, 1, none⟩ = some (.int .i64 v.next) ∧ W'.cell? ⟨X, 0, none⟩ = some (.int .i64 now.log) ∧ W'.cell? ⟨X, 1, none⟩ = some (.int .i64 now.next) ∧ W'.cell? ⟨X, 2, none⟩ = some (.int .u64 (now.seq : Int)) ∧ W'.cell? ⟨X, 3, none⟩ = some (.slice rx now.ts.length cx) ∧ W'.cell? ⟨Y1, 0, none⟩ = some (.int .i64 v.log) ∧ W'.cell? ⟨Y1, 1, none⟩ = some (.int .i64 now.next) ∧ W'.cell? ⟨Y1, 2, none⟩ = some (.int .u64 (v.seq : Int)) ∧ W'.cell? ⟨Y1, 3, none⟩ = some (.slice rb v.ts.length rcb) ∧ W'.cell? ⟨Z, 0, none⟩ = some (.int .i64 nx.log) ∧ W'.cell? ⟨Z, 1, none⟩ = some (.int .i64 nx.next) ∧ W'.cell? ⟨Z, 2, none⟩ = some (.int .u64 (nx.seq : Int)) ∧ W'.cell? ⟨Z, 3, none⟩ = some (.slice rz nx.ts.length cz) ∧ W'.cell? ⟨Z1, 0, none⟩ = some (.int .i64 v.log) ∧ W'.cell? ⟨Z1, 1, none⟩ = some (.int .i64 nx.next) ∧ W'.cell? ⟨Z1, 2, none⟩ = some (.int .u64 (v.seq : Int)) ∧ W'.cell? ⟨Z1, 3, none⟩ = some (.slice rb v.ts.length rcb))
          (first | (go_keep; done) | exact HQ12.out _ (Below.refl _ _).drew | exact HQ12.out _ BA | exact HQ12.out _ BB | exact HQ12.out _ BC | exact HQ12.out _ BD | exact HQ12.out _ BE | fail)
          (first
            | (go_at_call 9; (with_reducible refine (CA.out _).mono ?_); rintro _ wa ⟨rfl, ba⟩; have BA : Below W12.heap.size W12 wa := (Below.refl _ _).drew.trans ba)
            | (go_at_call 31; (with_reducible refine (plainV_any _ _ _ _ _ _ wa).mono ?_); rintro _ wb ⟨rfl, bb⟩; have BB : Below W12.heap.size W12 wb := BA.trans (bb.mono BA.size))
            | (go_at_call 17; (with_reducible refine (HS1.out wb BB).mono ?_); rintro _ wd ⟨rfl, bc⟩; have BC : Below W12.heap.size W12 wd := BB.trans (bc.mono BB.size))
            | (go_at_call 31; (with_reducible refine (plainV_any _ _ _ _ _ _ wd).mono ?_); rintro _ we ⟨rfl, bd⟩; have BD : Below W12.heap.size W12 we := BC.trans (bd.mono BC.size))
            | (go_at_call 17; (with_reducible refine (HS2.out we BD).mono ?_); rintro _ wf ⟨rfl, be⟩; have BE : Below W12.heap.size W12 wf := BD.trans (be.mono BD.size))
            | fail)
        go_wp2_with fail
        go_ret
        exact ⟨rfl, HT12.out.2.2.2.1.trans (BE.mono HT12.out.2.2.2.1.size)⟩
    · have hfb : fb = true := by rw [← HFB.out]; simpa using he
      subst hfb
      obtain ⟨hvt, hv2, hv4⟩ := HP.out.2 he
      obtain ⟨vl, vn, vq, vt⟩ := v
      simp only at hvt hv2 hv4
      subst hvt
      obtain ⟨s8, v8, x8, z8, tb8, tx8, tz8, bel8, -⟩ := H8.out
      have HB8 := Lib.hid bel8
      have HV8 := Lib.hid v8
      have d2 : decide (2 ≤ vn) = true := decide_eq_true hv2
      have d4 : decide (vn ≤ 4) = true := decide_eq_true hv4
      clear s8 v8 x8 z8 tb8 tx8 tz8 bel8 H8 HP HG
      go_wp2_with fail
      go_at_call 9
      (with_reducible refine (CA.out _).mono ?_)
      rintro _ w9 ⟨rfl, b9⟩
      have y9 := HV8.out.below b9
      have e0 := y9.c0
      have e1 := y9.c1
      have e2 := y9.c2
      have e3 := y9.c3
      have hend := HB8.out.trans (b9.mono HB8.out.size)
      go_wp2_with fail
      go_ret
      exact ⟨rfl, hend⟩
set_option maxHeartbeats 8000000 in
set_option maxRecDepth 100000 in
theorem maniWhole_walk (a : Option Addr) (len cap : Nat) (l : List EdS) (fuse : Int) (_ : -9223372036854775808 ≤ fuse) (hf1 : fuse ≤ 9223372036854775807) (dir : Int) (_ : -9223372036854775808 ≤ dir) (_ : dir ≤ 9223372036854775807) (ka : Option Addr) (klen kcap : Nat) (ks : List Int) (agn : Int) (_ : -9223372036854775808 ≤ agn) (ha1 : agn ≤ 9223372036854775807) (dir2 : Int) (_ : -9223372036854775808 ≤ dir2) (_ : dir2 ≤ 9223372036854775807) (ka2 : Option Addr) (klen2 kcap2 : Nat) (ks2 : List Int) (w : World)
    (hI : IsEds w a len l) (hK : IsIs w ka klen ks) (hK2 : IsIs w ka2 klen2 ks2) (_ : ka = none → kcap = 0) (_ : ka2 = none → kcap2 = 0) (hKc : klen ≤ kcap ∧ kcap ≤ maxLen) (hKc2 : klen2 ≤ kcap2 ∧ kcap2 ≤ maxLen) :
    Calls Tryz.prog 5 #[.slice a len cap, .int .i64 fuse, .int .i64 dir, .slice ka klen kcap, .int .i64 agn, .int .i64 dir2, .slice ka2 klen2 kcap2] w fun e w' => e = .returned (.bool true) ∧ Below w.heap.size w w' := by
  have CA := Lib.hid malive_any
  have hlm := hI.1
  have hkm := hK.1
  have hkm2 := hK2.1
  by_cases h0 : len ≤ 30
  rotate_left
  · unfold maxLen at hlm hkm hkm2
    have d1 : decide (30 < (len : Int)) = true := decide_eq_true (by omega)
    have d1' : decide (30 < len) = true := decide_eq_true (by omega)
    clear hI hK hK2
    go_enter Tryz.func5, Tryz.ntmps5
    go_wp2_with (go_at_call 9; (with_reducible refine (CA.out _).mono ?_); rintro _ w3 ⟨rfl, b3⟩)
    go_ret
    exact ⟨rfl, b3⟩
  by_cases h1 : 0 ≤ fuse
  rotate_left
  · unfold maxLen at hlm hkm hkm2
    have d1 : decide (30 < (len : Int)) = false := decide_eq_false (by omega)
    have d1' : decide (30 < len) = false := decide_eq_false (by omega)
    have d2 : decide (fuse < 0) = true := decide_eq_true (by omega)
    clear hI hK hK2
    go_enter Tryz.func5, Tryz.ntmps5
    go_wp2_with (go_at_call 9; (with_reducible refine (CA.out _).mono ?_); rintro _ w3 ⟨rfl, b3⟩)
    go_ret
    exact ⟨rfl, b3⟩
  by_cases h2 : 0 ≤ agn
  rotate_left
  · unfold maxLen at hlm hkm hkm2
    have d1 : decide (30 < (len : Int)) = false := decide_eq_false (by omega)
    have d1' : decide (30 < len) = false := decide_eq_false (by omega)
    have d2 : decide (fuse < 0) = false := decide_eq_false (by omega)
    have d3 : decide (agn < 0) = true := decide_eq_true (by omega)
    clear hI hK hK2
    go_enter Tryz.func5, Tryz.ntmps5
    go_wp2_with (go_at_call 9; (with_reducible refine (CA.out _).mono ?_); rintro _ w3 ⟨rfl, b3⟩)
    go_ret
    exact ⟨rfl, b3⟩
  by_cases h3 : klen ≤ 20
  rotate_left
  · unfold maxLen at hlm hkm hkm2
    have d1 : decide (30 < (len : Int)) = false := decide_eq_false (by omega)
    have d1' : decide (30 < len) = false := decide_eq_false (by omega)
    have d2 : decide (fuse < 0) = false := decide_eq_false (by omega)
    have d3 : decide (agn < 0) = false := decide_eq_false (by omega)
    have d4 : decide (20 < (klen : Int)) = true := decide_eq_true (by omega)
    have d4' : decide (20 < klen) = true := decide_eq_true (by omega)
    clear hI hK hK2
    go_enter Tryz.func5, Tryz.ntmps5
    go_wp2_with (go_at_call 9; (with_reducible refine (CA.out _).mono ?_); rintro _ w3 ⟨rfl, b3⟩)
    go_ret
    exact ⟨rfl, b3⟩
  by_cases h4 : klen2 ≤ 20
  rotate_left
  · unfold maxLen at hlm hkm hkm2
    have d1 : decide (30 < (len : Int)) = false := decide_eq_false (by omega)
    have d1' : decide (30 < len) = false := decide_eq_false (by omega)
    have d2 : decide (fuse < 0) = false := decide_eq_false (by omega)
    have d3 : decide (agn < 0) = false := decide_eq_false (by omega)
    have d4 : decide (20 < (klen : Int)) = false := decide_eq_false (by omega)
    have d4' : decide (20 < klen) = false := decide_eq_false (by omega)
    have d5 : decide (20 < (klen2 : Int)) = true := decide_eq_true (by omega)
    have d5' : decide (20 < klen2) = true := decide_eq_true (by omega)
    clear hI hK hK2
    go_enter Tryz.func5, Tryz.ntmps5
    go_wp2_with (go_at_call 9; (with_reducible refine (CA.out _).mono ?_); rintro _ w3 ⟨rfl, b3⟩)
    go_ret
    exact ⟨rfl, b3⟩
  exact maniWhole_hard a len cap l fuse dir ka klen kcap ks agn dir2 ka2 klen2 kcap2 ks2 w hI hK hKc hK2 hKc2 h0 h1 hf1 h2 ha1 h3 h4
end Go.Proofs.YtlecffpjcjlabaaGreat
