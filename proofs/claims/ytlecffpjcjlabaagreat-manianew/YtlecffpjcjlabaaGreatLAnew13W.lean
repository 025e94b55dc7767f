/- ManiAnew's walk. -/
import Derived.Test.YtlecffpjcjlabaaGreatP13G
import Derived.Test.YtlecffpjcjlabaaGreatP13L
namespace Go.Proofs.YtlecffpjcjlabaaGreat
open Go.RowKit Go.Shelf

set_option maxHeartbeats 8000000 in
set_option maxRecDepth 100000 in
theorem maniAnew_bad (n : Int) (name : ByteArray) (w : World) (hs : name.size ≤ maxLen) (h : n < 0 ∨ 80 < n ∨ 290 < name.size) : Calls Tryz.prog 6 #[.int .i64 n, .string name] w fun e w' => e = .returned (.bool true) ∧ Below w.heap.size w w' := by
  have HA := Lib.hid malive_any
  unfold maxLen at hs
  obtain ⟨b1, hb1⟩ : ∃ b1, decide (n < 0) = b1 := ⟨_, rfl⟩
  cases b1 with
  | true =>
    clear h
    go_enter Tryz.func6, Tryz.ntmps6
    go_wp2_with (go_at_call 9; (with_reducible refine (HA.out _).mono ?_); rintro _ w3 ⟨rfl, b3⟩)
    go_ret
    exact ⟨rfl, b3⟩
  | false =>
    obtain ⟨b2, hb2⟩ : ∃ b2, decide (80 < n) = b2 := ⟨_, rfl⟩
    cases b2 with
    | true =>
      clear h
      go_enter Tryz.func6, Tryz.ntmps6
      go_wp2_with (go_at_call 9; (with_reducible refine (HA.out _).mono ?_); rintro _ w3 ⟨rfl, b3⟩)
      go_ret
      exact ⟨rfl, b3⟩
    | false =>
      have h1 := of_decide_eq_false hb1
      have h2 := of_decide_eq_false hb2
      have hb3 : decide (290 < (name.size : Int)) = true := decide_eq_true (by omega)
      have hb4 : decide (290 < name.size) = true := decide_eq_true (by omega)
      clear h h1 h2
      go_enter Tryz.func6, Tryz.ntmps6
      go_wp2_with (go_at_call 9; (with_reducible refine (HA.out _).mono ?_); rintro _ w3 ⟨rfl, b3⟩)
      go_ret
      exact ⟨rfl, b3⟩
/-- What holds as the i-th round begins: the files, the manifest at M, and the version that was told last in the box Y. -/
def SA (name nz : ByteArray) (i p M Y : Nat) (w wr : World) : Prop := ∃ (s : St) (m : Mf) (rs : List (List UInt8)) (es : List Ed) (ra : Option Addr) (rc : Nat) (Qv : Nat → Prop) (vn : Int),
  AnewI name nz i s m rs es ∧ MSt w p M (24 + 24 * i) (5000 + 5000 * i) s m false (fun j => j = Y ∨ Qv j) wr ∧ BoxV Y m.v.log vn m.v.seq (.slice ra m.v.ts.length rc) wr ∧ RowQ Qv wr (.slice ra m.v.ts.length rc) m.v.ts ∧ ∀ j, Qv j → j ≠ Y
theorem sa_start {name nz : ByteArray} {p M : Nat} {s1 : St} {rs : List (List UInt8)} {es : List Ed} {ra : Option Addr} {rc : Nat} {Q2 : Nat → Prop} {w w2 W3 : World} (hA : AnewI name nz 0 s1 ⟨1, vStart⟩ rs es)
    (h : MSt w p M (0 + 24) (0 + 4000 + 9) s1 ⟨1, vStart⟩ false Q2 w2) (hr : RowQ Q2 w2 (.slice ra 0 rc) []) (hW : w2.alloc (.cells #[.int .i64 2, .int .i64 2, .int .u64 0, .slice ra 0 rc] 63) = W3) : SA name nz 0 p M w2.heap.size w W3 := by
  have b3 : Below w2.heap.size w2 W3 := by rw [← hW]; exact (Below.refl _ _).alloc (Nat.le_refl _) _
  have hsz : W3.heap.size = w2.heap.size + 1 := by rw [← hW]; simp
  have y3 : BoxV w2.heap.size 2 2 0 (.slice ra 0 rc) W3 := by rw [← hW]; exact new_block _ _ rfl
  have hlt := h.lt
  exact ⟨s1, _, rs, es, ra, rc, Q2, 2, hA, (h.made b3 fun j hj => hj.elim (fun e => .inr (by omega)) .inl).up (by omega) (by omega), y3, hr.kept fun j hj => b3.block j (hlt j hj), fun j hj => by have := hlt j hj; omega⟩
theorem sa_step {name nz : ByteArray} {p M Y X i n m' : Nat} {s9 : St} {m9 : Mf} {rs9 : List (List UInt8)} {es9 : List Ed} {nv : Vr} {ra : Option Addr} {rc : Nat} {Q6 : Nat → Prop} {w W7 : World} {vl vn : Int} {vq : Nat} {vv : Value} (hA : AnewI name nz (i + 1) s9 m9 rs9 es9) (h1 : m9.v.ts = nv.ts) (h2 : m9.v.log = nv.log) (h3 : m9.v.seq = nv.seq)
    (hM : MSt w p M n m' s9 m9 false (fun j => (j = Y ∨ j = X) ∨ Q6 j) W7) (hn : n ≤ 24 + 24 * (i + 1)) (hm : m' ≤ 5000 + 5000 * (i + 1)) (hY : BoxV Y vl vn vq vv W7) (hr : RowQ Q6 W7 (.slice ra nv.ts.length rc) nv.ts) (hQ : ∀ j, Q6 j → j ≠ Y) :
    SA name nz (i + 1) p M Y w (set4V W7 Y nv.log nv.next (nv.seq : Int) (.slice ra nv.ts.length rc)) := by
  have hYw : w.heap.size ≤ Y := hM.fx Y (.inl (.inl rfl))
  have hk : ∀ j, j ≠ Y → (set4V W7 Y nv.log nv.next (nv.seq : Int) (.slice ra nv.ts.length rc)).heap[j]? = W7.heap[j]? := fun j hj => set4V_block _ _ _ _ _ _ _ hj
  have hM2 := (hM.wrote (w' := set4V W7 Y nv.log nv.next (nv.seq : Int) (.slice ra nv.ts.length rc)) (set4V_size _ _ _ _ _ _) (set4V_below hM.bel Y hYw _ _ _ _) fun j hj => hk j fun e => hj (.inl (.inl e))).fewer (Gx := fun j => j = Y ∨ Q6 j) fun j hj => hj.elim (fun e => .inl (.inl e)) .inr
  refine ⟨s9, m9, rs9, es9, ra, rc, Q6, nv.next, hA, hM2.up hn hm, ?_, ?_, hQ⟩
  · rw [h1, h2, h3]
    exact hY.set4 _ _ _ _
  · rw [h1]
    exact hr.kept fun j hj => hk j (hQ j hj)
theorem two_row {w : World} {v : Value} {a b : List UInt8} (h : Row w 9 1 v [a, b].length (nmVals [a, b])) : ∃ g o cap, v = .slice (some ⟨g, o, none⟩) 2 cap ∧ g < w.heap.size ∧ w.cell? ⟨g, o, none⟩ = some (.string ⟨a.toArray⟩) ∧ w.cell? ⟨g, o + 1, none⟩ = some (.string ⟨b.toArray⟩) := by
  have hc := h.cell
  obtain ⟨a', cap, hv, -, -⟩ := h.le
  rcases h.2 with ⟨h0, -⟩ | ⟨g, c, cur, hv', -⟩
  · cases h0
  · rw [hv] at hv'
    cases hv'
    have c0 := hc g 0 _ hv 0 (.string ⟨a.toArray⟩) (by simp [nmVals, encStr])
    have c1 := hc g 0 _ hv 1 (.string ⟨b.toArray⟩) (by simp [nmVals, encStr])
    exact ⟨g, 0, _, hv, World.block_lt_of_cell? _ _ c0, c0, c1⟩
set_option maxHeartbeats 16000000 in
set_option maxRecDepth 100000 in
theorem maniAnew_good (k : Nat) (name : ByteArray) (w : World) (hn : k ≤ 80) (hs : name.size ≤ 290) : Calls Tryz.prog 6 #[.int .i64 (k : Int), .string name] w fun e w' => e = .returned (.bool true) ∧ Below w.heap.size w w' := by
  obtain ⟨nz, hnz⟩ : ∃ nz : ByteArray, name ++ ⟨#[122]⟩ = nz := ⟨_, rfl⟩
  have hnzs : nz.size ≤ 291 := by rw [← hnz, ByteArray.size_append]; show name.size + 1 ≤ _; omega
  have hnzc : cmpS nz name ≠ -1 := by
    rw [← hnz]
    unfold cmpS
    rw [ByteArray.data_append, Array.toList_append]
    exact cb_more _ _
  obtain ⟨s1, p1, p2⟩ := anewI_start (name := name) (nz := nz)
  have d1 : decide ((k : Int) < 0) = false := decide_eq_false (by omega)
  have d2 : decide (80 < (k : Int)) = false := decide_eq_false (by omega)
  have d3 : decide (290 < (name.size : Int)) = false := decide_eq_false (by omega)
  have d4 : decide (290 < name.size) = false := decide_eq_false (by omega)
  have d5 : decide (80 < k) = false := decide_eq_false (by omega)
  have C1 := Lib.hid (hs_new 0 (by omega) w)
  have hG : GoodO 4000 (St.new 0) := goodO_new (Nat.le_trans start_len (by decide)) (by decide)
  have C2 := Lib.hid (fun (W : World) (p : Nat) (h : Hs (fun k => k < w.heap.size) w.heap.size p 0 0 (St.new 0) W) (hb : Below w.heap.size w W) => (mst_start hb h (by omega) (by omega) 4000 hG s1 0 ⟨1, vStart⟩ p1 (fun _ => Nat.zero_le _)).mono fun e w' h => start_lit h)
  have HAI := Lib.hid p2
  have HAL := Lib.hid malive_any
  have HNZ := Lib.hid (And.intro hnz (And.intro hnzs hnzc))
  clear p1 p2 hG hnz hnzs hnzc
  go_enter Tryz.func6, Tryz.ntmps6
  go_wp2_with fail
  go_at_call 10
  (with_reducible refine C1.out.mono ?_)
  rintro _ w1 ⟨p, rfl, h1, b1⟩
  have C2' := Lib.hid (C2.out w1 p h1 b1)
  clear h1 b1 C1 C2
  go_wp2_with fail
  go_at_call 15
  (with_reducible refine C2'.out.mono ?_)
  rintro _ w2 ⟨M, ra, rc, Q2, rfl, q, hr2⟩
  obtain ⟨W3, hW3⟩ : ∃ W3, w2.alloc (.cells #[.int .i64 2, .int .i64 2, .int .u64 0, .slice ra 0 rc] 63) = W3 := ⟨_, rfl⟩
  have HSA := Lib.hid (sa_start HAI.out q hr2 hW3)
  obtain ⟨Y, hY⟩ : ∃ Y, w2.heap.size = Y := ⟨_, rfl⟩
  rw [hY] at HSA
  have HW3 := Lib.hid hW3
  have HYE := Lib.hid hY
  clear hW3 q hr2 C2' hY
  go_upto_region 7 with fail
  rw [HW3.out, HYE.out]
  clear HW3
  go_wp2_with fail
  go_loopw [9] (fun iv wr => ∃ i : Nat, iv = .int .i64 (i : Int) ∧ i ≤ k ∧ SA name nz i p M Y w wr) (fun iv _ => k - (intOf iv).toNat)
  case atStart => exact ⟨0, rfl, Nat.zero_le _, HSA.out⟩
  case round =>
    obtain ⟨i, rfl, hi, hsa⟩ := hrel
    by_cases hlt : i < k
    · obtain ⟨s, m, rs, es, ra, rc, Qv, vn, hAI, hMS, hBox, hRow, hQv⟩ := hsa
      have hi80 : i < 80 := by omega
      have hil : (i : Int) < (k : Int) := by omega
      have hw1 : IntKind.i64.wrap (2 * (i : Int)) = 2 * (i : Int) := by rw [IntKind.wrap_i64]; omega
      have hw2 : IntKind.i64.wrap (10 + 2 * (i : Int)) = 10 + 2 * (i : Int) := by rw [IntKind.wrap_i64]; omega
      have hw3 : IntKind.i64.wrap (5 + (i : Int)) = 5 + (i : Int) := by rw [IntKind.wrap_i64]; omega
      have hw4 : IntKind.i64.wrap (1 + (i : Int)) = 1 + (i : Int) := by rw [IntKind.wrap_i64]; omega
      have hcc := HNZ.out.1
      have kc1 : ¬ (9223372036854775807 < name.size + (⟨#[122]⟩ : ByteArray).size) := by show ¬ (9223372036854775807 < name.size + 1); omega
      have kc2 : name.data.size + (⟨#[122]⟩ : ByteArray).data.size ≤ 9223372036854775807 := by show name.size + 1 ≤ _; omega
      obtain ⟨s9, m9, rs9, es9, hst, hA9, hts9, hlog9, hseq9⟩ := hAI.step hs HNZ.out.2.1 HNZ.out.2.2 hi80
      obtain ⟨hap, hok, hnl, hnK, hnL, hway, hnum⟩ := hAI.next hs HNZ.out.2.1 HNZ.out.2.2 hi80
      have hml := hAI.few
      obtain ⟨T, hT⟩ : ∃ T, wr.heap.size = T := ⟨_, rfl⟩
      have HT := Lib.hid hT
      have HIN := Lib.hid (And.intro hAI (And.intro hMS (And.intro hBox (And.intro hRow hQv))))
      have HST := Lib.hid (And.intro hst (And.intro hA9 (And.intro hts9 (And.intro hlog9 hseq9))))
      have HAP := Lib.hid (And.intro hap (And.intro hok (And.intro hnl (And.intro hnK (And.intro hnL (And.intro hway hnum))))))
      clear hAI hMS hBox hRow hQv hst hA9 hts9 hlog9 hseq9 hap hok hnl hnK hnL hway hnum hT
      obtain ⟨W4, hW4⟩ : ∃ W4, (wr.alloc (.cells #[.int .i64 (5 + (i : Int)), .int .i64 0, .int .i64 9, .string name, .string nz] 89)).alloc (.cells #[.int .i64 0, .int .i64 (10 + 2 * (i : Int)), .int .u64 0, .slice (some ⟨wr.heap.size, 0, none⟩) 1 1, .slice none 0 0] 52) = W4 := ⟨_, rfl⟩
      have b4 : Below wr.heap.size wr W4 := by rw [← hW4]; exact ((Below.refl _ _).alloc (Nat.le_refl _) _).alloc (by simp) _
      have s4 : W4.heap.size = wr.heap.size + 2 := by rw [← hW4]; simp
      have t4 : TbsV W4 (.slice (some ⟨wr.heap.size, 0, none⟩) 1 1) [tabN name nz i] := .inr ⟨_, _, rfl, fun j u hu => by
        rw [add_plainT, Nat.zero_add, ← hW4]
        refine oce (by simp) (nce rfl ?_)
        simpa [cellsT, Tb.cells, tabN] using hu⟩
      have x4 : BoxEd (wr.heap.size + 1) 0 (10 + 2 * (i : Int)) 0 (.slice (some ⟨wr.heap.size, 0, none⟩) 1 1) (.slice none 0 0) W4 := by
        rw [← hW4]; exact new_block _ _ (by simp)
      rw [HT.out] at t4 x4 s4
      have HW4 := Lib.hid hW4
      have H4 := Lib.hid (And.intro b4 (And.intro s4 (And.intro t4 x4)))
      clear hW4 b4 s4 t4 x4
      go_upto_if 64 with fail
      rw [HW4.out, HT.out]
      clear HW4
      go_cut [] from 52 to 68 (fun wx => ∃ W5 da dc, W5 = wx ∧ Hid (BoxEd (T + 1) 0 (10 + 2 * (i : Int)) 0 (.slice (some ⟨T, 0, none⟩) 1 1) (.slice da (edN name nz i).drop.length dc) W5) ∧ Hid (TbsV W5 (.slice (some ⟨T, 0, none⟩) 1 1) [tabN name nz i]) ∧ Hid (IntsV W5 (.slice da (edN name nz i).drop.length dc) (edN name nz i).drop) ∧ Hid (Below wr.heap.size wr W5))
      case first =>
        by_cases h3 : 3 < i
        · have e1 : decide (3 < (i : Int)) = true := decide_eq_true (by omega)
          have e2 : decide (3 < i) = true := decide_eq_true h3
          obtain ⟨b4, s4, t4, x4⟩ := H4.out
          have hTl : wr.heap.size = T := HT.out
          have bC : Below W4.heap.size W4 (W4.alloc (.cells #[.int .i64 (1 + (i : Int))] 3)) := (Below.refl _ _).alloc (Nat.le_refl _) _
          have xC := x4.below bC
          have f4 := xC.f 4
          have g4 := xC.c4
          have HXC := Lib.hid xC
          have HBC := Lib.hid bC
          clear b4 s4 t4 x4 bC xC hTl
          go_wp2_with fail
          go_meet
          obtain ⟨b4, s4, t4, x4⟩ := H4.out
          have hTl : wr.heap.size = T := HT.out
          have hed : (edN name nz i).drop = [1 + (i : Int)] := by unfold edN; simp only; rw [if_pos h3]
          refine ⟨_, some ⟨W4.heap.size, 0, none⟩, 1, rfl, ?_, ?_, ?_, ?_⟩
          · rw [hed]
            exact Lib.hid (heap_setCell_same _ (T + 1) 4 _ _ _ HXC.out)
          · refine Lib.hid (.inr ?_)
            rcases t4 with ⟨t4, -⟩ | ⟨y, c, t4, hc⟩
            · cases t4
            · refine ⟨y, c, t4, fun j u hu => ?_⟩
              obtain rfl : (⟨T, 0, none⟩ : Addr) = y := by
                have := (Value.slice.inj t4).1
                exact Option.some.inj this
              have h5 := hc j u hu
              have h6 := (HBC.out.cell (p := (⟨T, 0, none⟩ : Addr).add j) (World.block_lt_of_cell? _ _ h5)).trans h5
              rw [add_plainT] at h6 ⊢
              exact (World.cell?_of_block (set_block _ (T + 1) 4 _ T (by omega))).trans h6
          · rw [hed]
            refine Lib.hid (.inr ⟨_, _, rfl, fun j hj => ?_⟩)
            obtain rfl : j = 0 := by simp at hj; omega
            rw [add_plainT]
            exact (World.cell?_of_block (set_block _ (T + 1) 4 _ W4.heap.size (by omega))).trans (nce rfl rfl)
          · exact Lib.hid ((b4.alloc b4.size _).setCell (p := ⟨T + 1, 4, none⟩) (show wr.heap.size ≤ T + 1 by omega) _)
        · have e1 : decide (3 < (i : Int)) = false := decide_eq_false (by omega)
          have e2 : decide (3 < i) = false := decide_eq_false h3
          go_wp2_with fail
          go_meet
          obtain ⟨b4, s4, t4, x4⟩ := H4.out
          have hed : (edN name nz i).drop = [] := by unfold edN; simp only; rw [if_neg h3]
          refine ⟨W4, none, 0, rfl, ?_, Lib.hid t4, ?_, Lib.hid b4⟩
          · rw [hed]; exact Lib.hid x4
          · rw [hed]; exact Lib.hid (intsV_nil _)
      case rest =>
        obtain ⟨W5, da, dc, rfl, HX5, HT5, HI5, HB5⟩ := hcut
        have HMS5 := Lib.hid (HIN.out.2.1.same HB5.out)
        have hm10 : m.v.ts.length ≤ 10000 := by omega
        obtain ⟨nv, hnv⟩ : ∃ nv, nextV m.v (edN name nz i) = nv := ⟨_, rfl⟩
        have HV := Lib.hid (fun (W : World) (b : Below W5.heap.size W5 W) => mst_version HMS5.out b hm10)
        have HA := fun (W : World) (b : Below W5.heap.size W5 W) (ra : Option Addr) (rc : Nat) (hr : TbsV W (.slice ra m.v.ts.length rc) m.v.ts) => apply_told m.v (edN name nz i) ra (some ⟨T, 0, none⟩) da rc 1 dc W hr (HT5.out.below b) (HI5.out.below b) hm10 HAP.out.2.2.2.2.2.1 HAP.out.2.1 HAP.out.1
        rw [hnv] at HA
        have HA := Lib.hid (show ∀ (W : World) (b : Below W5.heap.size W5 W) (ra : Option Addr) (rc : Nat) (hr : TbsV W (.slice ra m.v.ts.length rc) m.v.ts), Calls Tryz.prog 28 #[.agg #[.int .i64 m.v.log, .int .i64 m.v.next, .int .u64 (m.v.seq : Int), .slice ra m.v.ts.length rc], .agg #[.int .i64 0, .int .i64 (10 + 2 * (i : Int)), .int .u64 0, .slice (some ⟨T, 0, none⟩) 1 1, .slice da (edN name nz i).drop.length dc]] W fun x w' => ∃ ra rc, x = .returned (.tuple #[.agg #[.int .i64 nv.log, .int .i64 nv.next, .int .u64 (nv.seq : Int), .slice ra nv.ts.length rc], .int .i64 0]) ∧ RowB w' (.slice ra nv.ts.length rc) nv.ts ∧ (∀ k, ob (.slice ra nv.ts.length rc) = some k → W.heap.size ≤ k) ∧ Below W.heap.size W w' from HA)
        have HQ := Lib.hid (show ∀ W', Below W5.heap.size W5 W' → W'.cell? ⟨T + 1, 0, none⟩ = some (.int .i64 0) ∧ W'.cell? ⟨T + 1, 1, none⟩ = some (.int .i64 (10 + 2 * (i : Int))) ∧ W'.cell? ⟨T + 1, 2, none⟩ = some (.int .u64 0) ∧ W'.cell? ⟨T + 1, 3, none⟩ = some (.slice (some ⟨T, 0, none⟩) 1 1) ∧ W'.cell? ⟨T + 1, 4, none⟩ = some (.slice da (edN name nz i).drop.length dc) from fun W' hb => by
          have y' := HX5.out.below hb
          exact ⟨y'.c0, y'.c1, y'.c2, y'.c3, y'.c4⟩)
        have HBC := Lib.hid (show Below W5.heap.size W5 (W5.alloc (.cells #[.int .i64 0, .int .i64 0, .int .u64 0, .slice none 0 0] 63)).drew from ((Below.refl _ _).alloc (Nat.le_refl _) _).drew)
        have HZA := Lib.hid (show BoxV W5.heap.size 0 0 0 (.slice none 0 0) (W5.alloc (.cells #[.int .i64 0, .int .i64 0, .int .u64 0, .slice none 0 0] 63)).drew from (new_block _ _ rfl : (W5.alloc (.cells #[.int .i64 0, .int .i64 0, .int .u64 0, .slice none 0 0] 63)).heap[W5.heap.size]? = _))
        have HNV := Lib.hid hnv
        clear hnv
        go_upto_region 13 with fail
        go_cut [11, 12] from 69 to 75 (fun xv ev wx => ∃ X W6, W6 = wx ∧ xv = .pointer (some ⟨X, 0, none⟩) ∧ ev = .int .i64 0 ∧ Hid (AppS W5 nv X W6))
        case first =>
          obtain ⟨e0, e1, e2, e3, e4⟩ := HQ.out W5 (Below.refl _ _)
          go_region_held3 (fun W' => W'.cell? ⟨T + 1, 0, none⟩ = some (.int .i64 0) ∧ W'.cell? ⟨T + 1, 1, none⟩ = some (.int .i64 (10 + 2 * (i : Int))) ∧ W'.cell? ⟨T + 1, 2, none⟩ = some (.int .u64 0) ∧ W'.cell? ⟨T + 1, 3, none⟩ = some (.slice (some ⟨T, 0, none⟩) 1 1) ∧ W'.cell? ⟨T + 1, 4, none⟩ = some (.slice da (edN name nz i).drop.length dc))
            (first | (go_keep; done) | exact HQ.out _ (Below.refl _ _).drew | exact HQ.out _ BB | exact HQ.out _ (BB.alloc BB.size _) | exact HQ.out _ (below_set4 BB W5.heap.size (Nat.le_refl _) _ _ _ _) | exact HQ.out _ (below_set4 BB _ BV.size _ _ _ _) | exact HQ.out _ BV | exact HQ.out _ (BV.alloc BV.size _) | exact HQ.out _ (((Below.refl _ _).drew).alloc (Nat.le_refl _) _) | exact HQ.out _ (((Below.refl _ _).alloc (Nat.le_refl _) _).drew) | fail)
            (first
              | (go_at_call 20; (with_reducible refine (HV.out W5.drew (Below.refl _ _).drew).mono ?_); rintro _ w6 ⟨rv, rcv, rfl, hr6, ho6, b6⟩; have BV : Below W5.heap.size W5 w6 := (Below.refl _ _).drew.trans b6)
              | (go_at_call 20; (with_reducible refine (HV.out _ HBC.out).mono ?_); rintro _ w6 ⟨rv, rcv, rfl, hr6, ho6, b6⟩; have BV : Below W5.heap.size W5 w6 := HBC.out.trans (b6.mono HBC.out.size); have zb6 := HZA.out.below b6)
              | (go_at_call 28; (with_reducible refine (HA.out w6 BV rv rcv hr6.v).mono ?_); rintro _ w7 ⟨ra7, rc7, rfl, hr7, ho7, b7⟩; have BB : Below W5.heap.size W5 w7 := BV.trans (b7.mono BV.size); have zb := zb6.below b7; have g0 := zb.c0; have g1 := zb.c1; have g2 := zb.c2; have g3 := zb.c3; have f0 := zb.f 0; have f1 := zb.f 1; have f2 := zb.f 2; have f3 := zb.f 3)
              | (go_at_call 28; (with_reducible refine (HA.out w6 BV rv rcv hr6.v).mono ?_); rintro _ w7 ⟨ra7, rc7, rfl, hr7, ho7, b7⟩; have BB : Below W5.heap.size W5 w7 := BV.trans (b7.mono BV.size))
              | (go_at_call 28; (with_reducible refine (HA.out _ (BV.alloc BV.size _) rv rcv (hr6.v.below ((Below.refl _ _).alloc (Nat.le_refl _) _))).mono ?_); rintro _ w7 ⟨ra7, rc7, rfl, hr7, ho7, b7⟩; have BB : Below W5.heap.size W5 w7 := (BV.alloc BV.size _).trans (b7.mono (BV.alloc BV.size _).size); have zb : BoxV w6.heap.size 0 0 0 (.slice none 0 0) w7 := BoxV.below (new_block _ _ rfl : (w6.alloc (.cells #[.int .i64 0, .int .i64 0, .int .u64 0, .slice none 0 0] 63)).heap[w6.heap.size]? = _) b7; have g0 := zb.c0; have g1 := zb.c1; have g2 := zb.c2; have g3 := zb.c3; have f0 := zb.f 0; have f1 := zb.f 1; have f2 := zb.f 2; have f3 := zb.f 3)
              | fail)
          all_goals go_wp2_with fail
          all_goals go_meet
          all_goals first
            | exact ⟨_, _, rfl, rfl, rfl, Lib.hid (appS_new BB hr7 fun k hk => Nat.le_trans BV.size (ho7 k hk))⟩
            | exact ⟨_, _, rfl, rfl, rfl, Lib.hid (appS_set zb (Nat.le_refl _) BB hr7 fun k hk => ⟨Nat.le_trans BV.size (ho7 k hk), by have h1 := ho7 k hk; have h2 := b6.size; simp at h1 h2; omega⟩)⟩
            | exact ⟨_, _, rfl, rfl, rfl, Lib.hid (appS_set zb BV.size BB hr7 fun k hk => ⟨by have h1 := ho7 k hk; have h2 := BV.size; simp at h1; omega, by have h1 := ho7 k hk; simp at h1; omega⟩)⟩
            | fail
        case rest =>
          obtain ⟨X, W6, rfl, rfl, rfl, HS6⟩ := hcut
          obtain ⟨ra6, rc6, Q6, hX6, hr6, hq6, hge, hb6⟩ := HS6.out
          obtain ⟨hap, hok, hnl, hnK, hnL, hway, hnum⟩ := HAP.out
          rw [HNV.out] at hnl hnK
          have hltY : Y < W5.heap.size := HMS5.out.lt Y (.inl rfl)
          have hMS6 : MSt w p M (24 + 24 * i) (5000 + 5000 * i) s m false (fun j => (j = Y ∨ j = X) ∨ Q6 j) W6 := HMS5.out.made hb6 fun j hj => by
            rcases hj with (hj | hj) | hj
            · exact .inl (.inl hj)
            · exact .inr ⟨by omega, by rw [hj]; exact hX6.lt⟩
            · exact .inr ⟨(hq6 j hj).1, (hq6 j hj).2.1⟩
          have CADD := mst_add hMS6 (by omega) (by omega) hnum hway hm10 (edN name nz i) (some ⟨T, 0, none⟩) 1 da dc (HT5.out.below hb6) (HI5.out.below hb6) hok 720 (fun _ => hnL) (by omega) (by rw [HNV.out]; omega) 2698 (by rw [HNV.out]; exact hnK) s9 0 m9 false HST.out.1
          have CADD := Lib.hid (show Calls Tryz.prog 12 #[.pointer (some ⟨M, 0, none⟩), .agg #[.int .i64 0, .int .i64 (10 + 2 * (i : Int)), .int .u64 0, .slice (some ⟨T, 0, none⟩) 1 1, .slice da (edN name nz i).drop.length dc]] W6 fun x w' => x = .returned (.int .i64 0) ∧ MSt w p M (24 + 24 * i + 24) (5000 + 5000 * i + (8 + 720) + 2698 + 9) s9 m9 false (fun j => (j = Y ∨ j = X) ∨ Q6 j) w' ∧ Below w.heap.size W6 w' ∧ ∀ j, (j = Y ∨ j = X) ∨ Q6 j → w'.heap[j]? = W6.heap[j]? from CADD)
          have y6 := HX5.out.below hb6
          have e0 := y6.c0
          have e1 := y6.c1
          have e2 := y6.c2
          have e3 := y6.c3
          have e4 := y6.c4
          have HX6 := Lib.hid hX6
          have HY6 := Lib.hid ((hb6.block Y hltY).trans ((HB5.out.block Y HIN.out.2.2.1.lt).trans HIN.out.2.2.1))
          have HR6 := Lib.hid (And.intro hr6 (And.intro hq6 (And.intro hge hltY)))
          clear hap hok hnl hnK hnL hway hnum y6 hX6 hr6 hq6 hge hb6 hMS6 hltY HS6 HQ HV HA HBC HZA
          go_wp2_with fail
          go_at_call 12
          (with_reducible refine CADD.out.mono ?_)
          rintro _ W7 ⟨rfl, hMS7, hb7, hk7⟩
          have x7 : BoxV X nv.log nv.next nv.seq (.slice ra6 nv.ts.length rc6) W7 := (hk7 X (.inl (.inr rfl))).trans HX6.out
          have y7 : BoxV Y m.v.log vn m.v.seq (.slice ra m.v.ts.length rc) W7 := (hk7 Y (.inl (.inl rfl))).trans HY6.out
          have e0 := x7.c0
          have e1 := x7.c1
          have e2 := x7.c2
          have e3 := x7.c3
          have g0 := y7.c0
          have g1 := y7.c1
          have g2 := y7.c2
          have g3 := y7.c3
          have f0 := y7.f 0
          have f1 := y7.f 1
          have f2 := y7.f 2
          have f3 := y7.f 3
          have hr7 : RowQ Q6 W7 (.slice ra6 nv.ts.length rc6) nv.ts := HR6.out.1.kept fun j hj => hk7 j (.inr hj)
          have hq7 : ∀ j, Q6 j → j ≠ Y := fun j hj => by have h1 := HR6.out.2.1 j hj; have h2 := HR6.out.2.2.2; omega
          have HEND := Lib.hid (sa_step HST.out.2.1 (HST.out.2.2.1.trans (by rw [HNV.out])) (HST.out.2.2.2.1.trans (by rw [HNV.out])) (HST.out.2.2.2.2.trans (by rw [HNV.out])) hMS7 (by omega) (by omega) y7 hr7 hq7)
          clear x7 y7 hr7 hq7 hMS7 hb7 hk7 CADD
          go_wp2_with fail
          go_roundw
          case rel => exact ⟨i + 1, by go_num, by omega, HEND.out⟩
          case measure => simp [intOf]; omega
    · obtain rfl : i = k := by omega
      obtain ⟨wo, hwo⟩ : ∃ wo, wo = wr := ⟨wr, rfl⟩
      subst hwo
      obtain ⟨s, m, rs, es, ra, rc, Qv, vn, hAI, hMS, hBox, hRow, hQv⟩ := hsa
      have hnum := hAI.man.num
      obtain ⟨NM, hNM⟩ : ∃ NM : ByteArray, (⟨(nmM m.num).toArray⟩ : ByteArray) = NM := ⟨_, rfl⟩
      have hNl : NM.data.toList = nmM m.num := by rw [← hNM]
      have hNs : NM.size = 9 := by rw [← hNM]; rfl
      obtain ⟨FB, hFB⟩ : ∃ FB : ByteArray, (⟨(frames rs).toArray⟩ : ByteArray) = FB := ⟨_, rfl⟩
      have hFs : FB.size ≤ 21000 := by rw [← hFB]; have := hAI.len; simpa [ByteArray.size] using this
      have CN := mst_name hMS (Below.refl _ _) hnum
      rw [hNM] at CN
      have CN := Lib.hid CN
      have CR := fun W (b : Below wo.heap.size wo W) => mst_read (hMS.same b) NM (by unfold maxLen; omega)
      rw [hNl, read_some hAI.man.calm hAI.man.file] at CR
      unfold readV at CR
      simp only [hFB] at CR
      have CR := Lib.hid CR
      have CL := fun W (b : Below wo.heap.size wo W) => mst_names (hMS.same b) (by omega)
      rw [names_man hAI.man] at CL
      have CL := Lib.hid CL
      have HNM := Lib.hid (And.intro hNM (And.intro hNl hNs))
      have HIN := Lib.hid (And.intro hAI (And.intro hMS (And.intro hBox (And.intro hRow hQv))))
      have hf21 : decide ((FB.size : Int) ≤ 21000) = true := decide_eq_true (by omega)
      have hf21' : decide (FB.size ≤ 21000) = true := decide_eq_true (by omega)
      clear hAI hMS hBox hRow hQv hNM hFB hNl hNs
      go_wp2_with fail
      go_at_call 22
      (with_reducible refine CN.out.mono ?_)
      rintro _ w4 ⟨rfl, b4⟩
      have CR2 := Lib.hid (CR.out w4 b4)
      have CL2 := Lib.hid (CL.out w4 b4)
      have HB4 := Lib.hid b4
      clear b4 CN CR CL
      go_wp2_with (first | (go_at_call 32; (with_reducible refine CR2.out.mono ?_); rintro _ _ ⟨rfl, rfl⟩) | fail)
      go_at_call 33
      (with_reducible refine CL2.out.mono ?_)
      rintro _ w5 ⟨lv, rfl, hrow, b5⟩
      obtain ⟨g, o, lc, rfl, hgl, n0, n1⟩ := two_row hrow
      rw [HNM.out.1] at n1
      have HB5 := Lib.hid (HB4.out.trans (b5.mono HB4.out.size))
      have HN01 := Lib.hid (And.intro (show w5.cell? ⟨g, o, none⟩ = some (.string ⟨#[67, 85, 82, 82, 69, 78, 84]⟩) from n0) n1)
      clear hrow b5 n0 n1 CL2 CR2
      go_wp2_with fail
      go_loopw [15, 17] (fun cv iv wr => ∃ j c : Nat, iv = .int .i64 (j : Int) ∧ cv = .int .i64 (c : Int) ∧ j ≤ 2 ∧ Hid (c = j - 1) ∧ Hid (Below w5.heap.size w5 wr)) (fun _ iv _ => 2 - (intOf iv).toNat)
      case atStart => exact ⟨0, 0, rfl, rfl, Nat.zero_le _, Lib.hid rfl, Lib.hid (Below.refl _ _)⟩
      case round =>
        obtain ⟨j, c, rfl, rfl, hj, HC, HBJ⟩ := hrel
        by_cases hj2 : j < 2
        · have hj2i : (j : Int) < 2 := by omega
          obtain ⟨S, hS0, hS, hS1⟩ : ∃ (S : ByteArray) (h : 0 < S.size), wr.cell? ⟨g, o + j, none⟩ = some (.string S) ∧ ((S[0].toNat : Int) == 109) = decide (j = 1) := by
            rcases (show j = 0 ∨ j = 1 by omega) with rfl | rfl
            · exact ⟨⟨#[67, 85, 82, 82, 69, 78, 84]⟩, by decide, (HBJ.out.cell (p := ⟨g, o, none⟩) hgl).trans HN01.out.1, by decide⟩
            · refine ⟨NM, by rw [HNM.out.2.2]; decide, (HBJ.out.cell (p := ⟨g, o + 1, none⟩) hgl).trans HN01.out.2, ?_⟩
              have h := HNM.out.1
              subst h
              rfl
          by_cases hj1 : j = 1
          · have hS2 : ((S[0].toNat : Int) == 109) = true := by rw [hS1, hj1]; rfl
            have HJ1 := Lib.hid hj1
            have hcb : (c : Int) ≤ 1 := by have := HC.out; omega
            clear hS1 hj1
            go_wp2_with fail
            go_roundw
            case rel => exact ⟨j + 1, c + 1, by go_num, by go_num, by omega, Lib.hid (by have := HC.out; have := HJ1.out; omega), HBJ⟩
            case measure => simp [intOf]; omega
          · have hS2 : ((S[0].toNat : Int) == 109) = false := by rw [hS1]; exact decide_eq_false hj1
            clear hS1
            go_wp2_with fail
            go_roundw
            case rel => exact ⟨j + 1, c, by go_num, rfl, by omega, Lib.hid (by have := HC.out; omega), HBJ⟩
            case measure => simp [intOf]; omega
        · obtain rfl : j = 2 := by omega
          obtain rfl : c = 1 := HC.out
          obtain ⟨hAI, hMS, hBox, hRow, hQv⟩ := HIN.out
          have HYW := Lib.hid (hMS.fx Y (.inl rfl))
          have hBw : Below wo.heap.size wo wr := HB5.out.trans (HBJ.out.mono HB5.out.size)
          have hMw := hMS.same hBw
          obtain ⟨o1, o2⟩ := open_same hAI.man
          have hm4 := hAI.few
          have hlt := hMS.lt
          have CO := (mst_open hMw (by omega) (by omega) 4000 (hAI.goodO (by omega)) (openM s).1 0 m (Prod.ext rfl o1) (fun _ => by omega)).mono fun e w' ⟨g1, g2, g3, g4⟩ => And.intro g1 (And.intro g2 (And.intro g3 (opens_ok g4)))
          have CO := Lib.hid CO
          have HBY := Lib.hid (And.intro ((hBw.block Y hBox.lt).trans hBox) (And.intro (hRow.kept fun j hj => hBw.block j (hlt j (.inr hj))) hQv))
          have hm10 : m.v.ts.length ≤ 10000 := by omega
          clear hAI hMS hBox hRow hQv hBw hMw o1 o2 hm4 hlt
          go_wp2_with fail
          go_at_call 15
          (with_reducible refine CO.out.mono ?_)
          rintro _ w7 ⟨hb7, hk7, hM7, M2, ra2, rc2, Q2', rfl, hN7, hr7, hq7⟩
          obtain ⟨W8, hW8⟩ : ∃ W8, w7.alloc (.cells #[.int .i64 m.v.log, .int .i64 m.v.next, .int .u64 (m.v.seq : Int), .slice ra2 m.v.ts.length rc2] 63) = W8 := ⟨_, rfl⟩
          obtain ⟨X2, hX2⟩ : ∃ X2, w7.heap.size = X2 := ⟨_, rfl⟩
          have b8 : Below w7.heap.size w7 W8 := by rw [← hW8]; exact (Below.refl _ _).alloc (Nat.le_refl _) _
          have hs8 : W8.heap.size = X2 + 1 := by rw [← hW8, ← hX2]; simp
          have x8 : BoxV X2 m.v.log m.v.next m.v.seq (.slice ra2 m.v.ts.length rc2) W8 := by rw [← hW8, ← hX2]; exact new_block _ _ rfl
          have hltN := hN7.lt
          have y8 : BoxV Y m.v.log vn m.v.seq (.slice ra m.v.ts.length rc) W8 := (b8.block Y (hltN Y (.inl (.inl rfl)))).trans ((hk7 Y (.inl rfl)).trans HBY.out.1)
          have hv2 : RowQ Q2' W8 (.slice ra2 m.v.ts.length rc2) m.v.ts := hr7.kept fun j hj => b8.block j (hltN j (.inr hj))
          have hv1 : RowQ Qv W8 (.slice ra m.v.ts.length rc) m.v.ts := HBY.out.2.1.kept fun j hj => (b8.block j (hltN j (.inl (.inr hj)))).trans (hk7 j (.inr hj))
          have CV := mst_version (hM7.same b8) (Below.refl _ _) hm10
          have hYX : Y < X2 := by rw [← hX2]; exact hltN Y (.inl (.inl rfl))
          have H8 := Lib.hid (And.intro x8 (And.intro y8 (And.intro hv2 (And.intro hv1 (And.intro hYX (hM7.same b8).bel)))))
          have hQ8 := Lib.hid (show ∀ j, Qv j → j ≠ Y ∧ j < W8.heap.size from fun j hj => ⟨HBY.out.2.2 j hj, by have := hltN j (.inl (.inr hj)); omega⟩)
          have hQ8' := Lib.hid (show ∀ j, Q2' j → j ≠ Y ∧ j < W8.heap.size from fun j hj => ⟨by have h1 := hq7 j hj; have h2 := BoxV.lt HBY.out.1; omega, by have := hltN j (.inr hj); omega⟩)
          have CV := Lib.hid CV
          have HW8 := Lib.hid hW8
          have HX2 := Lib.hid hX2
          clear hW8 hX2 b8 hs8 x8 hltN y8 hv2 hv1 hYX hb7 hk7 hM7 hN7 hr7 hq7 CO
          go_upto_region 26 with fail
          rw [HW8.out, HX2.out]
          clear HW8
          go_wp2_with fail
          go_at_call 20
          (with_reducible refine CV.out.mono ?_)
          rintro _ w9 ⟨ra3, rc3, rfl, hr9, ho9, b9⟩
          obtain ⟨W10, hW10⟩ : ∃ W10, w9.alloc (.cells #[.int .i64 m.v.log, .int .i64 m.v.next, .int .u64 (m.v.seq : Int), .slice ra3 m.v.ts.length rc3] 63) = W10 := ⟨_, rfl⟩
          obtain ⟨X3, hX3⟩ : ∃ X3, w9.heap.size = X3 := ⟨_, rfl⟩
          have hA : AppS W8 m.v X3 W10 := by rw [← hW10, ← hX3]; exact appS_new b9 hr9 ho9
          obtain ⟨ra4, rc4, Q4, z10, hr10, hq10, hg10, b10⟩ := hA
          obtain ⟨x8, y8, hv2, hv1, hYX, hbel⟩ := H8.out
          have x10 := x8.below b10
          have y10 := y8.below b10
          have h3Y : X3 ≠ Y := by have := y8.lt; omega
          have hY3 : Y ≠ X3 := by omega
          have hX2Y : X2 ≠ Y := by omega
          have hY2 : Y ≠ X2 := by omega
          obtain ⟨W11, hW11⟩ : ∃ W11, W10.setCell ⟨Y, 1, none⟩ (.int .i64 m.v.next) = W11 := ⟨_, rfl⟩
          have hk11 : ∀ j, j ≠ Y → W11.heap[j]? = W10.heap[j]? := fun j hj => by rw [← hW11]; exact set_block _ _ _ _ _ hj
          have x11 : BoxV X2 m.v.log m.v.next m.v.seq (.slice ra2 m.v.ts.length rc2) W11 := (hk11 X2 hX2Y).trans x10
          have z11 : BoxV X3 m.v.log m.v.next m.v.seq (.slice ra4 m.v.ts.length rc4) W11 := (hk11 X3 h3Y).trans z10
          have y11 : BoxV Y m.v.log m.v.next m.v.seq (.slice ra m.v.ts.length rc) W11 := by rw [← hW11]; exact heap_setCell_same _ Y 1 _ _ _ y10
          have tv3 : TbsV W11 (.slice ra4 m.v.ts.length rc4) m.v.ts := (hr10.kept fun j hj => hk11 j (by have := hq10 j hj; have := y8.lt; omega)).row.v
          have tv1 : TbsV W11 (.slice ra m.v.ts.length rc) m.v.ts := (hv1.kept fun j hj => (hk11 j (hQ8.out j hj).1).trans (b10.block j (hQ8.out j hj).2)).row.v
          have tv2 : TbsV W11 (.slice ra2 m.v.ts.length rc2) m.v.ts := (hv2.kept fun j hj => (hk11 j (hQ8'.out j hj).1).trans (b10.block j (hQ8'.out j hj).2)).row.v
          have g1 := z10.c1
          have g1' := y10.c1
          have f1 := y10.f 1
          have HBW := Lib.hid (show Below w.heap.size w W11 by rw [← hW11]; exact (hbel.trans (b10.mono hbel.size)).setCell (p := ⟨Y, 1, none⟩) HYW.out (.int .i64 m.v.next))
          have HQ := Lib.hid (show ∀ W', Below W11.heap.size W11 W' → W'.cell? ⟨X2, 0, none⟩ = some (.int .i64 m.v.log) ∧ W'.cell? ⟨X2, 1, none⟩ = some (.int .i64 m.v.next) ∧ W'.cell? ⟨X2, 2, none⟩ = some (.int .u64 (m.v.seq : Int)) ∧ W'.cell? ⟨X2, 3, none⟩ = some (.slice ra2 m.v.ts.length rc2) ∧ W'.cell? ⟨X3, 0, none⟩ = some (.int .i64 m.v.log) ∧ W'.cell? ⟨X3, 1, none⟩ = some (.int .i64 m.v.next) ∧ W'.cell? ⟨X3, 2, none⟩ = some (.int .u64 (m.v.seq : Int)) ∧ W'.cell? ⟨X3, 3, none⟩ = some (.slice ra4 m.v.ts.length rc4) ∧ W'.cell? ⟨Y, 0, none⟩ = some (.int .i64 m.v.log) ∧ W'.cell? ⟨Y, 1, none⟩ = some (.int .i64 m.v.next) ∧ W'.cell? ⟨Y, 2, none⟩ = some (.int .u64 (m.v.seq : Int)) ∧ W'.cell? ⟨Y, 3, none⟩ = some (.slice ra m.v.ts.length rc) from fun W' hb => by
            have p' := x11.below hb
            have q' := z11.below hb
            have r' := y11.below hb
            exact ⟨p'.c0, p'.c1, p'.c2, p'.c3, q'.c0, q'.c1, q'.c2, q'.c3, r'.c0, r'.c1, r'.c2, r'.c3⟩)
          have HS1 := Lib.hid (fun (W' : World) (hb : Below W11.heap.size W11 W') => sameV_yes m.v.log m.v.next m.v.seq (.slice ra2 m.v.ts.length rc2) (.slice ra4 m.v.ts.length rc4) m.v.ts W' (tv2.below hb) (tv3.below hb) (by omega))
          have HS2 := Lib.hid (fun (W' : World) (hb : Below W11.heap.size W11 W') => sameV_yes m.v.log m.v.next m.v.seq (.slice ra4 m.v.ts.length rc4) (.slice ra m.v.ts.length rc) m.v.ts W' (tv3.below hb) (tv1.below hb) (by omega))
          have HW10 := Lib.hid hW10
          have HX3 := Lib.hid hX3
          have HW11 := Lib.hid hW11
          clear hW10 hX3 hW11 x8 y8 hv2 hv1 hYX hbel x10 y10 z10 hr10 hq10 hg10 b10 hk11 x11 z11 y11 tv1 tv2 tv3 hr9 ho9 b9 CV H8 hQ8 hQ8'
          go_upto_region 27 with fail
          rw [HW10.out, HX3.out]
          clear HW10
          go_upto_region 28 with fail
          rw [HW11.out]
          obtain ⟨c0, c1, c2, c3, c4, c5, c6, c7, c8, c9, c10, c11⟩ := HQ.out W11 (Below.refl _ _)
          clear g1 g1' f1
          go_region_held3 (fun W' => W'.cell? ⟨X2, 0, none⟩ = some (.int .i64 m.v.log) ∧ W'.cell? ⟨X2, 1, none⟩ = some (.int .i64 m.v.next) ∧ W'.cell? ⟨X2, 2, none⟩ = some (.int .u64 (m.v.seq : Int)) ∧ W'.cell? ⟨X2, 3, none⟩ = some (.slice ra2 m.v.ts.length rc2) ∧ W'.cell? ⟨X3, 0, none⟩ = some (.int .i64 m.v.log) ∧ W'.cell? ⟨X3, 1, none⟩ = some (.int .i64 m.v.next) ∧ W'.cell? ⟨X3, 2, none⟩ = some (.int .u64 (m.v.seq : Int)) ∧ W'.cell? ⟨X3, 3, none⟩ = some (.slice ra4 m.v.ts.length rc4) ∧ W'.cell? ⟨Y, 0, none⟩ = some (.int .i64 m.v.log) ∧ W'.cell? ⟨Y, 1, none⟩ = some (.int .i64 m.v.next) ∧ W'.cell? ⟨Y, 2, none⟩ = some (.int .u64 (m.v.seq : Int)) ∧ W'.cell? ⟨Y, 3, none⟩ = some (.slice ra m.v.ts.length rc))
            (first | (go_keep; done) | exact HQ.out _ (Below.refl _ _).drew | exact HQ.out _ BA | exact HQ.out _ BB | exact HQ.out _ BC | exact HQ.out _ BD | exact HQ.out _ BE | fail)
            (first
              | (go_at_call 9; (with_reducible refine (HAL.out _).mono ?_); rintro _ wa ⟨rfl, ba⟩; have BA : Below W11.heap.size W11 wa := (Below.refl _ _).drew.trans ba)
              | (go_at_call 31; (with_reducible refine (plainV_any _ _ _ _ _ _ wa).mono ?_); rintro _ wb ⟨rfl, bb⟩; have BB : Below W11.heap.size W11 wb := BA.trans (bb.mono BA.size))
              | (go_at_call 17; (with_reducible refine (HS1.out wb BB).mono ?_); rintro _ wc ⟨rfl, bc⟩; have BC : Below W11.heap.size W11 wc := BB.trans (bc.mono BB.size))
              | (go_at_call 31; (with_reducible refine (plainV_any _ _ _ _ _ _ wc).mono ?_); rintro _ wd ⟨rfl, bd⟩; have BD : Below W11.heap.size W11 wd := BC.trans (bd.mono BC.size))
              | (go_at_call 17; (with_reducible refine (HS2.out wd BD).mono ?_); rintro _ we ⟨rfl, be⟩; have BE : Below W11.heap.size W11 we := BD.trans (be.mono BD.size))
              | fail)
          go_wp2_with fail
          go_ret
          exact ⟨rfl, HBW.out.trans (BE.mono HBW.out.size)⟩
theorem maniAnew_walk (n : Int) (_ : -9223372036854775808 ≤ n) (_ : n ≤ 9223372036854775807) (name : ByteArray) (hs : name.size ≤ maxLen) (w : World) :
    Calls Tryz.prog 6 #[.int .i64 n, .string name] w fun e w' => e = .returned (.bool true) ∧ Below w.heap.size w w' := by
  by_cases h : n < 0 ∨ 80 < n ∨ 290 < name.size
  · exact maniAnew_bad n name w hs h
  · obtain ⟨k, rfl⟩ : ∃ k : Nat, n = (k : Int) := ⟨n.toNat, by omega⟩
    exact maniAnew_good k name w (by omega) (by omega)
end Go.Proofs.YtlecffpjcjlabaaGreat
