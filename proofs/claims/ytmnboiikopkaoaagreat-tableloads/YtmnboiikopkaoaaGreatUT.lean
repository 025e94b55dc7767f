/- Joined: UN UO UV. -/
import Derived.Test.YtmnboiikopkaoaaGreatUE
namespace Go.Proofs.YtmnboiikopkaoaaGreat
open Go.RowKit

/-- What readIndex answers. -/
def IdxA (r : Option (List Prt × ByteArray × Nat)) (w : World) (x : Ending) (w' : World) : Prop :=
  ∃ pv ok, x = .returned (.tuple #[pv, .bool ok]) ∧ Below w.heap.size w w' ∧ (r = none → ok = false) ∧ ∀ ps last cnt, r = some (ps, last, cnt) → ok = true ∧ ∃ p F, pv = .pointer (some ⟨p, 0, none⟩) ∧ RdAt w' p F ⟨ps, last, cnt, ⟨#[]⟩, 0⟩ ∧ ∀ k ∈ F, w.heap.size ≤ k
theorem IdxA.no {w w' : World} {pv : Value} (hb : Below w.heap.size w w') : IdxA none w (.returned (.tuple #[pv, .bool false])) w' := ⟨pv, false, rfl, hb, fun _ => rfl, fun _ _ _ h => by cases h⟩
set_option maxHeartbeats 8000000 in
set_option maxRecDepth 100000 in
theorem readIndex_any (idx B : ByteArray) (w : World) (hi : idx.size ≤ 1000000) (hB : B.size ≤ 1000000) :
    Calls Tryz.prog 53 #[.string idx, .string B] w (IdxA (rdIdx idx B) w) := by
  obtain ⟨i0, hi0, hz0, hzs, hzb⟩ := info_parts infoPt
  have CN := Lib.hid (newReader_any idx w)
  obtain ⟨n, l0, e0, hC⟩ : ∃ n l0 e0, rdC (idx.size : Int) idx.data.toList 0 = (n, l0, e0) := ⟨_, _, _, rfl⟩
  have hfacts : (e0 = 0 ∨ n = 0) ∧ n ≤ 1000000 ∧ l0.length ≤ 1000000 := by
    by_cases he : e0 = 0
    · subst he
      have := rdC_eats hC
      rw [len_data'] at this
      exact ⟨.inl rfl, by omega, by omega⟩
    · unfold rdC at hC
      rw [if_neg (by simp)] at hC
      split at hC
      · cases hC
        exact ⟨.inr rfl, by omega, by rw [len_data']; omega⟩
      · rename_i hq
        have := congrArg (·.2.2) hC
        simp only at this
        exact absurd this (by rw [Classical.not_not.1 hq]; exact fun h => he h.symm)
  obtain ⟨hen, hn, hl0⟩ := hfacts
  unfold rdIdx
  rw [hC]
  simp only
  have C1 := Lib.hid (fun (W : World) (b : Nat) (h : Rdr W b idx.data.toList 0) => pr_count (idx.size : Int) (by omega) h)
  rw [hC] at C1
  simp only at C1
  obtain ⟨R, hR⟩ : ∃ R, R = (itI B l0 n).bind (endI B.size e0) := ⟨_, rfl⟩
  rw [← hR]
  have HR := Lib.hid hR
  have HEN := Lib.hid hen
  clear hR hC hen
  go_enter Tryz.func53, Tryz.ntmps53
  go_wp2_with fail
  go_at_call 86
  refine CN.out.mono ?_
  rintro _ w1 ⟨rfl, r1, b1, hs1⟩
  obtain ⟨rb, hrb⟩ : ∃ rb, w.heap.size = rb := ⟨_, rfl⟩
  rw [hrb] at r1 hs1
  obtain ⟨W, hW⟩ : ∃ W, w1.alloc (.cells #[.slice none 0 0, .string ⟨#[]⟩, .int .i64 0, .string ⟨#[]⟩, .int .i64 0] 74) = W := ⟨_, rfl⟩
  have hbW : Below w1.heap.size w1 W := by rw [← hW]; exact (Below.refl _ _).alloc (Nat.le_refl _) _
  have hrd : Rdr W rb idx.data.toList 0 := (Rdr.of r1 (fun _ => rfl) (by omega)).kept (hbW.block rb (by omega))
  have hpl : w1.heap.size = rb + 1 := hs1
  obtain ⟨p, hp⟩ : ∃ p, w1.heap.size = p := ⟨_, rfl⟩
  have hS : IxS w rb p (.slice none 0 0) [] idx.data.toList 0 W := ⟨hrd, by rw [← hW]; exact new_block _ _ hp.symm, row_nil _ _ _, by simp [ob], by simp [ob], by omega, by omega, by omega, by simp [ob], b1.trans (hbW.mono b1.size)⟩
  have HS := Lib.hid hS
  have D1 := Lib.hid (C1.out W rb hrd)
  have HPE := Lib.hid hp
  have HRB := Lib.hid hrb
  clear CN C1 r1 b1 hs1 hbW hrd hpl hS hp hrb
  go_upto_region 3 with fail
  try rw [hW]
  try rw [HPE.out]
  try rw [HRB.out]
  clear hW
  go_wp2_with fail
  go_at_call 87
  refine D1.out.mono ?_
  rintro _ w2 ⟨rfl, r2, g2⟩
  have HS2 := Lib.hid (HS.out.read (turn_of_grown (F := [rb]) g2 (fun k hk => .inl (by cases hk; simp))) r2)
  clear HS D1 r2 g2
  go_wp2_with fail
  go_loopw [8, 19] (fun av iv wr => ∃ (i a : Nat) (V : Value) (ps : List Prt) (l : List UInt8), av = .int .i64 (a : Int) ∧ iv = .int .i64 (i : Int) ∧ i ≤ n ∧ a ≤ B.size ∧ ps.length = i ∧ Hid (IxS w rb p V ps l e0 wr) ∧ Hid (itI B l0 i = some (ps, a, l))) (fun _ iv _ => n - (intOf iv).toNat)
  case atStart => exact ⟨0, 0, _, [], l0, rfl, rfl, Nat.zero_le _, Nat.zero_le _, rfl, HS2, Lib.hid rfl⟩
  case round =>
    obtain ⟨i, a, V, ps, l, rfl, rfl, hin, haB, hpsl, HS3, HIT⟩ := hrel
    have HPL := Lib.hid hpsl
    have hpb : ps.length ≤ 1000000 := by omega
    clear HS2 hpsl
    by_cases hlt : i < n
    · have he0 : e0 = 0 := by
        rcases HEN.out with h | h
        · exact h
        · omega
      subst he0
      have CP := Lib.hid (readPart_any HS3.out.rd B a haB (by omega))
      have HST := Lib.hid (show itI B l0 (i + 1) = stepI B (ps, a, l) by show (itI B l0 i).bind (stepI B) = _; rw [HIT.out]; rfl)
      unfold stepI at HST
      simp only at HST
      have hlI : (i : Int) < (n : Int) := by omega
      have HPS := Lib.hid (fun k m r h => rdPart_some (size := B.size) (at_ := a) (l := l) (k := k) (n := m) (r := r) h haB)
      clear HIT
      cases hpt : rdPart B.size a l with
      | none =>
        rw [hpt] at CP HST
        have HNO := Lib.hid (show R = none by
          have h1 := itI_none (show itI B l0 (i + 1) = none from HST.out) n (by omega)
          rw [HR.out, h1]
          rfl)
        unfold partV at CP
        simp only at CP
        clear HST HPS hpt HR
        go_wp2_with fail
        go_at_call 88
        refine CP.out.mono ?_
        rintro _ w3 ⟨rfl, -, t3⟩
        have HB3 := Lib.hid (show Below w.heap.size w w3 from HS3.out.bel.trans (t3.below HS3.out.bel.size (fun x hx => by simp at hx; subst hx; exact HS3.out.lr)))
        clear t3 CP HS3
        go_wp2_with fail
        go_ret2
        rw [HNO.out]
        exact IdxA.no (HB3.out.alloc HB3.out.size _)
      | some t =>
        obtain ⟨k, m, r⟩ := t
        rw [hpt] at CP HST
        have hps := HPS.out k m r hpt
        unfold partV at CP
        simp only at CP HST
        obtain ⟨K, hK⟩ : ∃ K : ByteArray, ⟨k.toArray⟩ = K := ⟨_, rfl⟩
        obtain ⟨X, hX⟩ : ∃ X : ByteArray, B.extract a (a + m) = X := ⟨_, rfl⟩
        have hXs : X.size = m := by rw [← hX, ByteArray.size_extract]; omega
        rw [hK, hX] at CP HST
        obtain ⟨a2, ha2⟩ : ∃ a2, a + m = a2 := ⟨_, rfl⟩
        have ha2I : (a : Int) + (m : Int) = (a2 : Int) := by omega
        rw [ha2] at HST
        have HXS := Lib.hid hXs
        clear HPS hpt hK hX
        go_wp2_with fail
        go_at_call 88
        refine CP.out.mono ?_
        rintro _ w3 ⟨rfl, hr3, t3⟩
        have HS4 := Lib.hid (HS3.out.read t3 (hr3 k m r rfl))
        obtain ⟨W4, hW4⟩ : ∃ W4, w3.alloc (.cells #[.string K, .string X] 76) = W4 := ⟨_, rfl⟩
        have b4 : Below w3.heap.size w3 W4 := by rw [← hW4]; exact (Below.refl _ _).alloc (Nat.le_refl _) _
        have HS5 := Lib.hid (HS4.out.below b4)
        have k0 : W4.cell? ⟨w3.heap.size, 0, none⟩ = some (.string K) := by rw [← hW4]; exact nce rfl rfl
        have k1 : W4.cell? ⟨w3.heap.size, 1, none⟩ = some (.string X) := by rw [← hW4]; exact nce rfl rfl
        have klt : w3.heap.size < W4.heap.size := World.block_lt_of_cell? W4 _ k0
        have HNV := Lib.hid (show ob V ≠ some w3.heap.size from fun e => by have := HS4.out.row.lt _ e; omega)
        have HNP := Lib.hid (show p ≠ w3.heap.size from fun e => by have := HS4.out.plt; omega)
        obtain ⟨va, vc, rfl, -, -⟩ := HS5.out.row.le
        have pc := HS5.out.c
        have pf := HS5.out.f 0
        have pl := HS5.out.plt
        have HB6 := Lib.hid ((Below.refl W4.heap.size W4).alloc (Nat.le_refl _) (.cells #[.string K, .string X] 76))
        have HRW := Lib.hid (show Row ((W4.alloc (.cells #[.string K, .string X] 76)).drew) 76 2 (.slice va ps.length vc) ps.length (cellsP ps) from row_below HS5.out.row HB6.out.drew)
        have HSRC := Lib.hid (Src.ofSlice (P := Tryz.prog) (W4.alloc (.cells #[.string K, .string X] 76)).drew (size := 2) Tryz.underlying72 ⟨W4.heap.size, 0, none⟩ 1 1 [.string K, .string X] rfl (fun j u hu => by
          match j, hu with
          | 0, hu => simpa [Addr.add] using hu
          | 1, hu => simpa [Addr.add] using hu) (by simp [Value.oneCell']))
        have HBa := Lib.hid (show ps.length + 1 ≤ maxLen by unfold maxLen; omega)
        have HBb := Lib.hid (show (ps.length + 1) * 32 ≤ 140737488355328 by omega)
        have q0 : ∀ o, (W4.alloc o).cell? ⟨p, 0, none⟩ = some (.slice va ps.length vc) := fun o => oce pl pc
        have q1 : ∀ o, (W4.alloc o).frozen? ⟨p, 0, none⟩ = false := fun o => (World.frozen?_of_block (Below.heap_alloc W4 o p pl)).trans pf
        have HKK := Lib.hid (show ∀ (w5 : World), (W4.alloc (.cells #[.string K, .string X] 76)).drew.grownBy w5 (ob (.slice va ps.length vc)) → w5.cell? ⟨p, 0, none⟩ = some (.slice va ps.length vc) ∧ w5.frozen? ⟨p, 0, none⟩ = false ∧ w5.cell? ⟨w3.heap.size, 1, none⟩ = some (.string X) from fun w5 hg => by
          have hb1 := hg.block p (by simp; omega) (fun e => HS5.out.np e.symm)
          have hb2 := hg.block w3.heap.size (by simp; omega) (fun e => HNV.out e.symm)
          exact ⟨(World.cell?_of_block hb1).trans (q0 _), (World.frozen?_of_block hb1).trans (q1 _), (World.cell?_of_block hb2).trans (oce klt k1)⟩)
        clear b4 CP hr3 t3 HS3 HS4
        go_upto_region 9 with fail
        try rw [hW4]
        clear hW4
        go_cut [] from 30 to 39 (fun wx => ∃ V', Hid (IxS w rb p V' (ps ++ [⟨K, X⟩]) r 0 wx) ∧ Hid (wx.cell? ⟨w3.heap.size, 1, none⟩ = some (.string X)))
        case first =>
          go_region_law (refine step_append_row _ rfl (.tmp 34) (.tmp 36) 72 72 rfl 76 i0 _ 2 32 Tryz.underlying72 hi0 hz0 hzs hzb rfl (.slice va ps.length vc) _ _ (by simp [Act.eval]) HRW.out _ (by simp [Act.eval]) 1 _ HSRC.out HBa.out HBb.out ?_; intro v' w5 hrow5 hgrow5 hob5; obtain ⟨a5, c5, rfl, -, -⟩ := hrow5.le; obtain ⟨y0, y1, y2⟩ := HKK.out w5 hgrow5)
          all_goals go_wp2_with fail
          all_goals go_meet
          all_goals
            have ho5 : ob (.slice a5 (ps.length + 1) c5) = ob (.slice va ps.length vc) ∨ ∃ g, ob (.slice a5 (ps.length + 1) c5) = some g ∧ (W4.alloc (.cells #[.string K, .string X] 76)).drew.heap.size ≤ g := by
              rcases hob5 with e | ⟨e, -⟩
              · exact .inl e
              · exact .inr ⟨_, e, Nat.le_refl _⟩
            have h6 := (HS5.out.below HB6.out.drew).add (x := ⟨K, X⟩) hrow5 hgrow5 ho5
            exact ⟨_, Lib.hid h6, Lib.hid ((World.cell?_of_block (heap_setCell_other _ ⟨p, 0, none⟩ w3.heap.size _ (fun e => HNP.out e.symm))).trans y2)⟩
        case rest =>
          obtain ⟨V', HS6, HX6⟩ := hcut
          have x1 := HX6.out
          clear k0 k1
          go_wp2_with fail
          go_roundw
          case rel => exact ⟨i + 1, a2, V', ps ++ [⟨K, X⟩], r, rfl, by go_num, by omega, by omega, by rw [List.length_append, HPL.out]; rfl, HS6, HST⟩
          case measure => simp [intOf]; omega
    · obtain rfl : i = n := by omega
      have HRR := Lib.hid (show R = endI B.size e0 (ps, a, l) by rw [HR.out, HIT.out]; rfl)
      obtain ⟨c1, c2, c3, hC⟩ : ∃ c1 c2 c3, rdC ((ps.length * 8 : Nat) : Int) l e0 = (c1, c2, c3) := ⟨_, _, _, rfl⟩
      obtain ⟨t1, t2, t3, hT⟩ : ∃ t1 t2 t3, rdT 300 c2 c3 = (t1, t2, t3) := ⟨_, _, _, rfl⟩
      have HRE := Lib.hid (show R = if (t3 = 0 ∧ t2.length = 0) ∧ a = B.size ∧ wholeB ps ⟨t1.toArray⟩ c1 = true then some (ps, ⟨t1.toArray⟩, c1) else none by
        rw [HRR.out]
        unfold endI
        simp only [hC, hT])
      have hc1 : c1 ≤ 8000000 := by
        by_cases he : c3 = 0
        · subst he
          have h0 := rdC_sticks (congrArg (·.2.2) hC)
          rw [h0] at hC
          have := (rdC_eats hC).2
          omega
        · have h1 : (rdC ((ps.length * 8 : Nat) : Int) l e0).1 = 0 := by
            by_cases h0 : e0 = 0
            · subst h0
              unfold rdC at hC ⊢
              rw [if_neg (by simp)] at hC ⊢
              split
              · rfl
              · rename_i hq
                rw [if_neg hq] at hC
                have := congrArg (·.2.2) hC
                simp only at this
                exact absurd this (by rw [Classical.not_not.1 hq]; exact fun h => he h.symm)
            · rw [rdC_err h0]
          rw [hC] at h1
          simp only at h1
          omega
      have C1 := Lib.hid (pr_count ((ps.length * 8 : Nat) : Int) (by omega) HS3.out.rd)
      rw [hC] at C1
      have C2 := Lib.hid (fun (W : World) (h : Rdr W rb c2 c3) => pr_text 300 (by omega) h)
      rw [hT] at C2
      simp only at C1 C2
      obtain ⟨va, vc, rfl, -, -⟩ := HS3.out.row.le
      have pc := HS3.out.c
      have hmul : (ps.length : Int) * 8 = ((ps.length * 8 : Nat) : Int) := by omega
      obtain ⟨m8, hm8⟩ : ∃ m8, ps.length * 8 = m8 := ⟨_, rfl⟩
      rw [hm8] at hmul C1
      have hdn : decide (i < i) = false := by simp
      clear HIT HR HRR hC hT hm8 hlt hin
      go_wp2_with fail
      go_at_call 87
      (try rw [hmul])
      refine C1.out.mono ?_
      rintro _ w3 ⟨rfl, r3, g3⟩
      have HS4 := Lib.hid (HS3.out.toR.read (turn_of_grown (F := [rb]) g3 (fun k hk => .inl (by cases hk; simp))) r3)
      generalize hF : p :: (ob (.slice va ps.length vc)).toList = F at HS4
      obtain ⟨V4, -, -, p2, -⟩ := HS4.out.at_.cells
      have f2 := HS4.out.at_.frozen 2
      have HS5 := Lib.hid (HS4.out.cnt c1)
      obtain ⟨W5, hW5⟩ : ∃ W5, w3.setCell ⟨p, 2, none⟩ (.int .i64 (c1 : Int)) = W5 := ⟨_, rfl⟩
      rw [hW5] at HS5
      have D2 := Lib.hid (C2.out W5 HS5.out.rd)
      clear C1 C2 HS3 HS4 r3 g3 hF pc
      go_upto_region 13 with fail
      try rw [hW5]
      clear hW5 p2 f2
      go_wp2_with fail
      go_at_call 89
      refine D2.out.mono ?_
      rintro _ w6 ⟨rfl, r6, g6⟩
      have HS6 := Lib.hid (HS5.out.read (turn_of_grown (F := [rb]) g6 (fun k hk => .inl (by cases hk; simp))) r6)
      obtain ⟨K, hK⟩ : ∃ K : ByteArray, ⟨t1.toArray⟩ = K := ⟨_, rfl⟩
      rw [hK] at HRE ⊢
      obtain ⟨V6, -, p1, -⟩ := HS6.out.at_.cells
      have f1 := HS6.out.at_.frozen 1
      have HS7 := Lib.hid (HS6.out.last K)
      obtain ⟨W7, hW7⟩ : ∃ W7, w6.setCell ⟨p, 1, none⟩ (.string K) = W7 := ⟨_, rfl⟩
      rw [hW7] at HS7
      have D3 := Lib.hid (pr_end HS7.out.rd)
      clear HS5 HS6 D2 r6 g6 hK
      go_upto_region 14 with fail
      try rw [hW7]
      clear hW7 p1 f1
      by_cases hend : t3 = 0 ∧ t2.length = 0
      · rw [if_neg (by rw [hend.1]; simp), if_pos hend.2] at D3
        by_cases hat : a = B.size
        · have hbs : (B.size : Int) = (a : Int) := by omega
          by_cases hps : ps = []
          · have C4 := Lib.hid (isWhole_nil HS7.out.at_ hps)
            have HNO := Lib.hid (show R = none by
              rw [HRE.out, if_neg (fun h => ?_)]
              have := h.2.2
              rw [hps] at this
              cases this)
            clear hend hat hps
            go_wp2_with (first | (go_at_call 90; (with_reducible refine D3.out.mono ?_); rintro _ w8 ⟨rfl, rfl⟩) | (go_at_call 91; (with_reducible refine C4.out.mono ?_); rintro _ w9 ⟨rfl, b9⟩) | fail)
            go_ret2
            rw [HNO.out]
            exact IdxA.no (HS7.out.below b9).bel
          · have C4 := Lib.hid (isWhole_some HS7.out.at_ hps (by simp only; omega) (by simp only; omega))
            simp only at C4
            cases hwh : wholeB ps K c1 with
            | true =>
              rw [hwh] at C4
              have HYES := Lib.hid (show R = some (ps, K, c1) by rw [HRE.out, if_pos ⟨hend, hat, hwh⟩])
              clear hend hat hps hwh HRE
              go_wp2_with (first | (go_at_call 90; (with_reducible refine D3.out.mono ?_); rintro _ w8 ⟨rfl, rfl⟩) | (go_at_call 91; (with_reducible refine C4.out.mono ?_); rintro _ w9 ⟨rfl, b9⟩) | fail)
              go_ret2
              rw [HYES.out]
              have h9 := HS7.out.below b9
              exact ⟨_, _, rfl, h9.bel, (fun h => by cases h), fun ps' last' cnt' h => by
                cases h
                exact ⟨rfl, p, F, rfl, h9.at_, h9.lf⟩⟩
            | false =>
              rw [hwh] at C4
              have HNO := Lib.hid (show R = none by
                rw [HRE.out, if_neg (fun h => ?_)]
                have := h.2.2
                rw [hwh] at this
                cases this)
              clear hend hat hps hwh HRE
              go_wp2_with (first | (go_at_call 90; (with_reducible refine D3.out.mono ?_); rintro _ w8 ⟨rfl, rfl⟩) | (go_at_call 91; (with_reducible refine C4.out.mono ?_); rintro _ w9 ⟨rfl, b9⟩) | fail)
              go_ret2
              rw [HNO.out]
              exact IdxA.no (HS7.out.below b9).bel
        · have HNO := Lib.hid (show R = none by rw [HRE.out, if_neg (fun h => hat h.2.1)])
          have dat : ((a : Int) == (B.size : Int)) = false := by simp; omega
          clear hend hat HRE
          go_wp2_with (first | (go_at_call 90; (with_reducible refine D3.out.mono ?_); rintro _ w8 ⟨rfl, rfl⟩) | fail)
          go_ret2
          rw [HNO.out]
          exact IdxA.no HS7.out.bel
      · have HNO := Lib.hid (show R = none by rw [HRE.out, if_neg (fun h => hend h.1)])
        have hee : ((if t3 ≠ 0 then t3 else if t2.length = 0 then 0 else 4) == 0) = false := by
          by_cases h1 : t3 = 0
          · rw [if_neg (by rw [h1]; simp), if_neg (fun h => hend ⟨h1, h⟩)]; rfl
          · rw [if_pos h1]; simpa using h1
        generalize (if t3 ≠ 0 then t3 else if t2.length = 0 then 0 else 4) = E at D3 hee
        clear hend HRE
        go_wp2_with (first | (go_at_call 90; (with_reducible refine D3.out.mono ?_); rintro _ w8 ⟨rfl, rfl⟩) | fail)
        go_ret2
        rw [HNO.out]
        exact IdxA.no HS7.out.bel
end Go.Proofs.YtmnboiikopkaoaaGreat

namespace Go.Proofs.YtmnboiikopkaoaaGreat
open Go.RowKit

/-- A footer's four numbers. -/
def foot4 (s : List UInt8) : Nat × Nat × Nat × Nat := (beVal (s.take 6), beVal ((s.drop 6).take 6), beVal ((s.drop 12).take 6), beVal ((s.drop 18).take 6))
/-- What a table's footer says: the error, where the filter and the index stand. -/
def rdFoot (b : List UInt8) : Int × Nat × Nat × Nat × Nat :=
  if b.length < 28 then (5, 0, 0, 0, 0)
  else if crc ((b.drop (b.length - 28)).take 24) ≠ beVal ((b.drop (b.length - 28)).drop 24) then (6, 0, 0, 0, 0)
  else
    let f := foot4 ((b.drop (b.length - 28)).take 24)
    if f.1 + f.2.1 ≠ f.2.2.1 ∨ f.2.2.1 + f.2.2.2 ≠ b.length - 28 then (4, 0, 0, 0, 0) else (0, f)
def footV : Int × Nat × Nat × Nat × Nat → Value
  | (e, a, n, c, m) => .tuple #[.agg #[.int .i64 (a : Int), .int .i64 (n : Int), .int .i64 (c : Int), .int .i64 (m : Int)], .int .i64 e]
theorem beVal6 (l : List UInt8) : beVal (l.take 6) < 281474976710656 := by
  have h1 := beVal_lt (l.take 6)
  have h2 : (l.take 6).length ≤ 6 := by rw [List.length_take]; omega
  have h3 : 256 ^ (l.take 6).length ≤ 256 ^ 6 := pow256_mono h2
  omega
set_option maxHeartbeats 4000000 in
set_option maxRecDepth 100000 in
theorem readFooter_any (b : ByteArray) (w : World) (hb : b.size ≤ 1000000) :
    Calls Tryz.prog 49 #[.string b] w fun e w' => e = .returned (footV (rdFoot b.data.toList)) ∧ Below w.heap.size w w' := by
  obtain ⟨W, hW⟩ : ∃ W, w.alloc (.cells #[.int .i64 0, .int .i64 0, .int .i64 0, .int .i64 0] 99) = W := ⟨_, rfl⟩
  have hB : Below w.heap.size w W := by rw [← hW]; exact (Below.refl _ _).alloc (Nat.le_refl _) _
  have x0 : W.cell? ⟨w.heap.size, 0, none⟩ = some (.int .i64 0) := by rw [← hW]; exact nce rfl rfl
  have x1 : W.cell? ⟨w.heap.size, 1, none⟩ = some (.int .i64 0) := by rw [← hW]; exact nce rfl rfl
  have x2 : W.cell? ⟨w.heap.size, 2, none⟩ = some (.int .i64 0) := by rw [← hW]; exact nce rfl rfl
  have x3 : W.cell? ⟨w.heap.size, 3, none⟩ = some (.int .i64 0) := by rw [← hW]; exact nce rfl rfl
  have hlt : w.heap.size < W.heap.size := World.block_lt_of_cell? W _ x0
  have hxb : W.heap[w.heap.size]? = some (.cells #[.int .i64 0, .int .i64 0, .int .i64 0, .int .i64 0] 99) := by rw [← hW]; exact new_block _ _ rfl
  obtain ⟨R, hR⟩ : ∃ R, rdFoot b.data.toList = R := ⟨_, rfl⟩
  rw [hR]
  unfold rdFoot at hR
  rw [len_data'] at hR
  have HR := Lib.hid hR.symm
  have HB := Lib.hid hB
  obtain ⟨Bx, hBx⟩ : ∃ Bx, w.heap.size = Bx := ⟨_, rfl⟩
  have HBX := Lib.hid hBx
  have HXB := Lib.hid hxb
  rw [hBx] at HXB
  clear hR
  by_cases h28 : b.size < 28
  · have hD := HR.out
    rw [if_pos h28] at hD
    subst hD
    have hd : decide ((b.size : Int) - 28 < 0) = true := by simp; omega
    rw [hBx] at x0 x1 x2 x3 hlt
    have f0 : ∀ j, W.frozen? ⟨Bx, j, none⟩ = false := fun j => by unfold World.frozen?; rw [HXB.out]; simp
    have g0 := f0 0
    have g1 := f0 1
    have g2 := f0 2
    have g3 := f0 3
    clear f0 hB hxb HR h28
    go_enter Tryz.func49, Tryz.ntmps49
    go_upto_region 1 with fail
    try rw [hW]
    try rw [HBX.out]
    clear hW hBx
    go_wp2
    refine bodyPost_ret (by simp [results, Tryz.results49, go_sem, x0, x1, x2, x3]; try rfl) rfl ?_
    exact ⟨rfl, (((HB.out.setCell (p := ⟨Bx, 0, none⟩) (by rw [HBX.out]; exact Nat.le_refl _) _).setCell (p := ⟨Bx, 1, none⟩) (by rw [HBX.out]; exact Nat.le_refl _) _).setCell (p := ⟨Bx, 2, none⟩) (by rw [HBX.out]; exact Nat.le_refl _) _).setCell (p := ⟨Bx, 3, none⟩) (by rw [HBX.out]; exact Nat.le_refl _) _⟩
  · rw [if_neg h28] at HR
    obtain ⟨E, hE⟩ : ∃ E, b.size = E + 28 := ⟨b.size - 28, by omega⟩
    have hEI : (b.size : Int) - 28 = (E : Int) := by omega
    have hEd : decide ((E : Int) < 0) = false := by simp
    obtain ⟨T, hT⟩ : ∃ T, b.extract E b.size = T := ⟨_, rfl⟩
    have hTd : T.data.toList = b.data.toList.drop E := by rw [← hT, ext_from]
    have hTl : T.data.toList.length = 28 := by rw [hTd, List.length_drop, len_data']; omega
    rw [show b.size - 28 = E by omega, ← hTd] at HR
    have hTs : T.size = 28 := by rw [← len_data', hTl]
    have hEle : (E : Int) ≤ (b.size : Int) := by omega
    have CO := Lib.hid (open_any T W (by omega))
    unfold openV at CO
    rw [hTl, if_neg (by omega)] at CO
    rw [hBx] at x0 x1 x2 x3 hlt
    have HTL := Lib.hid hTl
    have HEN := Lib.hid (show b.size - 28 = E by omega)
    clear hB hxb h28 hTl hTs hTd hE
    go_enter Tryz.func49, Tryz.ntmps49
    go_upto_region 1 with fail
    try rw [hW]
    try rw [HBX.out]
    clear hW hBx
    by_cases hcr : crc (T.data.toList.take 24) = beVal (T.data.toList.drop 24)
    · rw [if_pos hcr] at CO
      rw [if_neg (by rw [hcr]; simp)] at HR
      obtain ⟨s, hs⟩ : ∃ s : ByteArray, ⟨(T.data.toList.take 24).toArray⟩ = s := ⟨_, rfl⟩
      have hsd : s.data.toList = T.data.toList.take 24 := by rw [← hs]
      rw [hs] at CO
      rw [← hsd] at HR
      have hsl : s.size = 24 := by rw [← len_data', hsd, List.length_take, HTL.out]; rfl
      have hp : ∀ j, j + 6 ≤ 24 → ∀ W : World, Calls Tryz.prog 82 #[.string (s.extract j s.size)] W fun e w' => e = .returned (.int .i64 ((beVal ((s.data.toList.drop j).take 6) : Nat) : Int)) ∧ W = w' := fun j hj W => by
        have h1 : (s.extract j s.size).size = s.size - j := by rw [ByteArray.size_extract]; omega
        have := place_any (s.extract j s.size) W (by omega)
        unfold piece at this
        rw [List.drop_zero, ext_from] at this
        exact this
      have hp0 : ∀ W : World, Calls Tryz.prog 82 #[.string s] W fun e w' => e = .returned (.int .i64 ((beVal (s.data.toList.take 6) : Nat) : Int)) ∧ W = w' := fun W => by
        have := place_any s W (by omega)
        unfold piece at this
        rw [List.drop_zero] at this
        exact this
      have P0 := Lib.hid hp0
      have P1 := Lib.hid (hp 6 (by omega))
      have P2 := Lib.hid (hp 12 (by omega))
      have P3 := Lib.hid (hp 18 (by omega))
      have l0 := beVal6 s.data.toList
      have l1 := beVal6 (s.data.toList.drop 6)
      have l2 := beVal6 (s.data.toList.drop 12)
      have l3 := beVal6 (s.data.toList.drop 18)
      unfold foot4 at HR
      simp only at HR
      generalize beVal (s.data.toList.take 6) = A at *
      generalize beVal ((s.data.toList.drop 6).take 6) = N at *
      generalize beVal ((s.data.toList.drop 12).take 6) = C at *
      generalize beVal ((s.data.toList.drop 18).take 6) = M at *
      have k1 : (6 : Int) ≤ (s.size : Int) := by omega
      have k2 : (12 : Int) ≤ (s.size : Int) := by omega
      have k3 : (18 : Int) ≤ (s.size : Int) := by omega
      clear hcr hs hsd hsl hp hp0 HTL
      go_wp2_with fail
      go_at_call 50
      refine CO.out.mono ?_
      rintro _ w2 ⟨rfl, b2⟩
      have HX2 := Lib.hid (show w2.heap[Bx]? = _ from (b2.block Bx hlt).trans HXB.out)
      have HB2 := Lib.hid (HB.out.trans (b2.mono HB.out.size))
      have hlt2 := Nat.lt_of_lt_of_le hlt b2.size
      clear b2 CO x0 x1 x2 x3 HXB HB
      go_upto_region 7 with fail
      go_cut [7] from 25 to 38 (fun v wx => ∃ W3, W3 = wx ∧ v = .pointer (some ⟨w2.heap.size, 0, none⟩) ∧ Hid (wx.heap[w2.heap.size]? = some (.cells #[.int .i64 (A : Int), .int .i64 (N : Int), .int .i64 (C : Int), .int .i64 (M : Int)] 99)) ∧ Hid (Below w2.heap.size w2 wx))
      case first =>
        go_region_held3 (fun _ => True) (trivial) (first | (go_at_call 82; (with_reducible refine (P0.out _).mono ?_); rintro _ wa ⟨rfl, rfl⟩) | (go_at_call 82; (with_reducible refine (P1.out _).mono ?_); rintro _ wb ⟨rfl, rfl⟩) | (go_at_call 82; (with_reducible refine (P2.out _).mono ?_); rintro _ wc ⟨rfl, rfl⟩) | (go_at_call 82; (with_reducible refine (P3.out _).mono ?_); rintro _ wd ⟨rfl, rfl⟩) | fail)
        all_goals go_wp2_with fail
        all_goals go_meet
        all_goals first
          | exact ⟨_, rfl, rfl, Lib.hid (new_block _ _ rfl), Lib.hid ((Below.refl _ _).drew.alloc (Nat.le_refl _) _)⟩
          | exact ⟨_, rfl, rfl, Lib.hid (new_block _ _ rfl), Lib.hid ((Below.refl _ _).alloc (Nat.le_refl _) _).drew⟩
      case rest =>
        obtain ⟨W3, rfl, rfl, HF3, HB3⟩ := hcut
        obtain ⟨G, hG⟩ : ∃ G, w2.heap.size = G := ⟨_, rfl⟩
        rw [hG] at HF3 hlt2 ⊢
        have HX3 := Lib.hid (show W3.heap[Bx]? = _ from (HB3.out.block Bx (by omega)).trans HX2.out)
        have HBB := Lib.hid (HB2.out.trans (HB3.out.mono HB2.out.size))
        have hGl : G < W3.heap.size := (Array.getElem?_eq_some_iff.1 HF3.out).1
        have q0 : W3.cell? ⟨G, 0, none⟩ = some (.int .i64 (A : Int)) := by unfold World.cell?; rw [HF3.out]; rfl
        have q1 : W3.cell? ⟨G, 1, none⟩ = some (.int .i64 (N : Int)) := by unfold World.cell?; rw [HF3.out]; rfl
        have q2 : W3.cell? ⟨G, 2, none⟩ = some (.int .i64 (C : Int)) := by unfold World.cell?; rw [HF3.out]; rfl
        have q3 : W3.cell? ⟨G, 3, none⟩ = some (.int .i64 (M : Int)) := by unfold World.cell?; rw [HF3.out]; rfl
        have E1 := Lib.hid (fun W => spanEnd_any A N W (by omega))
        have E2 := Lib.hid (fun W => spanEnd_any C M W (by omega))
        obtain ⟨AN, hAN⟩ : ∃ AN, A + N = AN := ⟨_, rfl⟩
        obtain ⟨CM, hCM⟩ : ∃ CM, C + M = CM := ⟨_, rfl⟩
        rw [hAN] at E1 HR
        rw [hCM] at E2 HR
        clear HX2 HB2 HB3 hG P0 P1 P2 P3 k1 k2 k3 hAN hCM l0 l1 l2 l3 hlt
        have HQ := Lib.hid (show ∀ Wb, Below W3.heap.size W3 Wb → Wb.cell? ⟨G, 0, none⟩ = some (.int .i64 (A : Int)) ∧ Wb.cell? ⟨G, 1, none⟩ = some (.int .i64 (N : Int)) ∧ Wb.cell? ⟨G, 2, none⟩ = some (.int .i64 (C : Int)) ∧ Wb.cell? ⟨G, 3, none⟩ = some (.int .i64 (M : Int)) from fun Wb hb => ⟨(hb.cell (p := ⟨G, 0, none⟩) hGl).trans q0, (hb.cell (p := ⟨G, 1, none⟩) hGl).trans q1, (hb.cell (p := ⟨G, 2, none⟩) hGl).trans q2, (hb.cell (p := ⟨G, 3, none⟩) hGl).trans q3⟩)
        go_upto_region 8 with fail
        go_cut [52] from 39 to 51 (fun v wx => ∃ W4, W4 = wx ∧ v = .bool (!(decide (AN = C)) || !(decide (CM = E))) ∧ Hid (Below W3.heap.size W3 wx))
        case first =>
          by_cases hac : AN = C
          · have h1 : ((AN : Int) != (C : Int)) = false := by subst hac; simp
            have HAC := Lib.hid hac
            by_cases hce : CM = E
            · have h2 : ((CM : Int) != (E : Int)) = false := by subst hce; simp
              have HCE := Lib.hid hce
              clear hac hce
              go_region_held3 (fun w' => w'.cell? ⟨G, 0, none⟩ = some (.int .i64 (A : Int)) ∧ w'.cell? ⟨G, 1, none⟩ = some (.int .i64 (N : Int)) ∧ w'.cell? ⟨G, 2, none⟩ = some (.int .i64 (C : Int)) ∧ w'.cell? ⟨G, 3, none⟩ = some (.int .i64 (M : Int))) (first | go_keep | exact HQ.out _ BB | exact HQ.out _ BA | exact ⟨q0, q1, q2, q3⟩ | fail) (first | (go_at_call 83; (with_reducible refine (E1.out _).mono ?_); rintro _ wa ⟨rfl, ba⟩; have BA : Below W3.heap.size W3 wa := (Below.refl _ _).drew.trans ba) | (go_at_call 83; (with_reducible refine (E2.out _).mono ?_); rintro _ wb ⟨rfl, bb⟩; have BB : Below W3.heap.size W3 wb := BA.trans (bb.mono BA.size)) | fail)
              all_goals go_wp2_with fail
              all_goals go_meet
              all_goals exact ⟨_, rfl, by rw [decide_eq_true HAC.out, decide_eq_true HCE.out]; rfl, Lib.hid BB⟩
            · have h2 : ((CM : Int) != (E : Int)) = true := by simp; omega
              have HCE := Lib.hid hce
              clear hac hce
              go_region_held3 (fun w' => w'.cell? ⟨G, 0, none⟩ = some (.int .i64 (A : Int)) ∧ w'.cell? ⟨G, 1, none⟩ = some (.int .i64 (N : Int)) ∧ w'.cell? ⟨G, 2, none⟩ = some (.int .i64 (C : Int)) ∧ w'.cell? ⟨G, 3, none⟩ = some (.int .i64 (M : Int))) (first | go_keep | exact HQ.out _ BB | exact HQ.out _ BA | exact ⟨q0, q1, q2, q3⟩ | fail) (first | (go_at_call 83; (with_reducible refine (E1.out _).mono ?_); rintro _ wa ⟨rfl, ba⟩; have BA : Below W3.heap.size W3 wa := (Below.refl _ _).drew.trans ba) | (go_at_call 83; (with_reducible refine (E2.out _).mono ?_); rintro _ wb ⟨rfl, bb⟩; have BB : Below W3.heap.size W3 wb := BA.trans (bb.mono BA.size)) | fail)
              all_goals go_wp2_with fail
              all_goals go_meet
              all_goals exact ⟨_, rfl, by rw [decide_eq_true HAC.out, decide_eq_false HCE.out]; rfl, Lib.hid BB⟩
          · have h1 : ((AN : Int) != (C : Int)) = true := by simp; omega
            have HAC := Lib.hid hac
            clear hac
            have u1 := HQ.out W3.drew (Below.refl _ _).drew
            refine wp_region_noPanic ?_
            refine wp_region_held (S := fun w' => w'.cell? ⟨G, 0, none⟩ = some (.int .i64 (A : Int)) ∧ w'.cell? ⟨G, 1, none⟩ = some (.int .i64 (N : Int)) ∧ w'.cell? ⟨G, 2, none⟩ = some (.int .i64 (C : Int)) ∧ w'.cell? ⟨G, 3, none⟩ = some (.int .i64 (M : Int))) (by kernel_rfl) ?_
            refine wpAnyH_take (i := 0) (v := ?_) rfl (by kernel_rfl) (by kernel_rfl) (by kernel_rfl) (fun _ _ _ h => h) (Or.inl ⟨by rfl, ?_⟩) u1 ?_
            rotate_left
            focus (simp only [List.getElem_toArray, List.getElem_cons_zero]; intro w' hS; obtain ⟨s0, s1, s2, s3⟩ := hS; first | (go_simp; done) | (go_simp; with_reducible rfl))
            simp only [List.getElem_toArray, List.getElem_cons_zero, Act.put, List.setIfInBounds_toArray, List.set_cons_zero, List.set_cons_succ]
            refine wpAnyH_take (i := 1) (v := ?_) rfl (by kernel_rfl) (by kernel_rfl) (by kernel_rfl) (fun _ _ _ h => h) (Or.inl ⟨by rfl, ?_⟩) u1 ?_
            rotate_left
            focus (simp only [List.getElem_toArray, List.getElem_cons_succ, List.getElem_cons_zero]; intro w' hS; obtain ⟨s0, s1, s2, s3⟩ := hS; first | (go_simp; done) | (go_simp; with_reducible rfl))
            simp only [List.getElem_toArray, List.getElem_cons_succ, List.getElem_cons_zero, Act.put, List.setIfInBounds_toArray, List.set_cons_zero, List.set_cons_succ]
            refine wpAnyH_take (i := 3) (v := ?_) rfl (by kernel_rfl) (by kernel_rfl) (by kernel_rfl) (fun _ _ _ h => h) (Or.inl ⟨by rfl, ?_⟩) u1 ?_
            rotate_left
            focus (simp only [List.getElem_toArray, List.getElem_cons_succ, List.getElem_cons_zero]; intro w' hS; obtain ⟨s0, s1, s2, s3⟩ := hS; first | (go_simp; done) | (go_simp; with_reducible rfl))
            simp only [List.getElem_toArray, List.getElem_cons_succ, List.getElem_cons_zero, Act.put, List.setIfInBounds_toArray, List.set_cons_zero, List.set_cons_succ]
            refine wpAnyH_take (i := 4) (v := ?_) rfl (by kernel_rfl) (by kernel_rfl) (by kernel_rfl) (fun _ _ _ h => h) (Or.inl ⟨by rfl, ?_⟩) u1 ?_
            rotate_left
            focus (simp only [List.getElem_toArray, List.getElem_cons_succ, List.getElem_cons_zero]; intro w' hS; obtain ⟨s0, s1, s2, s3⟩ := hS; first | (go_simp; done) | (go_simp; with_reducible rfl))
            simp only [List.getElem_toArray, List.getElem_cons_succ, List.getElem_cons_zero, Act.put, List.setIfInBounds_toArray, List.set_cons_zero, List.set_cons_succ]
            refine wpAnyH_take (i := 5) (v := ?_) rfl (by kernel_rfl) (by kernel_rfl) (by kernel_rfl) (fun _ _ _ h => h) (Or.inl ⟨by rfl, ?_⟩) u1 ?_
            rotate_left
            focus (simp only [List.getElem_toArray, List.getElem_cons_succ, List.getElem_cons_zero]; intro w' hS; obtain ⟨s0, s1, s2, s3⟩ := hS; first | (go_simp; done) | (go_simp; with_reducible rfl))
            simp only [List.getElem_toArray, List.getElem_cons_succ, List.getElem_cons_zero, Act.put, List.setIfInBounds_toArray, List.set_cons_zero, List.set_cons_succ]
            refine wpAnyH_ready (rs := [2]) (by kernel_rfl) (by simp) ?_
            refine AllReadyH.cons rfl (fun K hK => ?_) AllReadyH.nil
            simp only [List.getElem_toArray, List.getElem_cons_succ, List.getElem_cons_zero]
            go_simp
            refine (E1.out _).mono ?_
            rintro _ wa ⟨rfl, ba⟩
            have BA : Below W3.heap.size W3 wa := (Below.refl _ _).drew.trans ba
            have u2 := HQ.out _ BA
            dsimp only
            refine hK.out _ _ u2 (fun _ => ?_)
            try simp only [List.getElem_toArray, List.getElem_cons_succ, List.getElem_cons_zero, Act.put, List.setIfInBounds_toArray, List.set_cons_zero, List.set_cons_succ]
            refine wpAnyH_take (i := 6) (v := ?_) rfl (by kernel_rfl) (by kernel_rfl) (by kernel_rfl) (fun _ _ _ h => h) (Or.inl ⟨by rfl, ?_⟩) u2 ?_
            rotate_left
            focus (simp only [List.getElem_toArray, List.getElem_cons_succ, List.getElem_cons_zero]; intro w' hS; obtain ⟨s0, s1, s2, s3⟩ := hS; first | (go_simp; done) | (go_simp; with_reducible rfl))
            simp only [List.getElem_toArray, List.getElem_cons_succ, List.getElem_cons_zero, Act.put, List.setIfInBounds_toArray, List.set_cons_zero, List.set_cons_succ]
            refine wpAnyH_take (i := 7) (v := ?_) rfl (by kernel_rfl) (by kernel_rfl) (by kernel_rfl) (fun _ _ _ h => h) (Or.inl ⟨by rfl, ?_⟩) u2 ?_
            rotate_left
            focus (simp only [List.getElem_toArray, List.getElem_cons_succ, List.getElem_cons_zero]; intro w' hS; obtain ⟨s0, s1, s2, s3⟩ := hS; first | (go_simp; done) | (go_simp; with_reducible rfl))
            simp only [List.getElem_toArray, List.getElem_cons_succ, List.getElem_cons_zero, Act.put, List.setIfInBounds_toArray, List.set_cons_zero, List.set_cons_succ]
            refine wpAnyH_take (i := 8) (v := undef) rfl (by kernel_rfl) (by kernel_rfl) (by kernel_rfl) (fun _ _ _ h => h) (Or.inr ⟨by rfl, rfl⟩) u2 ?_
            simp only [List.getElem_toArray, List.getElem_cons_succ, List.getElem_cons_zero, Act.put, List.setIfInBounds_toArray, List.set_cons_zero, List.set_cons_succ]
            refine wpAnyH_take (i := 9) (v := undef) rfl (by kernel_rfl) (by kernel_rfl) (by kernel_rfl) (fun _ _ _ h => h) (Or.inr ⟨by rfl, rfl⟩) u2 ?_
            simp only [List.getElem_toArray, List.getElem_cons_succ, List.getElem_cons_zero, Act.put, List.setIfInBounds_toArray, List.set_cons_zero, List.set_cons_succ]
            refine wpAnyH_take (i := 10) (v := undef) rfl (by kernel_rfl) (by kernel_rfl) (by kernel_rfl) (fun _ _ _ h => h) (Or.inr ⟨by rfl, rfl⟩) u2 ?_
            simp only [List.getElem_toArray, List.getElem_cons_succ, List.getElem_cons_zero, Act.put, List.setIfInBounds_toArray, List.set_cons_zero, List.set_cons_succ]
            refine wpAnyH_take (i := 11) (v := undef) rfl (by kernel_rfl) (by kernel_rfl) (by kernel_rfl) (fun _ _ _ h => h) (Or.inr ⟨by rfl, rfl⟩) u2 ?_
            simp only [List.getElem_toArray, List.getElem_cons_succ, List.getElem_cons_zero, Act.put, List.setIfInBounds_toArray, List.set_cons_zero, List.set_cons_succ]
            refine wpAnyH_take (i := 12) (v := undef) rfl (by kernel_rfl) (by kernel_rfl) (by kernel_rfl) (fun _ _ _ h => h) (Or.inr ⟨by rfl, rfl⟩) u2 ?_
            simp only [List.getElem_toArray, List.getElem_cons_succ, List.getElem_cons_zero, Act.put, List.setIfInBounds_toArray, List.set_cons_zero, List.set_cons_succ]
            refine wpAnyH_take (i := 13) (v := ?_) rfl (by kernel_rfl) (by kernel_rfl) (by kernel_rfl) (fun _ _ _ h => h) (Or.inl ⟨by rfl, ?_⟩) u2 ?_
            rotate_left
            focus (simp only [List.getElem_toArray, List.getElem_cons_succ, List.getElem_cons_zero]; intro w' hS; obtain ⟨s0, s1, s2, s3⟩ := hS; first | (go_simp; done) | (go_simp; with_reducible rfl))
            simp only [List.getElem_toArray, List.getElem_cons_succ, List.getElem_cons_zero, Act.put, List.setIfInBounds_toArray, List.set_cons_zero, List.set_cons_succ]
            refine wpAnyH_done (by kernel_rfl) ?_ _
            refine NoPanic.normal ?_
            go_wp2_with fail
            go_meet
            exact ⟨_, rfl, by rw [decide_eq_false HAC.out]; rfl, Lib.hid BA⟩
        case rest =>
          obtain ⟨W4, rfl, rfl, HB4⟩ := hcut
          have HX4 := Lib.hid (show W4.heap[Bx]? = _ from (HB4.out.block Bx (Nat.lt_trans hlt2 hGl)).trans HX3.out)
          have HF4 := Lib.hid (show W4.heap[G]? = _ from (HB4.out.block G hGl).trans HF3.out)
          have HBC := Lib.hid (HBB.out.trans (HB4.out.mono HBB.out.size))
          have x0 : W4.cell? ⟨Bx, 0, none⟩ = some (.int .i64 0) := by unfold World.cell?; rw [HX4.out]; rfl
          have x1 : W4.cell? ⟨Bx, 1, none⟩ = some (.int .i64 0) := by unfold World.cell?; rw [HX4.out]; rfl
          have x2 : W4.cell? ⟨Bx, 2, none⟩ = some (.int .i64 0) := by unfold World.cell?; rw [HX4.out]; rfl
          have x3 : W4.cell? ⟨Bx, 3, none⟩ = some (.int .i64 0) := by unfold World.cell?; rw [HX4.out]; rfl
          have g0 : W4.frozen? ⟨Bx, 0, none⟩ = false := by unfold World.frozen?; rw [HX4.out]; simp
          have g1 : W4.frozen? ⟨Bx, 1, none⟩ = false := by unfold World.frozen?; rw [HX4.out]; simp
          have g2 : W4.frozen? ⟨Bx, 2, none⟩ = false := by unfold World.frozen?; rw [HX4.out]; simp
          have g3 : W4.frozen? ⟨Bx, 3, none⟩ = false := by unfold World.frozen?; rw [HX4.out]; simp
          have z0 : W4.cell? ⟨G, 0, none⟩ = some (.int .i64 (A : Int)) := by unfold World.cell?; rw [HF4.out]; rfl
          have z1 : W4.cell? ⟨G, 1, none⟩ = some (.int .i64 (N : Int)) := by unfold World.cell?; rw [HF4.out]; rfl
          have z2 : W4.cell? ⟨G, 2, none⟩ = some (.int .i64 (C : Int)) := by unfold World.cell?; rw [HF4.out]; rfl
          have z3 : W4.cell? ⟨G, 3, none⟩ = some (.int .i64 (M : Int)) := by unfold World.cell?; rw [HF4.out]; rfl
          clear HX3 HF3 HB4 HBB q0 q1 q2 q3 E1 E2 HQ
          by_cases hok : AN = C ∧ CM = E
          · have hT : (!(decide (AN = C)) || !(decide (CM = E))) = false := by rw [decide_eq_true hok.1, decide_eq_true hok.2]; rfl
            have HD := Lib.hid (show R = (0, A, N, C, M) by rw [HR.out, if_neg (fun h => h.elim (fun h => h hok.1) (fun h => h hok.2))])
            rw [hT]
            clear hT hok HR
            go_wp2_with fail
            refine bodyPost_ret (by simp [results, Tryz.results49, go_sem, x0, x1, x2, x3]; try rfl) rfl ?_
            exact ⟨by rw [HD.out]; rfl, (((HBC.out.setCell (p := ⟨Bx, 0, none⟩) (by rw [HBX.out]; exact Nat.le_refl _) _).setCell (p := ⟨Bx, 1, none⟩) (by rw [HBX.out]; exact Nat.le_refl _) _).setCell (p := ⟨Bx, 2, none⟩) (by rw [HBX.out]; exact Nat.le_refl _) _).setCell (p := ⟨Bx, 3, none⟩) (by rw [HBX.out]; exact Nat.le_refl _) _⟩
          · have hT : (!(decide (AN = C)) || !(decide (CM = E))) = true := by
              by_cases h1 : AN = C
              · rw [decide_eq_true h1, decide_eq_false (fun h2 => hok ⟨h1, h2⟩)]; rfl
              · rw [decide_eq_false h1]; rfl
            have HD := Lib.hid (show R = (4, 0, 0, 0, 0) by
              rw [HR.out, if_pos]
              by_cases h1 : AN = C
              · exact .inr (fun h2 => hok ⟨h1, h2⟩)
              · exact .inl h1)
            rw [hT]
            clear hT hok HR
            go_wp2_with fail
            refine bodyPost_ret (by simp [results, Tryz.results49, go_sem, x0, x1, x2, x3]; try rfl) rfl ?_
            exact ⟨by rw [HD.out]; rfl, (((HBC.out.setCell (p := ⟨Bx, 0, none⟩) (by rw [HBX.out]; exact Nat.le_refl _) _).setCell (p := ⟨Bx, 1, none⟩) (by rw [HBX.out]; exact Nat.le_refl _) _).setCell (p := ⟨Bx, 2, none⟩) (by rw [HBX.out]; exact Nat.le_refl _) _).setCell (p := ⟨Bx, 3, none⟩) (by rw [HBX.out]; exact Nat.le_refl _) _⟩
    · rw [if_neg hcr] at CO
      rw [if_pos hcr] at HR
      clear hcr HTL
      go_wp2_with fail
      go_at_call 50
      refine CO.out.mono ?_
      rintro _ w2 ⟨rfl, b2⟩
      have HX4 := Lib.hid (show w2.heap[Bx]? = _ from (b2.block Bx hlt).trans HXB.out)
      have HBC := Lib.hid (HB.out.trans (b2.mono HB.out.size))
      clear x0 x1 x2 x3
      have x0 : w2.cell? ⟨Bx, 0, none⟩ = some (.int .i64 0) := by unfold World.cell?; rw [HX4.out]; rfl
      have x1 : w2.cell? ⟨Bx, 1, none⟩ = some (.int .i64 0) := by unfold World.cell?; rw [HX4.out]; rfl
      have x2 : w2.cell? ⟨Bx, 2, none⟩ = some (.int .i64 0) := by unfold World.cell?; rw [HX4.out]; rfl
      have x3 : w2.cell? ⟨Bx, 3, none⟩ = some (.int .i64 0) := by unfold World.cell?; rw [HX4.out]; rfl
      have g0 : w2.frozen? ⟨Bx, 0, none⟩ = false := by unfold World.frozen?; rw [HX4.out]; simp
      have g1 : w2.frozen? ⟨Bx, 1, none⟩ = false := by unfold World.frozen?; rw [HX4.out]; simp
      have g2 : w2.frozen? ⟨Bx, 2, none⟩ = false := by unfold World.frozen?; rw [HX4.out]; simp
      have g3 : w2.frozen? ⟨Bx, 3, none⟩ = false := by unfold World.frozen?; rw [HX4.out]; simp
      clear b2 CO HXB HB
      go_wp2_with fail
      refine bodyPost_ret (by simp [results, Tryz.results49, go_sem, x0, x1, x2, x3]; try rfl) rfl ?_
      exact ⟨by rw [HR.out]; rfl, (((HBC.out.setCell (p := ⟨Bx, 0, none⟩) (by rw [HBX.out]; exact Nat.le_refl _) _).setCell (p := ⟨Bx, 1, none⟩) (by rw [HBX.out]; exact Nat.le_refl _) _).setCell (p := ⟨Bx, 2, none⟩) (by rw [HBX.out]; exact Nat.le_refl _) _).setCell (p := ⟨Bx, 3, none⟩) (by rw [HBX.out]; exact Nat.le_refl _) _⟩
end Go.Proofs.YtmnboiikopkaoaaGreat

namespace Go.Proofs.YtmnboiikopkaoaaGreat
open Go.RowKit

/-- A sealed text, opened: the error, the text. -/
def opn (l : List UInt8) : Int × List UInt8 := if l.length < 4 then (5, []) else if crc (l.take (l.length - 4)) = beVal (l.drop (l.length - 4)) then (0, l.take (l.length - 4)) else (6, [])
theorem openV_un (l : List UInt8) : openV l = .tuple #[.string ⟨(opn l).2.toArray⟩, .int .i64 (opn l).1] := by
  unfold openV opn
  split
  · rfl
  · split
    · rfl
    · rfl
theorem opn_len (l : List UInt8) : (opn l).2.length ≤ l.length := by
  unfold opn
  split
  · exact Nat.zero_le _
  · split
    · rw [List.length_take]; omega
    · exact Nat.zero_le _
theorem ext_mid (b : ByteArray) (a n : Nat) : (b.extract a (a + n)).data.toList = (b.data.toList.drop a).take n := by
  rw [ext_list, List.drop_take, Nat.add_sub_cancel_left]
/-- What Open tells of bytes: the error, the reader. -/
def openT (b : ByteArray) : Int × Option Rdb :=
  let f := rdFoot b.data.toList
  if f.1 ≠ 0 then (f.1, none) else
  let fl := opn ((b.data.toList.drop f.2.1).take f.2.2.1)
  if fl.1 ≠ 0 then (fl.1, none) else
  if isFilB fl.2 = false then (4, none) else
  let ix := opn ((b.data.toList.drop f.2.2.2.1).take f.2.2.2.2)
  if ix.1 ≠ 0 then (ix.1, none) else
  match rdIdx ⟨ix.2.toArray⟩ (b.extract 0 f.2.1) with
  | none => (4, none)
  | some (ps, last, cnt) => if fitsB (fl.2.length - 1) cnt = false then (4, none) else (0, some ⟨ps, last, cnt, ⟨fl.2.toArray⟩, 0⟩)
def OpenA (r : Int × Option Rdb) (w : World) (x : Ending) (w' : World) : Prop :=
  Below w.heap.size w w' ∧ (∀ er, r = (er, none) → x = .returned (.tuple #[.pointer none, .int .i64 er])) ∧ ∀ er q, r = (er, some q) → ∃ p F, x = .returned (.tuple #[.pointer (some ⟨p, 0, none⟩), .int .i64 0]) ∧ RdAt w' p F q ∧ ∀ k ∈ F, w.heap.size ≤ k
theorem OpenA.no {w w' : World} {e : Int} (hb : Below w.heap.size w w') : OpenA (e, none) w (.returned (.tuple #[.pointer none, .int .i64 e])) w' :=
  ⟨hb, fun er h => by cases h; rfl, fun er q h => by cases h⟩
theorem rdFoot_ok {b : List UInt8} {a n c m : Nat} (h : rdFoot b = (0, a, n, c, m)) : 28 ≤ b.length ∧ a + n = c ∧ c + m = b.length - 28 := by
  unfold rdFoot at h
  split at h
  · cases h
  · split at h
    · cases h
    · simp only at h
      split at h
      · cases h
      · rename_i h1 h2 h3
        obtain ⟨h4, h5⟩ : (foot4 ((b.drop (b.length - 28)).take 24)).1 + (foot4 ((b.drop (b.length - 28)).take 24)).2.1 = (foot4 ((b.drop (b.length - 28)).take 24)).2.2.1 ∧ (foot4 ((b.drop (b.length - 28)).take 24)).2.2.1 + (foot4 ((b.drop (b.length - 28)).take 24)).2.2.2 = b.length - 28 := ⟨Classical.not_not.1 fun h => h3 (.inl h), Classical.not_not.1 fun h => h3 (.inr h)⟩
        generalize foot4 ((b.drop (b.length - 28)).take 24) = f at *
        obtain ⟨f1, f2, f3, f4⟩ := f
        cases h
        exact ⟨by omega, h4, h5⟩
theorem rdFoot_bad {b : List UInt8} {e : Int} {a n c m : Nat} (h : rdFoot b = (e, a, n, c, m)) (he : e ≠ 0) : a = 0 ∧ n = 0 ∧ c = 0 ∧ m = 0 := by
  unfold rdFoot at h
  split at h
  · cases h; exact ⟨rfl, rfl, rfl, rfl⟩
  · split at h
    · cases h; exact ⟨rfl, rfl, rfl, rfl⟩
    · simp only at h
      split at h
      · cases h; exact ⟨rfl, rfl, rfl, rfl⟩
      · exact absurd (congrArg (·.1) h).symm he
theorem itI_sizes {B : ByteArray} {l : List UInt8} : ∀ {k : Nat} {t : List Prt × Nat × List UInt8}, itI B l k = some t → ∀ x ∈ t.1, x.b.size ≤ B.size ∧ x.f.size ≤ 300
  | 0, t, h => by cases h; intro x hx; cases hx
  | k + 1, t, h => by
    unfold itI at h
    rw [Option.bind_eq_some_iff] at h
    obtain ⟨s, hs, ht⟩ := h
    have ih := itI_sizes hs
    have h1 := itI_some hs
    unfold stepI at ht
    split at ht
    · cases ht
    · rename_i key n r hp
      cases ht
      intro x hx
      rcases List.mem_append.1 hx with hx | hx
      · exact ih x hx
      · rw [List.mem_singleton.1 hx]
        have h2 := rdPart_some hp h1.1
        refine ⟨?_, ?_⟩
        · show (B.extract _ _).size ≤ _
          rw [ByteArray.size_extract]; omega
        · show (⟨key.toArray⟩ : ByteArray).size ≤ 300
          rw [← len_data']; exact h2.2.2
theorem rdIdx_some {idx B : ByteArray} {ps : List Prt} {last : ByteArray} {cnt : Nat} (h : rdIdx idx B = some (ps, last, cnt)) : ps.length ≤ idx.size ∧ cnt ≤ 8 * idx.size ∧ wholeB ps last cnt = true ∧ ∀ x ∈ ps, x.b.size ≤ B.size ∧ x.f.size ≤ 300 := by
  unfold rdIdx at h
  rw [Option.bind_eq_some_iff] at h
  obtain ⟨s, hs, ht⟩ := h
  have h1 := itI_some hs
  have h2 := itI_sizes hs
  have hn : (rdC (idx.size : Int) idx.data.toList 0).1 ≤ idx.size := by
    rcases hC : rdC (idx.size : Int) idx.data.toList 0 with ⟨n, l0, e0⟩
    by_cases he : e0 = 0
    · subst he
      have := (rdC_eats hC).2
      simp only
      omega
    · unfold rdC at hC
      rw [if_neg (by simp)] at hC
      split at hC
      · cases hC; exact Nat.zero_le _
      · rename_i hq
        have := congrArg (·.2.2) hC
        simp only at this
        exact absurd this (by rw [Classical.not_not.1 hq]; exact fun h => he h.symm)
  unfold endI at ht
  simp only at ht
  split at ht
  · rename_i hq
    cases ht
    have ht2 := rdT_sticks hq.1.1
    have h0 := rdC_sticks ht2
    refine ⟨by omega, ?_, hq.2.2, h2⟩
    rw [h0] at ht2 ⊢
    have hc := (rdC_eats (trip3 ht2)).2
    omega
  · cases ht
set_option maxHeartbeats 8000000 in
set_option maxRecDepth 100000 in
theorem topen_any (b : ByteArray) (w : World) (hb : b.size ≤ 1000000) : Calls Tryz.prog 19 #[.string b] w (OpenA (openT b) w) := by
  have CF := Lib.hid (readFooter_any b w hb)
  obtain ⟨R, hR⟩ : ∃ R, openT b = R := ⟨_, rfl⟩
  rw [hR]
  unfold openT at hR
  simp only at hR
  obtain ⟨e, a, n, c, m, hf⟩ : ∃ e a n c m, rdFoot b.data.toList = (e, a, n, c, m) := ⟨_, _, _, _, _, rfl⟩
  rw [hf] at hR CF
  unfold footV at CF
  simp only at hR CF
  by_cases he : e = 0
  · subst he
    rw [if_neg (by simp)] at hR
    obtain ⟨h28, hac, hcm⟩ := rdFoot_ok hf
    rw [len_data'] at h28 hcm
    obtain ⟨T1, hT1⟩ : ∃ T, b.extract a (a + n) = T := ⟨_, rfl⟩
    have hd1 : T1.data.toList = (b.data.toList.drop a).take n := by rw [← hT1, ext_mid]
    obtain ⟨T2, hT2⟩ : ∃ T, b.extract c (c + m) = T := ⟨_, rfl⟩
    have hd2 : T2.data.toList = (b.data.toList.drop c).take m := by rw [← hT2, ext_mid]
    obtain ⟨T3, hT3⟩ : ∃ T, b.extract 0 a = T := ⟨_, rfl⟩
    have hs1 : T1.size ≤ 1000000 := by rw [← hT1, ByteArray.size_extract]; omega
    have hs2 : T2.size ≤ 1000000 := by rw [← hT2, ByteArray.size_extract]; omega
    have hs3 : T3.size ≤ 1000000 := by rw [← hT3, ByteArray.size_extract]; omega
    rw [← hd1, ← hd2, hT3] at hR
    have K1 := Lib.hid (fun W => spanCut_any a n b W (by omega) (by omega))
    have K2 := Lib.hid (fun W => spanCut_any c m b W (by omega) (by omega))
    rw [hT1] at K1
    rw [hT2] at K2
    have O1 := Lib.hid (fun W => open_any T1 W hs1)
    have O2 := Lib.hid (fun W => open_any T2 W hs2)
    rw [openV_un] at O1 O2
    have K3 := Lib.hid (fun W => clone_any T3 W (by omega))
    have hl1 := opn_len T1.data.toList
    have hl2 := opn_len T2.data.toList
    rw [len_data'] at hl1 hl2
    obtain ⟨e1, fl, hU1⟩ : ∃ e1 fl, opn T1.data.toList = (e1, fl) := ⟨_, _, rfl⟩
    obtain ⟨e2, ix, hU2⟩ : ∃ e2 ix, opn T2.data.toList = (e2, ix) := ⟨_, _, rfl⟩
    rw [hU1] at hR O1 hl1
    rw [hU2] at hR O2 hl2
    simp only at hR O1 O2 hl1 hl2
    have haI : (a : Int) ≤ (b.size : Int) := by omega
    have HR := Lib.hid hR.symm
    have HT3 := Lib.hid hT3
    have hfl : fl.length ≤ 1000000 := by omega
    have hixl : ix.length ≤ 1000000 := by omega
    clear hR hf hT1 hT2 hT3 hd1 hd2 hU1 hU2 h28 hac hcm hs1 hs2 hl1 hl2
    go_enter Tryz.func19, Tryz.ntmps19
    go_wp2_with fail
    go_at_call 49
    refine CF.out.mono ?_
    rintro _ w1 ⟨rfl, b1⟩
    obtain ⟨W, hW⟩ : ∃ W, w1.alloc (.cells #[.int .i64 (a : Int), .int .i64 (n : Int), .int .i64 (c : Int), .int .i64 (m : Int)] 99) = W := ⟨_, rfl⟩
    have HFW := Lib.hid (show W.heap[w1.heap.size]? = some (.cells #[.int .i64 (a : Int), .int .i64 (n : Int), .int .i64 (c : Int), .int .i64 (m : Int)] 99) by rw [← hW]; exact new_block _ _ rfl)
    have HBW := Lib.hid (show Below w.heap.size w W by rw [← hW]; exact b1.alloc b1.size _)
    obtain ⟨G, hG⟩ : ∃ G, w1.heap.size = G := ⟨_, rfl⟩
    rw [hG] at HFW
    have HGE := Lib.hid hG
    have hGl : G < W.heap.size := (Array.getElem?_eq_some_iff.1 HFW.out).1
    have HQ := Lib.hid (show ∀ Wb, Below W.heap.size W Wb → Wb.cell? ⟨G, 0, none⟩ = some (.int .i64 (a : Int)) ∧ Wb.cell? ⟨G, 1, none⟩ = some (.int .i64 (n : Int)) ∧ Wb.cell? ⟨G, 2, none⟩ = some (.int .i64 (c : Int)) ∧ Wb.cell? ⟨G, 3, none⟩ = some (.int .i64 (m : Int)) from fun Wb hb => by
      have hb' := (hb.block G hGl).trans HFW.out
      refine ⟨?_, ?_, ?_, ?_⟩ <;> · unfold World.cell?; rw [hb']; rfl)
    obtain ⟨q0, q1, q2, q3⟩ := HQ.out W (Below.refl _ _)
    clear CF b1 hG
    go_upto_region 2 with fail
    try rw [hW]
    try rw [HGE.out]
    clear hW
    by_cases h1 : e1 = 0
    · subst h1
      rw [if_neg (by simp)] at HR
      obtain ⟨FL, hFL⟩ : ∃ FL : ByteArray, ⟨fl.toArray⟩ = FL := ⟨_, rfl⟩
      have hFd : FL.data.toList = fl := by rw [← hFL]
      have hFs : FL.size = fl.length := by rw [← len_data', hFd]
      rw [hFL] at O1 HR
      have CI := Lib.hid (fun W => isFilter_any FL W (by omega))
      rw [hFd] at CI
      cases hif : isFilB fl with
      | false =>
        rw [if_pos hif] at HR
        rw [hif] at CI
        clear hFL hFd hFs hif
        go_wp2_with (first | (go_at_call 51; (with_reducible refine (K1.out _).mono ?_); rintro _ w2 ⟨rfl, b2⟩) | (go_at_call 50; (with_reducible refine (O1.out _).mono ?_); rintro _ w3 ⟨rfl, b3⟩) | (go_at_call 52; (with_reducible refine (CI.out _).mono ?_); rintro _ w4 ⟨rfl, rfl⟩) | fail)
        go_ret2
        rw [HR.out]
        have B2 := HBW.out.trans (b2.mono HBW.out.size)
        exact OpenA.no (B2.trans (b3.mono B2.size))
      | true =>
        rw [if_neg (by rw [hif]; simp)] at HR
        rw [hif] at CI
        have hfp : 1 ≤ FL.size := by
          rw [hFs]
          unfold isFilB at hif
          have h2 : gvalidB fl = true := by
            cases hg : gvalidB fl with
            | true => rfl
            | false => rw [hg] at hif; cases hif
          have : 2 ≤ fl.length ∧ _ := of_decide_eq_true h2
          omega
        have CT := Lib.hid (fun W k h => fits_any FL k W (by omega) hfp h)
        rw [show FL.size - 1 = fl.length - 1 by omega] at CT
        clear hFL hFd hif hfp
        have B2A := Lib.hid (show ∀ (w2 w3 : World), Below W.heap.size W w2 → Below w2.heap.size w2 w3 → Below W.heap.size W w3 from fun w2 w3 h1 h2 => h1.trans (h2.mono h1.size))
        go_wp2_with fail
        go_at_call 51
        refine (K1.out _).mono ?_
        rintro _ w2 ⟨rfl, b2⟩
        go_wp2_with fail
        go_at_call 50
        refine (O1.out _).mono ?_
        rintro _ w3 ⟨rfl, b3⟩
        have HB3 := Lib.hid (B2A.out _ _ b2 b3)
        obtain ⟨r0, r1, r2, r3⟩ := HQ.out w3 HB3.out
        clear b2 b3 q0 q1 q2 q3 K1 O1
        go_wp2_with (go_at_call 52; (with_reducible refine (CI.out _).mono ?_); rintro _ w4 ⟨rfl, rfl⟩)
        go_at_call 51
        refine (K2.out _).mono ?_
        rintro _ w5 ⟨rfl, b5⟩
        go_wp2_with fail
        go_at_call 50
        refine (O2.out _).mono ?_
        rintro _ w6 ⟨rfl, b6⟩
        have HB6 := Lib.hid (B2A.out _ _ HB3.out (b5.trans (b6.mono b5.size)))
        obtain ⟨s0, s1, s2, s3⟩ := HQ.out w6 HB6.out
        clear b5 b6 r0 r1 r2 r3 K2 O2 HB3 CI
        by_cases h2 : e2 = 0
        · subst h2
          rw [if_neg (by simp)] at HR
          obtain ⟨IX, hIX⟩ : ∃ IX : ByteArray, ⟨ix.toArray⟩ = IX := ⟨_, rfl⟩
          have hIs : IX.size = ix.length := by rw [← len_data', ← hIX]
          rw [hIX] at HR
          have CX := Lib.hid (fun W => readIndex_any IX T3 W (by omega) hs3)
          rw [hIX] at *
          go_wp2_with fail
          go_at_call 25
          rw [HT3.out]
          refine (K3.out _).mono ?_
          rintro _ w7 ⟨rfl, b7⟩
          go_wp2_with fail
          go_at_call 53
          refine (CX.out _).mono ?_
          rintro _ w8 ⟨pv, ok, rfl, b8, hno, hyes⟩
          have HB8 := Lib.hid (B2A.out _ _ HB6.out (b7.trans (b8.mono b7.size)))
          have hsW := HBW.out.size
          have hs8 := HB6.out.size
          cases hix : rdIdx IX T3 with
          | none =>
            obtain rfl := hno hix
            rw [hix] at HR
            clear hno hyes hix b7 b8 CX K3
            go_wp2_with fail
            go_ret2
            rw [HR.out]
            exact OpenA.no (HBW.out.trans (HB8.out.mono HBW.out.size))
          | some t =>
            obtain ⟨ps, last, cnt⟩ := t
            obtain ⟨rfl, p, F, rfl, hrd, hFl⟩ := hyes ps last cnt hix
            have hfacts := rdIdx_some hix
            rw [hix] at HR
            simp only at HR
            have HRD := Lib.hid hrd
            obtain ⟨V8, -, -, p2, p3, -⟩ := hrd.cells
            have f3 := hrd.frozen 3
            simp only at p2 p3
            have HFF := Lib.hid (show ∀ k ∈ F, w.heap.size ≤ k from fun k hk => by
              have h1 := hFl k hk
              have h2 := b7.size
              omega)
            have CT2 := Lib.hid (CT.out w8 cnt (by omega))
            clear hno hyes hix b7 b8 CX K3 hfacts hrd hFl CT
            cases hft : fitsB (fl.length - 1) cnt with
            | false =>
              rw [hft] at CT2
              rw [if_pos hft] at HR
              clear hft
              go_wp2_with (go_at_call 54; (with_reducible refine CT2.out.mono ?_); rintro _ w9 ⟨rfl, rfl⟩)
              go_ret2
              rw [HR.out]
              exact OpenA.no (HBW.out.trans (HB8.out.mono HBW.out.size))
            | true =>
              rw [hft] at CT2
              rw [if_neg (by rw [hft]; simp)] at HR
              clear hft
              go_wp2_with (go_at_call 54; (with_reducible refine CT2.out.mono ?_); rintro _ w9 ⟨rfl, rfl⟩)
              go_ret2
              rw [HR.out]
              refine ⟨(HBW.out.trans (HB8.out.mono HBW.out.size)).setCell (p := ⟨p, 3, none⟩) (HFF.out p HRD.out.mem) _, (fun er h => by cases h), fun er q h => ?_⟩
              cases h
              exact ⟨p, F, rfl, HRD.out.setFil FL, HFF.out⟩
        · have dn : (e2 != 0) = true := by simpa using h2
          rw [if_pos h2] at HR
          clear h2
          go_wp2_with fail
          go_ret2
          rw [HR.out]
          exact OpenA.no (HBW.out.trans (HB6.out.mono HBW.out.size))
    · have dn : (e1 != 0) = true := by simpa using h1
      rw [if_pos h1] at HR
      clear h1
      go_wp2_with (first | (go_at_call 51; (with_reducible refine (K1.out _).mono ?_); rintro _ w2 ⟨rfl, b2⟩) | (go_at_call 50; (with_reducible refine (O1.out _).mono ?_); rintro _ w3 ⟨rfl, b3⟩) | fail)
      go_ret2
      rw [HR.out]
      have B2 := HBW.out.trans (b2.mono HBW.out.size)
      exact OpenA.no (B2.trans (b3.mono B2.size))
  · rw [if_pos he] at hR
    subst hR
    obtain ⟨rfl, rfl, rfl, rfl⟩ := rdFoot_bad hf he
    have dn : (e != 0) = true := by simpa using he
    clear he hf
    go_enter Tryz.func19, Tryz.ntmps19
    go_wp2_with (go_at_call 49; (with_reducible refine CF.out.mono ?_); rintro _ w1 ⟨rfl, b1⟩)
    go_ret2
    exact OpenA.no (b1.alloc b1.size _)
end Go.Proofs.YtmnboiikopkaoaaGreat
