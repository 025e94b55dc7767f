/- merge.Cut. -/
import Derived.Test.YtcbailiniigcnaaGreatHT5
import Derived.Test.YtcbailiniigcnaaGreatV5
import Derived.Deep.CutRange
namespace Go.Proofs.YtcbailiniigcnaaGreat
open Go.ChangeShapes Go.WideShapes Go.ChangeAt Go.Deep Go.RowKit

set_option maxHeartbeats 8000000 in
set_option maxRecDepth 100000 in
theorem cutR (most : Int) (a : Option Addr) (cap : Nat) (L : List Ent) (w : World) (hE : EntsAt w.heap.size w a L.length L) (hlen : L.length ≤ 50000) (hfine : ∀ x ∈ L, x.Fine) :
    Calls Tryz.prog 16 #[.int .i64 most, .slice a L.length cap] w fun e w' => ∃ O vs, e = .returned O ∧ PiecesR w.heap.size w' O vs (cutS most [] L) ∧ Below w.heap.size w w' := by
  obtain ⟨i0, hi0, hz0, hzs, hzb⟩ := info_parts infoE5
  obtain ⟨j0, hj0, hy0, hys, hyb⟩ := info_parts infoL14
  have HE := Lib.hid (reads_of hE)
  have HFI := Lib.hid hfine
  clear hE hfine
  go_enter Tryz.func16, Tryz.ntmps16
  go_wp2_with fail
  go_loopw [5, 6, 12] (fun ov pv iv wr => ∃ (i : Nat) (O V : Value) (vs : List Value) (D : List (List Ent)) (q : List Ent), O = ov ∧ V = pv ∧ iv = .int .i64 (i : Int) ∧ i ≤ L.length ∧ Hid (D ++ cutS most q (L.drop i) = cutS most [] L) ∧ q.length ≤ i ∧ D.length ≤ i ∧ Hid (i = L.length → q = []) ∧ Hid (CutI w.heap.size wr O V vs D q) ∧ Hid (Below w.heap.size w wr)) (fun _ _ iv _ => L.length - (intOf iv).toNat)
  case atStart => exact ⟨0, _, _, [], [], [], rfl, rfl, rfl, Nat.zero_le _, Lib.hid rfl, Nat.le_refl _, Nat.le_refl _, Lib.hid (fun _ => rfl), Lib.hid ⟨row_nil _ _ _, row_nil _ _ _, rfl, fun j v d h => by simp at h, fun b hb => none_ne hb, fun b hb => none_ne hb, fun b hb => none_ne hb, fun b hb => none_ne hb, fun b hb => none_ne hb, (fun v hv => by cases hv), List.Pairwise.nil⟩, Lib.hid (Below.refl _ _)⟩
  case round =>
    obtain ⟨i, O, V, vs, D, q, rfl, rfl, rfl, hile, HD, hql, hDl, HQE, HI, HB⟩ := hrel
    obtain ⟨wo, hwo⟩ : ∃ wo, wo = wr := ⟨wr, rfl⟩
    subst hwo
    by_cases hlt : i < L.length
    · have hei := HE.out wo HB.out
      obtain ⟨b, off, rfl, hb, hcell⟩ : ∃ b off, a = some ⟨b, off, none⟩ ∧ b < w.heap.size ∧ Hid (∀ k (h : k < L.length) j u, L[k].cells[j]? = some u → ∀ W, Below w.heap.size w W → W.cell? ⟨b, off + k * 4 + j, none⟩ = some u) := by
        rcases HE.out w (Below.refl _ _) |>.2 with h0 | ⟨b, off, e, h1, h2⟩
        · omega
        · exact ⟨b, off, e, h1, fun k hk j u hu W hW => (hW.cell (p := ⟨b, _, none⟩) h1).trans (h2 k hk j u hu)⟩
      have hli : (i : Int) < (L.length : Int) := by omega
      have hdrop : L.drop i = L[i] :: L.drop (i + 1) := List.drop_eq_getElem_cons hlt
      have hci := hcell.out i hlt
      obtain ⟨X, hXe⟩ : ∃ X, L[i] = X := ⟨_, rfl⟩
      rw [hXe] at hci hdrop
      obtain ⟨xk, xs, xn, xv⟩ := X
      have HCI := Lib.hid hci
      have HDR := Lib.hid hdrop
      have q0 : wo.cell? ⟨b, off + i * 4, none⟩ = some (.string xk) := hci 0 _ rfl wo HB.out
      have q1 : wo.cell? ⟨b, off + i * 4 + 1, none⟩ = some (.int .u64 xs) := hci 1 _ rfl wo HB.out
      have q2 : wo.cell? ⟨b, off + i * 4 + 2, none⟩ = some (.int .i64 xn) := hci 2 _ rfl wo HB.out
      have q3 : wo.cell? ⟨b, off + i * 4 + 3, none⟩ = some (.string xv) := hci 3 _ rfl wo HB.out
      have hfx := HFI.out _ (List.getElem_mem hlt)
      rw [hXe] at hfx
      have CF := Lib.hid (fun W' => freshU_any xk xs xn xv W' (by have := hfx.2.1; simp only at this; omega) (by have := hfx.2.2; simp only at this; omega))
      unfold ev at CF
      obtain ⟨W0, hW0⟩ : ∃ W, wo.alloc (.cells #[.string xk, .int .u64 xs, .int .i64 xn, .string xv] 56) = W := ⟨_, rfl⟩
      have HA0 := Lib.hid (below_alloc hW0)
      have he0 : W0.heap[wo.heap.size]? = some (.cells #[.string xk, .int .u64 xs, .int .i64 xn, .string xv] 56 (0, 0)) := by rw [← hW0]; exact heap_alloc_new wo _
      have HE0 := Lib.hid he0
      obtain ⟨e0, e1, e2, e3⟩ := round_cells (M := W0.heap.size) he0 (Turn.refl _ _) (by have := (Array.getElem?_eq_some_iff.1 he0).1; omega)
      have HBa := Lib.hid (show q.length + 1 ≤ maxLen by unfold maxLen; omega)
      have HBb := Lib.hid (show (q.length + 1) * 48 ≤ 140737488355328 by omega)
      clear hci hdrop hei hfx hXe he0
      go_wp2_with (first
        | (go_at_call 23; refine (CF.out _).mono ?_; rintro e w1 ⟨rfl, hbF⟩; obtain ⟨W, hW⟩ : ∃ W, w1.alloc (.cells #[.string xk, .int .u64 xs, .int .i64 xn, .string xv] 56) = W := ⟨_, rfl⟩; have HA6 := Lib.hid (HA0.out.trans ((hbF.trans ((below_alloc hW).mono hbF.size)).mono HA0.out.size)); have HI6 := Lib.hid (HI.out.below HA6.out); have HS6 := Lib.hid (show Src Tryz.prog 4 26 (.slice (some ⟨w1.heap.size, 0, none⟩) 1 1) 1 (Ent.cells ⟨xk, xs, xn, xv⟩) W by rw [← hW]; exact src_new ⟨xk, xs, xn, xv⟩ w1); have HE6 := Lib.hid (show W.heap[wo.heap.size]? = some (.cells #[.string xk, .int .u64 xs, .int .i64 xn, .string xv] 56 (0, 0)) from ((hbF.trans ((below_alloc hW).mono hbF.size)).block _ (Array.getElem?_eq_some_iff.1 HE0.out).1).trans HE0.out))
        | (at_builtin; refine wpList_append_row _ rfl _ _ 26 26 rfl 56 i0 _ 4 48 Tryz.underlying26 hi0 hz0 hzs hzb rfl V _ _ rfl HI6.out.piece _ rfl 1 _ HS6.out HBa.out HBb.out ?_)
        | fail)
      intro V5 w5 hrow5 hgrow5 hob5
      have x5 : w5.cell? ⟨wo.heap.size, 0, none⟩ = some (.string xk) := by
        have h5 := (hgrow5.block _ (Array.getElem?_eq_some_iff.1 HE6.out).1 (fun e => by have := HI.out.piece.lt _ e.symm; omega)).trans HE6.out
        simp only [World.cell?, h5]
        rfl
      have hsz : w.heap.size ≤ W.heap.size := Nat.le_trans HB.out.size HA6.out.size
      have hI7 := HI6.out.put (x := ⟨xk, xs, xn, xv⟩) hsz hrow5 hgrow5 hob5
      have HB7 := Lib.hid (below_row (HB.out.trans (HA6.out.mono HB.out.size)) (Nat.le_refl _) hgrow5 HI6.out.newV)
      clear hsz hrow5 hgrow5 hob5 HI6 HS6 HA6 HI q0 q1 q2 q3 hW hW0 e0 e1 e2 e3 hbF
      obtain ⟨Q1, hQ1⟩ : ∃ Q, q ++ [⟨xk, xs, xn, xv⟩] = Q := ⟨_, rfl⟩
      rw [hQ1] at hI7
      have HI7 := Lib.hid hI7
      have hQl : Q1.length = q.length + 1 := by rw [← hQ1]; simp
      have HQ1 := Lib.hid hQ1
      have HQl := Lib.hid hQl
      clear hI7 hQ1
      obtain ⟨a5, c5, rfl, -, -⟩ := HI7.out.piece.le
      obtain ⟨m, hm⟩ : ∃ m, m = i + 1 := ⟨_, rfl⟩
      have hij : (i : Int) + 1 = (m : Int) := by omega
      have hwi : IntKind.i64.wrap (m : Int) = (m : Int) := by rw [IntKind.wrap_i64]; omega
      obtain ⟨LB, hLB⟩ : ∃ B, ((m : Int) == (L.length : Int)) = B := ⟨_, rfl⟩
      have HLB := Lib.hid hLB
      obtain ⟨H, hH⟩ : ∃ H, decide (L.drop (i + 1) = [] ∨ (most ≤ (Q1.length : Int) ∧ ((L.drop (i + 1)).head?.map Ent.k) ≠ some xk)) = H := ⟨_, rfl⟩
      have HH := Lib.hid hH
      have HDC := Lib.hid (show cutS most q (L.drop i) = if H = true then Q1 :: cutS most [] (L.drop (i + 1)) else cutS most Q1 (L.drop (i + 1)) by
        rw [HDR.out, cutS_cons, ← hH, ← HQ1.out]
        simp only [decide_eq_true_eq])
      have hQ5 : (Q1.length : Int) ≤ 50000 := by omega
      have HM := Lib.hid hm
      clear hH hQl hm
      go_wp2_with fail
      go_cut [44] from 13 to 49 (fun tv wx => tv = .bool H ∧ Below w5.heap.size w5 wx)
      case first =>
        cases LB with
        | true =>
          have hHt : H = true := by
            rw [← HH.out]
            have h1 := HLB.out
            rw [beq_iff_eq] at h1
            have : L.drop (i + 1) = [] := List.drop_eq_nil_of_le (by have := HM.out; omega)
            simp [this]
          go_wp2_with fail
          go_quiet (fail)
          go_wp2_with fail
          go_meet
          exact ⟨by rw [hHt], belowN (Below.refl _ _) _⟩
        | false =>
          have hl1 : i + 1 < L.length := by
            have h1 := HLB.out
            rw [beq_eq_false_iff_ne] at h1
            have := HM.out
            omega
          have hdr1 : L.drop (i + 1) = L[i + 1] :: L.drop (i + 2) := List.drop_eq_getElem_cons hl1
          have hcn := hcell.out (i + 1) hl1
          generalize L[i + 1] = Y at hdr1 hcn
          obtain ⟨yk, ys, yn, yv⟩ := Y
          rw [← HM.out] at hcn
          have p0 : w5.cell? ⟨b, off + m * 4, none⟩ = some (.string yk) := hcn 0 _ rfl w5 HB7.out
          have hmi : (m : Int) < (L.length : Int) := by have := HM.out; omega
          obtain ⟨G2, hG2⟩ : ∃ G, decide (most ≤ (Q1.length : Int)) = G := ⟨_, rfl⟩
          obtain ⟨G3, hG3⟩ : ∃ G, (yk.toList != xk.toList) = G := ⟨_, rfl⟩
          have hHV : H = (G2 && G3) := by
            rw [← HH.out, hdr1, ← hG2, ← hG3]
            have hb : (yk.toList != xk.toList) = decide (yk ≠ xk) := by
              rw [bne, beq_dec]
              simp
            rw [hb]
            simp
          clear hcn hdr1
          cases G2 with
          | true =>
            go_wp2_with fail
            go_quiet (fail)
            go_wp2_with fail
            go_meet
            exact ⟨by rw [hHV, ← hG3]; rfl, belowN (Below.refl _ _) _⟩
          | false =>
            clear hG3
            go_wp2_with fail
            go_quiet (fail)
            go_wp2_with fail
            go_meet
            exact ⟨by rw [hHV]; rfl, belowN (Below.refl _ _) _⟩
      case rest =>
        obtain ⟨rfl, hbc⟩ := hcut
        have HIC := Lib.hid (HI7.out.below hbc)
        have HBC := Lib.hid (HB7.out.trans (hbc.mono HB7.out.size))
        clear hbc HI7 HB7 x5
        cases H with
        | false =>
          have HNE := Lib.hid (show i + 1 < L.length from by
            have h := of_decide_eq_false HH.out
            rcases Nat.lt_or_ge (i + 1) L.length with h1 | h1
            · exact h1
            · exact absurd (.inl (List.drop_eq_nil_of_le h1)) h)
          have HD2 := Lib.hid (show D ++ cutS most Q1 (L.drop (i + 1)) = cutS most [] L by
            have h := HD.out
            rw [HDC.out] at h
            exact h)
          go_wp2_with fail
          go_roundw
          case rel => exact ⟨i + 1, O, _, vs, D, Q1, rfl, rfl, by go_num, hlt, HD2, by have := HQl.out; omega, by omega, Lib.hid (fun h => by have := HNE.out; omega), HIC, HBC⟩
          case measure => simp [intOf]; omega
        | true =>
          have HD2 := Lib.hid (show (D ++ [Q1]) ++ cutS most [] (L.drop (i + 1)) = cutS most [] L by
            have h := HD.out
            rw [HDC.out, if_pos rfl] at h
            rw [List.append_assoc]
            exact h)
          obtain ⟨W2, hW2⟩ : ∃ W, wc.alloc (.cells #[.slice a5 Q1.length c5] 26) = W := ⟨_, rfl⟩
          have HA8 := Lib.hid (below_alloc hW2)
          have HI8 := Lib.hid (HIC.out.below HA8.out)
          have HS8 := Lib.hid (Src.ofSlice (P := Tryz.prog) W2 (size := 1) Tryz.underlying22 ⟨wc.heap.size, 0, none⟩ 1 1 [.slice a5 Q1.length c5] rfl (fun j u hu => by
            match j, hu with
            | 0, hu =>
              rw [← hW2]
              simp only [List.getElem?_cons_zero, Option.some.injEq] at hu
              subst hu
              exact nce (j := 0) (by simp) (by rfl)) (by simp [Value.oneCell']))
          have hvl : vs.length ≤ i := by have := HIC.out.len; omega
          have HBc := Lib.hid (show vs.length + 1 ≤ maxLen by unfold maxLen; omega)
          have HBd := Lib.hid (show (vs.length + 1) * 24 ≤ 140737488355328 by omega)
          clear HIC
          go_wp2_with (at_builtin; refine wpList_append_row _ rfl _ _ 22 22 rfl 26 j0 _ 1 24 Tryz.underlying22 hj0 hy0 hys hyb rfl O _ _ rfl HI8.out.out _ rfl 1 _ HS8.out HBc.out HBd.out ?_)
          intro O9 w9 hrow9 hgrow9 hob9
          have hsz : w.heap.size ≤ W2.heap.size := Nat.le_trans HBC.out.size HA8.out.size
          have HI9 := Lib.hid (HI8.out.push hsz hrow9 hgrow9 hob9)
          have HB9 := Lib.hid (below_row (HBC.out.trans (HA8.out.mono HBC.out.size)) (Nat.le_refl _) hgrow9 HI8.out.newO)
          clear hsz hrow9 hgrow9 hob9 HI8 HS8 HA8 hW2
          go_wp2_with fail
          go_roundw
          case rel => exact ⟨i + 1, O9, _, _, _, [], rfl, rfl, by go_num, hlt, HD2, by simp, by simp; omega, Lib.hid (fun _ => rfl), HI9, HB9⟩
          case measure => simp [intOf]; omega
    · obtain rfl : i = L.length := by omega
      have hq := HQE.out rfl
      subst hq
      have hD := HD.out
      rw [List.drop_length] at hD
      have hD2 : D = cutS most [] L := by rw [← hD]; simp [cutS]
      have hp := HI.out.pieces
      rw [hD2] at hp
      have HP := Lib.hid hp
      clear hD hD2 hp HD HI
      go_wp2_with fail
      go_ret
      first | exact ⟨O, vs, rfl, HP.out, HB.out⟩ | exact ⟨O, rfl, vs, HP.out, HB.out⟩ | exact ⟨O, rfl, ⟨vs, HP.out⟩, HB.out⟩
theorem cutC : CutC := by
  intro most a cap L w hE hlen _ hfine
  refine (cutR most a cap L w hE hlen hfine).mono ?_
  rintro e w' ⟨O, vs, rfl, hp, hb⟩
  obtain ⟨a', c, rfl, hl⟩ := hp.told
  exact ⟨a', c, rfl, hl, hb⟩
end Go.Proofs.YtcbailiniigcnaaGreat
