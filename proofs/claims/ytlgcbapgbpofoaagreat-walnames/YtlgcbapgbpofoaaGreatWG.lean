/- wal's GetBatch, of bytes that PutBatch told: the walk. -/
import Derived.Test.YtlgcbapgbpofoaaGreatWF
namespace Go.Proofs.YtlgcbapgbpofoaaGreat
open Go.RowKit

theorem putWs_cons (x : Wr) (ws : List Wr) : putWs (x :: ws) = (if x.d then [1] else [0]) ++ (Lib.uvarint x.k.size ++ (x.k.data.toList ++ (Lib.uvarint x.v.size ++ (x.v.data.toList ++ putWs ws)))) := by
  simp [putWs, putW, ntexts]
theorem putWs_drop {ws : List Wr} {i : Nat} {x : Wr} (h : ws[i]? = some x) : putWs (ws.drop i) = (if x.d then [1] else [0]) ++ (Lib.uvarint x.k.size ++ (x.k.data.toList ++ (Lib.uvarint x.v.size ++ (x.v.data.toList ++ putWs (ws.drop (i + 1)))))) := by
  obtain ⟨hi, rfl⟩ := List.getElem?_eq_some_iff.1 h
  rw [List.drop_eq_getElem_cons hi, putWs_cons]
theorem putWs_drop_len (ws : List Wr) (i : Nat) (h : sizeWs ws ≤ 1000000) (hl : ws.length ≤ 1000) : (putWs (ws.drop i)).length ≤ 2000000 := by
  have h1 : sizeWs (ws.drop i) ≤ sizeWs ws := by
    have e : sizeWs (ws.take i ++ ws.drop i) = sizeWs (ws.take i) + sizeWs (ws.drop i) := by
      unfold sizeWs
      rw [List.map_append, List.sum_append]
    rw [List.take_append_drop] at e
    omega
  have h2 := putWs_length (ws.drop i) (by omega)
  rw [List.length_drop] at h2
  omega
theorem wrOk_of {ws : List Wr} {i : Nat} {x : Wr} (h : ws[i]? = some x) (ha : wrsOk ws = true) : x.k.size ≤ 300 ∧ x.v.size ≤ 60000 := by
  unfold wrsOk at ha
  rw [Bool.and_eq_true, List.all_eq_true] at ha
  have := ha.1 x (List.mem_of_getElem? h)
  unfold wrOk at this
  simp only [Bool.and_eq_true, decide_eq_true_eq] at this
  exact this.1
theorem wrs_some {ws : List Wr} (ha : wrsOk ws = true) : ws.length ≠ 0 := by
  intro h
  rw [List.length_eq_zero_iff.mp h] at ha
  exact Bool.noConfusion ha
set_option maxHeartbeats 8000000 in
set_option maxRecDepth 100000 in
theorem getBatch_ok (first : Nat) (ws : List Wr) (w : World) (hf : first < 18446744073709551616) (hl : ws.length ≤ 1000) (hsz : sizeWs ws ≤ 1000000) (hok : wrsOk ws = true) :
    Calls Tryz.prog 14 #[.string ⟨(putB first ws).toArray⟩] w fun e w' => ∃ g cap, e = .returned (.tuple #[.agg #[.int .u64 (first : Int), .slice (some ⟨g, 0, none⟩) ws.length cap], .int .i64 0]) ∧ WrsAt w'.heap.size w' (some ⟨g, 0, none⟩) ws.length ws ∧ (w.heap.size ≤ g ∧ g < w'.heap.size) ∧ Below w.heap.size w w' := by
  obtain ⟨i0, hi, hz0, hzs, hzb⟩ := info_parts infoW
  have hbytes : putB first ws = Lib.uvarint first ++ (Lib.uvarint ws.length ++ putWs ws) := by simp [putB, vars]
  have hp0 := putWs_drop_len ws 0 hsz hl
  rw [List.drop_zero] at hp0
  have hz1 := Lib.uvarint_length64 hf
  have hz2 := Lib.uvarint_length64 (x := ws.length) (by omega)
  have hsl : (putB first ws).length ≤ 3000000 := by rw [hbytes, List.length_append, List.length_append]; omega
  obtain ⟨S, hS⟩ : ∃ S : ByteArray, S = ⟨(putB first ws).toArray⟩ := ⟨_, rfl⟩
  have hSs : S.size ≤ 3000000 := by rw [hS, str_len]; exact hsl
  have HSB := Lib.hid (show S = ⟨(Lib.uvarint first ++ (Lib.uvarint ws.length ++ putWs ws)).toArray⟩ by rw [hS, hbytes])
  rw [← hS]
  have CN := Lib.hid (fun W => newReader_any S W)
  have CV := Lib.hid (fun b W h => rvar_at first b (Lib.uvarint ws.length ++ putWs ws) W h hf (by rw [List.length_append]; omega))
  have CC := Lib.hid (fun b W h => rcount_at ws.length b (putWs ws) W h (by omega) (by omega))
  have HOK := Lib.hid hok
  have HPL := Lib.hid (fun i => putWs_drop_len ws i hsz hl)
  have HSZ := Lib.hid hsz
  clear hbytes hp0 hz1 hz2 hsl hS hok hsz
  obtain ⟨W0, hW0⟩ : ∃ W0, w.alloc (.cells #[.int .u64 0, .slice none 0 0] 48) = W0 := ⟨_, rfl⟩
  have bx0 : BoxB W0 w.heap.size 0 (.slice none 0 0) := by rw [← hW0]; exact heap_alloc_new w _
  have b0 : Below w.heap.size w W0 := by rw [← hW0]; exact (Below.refl _ _).alloc (Nat.le_refl _) _
  go_enter Tryz.func14, Tryz.ntmps14
  go_wp2_with (fail)
  go_at_call 62
  refine (CN.out _).mono ?_
  rintro _ W1 ⟨rfl, rd1, b1, s1⟩
  rw [HSB.out] at rd1
  have hRB : w.heap.size < W0.heap.size := bx0.lt
  go_wp2_with (fail)
  go_at_call 63
  refine (CV.out _ _ rd1).mono ?_
  rintro _ W2 ⟨rfl, rd2, g2⟩
  have h12 : W1.heap.size ≤ W2.heap.size := g2.size
  have gs3 : GSt w w.heap.size W0.heap.size W2.heap.size first (Lib.uvarint ws.length ++ putWs ws) [] (.slice none 0 0) (W2.alloc (.cells #[.int .u64 (first : Int), .slice none 0 0] 48)) := by
    have bx2 : BoxB W2 w.heap.size 0 (.slice none 0 0) := (g2.block _ (by omega) (fun e => by have := Option.some.inj e; omega)).trans ((b1.block _ hRB).trans bx0)
    have bl2 : Below w.heap.size w W2 := by
      have hb01 := b0.trans (b1.mono b0.size)
      exact ⟨g2.os.trans hb01.os, g2.tape.trans hb01.tape, g2.output.trans hb01.output, Nat.le_trans hb01.size g2.size, fun k hk => (g2.block k (by omega) (fun e => by have := Option.some.inj e; omega)).trans (hb01.block k hk)⟩
    have bl3 : Below W2.heap.size W2 (W2.alloc (.cells #[.int .u64 (first : Int), .slice none 0 0] 48)) := (Below.refl _ _).alloc (Nat.le_refl _) _
    exact ⟨(bl3.block _ bx2.lt).trans bx2, rd2.below bl3 rd2.lt, heap_alloc_new W2 _, row_nil _ _ _, fun k hk => by simp [ob] at hk, bl2.trans (bl3.mono bl2.size)⟩
  have hR0 : w.heap.size ≤ W0.heap.size := by omega
  have hR5 : W0.heap.size < W2.heap.size := by omega
  have n1 : w.heap.size ≠ W0.heap.size := by omega
  have n2 : W2.heap.size ≠ W0.heap.size := by omega
  have n3 : w.heap.size ≠ W2.heap.size := by omega
  have hw5 : w.heap.size ≤ W2.heap.size := by omega
  clear rd1 rd2 g2 b1 s1 bx0 b0 CN CV
  go_wp2_with (fail)
  go_at_call 64
  refine (CC.out _ _ gs3.rd).mono ?_
  rintro _ W4 ⟨rfl, rd4, g4⟩
  have gs4 := gs3.read g4 rd4 n1 n2 hR0
  clear gs3 rd4 g4 CC h12
  generalize W2.heap.size = B5 at *
  generalize hRBe : W0.heap.size = RB at *
  clear hRBe hW0 hRB
  go_wp2_with (fail)
  go_loopw [7] (fun iv wr => ∃ (i : Nat) (V : Value), iv = .int .i64 (i : Int) ∧ i ≤ ws.length ∧ GSt w w.heap.size RB B5 first (putWs (ws.drop i)) (ws.take i) V wr) (fun iv _ => ws.length - (intOf iv).toNat)
  case atStart => exact ⟨0, _, rfl, Nat.zero_le _, by rw [List.drop_zero, List.take_zero]; exact gs4⟩
  case round =>
    obtain ⟨i, V, rfl, hi0, gs⟩ := hrel
    by_cases hlt : i < ws.length
    · obtain ⟨⟨K, U, D⟩, hx⟩ : ∃ x, ws[i]? = some x := ⟨ws[i], List.getElem?_eq_getElem hlt⟩
      have hil : (i : Int) < (ws.length : Int) := by omega
      have d1 : decide ((i : Int) < (ws.length : Int)) = true := decide_eq_true hil
      obtain ⟨hk, hu⟩ := wrOk_of hx HOK.out
      simp only at hk hu
      have hpl := HPL.out (i + 1)
      have hkl := len_data' K
      have hul := len_data' U
      have hz1 := Lib.uvarint_length64 (x := U.size) (by omega)
      have CE := Lib.hid (fun s W h => err_any RB s 0 W h)
      have CB := Lib.hid (fun W h => rbool_at D RB (Lib.uvarint K.size ++ (K.data.toList ++ (Lib.uvarint U.size ++ (U.data.toList ++ putWs (ws.drop (i + 1)))))) W h)
      have CT1 := Lib.hid (fun W h => rtext_at K RB 300 (Lib.uvarint U.size ++ (U.data.toList ++ putWs (ws.drop (i + 1)))) W h (by omega) (by omega) (by rw [List.length_append, List.length_append]; omega))
      have CT2 := Lib.hid (fun W h => rtext_at U RB 60000 (putWs (ws.drop (i + 1))) W h (by omega) (by omega) (by omega))
      have gs' := gs
      rw [putWs_drop hx] at gs'
      simp only at gs'
      go_wp2_with (go_at_call 65; refine (CE.out _ _ gs.rd).mono ?_; rintro _ _ ⟨rfl, rfl⟩)
      go_at_call 66
      refine (CB.out _ gs'.rd).mono ?_
      rintro _ w1 ⟨rfl, rd1, g1⟩
      have gs1 := gs'.read g1 rd1 n1 n2 hR0
      clear gs gs' rd1 g1
      go_wp2_with (fail)
      go_at_call 67
      refine (CT1.out _ gs1.rd).mono ?_
      rintro _ w2 ⟨rfl, rd2, g2⟩
      have gs2 := gs1.read g2 rd2 n1 n2 hR0
      clear gs1 rd2 g2
      go_wp2_with (fail)
      go_at_call 67
      refine (CT2.out _ gs2.rd).mono ?_
      rintro _ w3 ⟨rfl, rd3, g3⟩
      have gs3 := gs2.read g3 rd3 n1 n2 hR0
      clear gs2 rd3 g3 CB CT1 CT2 CE
      have a1 : ∀ o, Below w3.heap.size w3 (w3.alloc o) := fun o => (Below.refl _ _).alloc (Nat.le_refl _) o
      have c5 := fun o => (gs3.below (a1 o)).b5.c1
      have GA := Lib.hid (fun o1 o2 => (gs3.below (a1 o1)).below ((Below.refl _ _).alloc (Nat.le_refl _) o2))
      have HSrc := Lib.hid (show ∀ w3 : World, Src Tryz.prog 3 23 (.slice (some ⟨w3.heap.size, 0, none⟩) 1 1) 1 [.string K, .string U, .bool D] (w3.alloc (.cells #[.string K, .string U, .bool D] 105)) from fun w3 => Src.ofSlice (P := Tryz.prog) _ (size := 3) Tryz.underlying23 ⟨w3.heap.size, 0, none⟩ 1 1 _ rfl (fun j u hu => by
        match j, hu with
        | 0, hu => simpa [Addr.add] using hu
        | 1, hu => simpa [Addr.add] using hu
        | 2, hu => simpa [Addr.add] using hu) (by simp [Value.oneCell']))
      have HSr2 := Lib.hid (show ∀ o, Src Tryz.prog 3 23 (.slice (some ⟨w3.heap.size + 1, 0, none⟩) 1 1) 1 [.string K, .string U, .bool D] ((w3.alloc o).alloc (.cells #[.string K, .string U, .bool D] 105)) from fun o => by
        have := HSrc.out (w3.alloc o)
        rw [show (w3.alloc o).heap.size = w3.heap.size + 1 by simp] at this
        exact this)
      have HB1 := Lib.hid (show (ws.take i).length + 1 ≤ maxLen by rw [List.length_take]; unfold maxLen; omega)
      have HB2 := Lib.hid (show ((ws.take i).length + 1) * 40 ≤ 140737488355328 by rw [List.length_take]; omega)
      go_wp2_with (first
        | (at_builtin; (refine wpList_append_row _ rfl _ _ 23 23 rfl 105 i0 _ 3 40 Tryz.underlying23 hi hz0 hzs hzb rfl V _ _ rfl (GA.out _ _).row _ rfl 1 _ (HSr2.out _) HB1.out HB2.out ?_); intro v' w5 hrow5 hgrow5 hob5; have bx5 := ((GA.out _ _).more (x := ⟨K, U, D⟩) hrow5 hgrow5 hob5 hw5 n3 (fun e => n2 e.symm)).2; have cx5 := bx5.c1; have fx5 := bx5.f1; obtain ⟨av, cv, rfl, -, -⟩ := hrow5.le)
        | fail)
      go_roundw
      case rel =>
        refine ⟨i + 1, .slice av (i + 1) cv, by go_num, by omega, ?_⟩
        have := ((GA.out _ _).more (x := ⟨K, U, D⟩) hrow5 hgrow5 hob5 hw5 n3 (fun e => n2 e.symm)).1
        rw [show (ws.take i).length = i by rw [List.length_take]; omega] at this
        rw [show ws.take (i + 1) = ws.take i ++ [⟨K, U, D⟩] by rw [List.take_add_one, hx]; rfl]
        exact this
      case measure => simp [intOf]; omega
    · obtain rfl : i = ws.length := by omega
      have CE := Lib.hid (fun s W h hs => end_ok RB s W h hs)
      rw [List.take_length, List.drop_length] at gs
      obtain ⟨a, cap, rfl, hwa⟩ := wrs_of_row gs.row
      have c50 := gs.b5.c0
      have c51 := gs.b5.c1
      have CA := Lib.hid (areRight_any a ws.length cap ws wr hwa (by omega) HSZ.out)
      rw [HOK.out] at CA
      have dS : decide (16777216 < (S.size : Int)) = false := by rw [decide_eq_false_iff_not]; omega
      have dS2 : decide (16777216 < S.size) = false := by rw [decide_eq_false_iff_not]; omega
      go_wp2_with (first
        | (go_at_call 68; refine (CE.out _ _ gs.rd (by rfl)).mono ?_; rintro _ _ ⟨rfl, rfl⟩)
        | (go_at_call 52; refine CA.out.mono ?_; rintro _ w6 ⟨rfl, b6⟩; have gs6 := gs.below b6; have x0 := gs6.b5.c0; have x1 := gs6.b5.c1; have y0 := gs6.r0.c0; have y1 := gs6.r0.c1; have y2 := gs6.r0.f0; have y3 := gs6.r0.f1)
        | fail)
      refine bodyPost_ret (by simp [results, Tryz.results14, go_sem, y0, y1]; try rfl) rfl ?_
      have st : ∀ k, k ≠ w.heap.size → ((w6.setCell ⟨w.heap.size, 0, none⟩ (.int .u64 (first : Int))).setCell ⟨w.heap.size, 1, none⟩ (.slice a ws.length cap)).heap[k]? = w6.heap[k]? := fun k hk =>
        (Below.heap_setCell _ ⟨w.heap.size, 1, none⟩ _ k hk).trans (Below.heap_setCell _ ⟨w.heap.size, 0, none⟩ _ k hk)
      obtain ⟨g', cap', e', ho', hw', hlt'⟩ := row_shape (gs6.row.kept (fun k hk => st k (gs6.own k hk).2.1)) (wrs_some HOK.out)
      have hgo := (gs6.own g' ho').1
      simp only [Value.slice.injEq] at e'
      obtain ⟨rfl, -, rfl⟩ := e'
      refine ⟨_, _, rfl, hw', ⟨hgo, hlt'⟩, ⟨gs6.bel.os, gs6.bel.tape, gs6.bel.output, by simpa using gs6.bel.size, fun k hk => ?_⟩⟩
      rw [st k (by omega)]
      exact gs6.bel.block k hk
end Go.Proofs.YtlgcbapgbpofoaaGreat
