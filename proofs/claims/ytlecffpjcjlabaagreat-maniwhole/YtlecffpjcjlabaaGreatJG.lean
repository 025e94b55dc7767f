/- edit's Put, walked. -/
import Derived.Test.YtlecffpjcjlabaaGreatJD
namespace Go.Proofs.YtlecffpjcjlabaaGreat
open Go.RowKit Go.Shelf

theorem BldF.lt {w0 w : World} {b : Nat} {acc : List UInt8} (h : BldF w0 b acc w) : b < w.heap.size := by
  have key : ∀ p, Lib.BuilderAtF 183 5 w0.heap.size b p (Lib.byteCells acc) w → b < w.heap.size := by
    rintro p ⟨-, v, hv, -⟩
    exact (Array.getElem?_eq_some_iff.1 hv).1
  exact h.1.elim (key _) (key _)
theorem putT_len (t : Tb) (h1 : t.Ok) (h2 : t.Short) : (putT t).length ≤ 18050 := by
  unfold putT
  unfold Tb.Ok at h1
  unfold Tb.Short at h2
  rw [List.length_append]
  have a := three_vars t.n.toNat t.lv.toNat t.sz.toNat (by omega) (by omega) (by omega)
  have b := two_texts t.f t.l h2.1 h2.2
  omega
theorem putTs_len : ∀ ts : List Tb, (∀ t ∈ ts, t.Ok ∧ t.Short) → (putTs ts).length ≤ ts.length * 18050
  | [], _ => by simp [putTs]
  | t :: ts, h => by
    have h1 := putTs_len ts (fun x hx => h x (List.mem_cons_of_mem _ hx))
    have h2 := putT_len t (h t (by simp)).1 (h t (by simp)).2
    have e : putTs (t :: ts) = putT t ++ putTs ts := by simp [putTs]
    rw [e, List.length_append, List.length_cons, Nat.add_mul]
    omega
theorem putI_len : ∀ ks : List Int, (∀ k ∈ ks, k ≤ 9223372036854775807) → (putI ks).length ≤ ks.length * 10
  | [], _ => by simp [putI]
  | k :: ks, h => by
    have h1 := putI_len ks (fun x hx => h x (List.mem_cons_of_mem _ hx))
    have h2 := one_vars k.toNat (by have := h k (by simp); omega)
    have e : putI (k :: ks) = vars [k.toNat] ++ putI ks := by simp [putI]
    rw [e, List.length_append, List.length_cons, Nat.add_mul]
    omega
/-- Is an edit within the language's bounds? -/
def Ed.Ok (e : Ed) : Prop := e.log ≤ 9223372036854775807 ∧ e.next ≤ 9223372036854775807 ∧ e.seq < 18446744073709551616 ∧ e.add.length ≤ 10000 ∧ e.drop.length ≤ 10000 ∧ (∀ t ∈ e.add, t.Ok ∧ t.Short) ∧ ∀ k ∈ e.drop, -9223372036854775808 ≤ k ∧ k ≤ 9223372036854775807
/-- What Put answers. -/
def PutV (e : Ed) : Value := if canB e then .tuple #[.string ⟨(putE e).toArray⟩, .int .i64 0] else .tuple #[.string ⟨#[]⟩, .int .i64 1]
theorem toArr (a b : List UInt8) : a ++ (⟨b.toArray⟩ : ByteArray).data.toList = a ++ b := by simp
theorem BldF.on {w0 w w' : World} {b : Nat} {acc : List UInt8} {o : Obj} (h : BldF w0 b acc w) (hb : Below (w.alloc o).heap.size (w.alloc o) w') : BldF w0 b acc w' :=
  h.below (((Below.refl _ _).alloc (Nat.le_refl _) o).trans (hb.mono (by simp)))
theorem BoxB.on {w w' : World} {n : Nat} {t : Tb} {o : Obj} (h : BoxB n t w) (hb : Below (w.alloc o).heap.size (w.alloc o) w') : BoxB n t w' :=
  h.below (((Below.refl _ _).alloc (Nat.le_refl _) o).trans (hb.mono (by simp)))
theorem writeL_any (w0 : World) (b : Nat) (acc l : List UInt8) (w : World) (h : BldF w0 b acc w) (hl : acc.length + l.length ≤ 140737488355328) :
    Calls Tryz.prog 153 #[.pointer (some ⟨b, 0, none⟩), .string ⟨l.toArray⟩] w fun e w' => ∃ z : Int, e = .returned (.tuple #[.int .i64 z, .nilIface]) ∧ BldF w0 b (acc ++ l) w' ∧ Lib.OthersKept 5 (some b) w w' := by
  refine (writeF_any w0 b acc ⟨l.toArray⟩ w h (by rw [ba_size]; exact hl)).mono ?_
  rintro _ w' ⟨rfl, h1, h2⟩
  rw [toArr] at h1
  exact ⟨_, rfl, h1, h2⟩
set_option maxHeartbeats 8000000 in
set_option maxRecDepth 100000 in
theorem put_any (e : Ed) (va vd : Value) (w : World) (hA : TbsV w va e.add) (hD : IntsV w vd e.drop) (he : e.Ok) :
    Calls Tryz.prog 40 #[ediV e.log e.next e.seq va vd] w fun x w' => x = .returned (PutV e) ∧ Below w.heap.size w w' := by
  obtain ⟨log, next, seq, add, drop⟩ := e
  obtain ⟨hk1, hk2, hk3, hl1, hl2, hk4, hk5⟩ := he
  simp only at hA hD hk1 hk2 hk3 hl1 hl2 hk4 hk5 ⊢
  obtain ⟨aa, ac, rfl⟩ := hA.len
  obtain ⟨da, dc, rfl⟩ := hD.len
  obtain ⟨W1, hW1⟩ : ∃ W1, w.alloc (.cells #[.int .i64 log, .int .i64 next, .int .u64 (seq : Int), .slice aa add.length ac, .slice da drop.length dc] 52) = W1 := ⟨_, rfl⟩
  have b1 : Below w.heap.size w W1 := by rw [← hW1]; exact (Below.refl _ _).alloc (Nat.le_refl _) _
  have y1 : BoxEd w.heap.size log next seq (.slice aa add.length ac) (.slice da drop.length dc) W1 := by rw [← hW1]; exact new_block _ _ rfl
  have c0 := y1.c0
  have c1 := y1.c1
  have c2 := y1.c2
  have c3 := y1.c3
  have c4 := y1.c4
  have HA := Lib.hid (hA.below b1)
  have HD := Lib.hid (hD.below b1)
  have HB1 := Lib.hid b1
  have HY1 := Lib.hid y1
  have C1 := Lib.hid (canLay_any ⟨log, next, seq, add, drop⟩ _ _ W1 (hA.below b1) (hD.below b1) hl1 hl2)
  unfold ediV at *
  simp only at C1
  have HK4 := Lib.hid hk4
  have HK5 := Lib.hid hk5
  clear hA hD b1 y1 hk4 hk5
  go_enter Tryz.func40, Tryz.ntmps40
  go_wp2_with fail
  try rw [hW1]
  clear hW1 c0 c1 c2 c3 c4
  go_at_call 152
  (with_reducible refine C1.out.mono ?_)
  rintro _ w2 ⟨rfl, hb2⟩
  have HB2 := Lib.hid (HB1.out.trans (hb2.mono HB1.out.size))
  cases hcan : canB ⟨log, next, seq, add, drop⟩ with
  | false =>
    have HPV := Lib.hid (show PutV ⟨log, next, seq, add, drop⟩ = .tuple #[.string ⟨#[]⟩, .int .i64 1] by unfold PutV; rw [hcan]; rfl)
    clear hcan C1
    go_wp2
    refine bodyPost_ret (results_tmp2 rfl _ _ _) rfl ?_
    exact ⟨congrArg Ending.returned HPV.out.symm, HB2.out⟩
  | true =>
    have HPV := Lib.hid (show PutV ⟨log, next, seq, add, drop⟩ = .tuple #[.string ⟨(putE ⟨log, next, seq, add, drop⟩).toArray⟩, .int .i64 0] by unfold PutV; rw [hcan]; rfl)
    unfold canB at hcan
    rw [Bool.and_eq_true, Bool.and_eq_true, decide_eq_true_iff, List.all_eq_true, List.all_eq_true] at hcan
    obtain ⟨⟨hp1, hp2⟩, hp3, hp4⟩ := hcan
    simp only at hp1 hp2
    obtain ⟨lg, rfl⟩ : ∃ n : Nat, log = (n : Int) := ⟨log.toNat, by omega⟩
    obtain ⟨nx, rfl⟩ : ∃ n : Nat, next = (n : Int) := ⟨next.toNat, by omega⟩
    have HP3 := Lib.hid hp3
    have HP4 := Lib.hid hp4
    have y2 := HY1.out.below hb2
    have HY2 := Lib.hid y2
    have HA2 := Lib.hid (HA.out.below hb2)
    have HD2 := Lib.hid (HD.out.below hb2)
    have hwl : IntKind.u64.wrap (lg : Int) = (lg : Int) := by rw [IntKind.wrap_u64]; omega
    have hwn : IntKind.u64.wrap (nx : Int) = (nx : Int) := by rw [IntKind.wrap_u64]; omega
    have hwa : IntKind.u64.wrap (add.length : Int) = (add.length : Int) := by rw [IntKind.wrap_u64]; omega
    have hwd : IntKind.u64.wrap (drop.length : Int) = (drop.length : Int) := by rw [IntKind.wrap_u64]; omega
    have hbf := freshF w2
    obtain ⟨W3, hW3⟩ : ∃ W3, w2.alloc (Obj.cells #[Value.pointer none, Value.slice none 0 0] 183) = W3 := ⟨_, rfl⟩
    rw [hW3] at hbf
    have y3 := y2.below hbf.2
    have c0 := y3.c0
    have c1 := y3.c1
    have c2 := y3.c2
    have HY3 := Lib.hid y3
    have HBF := Lib.hid hbf
    clear y2 y3 hp1 hp2 hp3 hp4 hbf C1
    go_wp2_with fail
    try rw [hW3]
    clear hW3
    go_at_call 154
    (with_reducible refine (var3_any lg nx seq W3.heap.size _ (by omega) (by omega) hk3 (nce rfl rfl) (nce rfl rfl) (nce rfl rfl)).mono ?_)
    rintro _ w4 ⟨rfl, hb4⟩
    have hv3 := three_vars lg nx seq (by omega) (by omega) hk3
    have hbf4 := HBF.out.on hb4
    have C5 := Lib.hid (writeL_any w2 w2.heap.size [] (vars [lg, nx, seq]) w4 hbf4 (by simp; omega))
    rw [List.nil_append] at C5
    clear hb4 hbf4 c0 c1 c2
    go_wp2_with fail
    go_at_call 153
    (with_reducible refine C5.out.mono ?_)
    rintro _ w5 ⟨zz5, rfl, hbf5, -⟩
    have y5 := HY2.out.below hbf5.2
    have c3 := y5.c3
    have HBF5 := Lib.hid hbf5
    clear C5 hbf5 y5
    go_wp2_with fail
    go_at_call 154
    (with_reducible refine (var1_any add.length w5.heap.size _ (by omega) (nce rfl rfl)).mono ?_)
    rintro _ w6 ⟨rfl, hb6⟩
    have hva := one_vars add.length (by omega)
    have hbf6 := HBF5.out.on hb6
    have C7 := Lib.hid (writeL_any w2 w2.heap.size (vars [lg, nx, seq]) (vars [add.length]) w6 hbf6 (by omega))
    clear hb6 hbf6 c3
    go_wp2_with fail
    go_at_call 153
    (with_reducible refine C7.out.mono ?_)
    rintro _ w7 ⟨zz7, rfl, hbf7, -⟩
    have y7 := HY2.out.below hbf7.2
    have c3 := y7.c3
    obtain ⟨acc1, hacc1⟩ : ∃ a, vars [lg, nx, seq] ++ vars [add.length] = a := ⟨_, rfl⟩
    have hal1 : acc1.length ≤ 40 := by rw [← hacc1, List.length_append]; omega
    rw [hacc1] at hbf7
    have HAC1 := Lib.hid hacc1
    have HBF7 := Lib.hid hbf7
    clear C7 hbf7 y7 hacc1
    go_wp2_with fail
    go_loopw [33] (fun iv wr => ∃ (i : Nat), iv = .int .i64 (i : Int) ∧ i ≤ add.length ∧ Hid (BldF w2 w2.heap.size (acc1 ++ putTs (add.take i)) wr)) (fun iv _ => add.length - (intOf iv).toNat)
    case atStart => exact ⟨0, rfl, Nat.zero_le _, Lib.hid (by rw [List.take_zero]; simpa [putTs] using HBF7.out)⟩
    case round =>
      obtain ⟨i, rfl, hi, HB⟩ := hrel
      by_cases hlt : i < add.length
      · obtain ⟨b, off, rfl, hblt, hcell⟩ := (HA2.out.below HB.out.2).at hlt
        have hmem : tabAt add i ∈ add := by rw [tabAt_get hlt]; exact List.getElem_mem _
        have HKX := Lib.hid (HK4.out (tabAt add i) hmem)
        have HPX := Lib.hid (of_decide_eq_true (HP3.out (tabAt add i) hmem))
        have HTK := Lib.hid (show putTs (add.take (i + 1)) = putTs (add.take i) ++ putT (tabAt add i) by rw [take_snocT hlt, putTs_snoc])
        have hpl : (putTs (add.take i)).length ≤ 200000000 := by
          have h1 := putTs_len (add.take i) (fun t ht => HK4.out t (List.mem_of_mem_take ht))
          rw [List.length_take] at h1
          have : min i add.length * 18050 ≤ 10000 * 18050 := Nat.mul_le_mul_right _ (by omega)
          omega
        generalize tabAt add i = x at *
        obtain ⟨n1, l1, z1, f1, g1⟩ := x
        simp only at HPX
        obtain ⟨n2, rfl⟩ : ∃ n : Nat, n1 = (n : Int) := ⟨n1.toNat, by have := HPX.out; omega⟩
        obtain ⟨l2, rfl⟩ : ∃ n : Nat, l1 = (n : Int) := ⟨l1.toNat, by have := HPX.out; omega⟩
        obtain ⟨z2, rfl⟩ : ∃ n : Nat, z1 = (n : Int) := ⟨z1.toNat, by have := HPX.out; omega⟩
        have hks := HKX.out
        unfold Tb.Ok Tb.Short at hks
        simp only at hks
        have hn2 : n2 < 18446744073709551616 := by omega
        have hl2' : l2 < 18446744073709551616 := by omega
        have hz2 : z2 < 18446744073709551616 := by omega
        have hf2 : f1.size ≤ 9000 := by omega
        have hg2 : g1.size ≤ 9000 := by omega
        clear hks hmem
        have hw1 : IntKind.u64.wrap (n2 : Int) = (n2 : Int) := by rw [IntKind.wrap_u64]; omega
        have hw2 : IntKind.u64.wrap (l2 : Int) = (l2 : Int) := by rw [IntKind.wrap_u64]; omega
        have hw3 : IntKind.u64.wrap (z2 : Int) = (z2 : Int) := by rw [IntKind.wrap_u64]; omega
        have q0 : wr.cell? ⟨b, off + i * 5, none⟩ = some (.int .i64 (n2 : Int)) := hcell 0 _ rfl
        have q1 : wr.cell? ⟨b, off + i * 5 + 1, none⟩ = some (.int .i64 (l2 : Int)) := hcell 1 _ rfl
        have q2 : wr.cell? ⟨b, off + i * 5 + 2, none⟩ = some (.int .i64 (z2 : Int)) := hcell 2 _ rfl
        have q3 : wr.cell? ⟨b, off + i * 5 + 3, none⟩ = some (.string f1) := hcell 3 _ rfl
        have q4 : wr.cell? ⟨b, off + i * 5 + 4, none⟩ = some (.string g1) := hcell 4 _ rfl
        have hiI : (i : Int) < (add.length : Int) := by omega
        obtain ⟨W8, hW8⟩ : ∃ W8, wr.alloc (.cells #[.int .i64 (n2 : Int), .int .i64 (l2 : Int), .int .i64 (z2 : Int), .string f1, .string g1] 89) = W8 := ⟨_, rfl⟩
        have b8 : Below wr.heap.size wr W8 := by rw [← hW8]; exact (Below.refl _ _).alloc (Nat.le_refl _) _
        have x8 : BoxB wr.heap.size ⟨n2, l2, z2, f1, g1⟩ W8 := by rw [← hW8]; exact new_block _ _ rfl
        have k0 := x8.c0
        have k1 := x8.c1
        have k2 := x8.c2
        simp only at k0 k1 k2
        have HX8 := Lib.hid x8
        have HB8 := Lib.hid (HB.out.below b8)
        have hnb : wr.heap.size ≠ w2.heap.size := by have := HB.out.lt; omega
        clear hcell b8 x8
        go_wp2_with fail
        try rw [hW8]
        clear hW8 q0 q1 q2 q3 q4
        go_at_call 154
        (with_reducible refine (var3_any n2 l2 z2 W8.heap.size _ hn2 hl2' hz2 (nce rfl rfl) (nce rfl rfl) (nce rfl rfl)).mono ?_)
        rintro _ w9 ⟨rfl, hb9⟩
        have hv9 := three_vars n2 l2 z2 hn2 hl2' hz2
        have hbf9 := HB8.out.on hb9
        have x9 := HX8.out.on hb9
        have C9 := Lib.hid (writeL_any w2 w2.heap.size (acc1 ++ putTs (add.take i)) (vars [n2, l2, z2]) w9 hbf9 (by rw [List.length_append]; omega))
        have HX9 := Lib.hid x9
        clear hb9 hbf9 k0 k1 k2 x9
        go_wp2_with fail
        go_at_call 153
        (with_reducible refine C9.out.mono ?_)
        rintro _ w10 ⟨zz10, rfl, hbf10, hoth⟩
        have x10 := HX9.out.kept hoth hnb
        have k3 := x10.c3
        have k4 := x10.c4
        simp only at k3 k4
        have HBF10 := Lib.hid hbf10
        clear C9 hbf10 hoth x10
        go_wp2_with fail
        go_at_call 155
        (with_reducible refine (text2_any f1 g1 w10.heap.size _ (by omega) (by omega) (nce rfl rfl) (nce rfl rfl)).mono ?_)
        rintro _ w11 ⟨rfl, hb11⟩
        have hv11 := two_texts f1 g1 hf2 hg2
        have hbf11 := HBF10.out.on hb11
        have C11 := Lib.hid (writeL_any w2 w2.heap.size (acc1 ++ putTs (add.take i) ++ vars [n2, l2, z2]) (ntexts [f1, g1]) w11 hbf11 (by rw [List.length_append, List.length_append]; omega))
        clear hb11 hbf11 k3 k4
        go_wp2_with fail
        go_at_call 153
        (with_reducible refine C11.out.mono ?_)
        rintro _ w12 ⟨zz12, rfl, hbf12, -⟩
        have HBF12 := Lib.hid (show BldF w2 w2.heap.size (acc1 ++ putTs (add.take (i + 1))) w12 by
          rw [HTK.out, ← List.append_assoc]
          unfold putT
          simp only [Int.toNat_natCast]
          rw [← List.append_assoc]
          exact hbf12)
        clear C11 hbf12
        go_wp2_with fail
        go_roundw
        case rel => exact ⟨i + 1, by go_num, by omega, HBF12⟩
        case measure => simp [intOf]; omega
      · obtain rfl : i = add.length := by omega
        have d3 : decide ((add.length : Int) < (add.length : Int)) = false := by simp
        have y8 := HY2.out.below HB.out.2
        have c4 := y8.c4
        obtain ⟨acc2, hacc2⟩ : ∃ a, acc1 ++ putTs add = a := ⟨_, rfl⟩
        have hal2 : acc2.length ≤ 200000000 := by
          have h1 := putTs_len add (fun t ht => HK4.out t ht)
          have : add.length * 18050 ≤ 10000 * 18050 := Nat.mul_le_mul_right _ hl1
          rw [← hacc2, List.length_append]
          omega
        have HB2' := Lib.hid (show BldF w2 w2.heap.size acc2 wr by have h := HB.out; rwa [List.take_length, hacc2] at h)
        have HAC2 := Lib.hid hacc2
        clear HB y8 hacc2
        go_wp2_with fail
        go_at_call 154
        (with_reducible refine (var1_any drop.length wr.heap.size _ (by omega) (nce rfl rfl)).mono ?_)
        rintro _ w13 ⟨rfl, hb13⟩
        have hvd := one_vars drop.length (by omega)
        have hbf13 := HB2'.out.on hb13
        have C13 := Lib.hid (writeL_any w2 w2.heap.size acc2 (vars [drop.length]) w13 hbf13 (by omega))
        clear hb13 hbf13 c4
        go_wp2_with fail
        go_at_call 153
        (with_reducible refine C13.out.mono ?_)
        rintro _ w14 ⟨zz14, rfl, hbf14, -⟩
        have y14 := HY2.out.below hbf14.2
        have c4 := y14.c4
        obtain ⟨acc3, hacc3⟩ : ∃ a, acc2 ++ vars [drop.length] = a := ⟨_, rfl⟩
        have hal3 : acc3.length ≤ 200000010 := by rw [← hacc3, List.length_append]; omega
        rw [hacc3] at hbf14
        have HAC3 := Lib.hid hacc3
        have HBF14 := Lib.hid hbf14
        clear C13 hbf14 y14 hacc3
        go_wp2_with fail
        go_loopw [67] (fun iv wr => ∃ (i : Nat), iv = .int .i64 (i : Int) ∧ i ≤ drop.length ∧ Hid (BldF w2 w2.heap.size (acc3 ++ putI (drop.take i)) wr)) (fun iv _ => drop.length - (intOf iv).toNat)
        case atStart => exact ⟨0, rfl, Nat.zero_le _, Lib.hid (by rw [List.take_zero]; simpa [putI] using HBF14.out)⟩
        case round =>
          obtain ⟨i, rfl, hi, HB⟩ := hrel
          by_cases hlt : i < drop.length
          · obtain ⟨b, off, rfl, hblt, hcell⟩ := (HD2.out.below HB.out.2).at hlt
            have hmem : intAt drop i ∈ drop := by rw [intAt_get hlt]; exact List.getElem_mem _
            have hkx := HK5.out (intAt drop i) hmem
            have hpx := of_decide_eq_true (HP4.out (intAt drop i) hmem)
            have HTK := Lib.hid (show putI (drop.take (i + 1)) = putI (drop.take i) ++ vars [(intAt drop i).toNat] by rw [take_snocI hlt, putI_snoc])
            have hpl : (putI (drop.take i)).length ≤ 100000 := by
              have h1 := putI_len (drop.take i) (fun t ht => (HK5.out t (List.mem_of_mem_take ht)).2)
              rw [List.length_take] at h1
              have : min i drop.length * 10 ≤ 10000 * 10 := Nat.mul_le_mul_right _ (by omega)
              omega
            generalize intAt drop i = x at *
            obtain ⟨n2, rfl⟩ : ∃ n : Nat, x = (n : Int) := ⟨x.toNat, by omega⟩
            have hn2 : n2 < 18446744073709551616 := by omega
            have hw1 : IntKind.u64.wrap (n2 : Int) = (n2 : Int) := by rw [IntKind.wrap_u64]; omega
            have hiI : (i : Int) < (drop.length : Int) := by omega
            clear hkx hpx hmem
            go_wp2_with fail
            go_at_call 154
            (with_reducible refine (var1_any n2 wr.heap.size _ hn2 (nce rfl rfl)).mono ?_)
            rintro _ w15 ⟨rfl, hb15⟩
            have hv15 := one_vars n2 hn2
            have hbf15 := HB.out.on hb15
            have C15 := Lib.hid (writeL_any w2 w2.heap.size (acc3 ++ putI (drop.take i)) (vars [n2]) w15 hbf15 (by rw [List.length_append]; omega))
            clear hb15 hbf15 hcell
            go_wp2_with fail
            go_at_call 153
            (with_reducible refine C15.out.mono ?_)
            rintro _ w16 ⟨zz16, rfl, hbf16, -⟩
            have HBF16 := Lib.hid (show BldF w2 w2.heap.size (acc3 ++ putI (drop.take (i + 1))) w16 by
              rw [HTK.out, ← List.append_assoc]
              simp only [Int.toNat_natCast]
              exact hbf16)
            clear C15 hbf16
            go_wp2_with fail
            go_roundw
            case rel => exact ⟨i + 1, by go_num, by omega, HBF16⟩
            case measure => simp [intOf]; omega
          · obtain rfl : i = drop.length := by omega
            have d4 : decide ((drop.length : Int) < (drop.length : Int)) = false := by simp
            have CS := Lib.hid (stringF_any w2 w2.heap.size (acc3 ++ putI (drop.take drop.length)) wr HB.out)
            have HEQ := Lib.hid (show acc3 ++ putI (drop.take drop.length) = putE ⟨lg, nx, seq, add, drop⟩ by
              rw [List.take_length, ← HAC3.out, ← HAC2.out, ← HAC1.out]
              unfold putE
              simp only [Int.toNat_natCast, List.append_assoc])
            rw [HEQ.out] at CS
            go_wp2_with fail
            go_at_call 156
            (with_reducible refine CS.out.mono ?_)
            rintro _ w17 ⟨rfl, hb17⟩
            go_wp2_with fail
            refine bodyPost_ret (results_tmp2 rfl _ _ _) rfl ?_
            exact ⟨congrArg Ending.returned HPV.out.symm, HB2.out.trans (hb17.mono HB2.out.size)⟩
end Go.Proofs.YtlecffpjcjlabaaGreat
