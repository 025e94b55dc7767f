/- edit's readList, at tables and at ints. -/
import Derived.Test.YtlecffpjcjlabaaGreatJI
namespace Go.Proofs.YtlecffpjcjlabaaGreat
open Go.RowKit Go.Shelf

def cellsN (ks : List Int) : List Value := ks.map fun k => .int .i64 k
theorem cellsN_append (a b : List Int) : cellsN (a ++ b) = cellsN a ++ cellsN b := by simp [cellsN]
/-- A row of ints of a call's own. -/
def RowN (w : World) (v : Value) (ks : List Int) : Prop := Row w 3 1 v ks.length (cellsN ks)
theorem RowN.short {w : World} {v : Value} {ks : List Int} (h : RowN w v ks) : ∃ a cap, v = .slice a ks.length cap := by
  obtain ⟨a, cap, e, -, -⟩ := Row.le h
  exact ⟨a, cap, e⟩
theorem row_nilN (w : World) : RowN w (.slice none 0 0) [] := row_nil _ _ _
theorem infoIntN : (Tryz.prog.info? 3).map (fun i => (i.zero, i.size, i.bytes)) = some (some (.int .i64 0), 1, 8) := by kernel_rfl
theorem RowN.v {w : World} {v : Value} {ks : List Int} (h : RowN w v ks) : IntsV w v ks := by
  rcases h.2 with ⟨h0, rfl | ⟨b, o, rfl⟩⟩ | ⟨g, cap, cur, rfl, hg, -⟩
  · exact .inl ⟨rfl, List.eq_nil_of_length_eq_zero h0⟩
  · refine .inr ⟨_, 0, by rw [h0], fun j hj => ?_⟩
    omega
  · refine .inr ⟨_, _, rfl, fun j hj => ?_⟩
    rw [add_plainT]
    exact Row.cell h g 0 _ rfl j _ (by simp [cellsN, List.getElem?_eq_getElem hj])
theorem rdC_zero {most : Int} {l : List UInt8} {e : Int} (h : (rdC most l e).2.2 ≠ 0) : (rdC most l e).1 = 0 := by
  by_cases he : e = 0
  · subst he
    rcases decC_cases most l with ⟨v, r, hc, -⟩ | ⟨e, he, hv⟩
    · rw [rdC_ok hc] at h; exact absurd rfl h
    · rw [rdC_bad hv he]
  · rw [rdC_err he]
/-- Ints and tables, read one behind the other. -/
def rdTs : Nat → List Tb → List UInt8 → List Tb × List UInt8 × Int
  | 0, acc, l => (acc, l, 0)
  | n + 1, acc, l => if (rdTb l 0).2.2 ≠ 0 then ([], (rdTb l 0).2.1, (rdTb l 0).2.2) else rdTs n (acc ++ [(rdTb l 0).1]) (rdTb l 0).2.1
def rdLT (l : List UInt8) (e : Int) : List Tb × List UInt8 × Int := if (rdC 10000 l e).2.2 ≠ 0 then ([], (rdC 10000 l e).2.1, (rdC 10000 l e).2.2) else rdTs (rdC 10000 l e).1 [] (rdC 10000 l e).2.1
def rdIs : Nat → List Int → List UInt8 → List Int × List UInt8 × Int
  | 0, acc, l => (acc, l, 0)
  | n + 1, acc, l => if (rdI l 0).2.2 ≠ 0 then ([], (rdI l 0).2.1, (rdI l 0).2.2) else rdIs n (acc ++ [((rdI l 0).1 : Int)]) (rdI l 0).2.1
def rdLI (l : List UInt8) (e : Int) : List Int × List UInt8 × Int := if (rdC 10000 l e).2.2 ≠ 0 then ([], (rdC 10000 l e).2.1, (rdC 10000 l e).2.2) else rdIs (rdC 10000 l e).1 [] (rdC 10000 l e).2.1
theorem Rdr.turn {w w' : World} {b : Nat} {F : List Nat} {l : List UInt8} {e : Int} (h : Rdr w b l e) (ht : Turn F w w') (hF : b ∉ F) : Rdr w' b l e := by
  obtain ⟨s, hr, hl, hs⟩ := h
  have hb := ht.block b hr.lt hF
  exact ⟨s, ⟨(World.cell?_of_block hb).trans hr.c0, (World.cell?_of_block hb).trans hr.c1, (World.frozen?_of_block hb).trans hr.f0, (World.frozen?_of_block hb).trans hr.f1⟩, hl, hs⟩
theorem turn_own {B : List Nat} {w a c : World} {v : Value} (h : Turn B w a) (hg : a.grownBy c (ob v)) (ho : ∀ k, ob v = some k → w.heap.size ≤ k) : Turn B w c :=
  h.trans (turn_of_grown (F := (ob v).toList) hg (fun k hk => .inl (by rw [hk]; simp))) (fun x hx => .inr (ho x (by simpa using hx)))
set_option maxHeartbeats 8000000 in
set_option maxRecDepth 100000 in
theorem readTs_any {w : World} {b : Nat} {l : List UInt8} {e : Int} (h : Rdr w b l e) :
    Calls Tryz.prog 287 #[.pointer (some ⟨b, 0, none⟩), .func (.func 288) #[] #[]] w fun x w' => ∃ v, x = .returned v ∧ RowB w' v (rdLT l e).1 ∧ (∀ k, ob v = some k → w.heap.size ≤ k) ∧ Rdr w' b (rdLT l e).2.1 (rdLT l e).2.2 ∧ Turn [b] w w' := by
  have hbw := h.lt
  have hfn : ∀ (args : Array Value) (w : World), (callFunc 288 args).run Tryz.prog w = .ok (.enter 288 args) w := fun args w => by kernel_rfl
  have C1 := Lib.hid (pr_count 10000 (by omega) h)
  have HZ := Lib.hid (rdC_zero (most := 10000) (l := l) (e := e))
  have hle := rdC_le (most := 10000) l e (by omega)
  obtain ⟨i0, hi0, hz0, hzs, hzb⟩ := info_partsT infoTab
  unfold rdLT
  generalize rdC 10000 l e = R at *
  obtain ⟨n, l0, e0⟩ := R
  simp only at C1 HZ hle ⊢
  obtain ⟨RES, hRES⟩ : ∃ r, (if e0 ≠ 0 then (([], l0, e0) : List Tb × List UInt8 × Int) else rdTs n [] l0) = r := ⟨_, rfl⟩
  rw [hRES]
  have HRES := Lib.hid hRES
  clear h hRES
  go_enter Tryz.func287, Tryz.ntmps287
  go_wp2_with fail
  go_at_call 306
  (with_reducible refine C1.out.mono ?_)
  rintro _ w1 ⟨rfl, r1, g1⟩
  have T1 : Turn [b] w w1 := turn_of_grown g1 (fun k hk => .inl (by cases hk; simp))
  have HR1 := Lib.hid r1
  have HT1 := Lib.hid T1
  clear C1 r1 g1 T1
  by_cases he : e0 = 0
  case neg =>
    obtain rfl : n = 0 := HZ.out he
    obtain rfl : RES = ([], l0, e0) := by rw [← HRES.out, if_pos he]
    clear he HRES
    have d0 : decide (((0 : Nat) : Int) < ((0 : Nat) : Int)) = false := by simp
    go_wp2_with fail
    refine wp_loop_rounds 1 ?_
    rw [rounds_succ]
    go_wp2_with fail
    go_ret
    exact ⟨_, rfl, row_nilB _, by simp [ob], HR1.out, HT1.out⟩
  case pos =>
    subst he
    obtain rfl : RES = rdTs n [] l0 := by rw [← HRES.out, if_neg (by simp)]
    clear HRES
    go_wp2_with fail
    go_loopw [5, 8] (fun ov iv wr => ∃ (i : Nat) (V : Value) (acc : List Tb) (l1 : List UInt8), V = ov ∧ iv = .int .i64 (i : Int) ∧ i ≤ n ∧ Hid (RowB wr V acc ∧ acc.length = i ∧ ∀ k, ob V = some k → w.heap.size ≤ k) ∧ Hid (Rdr wr b l1 0 ∧ rdTs (n - i) acc l1 = rdTs n [] l0) ∧ Hid (Turn [b] w wr)) (fun _ iv _ => n - (intOf iv).toNat)
    case atStart => exact ⟨0, _, [], l0, rfl, rfl, Nat.zero_le _, Lib.hid ⟨row_nilB _, rfl, by simp [ob]⟩, Lib.hid ⟨HR1.out, by rw [Nat.sub_zero]⟩, HT1⟩
    case round =>
      obtain ⟨i, V, acc, l1, rfl, rfl, hi, HV, HR, HT⟩ := hrel
      by_cases hlt : i < n
      · have hiI : (i : Int) < (n : Int) := by omega
        have C2 := Lib.hid (readTable_any HR.out.1)
        have HQ := Lib.hid (show (if (rdTb l1 0).2.2 ≠ 0 then ([], (rdTb l1 0).2.1, (rdTb l1 0).2.2) else rdTs (n - (i + 1)) (acc ++ [(rdTb l1 0).1]) (rdTb l1 0).2.1) = rdTs n [] l0 by
          rw [← HR.out.2, show n - i = (n - (i + 1)) + 1 by omega]
          rfl)
        generalize rdTb l1 0 = Q at *
        obtain ⟨⟨n1, m1, z1, f1, g1⟩, l2, e2⟩ := Q
        unfold Tb.val at C2
        simp only at C2 HQ
        obtain ⟨va, vc, rfl⟩ := HV.out.1.short
        obtain ⟨m, hm⟩ : ∃ m, acc.length = m := ⟨_, rfl⟩
        have hmi : m ≤ 10000 := by rw [← hm, HV.out.2.1]; omega
        have HM := Lib.hid hm
        rw [hm] at HV ⊢
        clear hm
        go_wp2_with fail
        go_at_call 288
        (with_reducible refine C2.out.mono ?_)
        rintro _ w2 ⟨rfl, r2, t2⟩
        skip
        have HT2 := Lib.hid (HT.out.trans t2 (fun x hx => .inl hx))
        have HV2 := Lib.hid (show RowB w2 (.slice va m vc) acc from Row.kept HV.out.1 (fun k hk => t2.block k (Row.lt HV.out.1 k hk) (fun hm => by have h1 := HV.out.2.2 k hk; simp at hm; omega)))
        obtain ⟨W3, hW3⟩ : ∃ W3, w2.alloc (.cells #[.int .i64 n1, .int .i64 m1, .int .i64 z1, .string f1, .string g1] 89) = W3 := ⟨_, rfl⟩
        have b3 : Below w2.heap.size w2 W3 := by rw [← hW3]; exact (Below.refl _ _).alloc (Nat.le_refl _) _
        have HV3 := Lib.hid (show RowB W3 (.slice va m vc) acc from Row.kept HV2.out (fun k hk => b3.block k (Row.lt HV2.out k hk)))
        have HR3 := Lib.hid (r2.below b3 r2.lt)
        have HT3 := Lib.hid (HT2.out.trans (turn_of_below (F := []) b3) (by simp))
        have HS := Lib.hid (show Src Tryz.prog 5 49 (.slice (some ⟨w2.heap.size, 0, none⟩) 1 1) 1 (cellsT [(⟨n1, m1, z1, f1, g1⟩ : Tb)]) W3 from Src.ofSlice (P := Tryz.prog) W3 (size := 5) Tryz.underlying49 ⟨w2.heap.size, 0, none⟩ 1 1 _ rfl (fun j u hu => by
          rw [add_plainT, Nat.zero_add, ← hW3]
          refine nce rfl ?_
          simpa [cellsT, Tb.cells] using hu) (by intro u hu; simp [cellsT, Tb.cells] at hu; rcases hu with rfl | rfl | rfl | rfl | rfl <;> rfl))
        have HMM := Lib.hid HM.out
        have HV3R := Lib.hid (show Row W3 89 5 (.slice va m vc) m (cellsT acc) by have h := HV3.out; unfold RowB at h; rw [HMM.out] at h; exact h)
        have H1 := Lib.hid (show m + 1 ≤ maxLen by unfold maxLen; omega)
        have H2 := Lib.hid (show (m + 1) * 56 ≤ 140737488355328 by omega)
        have HW3 := Lib.hid hW3
        have HO := Lib.hid HV.out.2.2
        have HOB := Lib.hid (show ob (.slice va m vc) ≠ some b from fun e => by have := HO.out b e; omega)
        clear r2 t2 hW3 b3 C2
        go_wp2_with (at_builtin; rw [HW3.out]; refine wpList_append_row _ rfl _ _ 49 49 rfl 89 i0 _ 5 56 Tryz.underlying49 hi0 hz0 hzs hzb rfl (.slice va m vc) m _ rfl HV3R.out _ rfl 1 _ HS.out H1.out H2.out ?_; intro v4 w4 hrow4 hgrow4 hob4)
        have t4 : Turn [b] w w4 := turn_own HT3.out hgrow4 HO.out
        have t34 : Turn (ob (.slice va m vc)).toList W3 w4 := turn_of_grown hgrow4 (fun k hk => .inl (by rw [hk]; simp))
        have r4 := HR3.out.turn t34 (fun h => HOB.out (by simpa using h))
        have C5 := Lib.hid (pr_err r4)
        have HR4 := Lib.hid r4
        have HT4 := Lib.hid t4
        have HV4 := Lib.hid (show RowB w4 v4 (acc ++ [(⟨n1, m1, z1, f1, g1⟩ : Tb)]) ∧ (acc ++ [(⟨n1, m1, z1, f1, g1⟩ : Tb)]).length = i + 1 ∧ ∀ k, ob v4 = some k → w.heap.size ≤ k from ⟨by
            unfold RowB
            rw [List.length_append, HMM.out, cellsT_append]
            exact hrow4, by rw [List.length_append, HMM.out, HV.out.2.1]; rfl, fun k hk => by
            rcases hob4 with q | ⟨q, -⟩
            · exact HO.out k (by rw [← q]; exact hk)
            · rw [q] at hk; cases hk
              have := HT3.out.size
              exact this⟩)
        clear hrow4 hgrow4 hob4 t4 t34 r4
        go_wp2_with fail
        go_at_call 303
        (with_reducible refine C5.out.mono ?_)
        rintro _ w5 ⟨rfl, rfl⟩
        by_cases he2 : e2 = 0
        · subst he2
          have HQ2 := Lib.hid (show rdTs (n - (i + 1)) (acc ++ [(⟨n1, m1, z1, f1, g1⟩ : Tb)]) l2 = rdTs n [] l0 by have h := HQ.out; rwa [if_neg (by simp)] at h)
          clear C5
          go_wp2_with fail
          go_roundw
          case rel => exact ⟨i + 1, v4, acc ++ [(⟨n1, m1, z1, f1, g1⟩ : Tb)], l2, rfl, by go_num, by omega, HV4, Lib.hid ⟨HR4.out, HQ2.out⟩, HT4⟩
          case measure => simp [intOf]; omega
        · have d2 : (e2 != 0) = true := by simpa using he2
          have HQ2 := Lib.hid (show rdTs n [] l0 = ([], l2, e2) by have h := HQ.out; rw [if_pos he2] at h; exact h.symm)
          clear he2 C5
          go_wp2_with fail
          go_ret
          rw [HQ2.out]
          exact ⟨_, rfl, row_nilB _, by simp [ob], HR4.out, HT4.out⟩
      · obtain rfl : i = n := by omega
        have d3 : decide ((i : Int) < (i : Int)) = false := by simp
        have HQ := Lib.hid (show rdTs i [] l0 = (acc, l1, 0) by rw [← HR.out.2, Nat.sub_self]; rfl)
        go_wp2_with fail
        go_ret
        rw [HQ.out]
        exact ⟨_, rfl, HV.out.1, HV.out.2.2, HR.out.1, HT.out⟩
set_option maxHeartbeats 8000000 in
set_option maxRecDepth 100000 in
theorem readIs_any {w : World} {b : Nat} {l : List UInt8} {e : Int} (h : Rdr w b l e) :
    Calls Tryz.prog 289 #[.pointer (some ⟨b, 0, none⟩), .func (.func 285) #[] #[]] w fun x w' => ∃ v, x = .returned v ∧ RowN w' v (rdLI l e).1 ∧ (∀ k, ob v = some k → w.heap.size ≤ k) ∧ Rdr w' b (rdLI l e).2.1 (rdLI l e).2.2 ∧ Turn [b] w w' := by
  have hbw := h.lt
  have hfn : ∀ (args : Array Value) (w : World), (callFunc 285 args).run Tryz.prog w = .ok (.enter 285 args) w := fun args w => by kernel_rfl
  have C1 := Lib.hid (pr_count 10000 (by omega) h)
  have HZ := Lib.hid (rdC_zero (most := 10000) (l := l) (e := e))
  have hle := rdC_le (most := 10000) l e (by omega)
  obtain ⟨i0, hi0, hz0, hzs, hzb⟩ := info_partsT infoIntN
  unfold rdLI
  generalize rdC 10000 l e = R at *
  obtain ⟨n, l0, e0⟩ := R
  simp only at C1 HZ hle ⊢
  obtain ⟨RES, hRES⟩ : ∃ r, (if e0 ≠ 0 then (([], l0, e0) : List Int × List UInt8 × Int) else rdIs n [] l0) = r := ⟨_, rfl⟩
  rw [hRES]
  have HRES := Lib.hid hRES
  clear h hRES
  go_enter Tryz.func289, Tryz.ntmps289
  go_wp2_with fail
  go_at_call 306
  (with_reducible refine C1.out.mono ?_)
  rintro _ w1 ⟨rfl, r1, g1⟩
  have T1 : Turn [b] w w1 := turn_of_grown g1 (fun k hk => .inl (by cases hk; simp))
  have HR1 := Lib.hid r1
  have HT1 := Lib.hid T1
  clear C1 r1 g1 T1
  by_cases he : e0 = 0
  case neg =>
    obtain rfl : n = 0 := HZ.out he
    obtain rfl : RES = ([], l0, e0) := by rw [← HRES.out, if_pos he]
    clear he HRES
    have d0 : decide (((0 : Nat) : Int) < ((0 : Nat) : Int)) = false := by simp
    go_wp2_with fail
    refine wp_loop_rounds 1 ?_
    rw [rounds_succ]
    go_wp2_with fail
    go_ret
    exact ⟨_, rfl, row_nilN _, by simp [ob], HR1.out, HT1.out⟩
  case pos =>
    subst he
    obtain rfl : RES = rdIs n [] l0 := by rw [← HRES.out, if_neg (by simp)]
    clear HRES
    go_wp2_with fail
    go_loopw [5, 8] (fun ov iv wr => ∃ (i : Nat) (V : Value) (acc : List Int) (l1 : List UInt8), V = ov ∧ iv = .int .i64 (i : Int) ∧ i ≤ n ∧ Hid (RowN wr V acc ∧ acc.length = i ∧ ∀ k, ob V = some k → w.heap.size ≤ k) ∧ Hid (Rdr wr b l1 0 ∧ rdIs (n - i) acc l1 = rdIs n [] l0) ∧ Hid (Turn [b] w wr)) (fun _ iv _ => n - (intOf iv).toNat)
    case atStart => exact ⟨0, _, [], l0, rfl, rfl, Nat.zero_le _, Lib.hid ⟨row_nilN _, rfl, by simp [ob]⟩, Lib.hid ⟨HR1.out, by rw [Nat.sub_zero]⟩, HT1⟩
    case round =>
      obtain ⟨i, V, acc, l1, rfl, rfl, hi, HV, HR, HT⟩ := hrel
      by_cases hlt : i < n
      · have hiI : (i : Int) < (n : Int) := by omega
        have C2 := Lib.hid (readInt_any HR.out.1)
        have HQ := Lib.hid (show (if (rdI l1 0).2.2 ≠ 0 then ([], (rdI l1 0).2.1, (rdI l1 0).2.2) else rdIs (n - (i + 1)) (acc ++ [((rdI l1 0).1 : Int)]) (rdI l1 0).2.1) = rdIs n [] l0 by
          rw [← HR.out.2, show n - i = (n - (i + 1)) + 1 by omega]
          rfl)
        generalize rdI l1 0 = Q at *
        obtain ⟨n1, l2, e2⟩ := Q
        skip
        simp only at C2 HQ
        obtain ⟨va, vc, rfl⟩ := HV.out.1.short
        obtain ⟨m, hm⟩ : ∃ m, acc.length = m := ⟨_, rfl⟩
        have hmi : m ≤ 10000 := by rw [← hm, HV.out.2.1]; omega
        have HM := Lib.hid hm
        rw [hm] at HV ⊢
        clear hm
        go_wp2_with fail
        go_at_call 285
        (with_reducible refine C2.out.mono ?_)
        rintro _ w2 ⟨rfl, r2, t2⟩
        have t2 : Turn [b] wr w2 := turn_of_grown t2 (fun k hk => .inl (by cases hk; simp))
        have HT2 := Lib.hid (HT.out.trans t2 (fun x hx => .inl hx))
        have HV2 := Lib.hid (show RowN w2 (.slice va m vc) acc from Row.kept HV.out.1 (fun k hk => t2.block k (Row.lt HV.out.1 k hk) (fun hm => by have h1 := HV.out.2.2 k hk; simp at hm; omega)))
        obtain ⟨W3, hW3⟩ : ∃ W3, w2.alloc (.cells #[.int .i64 (n1 : Int)] 3) = W3 := ⟨_, rfl⟩
        have b3 : Below w2.heap.size w2 W3 := by rw [← hW3]; exact (Below.refl _ _).alloc (Nat.le_refl _) _
        have HV3 := Lib.hid (show RowN W3 (.slice va m vc) acc from Row.kept HV2.out (fun k hk => b3.block k (Row.lt HV2.out k hk)))
        have HR3 := Lib.hid (r2.below b3 r2.lt)
        have HT3 := Lib.hid (HT2.out.trans (turn_of_below (F := []) b3) (by simp))
        have HS := Lib.hid (show Src Tryz.prog 1 50 (.slice (some ⟨w2.heap.size, 0, none⟩) 1 1) 1 (cellsN [(n1 : Int)]) W3 from Src.ofSlice (P := Tryz.prog) W3 (size := 1) Tryz.underlying50 ⟨w2.heap.size, 0, none⟩ 1 1 _ rfl (fun j u hu => by
          rw [add_plainT, Nat.zero_add, ← hW3]
          refine nce rfl ?_
          simpa [cellsN] using hu) (by intro u hu; simp [cellsN] at hu; rw [hu]; rfl))
        have HMM := Lib.hid HM.out
        have HV3R := Lib.hid (show Row W3 3 1 (.slice va m vc) m (cellsN acc) by have h := HV3.out; unfold RowN at h; rw [HMM.out] at h; exact h)
        have H1 := Lib.hid (show m + 1 ≤ maxLen by unfold maxLen; omega)
        have H2 := Lib.hid (show (m + 1) * 8 ≤ 140737488355328 by omega)
        have HW3 := Lib.hid hW3
        have HO := Lib.hid HV.out.2.2
        have HOB := Lib.hid (show ob (.slice va m vc) ≠ some b from fun e => by have := HO.out b e; omega)
        clear r2 t2 hW3 b3 C2
        go_wp2_with (at_builtin; rw [HW3.out]; refine wpList_append_row _ rfl _ _ 50 50 rfl 3 i0 _ 1 8 Tryz.underlying50 hi0 hz0 hzs hzb rfl (.slice va m vc) m _ rfl HV3R.out _ rfl 1 _ HS.out H1.out H2.out ?_; intro v4 w4 hrow4 hgrow4 hob4)
        have t4 : Turn [b] w w4 := turn_own HT3.out hgrow4 HO.out
        have t34 : Turn (ob (.slice va m vc)).toList W3 w4 := turn_of_grown hgrow4 (fun k hk => .inl (by rw [hk]; simp))
        have r4 := HR3.out.turn t34 (fun h => HOB.out (by simpa using h))
        have C5 := Lib.hid (pr_err r4)
        have HR4 := Lib.hid r4
        have HT4 := Lib.hid t4
        have HV4 := Lib.hid (show RowN w4 v4 (acc ++ [(n1 : Int)]) ∧ (acc ++ [(n1 : Int)]).length = i + 1 ∧ ∀ k, ob v4 = some k → w.heap.size ≤ k from ⟨by
            unfold RowN
            rw [List.length_append, HMM.out, cellsN_append]
            exact hrow4, by rw [List.length_append, HMM.out, HV.out.2.1]; rfl, fun k hk => by
            rcases hob4 with q | ⟨q, -⟩
            · exact HO.out k (by rw [← q]; exact hk)
            · rw [q] at hk; cases hk
              have := HT3.out.size
              exact this⟩)
        clear hrow4 hgrow4 hob4 t4 t34 r4
        go_wp2_with fail
        go_at_call 303
        (with_reducible refine C5.out.mono ?_)
        rintro _ w5 ⟨rfl, rfl⟩
        by_cases he2 : e2 = 0
        · subst he2
          have HQ2 := Lib.hid (show rdIs (n - (i + 1)) (acc ++ [(n1 : Int)]) l2 = rdIs n [] l0 by have h := HQ.out; rwa [if_neg (by simp)] at h)
          clear C5
          go_wp2_with fail
          go_roundw
          case rel => exact ⟨i + 1, v4, acc ++ [(n1 : Int)], l2, rfl, by go_num, by omega, HV4, Lib.hid ⟨HR4.out, HQ2.out⟩, HT4⟩
          case measure => simp [intOf]; omega
        · have d2 : (e2 != 0) = true := by simpa using he2
          have HQ2 := Lib.hid (show rdIs n [] l0 = ([], l2, e2) by have h := HQ.out; rw [if_pos he2] at h; exact h.symm)
          clear he2 C5
          go_wp2_with fail
          go_ret
          rw [HQ2.out]
          exact ⟨_, rfl, row_nilN _, by simp [ob], HR4.out, HT4.out⟩
      · obtain rfl : i = n := by omega
        have d3 : decide ((i : Int) < (i : Int)) = false := by simp
        have HQ := Lib.hid (show rdIs i [] l0 = (acc, l1, 0) by rw [← HR.out.2, Nat.sub_self]; rfl)
        go_wp2_with fail
        go_ret
        rw [HQ.out]
        exact ⟨_, rfl, HV.out.1, HV.out.2.2, HR.out.1, HT.out⟩
end Go.Proofs.YtlecffpjcjlabaaGreat
