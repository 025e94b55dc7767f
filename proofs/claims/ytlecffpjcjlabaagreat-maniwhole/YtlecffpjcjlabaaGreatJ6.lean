/- edit's isRight. -/
import Derived.Test.YtlecffpjcjlabaaGreatJ5
import Derived.Test.YtlecffpjcjlabaaGreatJ4
import Derived.Maps.Own
import Derived.Maps.OwnOps
import Derived.Maps.OwnSet
import Derived.Maps.Views
import Derived.Carry
import Derived.BigQuiet
import Derived.Deep.DeepCutAuto
import Derived.Deep.CutBlock
import Derived.Deep.CutRange
namespace Go.Proofs.YtlecffpjcjlabaaGreat
open Go.RowKit Go.Shelf

theorem there_nil (z : Int) : there [] z = false := rfl
theorem there_snoc (ts : List Tb) (x : Tb) (z : Int) : there (ts ++ [x]) z = (there ts z || x.n == z) := by simp [there]
theorem there_iff {ts : List Tb} {z : Int} : there ts z = true ↔ ∃ t ∈ ts, t.n = z := by simp [there]
theorem take_snocT {ts : List Tb} {i : Nat} (h : i < ts.length) : ts.take (i + 1) = ts.take i ++ [tabAt ts i] := by
  rw [List.take_add_one, List.getElem?_eq_getElem h, tabAt_get h]; rfl
def lookAtB (next : Int) (ts : List Tb) (i : Nat) : Bool := tabB next (tabAt ts i) && ((decide (i = 0) || apartB (tabAt ts (i - 1)) (tabAt ts i)) && !(there (ts.take i) (tabAt ts i).n))
theorem lookAtB_iff {next : Int} {ts : List Tb} {i : Nat} (h : i ≤ ts.length) : lookAtB next ts i = true ↔ LookAt next ts i := by
  unfold lookAtB LookAt
  rw [Bool.and_eq_true, Bool.and_eq_true, tabB_iff, Bool.or_eq_true, apartB_iff, Bool.not_eq_true', decide_eq_true_iff]
  refine and_congr_right fun _ => and_congr ?_ ?_
  · constructor
    · rintro (h | h) h0
      · omega
      · exact h
    · intro h
      by_cases h0 : i = 0
      · exact .inl h0
      · exact .inr (h (by omega))
  · rw [← Bool.not_eq_true, there_iff]
    constructor
    · intro hn k hk e
      refine hn ⟨tabAt ts k, ?_, e⟩
      rw [tabAt_get (by omega)]
      exact List.mem_take_iff_getElem.2 ⟨k, by omega, rfl⟩
    · rintro hn ⟨t, ht, e⟩
      obtain ⟨k, hk, rfl⟩ := List.mem_take_iff_getElem.1 ht
      refine hn k (by omega) ?_
      rw [tabAt_get (by omega)]
      exact e
def lookB (v : Vr) : Bool := fromB 0 v.log 100000000 && (fromB 0 v.next 100000000 && (decide (v.seq ≤ 4611686018427387904) && (List.range v.ts.length).all (lookAtB v.next v.ts)))
theorem lookB_iff {v : Vr} : lookB v = true ↔ LookV v := by
  unfold lookB LookV
  rw [Bool.and_eq_true, Bool.and_eq_true, Bool.and_eq_true, fromB_iff, fromB_iff, decide_eq_true_iff, List.all_eq_true]
  constructor
  · rintro ⟨⟨a, b⟩, ⟨c, d⟩, e, f⟩
    exact ⟨⟨a, b, c, d, e⟩, fun i hi => (lookAtB_iff (Nat.le_of_lt hi)).1 (f i (List.mem_range.2 hi))⟩
  · rintro ⟨⟨a, b, c, d, e⟩, f⟩
    exact ⟨⟨a, b⟩, ⟨c, d⟩, e, fun i hi => (lookAtB_iff (Nat.le_of_lt (List.mem_range.1 hi))).2 (f i (List.mem_range.1 hi))⟩
/-- The set tells the numbers of tables. -/
def HasT (D : DataW Unit) (ts : List Tb) : Prop := ∀ z : Int, Maps.has D (.int .i64 z) = there ts z
theorem hasT_nil : HasT (.map []) [] := fun _ => rfl
theorem hasT_put {D : DataW Unit} {ts : List Tb} (x : Tb) (hD : Maps.IsMap D) (h : HasT D ts) : HasT (D.put (.int .i64 x.n) (.agg [])) (ts ++ [x]) := by
  intro z
  rw [there_snoc]
  by_cases hz : z = x.n
  · subst hz
    rw [Maps.has_put_same hD (by trivial)]
    simp
  · rw [Maps.has_put_other (by simpa using hz), h z]
    have : (x.n == z) = false := by simpa using fun e => hz e.symm
    rw [this, Bool.or_false]
theorem wf_i64T {z : Int} (h1 : -9223372036854775808 ≤ z) (h2 : z ≤ 9223372036854775807) : (Lit.int .i64 z).wf = true := by
  have e1 : IntKind.i64.min = -9223372036854775808 := rfl
  have e2 : IntKind.i64.max = 9223372036854775807 := rfl
  simp [Lit.wf]
  omega
theorem Grows.below {w w' : World} (h : Grows w w') : Below w.heap.size w w' := by
  obtain ⟨q, os, rfl⟩ := h
  exact ⟨rfl, rfl, rfl, by rw [Go.Sort.size_grow]; exact Nat.le_add_right _ _, fun k hk => Go.Sort.heap_grow_old _ _ hk⟩
theorem ownsMap_below {k : TypeId} {R : Value → Option (DataW Unit × List MemPlace)} {w w' : World} {b n : Nat} {D : DataW Unit} (h : w.ownsMap Tryz.prog k R b n D) (hb : Below w.heap.size w w') : w'.ownsMap Tryz.prog k R b n D :=
  h.kept (row := none) ⟨hb.os, hb.tape, hb.output, hb.size, fun k hk _ => hb.block k hk⟩ (by simp)
theorem all_no {n i : Nat} {f : Nat → Bool} (hi : i < n) (h : f i = false) : (List.range n).all f = false := by
  rw [List.all_eq_false]
  exact ⟨i, List.mem_range.2 hi, by simp [h]⟩
theorem all_yes {n : Nat} {f : Nat → Bool} (h : ∀ i, i < n → f i = true) : (List.range n).all f = true := by
  rw [List.all_eq_true]
  exact fun i hi => h i (List.mem_range.1 hi)
theorem mapS83 : Tryz.prog.underlying 285 = some (.map 3 288) := Tryz.underlying285
set_option maxHeartbeats 8000000 in
set_option maxRecDepth 100000 in
theorem isRight_any (log next : Int) (seq : Nat) (v : Value) (ts : List Tb) (w : World) (hT : TbsV w v ts) (hl : ts.length ≤ 100000) (hok : ∀ t ∈ ts, t.Ok) :
    Calls Tryz.prog 137 #[.agg #[.int .i64 log, .int .i64 next, .int .u64 (seq : Int), v]] w fun e w' => e = .returned (.bool (lookB ⟨log, next, seq, ts⟩)) ∧ Below w.heap.size w w' := by
  obtain ⟨a, cap, rfl⟩ := hT.len
  obtain ⟨W1, hW1⟩ : ∃ W1, w.alloc (.cells #[.int .i64 log, .int .i64 next, .int .u64 (seq : Int), .slice a ts.length cap] 63) = W1 := ⟨_, rfl⟩
  have b1 : Below w.heap.size w W1 := by rw [← hW1]; exact (Below.refl _ _).alloc (Nat.le_refl _) _
  have c0 : W1.cell? ⟨w.heap.size, 0, none⟩ = some (.int .i64 log) := by rw [← hW1]; exact nce rfl rfl
  have c1 : W1.cell? ⟨w.heap.size, 1, none⟩ = some (.int .i64 next) := by rw [← hW1]; exact nce rfl rfl
  have c2 : W1.cell? ⟨w.heap.size, 2, none⟩ = some (.int .u64 (seq : Int)) := by rw [← hW1]; exact nce rfl rfl
  have c3 : W1.cell? ⟨w.heap.size, 3, none⟩ = some (.slice a ts.length cap) := by rw [← hW1]; exact nce rfl rfl
  have hlt1 : w.heap.size < W1.heap.size := by rw [← hW1]; simp
  have HT := Lib.hid (hT.below b1)
  have HB1 := Lib.hid b1
  have HOK := Lib.hid hok
  have mixed : Tryz.prog.follows .mixedOrders = true := by kernel_rfl
  have C1 := Lib.hid (fun w => isFrom_any 0 log 100000000 w)
  have C2 := Lib.hid (fun w => isFrom_any 0 next 100000000 w)
  have HN := Lib.hid (fun h => (fromB_iff (a := 0) (b := next) (c := 100000000)).1 h)
  unfold lookB
  simp only
  generalize fromB 0 log 100000000 = B1 at *
  generalize fromB 0 next 100000000 = B2 at *
  clear hT b1 hok
  have HW1 := Lib.hid hW1
  clear hW1
  cases B1 with
  | false =>
    go_enter Tryz.func137, Tryz.ntmps137
    have hW1 := HW1.out
    go_wp2_with (first | (go_at_call 218; (with_reducible refine (C1.out _).mono ?_); rintro e w1 ⟨rfl, rfl⟩) | fail)
    go_ret
    exact ⟨rfl, by first | exact HB1.out | (rw [hW1]; exact HB1.out)⟩
  | true =>
    cases B2 with
    | false =>
      go_enter Tryz.func137, Tryz.ntmps137
      have hW1 := HW1.out
      go_wp2_with (first | (go_at_call 218; (with_reducible refine (C1.out _).mono ?_); rintro e w1 ⟨rfl, rfl⟩) | (go_at_call 218; (with_reducible refine (C2.out _).mono ?_); rintro e w1 ⟨rfl, rfl⟩) | fail)
      go_ret
      exact ⟨rfl, by first | exact HB1.out | (rw [hW1]; exact HB1.out)⟩
    | true =>
      have hnx := HN.out rfl
      by_cases hs : seq ≤ 4611686018427387904
      case neg =>
        have d1 : decide ((4611686018427387904 : Int) < (seq : Int)) = true := by simp; omega
        have d2 : decide (seq ≤ 4611686018427387904) = false := decide_eq_false hs
        rw [d2]
        clear hs d2
        go_enter Tryz.func137, Tryz.ntmps137
        have hW1 := HW1.out
        go_wp2_with (first | (go_at_call 218; (with_reducible refine (C1.out _).mono ?_); rintro e w1 ⟨rfl, rfl⟩) | (go_at_call 218; (with_reducible refine (C2.out _).mono ?_); rintro e w1 ⟨rfl, rfl⟩) | fail)
        go_ret
        exact ⟨rfl, by first | exact HB1.out | (rw [hW1]; exact HB1.out)⟩
      case pos =>
        have d1 : decide ((4611686018427387904 : Int) < (seq : Int)) = false := by simp; omega
        have d2 : decide (seq ≤ 4611686018427387904) = true := decide_eq_true hs
        rw [d2]
        clear hs d2
        have hmm := @run_makeMap Tryz.prog
        go_enter Tryz.func137, Tryz.ntmps137
        have hW1 := HW1.out
        go_wp2_with (first | (go_at_call 218; (with_reducible refine (C1.out _).mono ?_); rintro e w1 ⟨rfl, rfl⟩) | (go_at_call 218; (with_reducible refine (C2.out _).mono ?_); rintro e w1 ⟨rfl, rfl⟩) | fail)
        try rw [hW1]
        clear hW1 C1 C2
        go_loopw [27] (fun iv wr => ∃ (i : Nat) (D : DataW Unit), iv = .int .i64 (i : Int) ∧ i ≤ ts.length ∧ Hid (wr.ownsMap Tryz.prog 3 unitElem W1.heap.size i D ∧ HasT D (ts.take i)) ∧ Hid (∀ j, j < i → lookAtB next ts j = true) ∧ Hid (Below W1.heap.size W1 wr)) (fun iv _ => ts.length - (intOf iv).toNat)
        case atStart => exact ⟨0, _, rfl, Nat.zero_le _, Lib.hid ⟨World.ownsMap_made _ _ _ _, hasT_nil⟩, Lib.hid (fun j hj => absurd hj (Nat.not_lt_zero _)), Lib.hid ((Below.refl _ _).alloc (Nat.le_refl _) _)⟩
        case round =>
          obtain ⟨i, D, rfl, hi, HM, HL, HB⟩ := hrel
          by_cases hlt : i < ts.length
          · obtain ⟨b, off, rfl, hblt, -⟩ := HT.out.at hlt
            have HC := Lib.hid (show ∀ W, Below W1.heap.size W1 W → ∀ k, k < ts.length → ∀ j u, (tabAt ts k).cells[j]? = some u → W.cell? ⟨b, off + k * 5 + j, none⟩ = some u from fun W hW k hk j u hu => by
              obtain ⟨b', off', e, hb', hc⟩ := HT.out.at hk
              cases e
              exact (hW.cell (p := ⟨b, off + k * 5 + j, none⟩) hb').trans (hc j u hu))
            have hcx := HC.out wr HB.out i hlt
            have HKX := Lib.hid (HOK.out (tabAt ts i) (by rw [tabAt_get hlt]; exact List.getElem_mem _))
            have HNO := Lib.hid (fun (h : lookAtB next ts i = false) => all_no (f := lookAtB next ts) hlt h)
            have HTK := Lib.hid (take_snocT hlt)
            have HLA := Lib.hid (show lookAtB next ts i = (tabB next (tabAt ts i) && ((decide (i = 0) || apartB (tabAt ts (i - 1)) (tabAt ts i)) && !(there (ts.take i) (tabAt ts i).n))) from rfl)
            have HPV := Lib.hid (show 0 < i → ∀ W, Below W1.heap.size W1 W → ∀ j u, (tabAt ts (i - 1)).cells[j]? = some u → W.cell? ⟨b, off + (i - 1) * 5 + j, none⟩ = some u from fun h0 W hW => HC.out W hW (i - 1) (by omega))
            generalize tabAt ts i = x at *
            generalize tabAt ts (i - 1) = y at *
            obtain ⟨n1, l1, z1, f1, g1⟩ := x
            obtain ⟨n0, l0, z0, f0, g0⟩ := y
            have q0 : wr.cell? ⟨b, off + i * 5, none⟩ = some (.int .i64 n1) := hcx 0 _ rfl
            have q1 : wr.cell? ⟨b, off + i * 5 + 1, none⟩ = some (.int .i64 l1) := hcx 1 _ rfl
            have q2 : wr.cell? ⟨b, off + i * 5 + 2, none⟩ = some (.int .i64 z1) := hcx 2 _ rfl
            have q3 : wr.cell? ⟨b, off + i * 5 + 3, none⟩ = some (.string f1) := hcx 3 _ rfl
            have q4 : wr.cell? ⟨b, off + i * 5 + 4, none⟩ = some (.string g1) := hcx 4 _ rfl
            have hiI : (i : Int) < (ts.length : Int) := by omega
            have hbw : b < wr.heap.size := Nat.lt_of_lt_of_le hblt HB.out.size
            have e1 : wr.cell? ⟨w.heap.size, 1, none⟩ = some (.int .i64 next) := (HB.out.cell (p := ⟨w.heap.size, 1, none⟩) hlt1).trans c1
            have e3 : wr.cell? ⟨w.heap.size, 3, none⟩ = some (.slice (some ⟨b, off, none⟩) ts.length cap) := (HB.out.cell (p := ⟨w.heap.size, 3, none⟩) hlt1).trans c3
            have hvw : w.heap.size < wr.heap.size := Nat.lt_of_lt_of_le hlt1 HB.out.size
            clear hcx
            obtain ⟨W6, hW6⟩ : ∃ W6, wr.alloc (.cells #[.int .i64 n1, .int .i64 l1, .int .i64 z1, .string f1, .string g1] 89) = W6 := ⟨_, rfl⟩
            have b6 : Below wr.heap.size wr W6 := by rw [← hW6]; exact (Below.refl _ _).alloc (Nat.le_refl _) _
            have x6 : BoxB wr.heap.size ⟨n1, l1, z1, f1, g1⟩ W6 := by rw [← hW6]; exact new_block _ _ rfl
            have HX6 := Lib.hid x6
            have HB6 := Lib.hid (HB.out.trans (b6.mono HB.out.size))
            have HM6 := Lib.hid (show W6.ownsMap Tryz.prog 3 unitElem W1.heap.size i D ∧ HasT D (ts.take i) from ⟨ownsMap_below HM.out.1 b6, HM.out.2⟩)
            have hvw6 : w.heap.size < W6.heap.size := Nat.lt_of_lt_of_le hvw b6.size
            have hbw6 : b < W6.heap.size := Nat.lt_of_lt_of_le hbw b6.size
            have hxl := x6.lt
            have g0' := cell_grown (w := W6) (a := ⟨wr.heap.size, 0, none⟩) hxl x6.c0
            have g1' := cell_grown (w := W6) (a := ⟨wr.heap.size, 1, none⟩) hxl x6.c1
            have g2' := cell_grown (w := W6) (a := ⟨wr.heap.size, 2, none⟩) hxl x6.c2
            have g3' := cell_grown (w := W6) (a := ⟨wr.heap.size, 3, none⟩) hxl x6.c3
            have g4' := cell_grown (w := W6) (a := ⟨wr.heap.size, 4, none⟩) hxl x6.c4
            have g5' := cell_grown (w := W6) (a := ⟨w.heap.size, 1, none⟩) hvw6 ((b6.cell (p := ⟨w.heap.size, 1, none⟩) hvw).trans e1)
            have g6' := cell_grown (w := W6) (a := ⟨w.heap.size, 3, none⟩) hvw6 ((b6.cell (p := ⟨w.heap.size, 3, none⟩) hvw).trans e3)
            have HS := Lib.hid (show ∀ W, Below W6.heap.size W6 W → (fun w' => w'.cell? ⟨wr.heap.size, 0, none⟩ = some (.int .i64 n1) ∧ w'.cell? ⟨wr.heap.size, 1, none⟩ = some (.int .i64 l1) ∧ w'.cell? ⟨wr.heap.size, 2, none⟩ = some (.int .i64 z1) ∧ w'.cell? ⟨wr.heap.size, 3, none⟩ = some (.string f1) ∧ w'.cell? ⟨wr.heap.size, 4, none⟩ = some (.string g1) ∧ w'.cell? ⟨w.heap.size, 1, none⟩ = some (.int .i64 next)) W from fun W hW => ⟨(HX6.out.below hW).c0, (HX6.out.below hW).c1, (HX6.out.below hW).c2, (HX6.out.below hW).c3, (HX6.out.below hW).c4, (hW.cell (p := ⟨w.heap.size, 1, none⟩) hvw6).trans ((b6.cell (p := ⟨w.heap.size, 1, none⟩) hvw).trans e1)⟩)
            have u1 := HS.out W6.drew (Below.refl _ _).drew
            simp only at g0' g1' g2' g3' g4' g5' g6'
            have CT := Lib.hid (fun W => isTable_any ⟨n1, l1, z1, f1, g1⟩ next W hnx (by have h := HKX.out; unfold Tb.Ok maxLen at h; simp only at h ⊢; omega))
            have CA := Lib.hid (fun W => isApart_any ⟨n0, l0, z0, f0, g0⟩ ⟨n1, l1, z1, f1, g1⟩ W)
            generalize tabB next ⟨n1, l1, z1, f1, g1⟩ = TT at *
            generalize apartB ⟨n0, l0, z0, f0, g0⟩ ⟨n1, l1, z1, f1, g1⟩ = AA at *
            clear x6 b6
            go_upto_region 7 with fail
            try rw [hW6]
            clear hW6 q0 q1 q2 q3 q4 e1 e3
            go_cut [51] from 32 to 51 (fun t wx => ∃ W, W = wx ∧ t = .bool (!(TT && (decide (i = 0) || AA))) ∧ Hid (Below W6.heap.size W6 W))
            case first =>
              cases TT with
              | false =>
                refine wp_region_noPanic ?_
                refine wp_region_held (S := (fun w' => w'.cell? ⟨wr.heap.size, 0, none⟩ = some (.int .i64 n1) ∧ w'.cell? ⟨wr.heap.size, 1, none⟩ = some (.int .i64 l1) ∧ w'.cell? ⟨wr.heap.size, 2, none⟩ = some (.int .i64 z1) ∧ w'.cell? ⟨wr.heap.size, 3, none⟩ = some (.string f1) ∧ w'.cell? ⟨wr.heap.size, 4, none⟩ = some (.string g1) ∧ w'.cell? ⟨w.heap.size, 1, none⟩ = some (.int .i64 next))) (by kernel_rfl) ?_
                refine wpAnyH_take (i := 0) (v := ?_) rfl (by kernel_rfl) (by kernel_rfl) (by kernel_rfl) (fun _ _ _ h => h) (Or.inl ⟨by rfl, ?_⟩) u1 ?_
                rotate_left
                focus (simp only [List.getElem_toArray, List.getElem_cons_zero]; intro w' hS; obtain ⟨s0, s1, s2, s3, s4, s5⟩ := hS; first | (go_simp; done) | (go_simp; with_reducible rfl))
                simp only [List.getElem_toArray, List.getElem_cons_zero, Act.put, List.setIfInBounds_toArray, List.set_cons_zero, List.set_cons_succ]
                refine wpAnyH_take (i := 1) (v := ?_) rfl (by kernel_rfl) (by kernel_rfl) (by kernel_rfl) (fun _ _ _ h => h) (Or.inl ⟨by rfl, ?_⟩) u1 ?_
                rotate_left
                focus (simp only [List.getElem_toArray, List.getElem_cons_succ, List.getElem_cons_zero]; intro w' hS; obtain ⟨s0, s1, s2, s3, s4, s5⟩ := hS; first | (go_simp; done) | (go_simp; with_reducible rfl))
                simp only [List.getElem_toArray, List.getElem_cons_succ, List.getElem_cons_zero, Act.put, List.setIfInBounds_toArray, List.set_cons_zero, List.set_cons_succ]
                refine wpAnyH_take (i := 2) (v := ?_) rfl (by kernel_rfl) (by kernel_rfl) (by kernel_rfl) (fun _ _ _ h => h) (Or.inl ⟨by rfl, ?_⟩) u1 ?_
                rotate_left
                focus (simp only [List.getElem_toArray, List.getElem_cons_succ, List.getElem_cons_zero]; intro w' hS; obtain ⟨s0, s1, s2, s3, s4, s5⟩ := hS; first | (go_simp; done) | (go_simp; with_reducible rfl))
                simp only [List.getElem_toArray, List.getElem_cons_succ, List.getElem_cons_zero, Act.put, List.setIfInBounds_toArray, List.set_cons_zero, List.set_cons_succ]
                refine wpAnyH_ready (rs := [3]) (by kernel_rfl) (by simp) ?_
                refine AllReadyH.cons rfl (fun K hK => ?_) AllReadyH.nil
                simp only [List.getElem_toArray, List.getElem_cons_succ, List.getElem_cons_zero]
                go_simp
                refine (CT.out _).mono ?_
                rintro _ w3 ⟨rfl, hg3⟩
                have bb3 : Below W6.heap.size W6 w3 := (Below.refl _ _).drew.trans hg3.below
                have u3 := HS.out w3 bb3
                dsimp only
                refine hK.out _ _ u3 (fun _ => ?_)
                try simp only [List.getElem_toArray, List.getElem_cons_succ, List.getElem_cons_zero, Act.put, List.setIfInBounds_toArray, List.set_cons_zero, List.set_cons_succ]
                refine wpAnyH_take (i := 4) (v := ?_) rfl (by kernel_rfl) (by kernel_rfl) (by kernel_rfl) (fun _ _ _ h => h) (Or.inl ⟨by rfl, ?_⟩) u3 ?_
                rotate_left
                focus (simp only [List.getElem_toArray, List.getElem_cons_succ, List.getElem_cons_zero]; intro w' hS; obtain ⟨s0, s1, s2, s3, s4, s5⟩ := hS; first | (go_simp; done) | (go_simp; with_reducible rfl))
                simp only [List.getElem_toArray, List.getElem_cons_succ, List.getElem_cons_zero, Act.put, List.setIfInBounds_toArray, List.set_cons_zero, List.set_cons_succ]
                refine wpAnyH_take (i := 5) (v := ?_) rfl (by kernel_rfl) (by kernel_rfl) (by kernel_rfl) (fun _ _ _ h => h) (Or.inl ⟨by rfl, ?_⟩) u3 ?_
                rotate_left
                focus (simp only [List.getElem_toArray, List.getElem_cons_succ, List.getElem_cons_zero]; intro w' hS; obtain ⟨s0, s1, s2, s3, s4, s5⟩ := hS; first | (go_simp; done) | (go_simp; with_reducible rfl))
                simp only [List.getElem_toArray, List.getElem_cons_succ, List.getElem_cons_zero, Act.put, List.setIfInBounds_toArray, List.set_cons_zero, List.set_cons_succ]
                refine wpAnyH_take (i := 6) (v := undef) rfl (by kernel_rfl) (by kernel_rfl) (by kernel_rfl) (fun _ _ _ h => h) (Or.inr ⟨by rfl, rfl⟩) u3 ?_
                simp only [List.getElem_toArray, List.getElem_cons_succ, List.getElem_cons_zero, Act.put, List.setIfInBounds_toArray, List.set_cons_zero, List.set_cons_succ]
                refine wpAnyH_take (i := 7) (v := undef) rfl (by kernel_rfl) (by kernel_rfl) (by kernel_rfl) (fun _ _ _ h => h) (Or.inr ⟨by rfl, rfl⟩) u3 ?_
                simp only [List.getElem_toArray, List.getElem_cons_succ, List.getElem_cons_zero, Act.put, List.setIfInBounds_toArray, List.set_cons_zero, List.set_cons_succ]
                refine wpAnyH_take (i := 8) (v := undef) rfl (by kernel_rfl) (by kernel_rfl) (by kernel_rfl) (fun _ _ _ h => h) (Or.inr ⟨by rfl, rfl⟩) u3 ?_
                simp only [List.getElem_toArray, List.getElem_cons_succ, List.getElem_cons_zero, Act.put, List.setIfInBounds_toArray, List.set_cons_zero, List.set_cons_succ]
                refine wpAnyH_take (i := 9) (v := undef) rfl (by kernel_rfl) (by kernel_rfl) (by kernel_rfl) (fun _ _ _ h => h) (Or.inr ⟨by rfl, rfl⟩) u3 ?_
                simp only [List.getElem_toArray, List.getElem_cons_succ, List.getElem_cons_zero, Act.put, List.setIfInBounds_toArray, List.set_cons_zero, List.set_cons_succ]
                refine wpAnyH_take (i := 10) (v := undef) rfl (by kernel_rfl) (by kernel_rfl) (by kernel_rfl) (fun _ _ _ h => h) (Or.inr ⟨by rfl, rfl⟩) u3 ?_
                simp only [List.getElem_toArray, List.getElem_cons_succ, List.getElem_cons_zero, Act.put, List.setIfInBounds_toArray, List.set_cons_zero, List.set_cons_succ]
                refine wpAnyH_take (i := 11) (v := undef) rfl (by kernel_rfl) (by kernel_rfl) (by kernel_rfl) (fun _ _ _ h => h) (Or.inr ⟨by rfl, rfl⟩) u3 ?_
                simp only [List.getElem_toArray, List.getElem_cons_succ, List.getElem_cons_zero, Act.put, List.setIfInBounds_toArray, List.set_cons_zero, List.set_cons_succ]
                refine wpAnyH_take (i := 12) (v := undef) rfl (by kernel_rfl) (by kernel_rfl) (by kernel_rfl) (fun _ _ _ h => h) (Or.inr ⟨by rfl, rfl⟩) u3 ?_
                simp only [List.getElem_toArray, List.getElem_cons_succ, List.getElem_cons_zero, Act.put, List.setIfInBounds_toArray, List.set_cons_zero, List.set_cons_succ]
                refine wpAnyH_take (i := 13) (v := undef) rfl (by kernel_rfl) (by kernel_rfl) (by kernel_rfl) (fun _ _ _ h => h) (Or.inr ⟨by rfl, rfl⟩) u3 ?_
                simp only [List.getElem_toArray, List.getElem_cons_succ, List.getElem_cons_zero, Act.put, List.setIfInBounds_toArray, List.set_cons_zero, List.set_cons_succ]
                refine wpAnyH_take (i := 14) (v := undef) rfl (by kernel_rfl) (by kernel_rfl) (by kernel_rfl) (fun _ _ _ h => h) (Or.inr ⟨by rfl, rfl⟩) u3 ?_
                simp only [List.getElem_toArray, List.getElem_cons_succ, List.getElem_cons_zero, Act.put, List.setIfInBounds_toArray, List.set_cons_zero, List.set_cons_succ]
                refine wpAnyH_take (i := 15) (v := undef) rfl (by kernel_rfl) (by kernel_rfl) (by kernel_rfl) (fun _ _ _ h => h) (Or.inr ⟨by rfl, rfl⟩) u3 ?_
                simp only [List.getElem_toArray, List.getElem_cons_succ, List.getElem_cons_zero, Act.put, List.setIfInBounds_toArray, List.set_cons_zero, List.set_cons_succ]
                refine wpAnyH_take (i := 16) (v := undef) rfl (by kernel_rfl) (by kernel_rfl) (by kernel_rfl) (fun _ _ _ h => h) (Or.inr ⟨by rfl, rfl⟩) u3 ?_
                simp only [List.getElem_toArray, List.getElem_cons_succ, List.getElem_cons_zero, Act.put, List.setIfInBounds_toArray, List.set_cons_zero, List.set_cons_succ]
                refine wpAnyH_take (i := 17) (v := undef) rfl (by kernel_rfl) (by kernel_rfl) (by kernel_rfl) (fun _ _ _ h => h) (Or.inr ⟨by rfl, rfl⟩) u3 ?_
                simp only [List.getElem_toArray, List.getElem_cons_succ, List.getElem_cons_zero, Act.put, List.setIfInBounds_toArray, List.set_cons_zero, List.set_cons_succ]
                refine wpAnyH_take (i := 18) (v := undef) rfl (by kernel_rfl) (by kernel_rfl) (by kernel_rfl) (fun _ _ _ h => h) (Or.inr ⟨by rfl, rfl⟩) u3 ?_
                simp only [List.getElem_toArray, List.getElem_cons_succ, List.getElem_cons_zero, Act.put, List.setIfInBounds_toArray, List.set_cons_zero, List.set_cons_succ]
                refine wpAnyH_take (i := 19) (v := ?_) rfl (by kernel_rfl) (by kernel_rfl) (by kernel_rfl) (fun _ _ _ h => h) (Or.inl ⟨by rfl, ?_⟩) u3 ?_
                rotate_left
                focus (simp only [List.getElem_toArray, List.getElem_cons_succ, List.getElem_cons_zero]; intro w' hS; obtain ⟨s0, s1, s2, s3, s4, s5⟩ := hS; first | (go_simp; done) | (go_simp; with_reducible rfl))
                simp only [List.getElem_toArray, List.getElem_cons_succ, List.getElem_cons_zero, Act.put, List.setIfInBounds_toArray, List.set_cons_zero, List.set_cons_succ]
                refine wpAnyH_done (by kernel_rfl) ?_ _
                refine NoPanic.normal ?_
                go_wp2_with fail
                go_meet
                exact ⟨_, rfl, rfl, Lib.hid bb3⟩
              | true =>
                by_cases h0 : i = 0
                · have d0 : decide ((0 : Int) < (i : Int)) = false := by simp; omega
                  have d0n : decide (0 < i) = false := by simp; omega
                  have HD := Lib.hid (show decide (i = 0) = true from decide_eq_true h0)
                  clear h0
                  refine wp_region_noPanic ?_
                  refine wp_region_held (S := (fun w' => w'.cell? ⟨wr.heap.size, 0, none⟩ = some (.int .i64 n1) ∧ w'.cell? ⟨wr.heap.size, 1, none⟩ = some (.int .i64 l1) ∧ w'.cell? ⟨wr.heap.size, 2, none⟩ = some (.int .i64 z1) ∧ w'.cell? ⟨wr.heap.size, 3, none⟩ = some (.string f1) ∧ w'.cell? ⟨wr.heap.size, 4, none⟩ = some (.string g1) ∧ w'.cell? ⟨w.heap.size, 1, none⟩ = some (.int .i64 next))) (by kernel_rfl) ?_
                  refine wpAnyH_take (i := 0) (v := ?_) rfl (by kernel_rfl) (by kernel_rfl) (by kernel_rfl) (fun _ _ _ h => h) (Or.inl ⟨by rfl, ?_⟩) u1 ?_
                  rotate_left
                  focus (simp only [List.getElem_toArray, List.getElem_cons_zero]; intro w' hS; obtain ⟨s0, s1, s2, s3, s4, s5⟩ := hS; first | (go_simp; done) | (go_simp; with_reducible rfl))
                  simp only [List.getElem_toArray, List.getElem_cons_zero, Act.put, List.setIfInBounds_toArray, List.set_cons_zero, List.set_cons_succ]
                  refine wpAnyH_take (i := 1) (v := ?_) rfl (by kernel_rfl) (by kernel_rfl) (by kernel_rfl) (fun _ _ _ h => h) (Or.inl ⟨by rfl, ?_⟩) u1 ?_
                  rotate_left
                  focus (simp only [List.getElem_toArray, List.getElem_cons_succ, List.getElem_cons_zero]; intro w' hS; obtain ⟨s0, s1, s2, s3, s4, s5⟩ := hS; first | (go_simp; done) | (go_simp; with_reducible rfl))
                  simp only [List.getElem_toArray, List.getElem_cons_succ, List.getElem_cons_zero, Act.put, List.setIfInBounds_toArray, List.set_cons_zero, List.set_cons_succ]
                  refine wpAnyH_take (i := 2) (v := ?_) rfl (by kernel_rfl) (by kernel_rfl) (by kernel_rfl) (fun _ _ _ h => h) (Or.inl ⟨by rfl, ?_⟩) u1 ?_
                  rotate_left
                  focus (simp only [List.getElem_toArray, List.getElem_cons_succ, List.getElem_cons_zero]; intro w' hS; obtain ⟨s0, s1, s2, s3, s4, s5⟩ := hS; first | (go_simp; done) | (go_simp; with_reducible rfl))
                  simp only [List.getElem_toArray, List.getElem_cons_succ, List.getElem_cons_zero, Act.put, List.setIfInBounds_toArray, List.set_cons_zero, List.set_cons_succ]
                  refine wpAnyH_ready (rs := [3]) (by kernel_rfl) (by simp) ?_
                  refine AllReadyH.cons rfl (fun K hK => ?_) AllReadyH.nil
                  simp only [List.getElem_toArray, List.getElem_cons_succ, List.getElem_cons_zero]
                  go_simp
                  refine (CT.out _).mono ?_
                  rintro _ w3 ⟨rfl, hg3⟩
                  have bb3 : Below W6.heap.size W6 w3 := (Below.refl _ _).drew.trans hg3.below
                  have u3 := HS.out w3 bb3
                  dsimp only
                  refine hK.out _ _ u3 (fun _ => ?_)
                  try simp only [List.getElem_toArray, List.getElem_cons_succ, List.getElem_cons_zero, Act.put, List.setIfInBounds_toArray, List.set_cons_zero, List.set_cons_succ]
                  refine wpAnyH_take (i := 4) (v := ?_) rfl (by kernel_rfl) (by kernel_rfl) (by kernel_rfl) (fun _ _ _ h => h) (Or.inl ⟨by rfl, ?_⟩) u3 ?_
                  rotate_left
                  focus (simp only [List.getElem_toArray, List.getElem_cons_succ, List.getElem_cons_zero]; intro w' hS; obtain ⟨s0, s1, s2, s3, s4, s5⟩ := hS; first | (go_simp; done) | (go_simp; with_reducible rfl))
                  simp only [List.getElem_toArray, List.getElem_cons_succ, List.getElem_cons_zero, Act.put, List.setIfInBounds_toArray, List.set_cons_zero, List.set_cons_succ]
                  refine wpAnyH_take (i := 5) (v := ?_) rfl (by kernel_rfl) (by kernel_rfl) (by kernel_rfl) (fun _ _ _ h => h) (Or.inl ⟨by rfl, ?_⟩) u3 ?_
                  rotate_left
                  focus (simp only [List.getElem_toArray, List.getElem_cons_succ, List.getElem_cons_zero]; intro w' hS; obtain ⟨s0, s1, s2, s3, s4, s5⟩ := hS; first | (go_simp; done) | (go_simp; with_reducible rfl))
                  simp only [List.getElem_toArray, List.getElem_cons_succ, List.getElem_cons_zero, Act.put, List.setIfInBounds_toArray, List.set_cons_zero, List.set_cons_succ]
                  refine wpAnyH_take (i := 6) (v := ?_) rfl (by kernel_rfl) (by kernel_rfl) (by kernel_rfl) (fun _ _ _ h => h) (Or.inl ⟨by rfl, ?_⟩) u3 ?_
                  rotate_left
                  focus (simp only [List.getElem_toArray, List.getElem_cons_succ, List.getElem_cons_zero]; intro w' hS; obtain ⟨s0, s1, s2, s3, s4, s5⟩ := hS; first | (go_simp; done) | (go_simp; with_reducible rfl))
                  simp only [List.getElem_toArray, List.getElem_cons_succ, List.getElem_cons_zero, Act.put, List.setIfInBounds_toArray, List.set_cons_zero, List.set_cons_succ]
                  refine wpAnyH_take (i := 7) (v := ?_) rfl (by kernel_rfl) (by kernel_rfl) (by kernel_rfl) (fun _ _ _ h => h) (Or.inl ⟨by rfl, ?_⟩) u3 ?_
                  rotate_left
                  focus (simp only [List.getElem_toArray, List.getElem_cons_succ, List.getElem_cons_zero]; intro w' hS; obtain ⟨s0, s1, s2, s3, s4, s5⟩ := hS; first | (go_simp; done) | (go_simp; with_reducible rfl))
                  simp only [List.getElem_toArray, List.getElem_cons_succ, List.getElem_cons_zero, Act.put, List.setIfInBounds_toArray, List.set_cons_zero, List.set_cons_succ]
                  refine wpAnyH_take (i := 8) (v := ?_) rfl (by kernel_rfl) (by kernel_rfl) (by kernel_rfl) (fun _ _ _ h => h) (Or.inl ⟨by rfl, ?_⟩) u3 ?_
                  rotate_left
                  focus (simp only [List.getElem_toArray, List.getElem_cons_succ, List.getElem_cons_zero]; intro w' hS; obtain ⟨s0, s1, s2, s3, s4, s5⟩ := hS; first | (go_simp; done) | (go_simp; with_reducible rfl))
                  simp only [List.getElem_toArray, List.getElem_cons_succ, List.getElem_cons_zero, Act.put, List.setIfInBounds_toArray, List.set_cons_zero, List.set_cons_succ]
                  refine wpAnyH_take (i := 9) (v := undef) rfl (by kernel_rfl) (by kernel_rfl) (by kernel_rfl) (fun _ _ _ h => h) (Or.inr ⟨by rfl, rfl⟩) u3 ?_
                  simp only [List.getElem_toArray, List.getElem_cons_succ, List.getElem_cons_zero, Act.put, List.setIfInBounds_toArray, List.set_cons_zero, List.set_cons_succ]
                  refine wpAnyH_take (i := 10) (v := undef) rfl (by kernel_rfl) (by kernel_rfl) (by kernel_rfl) (fun _ _ _ h => h) (Or.inr ⟨by rfl, rfl⟩) u3 ?_
                  simp only [List.getElem_toArray, List.getElem_cons_succ, List.getElem_cons_zero, Act.put, List.setIfInBounds_toArray, List.set_cons_zero, List.set_cons_succ]
                  refine wpAnyH_take (i := 11) (v := undef) rfl (by kernel_rfl) (by kernel_rfl) (by kernel_rfl) (fun _ _ _ h => h) (Or.inr ⟨by rfl, rfl⟩) u3 ?_
                  simp only [List.getElem_toArray, List.getElem_cons_succ, List.getElem_cons_zero, Act.put, List.setIfInBounds_toArray, List.set_cons_zero, List.set_cons_succ]
                  refine wpAnyH_take (i := 12) (v := undef) rfl (by kernel_rfl) (by kernel_rfl) (by kernel_rfl) (fun _ _ _ h => h) (Or.inr ⟨by rfl, rfl⟩) u3 ?_
                  simp only [List.getElem_toArray, List.getElem_cons_succ, List.getElem_cons_zero, Act.put, List.setIfInBounds_toArray, List.set_cons_zero, List.set_cons_succ]
                  refine wpAnyH_take (i := 13) (v := undef) rfl (by kernel_rfl) (by kernel_rfl) (by kernel_rfl) (fun _ _ _ h => h) (Or.inr ⟨by rfl, rfl⟩) u3 ?_
                  simp only [List.getElem_toArray, List.getElem_cons_succ, List.getElem_cons_zero, Act.put, List.setIfInBounds_toArray, List.set_cons_zero, List.set_cons_succ]
                  refine wpAnyH_take (i := 14) (v := undef) rfl (by kernel_rfl) (by kernel_rfl) (by kernel_rfl) (fun _ _ _ h => h) (Or.inr ⟨by rfl, rfl⟩) u3 ?_
                  simp only [List.getElem_toArray, List.getElem_cons_succ, List.getElem_cons_zero, Act.put, List.setIfInBounds_toArray, List.set_cons_zero, List.set_cons_succ]
                  refine wpAnyH_take (i := 15) (v := undef) rfl (by kernel_rfl) (by kernel_rfl) (by kernel_rfl) (fun _ _ _ h => h) (Or.inr ⟨by rfl, rfl⟩) u3 ?_
                  simp only [List.getElem_toArray, List.getElem_cons_succ, List.getElem_cons_zero, Act.put, List.setIfInBounds_toArray, List.set_cons_zero, List.set_cons_succ]
                  refine wpAnyH_take (i := 16) (v := undef) rfl (by kernel_rfl) (by kernel_rfl) (by kernel_rfl) (fun _ _ _ h => h) (Or.inr ⟨by rfl, rfl⟩) u3 ?_
                  simp only [List.getElem_toArray, List.getElem_cons_succ, List.getElem_cons_zero, Act.put, List.setIfInBounds_toArray, List.set_cons_zero, List.set_cons_succ]
                  refine wpAnyH_take (i := 17) (v := undef) rfl (by kernel_rfl) (by kernel_rfl) (by kernel_rfl) (fun _ _ _ h => h) (Or.inr ⟨by rfl, rfl⟩) u3 ?_
                  simp only [List.getElem_toArray, List.getElem_cons_succ, List.getElem_cons_zero, Act.put, List.setIfInBounds_toArray, List.set_cons_zero, List.set_cons_succ]
                  refine wpAnyH_take (i := 18) (v := ?_) rfl (by kernel_rfl) (by kernel_rfl) (by kernel_rfl) (fun _ _ _ h => h) (Or.inl ⟨by rfl, ?_⟩) u3 ?_
                  rotate_left
                  focus (simp only [List.getElem_toArray, List.getElem_cons_succ, List.getElem_cons_zero]; intro w' hS; obtain ⟨s0, s1, s2, s3, s4, s5⟩ := hS; first | (go_simp; done) | (go_simp; with_reducible rfl))
                  simp only [List.getElem_toArray, List.getElem_cons_succ, List.getElem_cons_zero, Act.put, List.setIfInBounds_toArray, List.set_cons_zero, List.set_cons_succ]
                  refine wpAnyH_take (i := 19) (v := ?_) rfl (by kernel_rfl) (by kernel_rfl) (by kernel_rfl) (fun _ _ _ h => h) (Or.inl ⟨by rfl, ?_⟩) u3 ?_
                  rotate_left
                  focus (simp only [List.getElem_toArray, List.getElem_cons_succ, List.getElem_cons_zero]; intro w' hS; obtain ⟨s0, s1, s2, s3, s4, s5⟩ := hS; first | (go_simp; done) | (go_simp; with_reducible rfl))
                  simp only [List.getElem_toArray, List.getElem_cons_succ, List.getElem_cons_zero, Act.put, List.setIfInBounds_toArray, List.set_cons_zero, List.set_cons_succ]
                  refine wpAnyH_done (by kernel_rfl) ?_ _
                  refine NoPanic.normal ?_
                  go_wp2_with fail
                  go_meet
                  exact ⟨_, rfl, by rw [HD.out]; rfl, Lib.hid bb3⟩
                · obtain ⟨m, hm⟩ : ∃ m, i = m + 1 := ⟨i - 1, by omega⟩
                  have hmI : (i : Int) - 1 = (m : Int) := by omega
                  have hmL : (m : Int) < (ts.length : Int) := by omega
                  have hwm : IntKind.i64.wrap (m : Int) = (m : Int) := by rw [IntKind.wrap_i64]; omega
                  have hp := HPV.out (by omega) W6 HB6.out
                  rw [show i - 1 = m by omega] at hp
                  have p0 := cell_grown (w := W6) (a := ⟨b, off + m * 5, none⟩) hbw6 (hp 0 _ rfl)
                  have p1 := cell_grown (w := W6) (a := ⟨b, off + m * 5 + 1, none⟩) hbw6 (hp 1 _ rfl)
                  have p2 := cell_grown (w := W6) (a := ⟨b, off + m * 5 + 2, none⟩) hbw6 (hp 2 _ rfl)
                  have p3 := cell_grown (w := W6) (a := ⟨b, off + m * 5 + 3, none⟩) hbw6 (hp 3 _ rfl)
                  have p4 := cell_grown (w := W6) (a := ⟨b, off + m * 5 + 4, none⟩) hbw6 (hp 4 _ rfl)
                  simp only at p0 p1 p2 p3 p4
                  have d0 : decide ((0 : Int) < (i : Int)) = true := by simp; omega
                  have d0n : decide (0 < i) = true := by simp; omega
                  have HD := Lib.hid (show decide (i = 0) = false from decide_eq_false h0)
                  clear h0 hm hp
                  refine wp_region_quiet_grown mixed (by kernel_rfl) ?_
                  repeat ((with_reducible refine wpQuiet_step (fun K hK => ?_)); go_simp; first | ((with_reducible refine hK _ ?_); clear hK K) | (apply Exists.intro; (with_reducible refine ⟨fun _ => ?_, hK _ ?_⟩); (first | (go_at_call 219; refine Calls.grown_of (CT.out _)) | (go_at_call 220; refine Calls.grown_of (CA.out _)) | fail); clear hK K))
                  refine wpQuiet_nil ?_
                  intro _ hw'
                  obtain ⟨⟨nq, osq⟩, hw''⟩ := hw'
                  subst hw''
                  go_wp2_with fail
                  go_meet
                  exact ⟨_, rfl, by rw [HD.out]; rfl, Lib.hid (Grows.below ⟨nq, osq, rfl⟩)⟩
            case rest =>
              obtain ⟨W7, rfl, rfl, HB7⟩ := hcut
              have c7 := (HX6.out.below HB7.out).c0
              simp only at c7
              have HB7' := Lib.hid (HB6.out.trans (HB7.out.mono HB6.out.size))
              have HM7 := Lib.hid (show W7.ownsMap Tryz.prog 3 unitElem W1.heap.size i D ∧ HasT D (ts.take i) from ⟨ownsMap_below HM6.out.1 HB7.out, HM6.out.2⟩)
              have hxl7 : wr.heap.size < W7.heap.size := Nat.lt_of_lt_of_le hxl HB7.out.size
              have HFIN := Lib.hid (show Below w.heap.size w W7 from HB1.out.trans (HB7'.out.mono HB1.out.size))
              clear g0' g1' g2' g3' g4' g5' g6' CT CA HPV HC
              cases hT : (TT && (decide (i = 0) || AA)) with
              | false =>
                have HF := Lib.hid (HNO.out (by rw [HLA.out, ← Bool.and_assoc, hT]; rfl))
                go_wp2
                go_ret
                exact ⟨ret_boolT (by rw [HF.out]), HFIN.out⟩
              | true =>
                have HKE := Lib.hid (show keyOf Tryz.prog 3 (.int .i64 n1) = some (.int .i64 n1) from Maps.keyOf_int_mk Tryz.underlying3 (by have h := HKX.out; unfold Tb.Ok at h; exact wf_i64T h.1.1 h.1.2))
                have HOW := Lib.hid (show ∀ o : Obj, (W7.alloc o).ownsMap Tryz.prog 3 unitElem W1.heap.size i D from fun o => HM7.out.1.alloc o)
                cases hh : there (ts.take i) n1 with
                | true =>
                  have hhas : Maps.has D (.int .i64 n1) = true := (HM7.out.2 n1).trans hh
                  have HF := Lib.hid (HNO.out (by rw [HLA.out, ← Bool.and_assoc, hT, hh]; rfl))
                  clear hh hT
                  go_wp2_with (at_lookup; refine wpList_lookup_own_unit _ rfl _ _ 285 rfl 3 288 (Maps.int_keyed Tryz.underlying3) mapS83 (Tryz.zeroValue288 _) W1.heap.size i D rfl HM7.out.1 _ _ rfl HKE.out ?_)
                  go_ret
                  refine ⟨ret_boolT (by rw [HF.out]), ?_⟩
                  first | exact HFIN.out | exact HFIN.out.alloc HFIN.out.size _ | exact (HFIN.out.alloc HFIN.out.size _).drew
                | false =>
                  have hhas : Maps.has D (.int .i64 n1) = false := (HM7.out.2 n1).trans hh
                  have HNX := Lib.hid (show ∀ j, j < i + 1 → lookAtB next ts j = true from fun j hj => by
                    by_cases hji : j < i
                    · exact HL.out j hji
                    · obtain rfl : j = i := by omega
                      rw [HLA.out, ← Bool.and_assoc, hT, hh]
                      rfl)
                  have HB8 := Lib.hid (show ∀ (o : Obj) (w8 : World), (W7.alloc o).grownBy w8 (some W1.heap.size) → Below W1.heap.size W1 w8 from fun o w8 h => (HB7'.out.alloc HB7'.out.size o).trans ((turn_of_grown (F := [W1.heap.size]) h (fun k hk => by cases hk; exact .inl (by simp))).below (HB7'.out.alloc HB7'.out.size o).size (fun k hk => by simp at hk; omega)))
                  clear hh hT
                  go_wp2_with (first | (at_lookup; refine wpList_lookup_own_unit _ rfl _ _ 285 rfl 3 288 (Maps.int_keyed Tryz.underlying3) mapS83 (Tryz.zeroValue288 _) W1.heap.size i D rfl HM7.out.1 _ _ rfl HKE.out ?_) | (at_mapUpdate; refine wpList_mapUpdate_own _ rfl _ _ _ 285 rfl 3 288 (Maps.int_keyed Tryz.underlying3) mapS83 unitElem W1.heap.size i D rfl (HOW.out _) (by unfold maxLen; omega) _ _ _ rfl rfl HKE.out _ [] unitElem_mk ?_; intro w8 hown8 hgrow8))
                  go_roundw
                  case rel => exact ⟨i + 1, _, by go_num, by omega, Lib.hid ⟨hown8, by rw [HTK.out]; exact hasT_put ⟨n1, l1, z1, f1, g1⟩ HM7.out.1.isMap HM7.out.2⟩, HNX, Lib.hid (HB8.out _ _ hgrow8)⟩
                  case measure => simp [intOf]; omega
          · obtain rfl : i = ts.length := by omega
            have d3 : decide ((ts.length : Int) < (ts.length : Int)) = false := by simp
            go_wp2
            go_ret
            refine ⟨ret_boolT ?_, HB1.out.trans (HB.out.mono HB1.out.size)⟩
            rw [all_yes HL.out]
            rfl
end Go.Proofs.YtlecffpjcjlabaaGreat
