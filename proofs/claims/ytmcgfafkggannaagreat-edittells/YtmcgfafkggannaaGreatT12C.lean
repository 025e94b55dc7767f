/- N5 N6 in one -/
import Derived.Test.YtmcgfafkggannaaGreatT12A
namespace Go.Proofs.YtmcgfafkggannaaGreat
open Go.RowKit Go.Shelf

/-- Of the first tables: each may be, and no two clash. -/
def FirstOk (next : Int) (ts : List Tb) (i : Nat) : Prop := ∀ k, k < i → TabOk next (tabAt ts k) ∧ ∀ j, j < k → TwoOk (tabAt ts j) (tabAt ts k)
theorem firstOk_right {v : Vr} (hb : 0 ≤ v.log ∧ v.log ≤ 100000000 ∧ 0 ≤ v.next ∧ v.next ≤ 100000000 ∧ v.seq ≤ 4611686018427387904) : FirstOk v.next v.ts v.ts.length ↔ RightV v := by
  constructor
  · intro h
    refine ⟨hb, fun t ht => ?_, List.pairwise_iff_getElem.2 fun k i hk hi hki => ?_⟩
    · obtain ⟨i, hi, rfl⟩ := List.getElem_of_mem ht
      have := (h i hi).1
      rw [tabAt_get hi] at this
      exact this
    · have := (h i hi).2 k hki
      rw [tabAt_get hi, tabAt_get hk] at this
      exact this
  · rintro ⟨-, ht, hp⟩ k hk
    refine ⟨by rw [tabAt_get hk]; exact ht _ (List.getElem_mem _), fun j hj => ?_⟩
    rw [tabAt_get hk, tabAt_get (by omega)]
    exact List.pairwise_iff_getElem.1 hp j k (by omega) hk hj
set_option maxHeartbeats 16000000 in
set_option maxRecDepth 100000 in
theorem rvalid_any (v : Vr) (vv : Value) (w : World) (hT : TbsV w vv v.ts) (hl : v.ts.length ≤ 100000) (hok : ∀ t ∈ v.ts, t.Ok) :
    Calls Tryz.prog 24 #[.agg #[.int .i64 v.log, .int .i64 v.next, .int .u64 (v.seq : Int), vv]] w fun e w' => ∃ b : Bool, e = .returned (.bool b) ∧ (b = true ↔ RightV v) ∧ Below w.heap.size w w' := by
  obtain ⟨log, next, seq, ts⟩ := v
  simp only at hT hl hok ⊢
  obtain ⟨a, cp, rfl⟩ := hT.len
  obtain ⟨W1, hW1⟩ : ∃ W1, w.alloc (.cells #[.int .i64 log, .int .i64 next, .int .u64 (seq : Int), .slice a ts.length cp] 63) = W1 := ⟨_, rfl⟩
  have b1 : Below w.heap.size w W1 := by rw [← hW1]; exact (Below.refl _ _).alloc (Nat.le_refl _) _
  have x1 : BoxR w.heap.size log next seq (.slice a ts.length cp) W1 := by rw [← hW1]; exact new_block _ _ rfl
  have HX := Lib.hid x1
  have HB1 := Lib.hid b1
  have HT := Lib.hid (hT.below b1)
  have HOK := Lib.hid hok
  have p0 := x1.c0
  have p1 := x1.c1
  have p2 := x1.c2
  have HFR := Lib.hid (fun h => firstOk_right (v := ⟨log, next, seq, ts⟩) h)
  clear hT hok b1 x1
  go_enter Tryz.func24, Tryz.ntmps24
  go_upto_region 1 with fail
  try rw [hW1]
  clear hW1
  go_cut [29] from 7 to 29 (fun v wx => ∃ c : Bool, v = .bool c ∧ Hid (c = false ↔ (0 ≤ log ∧ log ≤ 100000000 ∧ 0 ≤ next ∧ next ≤ 100000000 ∧ seq ≤ 4611686018427387904)) ∧ W1 = wx)
  case first =>
    by_cases g1 : log < 0
    · have dg1 : decide (log < 0) = true := decide_eq_true g1
      have HNO := Lib.hid (show ¬ (0 ≤ log ∧ log ≤ 100000000 ∧ 0 ≤ next ∧ next ≤ 100000000 ∧ seq ≤ 4611686018427387904) by omega)
      clear g1
      go_wp2_with fail
      go_meet
      exact ⟨true, rfl, Lib.hid ⟨fun h => (by cases h), fun h => absurd h HNO.out⟩, rfl⟩
    have dg1 : decide (log < 0) = false := decide_eq_false g1
    by_cases g2 : 100000000 < log
    · have dg2 : decide (100000000 < log) = true := decide_eq_true g2
      have HNO := Lib.hid (show ¬ (0 ≤ log ∧ log ≤ 100000000 ∧ 0 ≤ next ∧ next ≤ 100000000 ∧ seq ≤ 4611686018427387904) by omega)
      clear g1 g2
      go_wp2_with fail
      go_meet
      exact ⟨true, rfl, Lib.hid ⟨fun h => (by cases h), fun h => absurd h HNO.out⟩, rfl⟩
    have dg2 : decide (100000000 < log) = false := decide_eq_false g2
    by_cases g3 : next < 0
    · have dg3 : decide (next < 0) = true := decide_eq_true g3
      have HNO := Lib.hid (show ¬ (0 ≤ log ∧ log ≤ 100000000 ∧ 0 ≤ next ∧ next ≤ 100000000 ∧ seq ≤ 4611686018427387904) by omega)
      clear g1 g2 g3
      go_wp2_with fail
      go_meet
      exact ⟨true, rfl, Lib.hid ⟨fun h => (by cases h), fun h => absurd h HNO.out⟩, rfl⟩
    have dg3 : decide (next < 0) = false := decide_eq_false g3
    by_cases g4 : 100000000 < next
    · have dg4 : decide (100000000 < next) = true := decide_eq_true g4
      have HNO := Lib.hid (show ¬ (0 ≤ log ∧ log ≤ 100000000 ∧ 0 ≤ next ∧ next ≤ 100000000 ∧ seq ≤ 4611686018427387904) by omega)
      clear g1 g2 g3 g4
      go_wp2_with fail
      go_meet
      exact ⟨true, rfl, Lib.hid ⟨fun h => (by cases h), fun h => absurd h HNO.out⟩, rfl⟩
    have dg4 : decide (100000000 < next) = false := decide_eq_false g4
    by_cases g5 : 4611686018427387904 < (seq : Int)
    · have dg5 : decide (4611686018427387904 < (seq : Int)) = true := decide_eq_true g5
      have HNO := Lib.hid (show ¬ (0 ≤ log ∧ log ≤ 100000000 ∧ 0 ≤ next ∧ next ≤ 100000000 ∧ seq ≤ 4611686018427387904) by omega)
      clear g1 g2 g3 g4 g5
      go_wp2_with fail
      go_meet
      exact ⟨true, rfl, Lib.hid ⟨fun h => (by cases h), fun h => absurd h HNO.out⟩, rfl⟩
    have dg5 : decide (4611686018427387904 < (seq : Int)) = false := decide_eq_false g5
    have HYES := Lib.hid (show (0 ≤ log ∧ log ≤ 100000000 ∧ 0 ≤ next ∧ next ≤ 100000000 ∧ seq ≤ 4611686018427387904) by omega)
    clear g1 g2 g3 g4 g5
    go_wp2_with fail
    go_meet
    exact ⟨false, rfl, Lib.hid ⟨fun _ => HYES.out, fun _ => rfl⟩, rfl⟩
  case rest =>
    obtain ⟨c, rfl, HC, rfl⟩ := hcut
    cases c with
    | true =>
      have HNO := Lib.hid (show ¬ RightV ⟨log, next, seq, ts⟩ from fun h => by
        have := HC.out.2 h.1
        simp at this)
      go_wp2_with fail
      go_ret
      first
        | exact ⟨false, rfl, ⟨fun h => (by cases h), fun h => absurd h HNO.out⟩, HB1.out⟩
        | exact .inl ⟨rfl, HNO.out, HB1.out⟩
    | false =>
      have HBD := Lib.hid (show (0 ≤ log ∧ log ≤ 100000000 ∧ 0 ≤ next ∧ next ≤ 100000000 ∧ seq ≤ 4611686018427387904) from by
        have := HC.out
        simpa using this)
      clear HC p0 p1 p2
      go_upto_region 4 with fail
      go_loopw [3] (fun iv wr => ∃ i : Nat, iv = .int .i64 (i : Int) ∧ i ≤ ts.length ∧ Hid (FirstOk next ts i) ∧ Hid (Below W1.heap.size W1 wr)) (fun iv _ => ts.length - (intOf iv).toNat)
      case atStart => exact ⟨0, rfl, Nat.zero_le _, Lib.hid (fun k hk => absurd hk (Nat.not_lt_zero _)), Lib.hid (Below.refl _ _)⟩
      case round =>
        obtain ⟨i, rfl, hi, HF, HBL⟩ := hrel
        have hx := HX.out.below HBL.out
        have p3 := hx.c3
        by_cases hlt : i < ts.length
        · obtain ⟨b, off, rfl, hblt, hcell⟩ := (HT.out.below HBL.out).at hlt
          have hmem : tabAt ts i ∈ ts := by rw [tabAt_get hlt]; exact List.getElem_mem _
          have hkx := HOK.out _ hmem
          have HFT := Lib.hid (show ∀ T, tabAt ts i = T → ((TabOk next T ∧ ∀ j, j < i → TwoOk (tabAt ts j) T) → FirstOk next ts (i + 1)) ∧ (¬ (TabOk next T ∧ ∀ j, j < i → TwoOk (tabAt ts j) T) → ¬ FirstOk next ts ts.length) from fun T hT => by
            subst hT
            refine ⟨fun h k hk => ?_, fun h hf => h (hf i hlt)⟩
            by_cases e : k = i
            · subst e; exact h
            · exact HF.out k (by omega))
          obtain ⟨x, hxT⟩ : ∃ x, tabAt ts i = x := ⟨_, rfl⟩
          have HFX := Lib.hid (HFT.out x hxT)
          rw [hxT] at hcell hkx
          clear HFT hxT hmem
          obtain ⟨n1, l1, z1, f1, y1⟩ := x
          have q0 : wr.cell? ⟨b, off + i * 5, none⟩ = some (.int .i64 n1) := hcell 0 _ rfl
          have q1 : wr.cell? ⟨b, off + i * 5 + 1, none⟩ = some (.int .i64 l1) := hcell 1 _ rfl
          have q2 : wr.cell? ⟨b, off + i * 5 + 2, none⟩ = some (.int .i64 z1) := hcell 2 _ rfl
          have q3 : wr.cell? ⟨b, off + i * 5 + 3, none⟩ = some (.string f1) := hcell 3 _ rfl
          have q4 : wr.cell? ⟨b, off + i * 5 + 4, none⟩ = some (.string y1) := hcell 4 _ rfl
          have hiI : (i : Int) < (ts.length : Int) := by omega
          unfold Tb.Ok maxLen at hkx
          simp only at hkx
          have hf9 : f1.size ≤ 9223372036854775807 := by omega
          have hy9 : y1.size ≤ 9223372036854775807 := by omega
          obtain ⟨W2, hW2⟩ : ∃ W2, wr.alloc (.cells #[.int .i64 n1, .int .i64 l1, .int .i64 z1, .string f1, .string y1] 80) = W2 := ⟨_, rfl⟩
          have b2 : Below wr.heap.size wr W2 := by rw [← hW2]; exact (Below.refl _ _).alloc (Nat.le_refl _) _
          have HB2 := Lib.hid (show Below W1.heap.size W1 W2 from HBL.out.trans (b2.mono HBL.out.size))
          have t2 : BoxB wr.heap.size ⟨n1, l1, z1, f1, y1⟩ W2 := by rw [← hW2]; exact new_block _ _ rfl
          have HT2 := Lib.hid t2
          clear hcell hkx b2 hx
          go_upto_region 7 with fail
          try rw [hW2]
          clear hW2 q0 q1 q2 q3 q4 p3
          obtain ⟨X, hX⟩ : ∃ X, wr.heap.size = X := ⟨_, rfl⟩
          rw [hX] at HT2 ⊢
          clear hX t2
          have c0 := HT2.out.c0
          have c1 := HT2.out.c1
          have c2 := HT2.out.c2
          have c3 := HT2.out.c3
          have c4 := HT2.out.c4
          simp only at c0 c1 c2 c3 c4
          have p1 := (HX.out.below HB2.out).c1
          have CL := Lib.hid (less_any y1 f1 W2 hy9 hf9)
          go_cut [90] from 42 to 90 (fun v wx => ∃ c : Bool, v = .bool c ∧ Hid (c = false ↔ TabOk next ⟨n1, l1, z1, f1, y1⟩) ∧ Hid (Below W2.heap.size W2 wx))
          case first =>
            by_cases g1 : n1 < 0
            · have dg1 : decide (n1 < 0) = true := decide_eq_true g1
              have HNO := Lib.hid (show ¬ TabOk next ⟨n1, l1, z1, f1, y1⟩ by unfold TabOk; simp only; omega)
              clear g1
              go_wp2_with fail
              go_meet
              exact ⟨true, rfl, Lib.hid ⟨fun h => (by cases h), fun h => absurd h HNO.out⟩, Lib.hid (Below.refl _ _)⟩
            have dg1 : decide (n1 < 0) = false := decide_eq_false g1
            by_cases g2 : next ≤ n1
            · have dg2 : decide (next ≤ n1) = true := decide_eq_true g2
              have HNO := Lib.hid (show ¬ TabOk next ⟨n1, l1, z1, f1, y1⟩ by unfold TabOk; simp only; omega)
              clear g1 g2
              go_wp2_with fail
              go_meet
              exact ⟨true, rfl, Lib.hid ⟨fun h => (by cases h), fun h => absurd h HNO.out⟩, Lib.hid (Below.refl _ _)⟩
            have dg2 : decide (next ≤ n1) = false := decide_eq_false g2
            by_cases g3 : l1 < 0
            · have dg3 : decide (l1 < 0) = true := decide_eq_true g3
              have HNO := Lib.hid (show ¬ TabOk next ⟨n1, l1, z1, f1, y1⟩ by unfold TabOk; simp only; omega)
              clear g1 g2 g3
              go_wp2_with fail
              go_meet
              exact ⟨true, rfl, Lib.hid ⟨fun h => (by cases h), fun h => absurd h HNO.out⟩, Lib.hid (Below.refl _ _)⟩
            have dg3 : decide (l1 < 0) = false := decide_eq_false g3
            by_cases g4 : 3 < l1
            · have dg4 : decide (3 < l1) = true := decide_eq_true g4
              have HNO := Lib.hid (show ¬ TabOk next ⟨n1, l1, z1, f1, y1⟩ by unfold TabOk; simp only; omega)
              clear g1 g2 g3 g4
              go_wp2_with fail
              go_meet
              exact ⟨true, rfl, Lib.hid ⟨fun h => (by cases h), fun h => absurd h HNO.out⟩, Lib.hid (Below.refl _ _)⟩
            have dg4 : decide (3 < l1) = false := decide_eq_false g4
            by_cases g5 : z1 < 1
            · have dg5 : decide (z1 < 1) = true := decide_eq_true g5
              have HNO := Lib.hid (show ¬ TabOk next ⟨n1, l1, z1, f1, y1⟩ by unfold TabOk; simp only; omega)
              clear g1 g2 g3 g4 g5
              go_wp2_with fail
              go_meet
              exact ⟨true, rfl, Lib.hid ⟨fun h => (by cases h), fun h => absurd h HNO.out⟩, Lib.hid (Below.refl _ _)⟩
            have dg5 : decide (z1 < 1) = false := decide_eq_false g5
            by_cases g6 : 1099511627776 < z1
            · have dg6 : decide (1099511627776 < z1) = true := decide_eq_true g6
              have HNO := Lib.hid (show ¬ TabOk next ⟨n1, l1, z1, f1, y1⟩ by unfold TabOk; simp only; omega)
              clear g1 g2 g3 g4 g5 g6
              go_wp2_with fail
              go_meet
              exact ⟨true, rfl, Lib.hid ⟨fun h => (by cases h), fun h => absurd h HNO.out⟩, Lib.hid (Below.refl _ _)⟩
            have dg6 : decide (1099511627776 < z1) = false := decide_eq_false g6
            have HCM := Lib.hid (show decide (Lib.compareBytes y1.data.toList f1.data.toList = -1) = decide (cmpS y1 f1 = -1) from rfl)
            rw [HCM.out] at CL
            clear HCM
            by_cases g7 : cmpS y1 f1 = -1
            · have HNO := Lib.hid (show ¬ TabOk next ⟨n1, l1, z1, f1, y1⟩ from fun h => h.2.2.2.2.2.2.1 g7)
              rw [decide_eq_true g7] at CL
              clear g1 g2 g3 g4 g5 g6 g7
              go_wp2_with (go_at_call 60; (with_reducible refine CL.out.mono ?_); rintro _ wy ⟨rfl, hby⟩)
              go_meet
              exact ⟨true, rfl, Lib.hid ⟨fun h => (by cases h), fun h => absurd h HNO.out⟩, Lib.hid hby⟩
            rw [decide_eq_false g7] at CL
            go_wp2_with fail
            go_at_call 60
            (with_reducible refine CL.out.mono ?_)
            rintro _ wy ⟨rfl, hby⟩
            have HBy := Lib.hid hby
            have e3 := (HT2.out.below hby).c3
            have e4 := (HT2.out.below hby).c4
            simp only at e3 e4
            clear hby CL c0 c1 c2 c3 c4 p1
            by_cases g8 : 300 < f1.size
            · have dg8 : decide (300 < (f1.size : Int)) = true := by simp; omega
              have HNO := Lib.hid (show ¬ TabOk next ⟨n1, l1, z1, f1, y1⟩ by unfold TabOk; simp only; omega)
              clear g1 g2 g3 g4 g5 g6 g7 g8
              go_wp2_with fail
              go_meet
              exact ⟨true, rfl, Lib.hid ⟨fun h => (by cases h), fun h => absurd h HNO.out⟩, HBy⟩
            have dg8 : decide (300 < (f1.size : Int)) = false := by simp; omega
            by_cases g9 : 300 < y1.size
            · have dg9 : decide (300 < (y1.size : Int)) = true := by simp; omega
              have HNO := Lib.hid (show ¬ TabOk next ⟨n1, l1, z1, f1, y1⟩ by unfold TabOk; simp only; omega)
              clear g1 g2 g3 g4 g5 g6 g7 g8 g9
              go_wp2_with fail
              go_meet
              exact ⟨true, rfl, Lib.hid ⟨fun h => (by cases h), fun h => absurd h HNO.out⟩, HBy⟩
            have dg9 : decide (300 < (y1.size : Int)) = false := by simp; omega
            have HYES := Lib.hid (show TabOk next ⟨n1, l1, z1, f1, y1⟩ by unfold TabOk; simp only; omega)
            clear g1 g2 g3 g4 g5 g6 g7 g8 g9
            go_wp2_with fail
            go_meet
            exact ⟨false, rfl, Lib.hid ⟨fun _ => HYES.out, fun _ => rfl⟩, HBy⟩
          case rest =>
            obtain ⟨c, rfl, HC, HBC⟩ := hcut
            have HBW := Lib.hid (show Below W1.heap.size W1 wc from HB2.out.trans (HBC.out.mono HB2.out.size))
            have HTC := Lib.hid (HT2.out.below HBC.out)
            clear CL c0 c1 c2 c3 c4 p1
            cases c with
            | true =>
              have HNO := Lib.hid (show ¬ RightV ⟨log, next, seq, ts⟩ from fun h => HFX.out.2 (fun hh => by
                have := HC.out.2 hh.1
                simp at this) ((HFR.out HBD.out).2 h))
              go_wp2_with fail
              go_ret
              exact ⟨false, rfl, ⟨fun h => (by cases h), fun h => absurd h HNO.out⟩, HB1.out.trans (HBW.out.mono HB1.out.size)⟩
            | false =>
              have HTO := Lib.hid (show TabOk next ⟨n1, l1, z1, f1, y1⟩ from by
                have := HC.out
                simpa using this)
              clear HC
              obtain ⟨w1, hw1⟩ : ∃ w1, w1 = wc := ⟨wc, rfl⟩
              subst hw1
              go_upto_region 10 with fail
              go_loopw [5] (fun kv wq => ∃ k : Nat, kv = .int .i64 (k : Int) ∧ k ≤ i ∧ Hid (∀ j, j < k → TwoOk (tabAt ts j) ⟨n1, l1, z1, f1, y1⟩) ∧ Hid (Below w1.heap.size w1 wq)) (fun kv _ => i - (intOf kv).toNat)
              case atStart => exact ⟨0, rfl, Nat.zero_le _, Lib.hid (fun k hk => absurd hk (Nat.not_lt_zero _)), Lib.hid (Below.refl _ _)⟩
              case round =>
                obtain ⟨k, rfl, hk, HK, HBQ⟩ := hrel
                have HB3 := Lib.hid (show Below W1.heap.size W1 wr from HBW.out.trans (HBQ.out.mono HBW.out.size))
                by_cases hki : k < i
                · have hklt : k < ts.length := by omega
                  obtain ⟨b', off', hab, hblt', hcell'⟩ := (HT.out.below HB3.out).at hklt
                  cases hab
                  have hmem' : tabAt ts k ∈ ts := by rw [tabAt_get hklt]; exact List.getElem_mem _
                  have hkx' := HOK.out _ hmem'
                  have HKX := Lib.hid (show ∀ T, tabAt ts k = T → (TwoOk T ⟨n1, l1, z1, f1, y1⟩ → ∀ j, j < k + 1 → TwoOk (tabAt ts j) ⟨n1, l1, z1, f1, y1⟩) ∧ (¬ TwoOk T ⟨n1, l1, z1, f1, y1⟩ → ¬ ∀ j, j < i → TwoOk (tabAt ts j) ⟨n1, l1, z1, f1, y1⟩) from fun T hT => by
                    subst hT
                    refine ⟨fun h j hj => ?_, fun h hf => h (hf k hki)⟩
                    by_cases e : j = k
                    · subst e; exact h
                    · exact HK.out j (by omega))
                  obtain ⟨x, hxT⟩ : ∃ x, tabAt ts k = x := ⟨_, rfl⟩
                  have HKY := Lib.hid (HKX.out x hxT)
                  rw [hxT] at hcell' hkx'
                  clear HKX hxT hmem'
                  obtain ⟨n2, l2, z2, f2, y2⟩ := x
                  have q0 : wr.cell? ⟨b, off + k * 5, none⟩ = some (.int .i64 n2) := hcell' 0 _ rfl
                  have q1 : wr.cell? ⟨b, off + k * 5 + 1, none⟩ = some (.int .i64 l2) := hcell' 1 _ rfl
                  have q2 : wr.cell? ⟨b, off + k * 5 + 2, none⟩ = some (.int .i64 z2) := hcell' 2 _ rfl
                  have q3 : wr.cell? ⟨b, off + k * 5 + 3, none⟩ = some (.string f2) := hcell' 3 _ rfl
                  have q4 : wr.cell? ⟨b, off + k * 5 + 4, none⟩ = some (.string y2) := hcell' 4 _ rfl
                  have hkI : (k : Int) < (i : Int) := by omega
                  have hkl : (k : Int) < (ts.length : Int) := by omega
                  unfold Tb.Ok maxLen at hkx'
                  simp only at hkx'
                  have hf9' : f2.size ≤ 9223372036854775807 := by omega
                  have hy9' : y2.size ≤ 9223372036854775807 := by omega
                  have p3 := (HX.out.below HB3.out).c3
                  obtain ⟨W3, hW3⟩ : ∃ W3, wr.alloc (.cells #[.int .i64 n2, .int .i64 l2, .int .i64 z2, .string f2, .string y2] 80) = W3 := ⟨_, rfl⟩
                  have b3 : Below wr.heap.size wr W3 := by rw [← hW3]; exact (Below.refl _ _).alloc (Nat.le_refl _) _
                  have HBZ := Lib.hid (show Below w1.heap.size w1 W3 from HBQ.out.trans (b3.mono HBQ.out.size))
                  have u3 : BoxB wr.heap.size ⟨n2, l2, z2, f2, y2⟩ W3 := by rw [← hW3]; exact new_block _ _ rfl
                  have HU3 := Lib.hid u3
                  have HT3 := Lib.hid (HTC.out.below HBZ.out)
                  clear hcell' hkx' b3
                  go_upto_region 13 with fail
                  try rw [hW3]
                  clear hW3 q0 q1 q2 q3 q4 p3
                  obtain ⟨Y, hY⟩ : ∃ Y, wr.heap.size = Y := ⟨_, rfl⟩
                  rw [hY] at HU3 ⊢
                  clear hY u3
                  have c0 := HT3.out.c0
                  have c1 := HT3.out.c1
                  have c3 := HT3.out.c3
                  have c4 := HT3.out.c4
                  have v0 := HU3.out.c0
                  have v1 := HU3.out.c1
                  have v3 := HU3.out.c3
                  have v4 := HU3.out.c4
                  simp only at c0 c1 c3 c4 v0 v1 v3 v4
                  have CL := Lib.hid (less_any y2 f1 W3 hy9' hf9)
                  have HCL2 := Lib.hid (fun W => less_any y1 f2 W hy9 hf9')
                  have HCM := Lib.hid (show decide (Lib.compareBytes y2.data.toList f1.data.toList = -1) = decide (cmpS y2 f1 = -1) from rfl)
                  have HCM2 := Lib.hid (show decide (Lib.compareBytes y1.data.toList f2.data.toList = -1) = decide (cmpS y1 f2 = -1) from rfl)
                  rw [HCM.out] at CL
                  rw [HCM2.out] at HCL2
                  clear HCM HCM2
                  go_cut [133] from 101 to 133 (fun v wx => ∃ c : Bool, v = .bool c ∧ Hid (c = false ↔ TwoOk ⟨n2, l2, z2, f2, y2⟩ ⟨n1, l1, z1, f1, y1⟩) ∧ Hid (Below W3.heap.size W3 wx))
                  case first =>
                    by_cases g1 : n2 = n1
                    · have HNO := Lib.hid (show ¬ TwoOk ⟨n2, l2, z2, f2, y2⟩ ⟨n1, l1, z1, f1, y1⟩ from fun h => h.1 g1)
                      have d1 : (n2 == n1) = true := by simpa using g1
                      clear g1
                      go_wp2_with fail
                      go_meet
                      exact ⟨true, rfl, Lib.hid ⟨fun h => (by cases h), fun h => absurd h HNO.out⟩, Lib.hid (Below.refl _ _)⟩
                    have d1 : (n2 == n1) = false := by simpa using g1
                    by_cases g2 : l2 = l1
                    · have d2 : (l2 == l1) = true := by simpa using g2
                      by_cases g3 : 0 < l1
                      · have d3 : decide (0 < l1) = true := decide_eq_true g3
                        by_cases g4 : cmpS y2 f1 = -1
                        · have HYES := Lib.hid (show TwoOk ⟨n2, l2, z2, f2, y2⟩ ⟨n1, l1, z1, f1, y1⟩ from ⟨g1, fun _ _ => .inl g4⟩)
                          rw [decide_eq_true g4] at CL
                          clear g1 g2 g3 g4
                          go_wp2_with (go_at_call 60; (with_reducible refine CL.out.mono ?_); rintro _ wy ⟨rfl, hby⟩)
                          go_meet
                          exact ⟨false, rfl, Lib.hid ⟨fun _ => HYES.out, fun _ => rfl⟩, Lib.hid hby⟩
                        rw [decide_eq_false g4] at CL
                        go_wp2_with fail
                        go_at_call 60
                        (with_reducible refine CL.out.mono ?_)
                        rintro _ wy ⟨rfl, hby⟩
                        have HBy := Lib.hid hby
                        have e4 := (HT3.out.below hby).c4
                        have e3 := (HU3.out.below hby).c3
                        simp only at e3 e4
                        have CL2 := Lib.hid (HCL2.out wy)
                        clear hby CL c0 c1 c3 c4 v0 v1 v3 v4
                        by_cases g5 : cmpS y1 f2 = -1
                        · have HYES := Lib.hid (show TwoOk ⟨n2, l2, z2, f2, y2⟩ ⟨n1, l1, z1, f1, y1⟩ from ⟨g1, fun _ _ => .inr g5⟩)
                          rw [decide_eq_true g5] at CL2
                          clear g1 g2 g3 g4 g5
                          go_wp2_with (go_at_call 60; (with_reducible refine CL2.out.mono ?_); rintro _ wz ⟨rfl, hbz⟩)
                          go_meet
                          exact ⟨false, rfl, Lib.hid ⟨fun _ => HYES.out, fun _ => rfl⟩, Lib.hid (HBy.out.trans (hbz.mono HBy.out.size))⟩
                        have HNO := Lib.hid (show ¬ TwoOk ⟨n2, l2, z2, f2, y2⟩ ⟨n1, l1, z1, f1, y1⟩ from fun h => by
                          rcases h.2 g2 g3 with h | h
                          · exact g4 h
                          · exact g5 h)
                        rw [decide_eq_false g5] at CL2
                        clear g1 g2 g3 g4 g5
                        go_wp2_with (go_at_call 60; (with_reducible refine CL2.out.mono ?_); rintro _ wz ⟨rfl, hbz⟩)
                        go_meet
                        exact ⟨true, rfl, Lib.hid ⟨fun h => (by cases h), fun h => absurd h HNO.out⟩, Lib.hid (HBy.out.trans (hbz.mono HBy.out.size))⟩
                      · have HYES := Lib.hid (show TwoOk ⟨n2, l2, z2, f2, y2⟩ ⟨n1, l1, z1, f1, y1⟩ from ⟨g1, fun _ h => absurd h g3⟩)
                        have d3 : decide (0 < l1) = false := decide_eq_false g3
                        clear g1 g2 g3
                        go_wp2_with fail
                        go_meet
                        exact ⟨false, rfl, Lib.hid ⟨fun _ => HYES.out, fun _ => rfl⟩, Lib.hid (Below.refl _ _)⟩
                    · have HYES := Lib.hid (show TwoOk ⟨n2, l2, z2, f2, y2⟩ ⟨n1, l1, z1, f1, y1⟩ from ⟨g1, fun h _ => absurd h g2⟩)
                      have d2 : (l2 == l1) = false := by simpa using g2
                      clear g1 g2
                      go_wp2_with fail
                      go_meet
                      exact ⟨false, rfl, Lib.hid ⟨fun _ => HYES.out, fun _ => rfl⟩, Lib.hid (Below.refl _ _)⟩
                  case rest =>
                    obtain ⟨c, rfl, HC, HBC2⟩ := hcut
                    have HBV := Lib.hid (show Below w1.heap.size w1 wc from HBZ.out.trans (HBC2.out.mono HBZ.out.size))
                    clear CL HCL2 c0 c1 c3 c4 v0 v1 v3 v4
                    cases c with
                    | true =>
                      have HNO := Lib.hid (show ¬ RightV ⟨log, next, seq, ts⟩ from fun h => HFX.out.2 (fun hh => HKY.out.2 (fun h2 => by
                        have := HC.out.2 h2
                        simp at this) hh.2) ((HFR.out HBD.out).2 h))
                      go_wp2_with fail
                      go_ret
                      exact ⟨false, rfl, ⟨fun h => (by cases h), fun h => absurd h HNO.out⟩, HB1.out.trans ((HBW.out.trans (HBV.out.mono HBW.out.size)).mono HB1.out.size)⟩
                    | false =>
                      have HTW := Lib.hid (HKY.out.1 (by
                        have := HC.out
                        simpa using this))
                      clear HC
                      go_wp2_with fail
                      go_roundw
                      case rel => exact ⟨k + 1, by go_num, by omega, HTW, HBV⟩
                      case measure => simp [intOf]; omega
                · obtain rfl : k = i := by omega
                  have HFN := Lib.hid (HFX.out.1 ⟨HTO.out, HK.out⟩)
                  have dki : decide ((k : Int) < (k : Int)) = false := by simp
                  go_wp2_with fail
                  go_roundw
                  case rel => exact ⟨k + 1, by go_num, by omega, HFN, HB3⟩
                  case measure => simp [intOf]; omega
        · obtain rfl : i = ts.length := by omega
          have HYES := Lib.hid ((HFR.out HBD.out).1 HF.out)
          have hd : decide ((ts.length : Int) < (ts.length : Int)) = false := by simp
          clear hx
          go_wp2_with fail
          go_ret
          exact ⟨true, rfl, ⟨fun _ => HYES.out, fun _ => rfl⟩, HB1.out.trans (HBL.out.mono HB1.out.size)⟩
end Go.Proofs.YtmcgfafkggannaaGreat

namespace Go.Proofs.YtmcgfafkggannaaGreat
open Go.RowKit Go.Shelf

theorem contains_snoc (ks : List Int) (k n : Int) : (ks ++ [k]).contains n = (ks.contains n || (n == k)) := by
  rw [Bool.eq_iff_iff]
  simp
theorem BoxR.set4 {X : Nat} {l n : Int} {q : Nat} {v : Value} {W : World} (h : BoxR X l n q v W) (M1 M2 : Int) (M3 : Nat) (r : Value) : BoxR X M1 M2 M3 r ((((W.setCell ⟨X, 0, none⟩ (.int .i64 M1)).setCell ⟨X, 1, none⟩ (.int .i64 M2)).setCell ⟨X, 2, none⟩ (.int .u64 (M3 : Int))).setCell ⟨X, 3, none⟩ r) := by
  have h0 := heap_setCell_same W X 0 _ _ (.int .i64 M1) h
  have h1 := heap_setCell_same _ X 1 _ _ (.int .i64 M2) h0
  have h2 := heap_setCell_same _ X 2 _ _ (.int .u64 (M3 : Int)) h1
  exact (heap_setCell_same _ X 3 _ _ r h2).trans rfl
theorem bt12 {a b c : World} (h : Below a.heap.size a b) (k : Below b.heap.size b c) : Below a.heap.size a c := h.trans (k.mono h.size)
theorem alloc_b (w : World) (o : Obj) : Below w.heap.size w (w.alloc o) := (Below.refl _ _).alloc (Nat.le_refl _) _
theorem left_snoc (ts : List Tb) (x : Tb) (ks : List Int) : leftT (ts ++ [x]) ks = leftT ts ks ++ (if ks.contains x.n then [] else [x]) := leftT_snoc ts x ks
set_option maxHeartbeats 16000000 in
set_option maxRecDepth 100000 in
theorem rapply_any (v : Vr) (e : Ed) (vv va vd : Value) (w : World) (hT : TbsV w vv v.ts) (hA : TbsV w va e.add) (hD : IntsV w vd e.drop) (hl : v.ts.length ≤ 4000) (hl1 : e.add.length ≤ 4000) (hl2 : e.drop.length ≤ 10000)
    (hok : ∀ t ∈ v.ts, t.Ok) (hok1 : ∀ t ∈ e.add, t.Ok) :
    Calls Tryz.prog 15 #[verV v.log v.next v.seq vv, ediV e.log e.next e.seq va vd] w fun x w' => ApplyV w w' x v e ∧ Below w.heap.size w w' := by
  obtain ⟨log, next, seq, ts⟩ := v
  obtain ⟨elog, enext, eseq, add, drop⟩ := e
  simp only at hT hA hD hl hl1 hl2 hok hok1 ⊢
  obtain ⟨ta, tc, rfl⟩ := hT.len
  obtain ⟨aa, ac, rfl⟩ := hA.len
  obtain ⟨da, dc, rfl⟩ := hD.len
  obtain ⟨M1, hM1⟩ : ∃ M, max log elog = M := ⟨_, rfl⟩
  obtain ⟨M2, hM2⟩ : ∃ M, max next enext = M := ⟨_, rfl⟩
  obtain ⟨M3, hM3⟩ : ∃ M, max seq eseq = M := ⟨_, rfl⟩
  have hx1 : ∀ (ts : Array TypeId) (t : TypeId) (w : World), (Builtin.max_ ts t #[.int .i64 log, .int .i64 elog]).run Tryz.prog w = .ok (.int .i64 M1) w := fun ts t w => by
    rw [run_max_int2]; congr 2; split <;> omega
  have hx2 : ∀ (ts : Array TypeId) (t : TypeId) (w : World), (Builtin.max_ ts t #[.int .i64 next, .int .i64 enext]).run Tryz.prog w = .ok (.int .i64 M2) w := fun ts t w => by
    rw [run_max_int2]; congr 2; split <;> omega
  have hx3 : ∀ (ts : Array TypeId) (t : TypeId) (w : World), (Builtin.max_ ts t #[.int .u64 (seq : Int), .int .u64 (eseq : Int)]).run Tryz.prog w = .ok (.int .u64 (M3 : Int)) w := fun ts t w => by
    rw [run_max_int2]; congr 2; split <;> omega
  have HNV := Lib.hid (show nextV ⟨log, next, seq, ts⟩ ⟨elog, enext, eseq, add, drop⟩ = ⟨M1, M2, M3, ordT (leftT ts drop ++ add)⟩ by unfold nextV; rw [hM1, hM2, hM3])
  obtain ⟨W1, hW1⟩ : ∃ W1, ((w.alloc (.cells #[.int .i64 log, .int .i64 next, .int .u64 (seq : Int), .slice ta ts.length tc] 63)).alloc (.cells #[.int .i64 elog, .int .i64 enext, .int .u64 (eseq : Int), .slice aa add.length ac, .slice da drop.length dc] 55)).alloc (.cells #[.int .i64 0, .int .i64 0, .int .u64 0, .slice none 0 0] 63) = W1 := ⟨_, rfl⟩
  have b1 : Below w.heap.size w W1 := by rw [← hW1]; exact (((Below.refl _ _).alloc (Nat.le_refl _) _).alloc (by simp) _).alloc (by simp; omega) _
  have x1 : BoxR w.heap.size log next seq (.slice ta ts.length tc) W1 := by rw [← hW1]; exact (Below.heap_alloc _ _ _ (by simp; omega)).trans ((Below.heap_alloc _ _ _ (by simp)).trans (new_block _ _ rfl))
  have y1 : BoxRE (w.heap.size + 1) elog enext eseq (.slice aa add.length ac) (.slice da drop.length dc) W1 := by rw [← hW1]; exact (Below.heap_alloc _ _ _ (by simp)).trans (new_block _ _ (by simp))
  have z1 : BoxR (w.heap.size + 2) 0 0 0 (.slice none 0 0) W1 := by rw [← hW1]; exact new_block _ _ (by simp)
  have s1 : W1.heap.size = w.heap.size + 3 := by rw [← hW1]; simp
  have HX := Lib.hid x1
  have HY := Lib.hid y1
  have HZ := Lib.hid z1
  have HS1 := Lib.hid s1
  have HB1 := Lib.hid b1
  have HT := Lib.hid (hT.below b1)
  have HA := Lib.hid (hA.below b1)
  have HD := Lib.hid (hD.below b1)
  have HOK := Lib.hid hok
  have HOK1 := Lib.hid hok1
  have HBX := Lib.hid (show ∀ W, Below W1.heap.size W1 W → Below w.heap.size w W from fun W h => b1.trans (h.mono b1.size))
  obtain ⟨i0, hi0, hz0, hzs, hzb⟩ := info_parts infoTab
  clear hT hA hD hok hok1 b1 x1 y1 z1 s1 hM1 hM2 hM3
  unfold verV ediV
  go_enter Tryz.func15, Tryz.ntmps15
  go_upto_region 3 with fail
  try rw [hW1]
  clear hW1
  go_loopw [7] (fun iv wr => ∃ i : Nat, iv = .int .i64 (i : Int) ∧ i ≤ drop.length ∧ Hid (∀ n ∈ drop.take i, there ts n = true) ∧ Hid (Below W1.heap.size W1 wr)) (fun iv _ => drop.length - (intOf iv).toNat)
  case atStart => exact ⟨0, rfl, Nat.zero_le _, Lib.hid (fun n hn => by simp at hn), Lib.hid (Below.refl _ _)⟩
  case round =>
    obtain ⟨i, rfl, hi, HTH, HBL⟩ := hrel
    have y4 := (HY.out.below HBL.out).c4
    by_cases hlt : i < drop.length
    · obtain ⟨bd, od, rfl, hbd, hcd⟩ := (HD.out.below HBL.out).at hlt
      have HTS := Lib.hid (show there ts (intAt drop i) = true → ∀ n ∈ drop.take (i + 1), there ts n = true from fun h n hn => by
        rw [take_snocI hlt] at hn
        rcases List.mem_append.1 hn with hn | hn
        · exact HTH.out n hn
        · simp at hn; rw [hn]; exact h)
      have HNT := Lib.hid (show there ts (intAt drop i) = false → ¬ Applies ⟨log, next, seq, ts⟩ ⟨elog, enext, eseq, add, drop⟩ from fun h hq => by
        have := hq.1 (intAt drop i) (by rw [intAt_get hlt]; exact List.getElem_mem _)
        simp only at this
        rw [h] at this
        cases this)
      generalize intAt drop i = d at *
      have hiI : (i : Int) < (drop.length : Int) := by omega
      obtain ⟨w1, hw1⟩ : ∃ w1, w1 = wr := ⟨wr, rfl⟩
      subst hw1
      go_upto_region 7 with fail
      go_loopw [8, 9] (fun tv kv wq => ∃ k : Nat, tv = .bool (there (ts.take k) d) ∧ kv = .int .i64 (k : Int) ∧ k ≤ ts.length ∧ Hid (Below w1.heap.size w1 wq)) (fun _ kv _ => ts.length - (intOf kv).toNat)
      case atStart => exact ⟨0, rfl, rfl, Nat.zero_le _, Lib.hid (Below.refl _ _)⟩
      case round =>
        obtain ⟨k, rfl, rfl, hk, HBQ⟩ := hrel
        have HB3 := Lib.hid (show Below W1.heap.size W1 wr from HBL.out.trans (HBQ.out.mono HBL.out.size))
        have p3 := (HX.out.below HB3.out).c3
        have y4' := (HY.out.below HB3.out).c4
        have hcd' : wr.cell? ⟨bd, od + i, none⟩ = some (.int .i64 d) := (HBQ.out.cell (p := ⟨bd, od + i, none⟩) hbd).trans hcd
        by_cases hkl : k < ts.length
        · obtain ⟨bt, ot, rfl, hbt, hct⟩ := (HT.out.below HB3.out).at hkl
          have HSN := Lib.hid (show there (ts.take (k + 1)) d = (there (ts.take k) d || ((tabAt ts k).n == d)) by rw [take_snocT hkl, there_snoc])
          have q0 : wr.cell? ⟨bt, ot + k * 5, none⟩ = some (.int .i64 (tabAt ts k).n) := hct 0 _ rfl
          generalize (tabAt ts k).n = n1 at *
          have hkI : (k : Int) < (ts.length : Int) := by omega
          clear hct
          cases hth : there (ts.take k) d with
          | false =>
            rw [hth] at HSN
            go_wp2_with fail
            go_quiet (fail)
            go_wp2_with fail
            go_roundw
            case rel => exact ⟨k + 1, by rw [HSN.out]; rfl, by go_num, by omega, Lib.hid (belowN HBQ.out _)⟩
            case measure => simp [intOf]; omega
          | true =>
            rw [hth] at HSN
            go_wp2_with fail
            go_quiet (fail)
            go_wp2_with fail
            go_roundw
            case rel => exact ⟨k + 1, by rw [HSN.out]; rfl, by go_num, by omega, Lib.hid (belowN HBQ.out _)⟩
            case measure => simp [intOf]; omega
        · obtain rfl : k = ts.length := by omega
          have hd : decide ((ts.length : Int) < (ts.length : Int)) = false := by simp
          rw [List.take_length]
          cases hth : there ts d with
          | false =>
            have HNA := Lib.hid (HNT.out hth)
            have z2 := HZ.out.below HB3.out
            have r0 := z2.c0
            have r1 := z2.c1
            have r2 := z2.c2
            have r3 := z2.c3
            have g0 := z2.f 0
            have g1 := z2.f 1
            have g2 := z2.f 2
            have g3 := z2.f 3
            clear z2 hth
            go_wp2_with fail
            refine bodyPost_ret (by simp [results, Tryz.results15, go_sem, r0, r1, r2, r3]; try rfl) rfl ?_
            exact ⟨.inl ⟨HNA.out, rfl⟩, below_set4 (HBX.out _ HB3.out) _ (by omega) _ _ _ _⟩
          | true =>
            have HTN := Lib.hid (HTS.out hth)
            clear hth
            go_wp2_with fail
            go_roundw
            case rel => exact ⟨i + 1, by go_num, by omega, HTN, HB3⟩
            case measure => simp [intOf]; omega
    · obtain rfl : i = drop.length := by omega
      rw [List.take_length] at HTH
      have hd : decide ((drop.length : Int) < (drop.length : Int)) = false := by simp
      go_upto_region 13 with fail
      clear y4
      go_loopw [6, 10] (fun lv kv wr => ∃ (k : Nat) (V : Value), V = lv ∧ kv = .int .i64 (k : Int) ∧ k ≤ ts.length ∧ Hid (RowB wr V (leftT (ts.take k) drop)) ∧ Hid (∀ q, ob V = some q → W1.heap.size ≤ q) ∧ Hid (Below W1.heap.size W1 wr)) (fun _ kv _ => ts.length - (intOf kv).toNat)
      case atStart => exact ⟨0, _, rfl, rfl, Nat.zero_le _, Lib.hid (row_nilB _), Lib.hid (fun q hq => by simp [ob] at hq), HBL⟩
      case round =>
        clear HBL
        obtain ⟨k, V, rfl, rfl, hk, HR, HOB, HBL⟩ := hrel
        have p3 := (HX.out.below HBL.out).c3
        by_cases hkl : k < ts.length
        · obtain ⟨bt, ot, rfl, hbt, hct⟩ := (HT.out.below HBL.out).at hkl
          have HLS := Lib.hid (show leftT (ts.take (k + 1)) drop = leftT (ts.take k) drop ++ (if drop.contains (tabAt ts k).n then [] else [tabAt ts k]) by rw [take_snocT hkl, left_snoc])
          have hll : (leftT (ts.take k) drop).length ≤ 4000 := by
            have h1 := leftT_len (ts.take k) drop
            rw [List.length_take] at h1
            omega
          generalize leftT (ts.take k) drop = L at *
          generalize tabAt ts k = x at *
          obtain ⟨n1, l1, z1, f1, g1⟩ := x
          have hkI : (k : Int) < (ts.length : Int) := by omega
          obtain ⟨w1, hw1⟩ : ∃ w1, w1 = wr := ⟨wr, rfl⟩
          subst hw1
          go_upto_region 17 with fail
          go_loopw [11, 12] (fun gv iv wq => ∃ i : Nat, gv = .bool ((drop.take i).contains n1) ∧ iv = .int .i64 (i : Int) ∧ i ≤ drop.length ∧ Hid (Below w1.heap.size w1 wq)) (fun _ iv _ => drop.length - (intOf iv).toNat)
          case atStart => exact ⟨0, rfl, rfl, Nat.zero_le _, Lib.hid (Below.refl _ _)⟩
          case round =>
            obtain ⟨i, rfl, rfl, hi', HBQ⟩ := hrel
            have HB3 := Lib.hid (show Below W1.heap.size W1 wr from HBL.out.trans (HBQ.out.mono HBL.out.size))
            have p3' := (HX.out.below HB3.out).c3
            have y4' := (HY.out.below HB3.out).c4
            have q0 : wr.cell? ⟨bt, ot + k * 5, none⟩ = some (.int .i64 n1) := (HBQ.out.cell (p := ⟨bt, ot + k * 5, none⟩) hbt).trans (hct 0 _ rfl)
            have q1 : wr.cell? ⟨bt, ot + k * 5 + 1, none⟩ = some (.int .i64 l1) := (HBQ.out.cell (p := ⟨bt, ot + k * 5 + 1, none⟩) hbt).trans (hct 1 _ rfl)
            have q2 : wr.cell? ⟨bt, ot + k * 5 + 2, none⟩ = some (.int .i64 z1) := (HBQ.out.cell (p := ⟨bt, ot + k * 5 + 2, none⟩) hbt).trans (hct 2 _ rfl)
            have q3 : wr.cell? ⟨bt, ot + k * 5 + 3, none⟩ = some (.string f1) := (HBQ.out.cell (p := ⟨bt, ot + k * 5 + 3, none⟩) hbt).trans (hct 3 _ rfl)
            have q4 : wr.cell? ⟨bt, ot + k * 5 + 4, none⟩ = some (.string g1) := (HBQ.out.cell (p := ⟨bt, ot + k * 5 + 4, none⟩) hbt).trans (hct 4 _ rfl)
            by_cases hil : i < drop.length
            · obtain ⟨bd, od, rfl, hbd, hcd⟩ := (HD.out.below HB3.out).at hil
              have HSN := Lib.hid (show (drop.take (i + 1)).contains n1 = ((drop.take i).contains n1 || (n1 == intAt drop i)) by rw [take_snocI hil, contains_snoc])
              generalize intAt drop i = d at *
              have hiI : (i : Int) < (drop.length : Int) := by omega
              cases hth : (drop.take i).contains n1 with
              | false =>
                rw [hth] at HSN
                go_wp2_with fail
                go_quiet (fail)
                go_wp2_with fail
                go_roundw
                case rel => exact ⟨i + 1, by rw [HSN.out]; rfl, by go_num, by omega, Lib.hid (belowN HBQ.out _)⟩
                case measure => simp [intOf]; omega
              | true =>
                rw [hth] at HSN
                go_wp2_with fail
                go_quiet (fail)
                go_wp2_with fail
                go_roundw
                case rel => exact ⟨i + 1, by rw [HSN.out]; rfl, by go_num, by omega, Lib.hid (belowN HBQ.out _)⟩
                case measure => simp [intOf]; omega
            · obtain rfl : i = drop.length := by omega
              have hd : decide ((drop.length : Int) < (drop.length : Int)) = false := by simp
              rw [List.take_length]
              have HR3 := Lib.hid (show RowB wr V L from Row.kept HR.out (fun q hq => HBQ.out.block q (Row.lt HR.out q hq)))
              cases hth : drop.contains n1 with
              | true =>
                have HRN := Lib.hid (show RowB wr V (leftT (ts.take (k + 1)) drop) by
                  rw [HLS.out]
                  rw [hth, if_pos rfl, List.append_nil]
                  exact HR3.out)
                clear hth
                go_wp2_with fail
                go_roundw
                case rel => exact ⟨k + 1, V, rfl, by go_num, by omega, HRN, HOB, HB3⟩
                case measure => simp [intOf]; omega
              | false =>
                have HLN := Lib.hid (show leftT (ts.take (k + 1)) drop = L ++ [⟨n1, l1, z1, f1, g1⟩] by
                  rw [HLS.out]
                  rw [hth, if_neg (by simp)])
                have H1 := Lib.hid (show L.length + 1 ≤ maxLen by unfold maxLen; omega)
                have H2 := Lib.hid (show (L.length + 1) * 56 ≤ 140737488355328 by omega)
                clear hth
                go_wp2_with (at_builtin; refine wpList_append_row _ rfl _ _ 23 23 rfl 80 i0 _ 5 56 Tryz.underlying23 hi0 hz0 hzs hzb rfl V _ _ rfl (rowT_new HR3.out _) _ rfl 1 _ (srcT_new ⟨n1, l1, z1, f1, g1⟩ wr) H1.out H2.out ?_; intro v7 w3 hrow3 hgrow3 hob3)
                have HRN := Lib.hid (show RowB w3 v7 (leftT (ts.take (k + 1)) drop) by
                  rw [HLN.out]
                  unfold RowB
                  rw [List.length_append, cellsT_append, cellsT_one]
                  exact hrow3)
                have hs3 := HB3.out.size
                have HOB3 := Lib.hid (show ∀ q, ob v7 = some q → W1.heap.size ≤ q from fun q hq => ob_nextT hob3 (by simp; omega) HOB.out q hq)
                have HB4 := Lib.hid (show Below W1.heap.size W1 w3 from below_rowT (HB3.out.alloc HB3.out.size _) (Nat.le_refl _) hgrow3 HOB.out)
                clear hrow3 hgrow3 hob3 hs3
                go_wp2_with fail
                go_roundw
                case rel => exact ⟨k + 1, v7, rfl, by go_num, by omega, HRN, HOB3, HB4⟩
                case measure => simp [intOf]; omega
        · obtain rfl : k = ts.length := by omega
          rw [List.take_length] at HR
          have hd : decide ((ts.length : Int) < (ts.length : Int)) = false := by simp
          obtain ⟨L, hL⟩ : ∃ L, leftT ts drop = L := ⟨_, rfl⟩
          have hLl : L.length ≤ 4000 := by rw [← hL]; exact Nat.le_trans (leftT_len _ _) hl
          have HLO := Lib.hid (show ∀ t ∈ L ++ add, t.Ok from fun t ht => by
            rcases List.mem_append.1 ht with h | h
            · exact HOK.out t (List.mem_filter.1 (by rw [← hL] at h; exact h)).1
            · exact HOK1.out t h)
          rw [hL] at HR HNV
          clear hL
          obtain ⟨a6, c6, rfl⟩ := HR.out.short
          go_upto_region 22 with fail
          have HORD := Lib.hid (show ∀ (V : Value) (W : World), TbsV W V (L ++ add) → Calls Tryz.prog 54 #[V] W fun e w' => ∃ a8 c8, e = .returned (.slice a8 (ordT (L ++ add)).length c8) ∧ RowB w' (.slice a8 (ordT (L ++ add)).length c8) (ordT (L ++ add)) ∧ (∀ k, ob (.slice a8 (ordT (L ++ add)).length c8) = some k → W.heap.size ≤ k) ∧ Below W.heap.size W w' from fun V W h => by
            refine (ordered_any V (L ++ add) W h (by rw [List.length_append]; omega) HLO.out).mono ?_
            rintro _ w' ⟨r, rfl, h1, h2, h3⟩
            obtain ⟨a8, c8, rfl⟩ := h1.short
            exact ⟨a8, c8, rfl, h1, h2, h3⟩)
          have HXC := Lib.hid (show ∀ W, Below W1.heap.size W1 W → W.cell? ⟨w.heap.size, 0, none⟩ = some (.int .i64 log) ∧ W.cell? ⟨w.heap.size, 1, none⟩ = some (.int .i64 next) ∧ W.cell? ⟨w.heap.size, 2, none⟩ = some (.int .u64 (seq : Int)) ∧ W.cell? ⟨w.heap.size + 1, 0, none⟩ = some (.int .i64 elog) ∧ W.cell? ⟨w.heap.size + 1, 1, none⟩ = some (.int .i64 enext) ∧ W.cell? ⟨w.heap.size + 1, 2, none⟩ = some (.int .u64 (eseq : Int)) ∧ W.cell? ⟨w.heap.size + 1, 3, none⟩ = some (.slice aa add.length ac) from fun W h => ⟨(HX.out.below h).c0, (HX.out.below h).c1, (HX.out.below h).c2, (HY.out.below h).c0, (HY.out.below h).c1, (HY.out.below h).c2, (HY.out.below h).c3⟩)
          have HRV := Lib.hid (show ∀ (V : Value) (W : World), Row W 80 5 V (L.length + add.length) (cellsT L ++ cellsT add) → TbsV W V (L ++ add) from fun V W h => by
            refine RowB.v (?_ : RowB W V (L ++ add))
            unfold RowB
            rw [List.length_append, cellsT_append]
            exact h)
          have HSR := Lib.hid (show ∀ W, Below W1.heap.size W1 W → Src Tryz.prog 5 23 (.slice aa add.length ac) add.length (cellsT add) W from fun W h => (HA.out.below h).src)
          have H1 := Lib.hid (show L.length + add.length ≤ maxLen by unfold maxLen; omega)
          have H2 := Lib.hid (show (L.length + add.length) * 56 ≤ 140737488355328 by omega)
          obtain ⟨wt, hwt⟩ : ∃ wt, wt = wr := ⟨wr, rfl⟩
          subst hwt
          have HB0 := Lib.hid (show Below W1.heap.size W1 wt.drew from HBL.out.drew)
          have HBa := Lib.hid (show ∀ o, Below W1.heap.size W1 (wt.alloc o).drew from fun o => (HBL.out.alloc HBL.out.size o).drew)
          obtain ⟨e0, e1, e2, e3, e4, e5, e6⟩ := HXC.out _ HB0.out
          clear p3
          go_cut [13] from 85 to 105 (fun v13 wx => ∃ (X : Nat) (r : Value), v13 = .pointer (some ⟨X, 0, none⟩) ∧ Hid (BoxR X M1 M2 M3 r wx) ∧ Hid (RowB wx r (ordT (L ++ add))) ∧ Hid (∀ q, ob r = some q → W1.heap.size ≤ q ∧ q ≠ X) ∧ Hid (W1.heap.size ≤ X) ∧ Hid (Below W1.heap.size W1 wx))
          case first =>
            --BEGIN22
            have u1 : (fun W => W.cell? ⟨w.heap.size, 0, none⟩ = some (.int .i64 log) ∧ W.cell? ⟨w.heap.size, 1, none⟩ = some (.int .i64 next) ∧ W.cell? ⟨w.heap.size, 2, none⟩ = some (.int .u64 (seq : Int)) ∧ W.cell? ⟨w.heap.size + 1, 0, none⟩ = some (.int .i64 elog) ∧ W.cell? ⟨w.heap.size + 1, 1, none⟩ = some (.int .i64 enext) ∧ W.cell? ⟨w.heap.size + 1, 2, none⟩ = some (.int .u64 (eseq : Int)) ∧ W.cell? ⟨w.heap.size + 1, 3, none⟩ = some (.slice aa add.length ac)) wt.drew := ⟨e0, e1, e2, e3, e4, e5, e6⟩
            refine wp_region_noPanic ?_
            refine wp_region_held (S := (fun W => W.cell? ⟨w.heap.size, 0, none⟩ = some (.int .i64 log) ∧ W.cell? ⟨w.heap.size, 1, none⟩ = some (.int .i64 next) ∧ W.cell? ⟨w.heap.size, 2, none⟩ = some (.int .u64 (seq : Int)) ∧ W.cell? ⟨w.heap.size + 1, 0, none⟩ = some (.int .i64 elog) ∧ W.cell? ⟨w.heap.size + 1, 1, none⟩ = some (.int .i64 enext) ∧ W.cell? ⟨w.heap.size + 1, 2, none⟩ = some (.int .u64 (eseq : Int)) ∧ W.cell? ⟨w.heap.size + 1, 3, none⟩ = some (.slice aa add.length ac))) (by kernel_rfl) ?_
            refine wpAnyH_take (i := 0) (v := ?_) rfl (by kernel_rfl) (by kernel_rfl) (by kernel_rfl) (fun _ _ _ h => h) (Or.inl ⟨by rfl, ?_⟩) u1 ?_
            rotate_left
            focus (simp only [List.getElem_toArray, List.getElem_cons_zero]; intro w' hS; obtain ⟨s0, s1, s2, s3, s4, s5, s6⟩ := hS; first | (go_simp; done) | (go_simp; with_reducible rfl))
            simp only [List.getElem_toArray, List.getElem_cons_zero, Act.put, List.setIfInBounds_toArray, List.set_cons_zero, List.set_cons_succ]
            refine wpAnyH_take (i := 1) (v := ?_) rfl (by kernel_rfl) (by kernel_rfl) (by kernel_rfl) (fun _ _ _ h => h) (Or.inl ⟨by rfl, ?_⟩) u1 ?_
            rotate_left
            focus (simp only [List.getElem_toArray, List.getElem_cons_succ, List.getElem_cons_zero]; intro w' hS; obtain ⟨s0, s1, s2, s3, s4, s5, s6⟩ := hS; first | (go_simp; done) | (go_simp; with_reducible rfl))
            simp only [List.getElem_toArray, List.getElem_cons_succ, List.getElem_cons_zero, Act.put, List.setIfInBounds_toArray, List.set_cons_zero, List.set_cons_succ]
            refine wpAnyH_take (i := 2) (v := ?_) rfl (by kernel_rfl) (by kernel_rfl) (by kernel_rfl) (fun _ _ _ h => h) (Or.inl ⟨by rfl, ?_⟩) u1 ?_
            rotate_left
            focus (simp only [List.getElem_toArray, List.getElem_cons_succ, List.getElem_cons_zero]; intro w' hS; obtain ⟨s0, s1, s2, s3, s4, s5, s6⟩ := hS; first | (go_simp; done) | (go_simp; with_reducible rfl))
            simp only [List.getElem_toArray, List.getElem_cons_succ, List.getElem_cons_zero, Act.put, List.setIfInBounds_toArray, List.set_cons_zero, List.set_cons_succ]
            refine wpAnyH_take (i := 3) (v := ?_) rfl (by kernel_rfl) (by kernel_rfl) (by kernel_rfl) (fun _ _ _ h => h) (Or.inl ⟨by rfl, ?_⟩) u1 ?_
            rotate_left
            focus (simp only [List.getElem_toArray, List.getElem_cons_succ, List.getElem_cons_zero]; intro w' hS; obtain ⟨s0, s1, s2, s3, s4, s5, s6⟩ := hS; first | (go_simp; done) | (go_simp; with_reducible rfl))
            simp only [List.getElem_toArray, List.getElem_cons_succ, List.getElem_cons_zero, Act.put, List.setIfInBounds_toArray, List.set_cons_zero, List.set_cons_succ]
            refine wpAnyH_take (i := 4) (v := ?_) rfl (by kernel_rfl) (by kernel_rfl) (by kernel_rfl) (fun _ _ _ h => h) (Or.inl ⟨by rfl, ?_⟩) u1 ?_
            rotate_left
            focus (simp only [List.getElem_toArray, List.getElem_cons_succ, List.getElem_cons_zero]; intro w' hS; obtain ⟨s0, s1, s2, s3, s4, s5, s6⟩ := hS; first | (go_simp; done) | (go_simp; with_reducible rfl))
            simp only [List.getElem_toArray, List.getElem_cons_succ, List.getElem_cons_zero, Act.put, List.setIfInBounds_toArray, List.set_cons_zero, List.set_cons_succ]
            refine wpAnyH_take (i := 5) (v := ?_) rfl (by kernel_rfl) (by kernel_rfl) (by kernel_rfl) (fun _ _ _ h => h) (Or.inl ⟨by rfl, ?_⟩) u1 ?_
            rotate_left
            focus (simp only [List.getElem_toArray, List.getElem_cons_succ, List.getElem_cons_zero]; intro w' hS; obtain ⟨s0, s1, s2, s3, s4, s5, s6⟩ := hS; first | (go_simp; done) | (go_simp; with_reducible rfl))
            simp only [List.getElem_toArray, List.getElem_cons_succ, List.getElem_cons_zero, Act.put, List.setIfInBounds_toArray, List.set_cons_zero, List.set_cons_succ]
            refine wpAnyH_take (i := 6) (v := ?_) rfl (by kernel_rfl) (by kernel_rfl) (by kernel_rfl) (fun _ _ _ h => h) (Or.inl ⟨by rfl, ?_⟩) u1 ?_
            rotate_left
            focus (simp only [List.getElem_toArray, List.getElem_cons_succ, List.getElem_cons_zero]; intro w' hS; obtain ⟨s0, s1, s2, s3, s4, s5, s6⟩ := hS; first | (go_simp; done) | (go_simp; with_reducible rfl))
            simp only [List.getElem_toArray, List.getElem_cons_succ, List.getElem_cons_zero, Act.put, List.setIfInBounds_toArray, List.set_cons_zero, List.set_cons_succ]
            refine wpAnyH_take (i := 7) (v := ?_) rfl (by kernel_rfl) (by kernel_rfl) (by kernel_rfl) (fun _ _ _ h => h) (Or.inl ⟨by rfl, ?_⟩) u1 ?_
            rotate_left
            focus (simp only [List.getElem_toArray, List.getElem_cons_succ, List.getElem_cons_zero]; intro w' hS; obtain ⟨s0, s1, s2, s3, s4, s5, s6⟩ := hS; first | (go_simp; done) | (go_simp; with_reducible rfl))
            simp only [List.getElem_toArray, List.getElem_cons_succ, List.getElem_cons_zero, Act.put, List.setIfInBounds_toArray, List.set_cons_zero, List.set_cons_succ]
            refine wpAnyH_take (i := 8) (v := ?_) rfl (by kernel_rfl) (by kernel_rfl) (by kernel_rfl) (fun _ _ _ h => h) (Or.inl ⟨by rfl, ?_⟩) u1 ?_
            rotate_left
            focus (simp only [List.getElem_toArray, List.getElem_cons_succ, List.getElem_cons_zero]; intro w' hS; obtain ⟨s0, s1, s2, s3, s4, s5, s6⟩ := hS; first | (go_simp; done) | (go_simp; with_reducible rfl))
            simp only [List.getElem_toArray, List.getElem_cons_succ, List.getElem_cons_zero, Act.put, List.setIfInBounds_toArray, List.set_cons_zero, List.set_cons_succ]
            refine wpAnyH_take (i := 9) (v := ?_) rfl (by kernel_rfl) (by kernel_rfl) (by kernel_rfl) (fun _ _ _ h => h) (Or.inl ⟨by rfl, ?_⟩) u1 ?_
            rotate_left
            focus (simp only [List.getElem_toArray, List.getElem_cons_succ, List.getElem_cons_zero]; intro w' hS; obtain ⟨s0, s1, s2, s3, s4, s5, s6⟩ := hS; first | (go_simp; done) | (go_simp; with_reducible rfl))
            simp only [List.getElem_toArray, List.getElem_cons_succ, List.getElem_cons_zero, Act.put, List.setIfInBounds_toArray, List.set_cons_zero, List.set_cons_succ]
            refine wpAnyH_take (i := 10) (v := ?_) rfl (by kernel_rfl) (by kernel_rfl) (by kernel_rfl) (fun _ _ _ h => h) (Or.inl ⟨by rfl, ?_⟩) u1 ?_
            rotate_left
            focus (simp only [List.getElem_toArray, List.getElem_cons_succ, List.getElem_cons_zero]; intro w' hS; obtain ⟨s0, s1, s2, s3, s4, s5, s6⟩ := hS; first | (go_simp; done) | (go_simp; with_reducible rfl))
            simp only [List.getElem_toArray, List.getElem_cons_succ, List.getElem_cons_zero, Act.put, List.setIfInBounds_toArray, List.set_cons_zero, List.set_cons_succ]
            refine wpAnyH_take (i := 11) (v := ?_) rfl (by kernel_rfl) (by kernel_rfl) (by kernel_rfl) (fun _ _ _ h => h) (Or.inl ⟨by rfl, ?_⟩) u1 ?_
            rotate_left
            focus (simp only [List.getElem_toArray, List.getElem_cons_succ, List.getElem_cons_zero]; intro w' hS; obtain ⟨s0, s1, s2, s3, s4, s5, s6⟩ := hS; first | (go_simp; done) | (go_simp; with_reducible rfl))
            simp only [List.getElem_toArray, List.getElem_cons_succ, List.getElem_cons_zero, Act.put, List.setIfInBounds_toArray, List.set_cons_zero, List.set_cons_succ]
            refine wpAnyH_take (i := 12) (v := ?_) rfl (by kernel_rfl) (by kernel_rfl) (by kernel_rfl) (fun _ _ _ h => h) (Or.inl ⟨by rfl, ?_⟩) u1 ?_
            rotate_left
            focus (simp only [List.getElem_toArray, List.getElem_cons_succ, List.getElem_cons_zero]; intro w' hS; obtain ⟨s0, s1, s2, s3, s4, s5, s6⟩ := hS; first | (go_simp; done) | (go_simp; with_reducible rfl))
            simp only [List.getElem_toArray, List.getElem_cons_succ, List.getElem_cons_zero, Act.put, List.setIfInBounds_toArray, List.set_cons_zero, List.set_cons_succ]
            refine wpAnyH_take (i := 13) (v := ?_) rfl (by kernel_rfl) (by kernel_rfl) (by kernel_rfl) (fun _ _ _ h => h) (Or.inl ⟨by rfl, ?_⟩) u1 ?_
            rotate_left
            focus (simp only [List.getElem_toArray, List.getElem_cons_succ, List.getElem_cons_zero]; intro w' hS; obtain ⟨s0, s1, s2, s3, s4, s5, s6⟩ := hS; first | (go_simp; done) | (go_simp; with_reducible rfl))
            simp only [List.getElem_toArray, List.getElem_cons_succ, List.getElem_cons_zero, Act.put, List.setIfInBounds_toArray, List.set_cons_zero, List.set_cons_succ]
            refine wpAnyH_take (i := 14) (v := ?_) rfl (by kernel_rfl) (by kernel_rfl) (by kernel_rfl) (fun _ _ _ h => h) (Or.inl ⟨by rfl, ?_⟩) u1 ?_
            rotate_left
            focus (simp only [List.getElem_toArray, List.getElem_cons_succ, List.getElem_cons_zero]; intro w' hS; obtain ⟨s0, s1, s2, s3, s4, s5, s6⟩ := hS; first | (go_simp; done) | (go_simp; with_reducible rfl))
            simp only [List.getElem_toArray, List.getElem_cons_succ, List.getElem_cons_zero, Act.put, List.setIfInBounds_toArray, List.set_cons_zero, List.set_cons_succ]
            refine wpAnyH_take (i := 15) (v := ?_) rfl (by kernel_rfl) (by kernel_rfl) (by kernel_rfl) (fun _ _ _ h => h) (Or.inl ⟨by rfl, ?_⟩) u1 ?_
            rotate_left
            focus (simp only [List.getElem_toArray, List.getElem_cons_succ, List.getElem_cons_zero]; intro w' hS; obtain ⟨s0, s1, s2, s3, s4, s5, s6⟩ := hS; first | (go_simp; done) | (go_simp; with_reducible rfl))
            simp only [List.getElem_toArray, List.getElem_cons_succ, List.getElem_cons_zero, Act.put, List.setIfInBounds_toArray, List.set_cons_zero, List.set_cons_succ]
            refine wpAnyH_take (i := 16) (v := ?_) rfl (by kernel_rfl) (by kernel_rfl) (by kernel_rfl) (fun _ _ _ h => h) (Or.inl ⟨by rfl, ?_⟩) u1 ?_
            rotate_left
            focus (simp only [List.getElem_toArray, List.getElem_cons_succ, List.getElem_cons_zero]; intro w' hS; obtain ⟨s0, s1, s2, s3, s4, s5, s6⟩ := hS; first | (go_simp; done) | (go_simp; with_reducible rfl))
            simp only [List.getElem_toArray, List.getElem_cons_succ, List.getElem_cons_zero, Act.put, List.setIfInBounds_toArray, List.set_cons_zero, List.set_cons_succ]
            refine wpAnyH_take (i := 17) (v := ?_) rfl (by kernel_rfl) (by kernel_rfl) (by kernel_rfl) (fun _ _ _ h => h) (Or.inl ⟨by rfl, ?_⟩) u1 ?_
            rotate_left
            focus (simp only [List.getElem_toArray, List.getElem_cons_succ, List.getElem_cons_zero]; intro w' hS; obtain ⟨s0, s1, s2, s3, s4, s5, s6⟩ := hS; first | (go_simp; done) | (go_simp; with_reducible rfl))
            simp only [List.getElem_toArray, List.getElem_cons_succ, List.getElem_cons_zero, Act.put, List.setIfInBounds_toArray, List.set_cons_zero, List.set_cons_succ]
            refine wpAnyH_ready (rs := [18, 21]) (by kernel_rfl) (by simp) ?_
            refine AllReadyH.cons rfl (fun K hK => ?_) (AllReadyH.cons rfl (fun K hK => ?_) AllReadyH.nil)
            · skip
              refine step_append_row (P := Tryz.prog) wt.drew ?hgv7 (.tmp 100) (.tmp 102) 23 23 ?hov7 80 i0 _ 5 56 Tryz.underlying23 hi0 hz0 hzs hzb rfl (.slice a6 L.length c6) _ _ ?hvv7 (Row.kept HR.out (fun _ _ => rfl)) (.slice aa add.length ac) ?hxv7 add.length _ (HSR.out _ HB0.out) H1.out H2.out ?hkv7
              case hgv7 => rfl
              case hov7 => rfl
              case hvv7 => rfl
              case hxv7 => rfl
              intro v7 w3 hrow hgrow hob
              have HBp := Lib.hid (show Below W1.heap.size W1 w3 from below_rowT HB0.out (Nat.le_refl _) hgrow HOB.out)
              have HT3 := Lib.hid (show TbsV w3 v7 (L ++ add) from HRV.out v7 w3 hrow)
              clear hrow hgrow hob
              refine hK.out _ _ (HXC.out _ HBp.out) (fun _ => ?_)
              try simp only [List.getElem_toArray, List.getElem_cons_succ, List.getElem_cons_zero, Act.put, List.setIfInBounds_toArray, List.set_cons_zero, List.set_cons_succ]
              refine wpAnyH_ready (rs := [19, 21]) (by kernel_rfl) (by simp) ?_
              refine AllReadyH.cons rfl (fun K hK => ?_) (AllReadyH.cons rfl (fun K hK => ?_) AllReadyH.nil)
              · skip
                simp only [List.getElem_toArray, List.getElem_cons_succ, List.getElem_cons_zero]
                go_simp
                refine (HORD.out v7 w3 HT3.out).mono ?_
                rintro _ w4 ⟨a8, c8, rfl, hr, ho, hb⟩
                have HBo := Lib.hid (show Below W1.heap.size W1 w4 from HBp.out.trans (hb.mono HBp.out.size))
                have HRo := Lib.hid hr
                have HOo := Lib.hid (show ∀ q, ob (.slice a8 (ordT (L ++ add)).length c8) = some q → W1.heap.size ≤ q from fun q hq => Nat.le_trans HBp.out.size (ho q hq))
                clear hr ho hb
                have u5 := HXC.out _ HBo.out
                dsimp only
                refine hK.out _ _ u5 (fun _ => ?_)
                try simp only [List.getElem_toArray, List.getElem_cons_succ, List.getElem_cons_zero, Act.put, List.setIfInBounds_toArray, List.set_cons_zero, List.set_cons_succ]
                refine wpAnyH_take (i := 20) (v := ?_) rfl (by kernel_rfl) (by kernel_rfl) (by kernel_rfl) (fun _ _ _ h => h) (Or.inl ⟨by rfl, ?_⟩) u5 ?_
                rotate_left
                focus (simp only [List.getElem_toArray, List.getElem_cons_succ, List.getElem_cons_zero]; intro w' hS; obtain ⟨s0, s1, s2, s3, s4, s5, s6⟩ := hS; first | (go_simp; done) | (go_simp; with_reducible rfl))
                simp only [List.getElem_toArray, List.getElem_cons_succ, List.getElem_cons_zero, Act.put, List.setIfInBounds_toArray, List.set_cons_zero, List.set_cons_succ]
                refine wpAnyH_ready (rs := [21]) (by kernel_rfl) (by simp) ?_
                refine AllReadyH.cons rfl (fun K hK => ?_) AllReadyH.nil
                simp only [List.getElem_toArray, List.getElem_cons_succ, List.getElem_cons_zero]
                go_simp
                refine hK.out _ _ (HXC.out _ (HBo.out.alloc HBo.out.size _)) (fun _ => ?_)
                try simp only [List.getElem_toArray, List.getElem_cons_succ, List.getElem_cons_zero, Act.put, List.setIfInBounds_toArray, List.set_cons_zero, List.set_cons_succ]
                have HZn := Lib.hid (show BoxR w4.heap.size 0 0 0 (.slice none 0 0) (w4.alloc (.cells #[.int .i64 0, .int .i64 0, .int .u64 0, .slice none 0 0] 63)) from new_block _ _ rfl)
                refine wpAnyH_ready (rs := [22]) (by kernel_rfl) (by simp) ?_
                refine AllReadyH.cons rfl (fun K hK => ?_) AllReadyH.nil
                simp only [List.getElem_toArray, List.getElem_cons_succ, List.getElem_cons_zero]
                go_simp
                refine hK.out _ _ (by first | exact HXC.out _ (below_set4 (HBo.out.alloc HBo.out.size _) _ HBo.out.size _ _ _ _) | exact HXC.out _ (HBo.out.alloc HBo.out.size _)) (fun _ => ?_)
                try simp only [List.getElem_toArray, List.getElem_cons_succ, List.getElem_cons_zero, Act.put, List.setIfInBounds_toArray, List.set_cons_zero, List.set_cons_succ]
                refine wpAnyH_done (by kernel_rfl) ?_ _
                refine NoPanic.normal ?_
                go_wp2_with fail
                go_meet
                have hlt : ∀ q, ob (.slice a8 (ordT (L ++ add)).length c8) = some q → q ≠ w4.heap.size := fun q hq => by have := Row.lt HRo.out q hq; omega
                first
                  | exact ⟨w4.heap.size, _, rfl, Lib.hid (new_block _ _ rfl), Lib.hid (rowT_new HRo.out _), Lib.hid (fun q hq => ⟨HOo.out q hq, hlt q hq⟩), Lib.hid HBo.out.size, Lib.hid (HBo.out.alloc HBo.out.size _)⟩
                  | exact ⟨w4.heap.size, _, rfl, Lib.hid (BoxR.set4 HZn.out M1 M2 M3 _), Lib.hid (Row.kept (rowT_new HRo.out _) (fun q hq => block_set4 _ _ _ _ _ _ q (hlt q hq))), Lib.hid (fun q hq => ⟨HOo.out q hq, hlt q hq⟩), Lib.hid HBo.out.size, Lib.hid (below_set4 (HBo.out.alloc HBo.out.size _) _ HBo.out.size _ _ _ _)⟩
              · skip
                simp only [List.getElem_toArray, List.getElem_cons_succ, List.getElem_cons_zero]
                go_simp
                refine hK.out _ _ (HXC.out _ (HBp.out.alloc HBp.out.size _)) (fun _ => ?_)
                try simp only [List.getElem_toArray, List.getElem_cons_succ, List.getElem_cons_zero, Act.put, List.setIfInBounds_toArray, List.set_cons_zero, List.set_cons_succ]
                refine wpAnyH_ready (rs := [19]) (by kernel_rfl) (by simp) ?_
                refine AllReadyH.cons rfl (fun K hK => ?_) AllReadyH.nil
                simp only [List.getElem_toArray, List.getElem_cons_succ, List.getElem_cons_zero]
                go_simp
                refine (HORD.out v7 (w3.alloc (.cells #[.int .i64 0, .int .i64 0, .int .u64 0, .slice none 0 0] 63)) (HT3.out.below (alloc_b _ _))).mono ?_
                rintro _ w6 ⟨a8, c8, rfl, hr, ho, hb⟩
                have hbz6 := bt12 (alloc_b w3 (.cells #[.int .i64 0, .int .i64 0, .int .u64 0, .slice none 0 0] 63)) hb
                have HBo := Lib.hid (show Below W1.heap.size W1 w6 from HBp.out.trans (hbz6.mono HBp.out.size))
                have HZn := Lib.hid (show BoxR w3.heap.size 0 0 0 (.slice none 0 0) w6 from (hb.block w3.heap.size (by simp)).trans (new_block w3 _ rfl))
                have HRo := Lib.hid hr
                have HOo := Lib.hid (show ∀ q, ob (.slice a8 (ordT (L ++ add)).length c8) = some q → W1.heap.size ≤ q ∧ q ≠ w3.heap.size from fun q hq => by have h1 := ho q hq; have h2 := HBp.out.size; simp at h1; omega)
                clear hr ho hb hbz6
                have u5 := HXC.out _ HBo.out
                have t0 := HZn.out.c0
                have t1 := HZn.out.c1
                have t2 := HZn.out.c2
                have t3 := HZn.out.c3
                have t4 := HZn.out.f 0
                have t5 := HZn.out.f 1
                have t6 := HZn.out.f 2
                have t7 := HZn.out.f 3
                dsimp only
                refine hK.out _ _ u5 (fun _ => ?_)
                try simp only [List.getElem_toArray, List.getElem_cons_succ, List.getElem_cons_zero, Act.put, List.setIfInBounds_toArray, List.set_cons_zero, List.set_cons_succ]
                refine wpAnyH_take (i := 20) (v := ?_) rfl (by kernel_rfl) (by kernel_rfl) (by kernel_rfl) (fun _ _ _ h => h) (Or.inl ⟨by rfl, ?_⟩) u5 ?_
                rotate_left
                focus (simp only [List.getElem_toArray, List.getElem_cons_succ, List.getElem_cons_zero]; intro w' hS; obtain ⟨s0, s1, s2, s3, s4, s5, s6⟩ := hS; first | (go_simp; done) | (go_simp; with_reducible rfl))
                simp only [List.getElem_toArray, List.getElem_cons_succ, List.getElem_cons_zero, Act.put, List.setIfInBounds_toArray, List.set_cons_zero, List.set_cons_succ]
                refine wpAnyH_ready (rs := [22]) (by kernel_rfl) (by simp) ?_
                refine AllReadyH.cons rfl (fun K hK => ?_) AllReadyH.nil
                simp only [List.getElem_toArray, List.getElem_cons_succ, List.getElem_cons_zero]
                go_simp
                refine hK.out _ _ (HXC.out _ (below_set4 HBo.out _ HBp.out.size _ _ _ _)) (fun _ => ?_)
                try simp only [List.getElem_toArray, List.getElem_cons_succ, List.getElem_cons_zero, Act.put, List.setIfInBounds_toArray, List.set_cons_zero, List.set_cons_succ]
                refine wpAnyH_done (by kernel_rfl) ?_ _
                refine NoPanic.normal ?_
                go_wp2_with fail
                go_meet
                exact ⟨w3.heap.size, _, rfl, Lib.hid (BoxR.set4 HZn.out M1 M2 M3 _), Lib.hid (Row.kept HRo.out (fun q hq => block_set4 _ _ _ _ _ _ q ((fun q hq => (HOo.out q hq).2) q hq))), Lib.hid (fun q hq => ⟨(fun q hq => (HOo.out q hq).1) q hq, (fun q hq => (HOo.out q hq).2) q hq⟩), Lib.hid HBp.out.size, Lib.hid (below_set4 HBo.out _ HBp.out.size _ _ _ _)⟩
            · skip
              simp only [List.getElem_toArray, List.getElem_cons_succ, List.getElem_cons_zero]
              go_simp
              refine hK.out _ _ (HXC.out _ (HBa.out _)) (fun _ => ?_)
              try simp only [List.getElem_toArray, List.getElem_cons_succ, List.getElem_cons_zero, Act.put, List.setIfInBounds_toArray, List.set_cons_zero, List.set_cons_succ]
              refine wpAnyH_ready (rs := [18]) (by kernel_rfl) (by simp) ?_
              refine AllReadyH.cons rfl (fun K hK => ?_) AllReadyH.nil
              refine step_append_row (P := Tryz.prog) (wt.alloc (.cells #[.int .i64 0, .int .i64 0, .int .u64 0, .slice none 0 0] 63)).drew ?hgv9 (.tmp 100) (.tmp 102) 23 23 ?hov9 80 i0 _ 5 56 Tryz.underlying23 hi0 hz0 hzs hzb rfl (.slice a6 L.length c6) _ _ ?hvv9 (Row.kept (rowT_new HR.out (.cells #[.int .i64 0, .int .i64 0, .int .u64 0, .slice none 0 0] 63)) (fun _ _ => rfl)) (.slice aa add.length ac) ?hxv9 add.length _ (HSR.out _ (HBa.out _)) H1.out H2.out ?hkv9
              case hgv9 => rfl
              case hov9 => rfl
              case hvv9 => rfl
              case hxv9 => rfl
              intro v9 w5 hrow hgrow hob
              have HBp := Lib.hid (show Below W1.heap.size W1 w5 from below_rowT (HBa.out _) (Nat.le_refl _) hgrow HOB.out)
              have HT5 := Lib.hid (show TbsV w5 v9 (L ++ add) from HRV.out v9 w5 hrow)
              have HZ5 := Lib.hid (show BoxR wt.heap.size 0 0 0 (.slice none 0 0) w5 from (hgrow.block wt.heap.size (by simp) (fun e => by have h1 := Row.lt HR.out wt.heap.size e.symm; omega)).trans (new_block wt _ rfl))
              clear hrow hgrow hob
              refine hK.out _ _ (HXC.out _ HBp.out) (fun _ => ?_)
              try simp only [List.getElem_toArray, List.getElem_cons_succ, List.getElem_cons_zero, Act.put, List.setIfInBounds_toArray, List.set_cons_zero, List.set_cons_succ]
              refine wpAnyH_ready (rs := [19]) (by kernel_rfl) (by simp) ?_
              refine AllReadyH.cons rfl (fun K hK => ?_) AllReadyH.nil
              simp only [List.getElem_toArray, List.getElem_cons_succ, List.getElem_cons_zero]
              go_simp
              refine (HORD.out v9 w5 HT5.out).mono ?_
              rintro _ w7 ⟨a8, c8, rfl, hr, ho, hb⟩
              have HBo := Lib.hid (show Below W1.heap.size W1 w7 from HBp.out.trans (hb.mono HBp.out.size))
              have HZn := Lib.hid (HZ5.out.below hb)
              have HRo := Lib.hid hr
              have HOo := Lib.hid (show ∀ q, ob (.slice a8 (ordT (L ++ add)).length c8) = some q → W1.heap.size ≤ q ∧ q ≠ wt.heap.size from fun q hq => by have h1 := ho q hq; have h2 := HBL.out.size; have h3 := HZ5.out.lt; omega)
              clear hr ho hb
              have u5 := HXC.out _ HBo.out
              have t0 := HZn.out.c0
              have t1 := HZn.out.c1
              have t2 := HZn.out.c2
              have t3 := HZn.out.c3
              have t4 := HZn.out.f 0
              have t5 := HZn.out.f 1
              have t6 := HZn.out.f 2
              have t7 := HZn.out.f 3
              dsimp only
              refine hK.out _ _ u5 (fun _ => ?_)
              try simp only [List.getElem_toArray, List.getElem_cons_succ, List.getElem_cons_zero, Act.put, List.setIfInBounds_toArray, List.set_cons_zero, List.set_cons_succ]
              refine wpAnyH_take (i := 20) (v := ?_) rfl (by kernel_rfl) (by kernel_rfl) (by kernel_rfl) (fun _ _ _ h => h) (Or.inl ⟨by rfl, ?_⟩) u5 ?_
              rotate_left
              focus (simp only [List.getElem_toArray, List.getElem_cons_succ, List.getElem_cons_zero]; intro w' hS; obtain ⟨s0, s1, s2, s3, s4, s5, s6⟩ := hS; first | (go_simp; done) | (go_simp; with_reducible rfl))
              simp only [List.getElem_toArray, List.getElem_cons_succ, List.getElem_cons_zero, Act.put, List.setIfInBounds_toArray, List.set_cons_zero, List.set_cons_succ]
              refine wpAnyH_ready (rs := [22]) (by kernel_rfl) (by simp) ?_
              refine AllReadyH.cons rfl (fun K hK => ?_) AllReadyH.nil
              simp only [List.getElem_toArray, List.getElem_cons_succ, List.getElem_cons_zero]
              go_simp
              refine hK.out _ _ (HXC.out _ (below_set4 HBo.out _ HBL.out.size _ _ _ _)) (fun _ => ?_)
              try simp only [List.getElem_toArray, List.getElem_cons_succ, List.getElem_cons_zero, Act.put, List.setIfInBounds_toArray, List.set_cons_zero, List.set_cons_succ]
              refine wpAnyH_done (by kernel_rfl) ?_ _
              refine NoPanic.normal ?_
              go_wp2_with fail
              go_meet
              exact ⟨wt.heap.size, _, rfl, Lib.hid (BoxR.set4 HZn.out M1 M2 M3 _), Lib.hid (Row.kept HRo.out (fun q hq => block_set4 _ _ _ _ _ _ q ((fun q hq => (HOo.out q hq).2) q hq))), Lib.hid (fun q hq => ⟨(fun q hq => (HOo.out q hq).1) q hq, (fun q hq => (HOo.out q hq).2) q hq⟩), Lib.hid HBL.out.size, Lib.hid (below_set4 HBo.out _ HBL.out.size _ _ _ _)⟩
            --END22
          case rest =>
            obtain ⟨X, r, rfl, HX13, HRX, HOX, HXB, HBC⟩ := hcut
            obtain ⟨a8, c8, rfl⟩ := HRX.out.short
            have hSl : (ordT (L ++ add)).length ≤ 100000 := by rw [ordT_len, List.length_append]; omega
            have CV := Lib.hid (rvalid_any ⟨M1, M2, M3, ordT (L ++ add)⟩ _ wc HRX.out.v hSl (fun t ht => HLO.out t ((ordT_both _).1.mem_iff.1 ht)))
            simp only at CV
            have HAQ := Lib.hid (show Applies ⟨log, next, seq, ts⟩ ⟨elog, enext, eseq, add, drop⟩ ↔ RightV ⟨M1, M2, M3, ordT (L ++ add)⟩ by
              rw [← HNV.out]
              exact ⟨fun h => h.2, fun h => ⟨HTH.out, h⟩⟩)
            clear hSl e0 e1 e2 e3 e4 e5 e6
            generalize ordT (L ++ add) = SS at *
            have c0 := HX13.out.c0
            have c1 := HX13.out.c1
            have c2 := HX13.out.c2
            have c3 := HX13.out.c3
            go_wp2_with fail
            go_at_call 24
            (with_reducible refine CV.out.mono ?_)
            rintro _ w9 ⟨bb, rfl, hbb, hb9⟩
            have HB9 := Lib.hid (show Below W1.heap.size W1 w9 from HBC.out.trans (hb9.mono HBC.out.size))
            have z9 := HZ.out.below HB9.out
            have r0 := z9.c0
            have r1 := z9.c1
            have r2 := z9.c2
            have r3 := z9.c3
            have g0 := z9.f 0
            have g1 := z9.f 1
            have g2 := z9.f 2
            have g3 := z9.f 3
            have HX9 := Lib.hid (HX13.out.below hb9)
            have HR9 := Lib.hid (show RowB w9 (.slice a8 SS.length c8) SS from Row.kept HRX.out (fun q hq => hb9.block q (Row.lt HRX.out q hq)))
            have d0 := HX9.out.c0
            have d1 := HX9.out.c1
            have d2 := HX9.out.c2
            have d3 := HX9.out.c3
            have HBB := Lib.hid hbb
            clear z9 hb9 hbb CV c0 c1 c2 c3
            cases bb with
            | false =>
              have HNA := Lib.hid (show ¬ Applies ⟨log, next, seq, ts⟩ ⟨elog, enext, eseq, add, drop⟩ from fun h => by
                have := HBB.out.2 (HAQ.out.1 h)
                simp at this)
              go_wp2_with fail
              refine bodyPost_ret (by simp [results, Tryz.results15, go_sem, r0, r1, r2, r3]; try rfl) rfl ?_
              exact ⟨.inl ⟨HNA.out, rfl⟩, below_set4 (HBX.out _ HB9.out) _ (by omega) _ _ _ _⟩
            | true =>
              have HYA := Lib.hid (HAQ.out.2 (HBB.out.1 (by first | rfl | trivial)))
              have HK := Lib.hid (show ∀ q, ob (.slice a8 SS.length c8) = some q → q ≠ w.heap.size + 2 ∧ w.heap.size ≤ q from fun q hq => by have h1 := (HOX.out q hq).1; have h2 := HS1.out; omega)
              go_wp2_with fail
              refine bodyPost_ret (by simp [results, Tryz.results15, go_sem, r0, r1, r2, r3]; try rfl) rfl ?_
              refine ⟨.inr ⟨HYA.out, .slice a8 SS.length c8, ?_, ?_, fun k hk => (HK.out k hk).2⟩, below_set4 (HBX.out _ HB9.out) _ (by omega) _ _ _ _⟩
              · rw [HNV.out]
                rfl
              · rw [HNV.out]
                exact Row.kept HR9.out (fun k hk => block_set4 _ _ _ _ _ _ k (HK.out k hk).1)
end Go.Proofs.YtmcgfafkggannaaGreat
