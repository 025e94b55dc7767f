/- Contracts: Valid, May. -/
import Derived.Test.YtdbdifbcfplegaaG3
namespace Go.Proofs.Ytdbdifbcfplegaa
open Go.RowKit Go.Shelf

attribute [local go_sem] Oper.semAt_some

theorem byteAt_string (f : ByteArray) (i : Nat) (h : i < f.size) : byteAt f.data.toList i = f[i] := by
  unfold byteAt
  rw [List.getElem?_eq_getElem (by simpa using h)]
  rfl
theorem validB_eq (f : ByteArray) (h : 2 ≤ f.size) : validB f.data.toList = (decide (1 ≤ (f[f.size - 1]'(by omega)).toNat) && decide ((f[f.size - 1]'(by omega)).toNat ≤ 20)) := by
  unfold validB
  have e : f.data.toList.length = f.size := rfl
  rw [e, byteAt_string _ _ (by omega)]
  rw [← Bool.decide_and]
  simp [h]
set_option maxHeartbeats 1000000 in
theorem valid_any (f : ByteArray) (w : World) (hf : f.size ≤ 9223372036854775807) :
    Calls Try.prog 15 #[.string f] w fun e w' => e = .returned (.bool (validB f.data.toList)) ∧ w = w' := by
  by_cases h2 : f.size < 2
  · have hv : validB f.data.toList = false := by
      unfold validB
      have e : f.data.toList.length = f.size := rfl
      rw [e]
      exact decide_eq_false (by omega)
    rw [hv]
    go_enter Try.func15, Try.ntmps15
    go_wp2
    go_ret
    exact ⟨rfl, rfl⟩
  · have hv := validB_eq f (by omega)
    obtain ⟨b, hb⟩ : ∃ b, f[f.size - 1]'(by omega) = b := ⟨_, rfl⟩
    rw [hb] at hv
    have HV := Lib.hid hv
    clear hv
    have hbl := b.toNat_lt
    by_cases h1 : 1 ≤ b.toNat
    · by_cases h20 : b.toNat ≤ 20
      · have ht : validB f.data.toList = true := by rw [HV.out]; simp [h1, h20]
        have d1 : decide ((b.toNat : Int) ≤ 20) = true := decide_eq_true (by omega)
        rw [ht]
        go_enter Try.func15, Try.ntmps15
        go_wp2
        go_ret
        exact ⟨rfl, rfl⟩
      · have ht : validB f.data.toList = false := by rw [HV.out]; simp; omega
        have d1 : decide ((b.toNat : Int) ≤ 20) = false := decide_eq_false (by omega)
        rw [ht]
        go_enter Try.func15, Try.ntmps15
        go_wp2
        go_ret
        exact ⟨rfl, rfl⟩
    · have ht : validB f.data.toList = false := by rw [HV.out]; simp; omega
      have d1 : decide (1 ≤ (b.toNat : Int)) = false := decide_eq_false (by omega)
      rw [ht]
      go_enter Try.func15, Try.ntmps15
      go_wp2
      go_ret
      exact ⟨rfl, rfl⟩
theorem and7_form (x : Nat) (h : x < 18446744073709551616) : bits .and .u64 (x : Int) 7 = ((x % 8 : Nat) : Int) := by
  rw [show (7 : Int) = ((7 : Nat) : Int) from rfl, u64_and_nat _ _ h (by omega)]
  congr 1
  exact Nat.and_two_pow_sub_one_eq_mod x 3
theorem bit_form (f : ByteArray) (x : Nat) (h : x / 8 < f.size) : (bits .and .u8 ((f[x / 8].toNat : Int) / 2 ^ (x % 8)) 1 == 0) = !bitAt f.data.toList x := by
  have hb := f[x / 8].toNat_lt
  have hle : f[x / 8].toNat / 2 ^ (x % 8) ≤ f[x / 8].toNat := Nat.div_le_self _ _
  have e : (f[x / 8].toNat : Int) / 2 ^ (x % 8) = ((f[x / 8].toNat / 2 ^ (x % 8) : Nat) : Int) := by simp
  rw [e, show (1 : Int) = ((1 : Nat) : Int) from rfl, u8_and_nat _ _ (by omega) (by omega), Nat.and_one_is_mod]
  unfold bitAt
  rw [byteAt_string _ _ h, Nat.testBit_eq_decide_div_mod_eq]
  by_cases h1 : f[x / 8].toNat / 2 ^ (x % 8) % 2 = 1
  · rw [h1]; rfl
  · rw [show f[x / 8].toNat / 2 ^ (x % 8) % 2 = 0 by omega]; rfl
theorem belowCell {w W : World} {b : Nat} {v : Value} (h : Below w.heap.size w W) (hb : b < w.heap.size) (hc : w.cell? ⟨b, 0, none⟩ = some v) : W.cell? ⟨b, 0, none⟩ = some v := (h.cell (p := ⟨b, 0, none⟩) hb).trans hc
set_option maxRecDepth 100000 in
set_option maxHeartbeats 4000000 in
theorem may_bad (f key : ByteArray) (w : World) (hf : f.size ≤ 1000000) (hv : validB f.data.toList = false) :
    Calls Try.prog 13 #[.string f, .string key] w fun e w' => e = .returned (.bool true) ∧ Below w.heap.size w w' := by
  have CV := Lib.hid (fun W : World => (callsIn_wide (n := 4)).2 (valid_any f W (by omega)))
  rw [hv] at CV
  clear hv
  refine (callsIn_wide (n := 5)).1 ?_
  refine callsIn_of_wp_marks Try.func13 rfl trivial ?_ rfl
  simp only [Try.ntmps13, List.size_toArray, List.length_cons, List.length_nil, Nat.reduceAdd, Nat.reduceSub, Array.replicate_succ, Array.replicate_zero, List.push_toArray, List.append_toArray, List.nil_append, List.cons_append]
  gi_wp2_with (refine ⟨trivial, ?_⟩; gi_at_call 15; refine (CV.out _).mono ?_; rintro e w' ⟨rfl, rfl⟩)
  have hb := Boxed.new (w.alloc (.cells #[.string f] 9)) 4 (.bool true)
  have hc := hb.cell
  rw [World.size_alloc] at hc
  refine ⟨.bool true, ?_, rfl, ((Below.refl _ w).alloc (Nat.le_refl _) _).alloc (by simp) _⟩
  simp [results, Try.f13, go_sem, hc]
set_option maxRecDepth 100000 in
set_option maxHeartbeats 4000000 in
theorem may_good (f key : ByteArray) (w : World) (sz p : Nat) (hf : f.size ≤ 1000000) (hk : key.size ≤ 9223372036854775807) (hv : validB f.data.toList = true) (hsz : f.size = sz + 1) (hz0 : 1 ≤ sz) (hp : (byteAt f.data.toList (f.size - 1)).toNat = p) (hp2 : p ≤ 20) :
    Calls Try.prog 13 #[.string f, .string key] w fun e w' => e = .returned (.bool (mayB f.data.toList key.data.toList)) ∧ Below w.heap.size w w' := by
  have HM : Hid (mayB f.data.toList key.data.toList = (plcs key.data.toList (sz * 8) p).all (bitAt f.data.toList)) := by
    show _ = _
    have e : f.data.toList.length = f.size := rfl
    unfold mayB
    rw [hv, e, hp, hsz, Nat.add_sub_cancel]
    rfl
  have CV := Lib.hid (fun W : World => (callsIn_wide (n := 4)).2 (valid_any f W (by omega)))
  rw [hv] at CV
  clear hv
  have hidx : sz < f.size := by omega
  have hpb : f[sz].toNat = p := by
    rw [← hp, hsz, Nat.add_sub_cancel, byteAt_string _ _ hidx]
  clear hp
  have hpw : wrap64 (p : Int) = (p : Int) := by unfold wrap64; omega
  have CP := Lib.hid (fun (W : World) => places_in 4 key p sz W)
  refine (callsIn_wide (n := 5)).1 ?_
  refine callsIn_of_wp_marks Try.func13 rfl trivial ?_ rfl
  simp only [Try.ntmps13, List.size_toArray, List.length_cons, List.length_nil, Nat.reduceAdd, Nat.reduceSub, Array.replicate_succ, Array.replicate_zero, List.push_toArray, List.append_toArray, List.nil_append, List.cons_append]
  gi_wp2_with (first | (refine ⟨trivial, ?_⟩; gi_at_call 15; refine (CV.out _).mono ?_; rintro e w' ⟨rfl, rfl⟩) | (refine ⟨trivial, ?_⟩; gi_at_call 19; refine (CP.out _).mono ?_; rintro e w' ⟨rfl, rfl⟩))
  clear CV CP
  obtain ⟨W0, hW0⟩ : ∃ W0, ((((w.alloc (.cells #[.string f] 9)).alloc (.cells #[.bool false] 4)).alloc (.cells #[.string key] 9)).alloc (.cells #[.int .i64 p] 3)).alloc (.cells #[.int .i64 sz] 3) = W0 := ⟨_, rfl⟩
  rw [hW0]
  have b0 : Boxed W0 w.heap.size 9 (.string f) := by rw [← hW0]; exact ((((Boxed.new w _ _).alloc _).alloc _).alloc _).alloc _
  have b1 : Boxed W0 (w.heap.size + 1) 4 (.bool false) := by rw [← hW0]; have := ((((Boxed.new (w.alloc (.cells #[.string f] 9)) 4 (.bool false)).alloc (.cells #[.string key] 9)).alloc (.cells #[.int .i64 p] 3)).alloc (.cells #[.int .i64 sz] 3)); rwa [World.size_alloc] at this
  have cz : W0.cell? ⟨w.heap.size + 1 + 1 + 1 + 1, 0, none⟩ = some (.int .i64 sz) := by rw [← hW0]; have := (Boxed.new ((((w.alloc (.cells #[.string f] 9)).alloc (.cells #[.bool false] 4)).alloc (.cells #[.string key] 9)).alloc (.cells #[.int .i64 p] 3)) 3 (.int .i64 sz)).cell; simpa using this
  have cp : W0.cell? ⟨w.heap.size + 1 + 1 + 1, 0, none⟩ = some (.int .i64 p) := by rw [← hW0]; have := ((Boxed.new (((w.alloc (.cells #[.string f] 9)).alloc (.cells #[.bool false] 4)).alloc (.cells #[.string key] 9)) 3 (.int .i64 p)).alloc (.cells #[.int .i64 sz] 3)).cell; simpa using this
  have ck : W0.cell? ⟨w.heap.size + 1 + 1, 0, none⟩ = some (.string key) := by rw [← hW0]; have := (((Boxed.new ((w.alloc (.cells #[.string f] 9)).alloc (.cells #[.bool false] 4)) 9 (.string key)).alloc (.cells #[.int .i64 p] 3)).alloc (.cells #[.int .i64 sz] 3)).cell; simpa using this
  have hs0 : W0.heap.size = w.heap.size + 5 := by rw [← hW0]; simp
  have hB0 : Below w.heap.size w W0 := by rw [← hW0]; exact (((((Below.refl _ w).alloc (Nat.le_refl _) _).alloc (by simp) _).alloc (by simp; omega) _).alloc (by simp; omega) _).alloc (by simp; omega) _
  clear hW0
  refine wpIn_rangeFunc_ownF rfl (by omega) (gf := 22) (lb := #[.pointer (some ⟨w.heap.size + 1 + 1 + 1 + 1, 0, none⟩), .pointer (some ⟨w.heap.size + 1 + 1, 0, none⟩), .pointer (some ⟨w.heap.size + 1 + 1 + 1, 0, none⟩)]) rfl trivial (enters_of Try.func22 (by kernel_rfl) rfl)
    (places_stops 4 (by omega) _ _ _ w.heap.size key hk p sz hp2 hz0 (by omega) W0 cz ck cp (by omega) (by omega) (by omega)) belowK_t (belowK_b (by omega)) (Below.refl _ _) (fun _ => rfl)
    (fun pre W => (Boxed W w.heap.size 9 (.string f) ∧ Boxed W (w.heap.size + 1) 4 (.bool false) ∧ ∀ x ∈ pre, bitAt f.data.toList x.1 = true) ∧ Below w.heap.size w W)
    (fun c pre W => (c = .ret ∧ Boxed W (w.heap.size + 1) 4 (.bool false) ∧ ∃ x ∈ pre, bitAt f.data.toList x.1 = false) ∧ Below w.heap.size w W)
    (OwnFrom.and (OwnFrom.and (Own.from (boxed_own _ _ _) _) (OwnFrom.and (Own.from (boxed_own _ _ _) _) (ownFrom_pure _ _))) (ownFrom_below (Nat.le_refl _) (by omega)))
    (fun c => OwnFrom.and (OwnFrom.and (ownFrom_pure _ (fun _ => c = .ret)) (OwnFrom.and (Own.from (boxed_own _ _ _) _) (ownFrom_pure _ _))) (ownFrom_below (Nat.le_refl _) (by omega)))
    ⟨⟨b0, b1, by simp⟩, hB0⟩
    (fun x => { tmps := #[.string f, .string key, .pointer (some ⟨w.heap.size, 0, none⟩), undef, .pointer (some ⟨w.heap.size + 1, 0, none⟩), .int .i64 sz, .int .u64 (x.1 : Nat), .string f, .bool true, .bool false, .string f, .int .i64 (sz + 1), .int .i64 sz, .string key, .string f, .int .i64 sz, .int .u8 p, .int .i64 p, .int .i64 sz, .func (.func 22) #[] #[.pointer (some ⟨w.heap.size + 1 + 1 + 1 + 1, 0, none⟩), .pointer (some ⟨w.heap.size + 1 + 1, 0, none⟩), .pointer (some ⟨w.heap.size + 1 + 1 + 1, 0, none⟩)], .int .u64 (x.1 : Nat), undef, undef, undef, undef, undef, undef, undef, undef, undef], defers := [] }) ?assign ?body ?done ?stop
  case assign =>
    intro l x W K hK
    gi_wp2
    exact hK
  case body =>
    rintro l pre ⟨x, hx⟩ W ⟨⟨b0, b1, hall⟩, hB⟩ _
    have c0 := b0.cell
    have c1 := b1.cell
    have f1 := b1.frozen
    obtain ⟨q, hq⟩ : ∃ q, x / 8 = q := ⟨_, rfl⟩
    obtain ⟨r, hr⟩ : ∃ r, x % 8 = r := ⟨_, rfl⟩
    have hqi : (x : Int) / 8 = (q : Int) := by omega
    have hri : bits .and .u64 (x : Int) 7 = (r : Int) := by rw [and7_form x (by omega), hr]
    have hq2 : q < f.size := by omega
    have HB : Hid ((bits .and .u8 ((f[q].toNat : Int) / 2 ^ r) 1 == 0) = !bitAt f.data.toList x) := by
      show _ = _
      have := bit_form f x (by omega)
      simp only [hq, hr] at this
      exact this
    have hKp : Below w.heap.size W (W.setCell ⟨w.heap.size + 1, 0, none⟩ (.bool false)) := (Below.refl w.heap.size W).setCell (p := ⟨w.heap.size + 1, 0, none⟩) (by show w.heap.size ≤ w.heap.size + 1; omega) _
    cases hbt : bitAt f.data.toList x with
    | true =>
      have ht : (bits .and .u8 ((f[q].toNat : Int) / 2 ^ r) 1 == 0) = false := by rw [HB.out, hbt]; rfl
      clear HB
      gi_wp2
      refine ⟨KeepsOthers.refl _, Below.refl _ _, ⟨b0, b1, fun y hy => ?_⟩, hB⟩
      rcases List.mem_append.1 hy with hy | hy
      · exact hall y hy
      · rw [List.mem_singleton] at hy
        rw [hy]
        exact hbt
    | false =>
      have ht : (bits .and .u8 ((f[q].toNat : Int) / 2 ^ r) 1 == 0) = true := by rw [HB.out, hbt]; rfl
      clear HB
      gi_wp2
      exact ⟨KeepsOthers.setCell _ _ _, ⟨rfl, b1.set _, ⟨x, hx⟩, by simp, hbt⟩, hB.trans hKp⟩
  case done =>
    rintro D ys W hD hS ⟨⟨b0, b1, hall⟩, hB⟩ hK
    have c1 := b1.cell
    have f1 := b1.frozen
    have HMt : Hid (mayB f.data.toList key.data.toList = true) := by
      show _ = _
      rw [HM.out, ← hS, List.all_eq_true]
      intro x hx
      obtain ⟨y, hy, rfl⟩ := List.mem_map.1 hx
      exact hall y hy
    clear HM
    gi_wp2
    have hKp : Below w.heap.size W (W.setCell ⟨w.heap.size + 1, 0, none⟩ (.bool true)) := (Below.refl w.heap.size W).setCell (p := ⟨w.heap.size + 1, 0, none⟩) (by show w.heap.size ≤ w.heap.size + 1; omega) _
    have hK' := (KeepsOthers.setCell W ⟨w.heap.size + 1, 0, none⟩ (.bool true)).same D _ hK rfl
    refine ⟨by simp, .inl ⟨_, _, rfl, run_takeDeferred hK', ?_⟩⟩
    have hc5 := cell_kept (b1.set (.bool true)).cell (grownBy_putObj' _ D (.deferred none)) (fun r e => by cases e; exact ⟨_, hK', rfl⟩)
    refine ⟨.bool true, ?_, by rw [HMt.out], (hB.trans hKp).trans (belowK_b (w := w) (Nat.le_refl _) _ D _ _ (by omega) hK' rfl rfl)⟩
    simp [results, Try.f13, go_sem, hc5]
  case stop =>
    rintro D c pre W hD hS ⟨⟨rfl, b1, x, hx, hbx⟩, hB⟩ hK
    have c1 := b1.cell
    have HMt : Hid (mayB f.data.toList key.data.toList = false) := by
      show _ = _
      rw [HM.out, List.all_eq_false]
      exact ⟨x.1, hS.subset (List.mem_map.2 ⟨x, hx, rfl⟩), by rw [hbx]; simp⟩
    clear HM
    gi_wp2
    refine ⟨by simp, .inl ⟨_, _, rfl, run_takeDeferred hK, ?_⟩⟩
    have hc5 := cell_kept c1 (grownBy_putObj' _ D (.deferred none)) (fun r e => by cases e; exact ⟨_, hK, rfl⟩)
    refine ⟨.bool false, ?_, by rw [HMt.out], hB.trans (belowK_b (w := w) (Nat.le_refl _) _ D _ _ (by omega) hK rfl rfl)⟩
    simp [results, Try.f13, go_sem, hc5]
theorem may_any (f key : ByteArray) (w : World) (hf : f.size ≤ 1000000) (hk : key.size ≤ 9223372036854775807) :
    Calls Try.prog 13 #[.string f, .string key] w fun e w' => e = .returned (.bool (mayB f.data.toList key.data.toList)) ∧ Below w.heap.size w w' := by
  cases hv : validB f.data.toList with
  | false =>
    have hm : mayB f.data.toList key.data.toList = true := by unfold mayB; rw [hv]; rfl
    rw [hm]
    exact may_bad f key w hf hv
  | true =>
    have h : 2 ≤ f.size ∧ 1 ≤ (byteAt f.data.toList (f.size - 1)).toNat ∧ (byteAt f.data.toList (f.size - 1)).toNat ≤ 20 := of_decide_eq_true hv
    exact may_good f key w (f.size - 1) _ hf hk hv (by omega) (by omega) rfl h.2.2
end Go.Proofs.Ytdbdifbcfplegaa
