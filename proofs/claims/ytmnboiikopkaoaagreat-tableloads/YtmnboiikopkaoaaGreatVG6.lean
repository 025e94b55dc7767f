/- Joined: VG2 VG3 VG4. -/
import Derived.Test.YtmnboiikopkaoaaGreatVG1
import Derived.RangeFuncNested
import Derived.RangeFuncBound
import Derived.RangeFuncCalls
import Derived.RangeFuncBox
import Derived.RangeFuncLeaves
import Derived.Shelf.Abstract
import Derived.Shelf.RegionOpen
import Derived.OwnWalkIn
import Derived.TacticsInMore
import Derived.LoopNIn
import Derived.LoopIn
namespace Go.Proofs.YtmnboiikopkaoaaGreat
open Go.RowKit

theorem gret_int {k : IntKind} {a b : Int} (h : a = b) : Ending.returned (.int k a) = .returned (.int k b) := by rw [h]
theorem gtake_snoc (s : ByteArray) (k : Nat) (h : k < s.size) : s.data.toList.take (k + 1) = s.data.toList.take k ++ [s[k]] := by
  rw [List.take_succ_eq_append_getElem (by simpa using h)]; rfl
theorem hstep_form (y : Nat) (b : UInt8) (h : y < 4294967296) : (bits .xor .u32 (y : Int) ((b.toNat : Int) % 4294967296) * 16777619) % 4294967296 = ((hstep y b : Nat) : Int) := by
  have := b.toNat_lt
  rw [show ((b.toNat : Int) % 4294967296) = (b.toNat : Int) by omega, u32_xor_nat _ _ h (by omega)]
  unfold hstep
  omega
theorem hstart_form (seed : Nat) (h : seed < 4294967296) : bits .xor .u32 (seed : Int) 2166136261 = ((seed ^^^ 2166136261 : Nat) : Int) := u32_xor_nat _ 2166136261 h (by omega)
theorem hfin_form (y : Nat) (h : y < 4294967296) : bits .xor .u32 (y : Int) ((y : Int) / 32768) = ((hfin y : Nat) : Int) := by
  rw [show (y : Int) / 32768 = ((y / 32768 : Nat) : Int) by omega]
  exact u32_xor_nat _ _ h (by omega)

set_option maxHeartbeats 1000000 in
set_option maxRecDepth 100000 in
theorem hash_any (s : ByteArray) (seed : Nat) (w : World) (hs : s.size ≤ 9223372036854775807) (hd : seed < 4294967296) :
    Calls Tryz.prog 115 #[.string s, .int .u32 (seed : Int)] w fun e w' => e = .returned (.int .u32 (hashN s.data.toList seed : Nat)) ∧ w = w' := by
  have H0 := Lib.hid (hstart_form seed hd)
  have hx0 : seed ^^^ 2166136261 < 4294967296 := xor_lt32' hd (by omega)
  go_enter Tryz.func115, Tryz.ntmps115
  go_wp2
  go_loop [5, 11] (fun v i => ∃ (j y : Nat), j ≤ s.size ∧ i = .int .i64 j ∧ v = .int .u32 (y : Int) ∧ y < 4294967296 ∧ Hid (hashX (seed ^^^ 2166136261) (s.data.toList.take j) = y)) (fun _ i => s.size - (intOf i).toNat)
  case atStart => exact ⟨0, _, Nat.zero_le _, rfl, by rw [H0.out], hx0, rfl⟩
  case round =>
    obtain ⟨j, y, hj, rfl, rfl, hY1, HY⟩ := hrel
    by_cases hjl : j < s.size
    · have HT : Hid (hashX (seed ^^^ 2166136261) (s.data.toList.take (j + 1)) = hstep y s[j]) := by
        show _ = _
        rw [gtake_snoc s j hjl, hashX_snoc, HY.out]
      have HF := Lib.hid (hstep_form y s[j] hY1)
      have hl2 : hstep y s[j] < 4294967296 := Nat.mod_lt _ (by omega)
      go_wp2
      go_round
      case rel => exact ⟨j + 1, _, by omega, by go_num, by rw [HF.out], hl2, HT⟩
      case measure => simp [intOf]; omega
    · have hje : j = s.size := by omega
      have HF : Hid (bits .xor .u32 (y : Int) ((y : Int) / 32768) = ((hashN s.data.toList seed : Nat) : Int)) := by
        show _ = _
        rw [hfin_form y hY1, ← HY.out, hje, List.take_of_length_le (by exact Nat.le_refl _)]
        rfl
      clear HY hje
      go_wp2
      go_ret
      exact ⟨gret_int HF.out, rfl⟩
end Go.Proofs.YtmnboiikopkaoaaGreat

namespace Go.Proofs.YtmnboiikopkaoaaGreat
open Go.RowKit Go.Shelf

attribute [local go_sem] Oper.semAt_some

theorem hash_in (n : Nat) (s : ByteArray) (seed : Nat) (w : World) (hs : s.size ≤ 9223372036854775807) (hd : seed < 4294967296) :
    CallsIn Fence.wide n Tryz.prog 115 #[.string s, .int .u32 (seed : Int)] w fun e w' => e = .returned (.int .u32 (hashN s.data.toList seed : Nat)) ∧ w = w' :=
  callsIn_wide.2 (hash_any s seed w hs hd)
set_option maxHeartbeats 1000000 in
theorem places_in (n : Nat) (key : ByteArray) (p sz : Int) (w : World) :
    CallsIn Fence.wide n Tryz.prog 78 #[.string key, .int .i64 p, .int .i64 sz] w fun e w' => e = .returned (.func (.func 114) #[] #[.pointer (some ⟨w.heap.size + 1 + 1, 0, none⟩), .pointer (some ⟨w.heap.size, 0, none⟩), .pointer (some ⟨w.heap.size + 1, 0, none⟩)]) ∧ w' = ((w.alloc (.cells #[.string key] 9)).alloc (.cells #[.int .i64 p] 3)).alloc (.cells #[.int .i64 sz] 3) := by
  refine callsIn_of_wp Tryz.func78 rfl trivial ?_ rfl
  simp only [Tryz.ntmps78, List.size_toArray, List.length_cons, List.length_nil, Nat.reduceAdd, Nat.reduceSub, Array.replicate_succ, Array.replicate_zero, List.push_toArray, List.append_toArray, List.nil_append, List.cons_append]
  gi_wp2
  go_ret
  exact ⟨rfl, rfl⟩
theorem quietH {P : Program} {f : FuncId} {args : Array Value} {w : World} {n : Nat} {v : Value} (h : Calls P f args (w.drewN n) fun e w' => e = .returned v ∧ w.drewN n = w') :
    Calls P f args (w.drewN n) fun e w' => e = .returned v ∧ ∃ m, w' = w.drewN m := h.mono fun _ _ ⟨h1, h2⟩ => ⟨h1, n, h2.symm⟩
set_option maxRecDepth 100000 in
set_option maxHeartbeats 2000000 in
theorem places_run (n : Nat) (hn : 1 ≤ n) (l bz bk bp n₀ : Nat) (key : ByteArray) (hks : key.size ≤ 9223372036854775807) (p sz : Nat) (hp : p ≤ 20) (hz0 : 1 ≤ sz) (hz1 : sz ≤ 1000000000) (J Jx : List Nat → World → Prop)
    (hY : ∀ pre x W, x < sz * 8 → J pre W → pre.length < p → YieldAt Fence.wide (n - 1) Tryz.prog l #[.int .u64 (x : Nat)] W fun e W' =>
      (e = .returned (.bool true) ∧ J (pre ++ [x]) W' ∧ Below n₀ W W') ∨ (e = .returned (.bool false) ∧ Jx (pre ++ [x]) W'))
    (hD : ∀ pre W k, J pre W → J pre (W.drewN k))
    (W : World) (cz : W.cell? ⟨bz, 0, none⟩ = some (.int .i64 sz)) (ck : W.cell? ⟨bk, 0, none⟩ = some (.string key)) (cp : W.cell? ⟨bp, 0, none⟩ = some (.int .i64 p)) (h0 : J [] W) :
    CallsIn Fence.wide n Tryz.prog 114 #[.func (.yield l) #[] #[], .pointer (some ⟨bz, 0, none⟩), .pointer (some ⟨bk, 0, none⟩), .pointer (some ⟨bp, 0, none⟩)] W fun e W' => (∃ v, e = .returned v) ∧
      ((∃ ys, ys = plcs key.data.toList (sz * 8) p ∧ J ys W') ∨ (∃ pre, pre <+: plcs key.data.toList (sz * 8) p ∧ Jx pre W')) := by
  refine callsIn_of_wp Tryz.func114 rfl trivial ?_ rfl
  simp only [Tryz.ntmps114, List.size_toArray, List.length_cons, List.length_nil, Nat.reduceAdd, Nat.reduceSub, Array.replicate_succ, Array.replicate_zero, List.push_toArray, List.append_toArray, List.nil_append, List.cons_append]
  have H0 := Lib.hid (fun W' : World => hash_any key 0 W' hks (by omega))
  have H1 := Lib.hid (fun W' : World => hash_any key 1 W' hks (by omega))
  have HP : Hid (∀ i, plc key.data.toList (sz * 8) i = (hashN key.data.toList 0 + i * hashN key.data.toList 1) % (sz * 8)) := fun _ => rfl
  have HQ := Lib.hid (plcs_succ key.data.toList (sz * 8))
  have hb0 := hashN_lt key.data.toList 0 (by omega)
  have hb1 := hashN_lt key.data.toList 1 (by omega)
  have HS : Hid (∀ i, i ≤ 20 → hashN key.data.toList 0 + i * hashN key.data.toList 1 < 18446744073709551616) := plc_sum key.data.toList
  have HPre : Hid (∀ i, i ≤ p → plcs key.data.toList (sz * 8) i <+: plcs key.data.toList (sz * 8) p) := fun i hi => by
    have e : plcs key.data.toList (sz * 8) i = (plcs key.data.toList (sz * 8) p).take i := by
      unfold plcs
      rw [← List.map_take, List.take_range, Nat.min_eq_left hi]
    rw [e]
    exact List.take_prefix _ _
  have HL := Lib.hid (plcs_len key.data.toList (sz * 8))
  have HJ : Hid (J (plcs key.data.toList (sz * 8) 0) W) := h0
  clear h0
  obtain ⟨pl, hpl⟩ : ∃ pl, plcs key.data.toList (sz * 8) = pl := ⟨_, rfl⟩
  rw [hpl] at HQ HPre HL HJ ⊢
  clear hpl
  obtain ⟨pc, hpc⟩ : ∃ pc, plc key.data.toList (sz * 8) = pc := ⟨_, rfl⟩
  rw [hpc] at HP HQ
  clear hpc
  obtain ⟨h, hh⟩ : ∃ h, hashN key.data.toList 0 = h := ⟨_, rfl⟩
  rw [hh] at H0 HP HS hb0
  clear hh
  obtain ⟨g, hg⟩ : ∃ g, hashN key.data.toList 1 = g := ⟨_, rfl⟩
  rw [hg] at H1 HP HS hb1
  clear hg
  have hw0 : IntKind.u64.wrap (h : Int) = (h : Int) := by rw [IntKind.wrap_u64]; omega
  have hw1 : IntKind.u64.wrap (g : Int) = (g : Int) := by rw [IntKind.wrap_u64]; omega
  gi_wp2
  refine wpIn_wide.2 ?_
  go_quiet ((go_at_call 115; first | (with_reducible exact quietH (H0.out _)) | (with_reducible exact quietH (H1.out _)) | fail))
  gi_wp2
  gi_loopw [6, 18] (fun v i wr => ∃ k a : Nat, k ≤ p ∧ i = .int .i64 k ∧ v = .int .u64 (a : Nat) ∧ a < 18446744073709551616 ∧ Hid (k ≤ p → a = h + k * g) ∧ J (pl k) wr) (fun _ i _ => p - (intOf i).toNat)
  case atStart => exact ⟨0, h, Nat.zero_le _, rfl, rfl, by omega, Lib.hid (fun _ => by omega), hD _ _ _ HJ.out⟩
  case round =>
    obtain ⟨k, a, hk, rfl, rfl, ha, HA, hJs⟩ := hrel
    by_cases hlt : k < p
    · obtain ⟨fn, tmps, assign, body, hy, hR⟩ := hY _ (pc k) wr (by rw [HP.out]; exact Nat.mod_lt _ (by omega)) hJs (by rw [HL.out]; exact hlt)
      have hrem : (a : Int).tmod ((sz : Int) * 8) = ((pc k : Nat) : Int) := by
        rw [HP.out, ← HA.out hk, Int.tmod_eq_emod_of_nonneg (by omega), Int.natCast_emod, Int.natCast_mul]
        rfl
      have hne : ¬ ((sz : Int) * 8 = 0) := by omega
      have hse := HS.out k (by omega)
      have hse2 := HS.out (k + 1) (by omega)
      have hae := HA.out hk
      have hg2 : a + g < 18446744073709551616 := by rw [hae]; rw [Nat.add_mul] at hse2; omega
      have hg3 : (a : Int) + (g : Int) < 18446744073709551616 := by omega
      have HN : Hid (k + 1 ≤ p → a + g = h + (k + 1) * g) := Lib.hid (fun _ => by rw [hae, Nat.add_mul]; omega)
      clear hse hse2 hae HA
      gi_wp2
      refine hR.mono ?_
      rintro e W3 (⟨rfl, hJ3, hk3⟩ | ⟨rfl, hJx3⟩)
      · gi_wp2
        go_roundw
        case rel => exact ⟨k + 1, a + g, by omega, by simp, by simp, hg2, HN, by rw [HQ.out]; exact hJ3⟩
        case measure => simp [intOf]; omega
      · gi_wp2
        refine bodyPost_ret (results_none rfl _ _ _) rfl ?_
        exact ⟨⟨_, rfl⟩, .inr ⟨_, by rw [← HQ.out]; exact HPre.out _ (by omega), hJx3⟩⟩
    · obtain rfl : k = p := by omega
      gi_wp2
      go_end0
      exact ⟨⟨_, rfl⟩, .inl ⟨_, rfl, hJs⟩⟩
/-- What places hands back, as an iterator. -/
theorem places_stops (n : Nat) (hn : 1 ≤ n) (bz bk bp n₀ : Nat) (key : ByteArray) (hks : key.size ≤ 9223372036854775807) (p sz : Nat) (hp : p ≤ 20) (hz0 : 1 ≤ sz) (hz1 : sz ≤ 1000000000) (w : World)
    (cz : w.cell? ⟨bz, 0, none⟩ = some (.int .i64 sz)) (ck : w.cell? ⟨bk, 0, none⟩ = some (.string key)) (cp : w.cell? ⟨bp, 0, none⟩ = some (.int .i64 p)) (h1 : bz < w.heap.size) (h2 : bk < w.heap.size) (h3 : bp < w.heap.size) :
    SeqStopsK Fence.wide n Tryz.prog 114 #[.pointer (some ⟨bz, 0, none⟩), .pointer (some ⟨bk, 0, none⟩), .pointer (some ⟨bp, 0, none⟩)] (fun x : { x : Nat // x < sz * 8 } => #[Value.int .u64 (x.1 : Nat)]) (Below n₀) (fun ys => ys.map (·.1) = plcs key.data.toList (sz * 8) p) (fun pre => pre.map (·.1) <+: plcs key.data.toList (sz * 8) p) p w := fun l J Jx W hW hJ _ hY h0 => by
  refine (places_run n hn l bz bk bp n₀ key hks p sz hp hz0 hz1 (fun ys W' => ∃ ys' : List { x : Nat // x < sz * 8 }, ys = ys'.map (·.1) ∧ J ys' W') (fun ys W' => ∃ ys' : List { x : Nat // x < sz * 8 }, ys = ys'.map (·.1) ∧ Jx ys' W') ?_ ?_
    W ((hW.cell (p := ⟨bz, 0, none⟩) h1).trans cz) ((hW.cell (p := ⟨bk, 0, none⟩) h2).trans ck) ((hW.cell (p := ⟨bp, 0, none⟩) h3).trans cp) ⟨[], rfl, h0⟩).mono ?_
  · rintro pre x W' hx ⟨ys', rfl, hj⟩ hl
    have := hY ys' ⟨x, hx⟩ W' hj (by simpa using hl)
    obtain ⟨fn, tmps, assign, body, hy, hR⟩ := this
    refine ⟨fn, tmps, assign, body, hy, hR.mono ?_⟩
    rintro e W3 (⟨rfl, hJ3, hk3⟩ | ⟨rfl, hJx3⟩)
    · exact .inl ⟨rfl, ⟨_, by simp, hJ3⟩, hk3⟩
    · exact .inr ⟨rfl, ⟨_, by simp, hJx3⟩⟩
  · rintro pre W' k ⟨ys', rfl, hj⟩
    exact ⟨ys', rfl, hJ _ W' (W'.drewN k) none hj ⟨rfl, rfl, rfl, Nat.le_refl _, fun _ _ _ => rfl⟩ (fun r e => by cases e)⟩
  · rintro e W' ⟨hv, ⟨ys, rfl, ys', h, hj⟩ | ⟨pre, hpre, ys', rfl, hj⟩⟩
    · exact ⟨hv, .inl ⟨ys', h.symm, hj⟩⟩
    · exact ⟨hv, .inr ⟨ys', hpre, hj⟩⟩
end Go.Proofs.YtmnboiikopkaoaaGreat

namespace Go.Proofs.YtmnboiikopkaoaaGreat
open Go.RowKit Go.Shelf

attribute [local go_sem] Oper.semAt_some

theorem byteAt_string (f : ByteArray) (i : Nat) (h : i < f.size) : gbyteAt f.data.toList i = f[i] := by
  unfold gbyteAt
  rw [List.getElem?_eq_getElem (by simpa using h)]
  rfl
theorem validB_eq (f : ByteArray) (h : 2 ≤ f.size) : gvalidB f.data.toList = (decide (1 ≤ (f[f.size - 1]'(by omega)).toNat) && decide ((f[f.size - 1]'(by omega)).toNat ≤ 20)) := by
  unfold gvalidB
  have e : f.data.toList.length = f.size := rfl
  rw [e, byteAt_string _ _ (by omega)]
  rw [← Bool.decide_and]
  simp [h]
set_option maxHeartbeats 1000000 in
theorem gvalid_any (f : ByteArray) (w : World) (hf : f.size ≤ 9223372036854775807) :
    Calls Tryz.prog 85 #[.string f] w fun e w' => e = .returned (.bool (gvalidB f.data.toList)) ∧ w = w' := by
  by_cases h2 : f.size < 2
  · have hv : gvalidB f.data.toList = false := by
      unfold gvalidB
      have e : f.data.toList.length = f.size := rfl
      rw [e]
      exact decide_eq_false (by omega)
    rw [hv]
    go_enter Tryz.func85, Tryz.ntmps85
    go_wp2
    go_ret
    exact ⟨rfl, rfl⟩
  · have hv := validB_eq f (by omega)
    obtain ⟨b, hb⟩ : ∃ b, f[f.size - 1]'(by omega) = b := ⟨_, rfl⟩
    rw [hb] at hv
    have HV := Lib.hid hv
    clear hv
    have hbl := b.toNat_lt
    by_cases h1 : 1 ≤ b.toNat
    · by_cases h20 : b.toNat ≤ 20
      · have ht : gvalidB f.data.toList = true := by rw [HV.out]; simp [h1, h20]
        have d1 : decide ((b.toNat : Int) ≤ 20) = true := decide_eq_true (by omega)
        rw [ht]
        go_enter Tryz.func85, Tryz.ntmps85
        go_wp2
        go_ret
        exact ⟨rfl, rfl⟩
      · have ht : gvalidB f.data.toList = false := by rw [HV.out]; simp; omega
        have d1 : decide ((b.toNat : Int) ≤ 20) = false := decide_eq_false (by omega)
        rw [ht]
        go_enter Tryz.func85, Tryz.ntmps85
        go_wp2
        go_ret
        exact ⟨rfl, rfl⟩
    · have ht : gvalidB f.data.toList = false := by rw [HV.out]; simp; omega
      have d1 : decide (1 ≤ (b.toNat : Int)) = false := decide_eq_false (by omega)
      rw [ht]
      go_enter Tryz.func85, Tryz.ntmps85
      go_wp2
      go_ret
      exact ⟨rfl, rfl⟩
theorem and7_form (x : Nat) (h : x < 18446744073709551616) : bits .and .u64 (x : Int) 7 = ((x % 8 : Nat) : Int) := by
  rw [show (7 : Int) = ((7 : Nat) : Int) from rfl, u64_and_nat _ _ h (by omega)]
  congr 1
  exact Nat.and_two_pow_sub_one_eq_mod x 3
theorem bit_form (f : ByteArray) (x : Nat) (h : x / 8 < f.size) : (bits .and .u8 ((f[x / 8].toNat : Int) / 2 ^ (x % 8)) 1 == 0) = !bitAt f.data.toList x := by
  have hb := f[x / 8].toNat_lt
  have hle : f[x / 8].toNat / 2 ^ (x % 8) ≤ f[x / 8].toNat := Nat.div_le_self _ _
  have e : (f[x / 8].toNat : Int) / 2 ^ (x % 8) = ((f[x / 8].toNat / 2 ^ (x % 8) : Nat) : Int) := by simp
  rw [e, show (1 : Int) = ((1 : Nat) : Int) from rfl, u8_and_nat _ _ (by omega) (by omega), Nat.and_one_is_mod]
  unfold bitAt
  rw [byteAt_string _ _ h, Nat.testBit_eq_decide_div_mod_eq]
  by_cases h1 : f[x / 8].toNat / 2 ^ (x % 8) % 2 = 1
  · rw [h1]; rfl
  · rw [show f[x / 8].toNat / 2 ^ (x % 8) % 2 = 0 by omega]; rfl
theorem belowCell {w W : World} {b : Nat} {v : Value} (h : Below w.heap.size w W) (hb : b < w.heap.size) (hc : w.cell? ⟨b, 0, none⟩ = some v) : W.cell? ⟨b, 0, none⟩ = some v := (h.cell (p := ⟨b, 0, none⟩) hb).trans hc
set_option maxRecDepth 100000 in
set_option maxHeartbeats 4000000 in
theorem may_bad (f key : ByteArray) (w : World) (hf : f.size ≤ 1000000) (hv : gvalidB f.data.toList = false) :
    Calls Tryz.prog 55 #[.string f, .string key] w fun e w' => e = .returned (.bool true) ∧ Below w.heap.size w w' := by
  have CV := Lib.hid (fun W : World => (callsIn_wide (n := 4)).2 (gvalid_any f W (by omega)))
  rw [hv] at CV
  clear hv
  refine (callsIn_wide (n := 5)).1 ?_
  refine callsIn_of_wp_marks Tryz.func55 rfl trivial ?_ rfl
  simp only [Tryz.ntmps55, List.size_toArray, List.length_cons, List.length_nil, Nat.reduceAdd, Nat.reduceSub, Array.replicate_succ, Array.replicate_zero, List.push_toArray, List.append_toArray, List.nil_append, List.cons_append]
  gi_wp2_with (refine ⟨trivial, ?_⟩; gi_at_call 85; refine (CV.out _).mono ?_; rintro e w' ⟨rfl, rfl⟩)
  have hb := Boxed.new (w.alloc (.cells #[.string f] 9)) 4 (.bool true)
  have hc := hb.cell
  rw [World.size_alloc] at hc
  refine ⟨.bool true, ?_, rfl, ((Below.refl _ w).alloc (Nat.le_refl _) _).alloc (by simp) _⟩
  simp [results, Tryz.f55, go_sem, hc]
set_option maxRecDepth 100000 in
set_option maxHeartbeats 4000000 in
theorem may_good (f key : ByteArray) (w : World) (sz p : Nat) (hf : f.size ≤ 1000000) (hk : key.size ≤ 9223372036854775807) (hv : gvalidB f.data.toList = true) (hsz : f.size = sz + 1) (hz0 : 1 ≤ sz) (hp : (gbyteAt f.data.toList (f.size - 1)).toNat = p) (hp2 : p ≤ 20) :
    Calls Tryz.prog 55 #[.string f, .string key] w fun e w' => e = .returned (.bool (mayB f.data.toList key.data.toList)) ∧ Below w.heap.size w w' := by
  have HM : Hid (mayB f.data.toList key.data.toList = (plcs key.data.toList (sz * 8) p).all (bitAt f.data.toList)) := by
    show _ = _
    have e : f.data.toList.length = f.size := rfl
    unfold mayB
    rw [hv, e, hp, hsz, Nat.add_sub_cancel]
    rfl
  have CV := Lib.hid (fun W : World => (callsIn_wide (n := 4)).2 (gvalid_any f W (by omega)))
  rw [hv] at CV
  clear hv
  have hidx : sz < f.size := by omega
  have hpb : f[sz].toNat = p := by
    rw [← hp, hsz, Nat.add_sub_cancel, byteAt_string _ _ hidx]
  clear hp
  have hpw : wrap64 (p : Int) = (p : Int) := by unfold wrap64; omega
  have CP := Lib.hid (fun (W : World) => places_in 4 key p sz W)
  refine (callsIn_wide (n := 5)).1 ?_
  refine callsIn_of_wp_marks Tryz.func55 rfl trivial ?_ rfl
  simp only [Tryz.ntmps55, List.size_toArray, List.length_cons, List.length_nil, Nat.reduceAdd, Nat.reduceSub, Array.replicate_succ, Array.replicate_zero, List.push_toArray, List.append_toArray, List.nil_append, List.cons_append]
  gi_wp2_with (first | (refine ⟨trivial, ?_⟩; gi_at_call 85; refine (CV.out _).mono ?_; rintro e w' ⟨rfl, rfl⟩) | (refine ⟨trivial, ?_⟩; gi_at_call 78; refine (CP.out _).mono ?_; rintro e w' ⟨rfl, rfl⟩))
  clear CV CP
  obtain ⟨W0, hW0⟩ : ∃ W0, ((((w.alloc (.cells #[.string f] 9)).alloc (.cells #[.bool false] 4)).alloc (.cells #[.string key] 9)).alloc (.cells #[.int .i64 p] 3)).alloc (.cells #[.int .i64 sz] 3) = W0 := ⟨_, rfl⟩
  rw [hW0]
  have b0 : Boxed W0 w.heap.size 9 (.string f) := by rw [← hW0]; exact ((((Boxed.new w _ _).alloc _).alloc _).alloc _).alloc _
  have b1 : Boxed W0 (w.heap.size + 1) 4 (.bool false) := by rw [← hW0]; have := ((((Boxed.new (w.alloc (.cells #[.string f] 9)) 4 (.bool false)).alloc (.cells #[.string key] 9)).alloc (.cells #[.int .i64 p] 3)).alloc (.cells #[.int .i64 sz] 3)); rwa [World.size_alloc] at this
  have cz : W0.cell? ⟨w.heap.size + 1 + 1 + 1 + 1, 0, none⟩ = some (.int .i64 sz) := by rw [← hW0]; have := (Boxed.new ((((w.alloc (.cells #[.string f] 9)).alloc (.cells #[.bool false] 4)).alloc (.cells #[.string key] 9)).alloc (.cells #[.int .i64 p] 3)) 3 (.int .i64 sz)).cell; simpa using this
  have cp : W0.cell? ⟨w.heap.size + 1 + 1 + 1, 0, none⟩ = some (.int .i64 p) := by rw [← hW0]; have := ((Boxed.new (((w.alloc (.cells #[.string f] 9)).alloc (.cells #[.bool false] 4)).alloc (.cells #[.string key] 9)) 3 (.int .i64 p)).alloc (.cells #[.int .i64 sz] 3)).cell; simpa using this
  have ck : W0.cell? ⟨w.heap.size + 1 + 1, 0, none⟩ = some (.string key) := by rw [← hW0]; have := (((Boxed.new ((w.alloc (.cells #[.string f] 9)).alloc (.cells #[.bool false] 4)) 9 (.string key)).alloc (.cells #[.int .i64 p] 3)).alloc (.cells #[.int .i64 sz] 3)).cell; simpa using this
  have hs0 : W0.heap.size = w.heap.size + 5 := by rw [← hW0]; simp
  have hB0 : Below w.heap.size w W0 := by rw [← hW0]; exact (((((Below.refl _ w).alloc (Nat.le_refl _) _).alloc (by simp) _).alloc (by simp; omega) _).alloc (by simp; omega) _).alloc (by simp; omega) _
  clear hW0
  refine wpIn_rangeFunc_ownF rfl (by omega) (gf := 114) (lb := #[.pointer (some ⟨w.heap.size + 1 + 1 + 1 + 1, 0, none⟩), .pointer (some ⟨w.heap.size + 1 + 1, 0, none⟩), .pointer (some ⟨w.heap.size + 1 + 1 + 1, 0, none⟩)]) rfl trivial (enters_of Tryz.func114 (by kernel_rfl) rfl)
    (places_stops 4 (by omega) _ _ _ w.heap.size key hk p sz hp2 hz0 (by omega) W0 cz ck cp (by omega) (by omega) (by omega)) belowK_t (belowK_b (by omega)) (Below.refl _ _) (fun _ => rfl)
    (fun pre W => (Boxed W w.heap.size 9 (.string f) ∧ Boxed W (w.heap.size + 1) 4 (.bool false) ∧ ∀ x ∈ pre, bitAt f.data.toList x.1 = true) ∧ Below w.heap.size w W)
    (fun c pre W => (c = .ret ∧ Boxed W (w.heap.size + 1) 4 (.bool false) ∧ ∃ x ∈ pre, bitAt f.data.toList x.1 = false) ∧ Below w.heap.size w W)
    (OwnFrom.and (OwnFrom.and (Own.from (boxed_own _ _ _) _) (OwnFrom.and (Own.from (boxed_own _ _ _) _) (ownFrom_pure _ _))) (ownFrom_below (Nat.le_refl _) (by omega)))
    (fun c => OwnFrom.and (OwnFrom.and (ownFrom_pure _ (fun _ => c = .ret)) (OwnFrom.and (Own.from (boxed_own _ _ _) _) (ownFrom_pure _ _))) (ownFrom_below (Nat.le_refl _) (by omega)))
    ⟨⟨b0, b1, by simp⟩, hB0⟩
    (fun x => { tmps := #[.string f, .string key, .pointer (some ⟨w.heap.size, 0, none⟩), undef, .pointer (some ⟨w.heap.size + 1, 0, none⟩), .int .i64 sz, .int .u64 (x.1 : Nat), .string f, .bool true, .bool false, .string f, .int .i64 (sz + 1), .int .i64 sz, .string key, .string f, .int .i64 sz, .int .u8 p, .int .i64 p, .int .i64 sz, .func (.func 114) #[] #[.pointer (some ⟨w.heap.size + 1 + 1 + 1 + 1, 0, none⟩), .pointer (some ⟨w.heap.size + 1 + 1, 0, none⟩), .pointer (some ⟨w.heap.size + 1 + 1 + 1, 0, none⟩)], .int .u64 (x.1 : Nat), undef, undef, undef, undef, undef, undef, undef, undef, undef], defers := [] }) ?assign ?body ?done ?stop
  case assign =>
    intro l x W K hK
    gi_wp2
    exact hK
  case body =>
    rintro l pre ⟨x, hx⟩ W ⟨⟨b0, b1, hall⟩, hB⟩ _
    have c0 := b0.cell
    have c1 := b1.cell
    have f1 := b1.frozen
    obtain ⟨q, hq⟩ : ∃ q, x / 8 = q := ⟨_, rfl⟩
    obtain ⟨r, hr⟩ : ∃ r, x % 8 = r := ⟨_, rfl⟩
    have hqi : (x : Int) / 8 = (q : Int) := by omega
    have hri : bits .and .u64 (x : Int) 7 = (r : Int) := by rw [and7_form x (by omega), hr]
    have hq2 : q < f.size := by omega
    have HB : Hid ((bits .and .u8 ((f[q].toNat : Int) / 2 ^ r) 1 == 0) = !bitAt f.data.toList x) := by
      show _ = _
      have := bit_form f x (by omega)
      simp only [hq, hr] at this
      exact this
    have hKp : Below w.heap.size W (W.setCell ⟨w.heap.size + 1, 0, none⟩ (.bool false)) := (Below.refl w.heap.size W).setCell (p := ⟨w.heap.size + 1, 0, none⟩) (by show w.heap.size ≤ w.heap.size + 1; omega) _
    cases hbt : bitAt f.data.toList x with
    | true =>
      have ht : (bits .and .u8 ((f[q].toNat : Int) / 2 ^ r) 1 == 0) = false := by rw [HB.out, hbt]; rfl
      clear HB
      gi_wp2
      refine ⟨KeepsOthers.refl _, Below.refl _ _, ⟨b0, b1, fun y hy => ?_⟩, hB⟩
      rcases List.mem_append.1 hy with hy | hy
      · exact hall y hy
      · rw [List.mem_singleton] at hy
        rw [hy]
        exact hbt
    | false =>
      have ht : (bits .and .u8 ((f[q].toNat : Int) / 2 ^ r) 1 == 0) = true := by rw [HB.out, hbt]; rfl
      clear HB
      gi_wp2
      exact ⟨KeepsOthers.setCell _ _ _, ⟨rfl, b1.set _, ⟨x, hx⟩, by simp, hbt⟩, hB.trans hKp⟩
  case done =>
    rintro D ys W hD hS ⟨⟨b0, b1, hall⟩, hB⟩ hK
    have c1 := b1.cell
    have f1 := b1.frozen
    have HMt : Hid (mayB f.data.toList key.data.toList = true) := by
      show _ = _
      rw [HM.out, ← hS, List.all_eq_true]
      intro x hx
      obtain ⟨y, hy, rfl⟩ := List.mem_map.1 hx
      exact hall y hy
    clear HM
    gi_wp2
    have hKp : Below w.heap.size W (W.setCell ⟨w.heap.size + 1, 0, none⟩ (.bool true)) := (Below.refl w.heap.size W).setCell (p := ⟨w.heap.size + 1, 0, none⟩) (by show w.heap.size ≤ w.heap.size + 1; omega) _
    have hK' := (KeepsOthers.setCell W ⟨w.heap.size + 1, 0, none⟩ (.bool true)).same D _ hK rfl
    refine ⟨by simp, .inl ⟨_, _, rfl, run_takeDeferred hK', ?_⟩⟩
    have hc5 := cell_kept (b1.set (.bool true)).cell (grownBy_putObj' _ D (.deferred none)) (fun r e => by cases e; exact ⟨_, hK', rfl⟩)
    refine ⟨.bool true, ?_, by rw [HMt.out], (hB.trans hKp).trans (belowK_b (w := w) (Nat.le_refl _) _ D _ _ (by omega) hK' rfl rfl)⟩
    simp [results, Tryz.f55, go_sem, hc5]
  case stop =>
    rintro D c pre W hD hS ⟨⟨rfl, b1, x, hx, hbx⟩, hB⟩ hK
    have c1 := b1.cell
    have HMt : Hid (mayB f.data.toList key.data.toList = false) := by
      show _ = _
      rw [HM.out, List.all_eq_false]
      exact ⟨x.1, hS.subset (List.mem_map.2 ⟨x, hx, rfl⟩), by rw [hbx]; simp⟩
    clear HM
    gi_wp2
    refine ⟨by simp, .inl ⟨_, _, rfl, run_takeDeferred hK, ?_⟩⟩
    have hc5 := cell_kept c1 (grownBy_putObj' _ D (.deferred none)) (fun r e => by cases e; exact ⟨_, hK, rfl⟩)
    refine ⟨.bool false, ?_, by rw [HMt.out], hB.trans (belowK_b (w := w) (Nat.le_refl _) _ D _ _ (by omega) hK rfl rfl)⟩
    simp [results, Tryz.f55, go_sem, hc5]
theorem may_any (f key : ByteArray) (w : World) (hf : f.size ≤ 1000000) (hk : key.size ≤ 9223372036854775807) :
    Calls Tryz.prog 55 #[.string f, .string key] w fun e w' => e = .returned (.bool (mayB f.data.toList key.data.toList)) ∧ Below w.heap.size w w' := by
  cases hv : gvalidB f.data.toList with
  | false =>
    have hm : mayB f.data.toList key.data.toList = true := by unfold mayB; rw [hv]; rfl
    rw [hm]
    exact may_bad f key w hf hv
  | true =>
    have h : 2 ≤ f.size ∧ 1 ≤ (gbyteAt f.data.toList (f.size - 1)).toNat ∧ (gbyteAt f.data.toList (f.size - 1)).toNat ≤ 20 := of_decide_eq_true hv
    exact may_good f key w (f.size - 1) _ hf hk hv (by omega) (by omega) rfl h.2.2
end Go.Proofs.YtmnboiikopkaoaaGreat
