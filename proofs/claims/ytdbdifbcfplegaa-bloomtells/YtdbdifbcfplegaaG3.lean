/- Contracts: places, which goes through the numbers of a key's bits. -/
import Derived.RangeFuncNested
import Derived.RangeFuncBound
import Derived.RangeFuncCalls
import Derived.RangeFuncBox
import Derived.RangeFuncLeaves
import Derived.Shelf.Abstract
import Derived.Shelf.RegionOpen
import Derived.OwnWalkIn
import Derived.TacticsInMore
import Derived.LoopNIn
import Derived.LoopIn
import Derived.Test.YtdbdifbcfplegaaG2
namespace Go.Proofs.Ytdbdifbcfplegaa
open Go.RowKit Go.Shelf

attribute [local go_sem] Oper.semAt_some

theorem hash_in (n : Nat) (s : ByteArray) (seed : Nat) (w : World) (hs : s.size ≤ 9223372036854775807) (hd : seed < 4294967296) :
    CallsIn Fence.wide n Try.prog 11 #[.string s, .int .u32 (seed : Int)] w fun e w' => e = .returned (.int .u32 (hashN s.data.toList seed : Nat)) ∧ w = w' :=
  callsIn_wide.2 (hash_any s seed w hs hd)

set_option maxHeartbeats 1000000 in
theorem places_in (n : Nat) (key : ByteArray) (p sz : Int) (w : World) :
    CallsIn Fence.wide n Try.prog 19 #[.string key, .int .i64 p, .int .i64 sz] w fun e w' => e = .returned (.func (.func 22) #[] #[.pointer (some ⟨w.heap.size + 1 + 1, 0, none⟩), .pointer (some ⟨w.heap.size, 0, none⟩), .pointer (some ⟨w.heap.size + 1, 0, none⟩)]) ∧ w' = ((w.alloc (.cells #[.string key] 9)).alloc (.cells #[.int .i64 p] 3)).alloc (.cells #[.int .i64 sz] 3) := by
  refine callsIn_of_wp Try.func19 rfl trivial ?_ rfl
  simp only [Try.ntmps19, List.size_toArray, List.length_cons, List.length_nil, Nat.reduceAdd, Nat.reduceSub, Array.replicate_succ, Array.replicate_zero, List.push_toArray, List.append_toArray, List.nil_append, List.cons_append]
  gi_wp2
  go_ret
  exact ⟨rfl, rfl⟩

theorem quietH {P : Program} {f : FuncId} {args : Array Value} {w : World} {n : Nat} {v : Value} (h : Calls P f args (w.drewN n) fun e w' => e = .returned v ∧ w.drewN n = w') :
    Calls P f args (w.drewN n) fun e w' => e = .returned v ∧ ∃ m, w' = w.drewN m := h.mono fun _ _ ⟨h1, h2⟩ => ⟨h1, n, h2.symm⟩
set_option maxRecDepth 100000 in
set_option maxHeartbeats 2000000 in
theorem places_run (n : Nat) (hn : 1 ≤ n) (l bz bk bp n₀ : Nat) (key : ByteArray) (hks : key.size ≤ 9223372036854775807) (p sz : Nat) (hp : p ≤ 20) (hz0 : 1 ≤ sz) (hz1 : sz ≤ 1000000000) (J Jx : List Nat → World → Prop)
    (hY : ∀ pre x W, x < sz * 8 → J pre W → pre.length < p → YieldAt Fence.wide (n - 1) Try.prog l #[.int .u64 (x : Nat)] W fun e W' =>
      (e = .returned (.bool true) ∧ J (pre ++ [x]) W' ∧ Below n₀ W W') ∨ (e = .returned (.bool false) ∧ Jx (pre ++ [x]) W'))
    (hD : ∀ pre W k, J pre W → J pre (W.drewN k))
    (W : World) (cz : W.cell? ⟨bz, 0, none⟩ = some (.int .i64 sz)) (ck : W.cell? ⟨bk, 0, none⟩ = some (.string key)) (cp : W.cell? ⟨bp, 0, none⟩ = some (.int .i64 p)) (h0 : J [] W) :
    CallsIn Fence.wide n Try.prog 22 #[.func (.yield l) #[] #[], .pointer (some ⟨bz, 0, none⟩), .pointer (some ⟨bk, 0, none⟩), .pointer (some ⟨bp, 0, none⟩)] W fun e W' => (∃ v, e = .returned v) ∧
      ((∃ ys, ys = plcs key.data.toList (sz * 8) p ∧ J ys W') ∨ (∃ pre, pre <+: plcs key.data.toList (sz * 8) p ∧ Jx pre W')) := by
  refine callsIn_of_wp Try.func22 rfl trivial ?_ rfl
  simp only [Try.ntmps22, List.size_toArray, List.length_cons, List.length_nil, Nat.reduceAdd, Nat.reduceSub, Array.replicate_succ, Array.replicate_zero, List.push_toArray, List.append_toArray, List.nil_append, List.cons_append]
  have H0 := Lib.hid (fun W' : World => hash_any key 0 W' hks (by omega))
  have H1 := Lib.hid (fun W' : World => hash_any key 1 W' hks (by omega))
  have HP : Hid (∀ i, plc key.data.toList (sz * 8) i = (hashN key.data.toList 0 + i * hashN key.data.toList 1) % (sz * 8)) := fun _ => rfl
  have HQ := Lib.hid (plcs_succ key.data.toList (sz * 8))
  have hb0 := hashN_lt key.data.toList 0 (by omega)
  have hb1 := hashN_lt key.data.toList 1 (by omega)
  have HS : Hid (∀ i, i ≤ 20 → hashN key.data.toList 0 + i * hashN key.data.toList 1 < 18446744073709551616) := plc_sum key.data.toList
  have HPre : Hid (∀ i, i ≤ p → plcs key.data.toList (sz * 8) i <+: plcs key.data.toList (sz * 8) p) := fun i hi => by
    have e : plcs key.data.toList (sz * 8) i = (plcs key.data.toList (sz * 8) p).take i := by
      unfold plcs
      rw [← List.map_take, List.take_range, Nat.min_eq_left hi]
    rw [e]
    exact List.take_prefix _ _
  have HL := Lib.hid (plcs_len key.data.toList (sz * 8))
  have HJ : Hid (J (plcs key.data.toList (sz * 8) 0) W) := h0
  clear h0
  obtain ⟨pl, hpl⟩ : ∃ pl, plcs key.data.toList (sz * 8) = pl := ⟨_, rfl⟩
  rw [hpl] at HQ HPre HL HJ ⊢
  clear hpl
  obtain ⟨pc, hpc⟩ : ∃ pc, plc key.data.toList (sz * 8) = pc := ⟨_, rfl⟩
  rw [hpc] at HP HQ
  clear hpc
  obtain ⟨h, hh⟩ : ∃ h, hashN key.data.toList 0 = h := ⟨_, rfl⟩
  rw [hh] at H0 HP HS hb0
  clear hh
  obtain ⟨g, hg⟩ : ∃ g, hashN key.data.toList 1 = g := ⟨_, rfl⟩
  rw [hg] at H1 HP HS hb1
  clear hg
  have hw0 : IntKind.u64.wrap (h : Int) = (h : Int) := by rw [IntKind.wrap_u64]; omega
  have hw1 : IntKind.u64.wrap (g : Int) = (g : Int) := by rw [IntKind.wrap_u64]; omega
  gi_wp2
  refine wpIn_wide.2 ?_
  go_quiet ((go_at_call 11; first | (with_reducible exact quietH (H0.out _)) | (with_reducible exact quietH (H1.out _)) | fail))
  gi_wp2
  gi_loopw [6, 18] (fun v i wr => ∃ k a : Nat, k ≤ p ∧ i = .int .i64 k ∧ v = .int .u64 (a : Nat) ∧ a < 18446744073709551616 ∧ Hid (k ≤ p → a = h + k * g) ∧ J (pl k) wr) (fun _ i _ => p - (intOf i).toNat)
  case atStart => exact ⟨0, h, Nat.zero_le _, rfl, rfl, by omega, Lib.hid (fun _ => by omega), hD _ _ _ HJ.out⟩
  case round =>
    obtain ⟨k, a, hk, rfl, rfl, ha, HA, hJs⟩ := hrel
    by_cases hlt : k < p
    · obtain ⟨fn, tmps, assign, body, hy, hR⟩ := hY _ (pc k) wr (by rw [HP.out]; exact Nat.mod_lt _ (by omega)) hJs (by rw [HL.out]; exact hlt)
      have hrem : (a : Int).tmod ((sz : Int) * 8) = ((pc k : Nat) : Int) := by
        rw [HP.out, ← HA.out hk, Int.tmod_eq_emod_of_nonneg (by omega), Int.natCast_emod, Int.natCast_mul]
        rfl
      have hne : ¬ ((sz : Int) * 8 = 0) := by omega
      have hse := HS.out k (by omega)
      have hse2 := HS.out (k + 1) (by omega)
      have hae := HA.out hk
      have hg2 : a + g < 18446744073709551616 := by rw [hae]; rw [Nat.add_mul] at hse2; omega
      have hg3 : (a : Int) + (g : Int) < 18446744073709551616 := by omega
      have HN : Hid (k + 1 ≤ p → a + g = h + (k + 1) * g) := Lib.hid (fun _ => by rw [hae, Nat.add_mul]; omega)
      clear hse hse2 hae HA
      gi_wp2
      refine hR.mono ?_
      rintro e W3 (⟨rfl, hJ3, hk3⟩ | ⟨rfl, hJx3⟩)
      · gi_wp2
        go_roundw
        case rel => exact ⟨k + 1, a + g, by omega, by simp, by simp, hg2, HN, by rw [HQ.out]; exact hJ3⟩
        case measure => simp [intOf]; omega
      · gi_wp2
        refine bodyPost_ret (results_none rfl _ _ _) rfl ?_
        exact ⟨⟨_, rfl⟩, .inr ⟨_, by rw [← HQ.out]; exact HPre.out _ (by omega), hJx3⟩⟩
    · obtain rfl : k = p := by omega
      gi_wp2
      go_end0
      exact ⟨⟨_, rfl⟩, .inl ⟨_, rfl, hJs⟩⟩
/-- What places hands back, as an iterator. -/
theorem places_stops (n : Nat) (hn : 1 ≤ n) (bz bk bp n₀ : Nat) (key : ByteArray) (hks : key.size ≤ 9223372036854775807) (p sz : Nat) (hp : p ≤ 20) (hz0 : 1 ≤ sz) (hz1 : sz ≤ 1000000000) (w : World)
    (cz : w.cell? ⟨bz, 0, none⟩ = some (.int .i64 sz)) (ck : w.cell? ⟨bk, 0, none⟩ = some (.string key)) (cp : w.cell? ⟨bp, 0, none⟩ = some (.int .i64 p)) (h1 : bz < w.heap.size) (h2 : bk < w.heap.size) (h3 : bp < w.heap.size) :
    SeqStopsK Fence.wide n Try.prog 22 #[.pointer (some ⟨bz, 0, none⟩), .pointer (some ⟨bk, 0, none⟩), .pointer (some ⟨bp, 0, none⟩)] (fun x : { x : Nat // x < sz * 8 } => #[Value.int .u64 (x.1 : Nat)]) (Below n₀) (fun ys => ys.map (·.1) = plcs key.data.toList (sz * 8) p) (fun pre => pre.map (·.1) <+: plcs key.data.toList (sz * 8) p) p w := fun l J Jx W hW hJ _ hY h0 => by
  refine (places_run n hn l bz bk bp n₀ key hks p sz hp hz0 hz1 (fun ys W' => ∃ ys' : List { x : Nat // x < sz * 8 }, ys = ys'.map (·.1) ∧ J ys' W') (fun ys W' => ∃ ys' : List { x : Nat // x < sz * 8 }, ys = ys'.map (·.1) ∧ Jx ys' W') ?_ ?_
    W ((hW.cell (p := ⟨bz, 0, none⟩) h1).trans cz) ((hW.cell (p := ⟨bk, 0, none⟩) h2).trans ck) ((hW.cell (p := ⟨bp, 0, none⟩) h3).trans cp) ⟨[], rfl, h0⟩).mono ?_
  · rintro pre x W' hx ⟨ys', rfl, hj⟩ hl
    have := hY ys' ⟨x, hx⟩ W' hj (by simpa using hl)
    obtain ⟨fn, tmps, assign, body, hy, hR⟩ := this
    refine ⟨fn, tmps, assign, body, hy, hR.mono ?_⟩
    rintro e W3 (⟨rfl, hJ3, hk3⟩ | ⟨rfl, hJx3⟩)
    · exact .inl ⟨rfl, ⟨_, by simp, hJ3⟩, hk3⟩
    · exact .inr ⟨rfl, ⟨_, by simp, hJx3⟩⟩
  · rintro pre W' k ⟨ys', rfl, hj⟩
    exact ⟨ys', rfl, hJ _ W' (W'.drewN k) none hj ⟨rfl, rfl, rfl, Nat.le_refl _, fun _ _ _ => rfl⟩ (fun r e => by cases e)⟩
  · rintro e W' ⟨hv, ⟨ys, rfl, ys', h, hj⟩ | ⟨pre, hpre, ys', rfl, hj⟩⟩
    · exact ⟨hv, .inl ⟨ys', h.symm, hj⟩⟩
    · exact ⟨hv, .inr ⟨ys', hpre, hj⟩⟩
end Go.Proofs.Ytdbdifbcfplegaa
