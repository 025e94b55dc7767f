/- A System of the call's own beside a list of names that was told before; SameTexts. -/
import Derived.Test.YtfndlfnlepndmaaGreatFG
namespace Go.Proofs.YtfndlfnlepndmaaGreat
open Go.RowKit

/-- At p lies a System in state s; v is a list of names apart from it. -/
def HasR (B p n m : Nat) (s : St) (v : Value) (ns : List Nm) (w : World) : Prop :=
  ∃ r, Sys w r s ∧ r.p = p ∧ (∀ k ∈ r.foot, B ≤ k) ∧ Lim n m s ∧ Coh s ∧ Row w 9 1 v ns.length (nmVals ns) ∧ ∀ k, ob v = some k → k ∉ r.foot
section
variable {B p n m : Nat} {s : St} {w : World} {v : Value} {ns : List Nm}
theorem HasR.has (h : HasR B p n m s v ns w) : Has B p n m s w := by
  obtain ⟨r, h1, h2, h3, h4, h5, -⟩ := h
  exact ⟨r, h1, h2, h3, h4, h5⟩
theorem HasR.row (h : HasR B p n m s v ns w) : Row w 9 1 v ns.length (nmVals ns) := by
  obtain ⟨r, h1, h2, h3, h4, h5, h6, -⟩ := h
  exact h6
theorem HasR.below {w' : World} (h : HasR B p n m s v ns w) (hb : Below w.heap.size w w') : HasR B p n m s v ns w' := by
  obtain ⟨r, h1, h2, h3, h4, h5, h6, h7⟩ := h
  exact ⟨r, h1.below hb, h2, h3, h4, h5, h6.kept (fun k hk => hb.block k (h6.lt k hk)), h7⟩
theorem HasR.next {w' : World} {r : Rep} {s' : St} {n' m' : Nat} (hB : B ≤ w.heap.size) (hf : ∀ k ∈ r.foot, B ≤ k) (hp : r.p = p) (h : Next w r s' w') (hl : Lim n' m' s') (hc : Coh s')
    (h6 : Row w 9 1 v ns.length (nmVals ns)) (h7 : ∀ k, ob v = some k → k ∉ r.foot) : HasR B p n' m' s' v ns w' ∧ Below B w w' := by
  obtain ⟨r', h1, h2, h3, h4⟩ := h
  refine ⟨⟨r', h1, h2.trans hp, fun k hk => ?_, hl, hc, h6.kept (fun k hk => h3.block k (h6.lt k hk) (h7 k hk)), fun k hk hm => ?_⟩, h3.below hB hf⟩
  · rcases h4 k hk with h' | h'
    · exact hf k h'
    · omega
  · rcases h4 k hm with h' | h'
    · exact h7 k hk h'
    · have := h6.lt k hk
      omega
theorem hasR_names (h : Has B p n m s w) (hN : n ≤ 1000000) :
    Calls Tryz.prog 15 #[.pointer (some ⟨p, 0, none⟩)] w fun e w' => ∃ v, e = .returned v ∧ HasR B p n m s v s.names w' ∧ Below w.heap.size w w' := by
  obtain ⟨r, h1, rfl, h3, h4, h5⟩ := h
  refine (namesS_any h1 h4 hN).mono ?_
  rintro e w' ⟨v, rfl, hr, hb, hf⟩
  exact ⟨v, rfl, ⟨r, h1.below hb, rfl, h3, h4, h5, hr, fun k hk hm => by have := hf k hk; have := h1.lt k hm; omega⟩, hb⟩
theorem hasR_names2 (h : HasR B p n m s v ns w) (hN : n ≤ 1000000) :
    Calls Tryz.prog 15 #[.pointer (some ⟨p, 0, none⟩)] w fun e w' => ∃ v', e = .returned v' ∧ Row w' 9 1 v' s.names.length (nmVals s.names) ∧ HasR B p n m s v ns w' ∧ Below w.heap.size w w' := by
  refine (has_names h.has hN).mono ?_
  rintro e w' ⟨v', rfl, hr, -, hb⟩
  exact ⟨v', rfl, hr, h.below hb, hb⟩
theorem hasR_restore (h : HasR B p n m s v ns w) :
    Calls Tryz.prog 23 #[.pointer (some ⟨p, 0, none⟩)] w fun e w' => e = .returned (.tuple #[]) ∧ HasR B p n m s.restore v ns w' ∧ Below B w w' := by
  have hB := h.has.size
  obtain ⟨r, h1, rfl, h3, h4, h5, h6, h7⟩ := h
  refine (restore_any h1).mono ?_
  rintro e w' ⟨rfl, hn'⟩
  exact ⟨rfl, HasR.next hB h3 rfl hn' (restore_lim h4) (restore_coh h5) h6 h7⟩
theorem hasR_crash1 (h : HasR B p n m s v ns w) (hN : n ≤ 100000) (hM : m ≤ 1000000000) (dir k : Int) :
    Calls Tryz.prog 12 #[.pointer (some ⟨p, 0, none⟩), .int .i64 dir, .slice (some ⟨w.heap.size, 0, none⟩) 1 1] (w.alloc (.cells #[.int .i64 k] 3)) fun e w' => e = .returned (.tuple #[]) ∧ HasR B p n m (s.crash dir [k]) v ns w' ∧ Below B w w' := by
  have hB := h.has.size
  obtain ⟨r, h1, rfl, h3, h4, h5, h6, h7⟩ := h
  have hb : Below w.heap.size w (w.alloc (.cells #[.int .i64 k] 3)) := (Below.refl _ _).alloc (Nat.le_refl _) _
  refine (crash_any (h1.below hb) h4 hN hM h5 dir _ [k] ⟨some ⟨w.heap.size, 0, none⟩, 1, rfl, by unfold maxLen; omega, Nat.le_refl _, fun i hi => ⟨w.heap.size, 0, rfl, fun hm => Nat.lt_irrefl _ (h1.lt _ hm), ?_⟩⟩).mono ?_
  · obtain rfl : i = 0 := by simp at hi; omega
    exact ncell rfl rfl
  rintro e w' ⟨rfl, hn'⟩
  have hx := HasR.next (B := B) (p := r.p) (by simp; omega) h3 rfl hn' (crash_lim h4 _ _) (crash_coh _ _ _) (h6.kept (fun k hk => hb.block k (h6.lt k hk))) h7
  exact ⟨rfl, hx.1, (hb.mono hB).trans hx.2⟩
end
theorem drewN_add' (w : World) (a b : Nat) : (w.drewN a).drewN b = w.drewN (a + b) := by rw [World.drewN_drewN]
set_option maxHeartbeats 1000000 in
set_option maxRecDepth 100000 in
theorem sameT_some (g off0 cap0 b off cap : Nat) (zs : List Nm) (w : World) (hl : zs.length ≤ 1000000) (h0 : ∀ i (h : i < zs.length), w.cell? ⟨g, off0 + i, none⟩ = some (.string ⟨zs[i].toArray⟩)) (h1 : ∀ i (h : i < zs.length), w.cell? ⟨b, off + i, none⟩ = some (.string ⟨zs[i].toArray⟩)) :
    Calls Tryz.prog 55 #[.slice (some ⟨g, off0, none⟩) zs.length cap0, .slice (some ⟨b, off, none⟩) zs.length cap] w fun e w' => e = .returned (.bool true) ∧ ∃ n, w' = w.drewN n := by
  have H0 := Lib.hid h0
  have H1 := Lib.hid h1
  clear h0 h1
  go_enter Tryz.func55, Tryz.ntmps55
  go_wp2
  go_loopw [5] (fun i wr => ∃ k n : Nat, k ≤ zs.length ∧ i = .int .i64 k ∧ wr = w.drewN n) (fun i _ => zs.length - (intOf i).toNat)
  case atStart => exact ⟨0, 0, Nat.zero_le _, rfl, rfl⟩
  case round =>
    obtain ⟨k, n, hk, rfl, rfl⟩ := hrel
    by_cases hlt : k < zs.length
    · have hc0 := H0.out k hlt
      have hc1 := H1.out k hlt
      generalize (⟨zs[k].toArray⟩ : ByteArray) = NM at hc0 hc1
      have hk0 : (k : Int) < (zs.length : Int) := by omega
      go_wp2
      go_quiet (fail)
      go_wp2
      go_roundw
      case rel => exact ⟨k + 1, n + nq, by omega, by go_num, by first | rfl | (rw [drewN_add'])⟩
      case measure => simp [intOf]; omega
    · go_wp2
      go_ret
      exact ⟨rfl, n, rfl⟩
set_option maxHeartbeats 1000000 in
theorem sameT_none (a0 a1 : Option Addr) (cap0 cap : Nat) (w : World) :
    Calls Tryz.prog 55 #[.slice a0 0 cap0, .slice a1 0 cap] w fun e w' => e = .returned (.bool true) ∧ ∃ n, w' = w.drewN n := by
  go_enter Tryz.func55, Tryz.ntmps55
  go_wp2
  refine wp_loop_rounds 1 ?_
  rw [rounds_succ]
  go_wp2
  go_ret
  exact ⟨rfl, 0, rfl⟩
theorem row_form {w : World} {v : Value} {ns : List Nm} (h : Row w 9 1 v ns.length (nmVals ns)) : ∃ a cap, v = .slice a ns.length cap ∧ (ns.length = 0 ∨ ∃ g o, a = some ⟨g, o, none⟩ ∧ ∀ i (h : i < ns.length), w.cell? ⟨g, o + i, none⟩ = some (.string ⟨ns[i].toArray⟩)) := by
  have hc := h.cell
  obtain ⟨a, cap, hv, -, -⟩ := h.le
  refine ⟨a, cap, hv, ?_⟩
  rcases h.2 with ⟨h0, -⟩ | ⟨g, c, cur, hv', -⟩
  · exact .inl h0
  · rw [hv] at hv'
    cases hv'
    exact .inr ⟨g, 0, rfl, fun i hi => hc g 0 _ hv i _ (by simp [nmVals, hi, encStr])⟩
theorem sameT_any (v0 v1 : Value) (ns : List Nm) (w : World) (h0 : Row w 9 1 v0 ns.length (nmVals ns)) (h1 : Row w 9 1 v1 ns.length (nmVals ns)) (hl : ns.length ≤ 1000000) :
    Calls Tryz.prog 55 #[v0, v1] w fun e w' => e = .returned (.bool true) ∧ Below w.heap.size w w' := by
  have key : Calls Tryz.prog 55 #[v0, v1] w fun e w' => e = .returned (.bool true) ∧ ∃ n, w' = w.drewN n := by
    obtain ⟨a0, c0, rfl, r0⟩ := row_form h0
    obtain ⟨a1, c1, rfl, r1⟩ := row_form h1
    rcases r0 with h0 | ⟨b, off, rfl, hc⟩
    · rw [h0]; exact sameT_none _ _ _ _ _
    · rcases r1 with h0 | ⟨b1, off1, rfl, hc1⟩
      · rw [h0]; exact sameT_none _ _ _ _ _
      · exact sameT_some b off c0 b1 off1 c1 ns w hl hc hc1
  refine key.mono ?_
  rintro e w' ⟨rfl, n, rfl⟩
  exact ⟨rfl, ⟨rfl, rfl, rfl, Nat.le_refl _, fun _ _ => rfl⟩⟩
theorem readV_str (s : ByteArray) (e : Int) : readV (s.data.toList, e) = .tuple #[.string s, .int .i64 e] := by
  rcases s with ⟨a⟩
  rfl
theorem modn_one (k : Int) : modn k 1 = 0 := by
  have := modn_lt k 1 (by omega)
  omega
theorem cut_whole {b : List UInt8} (k : Int) : (Fil.mk b b.length).cut k = ⟨b, b.length⟩ := by
  unfold Fil.cut
  simp only [Nat.sub_self, Nat.zero_add, modn_one, Nat.add_zero, List.take_length]
end Go.Proofs.YtfndlfnlepndmaaGreat
