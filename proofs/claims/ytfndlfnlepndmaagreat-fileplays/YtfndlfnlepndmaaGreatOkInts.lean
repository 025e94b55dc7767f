/- The statements' Book, lists of kind Ints: what each of its functions returns, and what becomes of the lists. -/
import Derived.Test.YtfndlfnlepndmaaGreatO2
namespace Go.Proofs.YtfndlfnlepndmaaGreat
open Go.RowKit

theorem infoInts : (Tryz.prog.info? 3).map (fun i => (i.zero, i.size, i.bytes)) = some (some (.int .i64 0), 1, 8) := by kernel_rfl
theorem infoLInts : (Tryz.prog.info? 46).map (fun i => (i.zero, i.size, i.bytes)) = some (some (.slice none 0 0), 1, 24) := by kernel_rfl
def cellsInts (zs : List Int) : List Value := zs.map fun (z : Int) => .int .i64 z
theorem cellsInts_length (zs : List Int) : (cellsInts zs).length = zs.length := by simp [cellsInts]
theorem cellsInts_ok (zs : List Int) : (cellsInts zs).length = zs.length * 1 := by simp [cellsInts]
theorem cellsInts_append (a b : List Int) : cellsInts (a ++ b) = cellsInts a ++ cellsInts b := by simp [cellsInts]
theorem cellsInts_one (zs : List Int) : ∀ u ∈ cellsInts zs, u.oneCell' = true := by
  intro u hu
  obtain ⟨z, _, rfl⟩ := List.mem_map.1 hu
  rfl
theorem cellsInts_get (zs : List Int) (i : Nat) (h : i < zs.length) : (cellsInts zs)[i]? = some (.int .i64 zs[i]) := by simp [cellsInts, h]
theorem cellsInts_set (zs : List Int) (i : Nat) (z : Int) : (cellsInts zs).set i (.int .i64 z) = cellsInts (zs.set i z) := by
  unfold cellsInts
  rw [List.map_set]
def rwInts (p : Value × List Int) : Rw := ⟨3, 1, p.1, p.2.length, cellsInts p.2, none⟩
def outRInts (V : Value) (vs : List Value) : Rw := ⟨46, 1, V, vs.length, vs, none⟩
def mkInts (i k : Nat) : Int := -1000000 * (i : Int) - k - 7
def marksInts (i fr n : Nat) : List Int := (List.range n).map fun j => mkInts i (fr + j)
theorem marksInts_succ (i fr n : Nat) : marksInts i fr (n + 1) = marksInts i fr n ++ [mkInts i (fr + n)] := by simp [marksInts, List.range_succ]
theorem marksInts_length (i fr n : Nat) : (marksInts i fr n).length = n := by simp [marksInts]
theorem marksInts_add (i n j : Nat) : marksInts i 0 n ++ marksInts i n j = marksInts i 0 (n + j) := by
  induction j with
  | zero => simp [marksInts]
  | succ j ih => rw [marksInts_succ, ← List.append_assoc, ih, ← Nat.add_assoc, marksInts_succ, Nat.zero_add]

set_option maxHeartbeats 1000000 in
set_option maxRecDepth 100000 in
theorem sameInts_some (g off0 cap0 b off cap : Nat) (zs : List Int) (w : World) (hl : zs.length ≤ 1000000) (h0 : ∀ i (h : i < zs.length), w.cell? ⟨g, off0 + i, none⟩ = some (.int .i64 zs[i])) (h1 : ∀ i (h : i < zs.length), w.cell? ⟨b, off + i, none⟩ = some (.int .i64 zs[i])) :
    Calls Tryz.prog 130 #[.slice (some ⟨g, off0, none⟩) zs.length cap0, .slice (some ⟨b, off, none⟩) zs.length cap] w fun e w' => e = .returned (.bool true) ∧ ∃ n, w' = w.drewN n := by
  have H0 := Lib.hid h0
  have H1 := Lib.hid h1
  clear h0 h1
  go_enter Tryz.func130, Tryz.ntmps130
  go_wp2
  go_loopw [5] (fun i wr => ∃ k n : Nat, k ≤ zs.length ∧ i = .int .i64 k ∧ wr = w.drewN n) (fun i _ => zs.length - (intOf i).toNat)
  case atStart => exact ⟨0, 0, Nat.zero_le _, rfl, rfl⟩
  case round =>
    obtain ⟨k, n, hk, rfl, rfl⟩ := hrel
    by_cases hlt : k < zs.length
    · have hc0 := H0.out k hlt
      have hc1 := H1.out k hlt
      have hk0 : (k : Int) < (zs.length : Int) := by omega
      go_wp2
      go_quiet (fail)
      go_wp2
      go_roundw
      case rel => exact ⟨k + 1, n + nq, by omega, by go_num, by first | rfl | (rw [drewN_add'])⟩
      case measure => simp [intOf]; omega
    · go_wp2
      go_ret
      exact ⟨rfl, n, rfl⟩
set_option maxHeartbeats 1000000 in
theorem sameInts_none (a0 a1 : Option Addr) (cap0 cap : Nat) (w : World) :
    Calls Tryz.prog 130 #[.slice a0 0 cap0, .slice a1 0 cap] w fun e w' => e = .returned (.bool true) ∧ ∃ n, w' = w.drewN n := by
  go_enter Tryz.func130, Tryz.ntmps130
  go_wp2
  refine wp_loop_rounds 1 ?_
  rw [rounds_succ]
  go_wp2
  go_ret
  exact ⟨rfl, 0, rfl⟩
theorem sameInts_rd (v0 v1 : Value) (zs : List Int) (w : World) (h0 : Rd w v0 zs.length (cellsInts zs)) (h1 : Rd w v1 zs.length (cellsInts zs)) (hl : zs.length ≤ 1000000) :
    Calls Tryz.prog 130 #[v0, v1] w fun e w' => e = .returned (.bool true) ∧ ∃ n, w' = w.drewN n := by
  obtain ⟨a0, cap0, rfl, r0⟩ := h0
  obtain ⟨a1, cap1, rfl, r1⟩ := h1
  rcases r0 with h0 | ⟨b, off, rfl, hb, hc⟩
  · rw [h0]; exact sameInts_none _ _ _ _ _
  · rcases r1 with h0 | ⟨b1, off1, rfl, hb1, hc1⟩
    · rw [h0]; exact sameInts_none _ _ _ _ _
    · exact sameInts_some b off cap0 b1 off1 cap1 zs w hl (fun i hi => hc i _ (cellsInts_get zs i hi)) (fun i hi => hc1 i _ (cellsInts_get zs i hi))

set_option maxHeartbeats 1000000 in
set_option maxRecDepth 100000 in
theorem markInts_any (i fr n : Nat) (w : World) (hi : i ≤ 1000) (hf : fr ≤ 200000) (hn : n ≤ 200000) :
    Calls Tryz.prog 146 #[.int .i64 (i : Int), .int .i64 (fr : Int), .int .i64 (n : Int)] w fun e w' => ∃ v, e = .returned v ∧ (rwInts (v, marksInts i fr n)).ok w.heap.size w' ∧ Below w.heap.size w w' := by
  obtain ⟨i0, hi0, hz0, hz1, hz2⟩ := info_parts infoInts
  go_enter Tryz.func146, Tryz.ntmps146
  go_wp2
  go_loopw [7, 8] (fun vo vk wr => ∃ j : Nat, j ≤ n ∧ vk = .int .i64 ((fr + j : Nat) : Int) ∧ wr.ownsRow w.heap.size 3 1 vo j (cellsInts (marksInts i fr j)) ∧ Below w.heap.size w wr) (fun _ k _ => fr + n - (intOf k).toNat)
  case atStart => exact ⟨0, Nat.zero_le _, rfl, World.ownsRow_nil _ _ _ _, Below.refl _ _⟩
  case round =>
    obtain ⟨j, hj, rfl, hown, hbel⟩ := hrel
    by_cases hlt : j < n
    · have hq : ((fr + j : Nat) : Int) < (fr : Int) + (n : Int) := by omega
      have HT := Lib.hid (show cellsInts (marksInts i fr (j + 1)) = cellsInts (marksInts i fr j) ++ [.int .i64 (-1000000 * (i : Int) - ((fr + j : Nat) : Int) - 7)] by rw [marksInts_succ, cellsInts_append]; simp [cellsInts, mkInts])
      go_wp2_with (at_builtin; refine wpList_append_own _ rfl _ _ 46 rfl w.heap.size 3 i0 _ 1 8 Tryz.underlying46 hi0 hz0 hz1 hz2 rfl (by decide) _ _ _ rfl (hown.alloc _) ⟨wr.heap.size, 0, none⟩ 1 1 [.int .i64 (-1000000 * (i : Int) - ((fr + j : Nat) : Int) - 7)] rfl rfl ?c1 ?c2 ?c3 ?c4 ?c5 ?_)
      case c1 =>
        intro j u hj
        match j, hj with
        | 0, hj => simp at hj; subst hj; simp [Addr.add]
      case c2 => intro u hu; simp at hu; subst hu; rfl
      case c3 => unfold maxLen; omega
      case c4 => omega
      case c5 => have := hbel.size; simp; omega
      intro v' w2 hown' hgrow _
      have hbel2 : Below w.heap.size w w2 := (hbel.alloc hbel.size _).grown hgrow (by have := hbel.size; simp; omega) (fun k hk => (hown.lt k hk).1)
      clear hgrow
      go_wp2
      go_roundw
      case rel =>
        refine ⟨j + 1, by omega, by go_num, ?_, hbel2⟩
        rw [HT.out]
        exact hown'
      case measure => simp [intOf]; omega
    · have hke : j = n := by omega
      subst hke
      go_wp2
      go_ret
      refine ⟨_, rfl, ?_, hbel⟩
      have hq := ok_owns hown
      unfold rwInts
      simp only
      rw [marksInts_length]
      exact hq


/-- Lists that read as these. -/
def RdsInts (w : World) (vs : List Value) (zss : List (List Int)) : Prop := vs.length = zss.length ∧ ∀ (i : Nat) (v : Value) (zs : List Int), vs[i]? = some v → zss[i]? = some zs → Rd w v zs.length (cellsInts zs) ∧ zs.length ≤ 200000
theorem RdsInts.below {w w' : World} {vs : List Value} {zss : List (List Int)} (h : RdsInts w vs zss) (hb : Below w.heap.size w w') : RdsInts w' vs zss :=
  ⟨h.1, fun i v zs h1 h2 => ⟨(h.2 i v zs h1 h2).1.below hb, (h.2 i v zs h1 h2).2⟩⟩

set_option maxHeartbeats 1000000 in
set_option maxRecDepth 100000 in
theorem stillInts_any (b : Nat) (V W : Value) (vs us : List Value) (zss : List (List Int)) (w : World) (hV : w.cell? ⟨b, 2, none⟩ = some V) (hW : w.cell? ⟨b, 3, none⟩ = some W)
    (hRV : Rd w V vs.length vs) (hRW : Rd w W us.length us) (h0 : RdsInts w vs zss) (h1 : RdsInts w us zss) (hlen : zss.length ≤ 1000) :
    Calls Tryz.prog 58 #[.pointer (some ⟨b, 0, none⟩)] w fun e w' => e = .returned (.bool true) ∧ Below w.heap.size w w' := by
  have hvl := h0.1
  have hul := h1.1
  obtain ⟨a, cap, rfl, r0⟩ := hRV
  obtain ⟨a2, cap2, rfl, r1⟩ := hRW
  rw [hvl] at hV r0
  rw [hul] at hW r1
  have H0 := Lib.hid h0
  have H1 := Lib.hid h1
  have hbl := block_lt' hV
  clear h0 h1
  go_enter Tryz.func58, Tryz.ntmps58
  go_wp2
  go_loopw [3] (fun i wr => ∃ k n : Nat, k ≤ zss.length ∧ i = .int .i64 k ∧ wr = w.drewN n) (fun i _ => zss.length - (intOf i).toNat)
  case atStart => exact ⟨0, 0, Nat.zero_le _, rfl, rfl⟩
  case round =>
    obtain ⟨k, nd, hk, rfl, rfl⟩ := hrel
    by_cases hlt : k < zss.length
    · rcases r0 with r0 | ⟨g, off, rfl, hg, hc⟩
      · omega
      · rcases r1 with r1 | ⟨g2, off2, rfl, hg2, hc2⟩
        · omega
        · have hvk : vs[k]? = some (vs[k]'(by omega)) := List.getElem?_eq_getElem _
          have huk : us[k]? = some (us[k]'(by omega)) := List.getElem?_eq_getElem _
          have hzk : zss[k]? = some zss[k] := List.getElem?_eq_getElem _
          have hx0 := hc k _ hvk
          have hx1 := hc2 k _ huk
          obtain ⟨hr0, hlz⟩ := H0.out.2 k _ _ hvk hzk
          obtain ⟨hr1, -⟩ := H1.out.2 k _ _ huk hzk
          generalize vs[k]'(by omega) = v at hx0 hr0
          generalize us[k]'(by omega) = u at hx1 hr1
          generalize zss[k] = zs at hr0 hr1 hlz
          have hsm := Lib.hid (fun nn : Nat => sameInts_rd v u zs (w.drewN nn) (hr0.below (drew_below' _ nn)) (hr1.below (drew_below' _ nn)) (by omega))
          have hk0 : (k : Int) < (zss.length : Int) := by omega
          have hk1 : (0 : Int) ≤ (k : Int) := by omega
          clear hc hc2 hvk huk hzk hr0 hr1 hlz
          go_wp2
          go_quiet ((go_at_call 130; exact quiet_drew2 _ _ (hsm.out _)))
          go_wp2
          go_roundw
          case rel => exact ⟨k + 1, nd + nq, by omega, by go_num, by first | rfl | (rw [drewN_add'])⟩
          case measure => simp [intOf]; omega
    · go_wp2
      go_ret
      exact ⟨rfl, drew_below' _ _⟩
end Go.Proofs.YtfndlfnlepndmaaGreat
