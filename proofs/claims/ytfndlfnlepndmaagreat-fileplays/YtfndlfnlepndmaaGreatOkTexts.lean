/- The statements' Book, lists of kind Texts: what each of its functions returns, and what becomes of the lists. -/
import Derived.Test.YtfndlfnlepndmaaGreatO2
namespace Go.Proofs.YtfndlfnlepndmaaGreat
open Go.RowKit

theorem infoTexts : (Tryz.prog.info? 9).map (fun i => (i.zero, i.size, i.bytes)) = some (some (.string ⟨#[]⟩), 1, 16) := by kernel_rfl
theorem infoLTexts : (Tryz.prog.info? 56).map (fun i => (i.zero, i.size, i.bytes)) = some (some (.slice none 0 0), 1, 24) := by kernel_rfl
def cellsTexts (zs : List ByteArray) : List Value := zs.map fun (z : ByteArray) => .string z
theorem cellsTexts_length (zs : List ByteArray) : (cellsTexts zs).length = zs.length := by simp [cellsTexts]
theorem cellsTexts_ok (zs : List ByteArray) : (cellsTexts zs).length = zs.length * 1 := by simp [cellsTexts]
theorem cellsTexts_append (a b : List ByteArray) : cellsTexts (a ++ b) = cellsTexts a ++ cellsTexts b := by simp [cellsTexts]
theorem cellsTexts_one (zs : List ByteArray) : ∀ u ∈ cellsTexts zs, u.oneCell' = true := by
  intro u hu
  obtain ⟨z, _, rfl⟩ := List.mem_map.1 hu
  rfl
theorem cellsTexts_get (zs : List ByteArray) (i : Nat) (h : i < zs.length) : (cellsTexts zs)[i]? = some (.string zs[i]) := by simp [cellsTexts, h]
theorem cellsTexts_set (zs : List ByteArray) (i : Nat) (z : ByteArray) : (cellsTexts zs).set i (.string z) = cellsTexts (zs.set i z) := by
  unfold cellsTexts
  rw [List.map_set]
def rwTexts (p : Value × List ByteArray) : Rw := ⟨9, 1, p.1, p.2.length, cellsTexts p.2, none⟩
def outRTexts (V : Value) (vs : List Value) : Rw := ⟨56, 1, V, vs.length, vs, none⟩
def mkTexts (i k : Nat) : ByteArray := ⟨(nameB i k).toArray⟩
def marksTexts (i fr n : Nat) : List ByteArray := (List.range n).map fun j => mkTexts i (fr + j)
theorem marksTexts_succ (i fr n : Nat) : marksTexts i fr (n + 1) = marksTexts i fr n ++ [mkTexts i (fr + n)] := by simp [marksTexts, List.range_succ]
theorem marksTexts_length (i fr n : Nat) : (marksTexts i fr n).length = n := by simp [marksTexts]
theorem marksTexts_add (i n j : Nat) : marksTexts i 0 n ++ marksTexts i n j = marksTexts i 0 (n + j) := by
  induction j with
  | zero => simp [marksTexts]
  | succ j ih => rw [marksTexts_succ, ← List.append_assoc, ih, ← Nat.add_assoc, marksTexts_succ, Nat.zero_add]

set_option maxHeartbeats 1000000 in
set_option maxRecDepth 100000 in
theorem sameTexts_some (g off0 cap0 b off cap : Nat) (zs : List ByteArray) (w : World) (hl : zs.length ≤ 1000000) (h0 : ∀ i (h : i < zs.length), w.cell? ⟨g, off0 + i, none⟩ = some (.string zs[i])) (h1 : ∀ i (h : i < zs.length), w.cell? ⟨b, off + i, none⟩ = some (.string zs[i])) :
    Calls Tryz.prog 55 #[.slice (some ⟨g, off0, none⟩) zs.length cap0, .slice (some ⟨b, off, none⟩) zs.length cap] w fun e w' => e = .returned (.bool true) ∧ ∃ n, w' = w.drewN n := by
  have H0 := Lib.hid h0
  have H1 := Lib.hid h1
  clear h0 h1
  go_enter Tryz.func55, Tryz.ntmps55
  go_wp2
  go_loopw [5] (fun i wr => ∃ k n : Nat, k ≤ zs.length ∧ i = .int .i64 k ∧ wr = w.drewN n) (fun i _ => zs.length - (intOf i).toNat)
  case atStart => exact ⟨0, 0, Nat.zero_le _, rfl, rfl⟩
  case round =>
    obtain ⟨k, n, hk, rfl, rfl⟩ := hrel
    by_cases hlt : k < zs.length
    · have hc0 := H0.out k hlt
      have hc1 := H1.out k hlt
      have hk0 : (k : Int) < (zs.length : Int) := by omega
      go_wp2
      go_quiet (fail)
      go_wp2
      go_roundw
      case rel => exact ⟨k + 1, n + nq, by omega, by go_num, by first | rfl | (rw [drewN_add'])⟩
      case measure => simp [intOf]; omega
    · go_wp2
      go_ret
      exact ⟨rfl, n, rfl⟩
set_option maxHeartbeats 1000000 in
theorem sameTexts_none (a0 a1 : Option Addr) (cap0 cap : Nat) (w : World) :
    Calls Tryz.prog 55 #[.slice a0 0 cap0, .slice a1 0 cap] w fun e w' => e = .returned (.bool true) ∧ ∃ n, w' = w.drewN n := by
  go_enter Tryz.func55, Tryz.ntmps55
  go_wp2
  refine wp_loop_rounds 1 ?_
  rw [rounds_succ]
  go_wp2
  go_ret
  exact ⟨rfl, 0, rfl⟩
theorem sameTexts_rd (v0 v1 : Value) (zs : List ByteArray) (w : World) (h0 : Rd w v0 zs.length (cellsTexts zs)) (h1 : Rd w v1 zs.length (cellsTexts zs)) (hl : zs.length ≤ 1000000) :
    Calls Tryz.prog 55 #[v0, v1] w fun e w' => e = .returned (.bool true) ∧ ∃ n, w' = w.drewN n := by
  obtain ⟨a0, cap0, rfl, r0⟩ := h0
  obtain ⟨a1, cap1, rfl, r1⟩ := h1
  rcases r0 with h0 | ⟨b, off, rfl, hb, hc⟩
  · rw [h0]; exact sameTexts_none _ _ _ _ _
  · rcases r1 with h0 | ⟨b1, off1, rfl, hb1, hc1⟩
    · rw [h0]; exact sameTexts_none _ _ _ _ _
    · exact sameTexts_some b off cap0 b1 off1 cap1 zs w hl (fun i hi => hc i _ (cellsTexts_get zs i hi)) (fun i hi => hc1 i _ (cellsTexts_get zs i hi))

set_option maxHeartbeats 1000000 in
set_option maxRecDepth 100000 in
theorem markTexts_any (i fr n : Nat) (w : World) (hi : i ≤ 1000) (hf : fr ≤ 200000) (hn : n ≤ 200000) :
    Calls Tryz.prog 145 #[.int .i64 (i : Int), .int .i64 (fr : Int), .int .i64 (n : Int)] w fun e w' => ∃ v, e = .returned v ∧ (rwTexts (v, marksTexts i fr n)).ok w.heap.size w' ∧ Below w.heap.size w w' := by
  obtain ⟨i0, hi0, hz0, hz1, hz2⟩ := info_parts infoTexts
  go_enter Tryz.func145, Tryz.ntmps145
  go_wp2
  go_loopw [7, 8] (fun vo vk wr => ∃ j : Nat, j ≤ n ∧ vk = .int .i64 ((fr + j : Nat) : Int) ∧ wr.ownsRow w.heap.size 9 1 vo j (cellsTexts (marksTexts i fr j)) ∧ Below w.heap.size w wr) (fun _ k _ => fr + n - (intOf k).toNat)
  case atStart => exact ⟨0, Nat.zero_le _, rfl, World.ownsRow_nil _ _ _ _, Below.refl _ _⟩
  case round =>
    obtain ⟨j, hj, rfl, hown, hbel⟩ := hrel
    by_cases hlt : j < n
    · have hq : ((fr + j : Nat) : Int) < (fr : Int) + (n : Int) := by omega
      have hnm := Lib.hid (fun w' : World => name_any i (fr + j) w' hi (by omega))
      have HT := Lib.hid (show cellsTexts (marksTexts i fr (j + 1)) = cellsTexts (marksTexts i fr j) ++ [.string ⟨(nameB i (fr + j)).toArray⟩] by rw [marksTexts_succ, cellsTexts_append]; rfl)
      generalize nameB i (fr + j) = N at HT hnm
      go_wp2_with (first | (go_at_call 166; refine (hnm.out _).mono ?_; rintro e w1 ⟨rfl, hb1⟩; have hown1 : w1.ownsRow w.heap.size 9 1 _ j _ := World.ownsRow.kept (row := none) hown ⟨hb1.os, hb1.tape, hb1.output, hb1.size, fun k hk _ => hb1.block k hk⟩ (Classical.em _); have hbel1 : Below w.heap.size w w1 := hbel.trans (hb1.mono hbel.size)) | (at_builtin; refine wpList_append_own _ rfl _ _ 56 rfl w.heap.size 9 i0 _ 1 16 Tryz.underlying56 hi0 hz0 hz1 hz2 rfl (by decide) _ _ _ rfl (hown1.alloc _) ⟨w1.heap.size, 0, none⟩ 1 1 [Value.string ⟨N.toArray⟩] rfl rfl ?c1 ?c2 ?c3 ?c4 ?c5 ?_))
      case c1 =>
        intro j u hj
        match j, hj with
        | 0, hj => simp at hj; subst hj; simp [Addr.add]
      case c2 => intro u hu; simp at hu; subst hu; rfl
      case c3 => unfold maxLen; omega
      case c4 => omega
      case c5 => have := hbel1.size; simp; omega
      intro v' w2 hown' hgrow _
      have hbel2 : Below w.heap.size w w2 := (hbel1.alloc hbel1.size _).grown hgrow (by have := hbel1.size; simp; omega) (fun k hk => (hown1.lt k hk).1)
      clear hgrow
      go_wp2
      go_roundw
      case rel =>
        refine ⟨j + 1, by omega, by go_num, ?_, hbel2⟩
        rw [HT.out]
        exact hown'
      case measure => simp [intOf]; omega
    · have hke : j = n := by omega
      subst hke
      go_wp2
      go_ret
      refine ⟨_, rfl, ?_, hbel⟩
      have hq := ok_owns hown
      unfold rwTexts
      simp only
      rw [marksTexts_length]
      exact hq

set_option maxHeartbeats 1000000 in
set_option maxRecDepth 100000 in
theorem copyTexts_some (ad : Addr) (cap : Nat) (zs : List ByteArray) (w : World) (hl : zs.length ≤ 1000000) (hc : ∀ j u, (cellsTexts zs)[j]? = some u → w.cell? (ad.add j) = some u) :
    Calls Tryz.prog 51 #[.slice (some ad) zs.length cap] w fun e w' => ∃ v, e = .returned v ∧ (rwTexts (v, zs)).ok w.heap.size w' ∧ Below w.heap.size w w' := by
  obtain ⟨i0, hi, hz0, hz1, hz2⟩ := info_parts infoTexts
  have HC := Lib.hid hc
  have H1 := Lib.hid (cellsTexts_one zs)
  have HL : Hid ((cellsTexts zs).length = zs.length * 1) := cellsTexts_ok zs
  clear hc
  go_enter Tryz.func51, Tryz.ntmps51
  go_wp2_with (at_builtin; refine wpList_append_own _ rfl _ _ 56 rfl w.heap.size 9 i0 _ 1 16 Tryz.underlying56 hi hz0 hz1 hz2 rfl (by decide) _ _ _ rfl (World.ownsRow_nil w w.heap.size _ _) ad zs.length cap (cellsTexts zs) rfl HL.out HC.out H1.out ?c3 ?c4 ?c5 ?_)
  case c3 => unfold maxLen; omega
  case c4 => omega
  case c5 => exact Nat.le_refl _
  intro v1 w1 hown1 hgrow1 _
  have hb1 : Below w.heap.size w w1 := (Below.refl _ _).grown hgrow1 (Nat.le_refl _) (fun k hk => by cases hk)
  try simp only [Nat.zero_add, List.nil_append] at hown1
  clear hgrow1
  go_wp2
  go_ret
  exact ⟨_, rfl, ok_owns hown1, hb1⟩
set_option maxHeartbeats 1000000 in
set_option maxRecDepth 100000 in
theorem copyTexts_nil (cap : Nat) (w : World) :
    Calls Tryz.prog 51 #[.slice none 0 cap] w fun e w' => e = .returned (.slice none 0 0) ∧ w = w' := by
  go_enter Tryz.func51, Tryz.ntmps51
  go_wp2
  go_ret
  exact ⟨rfl, rfl⟩
theorem copyTexts_rd (v : Value) (zs : List ByteArray) (w : World) (h : Rd w v zs.length (cellsTexts zs)) (hl : zs.length ≤ 1000000) :
    Calls Tryz.prog 51 #[v] w fun e w' => ∃ v', e = .returned v' ∧ (rwTexts (v', zs)).ok w.heap.size w' ∧ Below w.heap.size w w' := by
  obtain ⟨a, cap, rfl, r⟩ := h
  rcases r with h0 | ⟨b, off, rfl, hb, hc⟩
  · have hz := List.eq_nil_of_length_eq_zero h0
    subst hz
    cases a with
    | none =>
      refine (copyTexts_nil cap w).mono ?_
      rintro e w' ⟨rfl, rfl⟩
      exact ⟨_, rfl, ok_nil _ _ _ _, Below.refl _ _⟩
    | some ad => exact copyTexts_some ad cap [] w (by simp) (fun j u hj => by simp [cellsTexts] at hj)
  · exact copyTexts_some ⟨b, off, none⟩ cap zs w hl (fun j u hj => by rw [addr_at]; exact hc j u hj)

/-- Lists that read as these. -/
def RdsTexts (w : World) (vs : List Value) (zss : List (List ByteArray)) : Prop := vs.length = zss.length ∧ ∀ (i : Nat) (v : Value) (zs : List ByteArray), vs[i]? = some v → zss[i]? = some zs → Rd w v zs.length (cellsTexts zs) ∧ zs.length ≤ 200000
theorem RdsTexts.below {w w' : World} {vs : List Value} {zss : List (List ByteArray)} (h : RdsTexts w vs zss) (hb : Below w.heap.size w w') : RdsTexts w' vs zss :=
  ⟨h.1, fun i v zs h1 h2 => ⟨(h.2 i v zs h1 h2).1.below hb, (h.2 i v zs h1 h2).2⟩⟩

set_option maxHeartbeats 1000000 in
set_option maxRecDepth 100000 in
theorem stillTexts_any (b : Nat) (V W : Value) (vs us : List Value) (zss : List (List ByteArray)) (w : World) (hV : w.cell? ⟨b, 0, none⟩ = some V) (hW : w.cell? ⟨b, 1, none⟩ = some W)
    (hRV : Rd w V vs.length vs) (hRW : Rd w W us.length us) (h0 : RdsTexts w vs zss) (h1 : RdsTexts w us zss) (hlen : zss.length ≤ 1000) :
    Calls Tryz.prog 57 #[.pointer (some ⟨b, 0, none⟩)] w fun e w' => e = .returned (.bool true) ∧ Below w.heap.size w w' := by
  have hvl := h0.1
  have hul := h1.1
  obtain ⟨a, cap, rfl, r0⟩ := hRV
  obtain ⟨a2, cap2, rfl, r1⟩ := hRW
  rw [hvl] at hV r0
  rw [hul] at hW r1
  have H0 := Lib.hid h0
  have H1 := Lib.hid h1
  have hbl := block_lt' hV
  clear h0 h1
  go_enter Tryz.func57, Tryz.ntmps57
  go_wp2
  go_loopw [3] (fun i wr => ∃ k n : Nat, k ≤ zss.length ∧ i = .int .i64 k ∧ wr = w.drewN n) (fun i _ => zss.length - (intOf i).toNat)
  case atStart => exact ⟨0, 0, Nat.zero_le _, rfl, rfl⟩
  case round =>
    obtain ⟨k, nd, hk, rfl, rfl⟩ := hrel
    by_cases hlt : k < zss.length
    · rcases r0 with r0 | ⟨g, off, rfl, hg, hc⟩
      · omega
      · rcases r1 with r1 | ⟨g2, off2, rfl, hg2, hc2⟩
        · omega
        · have hvk : vs[k]? = some (vs[k]'(by omega)) := List.getElem?_eq_getElem _
          have huk : us[k]? = some (us[k]'(by omega)) := List.getElem?_eq_getElem _
          have hzk : zss[k]? = some zss[k] := List.getElem?_eq_getElem _
          have hx0 := hc k _ hvk
          have hx1 := hc2 k _ huk
          obtain ⟨hr0, hlz⟩ := H0.out.2 k _ _ hvk hzk
          obtain ⟨hr1, -⟩ := H1.out.2 k _ _ huk hzk
          generalize vs[k]'(by omega) = v at hx0 hr0
          generalize us[k]'(by omega) = u at hx1 hr1
          generalize zss[k] = zs at hr0 hr1 hlz
          have hsm := Lib.hid (fun nn : Nat => sameTexts_rd v u zs (w.drewN nn) (hr0.below (drew_below' _ nn)) (hr1.below (drew_below' _ nn)) (by omega))
          have hk0 : (k : Int) < (zss.length : Int) := by omega
          have hk1 : (0 : Int) ≤ (k : Int) := by omega
          clear hc hc2 hvk huk hzk hr0 hr1 hlz
          go_wp2
          go_quiet ((go_at_call 55; exact quiet_drew2 _ _ (hsm.out _)))
          go_wp2
          go_roundw
          case rel => exact ⟨k + 1, nd + nq, by omega, by go_num, by first | rfl | (rw [drewN_add'])⟩
          case measure => simp [intOf]; omega
    · go_wp2
      go_ret
      exact ⟨rfl, drew_below' _ _⟩
end Go.Proofs.YtfndlfnlepndmaaGreat
