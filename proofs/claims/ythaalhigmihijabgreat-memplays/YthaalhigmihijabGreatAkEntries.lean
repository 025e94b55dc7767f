/- The statements' Book, lists of kind Entries: what each of its functions returns, and what becomes of the lists. -/
import Derived.Test.YthaalhigmihijabGreatA2
namespace Go.Proofs.YthaalhigmihijabGreat
open Go.RowKit

theorem infoEntries : (Tryz.prog.info? 34).map (fun i => (i.zero, i.size, i.bytes)) = some (some (.agg #[.string ⟨#[]⟩, .int .u64 0, .int .i64 0, .string ⟨#[]⟩]), 4, 48) := by kernel_rfl
theorem infoLEntries : (Tryz.prog.info? 29).map (fun i => (i.zero, i.size, i.bytes)) = some (some (.slice none 0 0), 1, 24) := by kernel_rfl
structure ElEntries where
  f0 : ByteArray
  f1 : Nat
  f2 : Int
  f3 : ByteArray
def ElEntries.cells (z : ElEntries) : List Value := [.string z.f0, .int .u64 (z.f1 : Int), .int .i64 z.f2, .string z.f3]
def cellsEntries (zs : List ElEntries) : List Value := (zs.map ElEntries.cells).flatten
theorem cellsEntries_ok : ∀ (zs : List ElEntries), (cellsEntries zs).length = zs.length * 4
  | [] => rfl
  | z :: zs => by
    have h := cellsEntries_ok zs
    simp only [cellsEntries, List.map_cons, List.flatten_cons, List.length_append, List.length_cons] at h ⊢
    rw [h]
    simp only [ElEntries.cells, List.length_cons, List.length_nil]
    omega
theorem cellsEntries_append (a b : List ElEntries) : cellsEntries (a ++ b) = cellsEntries a ++ cellsEntries b := by simp [cellsEntries]
theorem cellsEntries_one (zs : List ElEntries) : ∀ u ∈ cellsEntries zs, u.oneCell' = true := by
  intro u hu
  simp only [cellsEntries, List.mem_flatten, List.mem_map] at hu
  obtain ⟨l, ⟨p, _, rfl⟩, hu⟩ := hu
  simp only [ElEntries.cells, List.mem_cons, List.not_mem_nil, or_false] at hu
  rcases hu with rfl | rfl | rfl | rfl <;> rfl
theorem cellsEntries_at : ∀ (zs : List ElEntries) (i : Nat) (h : i < zs.length) (j : Nat) (u : Value), zs[i].cells[j]? = some u → (cellsEntries zs)[i * 4 + j]? = some u
  | [], _, h, _, _, _ => by cases h
  | z :: zs, i, h, j, u, hu => by
    have hc : cellsEntries (z :: zs) = z.cells ++ cellsEntries zs := by simp [cellsEntries]
    have hl : z.cells.length = 4 := rfl
    rw [hc]
    match i, h, hu with
    | 0, _, hu =>
      have hu' : z.cells[j]? = some u := hu
      have hj := (List.getElem?_eq_some_iff.1 hu').1
      rw [Nat.zero_mul, Nat.zero_add, List.getElem?_append_left hj]
      exact hu'
    | i + 1, h, hu =>
      have ih := cellsEntries_at zs i (by simpa using h) j u hu
      rw [List.getElem?_append_right (by rw [hl, Nat.add_mul]; omega), hl, show (i + 1) * 4 + j - 4 = i * 4 + j by rw [Nat.add_mul]; omega]
      exact ih
theorem cellsEntries_set : ∀ (zs : List ElEntries) (i : Nat) (_ : i < zs.length) (z : ElEntries), ((((cellsEntries zs).set (i * 4 + 0) (.string z.f0)).set (i * 4 + 1) (.int .u64 (z.f1 : Int))).set (i * 4 + 2) (.int .i64 z.f2)).set (i * 4 + 3) (.string z.f3) = cellsEntries (zs.set i z)
  | [], _, h, _ => by cases h
  | y :: zs, i, h, z => by
    have hc : cellsEntries (y :: zs) = y.cells ++ cellsEntries zs := by simp [cellsEntries]
    have hl : y.cells.length = 4 := rfl
    match i, h with
    | 0, _ =>
      have hc2 : cellsEntries ((y :: zs).set 0 z) = z.cells ++ cellsEntries zs := by simp [cellsEntries]
      rw [hc, hc2]
      simp [ElEntries.cells]
    | i + 1, h =>
      have ih := cellsEntries_set zs i (by simpa using h) z
      have hc2 : cellsEntries ((y :: zs).set (i + 1) z) = y.cells ++ cellsEntries (zs.set i z) := by simp [cellsEntries]
      rw [hc, hc2, ← ih]
      rw [List.set_append_right _ _ (by rw [hl, Nat.add_mul]; omega), hl, show (i + 1) * 4 + 0 - 4 = i * 4 + 0 by rw [Nat.add_mul]; omega]
      rw [List.set_append_right _ _ (by rw [hl, Nat.add_mul]; omega), hl, show (i + 1) * 4 + 1 - 4 = i * 4 + 1 by rw [Nat.add_mul]; omega]
      rw [List.set_append_right _ _ (by rw [hl, Nat.add_mul]; omega), hl, show (i + 1) * 4 + 2 - 4 = i * 4 + 2 by rw [Nat.add_mul]; omega]
      rw [List.set_append_right _ _ (by rw [hl, Nat.add_mul]; omega), hl, show (i + 1) * 4 + 3 - 4 = i * 4 + 3 by rw [Nat.add_mul]; omega]
def rwEntries (p : Value × List ElEntries) : Rw := ⟨34, 4, p.1, p.2.length, cellsEntries p.2, none⟩
def outREntries (V : Value) (vs : List Value) : Rw := ⟨29, 1, V, vs.length, vs, none⟩
def mkEntries (i k : Nat) : ElEntries := ⟨⟨(nameB i k).toArray⟩, 0, 0, ⟨#[]⟩⟩
def marksEntries (i fr n : Nat) : List ElEntries := (List.range n).map fun j => mkEntries i (fr + j)
theorem marksEntries_succ (i fr n : Nat) : marksEntries i fr (n + 1) = marksEntries i fr n ++ [mkEntries i (fr + n)] := by simp [marksEntries, List.range_succ]
theorem marksEntries_length (i fr n : Nat) : (marksEntries i fr n).length = n := by simp [marksEntries]
theorem marksEntries_add (i n j : Nat) : marksEntries i 0 n ++ marksEntries i n j = marksEntries i 0 (n + j) := by
  induction j with
  | zero => simp [marksEntries]
  | succ j ih => rw [marksEntries_succ, ← List.append_assoc, ih, ← Nat.add_assoc, marksEntries_succ, Nat.zero_add]

set_option maxHeartbeats 1000000 in
set_option maxRecDepth 100000 in
theorem sameEntries_some (g off0 cap0 b off cap : Nat) (zs : List ElEntries) (w : World) (hl : zs.length ≤ 1000000) (h0 : ∀ i (h : i < zs.length) j u, zs[i].cells[j]? = some u → w.cell? ⟨g, off0 + i * 4 + j, none⟩ = some u) (h1 : ∀ i (h : i < zs.length) j u, zs[i].cells[j]? = some u → w.cell? ⟨b, off + i * 4 + j, none⟩ = some u) :
    Calls Tryz.prog 16 #[.slice (some ⟨g, off0, none⟩) zs.length cap0, .slice (some ⟨b, off, none⟩) zs.length cap] w fun e w' => e = .returned (.bool true) ∧ ∃ n, w' = w.drewN n := by
  have H0 := Lib.hid h0
  have H1 := Lib.hid h1
  clear h0 h1
  go_enter Tryz.func16, Tryz.ntmps16
  go_wp2
  go_loopw [5] (fun i wr => ∃ k n : Nat, k ≤ zs.length ∧ i = .int .i64 k ∧ wr = w.drewN n) (fun i _ => zs.length - (intOf i).toNat)
  case atStart => exact ⟨0, 0, Nat.zero_le _, rfl, rfl⟩
  case round =>
    obtain ⟨k, n, hk, rfl, rfl⟩ := hrel
    by_cases hlt : k < zs.length
    · have hx0 := H0.out k hlt 0 _ rfl
      have hy0 := H1.out k hlt 0 _ rfl
      have hx1 := H0.out k hlt 1 _ rfl
      have hy1 := H1.out k hlt 1 _ rfl
      have hx2 := H0.out k hlt 2 _ rfl
      have hy2 := H1.out k hlt 2 _ rfl
      have hx3 := H0.out k hlt 3 _ rfl
      have hy3 := H1.out k hlt 3 _ rfl
      generalize zs[k] = z at hx0 hy0 hx1 hy1 hx2 hy2 hx3 hy3
      obtain ⟨f0, f1, f2, f3⟩ := z
      simp only [Nat.add_zero] at hx0 hy0 hx1 hy1 hx2 hy2 hx3 hy3
      have hk0 : (k : Int) < (zs.length : Int) := by omega
      go_wp2
      go_quiet (fail)
      go_wp2
      go_roundw
      case rel => exact ⟨k + 1, n + nq, by omega, by go_num, by first | rfl | (rw [drewN_add'])⟩
      case measure => simp [intOf]; omega
    · go_wp2
      go_ret
      exact ⟨rfl, n, rfl⟩
set_option maxHeartbeats 1000000 in
theorem sameEntries_none (a0 a1 : Option Addr) (cap0 cap : Nat) (w : World) :
    Calls Tryz.prog 16 #[.slice a0 0 cap0, .slice a1 0 cap] w fun e w' => e = .returned (.bool true) ∧ ∃ n, w' = w.drewN n := by
  go_enter Tryz.func16, Tryz.ntmps16
  go_wp2
  refine wp_loop_rounds 1 ?_
  rw [rounds_succ]
  go_wp2
  go_ret
  exact ⟨rfl, 0, rfl⟩
theorem sameEntries_rd (v0 v1 : Value) (zs : List ElEntries) (w : World) (h0 : Rd w v0 zs.length (cellsEntries zs)) (h1 : Rd w v1 zs.length (cellsEntries zs)) (hl : zs.length ≤ 1000000) :
    Calls Tryz.prog 16 #[v0, v1] w fun e w' => e = .returned (.bool true) ∧ ∃ n, w' = w.drewN n := by
  obtain ⟨a0, cap0, rfl, r0⟩ := h0
  obtain ⟨a1, cap1, rfl, r1⟩ := h1
  rcases r0 with h0 | ⟨b, off, rfl, hb, hc⟩
  · rw [h0]; exact sameEntries_none _ _ _ _ _
  · rcases r1 with h0 | ⟨b1, off1, rfl, hb1, hc1⟩
    · rw [h0]; exact sameEntries_none _ _ _ _ _
    · exact sameEntries_some b off cap0 b1 off1 cap1 zs w hl (fun i hi j u hj => by rw [Nat.add_assoc]; exact hc _ u (cellsEntries_at zs i hi j u hj)) (fun i hi j u hj => by rw [Nat.add_assoc]; exact hc1 _ u (cellsEntries_at zs i hi j u hj))

set_option maxHeartbeats 1000000 in
set_option maxRecDepth 100000 in
theorem markEntries_any (i fr n : Nat) (w : World) (hi : i ≤ 1000) (hf : fr ≤ 200000) (hn : n ≤ 200000) :
    Calls Tryz.prog 125 #[.int .i64 (i : Int), .int .i64 (fr : Int), .int .i64 (n : Int)] w fun e w' => ∃ v, e = .returned v ∧ (rwEntries (v, marksEntries i fr n)).ok w.heap.size w' ∧ Below w.heap.size w w' := by
  obtain ⟨i0, hi0, hz0, hz1, hz2⟩ := info_parts infoEntries
  go_enter Tryz.func125, Tryz.ntmps125
  go_wp2
  go_loopw [7, 8] (fun vo vk wr => ∃ j : Nat, j ≤ n ∧ vk = .int .i64 ((fr + j : Nat) : Int) ∧ wr.ownsRow w.heap.size 34 4 vo j (cellsEntries (marksEntries i fr j)) ∧ Below w.heap.size w wr) (fun _ k _ => fr + n - (intOf k).toNat)
  case atStart => exact ⟨0, Nat.zero_le _, rfl, World.ownsRow_nil _ _ _ _, Below.refl _ _⟩
  case round =>
    obtain ⟨j, hj, rfl, hown, hbel⟩ := hrel
    by_cases hlt : j < n
    · have hq : ((fr + j : Nat) : Int) < (fr : Int) + (n : Int) := by omega
      have hnm := Lib.hid (fun w' : World => name_any i (fr + j) w' hi (by omega))
      have HT := Lib.hid (show cellsEntries (marksEntries i fr (j + 1)) = cellsEntries (marksEntries i fr j) ++ [Value.string ⟨(nameB i (fr + j)).toArray⟩, Value.int .u64 0, Value.int .i64 0, Value.string ⟨#[]⟩] by rw [marksEntries_succ, cellsEntries_append]; rfl)
      generalize nameB i (fr + j) = N at HT hnm
      go_wp2_with (first | (go_at_call 142; refine (hnm.out _).mono ?_; rintro e w1 ⟨rfl, hb1⟩; have hown1 : w1.ownsRow w.heap.size 34 4 _ j _ := World.ownsRow.kept (row := none) hown ⟨hb1.os, hb1.tape, hb1.output, hb1.size, fun k hk _ => hb1.block k hk⟩ (Classical.em _); have hbel1 : Below w.heap.size w w1 := hbel.trans (hb1.mono hbel.size)) | (at_builtin; refine wpList_append_own _ rfl _ _ 29 rfl w.heap.size 34 i0 _ 4 48 Tryz.underlying29 hi0 hz0 hz1 hz2 rfl (by decide) _ _ _ rfl (hown1.alloc _) ⟨w1.heap.size, 0, none⟩ 1 1 [Value.string ⟨N.toArray⟩, Value.int .u64 0, Value.int .i64 0, Value.string ⟨#[]⟩] rfl rfl ?c1 ?c2 ?c3 ?c4 ?c5 ?_))
      case c1 =>
        intro j u hj
        match j, hj with
        | 0, hj => simp at hj; subst hj; simp [Addr.add]
        | 1, hj => simp at hj; subst hj; simp [Addr.add]
        | 2, hj => simp at hj; subst hj; simp [Addr.add]
        | 3, hj => simp at hj; subst hj; simp [Addr.add]
      case c2 => intro u hu; simp at hu; rcases hu with rfl | rfl | rfl | rfl <;> rfl
      case c3 => unfold maxLen; omega
      case c4 => omega
      case c5 => have := hbel1.size; simp; omega
      intro v' w2 hown' hgrow _
      have hbel2 : Below w.heap.size w w2 := (hbel1.alloc hbel1.size _).grown hgrow (by have := hbel1.size; simp; omega) (fun k hk => (hown1.lt k hk).1)
      clear hgrow
      go_wp2
      go_roundw
      case rel =>
        refine ⟨j + 1, by omega, by go_num, ?_, hbel2⟩
        rw [HT.out]
        exact hown'
      case measure => simp [intOf]; omega
    · have hke : j = n := by omega
      subst hke
      go_wp2
      go_ret
      refine ⟨_, rfl, ?_, hbel⟩
      show World.ownsRow _ _ _ _ _ (marksEntries i fr j).length _
      rw [marksEntries_length]
      exact hown

set_option maxHeartbeats 1000000 in
set_option maxRecDepth 100000 in
theorem copyEntries_some (ad : Addr) (cap : Nat) (zs : List ElEntries) (w : World) (hl : zs.length ≤ 1000000) (hc : ∀ j u, (cellsEntries zs)[j]? = some u → w.cell? (ad.add j) = some u) :
    Calls Tryz.prog 34 #[.slice (some ad) zs.length cap] w fun e w' => ∃ v, e = .returned v ∧ (rwEntries (v, zs)).ok w.heap.size w' ∧ Below w.heap.size w w' := by
  obtain ⟨i0, hi, hz0, hz1, hz2⟩ := info_parts infoEntries
  have HC := Lib.hid hc
  have H1 := Lib.hid (cellsEntries_one zs)
  have HL : Hid ((cellsEntries zs).length = zs.length * 4) := cellsEntries_ok zs
  clear hc
  go_enter Tryz.func34, Tryz.ntmps34
  go_wp2_with (at_builtin; refine wpList_append_own _ rfl _ _ 29 rfl w.heap.size 34 i0 _ 4 48 Tryz.underlying29 hi hz0 hz1 hz2 rfl (by decide) _ _ _ rfl (World.ownsRow_nil w w.heap.size _ _) ad zs.length cap (cellsEntries zs) rfl HL.out HC.out H1.out ?c3 ?c4 ?c5 ?_)
  case c3 => unfold maxLen; omega
  case c4 => omega
  case c5 => exact Nat.le_refl _
  intro v1 w1 hown1 hgrow1 _
  have hb1 : Below w.heap.size w w1 := (Below.refl _ _).grown hgrow1 (Nat.le_refl _) (fun k hk => by cases hk)
  try simp only [Nat.zero_add, List.nil_append] at hown1
  clear hgrow1
  go_wp2
  go_ret
  exact ⟨_, rfl, hown1, hb1⟩
set_option maxHeartbeats 1000000 in
set_option maxRecDepth 100000 in
theorem copyEntries_nil (cap : Nat) (w : World) :
    Calls Tryz.prog 34 #[.slice none 0 cap] w fun e w' => e = .returned (.slice none 0 0) ∧ w = w' := by
  go_enter Tryz.func34, Tryz.ntmps34
  go_wp2
  go_ret
  exact ⟨rfl, rfl⟩
theorem copyEntries_rd (v : Value) (zs : List ElEntries) (w : World) (h : Rd w v zs.length (cellsEntries zs)) (hl : zs.length ≤ 1000000) :
    Calls Tryz.prog 34 #[v] w fun e w' => ∃ v', e = .returned v' ∧ (rwEntries (v', zs)).ok w.heap.size w' ∧ Below w.heap.size w w' := by
  obtain ⟨a, cap, rfl, r⟩ := h
  rcases r with h0 | ⟨b, off, rfl, hb, hc⟩
  · have hz := List.eq_nil_of_length_eq_zero h0
    subst hz
    cases a with
    | none =>
      refine (copyEntries_nil cap w).mono ?_
      rintro e w' ⟨rfl, rfl⟩
      exact ⟨_, rfl, World.ownsRow_nil _ _ _ _, Below.refl _ _⟩
    | some ad => exact copyEntries_some ad cap [] w (by simp) (fun j u hj => by simp [cellsEntries] at hj)
  · exact copyEntries_some ⟨b, off, none⟩ cap zs w hl (fun j u hj => by rw [addr_at]; exact hc j u hj)

/-- Lists that read as these. -/
def RdsEntries (w : World) (vs : List Value) (zss : List (List ElEntries)) : Prop := vs.length = zss.length ∧ ∀ (i : Nat) (v : Value) (zs : List ElEntries), vs[i]? = some v → zss[i]? = some zs → Rd w v zs.length (cellsEntries zs) ∧ zs.length ≤ 200000
theorem RdsEntries.below {w w' : World} {vs : List Value} {zss : List (List ElEntries)} (h : RdsEntries w vs zss) (hb : Below w.heap.size w w') : RdsEntries w' vs zss :=
  ⟨h.1, fun i v zs h1 h2 => ⟨(h.2 i v zs h1 h2).1.below hb, (h.2 i v zs h1 h2).2⟩⟩

set_option maxHeartbeats 1000000 in
set_option maxRecDepth 100000 in
theorem stillEntries_any (b : Nat) (V W : Value) (vs us : List Value) (zss : List (List ElEntries)) (w : World) (hV : w.cell? ⟨b, 6, none⟩ = some V) (hW : w.cell? ⟨b, 7, none⟩ = some W)
    (hRV : Rd w V vs.length vs) (hRW : Rd w W us.length us) (h0 : RdsEntries w vs zss) (h1 : RdsEntries w us zss) (hlen : zss.length ≤ 1000) :
    Calls Tryz.prog 41 #[.pointer (some ⟨b, 0, none⟩)] w fun e w' => e = .returned (.bool true) ∧ Below w.heap.size w w' := by
  have hvl := h0.1
  have hul := h1.1
  obtain ⟨a, cap, rfl, r0⟩ := hRV
  obtain ⟨a2, cap2, rfl, r1⟩ := hRW
  rw [hvl] at hV r0
  rw [hul] at hW r1
  have H0 := Lib.hid h0
  have H1 := Lib.hid h1
  have hbl := block_lt' hV
  clear h0 h1
  go_enter Tryz.func41, Tryz.ntmps41
  go_wp2
  go_loopw [3] (fun i wr => ∃ k n : Nat, k ≤ zss.length ∧ i = .int .i64 k ∧ wr = w.drewN n) (fun i _ => zss.length - (intOf i).toNat)
  case atStart => exact ⟨0, 0, Nat.zero_le _, rfl, rfl⟩
  case round =>
    obtain ⟨k, nd, hk, rfl, rfl⟩ := hrel
    by_cases hlt : k < zss.length
    · rcases r0 with r0 | ⟨g, off, rfl, hg, hc⟩
      · omega
      · rcases r1 with r1 | ⟨g2, off2, rfl, hg2, hc2⟩
        · omega
        · have hvk : vs[k]? = some (vs[k]'(by omega)) := List.getElem?_eq_getElem _
          have huk : us[k]? = some (us[k]'(by omega)) := List.getElem?_eq_getElem _
          have hzk : zss[k]? = some zss[k] := List.getElem?_eq_getElem _
          have hx0 := hc k _ hvk
          have hx1 := hc2 k _ huk
          obtain ⟨hr0, hlz⟩ := H0.out.2 k _ _ hvk hzk
          obtain ⟨hr1, -⟩ := H1.out.2 k _ _ huk hzk
          generalize vs[k]'(by omega) = v at hx0 hr0
          generalize us[k]'(by omega) = u at hx1 hr1
          generalize zss[k] = zs at hr0 hr1 hlz
          have hsm := Lib.hid (fun nn : Nat => sameEntries_rd v u zs (w.drewN nn) (hr0.below (drew_below' _ nn)) (hr1.below (drew_below' _ nn)) (by omega))
          have hk0 : (k : Int) < (zss.length : Int) := by omega
          have hk1 : (0 : Int) ≤ (k : Int) := by omega
          clear hc hc2 hvk huk hzk hr0 hr1 hlz
          go_wp2
          go_quiet ((go_at_call 16; exact quiet_drew2 _ _ (hsm.out _)))
          go_wp2
          go_roundw
          case rel => exact ⟨k + 1, nd + nq, by omega, by go_num, by first | rfl | (rw [drewN_add'])⟩
          case measure => simp [intOf]; omega
    · go_wp2
      go_ret
      exact ⟨rfl, drew_below' _ _⟩
end Go.Proofs.YthaalhigmihijabGreat
