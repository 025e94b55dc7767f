/- The statements' Book, lists of kind Tables: what each of its functions returns, and what becomes of the lists. -/
import Derived.Test.YtmcgfafkggannaaGreatO2
namespace Go.Proofs.YtmcgfafkggannaaGreat
open Go.RowKit

theorem infoTables : (Tryz.prog.info? 80).map (fun i => (i.zero, i.size, i.bytes)) = some (some (.agg #[.int .i64 0, .int .i64 0, .int .i64 0, .string ⟨#[]⟩, .string ⟨#[]⟩]), 5, 56) := by kernel_rfl
theorem infoLTables : (Tryz.prog.info? 23).map (fun i => (i.zero, i.size, i.bytes)) = some (some (.slice none 0 0), 1, 24) := by kernel_rfl
structure ElTables where
  f0 : Int
  f1 : Int
  f2 : Int
  f3 : ByteArray
  f4 : ByteArray
def ElTables.cells (z : ElTables) : List Value := [.int .i64 z.f0, .int .i64 z.f1, .int .i64 z.f2, .string z.f3, .string z.f4]
def cellsTables (zs : List ElTables) : List Value := (zs.map ElTables.cells).flatten
theorem cellsTables_ok : ∀ (zs : List ElTables), (cellsTables zs).length = zs.length * 5
  | [] => rfl
  | z :: zs => by
    have h := cellsTables_ok zs
    simp only [cellsTables, List.map_cons, List.flatten_cons, List.length_append, List.length_cons] at h ⊢
    rw [h]
    simp only [ElTables.cells, List.length_cons, List.length_nil]
    omega
theorem cellsTables_append (a b : List ElTables) : cellsTables (a ++ b) = cellsTables a ++ cellsTables b := by simp [cellsTables]
theorem cellsTables_one (zs : List ElTables) : ∀ u ∈ cellsTables zs, u.oneCell' = true := by
  intro u hu
  simp only [cellsTables, List.mem_flatten, List.mem_map] at hu
  obtain ⟨l, ⟨p, _, rfl⟩, hu⟩ := hu
  simp only [ElTables.cells, List.mem_cons, List.not_mem_nil, or_false] at hu
  rcases hu with rfl | rfl | rfl | rfl | rfl <;> rfl
theorem cellsTables_at : ∀ (zs : List ElTables) (i : Nat) (h : i < zs.length) (j : Nat) (u : Value), zs[i].cells[j]? = some u → (cellsTables zs)[i * 5 + j]? = some u
  | [], _, h, _, _, _ => by cases h
  | z :: zs, i, h, j, u, hu => by
    have hc : cellsTables (z :: zs) = z.cells ++ cellsTables zs := by simp [cellsTables]
    have hl : z.cells.length = 5 := rfl
    rw [hc]
    match i, h, hu with
    | 0, _, hu =>
      have hu' : z.cells[j]? = some u := hu
      have hj := (List.getElem?_eq_some_iff.1 hu').1
      rw [Nat.zero_mul, Nat.zero_add, List.getElem?_append_left hj]
      exact hu'
    | i + 1, h, hu =>
      have ih := cellsTables_at zs i (by simpa using h) j u hu
      rw [List.getElem?_append_right (by rw [hl, Nat.add_mul]; omega), hl, show (i + 1) * 5 + j - 5 = i * 5 + j by rw [Nat.add_mul]; omega]
      exact ih
theorem cellsTables_set : ∀ (zs : List ElTables) (i : Nat) (_ : i < zs.length) (z : ElTables), (((((cellsTables zs).set (i * 5 + 0) (.int .i64 z.f0)).set (i * 5 + 1) (.int .i64 z.f1)).set (i * 5 + 2) (.int .i64 z.f2)).set (i * 5 + 3) (.string z.f3)).set (i * 5 + 4) (.string z.f4) = cellsTables (zs.set i z)
  | [], _, h, _ => by cases h
  | y :: zs, i, h, z => by
    have hc : cellsTables (y :: zs) = y.cells ++ cellsTables zs := by simp [cellsTables]
    have hl : y.cells.length = 5 := rfl
    match i, h with
    | 0, _ =>
      have hc2 : cellsTables ((y :: zs).set 0 z) = z.cells ++ cellsTables zs := by simp [cellsTables]
      rw [hc, hc2]
      simp [ElTables.cells]
    | i + 1, h =>
      have ih := cellsTables_set zs i (by simpa using h) z
      have hc2 : cellsTables ((y :: zs).set (i + 1) z) = y.cells ++ cellsTables (zs.set i z) := by simp [cellsTables]
      rw [hc, hc2, ← ih]
      rw [List.set_append_right _ _ (by rw [hl, Nat.add_mul]; omega), hl, show (i + 1) * 5 + 0 - 5 = i * 5 + 0 by rw [Nat.add_mul]; omega]
      rw [List.set_append_right _ _ (by rw [hl, Nat.add_mul]; omega), hl, show (i + 1) * 5 + 1 - 5 = i * 5 + 1 by rw [Nat.add_mul]; omega]
      rw [List.set_append_right _ _ (by rw [hl, Nat.add_mul]; omega), hl, show (i + 1) * 5 + 2 - 5 = i * 5 + 2 by rw [Nat.add_mul]; omega]
      rw [List.set_append_right _ _ (by rw [hl, Nat.add_mul]; omega), hl, show (i + 1) * 5 + 3 - 5 = i * 5 + 3 by rw [Nat.add_mul]; omega]
      rw [List.set_append_right _ _ (by rw [hl, Nat.add_mul]; omega), hl, show (i + 1) * 5 + 4 - 5 = i * 5 + 4 by rw [Nat.add_mul]; omega]
def rwTables (p : Value × List ElTables) : Rw := ⟨80, 5, p.1, p.2.length, cellsTables p.2, none⟩
def outRTables (V : Value) (vs : List Value) : Rw := ⟨23, 1, V, vs.length, vs, none⟩
def mkTables (i k : Nat) : ElTables := ⟨-1 - (i : Int), (k : Int), 0, ⟨#[]⟩, ⟨#[]⟩⟩
def marksTables (i fr n : Nat) : List ElTables := (List.range n).map fun j => mkTables i (fr + j)
theorem marksTables_succ (i fr n : Nat) : marksTables i fr (n + 1) = marksTables i fr n ++ [mkTables i (fr + n)] := by simp [marksTables, List.range_succ]
theorem marksTables_length (i fr n : Nat) : (marksTables i fr n).length = n := by simp [marksTables]
theorem marksTables_add (i n j : Nat) : marksTables i 0 n ++ marksTables i n j = marksTables i 0 (n + j) := by
  induction j with
  | zero => simp [marksTables]
  | succ j ih => rw [marksTables_succ, ← List.append_assoc, ih, ← Nat.add_assoc, marksTables_succ, Nat.zero_add]

set_option maxHeartbeats 1000000 in
set_option maxRecDepth 100000 in
theorem sameTables_some (g off0 cap0 b off cap : Nat) (zs : List ElTables) (w : World) (hl : zs.length ≤ 1000000) (h0 : ∀ i (h : i < zs.length) j u, zs[i].cells[j]? = some u → w.cell? ⟨g, off0 + i * 5 + j, none⟩ = some u) (h1 : ∀ i (h : i < zs.length) j u, zs[i].cells[j]? = some u → w.cell? ⟨b, off + i * 5 + j, none⟩ = some u) :
    Calls Tryz.prog 57 #[.slice (some ⟨g, off0, none⟩) zs.length cap0, .slice (some ⟨b, off, none⟩) zs.length cap] w fun e w' => e = .returned (.bool true) ∧ ∃ n, w' = w.drewN n := by
  have H0 := Lib.hid h0
  have H1 := Lib.hid h1
  clear h0 h1
  go_enter Tryz.func57, Tryz.ntmps57
  go_wp2
  go_loopw [5] (fun i wr => ∃ k n : Nat, k ≤ zs.length ∧ i = .int .i64 k ∧ wr = w.drewN n) (fun i _ => zs.length - (intOf i).toNat)
  case atStart => exact ⟨0, 0, Nat.zero_le _, rfl, rfl⟩
  case round =>
    obtain ⟨k, n, hk, rfl, rfl⟩ := hrel
    by_cases hlt : k < zs.length
    · have hx0 := H0.out k hlt 0 _ rfl
      have hy0 := H1.out k hlt 0 _ rfl
      have hx1 := H0.out k hlt 1 _ rfl
      have hy1 := H1.out k hlt 1 _ rfl
      have hx2 := H0.out k hlt 2 _ rfl
      have hy2 := H1.out k hlt 2 _ rfl
      have hx3 := H0.out k hlt 3 _ rfl
      have hy3 := H1.out k hlt 3 _ rfl
      have hx4 := H0.out k hlt 4 _ rfl
      have hy4 := H1.out k hlt 4 _ rfl
      generalize zs[k] = z at hx0 hy0 hx1 hy1 hx2 hy2 hx3 hy3 hx4 hy4
      obtain ⟨f0, f1, f2, f3, f4⟩ := z
      simp only [Nat.add_zero] at hx0 hy0 hx1 hy1 hx2 hy2 hx3 hy3 hx4 hy4
      have hk0 : (k : Int) < (zs.length : Int) := by omega
      go_wp2
      go_quiet (fail)
      go_wp2
      go_roundw
      case rel => exact ⟨k + 1, n + nq, by omega, by go_num, by first | rfl | (rw [drewN_add'])⟩
      case measure => simp [intOf]; omega
    · go_wp2
      go_ret
      exact ⟨rfl, n, rfl⟩
set_option maxHeartbeats 1000000 in
theorem sameTables_none (a0 a1 : Option Addr) (cap0 cap : Nat) (w : World) :
    Calls Tryz.prog 57 #[.slice a0 0 cap0, .slice a1 0 cap] w fun e w' => e = .returned (.bool true) ∧ ∃ n, w' = w.drewN n := by
  go_enter Tryz.func57, Tryz.ntmps57
  go_wp2
  refine wp_loop_rounds 1 ?_
  rw [rounds_succ]
  go_wp2
  go_ret
  exact ⟨rfl, 0, rfl⟩
theorem sameTables_rd (v0 v1 : Value) (zs : List ElTables) (w : World) (h0 : Rd w v0 zs.length (cellsTables zs)) (h1 : Rd w v1 zs.length (cellsTables zs)) (hl : zs.length ≤ 1000000) :
    Calls Tryz.prog 57 #[v0, v1] w fun e w' => e = .returned (.bool true) ∧ ∃ n, w' = w.drewN n := by
  obtain ⟨a0, cap0, rfl, r0⟩ := h0
  obtain ⟨a1, cap1, rfl, r1⟩ := h1
  rcases r0 with h0 | ⟨b, off, rfl, hb, hc⟩
  · rw [h0]; exact sameTables_none _ _ _ _ _
  · rcases r1 with h0 | ⟨b1, off1, rfl, hb1, hc1⟩
    · rw [h0]; exact sameTables_none _ _ _ _ _
    · exact sameTables_some b off cap0 b1 off1 cap1 zs w hl (fun i hi j u hj => by rw [Nat.add_assoc]; exact hc _ u (cellsTables_at zs i hi j u hj)) (fun i hi j u hj => by rw [Nat.add_assoc]; exact hc1 _ u (cellsTables_at zs i hi j u hj))

set_option maxHeartbeats 1000000 in
set_option maxRecDepth 100000 in
theorem markTables_any (i fr n : Nat) (w : World) (hi : i ≤ 1000) (hf : fr ≤ 200000) (hn : n ≤ 200000) :
    Calls Tryz.prog 158 #[.int .i64 (i : Int), .int .i64 (fr : Int), .int .i64 (n : Int)] w fun e w' => ∃ v, e = .returned v ∧ (rwTables (v, marksTables i fr n)).ok w.heap.size w' ∧ Below w.heap.size w w' := by
  obtain ⟨i0, hi0, hz0, hz1, hz2⟩ := info_parts infoTables
  go_enter Tryz.func158, Tryz.ntmps158
  go_wp2
  go_loopw [7, 8] (fun vo vk wr => ∃ j : Nat, j ≤ n ∧ vk = .int .i64 ((fr + j : Nat) : Int) ∧ wr.ownsRow w.heap.size 80 5 vo j (cellsTables (marksTables i fr j)) ∧ Below w.heap.size w wr) (fun _ k _ => fr + n - (intOf k).toNat)
  case atStart => exact ⟨0, Nat.zero_le _, rfl, World.ownsRow_nil _ _ _ _, Below.refl _ _⟩
  case round =>
    obtain ⟨j, hj, rfl, hown, hbel⟩ := hrel
    by_cases hlt : j < n
    · have hq : ((fr + j : Nat) : Int) < (fr : Int) + (n : Int) := by omega
      have HT := Lib.hid (show cellsTables (marksTables i fr (j + 1)) = cellsTables (marksTables i fr j) ++ [Value.int .i64 (-1 - (i : Int)), Value.int .i64 (((fr + j : Nat) : Int)), Value.int .i64 0, Value.string ⟨#[]⟩, Value.string ⟨#[]⟩] by rw [marksTables_succ, cellsTables_append]; rfl)
      go_wp2_with (at_builtin; refine wpList_append_own _ rfl _ _ 23 rfl w.heap.size 80 i0 _ 5 56 Tryz.underlying23 hi0 hz0 hz1 hz2 rfl (by decide) _ _ _ rfl (hown.alloc _) ⟨wr.heap.size, 0, none⟩ 1 1 [Value.int .i64 (-1 - (i : Int)), Value.int .i64 (((fr + j : Nat) : Int)), Value.int .i64 0, Value.string ⟨#[]⟩, Value.string ⟨#[]⟩] rfl rfl ?c1 ?c2 ?c3 ?c4 ?c5 ?_)
      case c1 =>
        intro j u hj
        match j, hj with
        | 0, hj => simp at hj; subst hj; simp [Addr.add]
        | 1, hj => simp at hj; subst hj; simp [Addr.add]
        | 2, hj => simp at hj; subst hj; simp [Addr.add]
        | 3, hj => simp at hj; subst hj; simp [Addr.add]
        | 4, hj => simp at hj; subst hj; simp [Addr.add]
      case c2 => intro u hu; simp at hu; rcases hu with rfl | rfl | rfl | rfl | rfl <;> rfl
      case c3 => unfold maxLen; omega
      case c4 => omega
      case c5 => have := hbel.size; simp; omega
      intro v' w2 hown' hgrow _
      have hbel2 : Below w.heap.size w w2 := (hbel.alloc hbel.size _).grown hgrow (by have := hbel.size; simp; omega) (fun k hk => (hown.lt k hk).1)
      clear hgrow
      go_wp2
      go_roundw
      case rel =>
        refine ⟨j + 1, by omega, by go_num, ?_, hbel2⟩
        rw [HT.out]
        exact hown'
      case measure => simp [intOf]; omega
    · have hke : j = n := by omega
      subst hke
      go_wp2
      go_ret
      refine ⟨_, rfl, ?_, hbel⟩
      have hq := ok_owns hown
      unfold rwTables
      simp only
      rw [marksTables_length]
      exact hq

set_option maxHeartbeats 1000000 in
set_option maxRecDepth 100000 in
theorem copyTables_some (ad : Addr) (cap : Nat) (zs : List ElTables) (w : World) (hl : zs.length ≤ 1000000) (hc : ∀ j u, (cellsTables zs)[j]? = some u → w.cell? (ad.add j) = some u) :
    Calls Tryz.prog 55 #[.slice (some ad) zs.length cap] w fun e w' => ∃ v, e = .returned v ∧ (rwTables (v, zs)).ok w.heap.size w' ∧ Below w.heap.size w w' := by
  obtain ⟨i0, hi, hz0, hz1, hz2⟩ := info_parts infoTables
  have HC := Lib.hid hc
  have H1 := Lib.hid (cellsTables_one zs)
  have HL : Hid ((cellsTables zs).length = zs.length * 5) := cellsTables_ok zs
  clear hc
  go_enter Tryz.func55, Tryz.ntmps55
  go_wp2_with (at_builtin; refine wpList_append_own _ rfl _ _ 23 rfl w.heap.size 80 i0 _ 5 56 Tryz.underlying23 hi hz0 hz1 hz2 rfl (by decide) _ _ _ rfl (World.ownsRow_nil w w.heap.size _ _) ad zs.length cap (cellsTables zs) rfl HL.out HC.out H1.out ?c3 ?c4 ?c5 ?_)
  case c3 => unfold maxLen; omega
  case c4 => omega
  case c5 => exact Nat.le_refl _
  intro v1 w1 hown1 hgrow1 _
  have hb1 : Below w.heap.size w w1 := (Below.refl _ _).grown hgrow1 (Nat.le_refl _) (fun k hk => by cases hk)
  try simp only [Nat.zero_add, List.nil_append] at hown1
  clear hgrow1
  go_wp2
  go_ret
  exact ⟨_, rfl, ok_owns hown1, hb1⟩
set_option maxHeartbeats 1000000 in
set_option maxRecDepth 100000 in
theorem copyTables_nil (cap : Nat) (w : World) :
    Calls Tryz.prog 55 #[.slice none 0 cap] w fun e w' => e = .returned (.slice none 0 0) ∧ w = w' := by
  go_enter Tryz.func55, Tryz.ntmps55
  go_wp2
  go_ret
  exact ⟨rfl, rfl⟩
theorem copyTables_rd (v : Value) (zs : List ElTables) (w : World) (h : Rd w v zs.length (cellsTables zs)) (hl : zs.length ≤ 1000000) :
    Calls Tryz.prog 55 #[v] w fun e w' => ∃ v', e = .returned v' ∧ (rwTables (v', zs)).ok w.heap.size w' ∧ Below w.heap.size w w' := by
  obtain ⟨a, cap, rfl, r⟩ := h
  rcases r with h0 | ⟨b, off, rfl, hb, hc⟩
  · have hz := List.eq_nil_of_length_eq_zero h0
    subst hz
    cases a with
    | none =>
      refine (copyTables_nil cap w).mono ?_
      rintro e w' ⟨rfl, rfl⟩
      exact ⟨_, rfl, ok_nil _ _ _ _, Below.refl _ _⟩
    | some ad => exact copyTables_some ad cap [] w (by simp) (fun j u hj => by simp [cellsTables] at hj)
  · exact copyTables_some ⟨b, off, none⟩ cap zs w hl (fun j u hj => by rw [addr_at]; exact hc j u hj)

/-- Lists that read as these. -/
def RdsTables (w : World) (vs : List Value) (zss : List (List ElTables)) : Prop := vs.length = zss.length ∧ ∀ (i : Nat) (v : Value) (zs : List ElTables), vs[i]? = some v → zss[i]? = some zs → Rd w v zs.length (cellsTables zs) ∧ zs.length ≤ 200000
theorem RdsTables.below {w w' : World} {vs : List Value} {zss : List (List ElTables)} (h : RdsTables w vs zss) (hb : Below w.heap.size w w') : RdsTables w' vs zss :=
  ⟨h.1, fun i v zs h1 h2 => ⟨(h.2 i v zs h1 h2).1.below hb, (h.2 i v zs h1 h2).2⟩⟩

set_option maxHeartbeats 1000000 in
set_option maxRecDepth 100000 in
theorem stillTables_any (b : Nat) (V W : Value) (vs us : List Value) (zss : List (List ElTables)) (w : World) (hV : w.cell? ⟨b, 12, none⟩ = some V) (hW : w.cell? ⟨b, 13, none⟩ = some W)
    (hRV : Rd w V vs.length vs) (hRW : Rd w W us.length us) (h0 : RdsTables w vs zss) (h1 : RdsTables w us zss) (hlen : zss.length ≤ 1000) :
    Calls Tryz.prog 67 #[.pointer (some ⟨b, 0, none⟩)] w fun e w' => e = .returned (.bool true) ∧ Below w.heap.size w w' := by
  have hvl := h0.1
  have hul := h1.1
  obtain ⟨a, cap, rfl, r0⟩ := hRV
  obtain ⟨a2, cap2, rfl, r1⟩ := hRW
  rw [hvl] at hV r0
  rw [hul] at hW r1
  have H0 := Lib.hid h0
  have H1 := Lib.hid h1
  have hbl := block_lt' hV
  clear h0 h1
  go_enter Tryz.func67, Tryz.ntmps67
  go_wp2
  go_loopw [3] (fun i wr => ∃ k n : Nat, k ≤ zss.length ∧ i = .int .i64 k ∧ wr = w.drewN n) (fun i _ => zss.length - (intOf i).toNat)
  case atStart => exact ⟨0, 0, Nat.zero_le _, rfl, rfl⟩
  case round =>
    obtain ⟨k, nd, hk, rfl, rfl⟩ := hrel
    by_cases hlt : k < zss.length
    · rcases r0 with r0 | ⟨g, off, rfl, hg, hc⟩
      · omega
      · rcases r1 with r1 | ⟨g2, off2, rfl, hg2, hc2⟩
        · omega
        · have hvk : vs[k]? = some (vs[k]'(by omega)) := List.getElem?_eq_getElem _
          have huk : us[k]? = some (us[k]'(by omega)) := List.getElem?_eq_getElem _
          have hzk : zss[k]? = some zss[k] := List.getElem?_eq_getElem _
          have hx0 := hc k _ hvk
          have hx1 := hc2 k _ huk
          obtain ⟨hr0, hlz⟩ := H0.out.2 k _ _ hvk hzk
          obtain ⟨hr1, -⟩ := H1.out.2 k _ _ huk hzk
          generalize vs[k]'(by omega) = v at hx0 hr0
          generalize us[k]'(by omega) = u at hx1 hr1
          generalize zss[k] = zs at hr0 hr1 hlz
          have hsm := Lib.hid (fun nn : Nat => sameTables_rd v u zs (w.drewN nn) (hr0.below (drew_below' _ nn)) (hr1.below (drew_below' _ nn)) (by omega))
          have hk0 : (k : Int) < (zss.length : Int) := by omega
          have hk1 : (0 : Int) ≤ (k : Int) := by omega
          clear hc hc2 hvk huk hzk hr0 hr1 hlz
          go_wp2
          go_quiet ((go_at_call 57; exact quiet_drew2 _ _ (hsm.out _)))
          go_wp2
          go_roundw
          case rel => exact ⟨k + 1, nd + nq, by omega, by go_num, by first | rfl | (rw [drewN_add'])⟩
          case measure => simp [intOf]; omega
    · go_wp2
      go_ret
      exact ⟨rfl, drew_below' _ _⟩
end Go.Proofs.YtmcgfafkggannaaGreat
