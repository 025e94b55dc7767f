/- The statement's own helper plain: the same parts, in a row of its own. -/
import Derived.Test.YtgoehmmmajdenaaGreatDoorQ5
import Derived.Test.YtgoehmmmajdenaaGreatDoorK7
import Derived.BigRegion
import Derived.Deep.RegionLaw
namespace Go.Proofs.YtgoehmmmajdenaaGreatDoor
open Go.RowKit
theorem step_append_own {P : Program} {ops : Array Oper} {o : Oper} {a : Act} {w : World} {K : Act → World → Prop} {Q : Exit → Act → World → Prop} {E : Prop}
    (hg : o.guard = none) (s x : Operand) (t : TypeId) (ho : o.op = .call { callee := .builtin .append, args := #[s, x], argTypes := #[t, t] })
    (base : Nat) (e : TypeId) (i : TypeInfo) (z : Value) (size bytes : Nat) (ht : P.underlying t = some (.slice e)) (hi : P.info? e = some i) (hz : i.zero = some z)
    (hsize : i.size = size) (hby : i.bytes = bytes) (hzs : z.cells.size = size) (hsz : 0 < size)
    (v : Value) (n : Nat) (xs : List Value) (hs : a.eval s = v) (hown : w.ownsRow base e size v n xs)
    (ad : Addr) (m c : Nat) (news : List Value) (hx : a.eval x = .slice (some ad) m c) (hl : news.length = m * size) (hnews : ∀ j u, news[j]? = some u → w.cell? (ad.add j) = some u) (h1 : ∀ u ∈ news, u.oneCell' = true)
    (h63 : n + m ≤ maxLen) (hbytes : (n + m) * bytes ≤ 140737488355328) (hbase : base ≤ w.heap.size)
    (h : ∀ v' w', w'.ownsRow base e size v' (n + m) (xs ++ news) → w.grownBy w' v.ownBlock → (v' = .slice none 0 0 ↔ v = .slice none 0 0 ∧ m = 0) → K (a.put o.dst v') w') :
    if Region.wanted o (yielded ops a.tmps) = true then Oper.wp P o a w K Q else E := by
  have hw : Region.wanted o (yielded ops a.tmps) = true := by simp [Region.wanted, hg]
  rw [if_pos hw]
  exact wp_append_own w s x t ho base e i z size bytes ht hi hz hsize hby hzs hsz v n xs hs hown ad m c news hx hl hnews h1 h63 hbytes hbase h
set_option maxHeartbeats 40000000 in
set_option maxRecDepth 100000 in
theorem plain_some (b off cap : Nat) (ps : List Prt) (w : World) (hlen : ps.length ≤ 1000000)
    (hc : ∀ i (h : i < ps.length) j u, (ps[i]).cells[j]? = some u → w.cell? ⟨b, off + i * 4 + j, none⟩ = some u) (hb : b < w.heap.size) :
    Calls Tryz.prog 8 #[.slice (some ⟨b, off, none⟩) ps.length cap] w fun e w' => ∃ v, e = .returned v ∧ w'.ownsRow w.heap.size 76 4 v ps.length (partsCells ps) ∧ Below w.heap.size w w' := by
  obtain ⟨i0, hi, hz0, hz1, hz2⟩ := info_parts infoPartR
  go_enter Tryz.func8, Tryz.ntmps8
  go_wp2
  go_loopw [3, 4] (fun vo i wr => ∃ k : Nat, k ≤ ps.length ∧ i = .int .i64 k ∧ wr.ownsRow w.heap.size 76 4 vo k (partsCells (ps.take k)) ∧ Below w.heap.size w wr) (fun _ i _ => ps.length - (intOf i).toNat)
  case atStart => exact ⟨0, Nat.zero_le _, rfl, World.ownsRow_nil _ _ _ _, Below.refl _ _⟩
  case round =>
    obtain ⟨k, hk, rfl, hown, hbel⟩ := hrel
    by_cases hkl : k < ps.length
    · obtain ⟨cx0, cx1, cx2, cx3⟩ := row_cells hc k hkl
      rw [← hbel.cell (by exact hb)] at cx0 cx1 cx2 cx3
      have HT := Lib.hid (show partsCells (ps.take (k + 1)) = partsCells (ps.take k) ++ ps[k].cells by rw [List.take_succ_eq_append_getElem hkl, partsCells_snoc])
      generalize ps[k] = p at cx0 cx1 cx2 cx3 HT
      obtain ⟨kd, sx, n, ii⟩ := p
      simp only at cx0 cx1 cx2 cx3
      have hi1 : (k : Int) < (ps.length : Int) := by omega
      have HC := Lib.hid (show ∀ j u, [Value.int .i64 kd, Value.string ⟨sx.toArray⟩, Value.int .u64 (n : Int), Value.int .i64 ii][j]? = some u → (wr.drew.alloc (.cells #[Value.int .i64 kd, Value.string ⟨sx.toArray⟩, Value.int .u64 (n : Int), Value.int .i64 ii] 76)).cell? ((⟨wr.heap.size, 0, none⟩ : Addr).add j) = some u by
        intro j u hj
        match j, hj with
        | 0, hj =>
          simp at hj
          subst hj
          show (wr.alloc _).cell? _ = _
          simp [Addr.add]
        | 1, hj =>
          simp at hj
          subst hj
          show (wr.alloc _).cell? _ = _
          simp [Addr.add]
        | 2, hj =>
          simp at hj
          subst hj
          show (wr.alloc _).cell? _ = _
          simp [Addr.add]
        | 3, hj =>
          simp at hj
          subst hj
          show (wr.alloc _).cell? _ = _
          simp [Addr.add])
      have HO := Lib.hid (show ∀ u ∈ [Value.int .i64 kd, Value.string ⟨sx.toArray⟩, Value.int .u64 (n : Int), Value.int .i64 ii], u.oneCell' = true by intro u hu; simp at hu; rcases hu with rfl | rfl | rfl | rfl <;> rfl)
      have HB1 := Lib.hid (show k + 1 ≤ maxLen by unfold maxLen; omega)
      have HB2 := Lib.hid (show (k + 1) * 40 ≤ 140737488355328 by omega)
      have HB3 := Lib.hid (show w.heap.size ≤ (wr.drew.alloc (.cells #[Value.int .i64 kd, Value.string ⟨sx.toArray⟩, Value.int .u64 (n : Int), Value.int .i64 ii] 76)).heap.size by have := hbel.size; simp; omega)
      go_wp2
      go_region_law (refine step_append_own rfl (.tmp 11) (.tmp 33) 48 rfl w.heap.size 76 i0 _ 4 40 Tryz.underlying48 hi hz0 hz1 hz2 rfl (by decide) _ _ _ (by simp [Act.eval]) (hown.drew.alloc _) ⟨wr.heap.size, 0, none⟩ 1 1 [Value.int .i64 kd, Value.string ⟨sx.toArray⟩, Value.int .u64 (n : Int), Value.int .i64 ii] (by simp [Act.eval]) rfl HC.out HO.out HB1.out HB2.out HB3.out ?_; intro v' w2 hown' hgrow _)
      all_goals
        have hbel2 : Below w.heap.size w w2 := (hbel.drew.alloc (by have := hbel.size; simp; omega) _).grown hgrow (by have := hbel.size; simp; omega) (fun k hk => (hown.lt k hk).1)
        clear hgrow
        go_wp2
        go_roundw
        case rel =>
          refine ⟨k + 1, by omega, by go_num, ?_, hbel2⟩
          rw [HT.out]
          exact hown'
        case measure => simp [intOf]; omega
    · have hke : k = ps.length := by omega
      subst hke
      rw [List.take_length] at hown
      go_wp2
      go_ret
      exact ⟨_, rfl, hown, hbel⟩

set_option maxHeartbeats 1000000 in
set_option maxRecDepth 100000 in
theorem plain_none (a : Option Addr) (cap : Nat) (w : World) :
    Calls Tryz.prog 8 #[.slice a 0 cap] w fun e w' => ∃ v, e = .returned v ∧ w'.ownsRow w.heap.size 76 4 v 0 [] ∧ Below w.heap.size w w' := by
  go_enter Tryz.func8, Tryz.ntmps8
  go_wp2
  refine wp_loop_rounds 1 ?_
  rw [rounds_succ]
  go_wp2
  go_ret
  exact ⟨_, rfl, World.ownsRow_nil _ _ _ _, Below.refl _ _⟩
theorem plain_any (a : Option Addr) (cap : Nat) (ps : List Prt) (w : World) (hlen : ps.length ≤ 1000000) (hr : IsRowP w a ps) :
    Calls Tryz.prog 8 #[.slice a ps.length cap] w fun e w' => ∃ v, e = .returned v ∧ w'.ownsRow w.heap.size 76 4 v ps.length (partsCells ps) ∧ Below w.heap.size w w' := by
  rcases hr with rfl | ⟨b, off, rfl, hc⟩
  · exact plain_none a cap w
  · rcases Nat.eq_zero_or_pos ps.length with h0 | h0
    · obtain rfl := List.eq_nil_of_length_eq_zero h0
      exact plain_none _ cap w
    · exact plain_some b off cap ps w hlen hc (block_lt (row_cells hc 0 h0).1)
end Go.Proofs.YtgoehmmmajdenaaGreatDoor
