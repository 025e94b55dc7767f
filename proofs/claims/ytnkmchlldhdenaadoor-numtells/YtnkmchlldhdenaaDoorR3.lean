/- Contract of the document's own Digits: the same digits as package num's, for every int. -/
import Derived.Test.YtnkmchlldhdenaaDoorR2
import Derived.Laws.AppendOwnNone
import Derived.Lib.ItoaNum
import Derived.Lib.ItoaLen
import Derived.Lib.BufferWrite
namespace Go.Proofs.YtnkmchlldhdenaaDoor
open Go.RowKit

theorem dec_big' {u : Nat} (h : ¬ u < 10) : Lib.decDigits u = Lib.decDigits (u / 10) ++ [UInt8.ofNat (48 + u % 10)] := by rw [Lib.decDigits, dif_neg h]

/-- The digits of u, and behind them what was gathered. -/
def digs (u : Nat) (b : List UInt8) : List UInt8 := if u = 0 then b else Lib.decDigits u ++ b
theorem digs_step (u : Nat) (b : List UInt8) (h : 0 < u) : digs u b = digs (u / 10) (UInt8.ofNat (48 + u % 10) :: b) := by
  unfold digs
  rw [if_neg (by omega)]
  by_cases h10 : u < 10
  · rw [if_pos (by omega), Lib.decDigits_one h10, show u % 10 = u by omega]
    rfl
  · rw [if_neg (by omega), dec_big' h10]
    simp

set_option maxHeartbeats 2000000 in
set_option maxRecDepth 100000 in
theorem refDigits_zero (w : World) :
    Calls Tryd.prog 28 #[.int .i64 0] w fun e w' => e = .returned (.string ⟨#[48]⟩) ∧ Below w.heap.size w w' := by
  go_enter Tryd.func28, Tryd.ntmps28
  go_wp2
  go_ret
  exact ⟨rfl, Below.refl _ _⟩

theorem digs_ge (u : Nat) (b : List UInt8) : b.length ≤ (digs u b).length := by
  unfold digs
  split
  · exact Nat.le_refl _
  · rw [List.length_append]; omega
theorem digs_nil (u : Nat) (h : 0 < u) : digs u [] = Lib.decDigits u := by
  unfold digs
  rw [if_neg (by omega), List.append_nil]
theorem nDigits_small20 (u : Nat) (h : u < 18446744073709551616) : (Lib.decDigits u).length ≤ 20 := by
  rw [Lib.decDigits_length]; exact Lib.nDigits_le20 u h
theorem neg_tmod10 (u : Nat) : (-(u : Int)).tmod 10 = -((u % 10 : Nat) : Int) := by
  rw [Int.neg_tmod]
  rfl
theorem neg_tdiv10 (u : Nat) : (-(u : Int)).tdiv 10 = -((u / 10 : Nat) : Int) := by
  rw [Int.neg_tdiv]
  rfl
theorem byteCells_cons (c : UInt8) (l : List UInt8) : Lib.byteCells (c :: l) = Value.int .u8 (c.toNat : Int) :: Lib.byteCells l := rfl
theorem dig_nat' (d : Nat) (h : d < 10) : (UInt8.ofNat (48 + d)).toNat = 48 + d := by
  rw [UInt8.toNat_ofNat']
  omega

set_option maxHeartbeats 2000000 in
set_option maxRecDepth 100000 in
theorem refDigits_pos (u0 : Nat) (h0 : 0 < u0) (h1 : u0 ≤ 9223372036854775807) (w : World) :
    Calls Tryd.prog 28 #[.int .i64 (u0 : Int)] w fun e w' => e = .returned (.string ⟨(Lib.decDigits u0).toArray⟩) ∧ Below w.heap.size w w' := by
  obtain ⟨i0, hi, hz0, hz1, hz2⟩ := info_parts infoByte
  have hlen := nDigits_small20 u0 (by omega)
  have hd0 : ((u0 : Int) == 0) = false := by simp; omega
  go_enter Tryd.func28, Tryd.ntmps28
  go_wp2
  go_loopw [3, 4] (fun vb vw wr => ∃ (u : Nat) (bs : List UInt8), vw = .int .i64 ((u : Int)) ∧ u ≤ u0 ∧ bs.length ≤ 20 ∧ Hid (digs u bs = Lib.decDigits u0) ∧ wr.ownsRow w.heap.size 5 1 vb bs.length (Lib.byteCells bs) ∧ Below w.heap.size w wr)
    (fun _ vw _ => (intOf vw).natAbs)
  case atStart => exact ⟨u0, [], rfl, Nat.le_refl _, by simp, digs_nil u0 h0, by simpa [Lib.byteCells] using World.ownsRow_nil w _ _ _, Below.refl _ _⟩
  case round =>
    obtain ⟨u, bs, rfl, hu, hbl, HD, hown, hnx⟩ := hrel
    by_cases hup : 0 < u
    · have hne : ((u : Int) == 0) = false := by simp; omega
      have HS := Lib.hid (digs_step u bs hup)
      have hb20 : bs.length + 1 ≤ 20 := by
        have h2 := digs_ge (u / 10) (UInt8.ofNat (48 + u % 10) :: bs)
        rw [← digs_step u bs hup, HD.out, List.length_cons] at h2
        omega
      have hsz := hnx.size
      have hlit : (wr.alloc (.cells #[Value.int .u8 (48 + (u : Int) % 10)] 5)).ownsRow w.heap.size 5 1 (.slice (some ⟨wr.heap.size, 0, none⟩) 1 1) 1 [Value.int .u8 (48 + (u : Int) % 10)] := World.ownsRow_lit wr #[Value.int .u8 (48 + (u : Int) % 10)] 1 hsz (by unfold maxLen; omega) rfl
      rcases hown.2 with ⟨rfl, hz⟩ | ⟨g, cap, cur, rfl, hg, -, -, -, -, -⟩
      · go_wp2_with (at_builtin; refine wpList_append_own_none rfl _ _ 60 rfl w.heap.size 5 i0 1 Tryd.underlying60 hi _ _ _ rfl hlit rfl ?_)
        go_roundw
        case rel =>
          have hbs : bs = [] := List.eq_nil_of_length_eq_zero hz
          subst hbs
          refine ⟨u / 10, [UInt8.ofNat (48 + u % 10)], ?_, by omega, by simp, by show _ = _; rw [← HS.out]; exact HD.out, ?_, hnx.alloc hsz _⟩
          · first | rfl | (congr 1; omega)
          · rw [byteCells_cons, dig_nat' _ (by omega)]
            have e : ((48 + u % 10 : Nat) : Int) = 48 + (u : Int) % 10 := by omega
            rw [e]
            exact hlit
        case measure => simp [intOf]; omega
      · have hcs : ∀ j v, (Lib.byteCells bs)[j]? = some v → (wr.alloc (.cells #[Value.int .u8 (48 + (u : Int) % 10)] 5)).cell? ((⟨g, 0, none⟩ : Addr).add j) = some v := fun j v hj => (hown.alloc _).cells (g := g) rfl j v hj
        have hone : ∀ v ∈ Lib.byteCells bs, v.oneCell' = true := Lib.byteCells_one bs
        have HC := Lib.hid hcs
        have HO := Lib.hid hone
        have HLT := Lib.hid hown
        clear hcs hone hown
        go_wp2_with (at_builtin; refine wpList_append_own _ rfl _ _ 60 rfl w.heap.size 5 i0 (.int .u8 0) 1 1 Tryd.underlying60 hi hz0 hz1 hz2 rfl (by decide) _ _ _ rfl hlit ⟨g, 0, none⟩ bs.length cap (Lib.byteCells bs) rfl (by rw [Lib.byteCells_length, Nat.mul_one]) HC.out HO.out ?c3 ?c4 ?c5 ?_)
        case c3 => unfold maxLen; omega
        case c4 => omega
        case c5 => simp; omega
        intro v' w1 hown' hgrow _
        have hnx1 : Below w.heap.size w w1 := (hnx.alloc hsz _).grown hgrow (by simp; omega) (fun k hk => by cases hk; exact hsz)
        go_wp2
        go_roundw
        case rel =>
          refine ⟨u / 10, UInt8.ofNat (48 + u % 10) :: bs, ?_, by omega, by simp; omega, by show _ = _; rw [← HS.out]; exact HD.out, ?_, hnx1⟩
          · first | rfl | (congr 1; omega)
          · rw [byteCells_cons, dig_nat' _ (by omega), List.length_cons, Nat.add_comm]
            have e : ((48 + u % 10 : Nat) : Int) = 48 + (u : Int) % 10 := by omega
            rw [e]
            exact hown'
        case measure => simp [intOf]; omega
    · obtain rfl : u = 0 := by omega
      have hbs : Hid (bs = Lib.decDigits u0) := by have := HD.out; unfold digs at this; rwa [if_pos rfl] at this
      have hcv := conv_own hown rfl
      go_wp2
      go_ret
      exact ⟨by rw [← hbs.out]; rfl, hnx⟩

set_option maxHeartbeats 2000000 in
set_option maxRecDepth 100000 in
theorem refDigits_neg (u0 : Nat) (h0 : 0 < u0) (h1 : u0 ≤ 9223372036854775808) (w : World) :
    Calls Tryd.prog 28 #[.int .i64 (-(u0 : Int))] w fun e w' => e = .returned (.string ⟨(45 :: Lib.decDigits u0).toArray⟩) ∧ Below w.heap.size w w' := by
  obtain ⟨i0, hi, hz0, hz1, hz2⟩ := info_parts infoByte
  have hlen := nDigits_small20 u0 (by omega)
  have hd0 : ((-(u0 : Int)) == 0) = false := by simp; omega
  go_enter Tryd.func28, Tryd.ntmps28
  go_wp2
  go_loopw [3, 4] (fun vb vw wr => ∃ (u : Nat) (bs : List UInt8), vw = .int .i64 (-(u : Int)) ∧ u ≤ u0 ∧ bs.length ≤ 20 ∧ Hid (digs u bs = Lib.decDigits u0) ∧ wr.ownsRow w.heap.size 5 1 vb bs.length (Lib.byteCells bs) ∧ Below w.heap.size w wr)
    (fun _ vw _ => (intOf vw).natAbs)
  case atStart => exact ⟨u0, [], rfl, Nat.le_refl _, by simp, digs_nil u0 h0, by simpa [Lib.byteCells] using World.ownsRow_nil w _ _ _, Below.refl _ _⟩
  case round =>
    obtain ⟨u, bs, rfl, hu, hbl, HD, hown, hnx⟩ := hrel
    by_cases hup : 0 < u
    · have hne : (-(u : Int) == 0) = false := by simp; omega
      have HS := Lib.hid (digs_step u bs hup)
      have hb20 : bs.length + 1 ≤ 20 := by
        have h2 := digs_ge (u / 10) (UInt8.ofNat (48 + u % 10) :: bs)
        rw [← digs_step u bs hup, HD.out, List.length_cons] at h2
        omega
      have hsz := hnx.size
      obtain ⟨r, hr⟩ : ∃ r : Nat, r = u % 10 := ⟨_, rfl⟩
      obtain ⟨q, hq0⟩ : ∃ q : Nat, q = u / 10 := ⟨_, rfl⟩
      have hq : (-(u : Int)).tdiv 10 = -(q : Int) := by rw [neg_tdiv10, hq0]
      have hr10 : r < 10 := by omega
      have hqu : q ≤ u0 := by omega
      have HR := Lib.hid hr
      have HQ := Lib.hid hq0
      by_cases hz10 : r = 0
      · have hm : (-(u : Int)).tmod 10 = 0 := by rw [neg_tmod10, ← hr, hz10]; rfl
        have HZ := Lib.hid hz10
        clear hr hq0 hz10
        replace HR : Hid (u % 10 = 0) := by have h1 := HR.out; have h2 := HZ.out; show _ = _; omega
        have hlit : (wr.alloc (.cells #[Value.int .u8 (48)] 5)).ownsRow w.heap.size 5 1 (.slice (some ⟨wr.heap.size, 0, none⟩) 1 1) 1 [Value.int .u8 (48)] := World.ownsRow_lit wr #[Value.int .u8 (48)] 1 hsz (by unfold maxLen; omega) rfl
        have HE : Hid (((48 + u % 10 : Nat) : Int) = 48) := by
          show _ = _
          have := HR.out
          omega
        rcases hown.2 with ⟨rfl, hz⟩ | ⟨g, cap, cur, rfl, hg, -, -, -, -, -⟩
        · go_wp2_with (at_builtin; refine wpList_append_own_none rfl _ _ 60 rfl w.heap.size 5 i0 1 Tryd.underlying60 hi _ _ _ rfl hlit rfl ?_)
          go_roundw
          case rel =>
            have hbs : bs = [] := List.eq_nil_of_length_eq_zero hz
            subst hbs
            refine ⟨u / 10, [UInt8.ofNat (48 + u % 10)], by rw [← HQ.out], by omega, by simp, by show _ = _; rw [← HS.out]; exact HD.out, ?_, hnx.alloc hsz _⟩
            rw [byteCells_cons, dig_nat' _ (by omega), HE.out]
            exact hlit
          case measure => have := HQ.out; simp [intOf]; omega
        · have hcs : ∀ j v, (Lib.byteCells bs)[j]? = some v → (wr.alloc (.cells #[Value.int .u8 (48)] 5)).cell? ((⟨g, 0, none⟩ : Addr).add j) = some v := fun j v hj => (hown.alloc _).cells (g := g) rfl j v hj
          have hone : ∀ v ∈ Lib.byteCells bs, v.oneCell' = true := Lib.byteCells_one bs
          have HC := Lib.hid hcs
          have HO := Lib.hid hone
          clear hcs hone hown
          go_wp2_with (at_builtin; refine wpList_append_own _ rfl _ _ 60 rfl w.heap.size 5 i0 (.int .u8 0) 1 1 Tryd.underlying60 hi hz0 hz1 hz2 rfl (by decide) _ _ _ rfl hlit ⟨g, 0, none⟩ bs.length cap (Lib.byteCells bs) rfl (by rw [Lib.byteCells_length, Nat.mul_one]) HC.out HO.out ?c3 ?c4 ?c5 ?_)
          case c3 => unfold maxLen; omega
          case c4 => omega
          case c5 => simp; omega
          intro v' w1 hown' hgrow _
          have hnx1 : Below w.heap.size w w1 := (hnx.alloc hsz _).grown hgrow (by simp; omega) (fun k hk => by cases hk; exact hsz)
          go_wp2
          go_roundw
          case rel =>
            refine ⟨u / 10, UInt8.ofNat (48 + u % 10) :: bs, by rw [← HQ.out], by omega, by simp; omega, by show _ = _; rw [← HS.out]; exact HD.out, ?_, hnx1⟩
            rw [byteCells_cons, dig_nat' _ (by omega), List.length_cons, Nat.add_comm, HE.out]
            exact hown'
          case measure => have := HQ.out; simp [intOf]; omega
      · have hm : (-(u : Int)).tmod 10 = -(r : Int) := by rw [neg_tmod10, hr]
        have hrp : 0 < r := by omega
        clear hr hq0 hz10
        have hlit : (wr.alloc (.cells #[Value.int .u8 (48 + (r : Int))] 5)).ownsRow w.heap.size 5 1 (.slice (some ⟨wr.heap.size, 0, none⟩) 1 1) 1 [Value.int .u8 (48 + (r : Int))] := World.ownsRow_lit wr #[Value.int .u8 (48 + (r : Int))] 1 hsz (by unfold maxLen; omega) rfl
        have HE : Hid (((48 + u % 10 : Nat) : Int) = 48 + (r : Int)) := by
          show _ = _
          have := HR.out
          omega
        rcases hown.2 with ⟨rfl, hz⟩ | ⟨g, cap, cur, rfl, hg, -, -, -, -, -⟩
        · go_wp2_with (at_builtin; refine wpList_append_own_none rfl _ _ 60 rfl w.heap.size 5 i0 1 Tryd.underlying60 hi _ _ _ rfl hlit rfl ?_)
          go_roundw
          case rel =>
            have hbs : bs = [] := List.eq_nil_of_length_eq_zero hz
            subst hbs
            refine ⟨u / 10, [UInt8.ofNat (48 + u % 10)], by rw [← HQ.out], by omega, by simp, by show _ = _; rw [← HS.out]; exact HD.out, ?_, hnx.alloc hsz _⟩
            rw [byteCells_cons, dig_nat' _ (by omega), HE.out]
            exact hlit
          case measure => have := HQ.out; simp [intOf]; omega
        · have hcs : ∀ j v, (Lib.byteCells bs)[j]? = some v → (wr.alloc (.cells #[Value.int .u8 (48 + (r : Int))] 5)).cell? ((⟨g, 0, none⟩ : Addr).add j) = some v := fun j v hj => (hown.alloc _).cells (g := g) rfl j v hj
          have hone : ∀ v ∈ Lib.byteCells bs, v.oneCell' = true := Lib.byteCells_one bs
          have HC := Lib.hid hcs
          have HO := Lib.hid hone
          clear hcs hone hown
          go_wp2_with (at_builtin; refine wpList_append_own _ rfl _ _ 60 rfl w.heap.size 5 i0 (.int .u8 0) 1 1 Tryd.underlying60 hi hz0 hz1 hz2 rfl (by decide) _ _ _ rfl hlit ⟨g, 0, none⟩ bs.length cap (Lib.byteCells bs) rfl (by rw [Lib.byteCells_length, Nat.mul_one]) HC.out HO.out ?c3 ?c4 ?c5 ?_)
          case c3 => unfold maxLen; omega
          case c4 => omega
          case c5 => simp; omega
          intro v' w1 hown' hgrow _
          have hnx1 : Below w.heap.size w w1 := (hnx.alloc hsz _).grown hgrow (by simp; omega) (fun k hk => by cases hk; exact hsz)
          go_wp2
          go_roundw
          case rel =>
            refine ⟨u / 10, UInt8.ofNat (48 + u % 10) :: bs, by rw [← HQ.out], by omega, by simp; omega, by show _ = _; rw [← HS.out]; exact HD.out, ?_, hnx1⟩
            rw [byteCells_cons, dig_nat' _ (by omega), List.length_cons, Nat.add_comm, HE.out]
            exact hown'
          case measure => have := HQ.out; simp [intOf]; omega
    · obtain rfl : u = 0 := by omega
      have hbs : Hid (bs = Lib.decDigits u0) := by have := HD.out; unfold digs at this; rwa [if_pos rfl] at this
      have hsz := hnx.size
      have hpos : 0 < bs.length := by rw [hbs.out, Lib.decDigits_length]; exact Lib.nDigits_pos u0
      have hlit : (wr.alloc (.cells #[Value.int .u8 45] 5)).ownsRow w.heap.size 5 1 (.slice (some ⟨wr.heap.size, 0, none⟩) 1 1) 1 [Value.int .u8 45] := World.ownsRow_lit wr #[Value.int .u8 45] 1 hsz (by unfold maxLen; omega) rfl
      rcases hown.2 with ⟨rfl, hz⟩ | ⟨g, cap, cur, rfl, hg, -, -, -, -, -⟩
      · omega
      · have hcs : ∀ j v, (Lib.byteCells bs)[j]? = some v → (wr.alloc (.cells #[Value.int .u8 45] 5)).cell? ((⟨g, 0, none⟩ : Addr).add j) = some v := fun j v hj => (hown.alloc _).cells (g := g) rfl j v hj
        have hone : ∀ v ∈ Lib.byteCells bs, v.oneCell' = true := Lib.byteCells_one bs
        have HC := Lib.hid hcs
        have HO := Lib.hid hone
        clear hcs hone hown
        go_wp2_with (at_builtin; refine wpList_append_own _ rfl _ _ 60 rfl w.heap.size 5 i0 (.int .u8 0) 1 1 Tryd.underlying60 hi hz0 hz1 hz2 rfl (by decide) _ _ _ rfl hlit ⟨g, 0, none⟩ bs.length cap (Lib.byteCells bs) rfl (by rw [Lib.byteCells_length, Nat.mul_one]) HC.out HO.out ?c3 ?c4 ?c5 ?_)
        case c3 => unfold maxLen; omega
        case c4 => omega
        case c5 => simp; omega
        intro v' w1 hown' hgrow _
        have hnx1 : Below w.heap.size w w1 := (hnx.alloc hsz _).grown hgrow (by simp; omega) (fun k hk => by cases hk; exact hsz)
        have hown2 : w1.ownsRow w.heap.size 5 1 v' (1 + bs.length) (Lib.byteCells (45 :: bs)) := hown'
        have hcv := conv_own hown2 (by simp; omega)
        clear hown' hown2 hgrow
        go_wp2
        go_ret
        exact ⟨by rw [← hbs.out]; rfl, hnx1⟩

theorem refDigits_any (v : Int) (h0 : -9223372036854775808 ≤ v) (h1 : v ≤ 9223372036854775807) (w : World) :
    Calls Tryd.prog 28 #[.int .i64 v] w fun e w' => e = .returned (.string ⟨(Lib.itoa v).toArray⟩) ∧ Below w.heap.size w w' := by
  rcases Int.lt_trichotomy v 0 with h | h | h
  · obtain ⟨u, rfl⟩ : ∃ u : Nat, v = -(u : Int) := ⟨v.natAbs, by omega⟩
    rw [Lib.itoa_neg u (by omega)]
    exact refDigits_neg u (by omega) (by omega) w
  · subst h
    rw [show Lib.itoa 0 = [48] by unfold Lib.itoa; rw [if_neg (by omega), show (0 : Int).toNat = 0 from rfl, Lib.decDigits_one (by omega)]; rfl]
    exact refDigits_zero w
  · obtain ⟨u, rfl⟩ : ∃ u : Nat, v = (u : Int) := ⟨v.toNat, by omega⟩
    rw [Lib.itoa_nonneg u]
    exact refDigits_pos u (by omega) (by omega) w
end Go.Proofs.YtnkmchlldhdenaaDoor
