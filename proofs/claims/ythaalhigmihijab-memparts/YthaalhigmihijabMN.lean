/- num: what a batch calls of it. -/
import Derived.Test.YthaalhigmihijabRows
import Derived.WalkKit
import Derived.OwnWalk
import Derived.WalkSpells
import Derived.WalkLawsBesides
import Derived.BigCall
import Derived.Laws.IdiomStrings
import Derived.Laws.BitsAllLaws
import Derived.Lib.VarintMem
import Derived.Lib.Zigzag
import Derived.Lib.VarintDec
import Derived.Lib.Slices
import Derived.Outline
import Derived.Lib.BufferRead
import Derived.Lib.Hide
import Derived.Test.YthaalhigmihijabShelf
import Derived.Lib.AppendIntMem
import Derived.Lib.ItoaLen
import Derived.Lib.VarintBits
import Derived.BigQuiet
import Derived.Deep.QuietTactic
import Derived.Deep.RegionWith
import Derived.ProofKit
import Derived.SliceStrings
import Derived.OpenShut
import Derived.Lib.AppendStr
namespace Go.Proofs.Ythaalhigmihijab
open Go.RowKit
open Go.RowKit Go.ChangeShapes Go.WideShapes Go.ChangeAt

theorem infoByteN : (Try.prog.info? 5).map (fun i => (i.zero, i.size, i.bytes)) = some (some (.int .u8 0), 1, 1) := by kernel_rfl
theorem bool_any (v : Bool) (w : World) :
    Calls Try.prog 47 #[.bool v] w fun e w' => e = .returned (.string ⟨#[if v then 1 else 0]⟩) ∧ w = w' := by
  cases v
  · go_enter Try.func47, Try.ntmps47
    go_wp2
    go_ret
    exact ⟨rfl, rfl⟩
  · go_enter Try.func47, Try.ntmps47
    go_wp2
    go_ret
    exact ⟨rfl, rfl⟩
set_option maxHeartbeats 1000000 in
set_option maxRecDepth 100000 in
theorem appendVar_any (B n x : Nat) (hx : x < 18446744073709551616) (sv : Value) (xs : List Value) (w : World) (hown : w.ownsRow B 5 1 sv n xs) (hBw : B ≤ w.heap.size) (hlim : n + 10 ≤ 140737488355328) :
    Calls Try.prog 56 #[sv, .int .u64 x] w fun e w' => ∃ v', e = .returned v' ∧ w'.ownsRow B 5 1 v' (n + (Lib.uvarint x).length) (xs ++ Lib.byteCells (Lib.uvarint x)) ∧ Below B w w' := by
  obtain ⟨i0, hi, hz0, hz1, hz2⟩ := info_parts infoByteN
  have hlen := Lib.uvarint_length64 hx
  go_enter Try.func56, Try.ntmps56
  go_wp2
  go_loopw [0, 1] (fun vb vx wr => ∃ (y : Nat) (pre : List UInt8), vx = .int .u64 y ∧ y ≤ x ∧ Lib.uvarint x = pre ++ Lib.uvarint y ∧ wr.ownsRow B 5 1 vb (n + pre.length) (xs ++ Lib.byteCells pre) ∧ Below B w wr)
    (fun _ vx _ => (intOf vx).toNat)
  case atStart => exact ⟨x, [], rfl, Nat.le_refl _, rfl, by simpa [Lib.byteCells] using hown, Below.refl _ _⟩
  case round =>
    obtain ⟨y, pre, rfl, hy, hsplit, hown1, hnx⟩ := hrel
    have hpl : pre.length + (Lib.uvarint y).length ≤ 10 := by
      have h2 := congrArg List.length hsplit
      rw [List.length_append] at h2
      omega
    have hyp := Lib.uvarint_pos y
    by_cases h128 : 128 ≤ y
    · have hor : bits .or .u8 ((y : Int) % 256) 128 = ((y % 128 + 128 : Nat) : Int) := by
        rw [Lib.u8_or128_any _ (by omega) (by omega)]
        omega
      go_wp2_with (at_builtin; refine wpList_append_own _ rfl _ _ 71 rfl B 5 i0 (.int .u8 0) 1 1 Try.underlying71 hi hz0 hz1 hz2 rfl (by decide) _ _ _ rfl (hown1.alloc _) ⟨wr.heap.size, 0, none⟩ 1 1 [Value.int .u8 ((y % 128 + 128 : Nat) : Int)] rfl rfl ?c1 ?c2 ?c3 ?c4 ?c5 ?_)
      case c1 =>
        intro j u hj
        match j, hj with
        | 0, hj => simp at hj; subst hj; simp [Addr.add]
      case c2 => intro u hu; simp at hu; subst hu; rfl
      case c3 => unfold maxLen; omega
      case c4 => omega
      case c5 => have := hnx.size; simp; omega
      intro v' w1 hown' hgrow _
      have hnx1 : Below B w w1 := (hnx.alloc (by have := hnx.size; omega) _).grown hgrow (by have := hnx.size; simp; omega) (fun k hk => (hown1.lt k hk).1)
      go_wp2
      go_roundw
      case rel =>
        refine ⟨y / 128, pre ++ [(y % 128 + 128).toUInt8], by go_num, by omega, by rw [hsplit, Lib.uvarint_big h128]; simp, ?_, hnx1⟩
        have ec : ((y % 128 + 128 : Nat) : Int) = (y : Int) % 128 + 128 := by omega
        rw [Lib.byteCells_snoc pre (by omega), List.length_append, List.length_singleton, ← Nat.add_assoc, ec]
        simpa using hown'
      case measure => simp [intOf]; omega
    · have hsm : Lib.uvarint y = [y.toUInt8] := Lib.uvarint_small (by omega)
      go_wp2_with (at_builtin; refine wpList_append_own _ rfl _ _ 71 rfl B 5 i0 (.int .u8 0) 1 1 Try.underlying71 hi hz0 hz1 hz2 rfl (by decide) _ _ _ rfl (hown1.alloc _) ⟨wr.heap.size, 0, none⟩ 1 1 [Value.int .u8 (y : Int)] rfl rfl ?c1 ?c2 ?c3 ?c4 ?c5 ?_)
      case c1 =>
        intro j u hj
        match j, hj with
        | 0, hj => simp at hj; subst hj; simp [Addr.add]
      case c2 => intro u hu; simp at hu; subst hu; rfl
      case c3 => unfold maxLen; omega
      case c4 => omega
      case c5 => have := hnx.size; simp; omega
      intro v' w1 hown' hgrow _
      have hnx1 : Below B w w1 := (hnx.alloc (by have := hnx.size; omega) _).grown hgrow (by have := hnx.size; simp; omega) (fun k hk => (hown1.lt k hk).1)
      go_wp2
      go_ret
      refine ⟨v', rfl, ?_, hnx1⟩
      have el : n + (Lib.uvarint x).length = n + pre.length + 1 := by rw [hsplit, hsm]; simp; omega
      have ex : xs ++ Lib.byteCells (Lib.uvarint x) = xs ++ (Lib.byteCells pre ++ [Value.int .u8 (y : Int)]) := by
        rw [hsplit, hsm, Lib.byteCells_snoc pre (by omega)]
      rw [el, ex]
      exact hown'
/-- The bytes of numbers, one behind the other. -/
def vars (zs : List Nat) : List UInt8 := (zs.map Lib.uvarint).flatten
theorem vars_snoc (zs : List Nat) (z : Nat) : vars (zs ++ [z]) = vars zs ++ Lib.uvarint z := by simp [vars]
theorem vars_length : ∀ (zs : List Nat), (∀ z ∈ zs, z < 18446744073709551616) → (vars zs).length ≤ 10 * zs.length
  | [], _ => by simp [vars]
  | z :: r, h => by
    have h1 := Lib.uvarint_length64 (h z (by simp))
    have h2 := vars_length r (fun x hx => h x (by simp [hx]))
    simp only [vars, List.map_cons, List.flatten_cons, List.length_append, List.length_cons] at *
    omega
theorem conv_ownN {w : World} {B : Nat} {v : Value} {l : List UInt8} {n : Nat} (h : w.ownsRow B 5 1 v n (Lib.byteCells l)) (hn : n = l.length) :
    (convert 71 9 v).run Try.prog w = .ok (.string ⟨l.toArray⟩) w := by
  subst hn
  rcases h.2 with ⟨rfl, h0⟩ | ⟨g, cap, cur, rfl, -, -, -, -, -, -⟩
  · have hl : l = [] := List.eq_nil_of_length_eq_zero h0
    subst hl
    rw [Lib.run_convert_nil_bytes w 71 9 5 0 Try.underlying71 Try.underlying5 Try.underlying9]
  · exact run_convert_bytes_back (P := Try.prog) w 71 9 5 ⟨g, 0, none⟩ cap l Try.underlying71 Try.underlying5 Try.underlying9 (fun j hj => h.cells (g := g) rfl j _ (by simp [Lib.byteCells, hj]))
theorem take_snoc_nat (zs : List Nat) (k : Nat) (h : k < zs.length) : zs.take (k + 1) = zs.take k ++ [zs[k]] := by
  rw [List.take_succ_eq_append_getElem h]
set_option maxHeartbeats 1000000 in
set_option maxRecDepth 100000 in
theorem var_any (b off cap : Nat) (zs : List Nat) (w : World) (hr : ∀ z ∈ zs, z < 18446744073709551616) (hlim : 10 * zs.length + 10 ≤ 140737488355328)
    (hc : ∀ i (h : i < zs.length), w.cell? ⟨b, off + i, none⟩ = some (.int .u64 (zs[i] : Int))) (hb : b < w.heap.size) :
    Calls Try.prog 46 #[.slice (some ⟨b, off, none⟩) zs.length cap] w fun e w' => e = .returned (.string ⟨(vars zs).toArray⟩) ∧ Below w.heap.size w w' := by
  go_enter Try.func46, Try.ntmps46
  go_wp2
  go_loopw [3, 8] (fun vb i wr => ∃ k : Nat, k ≤ zs.length ∧ i = .int .i64 k ∧ wr.ownsRow w.heap.size 5 1 vb (vars (zs.take k)).length (Lib.byteCells (vars (zs.take k))) ∧ Below w.heap.size w wr)
    (fun _ i _ => zs.length - (intOf i).toNat)
  case atStart => exact ⟨0, Nat.zero_le _, rfl, by simpa [vars, Lib.byteCells] using World.ownsRow_nil w _ _ _, Below.refl _ _⟩
  case round =>
    obtain ⟨k, hk, rfl, hown, hnx⟩ := hrel
    by_cases hlt : k < zs.length
    · have hcx : wr.cell? ⟨b, off + k, none⟩ = some (.int .u64 (zs[k] : Int)) := (hnx.cell (by exact hb)).trans (hc k hlt)
      have hl1 := vars_length (zs.take k) (fun z hz => hr z (List.mem_of_mem_take hz))
      have hl2 : (zs.take k).length ≤ k := List.length_take_le _ _
      have hz := hr zs[k] (List.getElem_mem hlt)
      have HT := Lib.hid (take_snoc_nat zs k hlt)
      go_wp2_with (go_at_call 56; refine (appendVar_any w.heap.size _ zs[k] hz _ _ wr hown hnx.size (by omega)).mono ?_; rintro e w1 ⟨v', rfl, hown', hnx'⟩)
      go_roundw
      case rel =>
        refine ⟨k + 1, by omega, by go_num, ?_, hnx.trans hnx'⟩
        rw [HT.out, vars_snoc, List.length_append, Lib.byteCells_append]
        exact hown'
      case measure => simp [intOf]; omega
    · have hke : k = zs.length := by omega
      have hcv := conv_ownN hown rfl
      go_wp2
      go_ret
      refine ⟨?_, hnx⟩
      subst hke
      simp
/-- A reader in memory: its bytes, its error; not frozen. -/
structure IsRd (w : World) (b : Nat) (s : ByteArray) (e : Int) : Prop where
  c0 : w.cell? ⟨b, 0, none⟩ = some (.string s)
  c1 : w.cell? ⟨b, 1, none⟩ = some (.int .i64 e)
  f0 : w.frozen? ⟨b, 0, none⟩ = false
  f1 : w.frozen? ⟨b, 1, none⟩ = false
theorem IsRd.lt {w : World} {b : Nat} {s : ByteArray} {e : Int} (h : IsRd w b s e) : b < w.heap.size := by
  have := h.c0
  rcases Nat.lt_or_ge b w.heap.size with h1 | h1
  · exact h1
  · simp [World.cell?, Array.getElem?_eq_none h1] at this
theorem ne_empty (s : ByteArray) (h : 0 < s.size) : s.toList.isEmpty = false := by
  rw [Lib.toList_data]
  cases hl : s.data.toList with
  | nil =>
    have h2 : s.data.toList.length = s.size := by rw [Array.length_toList]; rfl
    rw [hl, List.length_nil] at h2
    omega
  | cons a r => rfl
/-- How many bytes ntexts have together. -/
def ntotal (ss : List ByteArray) : Nat := (ss.map ByteArray.size).sum
/-- The bytes of ntexts, each behind its length. -/
def ntexts (ss : List ByteArray) : List UInt8 := (ss.map fun s => Lib.uvarint s.size ++ s.data.toList).flatten
theorem ntexts_snoc (ss : List ByteArray) (s : ByteArray) : ntexts (ss ++ [s]) = ntexts ss ++ (Lib.uvarint s.size ++ s.data.toList) := by simp [ntexts]
theorem ntexts_length : ∀ (ss : List ByteArray), (∀ s ∈ ss, s.size ≤ maxLen) → (ntexts ss).length ≤ 10 * ss.length + ntotal ss
  | [], _ => by simp [ntexts, ntotal]
  | s :: r, h => by
    have hs := h s (by simp)
    unfold maxLen at hs
    have h1 := Lib.uvarint_length64 (x := s.size) (by omega)
    have h2 := ntexts_length r (fun x hx => h x (by simp [hx]))
    have h3 : s.data.toList.length = s.size := by rw [Array.length_toList]; rfl
    simp only [ntexts, ntotal, List.map_cons, List.flatten_cons, List.length_append, List.length_cons, List.sum_cons] at *
    omega
theorem ntotal_take (ss : List ByteArray) (k : Nat) (h : k < ss.length) : ntotal (ss.take k) + ss[k].size ≤ ntotal ss := by
  have h1 : ss = ss.take k ++ (ss[k] :: ss.drop (k + 1)) := by
    rw [← List.drop_eq_getElem_cons h, List.take_append_drop]
  have h2 := congrArg ntotal h1
  unfold ntotal at h2 ⊢
  rw [List.map_append, List.sum_append, List.map_cons, List.sum_cons] at h2
  omega
theorem len_data' (s : ByteArray) : s.data.toList.length = s.size := by rw [Array.length_toList]; rfl
set_option maxHeartbeats 2000000 in
set_option maxRecDepth 100000 in
theorem text_any (b off cap : Nat) (ss : List ByteArray) (w : World) (hss : ∀ s ∈ ss, s.size ≤ maxLen) (hlim : 10 * ss.length + ntotal ss + 10 ≤ 140737488355328)
    (hc : ∀ i (h : i < ss.length), w.cell? ⟨b, off + i, none⟩ = some (.string ss[i])) (hb : b < w.heap.size) :
    Calls Try.prog 48 #[.slice (some ⟨b, off, none⟩) ss.length cap] w fun e w' => e = .returned (.string ⟨(ntexts ss).toArray⟩) ∧ Below w.heap.size w w' := by
  obtain ⟨i0, hi, hz0, hz1, hz2⟩ := info_parts infoByteN
  go_enter Try.func48, Try.ntmps48
  go_wp2
  go_loopw [3, 8] (fun vb i wr => ∃ k : Nat, k ≤ ss.length ∧ i = .int .i64 k ∧ wr.ownsRow w.heap.size 5 1 vb (ntexts (ss.take k)).length (Lib.byteCells (ntexts (ss.take k))) ∧ Below w.heap.size w wr)
    (fun _ i _ => ss.length - (intOf i).toNat)
  case atStart => exact ⟨0, Nat.zero_le _, rfl, by simpa [ntexts, Lib.byteCells] using World.ownsRow_nil w _ _ _, Below.refl _ _⟩
  case round =>
    obtain ⟨k, hk, rfl, hown, hnx⟩ := hrel
    by_cases hlt : k < ss.length
    · have hcx : wr.cell? ⟨b, off + k, none⟩ = some (.string ss[k]) := (hnx.cell (by exact hb)).trans (hc k hlt)
      have hl1 := ntexts_length (ss.take k) (fun z hz => hss z (List.mem_of_mem_take hz))
      have hl2 : (ss.take k).length ≤ k := List.length_take_le _ _
      have hl3 := ntotal_take ss k hlt
      have hsz := hss ss[k] (List.getElem_mem hlt)
      unfold maxLen at hsz
      have hu := Lib.uvarint_length64 (x := ss[k].size) (by omega)
      have HT : Hid (ss.take (k + 1) = ss.take k ++ [ss[k]]) := List.take_succ_eq_append_getElem hlt
      have hb2 : (ntexts (ss.take k)).length + (Lib.uvarint ss[k].size).length + ss[k].size ≤ 140737488355328 := by omega
      have hb1 : (ntexts (ss.take k)).length + 10 ≤ 140737488355328 := by omega
      have hsz2 : ss[k].size < 18446744073709551616 := by omega
      have hsz3 : (ss[k].size : Int) ≤ 9223372036854775807 := by omega
      have HS : Hid (ss[k].size < 18446744073709551616) := hsz2
      clear hl1 hl2 hl3 hsz hsz2 hu
      go_wp2_with (first | (go_at_call 56; refine (appendVar_any w.heap.size _ ss[k].size HS.out _ _ wr hown hnx.size hb1).mono ?_; rintro e w1 ⟨v', rfl, hown', hnx'⟩) | (at_builtin; refine Lib.wpList_append_own_string _ rfl _ _ 71 9 rfl w.heap.size 5 i0 Try.underlying71 Try.underlying9 hi hz0 hz1 hz2 _ _ _ rfl hown' _ rfl ?c1 ?c2 ?c3 ?_))
      case c1 => unfold maxLen; omega
      case c2 => omega
      case c3 => exact (hnx.trans hnx').size
      intro v'' w2 hown2 hgrow2 _
      have hnx2 : Below w.heap.size w w2 := (hnx.trans hnx').grown hgrow2 (hnx.trans hnx').size (fun j hj => (hown'.lt j hj).1)
      clear hown hown' hgrow2
      go_wp2
      go_roundw
      case rel =>
        refine ⟨k + 1, by omega, by go_num, ?_, hnx2⟩
        rw [HT.out, ntexts_snoc, List.length_append, List.length_append, Lib.byteCells_append, Lib.byteCells_append, len_data', ← Nat.add_assoc]
        exact hown2
      case measure => simp [intOf]; omega
    · have hke : k = ss.length := by omega
      have hcv := conv_ownN hown rfl
      go_wp2
      go_ret
      refine ⟨?_, hnx⟩
      subst hke
      simp
end Go.Proofs.Ythaalhigmihijab
