/- Parts of stage 8, joined: MN NC MA MB MC MS MQ MT M7. -/
import Derived.Test.YthaalhigmihijabGreatRows
import Derived.WalkKit
import Derived.OwnWalk
import Derived.WalkSpells
import Derived.WalkLawsBesides
import Derived.BigCall
import Derived.Laws.IdiomStrings
import Derived.Laws.BitsAllLaws
import Derived.Lib.VarintMem
import Derived.Lib.Zigzag
import Derived.Lib.VarintDec
import Derived.Lib.Slices
import Derived.Outline
import Derived.Lib.BufferRead
import Derived.Lib.Hide
import Derived.Test.YthaalhigmihijabGreatShelf
import Derived.Lib.AppendIntMem
import Derived.Lib.ItoaLen
import Derived.Lib.VarintBits
import Derived.BigQuiet
import Derived.Deep.QuietTactic
import Derived.Deep.RegionWith
import Derived.ProofKit
import Derived.SliceStrings
import Derived.OpenShut
import Derived.Lib.AppendStr
import Derived.Test.YthaalhigmihijabGreatFR
import Derived.Lib.BufferMore
import Derived.Test.YthaalhigmihijabGreatRO
import Derived.Deep.RegionHeld3
import Derived.Deep.Slices
import Derived.Deep.SlicePairs
import Derived.ChangeOld
namespace Go.Proofs.YthaalhigmihijabGreat
open Go.RowKit
open Go.RowKit Go.ChangeShapes Go.WideShapes Go.ChangeAt

theorem infoByteN : (Tryz.prog.info? 5).map (fun i => (i.zero, i.size, i.bytes)) = some (some (.int .u8 0), 1, 1) := by kernel_rfl
theorem bool_any (v : Bool) (w : World) :
    Calls Tryz.prog 97 #[.bool v] w fun e w' => e = .returned (.string ⟨#[if v then 1 else 0]⟩) ∧ w = w' := by
  cases v
  · go_enter Tryz.func97, Tryz.ntmps97
    go_wp2
    go_ret
    exact ⟨rfl, rfl⟩
  · go_enter Tryz.func97, Tryz.ntmps97
    go_wp2
    go_ret
    exact ⟨rfl, rfl⟩
set_option maxHeartbeats 1000000 in
set_option maxRecDepth 100000 in
theorem appendVar_any (B n x : Nat) (hx : x < 18446744073709551616) (sv : Value) (xs : List Value) (w : World) (hown : w.ownsRow B 5 1 sv n xs) (hBw : B ≤ w.heap.size) (hlim : n + 10 ≤ 140737488355328) :
    Calls Tryz.prog 135 #[sv, .int .u64 x] w fun e w' => ∃ v', e = .returned v' ∧ w'.ownsRow B 5 1 v' (n + (Lib.uvarint x).length) (xs ++ Lib.byteCells (Lib.uvarint x)) ∧ Below B w w' := by
  obtain ⟨i0, hi, hz0, hz1, hz2⟩ := info_parts infoByteN
  have hlen := Lib.uvarint_length64 hx
  go_enter Tryz.func135, Tryz.ntmps135
  go_wp2
  go_loopw [0, 1] (fun vb vx wr => ∃ (y : Nat) (pre : List UInt8), vx = .int .u64 y ∧ y ≤ x ∧ Lib.uvarint x = pre ++ Lib.uvarint y ∧ wr.ownsRow B 5 1 vb (n + pre.length) (xs ++ Lib.byteCells pre) ∧ Below B w wr)
    (fun _ vx _ => (intOf vx).toNat)
  case atStart => exact ⟨x, [], rfl, Nat.le_refl _, rfl, by simpa [Lib.byteCells] using hown, Below.refl _ _⟩
  case round =>
    obtain ⟨y, pre, rfl, hy, hsplit, hown1, hnx⟩ := hrel
    have hpl : pre.length + (Lib.uvarint y).length ≤ 10 := by
      have h2 := congrArg List.length hsplit
      rw [List.length_append] at h2
      omega
    have hyp := Lib.uvarint_pos y
    by_cases h128 : 128 ≤ y
    · have hor : bits .or .u8 ((y : Int) % 256) 128 = ((y % 128 + 128 : Nat) : Int) := by
        rw [Lib.u8_or128_any _ (by omega) (by omega)]
        omega
      go_wp2_with (at_builtin; refine wpList_append_own _ rfl _ _ 125 rfl B 5 i0 (.int .u8 0) 1 1 Tryz.underlying125 hi hz0 hz1 hz2 rfl (by decide) _ _ _ rfl (hown1.alloc _) ⟨wr.heap.size, 0, none⟩ 1 1 [Value.int .u8 ((y % 128 + 128 : Nat) : Int)] rfl rfl ?c1 ?c2 ?c3 ?c4 ?c5 ?_)
      case c1 =>
        intro j u hj
        match j, hj with
        | 0, hj => simp at hj; subst hj; simp [Addr.add]
      case c2 => intro u hu; simp at hu; subst hu; rfl
      case c3 => unfold maxLen; omega
      case c4 => omega
      case c5 => have := hnx.size; simp; omega
      intro v' w1 hown' hgrow _
      have hnx1 : Below B w w1 := (hnx.alloc (by have := hnx.size; omega) _).grown hgrow (by have := hnx.size; simp; omega) (fun k hk => (hown1.lt k hk).1)
      go_wp2
      go_roundw
      case rel =>
        refine ⟨y / 128, pre ++ [(y % 128 + 128).toUInt8], by go_num, by omega, by rw [hsplit, Lib.uvarint_big h128]; simp, ?_, hnx1⟩
        have ec : ((y % 128 + 128 : Nat) : Int) = (y : Int) % 128 + 128 := by omega
        rw [Lib.byteCells_snoc pre (by omega), List.length_append, List.length_singleton, ← Nat.add_assoc, ec]
        simpa using hown'
      case measure => simp [intOf]; omega
    · have hsm : Lib.uvarint y = [y.toUInt8] := Lib.uvarint_small (by omega)
      go_wp2_with (at_builtin; refine wpList_append_own _ rfl _ _ 125 rfl B 5 i0 (.int .u8 0) 1 1 Tryz.underlying125 hi hz0 hz1 hz2 rfl (by decide) _ _ _ rfl (hown1.alloc _) ⟨wr.heap.size, 0, none⟩ 1 1 [Value.int .u8 (y : Int)] rfl rfl ?c1 ?c2 ?c3 ?c4 ?c5 ?_)
      case c1 =>
        intro j u hj
        match j, hj with
        | 0, hj => simp at hj; subst hj; simp [Addr.add]
      case c2 => intro u hu; simp at hu; subst hu; rfl
      case c3 => unfold maxLen; omega
      case c4 => omega
      case c5 => have := hnx.size; simp; omega
      intro v' w1 hown' hgrow _
      have hnx1 : Below B w w1 := (hnx.alloc (by have := hnx.size; omega) _).grown hgrow (by have := hnx.size; simp; omega) (fun k hk => (hown1.lt k hk).1)
      go_wp2
      go_ret
      refine ⟨v', rfl, ?_, hnx1⟩
      have el : n + (Lib.uvarint x).length = n + pre.length + 1 := by rw [hsplit, hsm]; simp; omega
      have ex : xs ++ Lib.byteCells (Lib.uvarint x) = xs ++ (Lib.byteCells pre ++ [Value.int .u8 (y : Int)]) := by
        rw [hsplit, hsm, Lib.byteCells_snoc pre (by omega)]
      rw [el, ex]
      exact hown'
/-- The bytes of numbers, one behind the other. -/
def vars (zs : List Nat) : List UInt8 := (zs.map Lib.uvarint).flatten
theorem vars_snoc (zs : List Nat) (z : Nat) : vars (zs ++ [z]) = vars zs ++ Lib.uvarint z := by simp [vars]
theorem vars_length : ∀ (zs : List Nat), (∀ z ∈ zs, z < 18446744073709551616) → (vars zs).length ≤ 10 * zs.length
  | [], _ => by simp [vars]
  | z :: r, h => by
    have h1 := Lib.uvarint_length64 (h z (by simp))
    have h2 := vars_length r (fun x hx => h x (by simp [hx]))
    simp only [vars, List.map_cons, List.flatten_cons, List.length_append, List.length_cons] at *
    omega
theorem conv_ownN {w : World} {B : Nat} {v : Value} {l : List UInt8} {n : Nat} (h : w.ownsRow B 5 1 v n (Lib.byteCells l)) (hn : n = l.length) :
    (convert 125 9 v).run Tryz.prog w = .ok (.string ⟨l.toArray⟩) w := by
  subst hn
  rcases h.2 with ⟨rfl, h0⟩ | ⟨g, cap, cur, rfl, -, -, -, -, -, -⟩
  · have hl : l = [] := List.eq_nil_of_length_eq_zero h0
    subst hl
    rw [Lib.run_convert_nil_bytes w 125 9 5 0 Tryz.underlying125 Tryz.underlying5 Tryz.underlying9]
  · exact run_convert_bytes_back (P := Tryz.prog) w 125 9 5 ⟨g, 0, none⟩ cap l Tryz.underlying125 Tryz.underlying5 Tryz.underlying9 (fun j hj => h.cells (g := g) rfl j _ (by simp [Lib.byteCells, hj]))
theorem take_snoc_nat (zs : List Nat) (k : Nat) (h : k < zs.length) : zs.take (k + 1) = zs.take k ++ [zs[k]] := by
  rw [List.take_succ_eq_append_getElem h]
set_option maxHeartbeats 1000000 in
set_option maxRecDepth 100000 in
theorem var_any (b off cap : Nat) (zs : List Nat) (w : World) (hr : ∀ z ∈ zs, z < 18446744073709551616) (hlim : 10 * zs.length + 10 ≤ 140737488355328)
    (hc : ∀ i (h : i < zs.length), w.cell? ⟨b, off + i, none⟩ = some (.int .u64 (zs[i] : Int))) (hb : b < w.heap.size) :
    Calls Tryz.prog 96 #[.slice (some ⟨b, off, none⟩) zs.length cap] w fun e w' => e = .returned (.string ⟨(vars zs).toArray⟩) ∧ Below w.heap.size w w' := by
  go_enter Tryz.func96, Tryz.ntmps96
  go_wp2
  go_loopw [3, 8] (fun vb i wr => ∃ k : Nat, k ≤ zs.length ∧ i = .int .i64 k ∧ wr.ownsRow w.heap.size 5 1 vb (vars (zs.take k)).length (Lib.byteCells (vars (zs.take k))) ∧ Below w.heap.size w wr)
    (fun _ i _ => zs.length - (intOf i).toNat)
  case atStart => exact ⟨0, Nat.zero_le _, rfl, by simpa [vars, Lib.byteCells] using World.ownsRow_nil w _ _ _, Below.refl _ _⟩
  case round =>
    obtain ⟨k, hk, rfl, hown, hnx⟩ := hrel
    by_cases hlt : k < zs.length
    · have hcx : wr.cell? ⟨b, off + k, none⟩ = some (.int .u64 (zs[k] : Int)) := (hnx.cell (by exact hb)).trans (hc k hlt)
      have hl1 := vars_length (zs.take k) (fun z hz => hr z (List.mem_of_mem_take hz))
      have hl2 : (zs.take k).length ≤ k := List.length_take_le _ _
      have hz := hr zs[k] (List.getElem_mem hlt)
      have HT := Lib.hid (take_snoc_nat zs k hlt)
      go_wp2_with (go_at_call 135; refine (appendVar_any w.heap.size _ zs[k] hz _ _ wr hown hnx.size (by omega)).mono ?_; rintro e w1 ⟨v', rfl, hown', hnx'⟩)
      go_roundw
      case rel =>
        refine ⟨k + 1, by omega, by go_num, ?_, hnx.trans hnx'⟩
        rw [HT.out, vars_snoc, List.length_append, Lib.byteCells_append]
        exact hown'
      case measure => simp [intOf]; omega
    · have hke : k = zs.length := by omega
      have hcv := conv_ownN hown rfl
      go_wp2
      go_ret
      refine ⟨?_, hnx⟩
      subst hke
      simp
/-- A reader in memory: its bytes, its error; not frozen. -/
structure IsRd (w : World) (b : Nat) (s : ByteArray) (e : Int) : Prop where
  c0 : w.cell? ⟨b, 0, none⟩ = some (.string s)
  c1 : w.cell? ⟨b, 1, none⟩ = some (.int .i64 e)
  f0 : w.frozen? ⟨b, 0, none⟩ = false
  f1 : w.frozen? ⟨b, 1, none⟩ = false
theorem IsRd.lt {w : World} {b : Nat} {s : ByteArray} {e : Int} (h : IsRd w b s e) : b < w.heap.size := by
  have := h.c0
  rcases Nat.lt_or_ge b w.heap.size with h1 | h1
  · exact h1
  · simp [World.cell?, Array.getElem?_eq_none h1] at this
theorem ne_empty (s : ByteArray) (h : 0 < s.size) : s.toList.isEmpty = false := by
  rw [Lib.toList_data]
  cases hl : s.data.toList with
  | nil =>
    have h2 : s.data.toList.length = s.size := by rw [Array.length_toList]; rfl
    rw [hl, List.length_nil] at h2
    omega
  | cons a r => rfl
/-- How many bytes ntexts have together. -/
def ntotal (ss : List ByteArray) : Nat := (ss.map ByteArray.size).sum
/-- The bytes of ntexts, each behind its length. -/
def ntexts (ss : List ByteArray) : List UInt8 := (ss.map fun s => Lib.uvarint s.size ++ s.data.toList).flatten
theorem ntexts_snoc (ss : List ByteArray) (s : ByteArray) : ntexts (ss ++ [s]) = ntexts ss ++ (Lib.uvarint s.size ++ s.data.toList) := by simp [ntexts]
theorem ntexts_length : ∀ (ss : List ByteArray), (∀ s ∈ ss, s.size ≤ maxLen) → (ntexts ss).length ≤ 10 * ss.length + ntotal ss
  | [], _ => by simp [ntexts, ntotal]
  | s :: r, h => by
    have hs := h s (by simp)
    unfold maxLen at hs
    have h1 := Lib.uvarint_length64 (x := s.size) (by omega)
    have h2 := ntexts_length r (fun x hx => h x (by simp [hx]))
    have h3 : s.data.toList.length = s.size := by rw [Array.length_toList]; rfl
    simp only [ntexts, ntotal, List.map_cons, List.flatten_cons, List.length_append, List.length_cons, List.sum_cons] at *
    omega
theorem ntotal_take (ss : List ByteArray) (k : Nat) (h : k < ss.length) : ntotal (ss.take k) + ss[k].size ≤ ntotal ss := by
  have h1 : ss = ss.take k ++ (ss[k] :: ss.drop (k + 1)) := by
    rw [← List.drop_eq_getElem_cons h, List.take_append_drop]
  have h2 := congrArg ntotal h1
  unfold ntotal at h2 ⊢
  rw [List.map_append, List.sum_append, List.map_cons, List.sum_cons] at h2
  omega
theorem len_data' (s : ByteArray) : s.data.toList.length = s.size := by rw [Array.length_toList]; rfl
set_option maxHeartbeats 2000000 in
set_option maxRecDepth 100000 in
theorem text_any (b off cap : Nat) (ss : List ByteArray) (w : World) (hss : ∀ s ∈ ss, s.size ≤ maxLen) (hlim : 10 * ss.length + ntotal ss + 10 ≤ 140737488355328)
    (hc : ∀ i (h : i < ss.length), w.cell? ⟨b, off + i, none⟩ = some (.string ss[i])) (hb : b < w.heap.size) :
    Calls Tryz.prog 98 #[.slice (some ⟨b, off, none⟩) ss.length cap] w fun e w' => e = .returned (.string ⟨(ntexts ss).toArray⟩) ∧ Below w.heap.size w w' := by
  obtain ⟨i0, hi, hz0, hz1, hz2⟩ := info_parts infoByteN
  go_enter Tryz.func98, Tryz.ntmps98
  go_wp2
  go_loopw [3, 8] (fun vb i wr => ∃ k : Nat, k ≤ ss.length ∧ i = .int .i64 k ∧ wr.ownsRow w.heap.size 5 1 vb (ntexts (ss.take k)).length (Lib.byteCells (ntexts (ss.take k))) ∧ Below w.heap.size w wr)
    (fun _ i _ => ss.length - (intOf i).toNat)
  case atStart => exact ⟨0, Nat.zero_le _, rfl, by simpa [ntexts, Lib.byteCells] using World.ownsRow_nil w _ _ _, Below.refl _ _⟩
  case round =>
    obtain ⟨k, hk, rfl, hown, hnx⟩ := hrel
    by_cases hlt : k < ss.length
    · have hcx : wr.cell? ⟨b, off + k, none⟩ = some (.string ss[k]) := (hnx.cell (by exact hb)).trans (hc k hlt)
      have hl1 := ntexts_length (ss.take k) (fun z hz => hss z (List.mem_of_mem_take hz))
      have hl2 : (ss.take k).length ≤ k := List.length_take_le _ _
      have hl3 := ntotal_take ss k hlt
      have hsz := hss ss[k] (List.getElem_mem hlt)
      unfold maxLen at hsz
      have hu := Lib.uvarint_length64 (x := ss[k].size) (by omega)
      have HT : Hid (ss.take (k + 1) = ss.take k ++ [ss[k]]) := List.take_succ_eq_append_getElem hlt
      have hb2 : (ntexts (ss.take k)).length + (Lib.uvarint ss[k].size).length + ss[k].size ≤ 140737488355328 := by omega
      have hb1 : (ntexts (ss.take k)).length + 10 ≤ 140737488355328 := by omega
      have hsz2 : ss[k].size < 18446744073709551616 := by omega
      have hsz3 : (ss[k].size : Int) ≤ 9223372036854775807 := by omega
      have HS : Hid (ss[k].size < 18446744073709551616) := hsz2
      clear hl1 hl2 hl3 hsz hsz2 hu
      go_wp2_with (first | (go_at_call 135; refine (appendVar_any w.heap.size _ ss[k].size HS.out _ _ wr hown hnx.size hb1).mono ?_; rintro e w1 ⟨v', rfl, hown', hnx'⟩) | (at_builtin; refine Lib.wpList_append_own_string _ rfl _ _ 125 9 rfl w.heap.size 5 i0 Tryz.underlying125 Tryz.underlying9 hi hz0 hz1 hz2 _ _ _ rfl hown' _ rfl ?c1 ?c2 ?c3 ?_))
      case c1 => unfold maxLen; omega
      case c2 => omega
      case c3 => exact (hnx.trans hnx').size
      intro v'' w2 hown2 hgrow2 _
      have hnx2 : Below w.heap.size w w2 := (hnx.trans hnx').grown hgrow2 (hnx.trans hnx').size (fun j hj => (hown'.lt j hj).1)
      clear hown hown' hgrow2
      go_wp2
      go_roundw
      case rel =>
        refine ⟨k + 1, by omega, by go_num, ?_, hnx2⟩
        rw [HT.out, ntexts_snoc, List.length_append, List.length_append, Lib.byteCells_append, Lib.byteCells_append, len_data', ← Nat.add_assoc]
        exact hown2
      case measure => simp [intOf]; omega
    · have hke : k = ss.length := by omega
      have hcv := conv_ownN hown rfl
      go_wp2
      go_ret
      refine ⟨?_, hnx⟩
      subst hke
      simp
end Go.Proofs.YthaalhigmihijabGreat

namespace Go.Proofs.YthaalhigmihijabGreat
open Go.RowKit

theorem ncell {W : World} {C : Array Value} {t : TypeId} {n j : Nat} {v : Value} (hn : n = W.heap.size) (h : C[j]? = some v) : (W.alloc (.cells C t)).cell? ⟨n, j, none⟩ = some v := by
  subst hn
  have hb : (W.alloc (.cells C t)).heap[W.heap.size]? = some (.cells C t) := by simp [World.alloc, -World.alloc_eq]
  simp only [World.cell?, hb]
  exact h
theorem ocell {W : World} {o : Obj} {n j : Nat} {v : Value} (hn : n < W.heap.size) (h : W.cell? ⟨n, j, none⟩ = some v) : (W.alloc o).cell? ⟨n, j, none⟩ = some v :=
  (((Below.refl W.heap.size W).alloc (Nat.le_refl _) o).cell (p := ⟨n, j, none⟩) hn).trans h
end Go.Proofs.YthaalhigmihijabGreat

namespace Go.Proofs.YthaalhigmihijabGreat
open Go.RowKit

structure Wr where
  k : ByteArray
  v : ByteArray
  d : Bool
def Wr.zero : Wr := ⟨⟨#[]⟩, ⟨#[]⟩, false⟩
def Wr.Ok (x : Wr) : Prop := x.k.size ≤ maxLen ∧ x.v.size ≤ maxLen
def Wr.cells (e : Wr) : List Value := [.string e.k, .string e.v, .bool e.d]
/-- A slice of writes: there are none, or they lie in one block. -/
def WrsAt (n₀ : Nat) (w : World) (a : Option Addr) (len : Nat) (es : List Wr) : Prop :=
  es.length = len ∧ (len = 0 ∨ ∃ b off, a = some ⟨b, off, none⟩ ∧ b < n₀ ∧ ∀ i (h : i < es.length), ∀ j u, es[i].cells[j]? = some u → w.cell? ⟨b, off + i * 3 + j, none⟩ = some u)
theorem WrsAt.below {n₀ : Nat} {A B : World} {a : Option Addr} {len : Nat} {es : List Wr} (h : WrsAt n₀ A a len es) (hb : Below n₀ A B) : WrsAt n₀ B a len es := by
  refine ⟨h.1, ?_⟩
  rcases h.2 with h0 | ⟨b, off, e, hlt, hc⟩
  · exact .inl h0
  · exact .inr ⟨b, off, e, hlt, fun i hi j u hu => (hb.cell (p := ⟨b, off + i * 3 + j, none⟩) hlt).trans (hc i hi j u hu)⟩
theorem WrsAt.mono {n₀ n₁ : Nat} {w : World} {a : Option Addr} {len : Nat} {es : List Wr} (h : WrsAt n₀ w a len es) (hn : n₀ ≤ n₁) : WrsAt n₁ w a len es := by
  refine ⟨h.1, ?_⟩
  rcases h.2 with h0 | ⟨b, off, e, hlt, hc⟩
  · exact .inl h0
  · exact .inr ⟨b, off, e, Nat.lt_of_lt_of_le hlt hn, hc⟩
theorem WrsAt.grown {w w' : World} {a : Option Addr} {len : Nat} {es : List Wr} (h : WrsAt w.heap.size w a len es) (hb : Below w.heap.size w w') : WrsAt w'.heap.size w' a len es := (h.below hb).mono hb.size
/-- May a write be in a batch? -/
def wrOk (x : Wr) : Bool := decide (x.k.size ≤ 300) && decide (x.v.size ≤ 60000) && !(x.d && decide (x.v.size ≠ 0))
def wrsOk (ws : List Wr) : Bool := ws.all wrOk && !ws.isEmpty
/-- The bytes of a write, and of a batch. -/
def putW (x : Wr) : List UInt8 := (if x.d then [1] else [0]) ++ ntexts [x.k, x.v]
def putWs (ws : List Wr) : List UInt8 := (ws.map putW).flatten
def putB (first : Nat) (ws : List Wr) : List UInt8 := vars [first, ws.length] ++ putWs ws
def sizeW (x : Wr) : Nat := x.k.size + x.v.size
def sizeWs (ws : List Wr) : Nat := (ws.map sizeW).sum
theorem putWs_snoc (ws : List Wr) (x : Wr) : putWs (ws ++ [x]) = putWs ws ++ putW x := by simp [putWs]
theorem sizeWs_snoc (ws : List Wr) (x : Wr) : sizeWs (ws ++ [x]) = sizeWs ws + sizeW x := by simp [sizeWs]
theorem putW_length (x : Wr) (h : sizeW x ≤ 10000000) : (putW x).length ≤ 21 + sizeW x := by
  have h1 := Lib.uvarint_length64 (x := x.k.size) (by unfold sizeW at h; omega)
  have h2 := Lib.uvarint_length64 (x := x.v.size) (by unfold sizeW at h; omega)
  have e : (putW x).length = 1 + ((Lib.uvarint x.k.size).length + x.k.data.toList.length + ((Lib.uvarint x.v.size).length + x.v.data.toList.length)) := by
    unfold putW ntexts
    cases x.d <;> simp <;> omega
  rw [e, len_data', len_data']
  unfold sizeW
  omega
theorem putWs_length : ∀ (ws : List Wr), sizeWs ws ≤ 10000000 → (putWs ws).length ≤ 21 * ws.length + sizeWs ws
  | [], _ => by simp [putWs]
  | x :: ws, h => by
    have e : sizeWs (x :: ws) = sizeW x + sizeWs ws := by simp [sizeWs]
    have h1 := putW_length x (by omega)
    have h2 := putWs_length ws (by omega)
    have e2 : (putWs (x :: ws)).length = (putW x).length + (putWs ws).length := by simp [putWs]
    rw [e2, e, List.length_cons]
    omega
theorem sizeWs_take (ws : List Wr) (k : Nat) : sizeWs (ws.take k) ≤ sizeWs ws := by
  have : ws = ws.take k ++ ws.drop k := (List.take_append_drop k ws).symm
  have e : sizeWs (ws.take k ++ ws.drop k) = sizeWs (ws.take k) + sizeWs (ws.drop k) := by
    unfold sizeWs
    rw [List.map_append, List.sum_append]
  rw [← this] at e
  omega
theorem take_snoc_w (ws : List Wr) (k : Nat) (h : k < ws.length) : ws.take (k + 1) = ws.take k ++ [ws[k]] := by
  rw [List.take_add_one, List.getElem?_eq_getElem h]; rfl
theorem sizeW_le (ws : List Wr) (k : Nat) (h : k < ws.length) : sizeW ws[k] ≤ sizeWs ws := by
  have h1 := sizeWs_take ws (k + 1)
  rw [take_snoc_w ws k h, sizeWs_snoc] at h1
  omega
theorem wrOk_sizes {x : Wr} (h : wrOk x = true) : x.k.size ≤ 300 ∧ x.v.size ≤ 60000 := by
  unfold wrOk at h
  simp at h
  omega
theorem sizeWs_ok : ∀ ws : List Wr, (∀ x ∈ ws, wrOk x = true) → sizeWs ws ≤ ws.length * 60300
  | [], _ => by simp [sizeWs]
  | x :: ws, h => by
    have h1 := sizeWs_ok ws (fun y hy => h y (List.mem_cons_of_mem _ hy))
    have h2 := wrOk_sizes (h x (by simp))
    have e : sizeWs (x :: ws) = sizeW x + sizeWs ws := by simp [sizeWs]
    rw [e, List.length_cons, Nat.add_mul]
    unfold sizeW
    omega
theorem wrsOk_all {ws : List Wr} (h : wrsOk ws = true) : ∀ x ∈ ws, wrOk x = true := by
  unfold wrsOk at h
  rw [Bool.and_eq_true] at h
  exact List.all_eq_true.1 h.1
theorem wrsOk_pos {ws : List Wr} (h : wrsOk ws = true) : 1 ≤ ws.length := by
  unfold wrsOk at h
  cases ws with
  | nil => simp at h
  | cons x l => simp
end Go.Proofs.YthaalhigmihijabGreat

namespace Go.Proofs.YthaalhigmihijabGreat
open Go.RowKit

theorem empty_yes (s : ByteArray) (h : s.size = 0) : s.toList.isEmpty = true := by
  rw [Lib.toList_data]
  have h2 : s.data.toList.length = s.size := by rw [Array.length_toList]; rfl
  rw [h] at h2
  rw [List.length_eq_zero_iff.mp h2]
  rfl
theorem wrOk_yes {K V : ByteArray} {D : Bool} (hk : K.size ≤ 300) (hv : V.size ≤ 60000) (hd : D = true → V.size = 0) : wrOk ⟨K, V, D⟩ = true := by
  unfold wrOk
  rw [decide_eq_true hk, decide_eq_true hv]
  cases D
  · rfl
  · rw [decide_eq_false (p := V.size ≠ 0) (fun h => h (hd rfl))]; rfl
theorem wrOk_not {K V : ByteArray} {D : Bool} (h : 300 < K.size ∨ 60000 < V.size ∨ (D = true ∧ V.size ≠ 0)) : wrOk ⟨K, V, D⟩ = false := by
  unfold wrOk
  rcases h with h | h | ⟨rfl, h⟩
  · rw [decide_eq_false (p := K.size ≤ 300) (by omega)]; rfl
  · rw [decide_eq_false (p := V.size ≤ 60000) (by omega), Bool.and_false]; rfl
  · rw [decide_eq_true (p := V.size ≠ 0) h, Bool.and_self, Bool.not_true, Bool.and_false]
theorem ret_bool {a b : Bool} (h : a = b) : Ending.returned (.bool a) = .returned (.bool b) := by rw [h]
theorem wrsOk_no {ws : List Wr} {i : Nat} {x : Wr} (h : ws[i]? = some x) (hx : wrOk x = false) : wrsOk ws = false := by
  unfold wrsOk
  rw [Bool.and_eq_false_iff]
  left
  rw [List.all_eq_false]
  exact ⟨x, List.mem_of_getElem? h, by simp [hx]⟩
theorem all_next {ws : List Wr} {i : Nat} {x : Wr} (h : ws[i]? = some x) (hx : wrOk x = true) (ha : (ws.take i).all wrOk = true) : (ws.take (i + 1)).all wrOk = true := by
  rw [List.take_add_one, h]
  simp [hx]
  simpa using ha
set_option maxHeartbeats 4000000 in
set_option maxRecDepth 100000 in
theorem areRight_any (a : Option Addr) (len cap : Nat) (ws : List Wr) (w : World) (hE : WrsAt w.heap.size w a len ws) (hl : len ≤ 1000000) (hok : ∀ x ∈ ws, x.Ok) :
    Calls Tryz.prog 94 #[.slice a len cap] w fun e w' => e = .returned (.bool (wrsOk ws)) ∧ Below w.heap.size w w' := by
  have hel := hE.1
  have HE := Lib.hid hE
  have HOK := Lib.hid hok
  clear hE hok
  go_enter Tryz.func94, Tryz.ntmps94
  go_wp2
  go_loopw [7] (fun iv wr => ∃ i : Nat, iv = .int .i64 (i : Int) ∧ i ≤ len ∧ Hid ((ws.take i).all wrOk = true) ∧ Below w.heap.size w wr) (fun iv _ => len - (intOf iv).toNat)
  case atStart => exact ⟨0, rfl, Nat.zero_le _, Lib.hid (by simp), Below.refl _ _⟩
  case round =>
    obtain ⟨i, rfl, hil0, HAL, hbl⟩ := hrel
    by_cases hlt : i < len
    · obtain ⟨b, off, rfl, hblt, ⟨K, V, D⟩, hget, hcell⟩ : ∃ b off, a = some ⟨b, off, none⟩ ∧ b < w.heap.size ∧ ∃ x : Wr, ws[i]? = some x ∧ ∀ j u, x.cells[j]? = some u → wr.cell? ⟨b, off + i * 3 + j, none⟩ = some u := by
        rcases (HE.out.below hbl).2 with h0 | ⟨b, off, e, h1, h2⟩
        · omega
        · exact ⟨b, off, e, h1, ws[i]'(by omega), List.getElem?_eq_getElem (by omega), h2 i (by omega)⟩
      have hbr : b < wr.heap.size := by have := hbl.size; omega
      have q0 : wr.cell? ⟨b, off + i * 3, none⟩ = some (.string K) := hcell 0 _ rfl
      have q1 : wr.cell? ⟨b, off + i * 3 + 1, none⟩ = some (.string V) := hcell 1 _ rfl
      have q2 : wr.cell? ⟨b, off + i * 3 + 2, none⟩ = some (.bool D) := hcell 2 _ rfl
      have hil : (i : Int) < (len : Int) := by omega
      have hks : K.size ≤ 9223372036854775807 ∧ V.size ≤ 9223372036854775807 := by
        have h1 := HOK.out _ (List.mem_of_getElem? hget)
        unfold Wr.Ok maxLen at h1
        simp only at h1
        omega
      have HBL := Lib.hid (show ∀ (o : Obj), Below w.heap.size w (wr.alloc o) from fun o => hbl.alloc hbl.size o)
      have HNO := Lib.hid (fun h => wrsOk_no hget h)
      have HYS := Lib.hid (fun h => all_next hget h HAL.out)
      clear hcell hget
      by_cases hk : K.size ≤ 300
      · have d1 : decide (300 < (K.size : Int)) = false := by simp; omega
        have d1' : decide (300 < K.size) = false := by simp; omega
        by_cases hv : V.size ≤ 60000
        · have d2 : decide (60000 < (V.size : Int)) = false := by simp; omega
          have d2' : decide (60000 < V.size) = false := by simp; omega
          cases D with
          | false =>
            go_wp2
            go_roundw
            case rel => exact ⟨i + 1, by go_num, by omega, Lib.hid (HYS.out (wrOk_yes hk hv (by first | (intro _; exact hv0) | (intro h; cases h)))), HBL.out _⟩
            case measure => simp [intOf]; omega
          | true =>
            by_cases hv0 : V.size = 0
            · have d3 := empty_yes V hv0
              go_wp2
              go_roundw
              case rel => exact ⟨i + 1, by go_num, by omega, Lib.hid (HYS.out (wrOk_yes hk hv (by first | (intro _; exact hv0) | (intro h; cases h)))), HBL.out _⟩
              case measure => simp [intOf]; omega
            · have d3 := ne_empty V (by omega)
              go_wp2
              go_ret
              exact ⟨ret_bool (HNO.out (wrOk_not (by first | exact .inr (.inr ⟨rfl, hv0⟩) | omega))).symm, HBL.out _⟩
        · have d2 : decide (60000 < (V.size : Int)) = true := by simp; omega
          have d2' : decide (60000 < V.size) = true := by simp; omega
          go_wp2
          go_ret
          exact ⟨ret_bool (HNO.out (wrOk_not (by first | exact .inr (.inr ⟨rfl, hv0⟩) | omega))).symm, HBL.out _⟩
      · have d1 : decide (300 < (K.size : Int)) = true := by simp; omega
        have d1' : decide (300 < K.size) = true := by simp; omega
        go_wp2
        go_ret
        exact ⟨ret_bool (HNO.out (wrOk_not (by first | exact .inr (.inr ⟨rfl, hv0⟩) | omega))).symm, HBL.out _⟩
    · obtain rfl : i = len := by omega
      go_wp2
      go_ret
      have := HAL.out
      rw [List.take_of_length_le (by omega)] at this
      exact ⟨ret_bool (show decide (0 < i) = wrsOk ws by
        unfold wrsOk
        rw [this]
        cases ws with
        | nil => simp at hel; subst hel; rfl
        | cons x ws => simp at hel; simp; omega), hbl⟩
end Go.Proofs.YthaalhigmihijabGreat

namespace Go.Proofs.YthaalhigmihijabGreat
open Go.RowKit

/-- A builder of a call that began at w0, holding bytes; what lies beside it stays. -/
def BldF (w0 : World) (b : Nat) (acc : List UInt8) (w : World) : Prop := Lib.IsBuilderF 127 5 w0.heap.size b (Lib.byteCells acc) w ∧ Below w0.heap.size w0 w
theorem freshF (w : World) : BldF w w.heap.size [] (w.alloc (Obj.cells #[Value.pointer none, Value.slice none 0 0] 127)) :=
  ⟨Lib.IsBuilderF.of (Lib.fresh_isBuilder _ _ _), (Below.refl _ _).alloc (Nat.le_refl _) _⟩
theorem BldF.below {w0 w w' : World} {b : Nat} {acc : List UInt8} (h : BldF w0 b acc w) (hb : Below w.heap.size w w') : BldF w0 b acc w' := by
  have one : ∀ p, Lib.BuilderAtF 127 5 w0.heap.size b p (Lib.byteCells acc) w → Lib.BuilderAtF 127 5 w0.heap.size b p (Lib.byteCells acc) w' := by
    rintro p ⟨hB, v, hv, hown, hne⟩
    have hlt := (Array.getElem?_eq_some_iff.1 hv).1
    refine ⟨hB, v, (hb.block b hlt).trans hv, ⟨hown.1, ?_⟩, hne⟩
    rcases hown.2 with h0 | ⟨g, cap, cur, fz, e1, e2, e3, e4⟩
    · exact .inl h0
    · exact .inr ⟨g, cap, cur, fz, e1, e2, (hb.block g (Array.getElem?_eq_some_iff.1 e3).1).trans e3, e4⟩
  exact ⟨h.1.elim (fun x => .inl (one _ x)) (fun x => .inr (one _ x)), h.2.trans (hb.mono h.2.size)⟩
theorem BldF.new {w0 w : World} {b : Nat} {acc : List UInt8} (h : BldF w0 b acc w) (o : Obj) : BldF w0 b acc (w.alloc o) := h.below ((Below.refl _ _).alloc (Nat.le_refl _) o)
theorem BldF.len {w0 w : World} {b : Nat} {acc : List UInt8} (h : BldF w0 b acc w) : ∃ a cap, w.cell? ⟨b, 1, none⟩ = some (.slice a acc.length cap) := by
  have key : ∀ p, Lib.BuilderAtF 127 5 w0.heap.size b p (Lib.byteCells acc) w → ∃ a cap, w.cell? ⟨b, 1, none⟩ = some (.slice a acc.length cap) := by
    rintro p ⟨-, v, hv, hown, -⟩
    have hl : (Lib.byteCells acc).length = acc.length := by simp [Lib.byteCells]
    have hc : w.cell? ⟨b, 1, none⟩ = some v := by unfold World.cell?; rw [hv]; rfl
    rw [hl] at hown
    rcases hown.2 with ⟨rfl, h0⟩ | ⟨g, cap, cur, fz, rfl, -⟩
    · rw [h0]; exact ⟨_, _, hc⟩
    · exact ⟨_, _, hc⟩
  exact h.1.elim (key _) (key _)
theorem writeF_any (w0 : World) (b : Nat) (acc : List UInt8) (A : ByteArray) (w : World) (h : BldF w0 b acc w) (hl : acc.length + A.size ≤ 140737488355328) :
    Calls Tryz.prog 95 #[.pointer (some ⟨b, 0, none⟩), .string A] w fun e w' => e = .returned (.tuple #[.int .i64 A.size, .nilIface]) ∧ BldF w0 b (acc ++ A.data.toList) w' ∧ Lib.OthersKept 5 (some b) w w' := by
  refine (Tryz.Builder_WriteString_k w0.heap.size b (Lib.byteCells acc) A w h.1 (by simpa [Lib.byteCells] using hl) h.2.size).mono ?_
  rintro e w1 ⟨rfl, hq, hb, hk⟩
  refine ⟨rfl, ⟨.inr ?_, h.2.trans hb⟩, hk⟩
  rw [Lib.byteCells_append]
  exact hq
theorem stringF_any (w0 : World) (b : Nat) (acc : List UInt8) (w : World) (h : BldF w0 b acc w) :
    Calls Tryz.prog 100 #[.pointer (some ⟨b, 0, none⟩)] w fun e w' => e = .returned (.string ⟨acc.toArray⟩) ∧ Below w0.heap.size w0 w' := by
  refine (Tryz.Builder_String_any_k w0.heap.size b acc w h.1 h.2.size).mono ?_
  rintro e w1 ⟨rfl, -, hb, -⟩
  exact ⟨rfl, h.2.trans hb⟩
/-- A box that lies beside a builder. -/
def BoxW (w : World) (n : Nat) (K V : ByteArray) (D : Bool) : Prop := w.heap[n]? = some (.cells #[.string K, .string V, .bool D] 82)
theorem BoxW.kept {w w' : World} {n b : Nat} {K V : ByteArray} {D : Bool} (h : BoxW w n K V D) (hk : Lib.OthersKept 5 (some b) w w') (hn : n ≠ b) : BoxW w' n K V D :=
  hk n _ h (fun e => hn (by cases e; rfl)) (fun c fz e => by cases e)
theorem BoxW.below {w w' : World} {n : Nat} {K V : ByteArray} {D : Bool} (h : BoxW w n K V D) (hb : Below w.heap.size w w') : BoxW w' n K V D := (hb.block n (Array.getElem?_eq_some_iff.1 h).1).trans h
theorem BoxW.k {w : World} {n : Nat} {K V : ByteArray} {D : Bool} (h : BoxW w n K V D) : w.cell? ⟨n, 0, none⟩ = some (.string K) := by unfold World.cell?; rw [show w.heap[n]? = _ from h]; rfl
theorem BoxW.v {w : World} {n : Nat} {K V : ByteArray} {D : Bool} (h : BoxW w n K V D) : w.cell? ⟨n, 1, none⟩ = some (.string V) := by unfold World.cell?; rw [show w.heap[n]? = _ from h]; rfl
theorem BoxW.d {w : World} {n : Nat} {K V : ByteArray} {D : Bool} (h : BoxW w n K V D) : w.cell? ⟨n, 2, none⟩ = some (.bool D) := by unfold World.cell?; rw [show w.heap[n]? = _ from h]; rfl
set_option maxHeartbeats 1000000 in
theorem bldLen_any (w0 : World) (b : Nat) (acc : List UInt8) (w : World) (h : BldF w0 b acc w) :
    Calls Tryz.prog 99 #[.pointer (some ⟨b, 0, none⟩)] w fun e w' => e = .returned (.int .i64 (acc.length : Int)) ∧ w = w' := by
  obtain ⟨a, cap, hc⟩ := h.len
  go_enter Tryz.func99, Tryz.ntmps99
  go_wp2
  go_ret
  exact ⟨rfl, rfl⟩
theorem text2 (x y : ByteArray) (b : Nat) (W : World) (hx : x.size ≤ 1000000) (hy : y.size ≤ 1000000) (h0 : W.cell? ⟨b, 0, none⟩ = some (.string x)) (h1 : W.cell? ⟨b, 1, none⟩ = some (.string y)) :
    Calls Tryz.prog 98 #[.slice (some ⟨b, 0, none⟩) 2 2] W fun e w' => e = .returned (.string ⟨(ntexts [x, y]).toArray⟩) ∧ Below W.heap.size W w' :=
  text_any b 0 2 [x, y] W (fun s hs => by simp at hs; unfold maxLen; rcases hs with rfl | rfl <;> omega) (by simp [ntotal]; omega) (fun i hi => by
    match i, hi with
    | 0, _ => exact h0
    | 1, _ => exact h1) (World.block_lt_of_cell? W _ h0)
theorem var2 (x y : Nat) (b : Nat) (W : World) (hx : x < 18446744073709551616) (hy : y < 18446744073709551616) (h0 : W.cell? ⟨b, 0, none⟩ = some (.int .u64 (x : Int))) (h1 : W.cell? ⟨b, 1, none⟩ = some (.int .u64 (y : Int))) :
    Calls Tryz.prog 96 #[.slice (some ⟨b, 0, none⟩) 2 2] W fun e w' => e = .returned (.string ⟨(vars [x, y]).toArray⟩) ∧ Below W.heap.size W w' :=
  var_any b 0 2 [x, y] W (fun s hs => by simp at hs; rcases hs with rfl | rfl <;> assumption) (by simp) (fun i hi => by
    match i, hi with
    | 0, _ => exact h0
    | 1, _ => exact h1) (World.block_lt_of_cell? W _ h0)
theorem byte1 (d : Bool) : (⟨#[if d then 1 else 0]⟩ : ByteArray).data.toList = if d then [1] else [0] := by cases d <;> rfl
theorem ret_put {a b : ByteArray} {e : Int} (h : a = b) : Ending.returned (.tuple #[.string a, .int .i64 e]) = .returned (.tuple #[.string b, .int .i64 e]) := by rw [h]
/-- What PutBatch answers. -/
def putV (first : Nat) (ws : List Wr) : Value := if wrsOk ws then .tuple #[.string ⟨(putB first ws).toArray⟩, .int .i64 0] else .tuple #[.string ⟨#[]⟩, .int .i64 1]
theorem putV_no (first : Nat) {ws : List Wr} (h : wrsOk ws = false) : putV first ws = .tuple #[.string ⟨#[]⟩, .int .i64 1] := by unfold putV; rw [h]; rfl
theorem putV_yes (first : Nat) {ws : List Wr} (h : wrsOk ws = true) : putV first ws = .tuple #[.string ⟨(putB first ws).toArray⟩, .int .i64 0] := by unfold putV; rw [h]; rfl
set_option maxHeartbeats 4000000 in
set_option maxRecDepth 100000 in
theorem putBatch_any (first : Nat) (a : Option Addr) (len cap : Nat) (ws : List Wr) (w : World) (hE : WrsAt w.heap.size w a len ws) (hl : len ≤ 60) (hok0 : ∀ x ∈ ws, x.Ok) (hf : first < 18446744073709551616) :
    Calls Tryz.prog 27 #[.agg #[.int .u64 (first : Int), .slice a len cap]] w fun e w' => e = .returned (putV first ws) ∧ Below w.heap.size w w' := by
  have hel := hE.1
  obtain ⟨wB, hwB⟩ : ∃ wB, w.alloc (.cells #[.int .u64 (first : Int), .slice a len cap] 87) = wB := ⟨_, rfl⟩
  have bB : Below w.heap.size w wB := by rw [← hwB]; exact (Below.refl _ _).alloc (Nat.le_refl _) _
  have c0 : wB.cell? ⟨w.heap.size, 0, none⟩ = some (.int .u64 (first : Int)) := by rw [← hwB]; exact ncell rfl rfl
  have c1 : wB.cell? ⟨w.heap.size, 1, none⟩ = some (.slice a len cap) := by rw [← hwB]; exact ncell rfl rfl
  have hlt : w.heap.size < wB.heap.size := by rw [← hwB]; simp
  have C1 := Lib.hid (areRight_any a len cap ws wB (hE.grown bB) (by omega) hok0)
  have HE := Lib.hid hE
  have HWB := Lib.hid hwB
  go_enter Tryz.func27, Tryz.ntmps27
  go_wp2_with (fail)
  clear hE hok0 hwB
  go_at_call 94
  refine C1.out.mono ?_
  rintro e W1 ⟨rfl, hb1⟩
  have hB1 : Below w.heap.size w W1 := bB.trans (hb1.mono bB.size)
  have x0 := (hb1.cell (p := ⟨w.heap.size, 0, none⟩) hlt).trans c0
  have x1 := (hb1.cell (p := ⟨w.heap.size, 1, none⟩) hlt).trans c1
  have hlt1 : w.heap.size < W1.heap.size := Nat.lt_of_lt_of_le hlt hb1.size
  clear c0 c1 HWB
  cases hok : wrsOk ws with
  | false =>
    have HOK := Lib.hid hok
    clear hok
    go_wp2
    refine bodyPost_ret (results_tmp2 rfl _ _ _) rfl ?_
    exact ⟨congrArg Ending.returned (putV_no first HOK.out).symm, hB1⟩
  | true =>
    have HOK := Lib.hid hok
    have HSZ := Lib.hid (show sizeWs ws ≤ 3618000 by have := sizeWs_ok ws (wrsOk_all hok); omega)
    have HKS := Lib.hid (wrsOk_all hok)
    clear hok
    have hw : IntKind.u64.wrap (len : Int) = (len : Int) := by rw [IntKind.wrap_u64]; omega
    have hbf := freshF W1
    obtain ⟨W2, hW2⟩ : ∃ W2, W1.alloc (Obj.cells #[Value.pointer none, Value.slice none 0 0] 127) = W2 := ⟨_, rfl⟩
    have HW2 := Lib.hid hW2
    rw [hW2] at hbf
    have y0 := (hbf.2.cell (p := ⟨w.heap.size, 0, none⟩) hlt1).trans x0
    have y1 := (hbf.2.cell (p := ⟨w.heap.size, 1, none⟩) hlt1).trans x1
    have hlt2 : w.heap.size < W2.heap.size := Nat.lt_of_lt_of_le hlt1 hbf.2.size
    have o0 := fun o => ocell (o := o) hlt2 y0
    have o1 := fun o => ocell (o := o) hlt2 y1
    have CV := Lib.hid (var2 first len W2.heap.size (W2.alloc (.cells #[.int .u64 (first : Int), .int .u64 (len : Int)] 30)) hf (by omega) (ncell rfl rfl) (ncell rfl rfl))
    have CW := Lib.hid (fun acc A W h hl => writeF_any W1 W1.heap.size acc A W h hl)
    have CL := Lib.hid (fun acc W h => bldLen_any W1 W1.heap.size acc W h)
    have CS := Lib.hid (fun acc W h => stringF_any W1 W1.heap.size acc W h)
    go_wp2_with (fail)
    go_at_call 96
    refine CV.out.mono ?_
    rintro _ W3 ⟨rfl, hb3⟩
    have bd3 : BldF W1 W1.heap.size [] W3 := (hbf.new _).below hb3
    have HVL := Lib.hid (vars_length [first, len] (fun z hz => by simp at hz; rcases hz with rfl | rfl <;> omega))
    have z1 := (bd3.2.cell (p := ⟨w.heap.size, 1, none⟩) hlt1).trans x1
    clear y0 y1 o0 o1 hb3 HW2 hW2 hbf CV x0
    go_wp2_with (fail)
    go_at_call 95
    refine (CW.out _ _ _ bd3 (by have := HVL.out; simp [ByteArray.size] at this ⊢; omega)).mono ?_
    rintro _ W4 ⟨rfl, bd4, -⟩
    have z1' := (bd4.2.cell (p := ⟨w.heap.size, 1, none⟩) hlt1).trans x1
    clear z1 bd3
    go_wp2_with (fail)
    go_loopw [23] (fun iv wr => ∃ (i : Nat) (acc : List UInt8), iv = .int .i64 (i : Int) ∧ i ≤ len ∧ BldF W1 W1.heap.size acc wr ∧ Hid (acc = vars [first, len] ++ putWs (ws.take i))) (fun iv _ => len - (intOf iv).toNat)
    case atStart => exact ⟨0, _, rfl, Nat.zero_le _, bd4, Lib.hid (by simp [putWs])⟩
    case round =>
      obtain ⟨i, acc, rfl, hil0, hbd, HA⟩ := hrel
      have hacc : acc.length ≤ 4000000 := by
        have h1 := putWs_length (ws.take i) (Nat.le_trans (sizeWs_take ws i) (Nat.le_trans HSZ.out (by omega)))
        have h2 := sizeWs_take ws i
        have h3 := HVL.out
        have h4 := HSZ.out
        have h5 : (ws.take i).length ≤ 60 := by rw [List.length_take]; omega
        rw [HA.out, List.length_append]
        simp at h3
        omega
      have hblw : Below w.heap.size w wr := hB1.trans (hbd.2.mono hB1.size)
      by_cases hlt' : i < len
      · obtain ⟨b, off, rfl, hblt, ⟨K, V, D⟩, hget, hcell⟩ : ∃ b off, a = some ⟨b, off, none⟩ ∧ b < w.heap.size ∧ ∃ x : Wr, ws[i]? = some x ∧ ∀ j u, x.cells[j]? = some u → wr.cell? ⟨b, off + i * 3 + j, none⟩ = some u := by
          rcases (HE.out.below hblw).2 with h0 | ⟨b, off, e, h1, h2⟩
          · omega
          · exact ⟨b, off, e, h1, ws[i]'(by omega), List.getElem?_eq_getElem (by omega), h2 i (by omega)⟩
        have hbr : b < wr.heap.size := by have := hblw.size; omega
        have q0 : wr.cell? ⟨b, off + i * 3, none⟩ = some (.string K) := hcell 0 _ rfl
        have q1 : wr.cell? ⟨b, off + i * 3 + 1, none⟩ = some (.string V) := hcell 1 _ rfl
        have q2 : wr.cell? ⟨b, off + i * 3 + 2, none⟩ = some (.bool D) := hcell 2 _ rfl
        have hil : (i : Int) < (len : Int) := by omega
        have hgi : ws[i]'(by omega) = ⟨K, V, D⟩ := by
          have := hget
          rw [List.getElem?_eq_getElem (by omega)] at this
          exact Option.some.inj this
        have hks : K.size ≤ 1000000 ∧ V.size ≤ 1000000 := by
          have h1 := wrOk_sizes (HKS.out _ (List.mem_of_getElem? hget))
          simp only at h1
          omega
        have CB := Lib.hid (bool_any D)
        obtain ⟨BS, hBS⟩ : ∃ BS : ByteArray, (⟨#[if D then 1 else 0]⟩ : ByteArray) = BS := ⟨_, rfl⟩
        have hBl : BS.size = 1 := by rw [← hBS]; rfl
        rw [hBS] at CB
        obtain ⟨TS, hTS⟩ : ∃ TS : ByteArray, (⟨(ntexts [K, V]).toArray⟩ : ByteArray) = TS := ⟨_, rfl⟩
        have HNX := Lib.hid (show acc ++ BS.data.toList ++ TS.data.toList = vars [first, len] ++ putWs (ws.take (i + 1)) by
          rw [← hBS, ← hTS, byte1, List.toList_toArray, take_snoc_w ws i (by omega), putWs_snoc, hgi, HA.out]
          simp only [putW, List.append_assoc])
        have hTl : TS.size ≤ 3000000 := by
          rw [← hTS, show (⟨(ntexts [K, V]).toArray⟩ : ByteArray).size = (ntexts [K, V]).length by simp [ByteArray.size]]
          have := ntexts_length [K, V] (fun x hx => by simp at hx; unfold maxLen; rcases hx with rfl | rfl <;> omega)
          simp [ntotal] at this
          omega
        have CT := Lib.hid (fun n W h0 h1 => text2 K V n W hks.1 hks.2 h0 h1)
        rw [hTS] at CT
        clear hBS hTS
        have hbn := hbd.new (.cells #[.string K, .string V, .bool D] 82)
        have hne : wr.heap.size ≠ W1.heap.size := by
          obtain ⟨_, _, hcx⟩ := hbd.len
          have h1 := World.block_lt_of_cell? wr _ hcx
          simp only at h1
          omega
        obtain ⟨W5, hW5⟩ : ∃ W5, wr.alloc (.cells #[.string K, .string V, .bool D] 82) = W5 := ⟨_, rfl⟩
        rw [hW5] at hbn
        have hbx : BoxW W5 wr.heap.size K V D := by rw [← hW5]; exact heap_alloc_new wr _
        have hbxd := hbx.d
        clear hcell hget hgi
        go_wp2_with (fail)
        go_at_call 97
        refine (CB.out _).mono ?_
        rintro _ _ ⟨rfl, rfl⟩
        go_wp2_with (fail)
        go_at_call 95
        refine (CW.out _ _ _ hbn (by omega)).mono ?_
        rintro _ W6 ⟨rfl, bd6, hk6⟩
        have hb6 := hbx.kept hk6 hne
        have hb6k := hb6.k
        have hb6v := hb6.v
        clear hk6 hbx hbxd hbn hW5 q0 q1 q2
        go_wp2_with (fail)
        go_at_call 98
        refine (CT.out _ _ (ncell rfl rfl) (ncell rfl rfl)).mono ?_
        rintro _ W7 ⟨rfl, hb7⟩
        have bd7 := (bd6.new _).below hb7
        clear hb6 hb6k hb6v bd6 hb7
        go_wp2_with (fail)
        go_at_call 95
        refine (CW.out _ _ _ bd7 (by rw [List.length_append]; have h1 : BS.data.toList.length = BS.size := len_data' BS; omega)).mono ?_
        rintro _ W8 ⟨rfl, bd8, -⟩
        go_wp2_with (fail)
        go_at_call 99
        refine (CL.out _ _ bd8).mono ?_
        rintro _ _ ⟨rfl, rfl⟩
        have hfin : (acc ++ BS.data.toList ++ TS.data.toList).length ≤ 16777216 := by
          have h1 := len_data' BS
          have h2 := len_data' TS
          rw [List.length_append, List.length_append]
          omega
        have df : decide (16777216 < (((acc ++ BS.data.toList ++ TS.data.toList).length : Nat) : Int)) = false := by rw [decide_eq_false_iff_not]; omega
        have HRL := Lib.hid (show acc ++ BS.data.toList ++ TS.data.toList = vars [first, len] ++ putWs (ws.take (i + 1)) from HNX.out)
        generalize acc ++ BS.data.toList ++ TS.data.toList = acc2 at *
        have dg : decide (16777216 < acc2.length) = false := by rw [decide_eq_false_iff_not]; omega
        clear bd7
        go_wp2
        go_roundw
        case rel => exact ⟨i + 1, acc2, by go_num, by omega, bd8, HRL⟩
        case measure => simp [intOf]; omega
      · obtain rfl : i = len := by omega
        clear hblw
        go_wp2_with (fail)
        go_at_call 100
        refine (CS.out _ _ hbd).mono ?_
        rintro _ W5 ⟨rfl, hb5⟩
        go_wp2
        refine bodyPost_ret (results_tmp2 rfl _ _ _) rfl ?_
        refine ⟨(congrArg Ending.returned (putV_yes first HOK.out)).symm ▸ ret_put ?_, hB1.trans (hb5.mono hB1.size)⟩
        have := HA.out
        rw [List.take_of_length_le (by omega)] at this
        rw [this, putB, hel]
end Go.Proofs.YthaalhigmihijabGreat

namespace Go.Proofs.YthaalhigmihijabGreat
open Go.RowKit Go.Lib

theorem infoI8 : (Tryz.prog.info? 3).map (fun i => (i.zero, i.size, i.bytes)) = some (some (.int .i64 0), 1, 8) := by kernel_rfl
/-- Ints as cells. -/
def cellsI (ks : List Int) : List Value := ks.map fun k => .int .i64 k
theorem cellsI_one (ks : List Int) : ∀ u ∈ cellsI ks, u.oneCell' = true := by
  intro u hu
  obtain ⟨k, -, rfl⟩ := List.mem_map.1 hu
  rfl
theorem cellsI_length (ks : List Int) : (cellsI ks).length = ks.length := by simp [cellsI]
set_option maxHeartbeats 2000000 in
set_option maxRecDepth 100000 in
theorem scloneI_some (y : Addr) (cap : Nat) (ks : List Int) (w : World) (hc : ∀ j u, (cellsI ks)[j]? = some u → w.cell? (y.add j) = some u) (hn : ks.length ≤ 1000000000) :
    Calls Tryz.prog 24 #[.slice (some y) ks.length cap] w fun e w' => ∃ v', e = .returned v' ∧ Row w' 3 1 v' ks.length (cellsI ks) ∧ Below w.heap.size w w' ∧ ∀ k, ob v' = some k → w.heap.size ≤ k := by
  have hwa : Below w.heap.size w (w.alloc (.cells #[] 3)) := (Below.refl _ _).alloc (Nat.le_refl _) _
  have HR := Lib.hid (show Row (w.alloc (.cells #[] 3)) 3 1 (.slice (some ⟨w.heap.size, 0, none⟩) 0 0) 0 [] from ⟨rfl, .inl ⟨rfl, .inr ⟨_, _, rfl⟩⟩⟩)
  have HS := Lib.hid (Src.ofSlice (P := Tryz.prog) (w.alloc (.cells #[] 3)) (size := 1) Tryz.underlying22 y ks.length cap (cellsI ks) (by rw [cellsI_length, Nat.mul_one]) (fun j u hu => (hwa.cell (p := y.add j) (World.block_lt_of_cell? w _ (hc j u hu))).trans (hc j u hu)) (cellsI_one ks))
  have HB1 := Lib.hid (show 0 + ks.length ≤ maxLen by unfold maxLen; omega)
  have HB2 := Lib.hid (show (0 + ks.length) * 8 ≤ 140737488355328 by omega)
  have HW := Lib.hid hwa
  have heq := fun w => run_eql_slice_some_nil (P := Tryz.prog) w (t := 22) y ks.length cap Tryz.underlying22
  obtain ⟨i0, hi, hz0, hzs, hzb⟩ := info_parts infoI8
  clear hwa hc
  go_enter Tryz.func24, Tryz.ntmps24
  go_wp2_with (refine wpList_append_row _ rfl (.tmp 5) (.tmp 6) 22 22 rfl 3 i0 _ 1 8 Tryz.underlying22 hi hz0 hzs hzb rfl (.slice (some ⟨w.heap.size, 0, none⟩) 0 0) _ _ (by simp [Act.eval]) HR.out (.slice (some y) ks.length cap) (by simp [Act.eval]) ks.length _ HS.out HB1.out HB2.out ?_; intro v' w5 hrow5 hgrow5 hob5)
  go_ret
  refine ⟨v', rfl, by simpa using hrow5, ?_, ?_⟩
  · refine HW.out.trans ?_
    rcases hob5 with hq | ⟨hq, hg⟩
    · exact ⟨hgrow5.os, hgrow5.tape, hgrow5.output, hgrow5.size, fun k hk => hgrow5.block k (Nat.lt_of_lt_of_le hk HW.out.size) (by simp [ob])⟩
    · exact ⟨hg.os, hg.tape, hg.output, hg.size, fun k hk => hg.block k (Nat.lt_of_lt_of_le hk HW.out.size) (by simp)⟩
  · intro k hk
    rcases hob5 with hq | ⟨hq, -⟩
    · rw [hq] at hk
      simp [ob] at hk
    · rw [hq] at hk
      cases hk
      exact HW.out.size
set_option maxRecDepth 100000 in
theorem scloneI_none (w : World) : Calls Tryz.prog 24 #[.slice none 0 0] w fun e w' => e = .returned (.slice none 0 0) ∧ w = w' := by
  have heq := fun w => run_eql_slice_nil_nil (P := Tryz.prog) w (t := 22) 0 0 Tryz.underlying22
  go_enter Tryz.func24, Tryz.ntmps24
  go_wp2
  go_ret
  exact ⟨rfl, rfl⟩
/-- A slice of ints that can be read: none at all, or one that lies somewhere. -/
def IntsV (w : World) (v : Value) (ks : List Int) : Prop := (v = .slice none 0 0 ∧ ks = []) ∨ ∃ y cap, v = .slice (some y) ks.length cap ∧ ∀ j u, (cellsI ks)[j]? = some u → w.cell? (y.add j) = some u
theorem intsV_plain {w : World} (b o cap : Nat) (ks : List Int) (hc : ∀ j u, (cellsI ks)[j]? = some u → w.cell? ⟨b, o + j, none⟩ = some u) : IntsV w (.slice (some ⟨b, o, none⟩) ks.length cap) ks :=
  .inr ⟨⟨b, o, none⟩, cap, rfl, fun j u hu => by
    have hadd : (⟨b, o, none⟩ : Addr).add j = ⟨b, o + j, none⟩ := by unfold Addr.add; split <;> simp_all
    rw [hadd]
    exact hc j u hu⟩
theorem IntsV.below {w w' : World} {v : Value} {ks : List Int} (h : IntsV w v ks) (hb : Below w.heap.size w w') : IntsV w' v ks := by
  rcases h with h | ⟨y, cap, rfl, hc⟩
  · exact .inl h
  · exact .inr ⟨y, cap, rfl, fun j u hu => (hb.cell (p := y.add j) (World.block_lt_of_cell? w _ (hc j u hu))).trans (hc j u hu)⟩
theorem scloneI_any (v : Value) (ks : List Int) (w : World) (h : IntsV w v ks) (hn : ks.length ≤ 1000000000) :
    Calls Tryz.prog 24 #[v] w fun e w' => ∃ v', e = .returned v' ∧ Row w' 3 1 v' ks.length (cellsI ks) ∧ Below w.heap.size w w' ∧ ∀ k, ob v' = some k → w.heap.size ≤ k := by
  rcases h with ⟨rfl, rfl⟩ | ⟨y, cap, rfl, hc⟩
  · refine (scloneI_none w).mono ?_
    rintro e w' ⟨rfl, rfl⟩
    exact ⟨_, rfl, row_nil _ _ _, Below.refl _ _, fun k hk => by simp [ob] at hk⟩
  · exact scloneI_some y cap ks w hc hn
end Go.Proofs.YthaalhigmihijabGreat

namespace Go.Proofs.YthaalhigmihijabGreat
open Go.RowKit

def lensW (x : Wr) : List Int := [(x.k.size : Int), (x.v.size : Int)]
theorem lensW_sum {x : Wr} {r : Int} (h : 0 ≤ roomL r (lensW x)) : roomL r (lensW x) = r - (sizeW x : Int) := by
  unfold lensW at h ⊢
  unfold sizeW
  simp only [roomL] at h ⊢
  split at h
  · omega
  · rename_i h1
    rw [if_neg h1]
    split at h
    · omega
    · rename_i h2
      rw [if_neg h2]
      omega
/-- What SmallWrites lets by. -/
def Few (ws : List Wr) : Prop := ws.length ≤ 60 ∧ sizeWs ws ≤ 9000
set_option maxHeartbeats 4000000 in
set_option maxRecDepth 100000 in
theorem smallW_any {w : World} (a : Option Addr) (len cap : Nat) (es : List Wr) (hE : WrsAt w.heap.size w a len es) (hlm : len ≤ 9223372036854775807) (hok : ∀ x ∈ es, x.Ok) :
    Calls Tryz.prog 8 #[.slice a len cap] w fun e w' => ∃ t : Bool, e = .returned (.bool t) ∧ (t = true → Few es) ∧ Below w.heap.size w w' := by
  have hll : es.length = len := hE.1
  have HO := Lib.hid hE
  have HOK := Lib.hid hok
  clear hE hok
  go_enter Tryz.func8, Tryz.ntmps8
  go_wp2
  go_loopw [3, 4] (fun rv iv wr => ∃ (i : Nat) (q : Int), i ≤ len ∧ i ≤ 200 ∧ rv = .int .i64 q ∧ iv = .int .i64 (i : Int) ∧ -1 ≤ q ∧ q ≤ 9000 ∧ (0 ≤ q → q + (sizeWs (es.take i) : Int) ≤ 9000) ∧ Below w.heap.size w wr) (fun _ iv _ => len - (intOf iv).toNat)
  case atStart => exact ⟨0, 9000, Nat.zero_le _, Nat.zero_le _, rfl, rfl, by omega, by omega, fun _ => by simp [sizeWs], Below.refl _ _⟩
  case round =>
    obtain ⟨i, q, hi, hi4, rfl, rfl, hq1, hq2, hsm, hbl⟩ := hrel
    have HSM := Lib.hid hsm
    clear hsm
    by_cases hgo : i < len ∧ i < 200 ∧ 0 ≤ q
    · obtain ⟨g1, g2, g3⟩ := hgo
      obtain ⟨b, off, rfl, hblt, st, hst, hcell⟩ : ∃ b off, a = some ⟨b, off, none⟩ ∧ b < w.heap.size ∧ ∃ x : Wr, es[i]? = some x ∧ ∀ j u, x.cells[j]? = some u → wr.cell? ⟨b, off + i * 3 + j, none⟩ = some u := by
        rcases (HO.out.below hbl).2 with h0 | ⟨b, off, e, h1, h2⟩
        · omega
        · exact ⟨b, off, e, h1, es[i]'(by omega), List.getElem?_eq_getElem (by omega), h2 i (by omega)⟩
      obtain ⟨hk, hv⟩ := HOK.out st (List.mem_of_getElem? hst)
      have hbr : b < wr.heap.size := by have := hbl.size; omega
      have q0 : wr.cell? ⟨b, off + i * 3, none⟩ = some (.string st.k) := hcell 0 _ rfl
      have q3 : wr.cell? ⟨b, off + i * 3 + 1, none⟩ = some (.string st.v) := hcell 1 _ rfl
      clear hcell
      have hil : (i : Int) < (len : Int) := by omega
      have d1 : decide ((i : Int) < 200) = true := by simp; omega
      have d2 : decide (0 ≤ q) = true := decide_eq_true g3
      have hR := room_list wr.heap.size 2 (lensW st) q (wr.alloc (.cells #[.int .i64 (st.k.size : Int), .int .i64 (st.v.size : Int)] 3)).drew hq1 (by omega) (by simp [lensW]) (by unfold maxLen at *; simp [lensW]; omega) (fun j hj => by
        match j, hj with
        | 0, _ => exact ncell rfl rfl
        | 1, _ => exact ncell rfl rfl)
      have hlen4 : (lensW st).length = 2 := rfl
      rw [hlen4] at hR
      obtain ⟨r1, r2, -⟩ := roomL_le (lensW st) q hq1 (by simp [lensW])
      have HS4 := Lib.hid (lensW_sum (x := st) (r := q))
      generalize roomL q (lensW st) = q' at hR r1 r2 HS4
      have HR := Lib.hid hR
      clear hR hlen4
      go_wp2
      go_region_held3 (fun w' => w'.cell? ⟨b, off + i * 3, none⟩ = some (.string st.k) ∧ w'.cell? ⟨b, off + i * 3 + 1, none⟩ = some (.string st.v)) (first | go_keep | exact ⟨ocell hbr q0, ocell hbr q3⟩) (first | (go_at_call 26; refine HR.out.mono ?_; rintro e w1 ⟨rfl, rfl⟩) | fail)
      all_goals go_wp2
      all_goals
        have hnx : 0 ≤ q' → q' + (sizeWs (es.take (i + 1)) : Int) ≤ 9000 := by
          intro h0
          have h1 := HSM.out g3
          have h2 := HS4.out h0
          have h3 : es.take (i + 1) = es.take i ++ [st] := by rw [List.take_add_one, hst]; rfl
          rw [h3, sizeWs_snoc]
          omega
        have hbn : Below w.heap.size w (wr.alloc (.cells #[.int .i64 (st.k.size : Int), .int .i64 (st.v.size : Int)] 3)).drew := (hbl.alloc hbl.size _).drew
      all_goals go_roundw
      all_goals first
        | exact ⟨i + 1, q', by omega, by omega, rfl, by go_num, r1, by omega, hnx, hbn⟩
        | (simp [intOf]; omega)
    · by_cases hl2 : len ≤ 60 ∧ 0 ≤ q
      · obtain ⟨m1, m2⟩ := hl2
        obtain rfl : i = len := by omega
        have d1 : decide ((i : Int) ≤ 60) = true := by simp; omega
        have d2 : decide (0 ≤ q) = true := decide_eq_true m2
        go_wp2
        go_ret
        refine ⟨true, rfl, fun _ => ⟨by omega, ?_⟩, hbl⟩
        have := HSM.out m2
        rw [List.take_of_length_le (by omega)] at this
        omega
      · by_cases e1 : i < len
        · have hil : (i : Int) < (len : Int) := by omega
          by_cases e2 : i < 200
          · have hq : q < 0 := by omega
            have d1 : decide ((i : Int) < 200) = true := by simp; omega
            have d2 : decide (0 ≤ q) = false := decide_eq_false (by omega)
            by_cases e3 : len ≤ 60
            · have d3 : decide ((len : Int) ≤ 60) = true := by simp; omega
              go_wp2
              go_ret
              exact ⟨false, rfl, fun h => (by cases h), hbl⟩
            · have d3 : decide ((len : Int) ≤ 60) = false := by simp; omega
              go_wp2
              go_ret
              exact ⟨false, rfl, fun h => (by cases h), hbl⟩
          · have d1 : decide ((i : Int) < 200) = false := by simp; omega
            have d3 : decide ((len : Int) ≤ 60) = false := by simp; omega
            go_wp2
            go_ret
            exact ⟨false, rfl, fun h => (by cases h), hbl⟩
        · obtain rfl : i = len := by omega
          by_cases e3 : i ≤ 60
          · have d3 : decide ((i : Int) ≤ 60) = true := by simp; omega
            have d2 : decide (0 ≤ q) = false := decide_eq_false (by omega)
            go_wp2
            go_ret
            exact ⟨false, rfl, fun h => (by cases h), hbl⟩
          · have d3 : decide ((i : Int) ≤ 60) = false := by simp; omega
            go_wp2
            go_ret
            exact ⟨false, rfl, fun h => (by cases h), hbl⟩
end Go.Proofs.YthaalhigmihijabGreat

namespace Go.Proofs.YthaalhigmihijabGreat
open Go.RowKit Go.ChangeShapes Go.WideShapes Go.ChangeAt Go.Deep

theorem add_plainW (b o j : Nat) : (⟨b, o, none⟩ : Addr).add j = ⟨b, o + j, none⟩ := by unfold Addr.add; split <;> simp_all
theorem block_ltW {w : World} {a : Addr} {v : Value} (h : w.cell? a = some v) : a.block < w.heap.size := by
  rcases Nat.lt_or_ge a.block w.heap.size with h1 | h1
  · exact h1
  · simp [World.cell?, Array.getElem?_eq_none h1] at h
theorem choose_ltW {α : Type} (z : α) {n : Nat} {p : Nat → α → Prop} (h : ∀ i, i < n → ∃ x, p i x) : ∃ f : Nat → α, ∀ i, i < n → p i (f i) := by
  classical
  exact ⟨fun i => if hi : i < n then Classical.choose (h i hi) else z, fun i hi => by
    simp only [hi, dite_true]
    exact Classical.choose_spec (h i hi)⟩
/-- A list of writes that came in. -/
def IsWs (w : World) (a : Option Addr) (len : Nat) (l : List Wr) : Prop := len ≤ maxLen ∧ (∀ x ∈ l, x.Ok) ∧ WrsAt w.heap.size w a len l
set_option maxRecDepth 100000 in
theorem wr_of {H : Type} {enc : TypeId × Value → H} {w : World} {base n : Nat} {sp : Nat → Bool} {held : Bool} {cs : List Value} {y : DataW H × List MemPlace}
    (h : DataW.trod enc Tryz.prog w base sp held n 82 cs = some y) (hl : cs.length = 3) : ∃ p : Wr, p.Ok ∧ cs = p.cells := by
  obtain ⟨xs, k, hk, hxy, _, hxl, hf⟩ := DataW.trod_struct Tryz.underlying82 h
  have cb : Tryz.prog.cellsOf 4 = 1 := by kernel_rfl
  have c9 : Tryz.prog.cellsOf 9 = 1 := by kernel_rfl
  match xs, hxl, cs, hl with
  | [y0, y1, y2], _, [v0, v1, v2], _ =>
    have g0 := hf 0 _ rfl
    have g1 := hf 1 _ rfl
    have g2 := hf 2 _ rfl
    simp [cb, c9] at g0 g1 g2
    obtain ⟨s0, e0, -, b0⟩ := DataW.trod_string Tryz.underlying9 g0
    obtain ⟨s1, e1, -, b1⟩ := DataW.trod_string Tryz.underlying9 g1
    obtain ⟨d2, e2, -⟩ := DataW.trod_bool Tryz.underlying4 g2
    simp only [List.cons.injEq, and_true] at e0 e1 e2
    subst e0 e1 e2
    exact ⟨⟨s0, s1, d2⟩, ⟨b0, b1⟩, rfl⟩
/-- A slice of writes, as it is read. -/
theorem rowW_gen {H : Type} {enc : TypeId × Value → H} {w : World} {base fuel : Nat} {sp : Nat → Bool} {held : Bool} {v : Value} {x : DataW H × List MemPlace}
    (h : DataW.trod enc Tryz.prog w base sp held fuel 61 [v] = some x) : ∃ a len cap, v = .slice a len cap ∧ len ≤ cap ∧ cap ≤ maxLen ∧ (a = none → cap = 0) ∧ ∃ l, IsWs w a len l := by
  have c4 : Tryz.prog.cellsOf 82 = 3 := by kernel_rfl
  rcases open_slice Tryz.underlying61 h with ⟨hcs, _⟩ | ⟨y, l, c, m, n, D, Pl, hcs, _, hl, hm, hmm, _, hx⟩
  · simp at hcs
    subst hcs
    exact ⟨none, 0, 0, rfl, Nat.le_refl _, Nat.zero_le _, fun _ => rfl, [], by unfold maxLen; omega, by simp, rfl, .inl rfl⟩
  · simp at hcs
    subst hcs
    have hlm : l ≤ m := by
      rw [hmm]
      split <;> omega
    refine ⟨some y, l, c, rfl, hl, hm, fun e => (by cases e), ?_⟩
    have each : ∀ i, i < l → ∃ p : Wr, p.Ok ∧ ∀ j u, p.cells[j]? = some u → w.cell? (y.add (i * 3 + j)) = some u := by
      intro i hi
      obtain ⟨cs', h1, h2⟩ := hx i (by omega)
      rw [c4] at h1
      obtain ⟨_, hlen, hcell⟩ := World.cells?_some h1
      obtain ⟨p, hp, rfl⟩ := wr_of h2 hlen
      refine ⟨p, hp, fun j u hj => ?_⟩
      have hj4 : j < 3 := by
        have := (List.getElem?_eq_some_iff.1 hj).1
        simpa [Wr.cells] using this
      have := hcell j hj4
      rw [Addr.add_add] at this
      rw [this, hj]
    obtain ⟨q, hq⟩ := choose_ltW Wr.zero each
    refine ⟨(List.range l).map q, Nat.le_trans hl hm, ?_, by simp, ?_⟩
    · intro p hp
      obtain ⟨i, hi, rfl⟩ := List.mem_map.1 hp
      exact (hq i (List.mem_range.1 hi)).1
    · rcases Nat.eq_zero_or_pos l with h0 | h0
      · exact .inl h0
      · right
        have hc0 := (hq 0 h0).2 0 _ rfl
        obtain ⟨b, off, spot⟩ := y
        have hs : spot = none := by simpa [Addr.add] using World.cell?_spot hc0
        subst hs
        refine ⟨b, off, rfl, block_ltW hc0, ?_⟩
        intro i hi j u hu
        have hi' : i < l := by simpa using hi
        have e : ((List.range l).map q)[i] = q i := by simp
        rw [e] at hu
        have := (hq i hi').2 j u hu
        rw [add_plainW, ← Nat.add_assoc] at this
        exact this
theorem rowW_of {H : Type} {enc : TypeId × Value → H} {w : World} {base fuel : Nat} {held : Bool} {a : Option Addr} {len cap : Nat} {x : DataW H × List MemPlace}
    (h : DataW.trod enc Tryz.prog w base (fun _ => true) held fuel 61 (Value.slice a len cap).cells.toList = some x) : ∃ l, IsWs w a len l := by
  obtain ⟨a', len', cap', e, -, -, -, l, hl⟩ := rowW_gen h
  cases e
  exact ⟨l, hl⟩
end Go.Proofs.YthaalhigmihijabGreat

namespace Go.Proofs.YthaalhigmihijabGreat
open Go.RowKit Go.ChangeShapes Go.WideShapes Go.ChangeAt Go.Deep

/-- A step: a batch, and what is asked behind it. -/
structure O8 where
  f : Nat
  a : Option Addr
  len : Nat
  cap : Nat
  ws : List Wr
  k : ByteArray
  e : ByteArray
  q : Nat
def O8.zero : O8 := ⟨0, none, 0, 0, [], ⟨#[]⟩, ⟨#[]⟩, 0⟩
def O8.cells (x : O8) : List Value := [.int .u64 (x.f : Int), .slice x.a x.len x.cap, .string x.k, .string x.e, .int .u64 (x.q : Int)]
structure O8.Ok (w : World) (x : O8) : Prop where
  f : x.f < 18446744073709551616
  ws : IsWs w x.a x.len x.ws
  k : x.k.size ≤ maxLen
  e : x.e.size ≤ maxLen
  q : x.q < 18446744073709551616
  nil : x.a = none → x.cap = 0
/-- A slice of steps: there are none, or they lie in one block. -/
def O8sAt (n₀ : Nat) (w : World) (a : Option Addr) (len : Nat) (es : List O8) : Prop :=
  es.length = len ∧ (len = 0 ∨ ∃ b off, a = some ⟨b, off, none⟩ ∧ b < n₀ ∧ ∀ i (h : i < es.length), ∀ j u, es[i].cells[j]? = some u → w.cell? ⟨b, off + i * 5 + j, none⟩ = some u)
theorem O8sAt.below {n₀ : Nat} {A B : World} {a : Option Addr} {len : Nat} {es : List O8} (h : O8sAt n₀ A a len es) (hb : Below n₀ A B) : O8sAt n₀ B a len es := by
  refine ⟨h.1, ?_⟩
  rcases h.2 with h0 | ⟨b, off, e, hlt, hc⟩
  · exact .inl h0
  · exact .inr ⟨b, off, e, hlt, fun i hi j u hu => (hb.cell (p := ⟨b, off + i * 5 + j, none⟩) hlt).trans (hc i hi j u hu)⟩
/-- A list of steps that came in. -/
def IsO8 (w : World) (a : Option Addr) (len : Nat) (l : List O8) : Prop := len ≤ maxLen ∧ (∀ x ∈ l, x.Ok w) ∧ O8sAt w.heap.size w a len l
set_option maxRecDepth 100000 in
theorem o8_of {H : Type} {enc : TypeId × Value → H} {w : World} {base n : Nat} {sp : Nat → Bool} {held : Bool} {cs : List Value} {y : DataW H × List MemPlace}
    (h : DataW.trod enc Tryz.prog w base sp held n 63 cs = some y) (hl : cs.length = 5) : ∃ p : O8, p.Ok w ∧ cs = p.cells := by
  obtain ⟨xs, k, hk, hxy, _, hxl, hf⟩ := DataW.trod_struct Tryz.underlying63 h
  have cs1 : Tryz.prog.cellsOf 61 = 1 := by kernel_rfl
  have c9 : Tryz.prog.cellsOf 9 = 1 := by kernel_rfl
  have cu : Tryz.prog.cellsOf 30 = 1 := by kernel_rfl
  match xs, hxl, cs, hl with
  | [y0, y1, y2, y3, y4], _, [v0, v1, v2, v3, v4], _ =>
    have g0 := hf 0 _ rfl
    have g1 := hf 1 _ rfl
    have g2 := hf 2 _ rfl
    have g3 := hf 3 _ rfl
    have g4 := hf 4 _ rfl
    simp [cs1, c9, cu] at g0 g1 g2 g3 g4
    obtain ⟨z0, e0, -, b0⟩ := DataW.trod_int Tryz.underlying30 g0
    obtain ⟨a, len, cap, rfl, hlc, hcm, hnil, ws, hws⟩ := rowW_gen g1
    obtain ⟨s2, e2, -, b2⟩ := DataW.trod_string Tryz.underlying9 g2
    obtain ⟨s3, e3, -, b3⟩ := DataW.trod_string Tryz.underlying9 g3
    obtain ⟨z4, e4, -, b4⟩ := DataW.trod_int Tryz.underlying30 g4
    simp only [List.cons.injEq, and_true] at e0 e2 e3 e4
    subst e0 e2 e3 e4
    have k0 := bounds_u64 b0
    have k4 := bounds_u64 b4
    obtain ⟨n0, rfl⟩ : ∃ a : Nat, z0 = (a : Int) := ⟨z0.toNat, by omega⟩
    obtain ⟨n4, rfl⟩ : ∃ a : Nat, z4 = (a : Int) := ⟨z4.toNat, by omega⟩
    exact ⟨⟨n0, a, len, cap, ws, s2, s3, n4⟩, ⟨show n0 < 18446744073709551616 by have := k0.2; omega, hws, b2, b3, show n4 < 18446744073709551616 by have := k4.2; omega, hnil⟩, rfl⟩
set_option maxRecDepth 100000 in
theorem rowO8_of {H : Type} {enc : TypeId × Value → H} {w : World} {base fuel : Nat} {held : Bool} {a : Option Addr} {len cap : Nat} {x : DataW H × List MemPlace}
    (h : DataW.trod enc Tryz.prog w base (fun _ => true) held fuel 23 (Value.slice a len cap).cells.toList = some x) : ∃ l, IsO8 w a len l := by
  have c4 : Tryz.prog.cellsOf 63 = 5 := by kernel_rfl
  rcases open_slice Tryz.underlying23 h with ⟨hcs, _⟩ | ⟨y, l, c, m, n, D, Pl, hcs, _, hl, hm, hmm, _, hx⟩
  · simp [Value.cells] at hcs
    obtain ⟨rfl, rfl, rfl⟩ := hcs
    exact ⟨[], by unfold maxLen; omega, by simp, rfl, .inl rfl⟩
  · simp [Value.cells] at hcs
    obtain ⟨rfl, rfl, rfl⟩ := hcs
    simp at hmm
    subst hmm
    have each : ∀ i, i < len → ∃ p : O8, p.Ok w ∧ ∀ j u, p.cells[j]? = some u → w.cell? (y.add (i * 5 + j)) = some u := by
      intro i hi
      obtain ⟨cs', h1, h2⟩ := hx i (by omega)
      rw [c4] at h1
      obtain ⟨_, hlen, hcell⟩ := World.cells?_some h1
      obtain ⟨p, hp, rfl⟩ := o8_of h2 hlen
      refine ⟨p, hp, fun j u hj => ?_⟩
      have hj4 : j < 5 := by
        have := (List.getElem?_eq_some_iff.1 hj).1
        simpa [O8.cells] using this
      have := hcell j hj4
      rw [Addr.add_add] at this
      rw [this, hj]
    obtain ⟨q, hq⟩ := choose_ltW O8.zero each
    refine ⟨(List.range len).map q, Nat.le_trans hl hm, ?_, by simp, ?_⟩
    · intro p hp
      obtain ⟨i, hi, rfl⟩ := List.mem_map.1 hp
      exact (hq i (List.mem_range.1 hi)).1
    · rcases Nat.eq_zero_or_pos len with h0 | h0
      · exact .inl h0
      · right
        have hc0 := (hq 0 h0).2 0 _ rfl
        obtain ⟨b, off, spot⟩ := y
        have hs : spot = none := by simpa [Addr.add] using World.cell?_spot hc0
        subst hs
        refine ⟨b, off, rfl, block_ltW hc0, ?_⟩
        intro i hi j u hu
        have hi' : i < len := by simpa using hi
        have e : ((List.range len).map q)[i] = q i := by simp
        rw [e] at hu
        have := (hq i hi').2 j u hu
        rw [add_plainW, ← Nat.add_assoc] at this
        exact this
end Go.Proofs.YthaalhigmihijabGreat
