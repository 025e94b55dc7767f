/- Joined: UB UR. -/
import Derived.Test.YtmnboiikopkaoaaGreatTL
import Derived.Test.YtmnboiikopkaoaaGreatUQ
import Derived.Test.YtmnboiikopkaoaaGreatUK
import Derived.Laws.Cover1
import Derived.Deep.QuietTactic
import Derived.BigQuiet
namespace Go.Proofs.YtmnboiikopkaoaaGreat
open Go.RowKit

theorem infoPt : (Tryz.prog.info? 76).map (fun i => (i.zero, i.size, i.bytes)) = some (some (.agg #[.string ⟨#[]⟩, .string ⟨#[]⟩]), 2, 32) := by kernel_rfl
/-- A block that is not read yet: its first key, its bytes. -/
structure Prt where
  f : ByteArray
  b : ByteArray
def Prt.cells (p : Prt) : List Value := [.string p.f, .string p.b]
def cellsP (l : List Prt) : List Value := l.flatMap Prt.cells
theorem cellsP_append (a b : List Prt) : cellsP (a ++ b) = cellsP a ++ cellsP b := by simp [cellsP]
theorem cellsP_length : ∀ l : List Prt, (cellsP l).length = l.length * 2
  | [] => rfl
  | x :: l => by
    have := cellsP_length l
    simp only [cellsP, List.flatMap_cons, List.length_append, List.length_cons] at *
    rw [this]
    simp only [Prt.cells, List.length_cons, List.length_nil]
    omega
theorem cellsP_get : ∀ (l : List Prt) (i : Nat) (h : i < l.length) (j : Nat) (u : Value), l[i].cells[j]? = some u → (cellsP l)[i * 2 + j]? = some u
  | [], _, h, _, _, _ => by cases h
  | x :: l, i, h, j, u, hu => by
    have hc : cellsP (x :: l) = x.cells ++ cellsP l := by simp [cellsP]
    have hl : x.cells.length = 2 := rfl
    rw [hc]
    match i, h, hu with
    | 0, _, hu =>
      have hu' : x.cells[j]? = some u := hu
      have hj := (List.getElem?_eq_some_iff.1 hu').1
      rw [Nat.zero_mul, Nat.zero_add, List.getElem?_append_left hj]
      exact hu'
    | i + 1, h, hu =>
      have ih := cellsP_get l i (by simpa using h) j u hu
      rw [List.getElem?_append_right (by rw [hl, Nat.add_mul]; omega), hl, show (i + 1) * 2 + j - 2 = i * 2 + j by rw [Nat.add_mul]; omega]
      exact ih
/-- A reader: its parts, the last key, how many versions, the filter, how many blocks were read. -/
structure Rdb where
  ps : List Prt
  last : ByteArray
  cnt : Nat
  fil : ByteArray
  n : Nat
/-- A reader in memory: at block p, its parts in one block besides. -/
structure RdAt (w : World) (p : Nat) (F : List Nat) (q : Rdb) : Prop where
  ex : ∃ V, w.heap[p]? = some (.cells #[V, .string q.last, .int .i64 (q.cnt : Int), .string q.fil, .int .i64 (q.n : Int)] 74) ∧ Row w 76 2 V q.ps.length (cellsP q.ps) ∧ F = p :: (ob V).toList ∧ ob V ≠ some p
section
variable {w w' : World} {p : Nat} {F : List Nat} {q : Rdb}
theorem RdAt.plt (h : RdAt w p F q) : p < w.heap.size := by
  obtain ⟨V, h1, -⟩ := h.ex
  exact (Array.getElem?_eq_some_iff.1 h1).1
theorem RdAt.mem (h : RdAt w p F q) : p ∈ F := by
  obtain ⟨V, -, -, rfl, -⟩ := h.ex
  simp
theorem RdAt.lt (h : RdAt w p F q) : ∀ k ∈ F, k < w.heap.size := by
  obtain ⟨V, h1, h2, rfl, -⟩ := h.ex
  intro k hk
  rcases List.mem_cons.1 hk with rfl | hk
  · exact (Array.getElem?_eq_some_iff.1 h1).1
  · exact h2.lt k (by simpa using hk)
theorem RdAt.kept (h : RdAt w p F q) (hk : ∀ k ∈ F, w'.heap[k]? = w.heap[k]?) : RdAt w' p F q := by
  obtain ⟨V, h1, h2, rfl, h4⟩ := h.ex
  exact ⟨V, (hk p (by simp)).trans h1, h2.kept (fun k e => hk k (by rw [e]; simp)), rfl, h4⟩
theorem RdAt.below (h : RdAt w p F q) (hb : Below w.heap.size w w') : RdAt w' p F q := h.kept fun k hk => hb.block k (h.lt k hk)
/-- Its own cells. -/
theorem RdAt.cells (h : RdAt w p F q) : ∃ V, w.cell? ⟨p, 0, none⟩ = some V ∧ w.cell? ⟨p, 1, none⟩ = some (.string q.last) ∧ w.cell? ⟨p, 2, none⟩ = some (.int .i64 (q.cnt : Int)) ∧ w.cell? ⟨p, 3, none⟩ = some (.string q.fil) ∧ w.cell? ⟨p, 4, none⟩ = some (.int .i64 (q.n : Int)) ∧ Row w 76 2 V q.ps.length (cellsP q.ps) := by
  obtain ⟨V, h1, h2, -, -⟩ := h.ex
  refine ⟨V, ?_, ?_, ?_, ?_, ?_, h2⟩ <;> · unfold World.cell?; rw [h1]; rfl
/-- The slice of its parts, and the cells of each. -/
theorem RdAt.parts (h : RdAt w p F q) : ∃ a cap, w.cell? ⟨p, 0, none⟩ = some (.slice a q.ps.length cap) ∧ ∀ i (hi : i < q.ps.length), ∃ g, a = some ⟨g, 0, none⟩ ∧ g < w.heap.size ∧ w.cell? ⟨g, i * 2, none⟩ = some (.string (q.ps[i]).f) ∧ w.cell? ⟨g, i * 2 + 1, none⟩ = some (.string (q.ps[i]).b) := by
  obtain ⟨V, h0, -, -, -, -, h2⟩ := h.cells
  obtain ⟨a, cap, rfl, -, -⟩ := h2.le
  refine ⟨a, cap, h0, fun i hi => ?_⟩
  have hc := h2.cell
  rcases h2.2 with ⟨hn, -⟩ | ⟨g, cap', cur, e, hg, -⟩
  · omega
  · cases e
    refine ⟨g, rfl, (Array.getElem?_eq_some_iff.1 hg).1, ?_, ?_⟩
    · have := hc g 0 _ rfl (i * 2) _ (cellsP_get q.ps i hi 0 _ rfl)
      rwa [Nat.zero_add] at this
    · have := hc g 0 _ rfl (i * 2 + 1) _ (cellsP_get q.ps i hi 1 _ rfl)
      rwa [Nat.zero_add] at this
end
/-- Of blocks from one on: how many are read, the error, the version of a key at a number. -/
def goG (key : ByteArray) (seq : Nat) : List Prt → Nat × Int × Option Ent
  | [] => (0, 0, none)
  | p :: r =>
    if lessB key p.f = true then (0, 0, none)
    else if (getE p.b.data.toList).1 ≠ 0 then (1, (getE p.b.data.toList).1, none)
    else if 0 ≤ best (getE p.b.data.toList).2 key seq (getE p.b.data.toList).2.length then (1, 0, some (entAt (getE p.b.data.toList).2 (best (getE p.b.data.toList).2 key seq (getE p.b.data.toList).2.length).toNat))
    else ((goG key seq r).1 + 1, (goG key seq r).2)
/-- May a block whose first key is f have keys of a range? -/
def withinB (lo hi key : ByteArray) : Bool := !(lessB key lo) && (hi.toList.isEmpty || lessB key hi)
def maxB (a b : ByteArray) : ByteArray := if lessB a b = true then b else a
/-- Of blocks from one on: how many are read, the error, the versions of a range. -/
def goR (lo hi : ByteArray) : List Prt → Nat × Int × List Ent
  | [] => (0, 0, [])
  | p :: r =>
    if withinB lo hi (maxB lo p.f) = false then (0, 0, [])
    else if (getE p.b.data.toList).1 ≠ 0 then (1, (getE p.b.data.toList).1, [])
    else ((goR lo hi r).1 + 1, (goR lo hi r).2.1, if (goR lo hi r).2.1 ≠ 0 then [] else rangeE lo hi (getE p.b.data.toList).2 ++ (goR lo hi r).2.2)
/-- The greatest key that a block may have. -/
def mostK (q : Rdb) (i : Nat) : ByteArray := match q.ps[i + 1]? with
  | some p => p.f
  | none => q.last
/-- Where the blocks begin that may have a key from that one on. -/
def Starts (q : Rdb) (key : ByteArray) (k : Nat) : Prop := k ≤ q.ps.length ∧ (k < q.ps.length → lessB (mostK q k) key = false) ∧ (0 < k → lessB (mostK q (k - 1)) key = true)
end Go.Proofs.YtmnboiikopkaoaaGreat

namespace Go.Proofs.YtmnboiikopkaoaaGreat
open Go.RowKit

section
variable {w : World} {p : Nat} {F : List Nat} {q : Rdb}
theorem RdAt.frozen (h : RdAt w p F q) (j : Nat) : w.frozen? ⟨p, j, none⟩ = false := by
  obtain ⟨V, h1, -⟩ := h.ex
  unfold World.frozen?; rw [h1]; simp
/-- One more block was read. -/
theorem RdAt.more (h : RdAt w p F q) : RdAt (w.setCell ⟨p, 4, none⟩ (.int .i64 ((q.n + 1 : Nat) : Int))) p F { q with n := q.n + 1 } := by
  obtain ⟨V, h1, h2, rfl, h4⟩ := h.ex
  refine ⟨V, ?_, ?_, rfl, h4⟩
  · have := heap_setCell_same w p 4 _ _ (.int .i64 ((q.n + 1 : Nat) : Int)) h1
    exact this
  · exact h2.kept fun k hk => heap_setCell_other w ⟨p, 4, none⟩ k _ (fun e => h4 (by rw [hk, e]))
set_option maxHeartbeats 1000000 in
theorem isNone_no (h : RdAt w p F q) (h0 : q.ps ≠ []) : Calls Tryz.prog 31 #[.pointer (some ⟨p, 0, none⟩)] w fun e w' => e = .returned (.bool false) ∧ w = w' := by
  obtain ⟨a, cap, c0, -⟩ := h.parts
  have hl : 0 < q.ps.length := List.length_pos_iff.2 h0
  have d : ((q.ps.length : Int) == 0) = false := by simp; omega
  clear h h0
  go_enter Tryz.func31, Tryz.ntmps31
  go_wp2
  go_ret
  exact ⟨rfl, rfl⟩
set_option maxHeartbeats 1000000 in
theorem rlen_any (h : RdAt w p F q) : Calls Tryz.prog 23 #[.pointer (some ⟨p, 0, none⟩)] w fun e w' => e = .returned (.int .i64 (q.cnt : Int)) ∧ w = w' := by
  obtain ⟨V, c0, c1, c2, c3, c4, -⟩ := h.cells
  clear h
  go_enter Tryz.func23, Tryz.ntmps23
  go_wp2
  go_ret
  exact ⟨rfl, rfl⟩
set_option maxHeartbeats 1000000 in
theorem rread_any (h : RdAt w p F q) : Calls Tryz.prog 21 #[.pointer (some ⟨p, 0, none⟩)] w fun e w' => e = .returned (.int .i64 (q.n : Int)) ∧ w = w' := by
  obtain ⟨V, c0, c1, c2, c3, c4, -⟩ := h.cells
  clear h
  go_enter Tryz.func21, Tryz.ntmps21
  go_wp2
  go_ret
  exact ⟨rfl, rfl⟩
set_option maxHeartbeats 1000000 in
theorem rblocks_any (h : RdAt w p F q) : Calls Tryz.prog 22 #[.pointer (some ⟨p, 0, none⟩)] w fun e w' => e = .returned (.int .i64 (q.ps.length : Int)) ∧ w = w' := by
  obtain ⟨a, cap, c0, -⟩ := h.parts
  clear h
  go_enter Tryz.func22, Tryz.ntmps22
  go_wp2
  go_ret
  exact ⟨rfl, rfl⟩
set_option maxHeartbeats 1000000 in
theorem rblock_any (h : RdAt w p F q) (i : Nat) (hi : i < q.ps.length) (hb : (q.ps[i]).b.size ≤ 100000) (hn : q.n < 9223372036854775807) (_hil : q.ps.length ≤ 1000000) :
    Calls Tryz.prog 34 #[.pointer (some ⟨p, 0, none⟩), .int .i64 (i : Int)] w fun e w' => ∃ v, e = .returned (.tuple #[v, .int .i64 (getE (q.ps[i]).b.data.toList).1]) ∧ Row w' 48 4 v (getE (q.ps[i]).b.data.toList).2.length (cellsE (getE (q.ps[i]).b.data.toList).2) ∧ ((getE (q.ps[i]).b.data.toList).2 = [] → v = .slice none 0 0) ∧ (∀ k, ob v = some k → w.heap.size ≤ k) ∧ RdAt w' p F { q with n := q.n + 1 } ∧ Turn [p] w w' := by
  obtain ⟨V, c0, c1, c2, c3, c4, -⟩ := h.cells
  have hm := h.more
  have hp := h.plt
  have hf := h.frozen 4
  have hT : Turn [p] w (w.setCell ⟨p, 4, none⟩ (.int .i64 ((q.n + 1 : Nat) : Int))) := (Turn.refl [p] w).setCell (.inl (by simp)) _
  obtain ⟨m, hmm⟩ : ∃ m, q.n + 1 = m := ⟨_, rfl⟩
  have hw : (q.n : Int) + 1 = (m : Int) := by omega
  rw [hmm] at hm hT
  rw [hmm]
  obtain ⟨W, hW⟩ : ∃ W, w.setCell ⟨p, 4, none⟩ (.int .i64 (m : Int)) = W := ⟨_, rfl⟩
  rw [hW] at hm hT
  obtain ⟨a, cap, d0, dd⟩ := hm.parts
  obtain ⟨g, rfl, hg, -, dg⟩ := dd i hi
  simp only at d0 dg
  have hsz : W.heap.size = w.heap.size := by rw [← hW]; simp
  have CG := Lib.hid (getP_len (q.ps[i]).b W hb)
  unfold GotB at CG
  have HM := Lib.hid hm
  have HT := Lib.hid hT
  have HS := Lib.hid hsz
  have hiI : (i : Int) < (q.ps.length : Int) := by omega
  generalize q.ps[i] = x at *
  clear h hm hT hsz c0 c1 c2 c3 dd hi hmm
  go_enter Tryz.func34, Tryz.ntmps34
  go_upto_region 2 with fail
  try rw [hw]
  try rw [hW]
  clear hW c4 hf
  go_wp2_with (go_at_call 69; (with_reducible refine CG.out.mono ?_); rintro _ w1 ⟨v, rfl, h1, h2, h3, h4⟩)
  go_ret2
  refine ⟨v, rfl, h1, h2, fun k hk => by rw [← HS.out]; exact h3 k hk, HM.out.below h4, HT.out.trans (turn_of_below (F := []) h4) (by simp)⟩
set_option maxHeartbeats 1000000 in
theorem rmost_any (h : RdAt w p F q) (i : Nat) (hil : i ≤ 1000000) :
    Calls Tryz.prog 68 #[.pointer (some ⟨p, 0, none⟩), .int .i64 (i : Int)] w fun e w' => e = .returned (.string (mostK q i)) ∧ w = w' := by
  obtain ⟨a, cap, c0, hc⟩ := h.parts
  obtain ⟨V, -, c1, -⟩ := h.cells
  clear h
  obtain ⟨m, hm0⟩ : ∃ m, i + 1 = m := ⟨_, rfl⟩
  have hw : (i : Int) + 1 = (m : Int) := by omega
  by_cases hlt : i + 1 < q.ps.length
  · obtain ⟨g, rfl, hg, d0, -⟩ := hc (i + 1) hlt
    have hm : mostK q i = (q.ps[i + 1]).f := by unfold mostK; rw [List.getElem?_eq_getElem hlt]
    rw [hm]
    have hI : (m : Int) < (q.ps.length : Int) := by omega
    generalize q.ps[i + 1] = x at *
    rw [hm0] at d0
    clear hc hm hm0 hlt
    go_enter Tryz.func68, Tryz.ntmps68
    go_wp2
    go_ret
    exact ⟨rfl, rfl⟩
  · have hm : mostK q i = q.last := by unfold mostK; rw [List.getElem?_eq_none (by omega)]
    rw [hm]
    have hI : decide ((m : Int) < (q.ps.length : Int)) = false := by simp; omega
    have hI2 : decide (m < q.ps.length) = false := by simp; omega
    clear hc hm hm0 hlt
    go_enter Tryz.func68, Tryz.ntmps68
    go_wp2
    go_ret
    exact ⟨rfl, rfl⟩
end
end Go.Proofs.YtmnboiikopkaoaaGreat
