/- num: what a batch calls of it. -/
import Derived.Test.YtfndlfnlepndmaaGreatRows
import Derived.WalkKit
import Derived.OwnWalk
import Derived.WalkSpells
import Derived.WalkLawsBesides
import Derived.BigCall
import Derived.Laws.IdiomStrings
import Derived.Laws.BitsAllLaws
import Derived.Lib.VarintMem
import Derived.Lib.Zigzag
import Derived.Lib.VarintDec
import Derived.Lib.Slices
import Derived.Outline
import Derived.Lib.BufferRead
import Derived.Lib.Hide
import Derived.Test.YtfndlfnlepndmaaGreatShelf
import Derived.Lib.AppendIntMem
import Derived.Lib.ItoaLen
import Derived.Lib.VarintBits
import Derived.BigQuiet
import Derived.Deep.QuietTactic
import Derived.Deep.RegionWith
import Derived.ProofKit
import Derived.SliceStrings
import Derived.OpenShut
import Derived.Lib.AppendStr
namespace Go.Proofs.YtfndlfnlepndmaaGreat
open Go.RowKit
open Go.RowKit Go.ChangeShapes Go.WideShapes Go.ChangeAt

theorem infoByteN : (Tryz.prog.info? 5).map (fun i => (i.zero, i.size, i.bytes)) = some (some (.int .u8 0), 1, 1) := by kernel_rfl
/-- The bytes of numbers, one behind the other. -/
def vars (zs : List Nat) : List UInt8 := (zs.map Lib.uvarint).flatten
theorem vars_snoc (zs : List Nat) (z : Nat) : vars (zs ++ [z]) = vars zs ++ Lib.uvarint z := by simp [vars]
theorem vars_length : ∀ (zs : List Nat), (∀ z ∈ zs, z < 18446744073709551616) → (vars zs).length ≤ 10 * zs.length
  | [], _ => by simp [vars]
  | z :: r, h => by
    have h1 := Lib.uvarint_length64 (h z (by simp))
    have h2 := vars_length r (fun x hx => h x (by simp [hx]))
    simp only [vars, List.map_cons, List.flatten_cons, List.length_append, List.length_cons] at *
    omega
theorem conv_ownN {w : World} {B : Nat} {v : Value} {l : List UInt8} {n : Nat} (h : w.ownsRow B 5 1 v n (Lib.byteCells l)) (hn : n = l.length) :
    (convert 85 9 v).run Tryz.prog w = .ok (.string ⟨l.toArray⟩) w := by
  subst hn
  rcases h.2 with ⟨rfl, h0⟩ | ⟨g, cap, cur, rfl, -, -, -, -, -, -⟩
  · have hl : l = [] := List.eq_nil_of_length_eq_zero h0
    subst hl
    rw [Lib.run_convert_nil_bytes w 85 9 5 0 Tryz.underlying85 Tryz.underlying5 Tryz.underlying9]
  · exact run_convert_bytes_back (P := Tryz.prog) w 85 9 5 ⟨g, 0, none⟩ cap l Tryz.underlying85 Tryz.underlying5 Tryz.underlying9 (fun j hj => h.cells (g := g) rfl j _ (by simp [Lib.byteCells, hj]))
theorem take_snoc_nat (zs : List Nat) (k : Nat) (h : k < zs.length) : zs.take (k + 1) = zs.take k ++ [zs[k]] := by
  rw [List.take_succ_eq_append_getElem h]
/-- A reader in memory: its bytes, its error; not frozen. -/
structure IsRd (w : World) (b : Nat) (s : ByteArray) (e : Int) : Prop where
  c0 : w.cell? ⟨b, 0, none⟩ = some (.string s)
  c1 : w.cell? ⟨b, 1, none⟩ = some (.int .i64 e)
  f0 : w.frozen? ⟨b, 0, none⟩ = false
  f1 : w.frozen? ⟨b, 1, none⟩ = false
theorem IsRd.lt {w : World} {b : Nat} {s : ByteArray} {e : Int} (h : IsRd w b s e) : b < w.heap.size := by
  have := h.c0
  rcases Nat.lt_or_ge b w.heap.size with h1 | h1
  · exact h1
  · simp [World.cell?, Array.getElem?_eq_none h1] at this
theorem ne_empty (s : ByteArray) (h : 0 < s.size) : s.toList.isEmpty = false := by
  rw [Lib.toList_data]
  cases hl : s.data.toList with
  | nil =>
    have h2 : s.data.toList.length = s.size := by rw [Array.length_toList]; rfl
    rw [hl, List.length_nil] at h2
    omega
  | cons a r => rfl
/-- How many bytes ntexts have together. -/
def ntotal (ss : List ByteArray) : Nat := (ss.map ByteArray.size).sum
/-- The bytes of ntexts, each behind its length. -/
def ntexts (ss : List ByteArray) : List UInt8 := (ss.map fun s => Lib.uvarint s.size ++ s.data.toList).flatten
theorem ntexts_snoc (ss : List ByteArray) (s : ByteArray) : ntexts (ss ++ [s]) = ntexts ss ++ (Lib.uvarint s.size ++ s.data.toList) := by simp [ntexts]
theorem ntexts_length : ∀ (ss : List ByteArray), (∀ s ∈ ss, s.size ≤ maxLen) → (ntexts ss).length ≤ 10 * ss.length + ntotal ss
  | [], _ => by simp [ntexts, ntotal]
  | s :: r, h => by
    have hs := h s (by simp)
    unfold maxLen at hs
    have h1 := Lib.uvarint_length64 (x := s.size) (by omega)
    have h2 := ntexts_length r (fun x hx => h x (by simp [hx]))
    have h3 : s.data.toList.length = s.size := by rw [Array.length_toList]; rfl
    simp only [ntexts, ntotal, List.map_cons, List.flatten_cons, List.length_append, List.length_cons, List.sum_cons] at *
    omega
theorem ntotal_take (ss : List ByteArray) (k : Nat) (h : k < ss.length) : ntotal (ss.take k) + ss[k].size ≤ ntotal ss := by
  have h1 : ss = ss.take k ++ (ss[k] :: ss.drop (k + 1)) := by
    rw [← List.drop_eq_getElem_cons h, List.take_append_drop]
  have h2 := congrArg ntotal h1
  unfold ntotal at h2 ⊢
  rw [List.map_append, List.sum_append, List.map_cons, List.sum_cons] at h2
  omega
theorem len_data' (s : ByteArray) : s.data.toList.length = s.size := by rw [Array.length_toList]; rfl
end Go.Proofs.YtfndlfnlepndmaaGreat
