/- SameEntries alone (where the seat has no Book). -/
import Derived.Test.YtmnboiikopkaoaaGreatBE
import Derived.Test.YtmnboiikopkaoaaGreatRows
import Derived.Below
import Derived.Maps.AppendAt
import Derived.WalkKit
import Derived.OwnWalk
import Derived.WalkSpells
import Derived.WalkLawsBesides
import Derived.BigCall
import Derived.Laws.IdiomStrings
import Derived.Laws.BitsAllLaws
import Derived.Lib.Slices
import Derived.Outline
import Derived.Lib.BufferRead
import Derived.Lib.Hide
import Derived.BigQuiet
import Derived.Deep.QuietTactic
import Derived.Deep.RegionHeld3
import Derived.Laws.AppendOwnNone
namespace Go.Proofs.YtmnboiikopkaoaaGreat
open Go.RowKit

/-- A row: its type, the cells of an element, the slice, how many elements, the cells. With an object: a block that is that object, and no row. -/
structure Rw where
  e : TypeId
  size : Nat
  v : Value
  n : Nat
  xs : List Value
  ob : Option Obj
def Rw.ok (B : Nat) (w : World) (r : Rw) : Prop :=
  match r.ob with
  | none => w.ownsRow B r.e r.size r.v r.n r.xs
  | some o => ∃ g, r.v = .slice (some ⟨g, 0, none⟩) 0 0 ∧ B ≤ g ∧ w.heap[g]? = some o
def Rw.off (r s : Rw) : Prop := r.v.ownBlock = none ∨ r.v.ownBlock ≠ s.v.ownBlock
theorem Rw.ok.row {B : Nat} {w : World} {r : Rw} (h : r.ok B w) (h0 : r.ob = none) : w.ownsRow B r.e r.size r.v r.n r.xs := by
  unfold Rw.ok at h
  rw [h0] at h
  exact h
/-- A row's cells, read. -/
theorem Rw.ok.cell {B : Nat} {w : World} {r : Rw} (h : r.ok B w) {g : Nat} (hg : r.v.ownBlock = some g) (j : Nat) (u : Value) (hj : r.xs[j]? = some u) (h0 : r.ob = none := by rfl) : w.cell? ⟨g, j, none⟩ = some u := by
  have h1 := World.ownsRow.cells (h.row h0) hg j u hj
  have hadd : (⟨g, 0, none⟩ : Addr).add j = ⟨g, j, none⟩ := by unfold Addr.add; split <;> simp_all
  rwa [hadd] at h1
theorem Rw.ok.slice {B : Nat} {w : World} {r : Rw} (h : r.ok B w) (h0 : r.ob = none := by rfl) : (r.v = .slice none 0 0 ∧ r.n = 0 ∧ r.xs = []) ∨ ∃ g cap, r.v = .slice (some ⟨g, 0, none⟩) r.n cap ∧ r.v.ownBlock = some g ∧ B ≤ g ∧ g < w.heap.size ∧ r.n ≤ cap := by
  have hr := h.row h0
  rcases hr.2 with ⟨hv, hn⟩ | ⟨g, cap, cur, hv, hb, hgg, hc, _⟩
  · refine .inl ⟨hv, hn, ?_⟩
    have := hr.1
    rw [hn] at this
    exact List.eq_nil_of_length_eq_zero (by omega)
  · exact .inr ⟨g, cap, hv, by rw [hv]; rfl, hb, (Array.getElem?_eq_some_iff.1 hgg).1, hc⟩
theorem drewN_add' (w : World) (a b : Nat) : (w.drewN a).drewN b = w.drewN (a + b) := by
  show World.mk _ _ _ _ _ = _
  first | rfl | (simp [World.drewN, Nat.add_assoc])
structure ElEntries where
  f0 : ByteArray
  f1 : Nat
  f2 : Int
  f3 : ByteArray
def ElEntries.cells (z : ElEntries) : List Value := [.string z.f0, .int .u64 (z.f1 : Int), .int .i64 z.f2, .string z.f3]
set_option maxHeartbeats 1000000 in
set_option maxRecDepth 100000 in
theorem sameEntries_some (g off0 cap0 b off cap : Nat) (zs : List ElEntries) (w : World) (hl : zs.length ≤ 1000000) (h0 : ∀ i (h : i < zs.length) j u, zs[i].cells[j]? = some u → w.cell? ⟨g, off0 + i * 4 + j, none⟩ = some u) (h1 : ∀ i (h : i < zs.length) j u, zs[i].cells[j]? = some u → w.cell? ⟨b, off + i * 4 + j, none⟩ = some u) :
    Calls Tryz.prog 15 #[.slice (some ⟨g, off0, none⟩) zs.length cap0, .slice (some ⟨b, off, none⟩) zs.length cap] w fun e w' => e = .returned (.bool true) ∧ ∃ n, w' = w.drewN n := by
  have H0 := Lib.hid h0
  have H1 := Lib.hid h1
  clear h0 h1
  go_enter Tryz.func15, Tryz.ntmps15
  go_wp2
  go_loopw [5] (fun i wr => ∃ k n : Nat, k ≤ zs.length ∧ i = .int .i64 k ∧ wr = w.drewN n) (fun i _ => zs.length - (intOf i).toNat)
  case atStart => exact ⟨0, 0, Nat.zero_le _, rfl, rfl⟩
  case round =>
    obtain ⟨k, n, hk, rfl, rfl⟩ := hrel
    by_cases hlt : k < zs.length
    · have hx0 := H0.out k hlt 0 _ rfl
      have hy0 := H1.out k hlt 0 _ rfl
      have hx1 := H0.out k hlt 1 _ rfl
      have hy1 := H1.out k hlt 1 _ rfl
      have hx2 := H0.out k hlt 2 _ rfl
      have hy2 := H1.out k hlt 2 _ rfl
      have hx3 := H0.out k hlt 3 _ rfl
      have hy3 := H1.out k hlt 3 _ rfl
      generalize zs[k] = z at hx0 hy0 hx1 hy1 hx2 hy2 hx3 hy3
      obtain ⟨f0, f1, f2, f3⟩ := z
      simp only [Nat.add_zero] at hx0 hy0 hx1 hy1 hx2 hy2 hx3 hy3
      have hk0 : (k : Int) < (zs.length : Int) := by omega
      go_wp2
      go_quiet (fail)
      go_wp2
      go_roundw
      case rel => exact ⟨k + 1, n + nq, by omega, by go_num, by first | rfl | (rw [drewN_add'])⟩
      case measure => simp [intOf]; omega
    · go_wp2
      go_ret
      exact ⟨rfl, n, rfl⟩
set_option maxHeartbeats 1000000 in
theorem sameEntries_none (a0 a1 : Option Addr) (cap0 cap : Nat) (w : World) :
    Calls Tryz.prog 15 #[.slice a0 0 cap0, .slice a1 0 cap] w fun e w' => e = .returned (.bool true) ∧ ∃ n, w' = w.drewN n := by
  go_enter Tryz.func15, Tryz.ntmps15
  go_wp2
  refine wp_loop_rounds 1 ?_
  rw [rounds_succ]
  go_wp2
  go_ret
  exact ⟨rfl, 0, rfl⟩
end Go.Proofs.YtmnboiikopkaoaaGreat
