/- Versions in memory; skip's fresh. -/
import Derived.Test.YthaalhigmihijabGreatE2
import Derived.Test.YthaalhigmihijabGreatFR
namespace Go.Proofs.YthaalhigmihijabGreat
open Go.RowKit

theorem cloneE (s : ByteArray) (w : World) (h : s.size ≤ 281474976710656) :
    Calls Tryz.prog 140 #[.string s] w fun e w' => e = .returned (.string s) ∧ Below w.heap.size w w' := by
  go_enter Tryz.func140, Tryz.ntmps140
  go_wp2_with (go_at_call 147; refine (Tryz.stringslite_Clone s _ h).mono ?_; rintro e w' ⟨rfl, hb⟩)
  go_ret
  exact ⟨rfl, hb⟩
theorem soe {w : World} {b i j : Nat} {u v : Value} (h : w.cell? ⟨b, j, none⟩ = some v) (hne : i ≠ j) : (w.setCell ⟨b, i, none⟩ u).cell? ⟨b, j, none⟩ = some v :=
  (World.cell?_setCell_other w _ _ u (fun e => hne (by cases e; rfl))).trans h
theorem sce {w : World} {b i : Nat} {u v : Value} (h : w.cell? ⟨b, i, none⟩ = some u) : (w.setCell ⟨b, i, none⟩ v).cell? ⟨b, i, none⟩ = some v := World.cell?_setCell_same w _ v h
theorem new_block (w : World) (o : Obj) {n : Nat} (hn : n = w.heap.size) : (w.alloc o).heap[n]? = some o := by
  subst hn
  simp [World.alloc, -World.alloc_eq]
/-- A version in a box of its own. -/
def Boxe (B : Nat) (k : ByteArray) (s n : Int) (v : ByteArray) (w : World) : Prop :=
  w.heap[B]? = some (.cells #[.string k, .int .u64 s, .int .i64 n, .string v] 34)
section
variable {B : Nat} {k : ByteArray} {s n : Int} {v : ByteArray} {w : World}
theorem Boxe.lt (h : Boxe B k s n v w) : B < w.heap.size := (Array.getElem?_eq_some_iff.1 h).1
theorem Boxe.c0 (h : Boxe B k s n v w) : w.cell? ⟨B, 0, none⟩ = some (.string k) := by unfold World.cell?; rw [show w.heap[B]? = _ from h]; rfl
theorem Boxe.c1 (h : Boxe B k s n v w) : w.cell? ⟨B, 1, none⟩ = some (.int .u64 s) := by unfold World.cell?; rw [show w.heap[B]? = _ from h]; rfl
theorem Boxe.c2 (h : Boxe B k s n v w) : w.cell? ⟨B, 2, none⟩ = some (.int .i64 n) := by unfold World.cell?; rw [show w.heap[B]? = _ from h]; rfl
theorem Boxe.c3 (h : Boxe B k s n v w) : w.cell? ⟨B, 3, none⟩ = some (.string v) := by unfold World.cell?; rw [show w.heap[B]? = _ from h]; rfl
theorem Boxe.f (h : Boxe B k s n v w) (j : Nat) : w.frozen? ⟨B, j, none⟩ = false := by unfold World.frozen?; rw [show w.heap[B]? = _ from h]; simp
theorem Boxe.drew (h : Boxe B k s n v w) : Boxe B k s n v w.drew := h
theorem Boxe.below {w' : World} (h : Boxe B k s n v w) (hb : Below w.heap.size w w') : Boxe B k s n v w' := (hb.block B h.lt).trans h
end
set_option maxHeartbeats 4000000 in
set_option maxRecDepth 100000 in
theorem fresh_any (k : ByteArray) (s n : Int) (v : ByteArray) (w : World) (hk : k.size ≤ 281474976710656) (hv : v.size ≤ 281474976710656) :
    Calls Tryz.prog 108 #[ev k s n v] w fun e w' => e = .returned (ev k s n v) ∧ Below w.heap.size w w' := by
  have C1 := Lib.hid (fun w => cloneE k w hk)
  have C2 := Lib.hid (fun w => cloneE v w hv)
  unfold ev
  go_enter Tryz.func108, Tryz.ntmps108
  go_wp2
  obtain ⟨W, hW⟩ : ∃ W, ((w.alloc (.cells #[.string k, .int .u64 s, .int .i64 n, .string v] 34)).alloc (.cells #[.string ⟨#[]⟩, .int .u64 0, .int .i64 0, .string ⟨#[]⟩] 34)) = W := ⟨_, rfl⟩
  have hB : Below w.heap.size w W := by rw [← hW]; exact ((Below.refl _ _).alloc (Nat.le_refl _) _).alloc (by simp) _
  have x0 : Boxe w.heap.size k s n v W := by rw [← hW]; exact (Below.heap_alloc _ _ _ (by simp)).trans (new_block _ _ rfl)
  have y0 : Boxe (w.heap.size + 1) ⟨#[]⟩ 0 0 ⟨#[]⟩ W := by rw [← hW]; exact new_block _ _ (by simp)
  rw [hW]
  clear hW
  have c0 := x0.c0
  have c3 := x0.c3
  go_region_held3 (fun w' => w'.cell? ⟨w.heap.size, 0, none⟩ = some (.string k) ∧ w'.cell? ⟨w.heap.size, 3, none⟩ = some (.string v)) (first | go_keep | exact ⟨c10, c13⟩ | exact ⟨c20, c23⟩ | exact ⟨sce c20, soe c23 (by decide)⟩ | exact ⟨soe (sce c20) (by decide), sce (soe c23 (by decide))⟩) (first | (go_at_call 140; refine (C1.out _).mono ?_; rintro e w1 ⟨rfl, hb1⟩; have x1 := x0.drew.below hb1; have y1 := y0.drew.below hb1; have c10 := x1.c0; have c13 := x1.c3) | (go_at_call 140; refine (C2.out _).mono ?_; rintro e w2 ⟨rfl, hb2⟩; have x2 := x1.below hb2; have y2 := y1.below hb2; have c20 := x2.c0; have c21 := x2.c1; have c22 := x2.c2; have c23 := x2.c3; have f20 := x2.f 0; have f23 := x2.f 3; have d20 := y2.c0; have d21 := y2.c1; have d22 := y2.c2; have d23 := y2.c3; have g20 := y2.f 0; have g21 := y2.f 1; have g22 := y2.f 2; have g23 := y2.f 3) | fail)
  all_goals go_wp2
  all_goals
    have hs : w.heap.size < w1.heap.size := x1.lt
    have h1 : Below w.heap.size w w2 := (hB.drew.trans (hb1.mono hB.size)).trans (hb2.mono (by omega))
    refine bodyPost_ret (by simp [results, Tryz.results108, go_sem, d20, d21, d22, d23]; try rfl) rfl ?_
    exact ⟨rfl, (((((h1.setCell (Nat.le_refl _) _).setCell (Nat.le_refl _) _).setCell (Nat.le_succ _) _).setCell (Nat.le_succ _) _).setCell (Nat.le_succ _) _).setCell (Nat.le_succ _) _⟩
structure Ent where
  k : ByteArray
  s : Int
  n : Int
  v : ByteArray
def Ent.zero : Ent := ⟨⟨#[]⟩, 0, 0, ⟨#[]⟩⟩
def Ent.cells (e : Ent) : List Value := [.string e.k, .int .u64 e.s, .int .i64 e.n, .string e.v]
def Ent.val (e : Ent) : Value := ev e.k e.s e.n e.v
/-- A slice of versions: there are none, or they lie in one block. -/
def EntsAt (n₀ : Nat) (w : World) (a : Option Addr) (len : Nat) (es : List Ent) : Prop :=
  es.length = len ∧ (len = 0 ∨ ∃ b off, a = some ⟨b, off, none⟩ ∧ b < n₀ ∧ ∀ i (h : i < es.length), ∀ j u, es[i].cells[j]? = some u → w.cell? ⟨b, off + i * 4 + j, none⟩ = some u)
theorem EntsAt.below {n₀ : Nat} {A B : World} {a : Option Addr} {len : Nat} {es : List Ent} (h : EntsAt n₀ A a len es) (hb : Below n₀ A B) : EntsAt n₀ B a len es := by
  refine ⟨h.1, ?_⟩
  rcases h.2 with h0 | ⟨b, off, e, hlt, hc⟩
  · exact .inl h0
  · exact .inr ⟨b, off, e, hlt, fun i hi j u hu => (hb.cell (p := ⟨b, off + i * 4 + j, none⟩) hlt).trans (hc i hi j u hu)⟩
theorem EntsAt.mono {n₀ n₁ : Nat} {w : World} {a : Option Addr} {len : Nat} {es : List Ent} (h : EntsAt n₀ w a len es) (hn : n₀ ≤ n₁) : EntsAt n₁ w a len es := by
  refine ⟨h.1, ?_⟩
  rcases h.2 with h0 | ⟨b, off, e, hlt, hc⟩
  · exact .inl h0
  · exact .inr ⟨b, off, e, Nat.lt_of_lt_of_le hlt hn, hc⟩
end Go.Proofs.YthaalhigmihijabGreat
