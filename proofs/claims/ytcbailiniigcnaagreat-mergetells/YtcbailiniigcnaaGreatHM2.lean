/- merge's heads: Swap, Len, Push, Pop. -/
import Derived.Test.YtcbailiniigcnaaGreatHM1
import Derived.BigQuiet
namespace Go.Proofs.YtcbailiniigcnaaGreat
open Go.ChangeShapes Go.WideShapes Go.ChangeAt Go.Deep Go.RowKit Go.Lib

theorem hrow_set {w : World} {e : TypeId} {size : Nat} {v : Value} {n : Nat} {xs : List Value} (h : Row w e size v n xs) {g o m : Nat} {c : Nat} (hv : v = .slice (some ⟨g, o, none⟩) m c) (ho : o = 0) (j : Nat) (hj : j < n * size) (u : Value) :
    Row (w.setCell ⟨g, o + j, none⟩ u) e size v n (xs.set j u) := by
  subst ho
  rw [Nat.zero_add]
  refine ⟨by rw [List.length_set]; exact h.1, ?_⟩
  rcases h.2 with ⟨rfl, -⟩ | ⟨g', cap, cur, hv', hgg, h1, h2, h3, h4⟩
  · omega
  · rw [hv] at hv'
    simp only [Value.slice.injEq, Option.some.injEq, Addr.mk.injEq, and_true] at hv'
    obtain ⟨rfl, rfl, rfl⟩ := hv'
    refine .inr ⟨g, cap, cur.setIfInBounds j u, hv, heap_setCell_same w g j _ _ _ hgg, h1, h2, by rw [Array.size_setIfInBounds]; exact h3, ?_⟩
    rw [Array.toList_setIfInBounds, List.take_set, h4]
theorem hrow_warm {w : World} {e : TypeId} {size : Nat} {v : Value} {n : Nat} {xs : List Value} (h : Row w e size v n xs) {g o m : Nat} {c : Nat} (hv : v = .slice (some ⟨g, o, none⟩) m c) (hn : 0 < n) (j : Nat) : w.frozen? ⟨g, j, none⟩ = false := by
  rcases h.2 with ⟨rfl, -⟩ | ⟨g', cap, cur, hv', hgg, h1, h2, h3, h4⟩
  · omega
  · rw [hv] at hv'
    simp only [Value.slice.injEq, Option.some.injEq, Addr.mk.injEq, and_true] at hv'
    obtain ⟨⟨rfl, -⟩, rfl, rfl⟩ := hv'
    simp [World.frozen?, hgg]
theorem cellsH_set : ∀ (H : List Hd) (i : Nat) (x : Hd), i < H.length → cellsH (H.set i x) = ((cellsH H).set (i * 2) (.slice x.a x.l.length x.c)).set (i * 2 + 1) (.int .i64 (x.i : Int))
  | y :: H, 0, x, _ => rfl
  | y :: H, i + 1, x, h => by
    have ih := cellsH_set H i x (by simpa using h)
    have e : cellsH (y :: H) = .slice y.a y.l.length y.c :: .int .i64 (y.i : Int) :: cellsH H := rfl
    have e2 : cellsH (y :: H.set i x) = .slice y.a y.l.length y.c :: .int .i64 (y.i : Int) :: cellsH (H.set i x) := rfl
    rw [List.set_cons_succ, e, e2, ih, show (i + 1) * 2 = i * 2 + 1 + 1 by omega, show i * 2 + 1 + 1 + 1 = (i * 2 + 1) + 1 + 1 by omega, List.set_cons_succ, List.set_cons_succ, List.set_cons_succ, List.set_cons_succ]
/-- A box that holds a slice of heads of the call's own. -/
def HpAt (w : World) (p : Nat) (v : Value) (H : List Hd) : Prop := w.heap[p]? = some (.cells #[v] 167 (0, 0)) ∧ Row w 170 2 v H.length (cellsH H)
theorem HpAt.lt {w : World} {p : Nat} {v : Value} {H : List Hd} (h : HpAt w p v H) : p < w.heap.size := (Array.getElem?_eq_some_iff.1 h.1).1
theorem HpAt.cell {w : World} {p : Nat} {v : Value} {H : List Hd} (h : HpAt w p v H) : w.cell? ⟨p, 0, none⟩ = some v := by unfold World.cell?; rw [h.1]; rfl
theorem HpAt.warm {w : World} {p : Nat} {v : Value} {H : List Hd} (h : HpAt w p v H) (j : Nat) : w.frozen? ⟨p, j, none⟩ = false := by unfold World.frozen?; rw [h.1]; simp
theorem HpAt.apart {w : World} {p : Nat} {v : Value} {H : List Hd} (h : HpAt w p v H) : ob v ≠ some p := by
  intro e
  rcases h.2.2 with ⟨-, rfl | ⟨b, o, rfl⟩⟩ | ⟨g, cap, cur, rfl, hg, -⟩
  · cases e
  · cases e
  · obtain rfl : g = p := by simpa [ob] using e
    rw [h.1] at hg
    cases hg
theorem HpAt.kept {w w' : World} {p : Nat} {v : Value} {H : List Hd} (h : HpAt w p v H) (hk : ∀ k, (k = p ∨ ob v = some k) → w'.heap[k]? = w.heap[k]?) : HpAt w' p v H :=
  ⟨(hk p (.inl rfl)).trans h.1, h.2.kept fun k hv => hk k (.inr hv)⟩
/-- The blocks of a heap. -/
def hblk (p : Nat) (v : Value) : List Nat := p :: (ob v).toList
theorem mem_hblk {p : Nat} {v : Value} {k : Nat} : k ∈ hblk p v ↔ k = p ∨ ob v = some k := by
  unfold hblk
  cases ob v with
  | none => simp
  | some x => simp [eq_comm]
theorem HpAt.below {w w' : World} {p : Nat} {v : Value} {H : List Hd} (h : HpAt w p v H) (hb : Below w.heap.size w w') : HpAt w' p v H :=
  h.kept fun k hk => hb.block k (by
    rcases hk with rfl | hk
    · exact h.lt
    · exact h.2.lt k hk)
theorem hlen_any (A : Option Addr) (n c : Nat) (w : World) : Calls Tryz.prog 86 #[.slice A n c] w fun e w' => e = .returned (.int .i64 (n : Int)) ∧ w = w' := by
  go_enter Tryz.func86, Tryz.ntmps86
  go_wp2
  go_ret
  exact ⟨rfl, rfl⟩
set_option maxHeartbeats 4000000 in
set_option maxRecDepth 100000 in
theorem hswap_any (g o n c : Nat) (H : List Hd) (i j : Nat) (w : World) (hR : Row w 170 2 (.slice (some ⟨g, o, none⟩) n c) H.length (cellsH H)) (ho : o = 0) (hn : n = H.length) (hi : i < H.length) (hj : j < H.length) :
    Calls Tryz.prog 142 #[.slice (some ⟨g, o, none⟩) n c, .int .i64 (i : Int), .int .i64 (j : Int)] w fun e w' => e = .returned (.tuple #[]) ∧ Row w' 170 2 (.slice (some ⟨g, o, none⟩) n c) H.length (cellsH (swH H i j)) ∧ Turn [g] w w' := by
  have hH := hsAt_of hR hn
  obtain ⟨a0, a1⟩ := hH i hi
  obtain ⟨b0, b1⟩ := hH j hj
  have hwm := fun k => hrow_warm hR rfl (by omega) k
  have f0 := hwm (o + i * 2)
  have f1 := hwm (o + i * 2 + 1)
  have f2 := hwm (o + j * 2)
  have f3 := hwm (o + j * 2 + 1)
  have u1 : (0 : Int) ≤ (i : Int) := by omega
  have u2 : (i : Int) < (n : Int) := by omega
  have u3 : (0 : Int) ≤ (j : Int) := by omega
  have u4 : (j : Int) < (n : Int) := by omega
  have HF := Lib.hid (show ∀ W, Row W 170 2 (.slice (some ⟨g, o, none⟩) n c) H.length (cellsH H) → Turn [] w W → Row ((((W.setCell ⟨g, o + i * 2, none⟩ (.slice (H.getD j Hd.zero).a (H.getD j Hd.zero).l.length (H.getD j Hd.zero).c)).setCell ⟨g, o + i * 2 + 1, none⟩ (.int .i64 ((H.getD j Hd.zero).i : Int))).setCell ⟨g, o + j * 2, none⟩ (.slice (H.getD i Hd.zero).a (H.getD i Hd.zero).l.length (H.getD i Hd.zero).c)).setCell ⟨g, o + j * 2 + 1, none⟩ (.int .i64 ((H.getD i Hd.zero).i : Int))) 170 2 (.slice (some ⟨g, o, none⟩) n c) H.length (cellsH (swH H i j)) ∧ Turn [g] w ((((W.setCell ⟨g, o + i * 2, none⟩ (.slice (H.getD j Hd.zero).a (H.getD j Hd.zero).l.length (H.getD j Hd.zero).c)).setCell ⟨g, o + i * 2 + 1, none⟩ (.int .i64 ((H.getD j Hd.zero).i : Int))).setCell ⟨g, o + j * 2, none⟩ (.slice (H.getD i Hd.zero).a (H.getD i Hd.zero).l.length (H.getD i Hd.zero).c)).setCell ⟨g, o + j * 2 + 1, none⟩ (.int .i64 ((H.getD i Hd.zero).i : Int))) from fun W hW ht => by
    subst hn
    constructor
    · have h1 := hrow_set hW rfl ho (i * 2) (by omega) (.slice (H.getD j Hd.zero).a (H.getD j Hd.zero).l.length (H.getD j Hd.zero).c)
      have h2 := hrow_set h1 rfl ho (i * 2 + 1) (by omega) (.int .i64 ((H.getD j Hd.zero).i : Int))
      have h3 := hrow_set h2 rfl ho (j * 2) (by omega) (.slice (H.getD i Hd.zero).a (H.getD i Hd.zero).l.length (H.getD i Hd.zero).c)
      have h4 := hrow_set h3 rfl ho (j * 2 + 1) (by omega) (.int .i64 ((H.getD i Hd.zero).i : Int))
      unfold swH
      rw [cellsH_set _ _ _ (by rw [List.length_set]; exact hj), cellsH_set _ _ _ hi]
      exact h4
    · exact ((((ht.mono (by simp)).setCell (.inl (by simp)) _).setCell (.inl (by simp)) _).setCell (.inl (by simp)) _).setCell (.inl (by simp)) _)
  have HR := Lib.hid hR
  clear hwm hH hR ho
  generalize H.getD i Hd.zero = X at *
  generalize H.getD j Hd.zero = Y at *
  obtain ⟨Xa, Xc, Xl, Xi⟩ := X
  obtain ⟨Ya, Yc, Yl, Yi⟩ := Y
  simp only at *
  generalize Xl.length = xl at *
  generalize Yl.length = yl at *
  by_cases e : i = j
  · subst e
    have k0 := Option.some.inj (a0.symm.trans b0)
    have k1 := Option.some.inj (a1.symm.trans b1)
    simp only [Value.slice.injEq, Value.int.injEq, true_and] at k0 k1
    obtain ⟨rfl, rfl, rfl⟩ := k0
    obtain rfl : Xi = Yi := by omega
    clear b0 b1 f2 f3 u3 u4
    go_enter Tryz.func142, Tryz.ntmps142
    go_wp2
    go_region_with (fail)
    all_goals go_wp2
    all_goals first | go_end0 | refine bodyPost_ret (results_none rfl _ _ _) rfl ?_
    all_goals (
      obtain ⟨r1, r2⟩ := HF.out _ HR.out (Turn.refl _ _)
      exact ⟨rfl, r1.kept (fun _ _ => rfl), r2.drew⟩)
  · have d1 : ¬ j = i := fun h => e h.symm
    have d2 : ¬ o + j * 2 = o + i * 2 := by omega
    have d3 : ¬ o + j * 2 = o + i * 2 + 1 := by omega
    have d4 : ¬ o + j * 2 + 1 = o + i * 2 := by omega
    have d5 : ¬ o + j * 2 + 1 = o + i * 2 + 1 := by omega
    have d6 : ¬ o + i * 2 = o + j * 2 := by omega
    have d7 : ¬ o + i * 2 = o + j * 2 + 1 := by omega
    have d8 : ¬ o + i * 2 + 1 = o + j * 2 := by omega
    have d9 : ¬ o + i * 2 + 1 = o + j * 2 + 1 := by omega
    go_enter Tryz.func142, Tryz.ntmps142
    go_wp2
    go_region_with (fail)
    all_goals go_wp2
    all_goals first | go_end0 | refine bodyPost_ret (results_none rfl _ _ _) rfl ?_
    all_goals (
      obtain ⟨r1, r2⟩ := HF.out _ HR.out (Turn.refl _ _)
      exact ⟨rfl, r1.kept (fun _ _ => rfl), r2.drew⟩)
end Go.Proofs.YtcbailiniigcnaaGreat
