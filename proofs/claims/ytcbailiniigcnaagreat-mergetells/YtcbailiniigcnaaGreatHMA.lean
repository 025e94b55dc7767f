/- The heads of lists in memory: methods, less, swap, up (HM1 HM2 HM3). -/
import Derived.Test.YtcbailiniigcnaaGreatHM0
import Derived.Deep.RegionHeld3
import Derived.BigQuiet
namespace Go.Proofs.YtcbailiniigcnaaGreat
open Go.RowKit

theorem mPush (k : Nat) (a : Addr) (w : World) : (method (k + 1) 100 (.pointer (some a)) "Push").run Tryz.prog w = .ok (141, .pointer (some a)) w := by kernel_rfl
theorem mPop (k : Nat) (a : Addr) (w : World) : (method (k + 1) 100 (.pointer (some a)) "Pop").run Tryz.prog w = .ok (140, .pointer (some a)) w := by kernel_rfl
theorem mLess0 (k : Nat) (a : Addr) (w : World) : (method (k + 1) 100 (.pointer (some a)) "Less").run Tryz.prog w = (do pure (139, ← loadVar 167 a) : Sem (FuncId × Value)).run Tryz.prog w := by kernel_rfl
theorem mSwap0 (k : Nat) (a : Addr) (w : World) : (method (k + 1) 100 (.pointer (some a)) "Swap").run Tryz.prog w = (do pure (142, ← loadVar 167 a) : Sem (FuncId × Value)).run Tryz.prog w := by kernel_rfl
theorem mLen0 (k : Nat) (a : Addr) (w : World) : (method (k + 1) 100 (.pointer (some a)) "Len").run Tryz.prog w = (do pure (86, ← loadVar 167 a) : Sem (FuncId × Value)).run Tryz.prog w := by kernel_rfl
theorem mLess (k p : Nat) (A : Option Addr) (n c : Nat) (w : World) (h : w.cell? ⟨p, 0, none⟩ = some (.slice A n c)) : (method (k + 1) 100 (.pointer (some ⟨p, 0, none⟩)) "Less").run Tryz.prog w = .ok (139, .slice A n c) w := by
  rw [mLess0]
  simp [go_sem, h]
theorem mSwap (k p : Nat) (A : Option Addr) (n c : Nat) (w : World) (h : w.cell? ⟨p, 0, none⟩ = some (.slice A n c)) : (method (k + 1) 100 (.pointer (some ⟨p, 0, none⟩)) "Swap").run Tryz.prog w = .ok (142, .slice A n c) w := by
  rw [mSwap0]
  simp [go_sem, h]
theorem mLen (k p : Nat) (A : Option Addr) (n c : Nat) (w : World) (h : w.cell? ⟨p, 0, none⟩ = some (.slice A n c)) : (method (k + 1) 100 (.pointer (some ⟨p, 0, none⟩)) "Len").run Tryz.prog w = .ok (86, .slice A n c) w := by
  rw [mLen0]
  simp [go_sem, h]

def Hd.cells (h : Hd) : List Value := [.slice h.a h.l.length h.c, .int .i64 (h.i : Int)]
def Hd.val (h : Hd) : Value := .agg #[.slice h.a h.l.length h.c, .int .i64 (h.i : Int)]
def cellsH (H : List Hd) : List Value := H.flatMap Hd.cells
theorem cellsH_length : ∀ H : List Hd, (cellsH H).length = H.length * 2
  | [] => rfl
  | x :: H => by
    have := cellsH_length H
    unfold cellsH at this ⊢
    rw [List.flatMap_cons, List.length_append, this]
    simp [Hd.cells]
    omega
theorem cellsH_get : ∀ (H : List Hd) (k : Nat), k < H.length → (cellsH H)[k * 2]? = some (.slice (H.getD k Hd.zero).a (H.getD k Hd.zero).l.length (H.getD k Hd.zero).c) ∧ (cellsH H)[k * 2 + 1]? = some (.int .i64 ((H.getD k Hd.zero).i : Int))
  | x :: H, 0, _ => ⟨rfl, rfl⟩
  | x :: H, k + 1, h => by
    obtain ⟨h1, h2⟩ := cellsH_get H k (by simpa using h)
    have e : cellsH (x :: H) = .slice x.a x.l.length x.c :: .int .i64 (x.i : Int) :: cellsH H := rfl
    rw [e, List.getD_cons_succ]
    constructor
    · rw [show (k + 1) * 2 = k * 2 + 1 + 1 by omega, List.getElem?_cons_succ, List.getElem?_cons_succ]; exact h1
    · rw [show (k + 1) * 2 + 1 = k * 2 + 1 + 1 + 1 by omega, List.getElem?_cons_succ, List.getElem?_cons_succ]; exact h2
/-- The versions that wait of one list can be read. -/
def HdAt (n₀ : Nat) (w : World) (h : Hd) : Prop := ∃ b off, h.a = some ⟨b, off, none⟩ ∧ b < n₀ ∧ (h.l ≠ [] ∧ h.l.length ≤ h.c) ∧ ∀ i (hi : i < h.l.length), ∀ j u, h.l[i].cells[j]? = some u → w.cell? ⟨b, off + i * 4 + j, none⟩ = some u
theorem HdAt.below {n₀ : Nat} {A B : World} {h : Hd} (hh : HdAt n₀ A h) (hb : Below n₀ A B) : HdAt n₀ B h := by
  obtain ⟨b, off, e, hlt, hne, hc⟩ := hh
  exact ⟨b, off, e, hlt, hne, fun i hi j u hu => (hb.cell (p := ⟨b, off + i * 4 + j, none⟩) hlt).trans (hc i hi j u hu)⟩
theorem HdAt.mono_base {m n₀ : Nat} {w : World} {h : Hd} (hh : HdAt n₀ w h) (hm : n₀ ≤ m) : HdAt m w h := by
  obtain ⟨b, off, e, hlt, rest⟩ := hh
  exact ⟨b, off, e, Nat.lt_of_lt_of_le hlt hm, rest⟩
theorem HdAt.turn {n₀ : Nat} {A B : World} {h : Hd} {F : List Nat} (hh : HdAt n₀ A h) (ht : Turn F A B) (hn : n₀ ≤ A.heap.size) (hF : ∀ x ∈ F, n₀ ≤ x) : HdAt n₀ B h := hh.below (ht.below hn hF)
/-- The first one that waits, in memory. -/
theorem HdAt.first {n₀ : Nat} {w : World} {h : Hd} (hh : HdAt n₀ w h) : ∃ b off, h.a = some ⟨b, off, none⟩ ∧ b < n₀ ∧ w.cell? ⟨b, off, none⟩ = some (.string h.e.k) ∧ w.cell? ⟨b, off + 1, none⟩ = some (.int .u64 h.e.s) ∧ w.cell? ⟨b, off + 2, none⟩ = some (.int .i64 h.e.n) ∧ w.cell? ⟨b, off + 3, none⟩ = some (.string h.e.v) := by
  obtain ⟨b, off, e, hlt, hne, hc⟩ := hh
  refine ⟨b, off, e, hlt, ?_⟩
  have hp : 0 < h.l.length := by
    cases hl : h.l with
    | nil => exact absurd hl hne.1
    | cons x r => simp
  have he : h.l[0]'hp = h.e := by
    unfold Hd.e
    rw [List.headD_eq_head?_getD, List.head?_eq_getElem?, List.getElem?_eq_getElem hp]
    rfl
  have h1 := hc 0 hp
  rw [he] at h1
  simp only [Nat.zero_mul, Nat.add_zero] at h1
  exact ⟨h1 0 _ rfl, h1 1 _ rfl, h1 2 _ rfl, h1 3 _ rfl⟩
theorem Hd.cap {n₀ : Nat} {w : World} {h : Hd} (hh : HdAt n₀ w h) : h.l.length ≤ h.c := by
  obtain ⟨b, off, e, hlt, hne, hc⟩ := hh
  exact hne.2
theorem Hd.pos {n₀ : Nat} {w : World} {h : Hd} (hh : HdAt n₀ w h) : 0 < h.l.length := by
  obtain ⟨b, off, e, hlt, hne, hc⟩ := hh
  exact List.length_pos_iff.2 hne.1
/-- The array of heads. -/
def HsAt (w : World) (g o : Nat) (H : List Hd) : Prop := ∀ k, k < H.length → w.cell? ⟨g, o + k * 2, none⟩ = some (.slice (H.getD k Hd.zero).a (H.getD k Hd.zero).l.length (H.getD k Hd.zero).c) ∧ w.cell? ⟨g, o + k * 2 + 1, none⟩ = some (.int .i64 ((H.getD k Hd.zero).i : Int))
theorem hsAt_of {w : World} {g o n c : Nat} {H : List Hd} (hR : Row w 170 2 (.slice (some ⟨g, o, none⟩) n c) H.length (cellsH H)) (hn : n = H.length) : HsAt w g o H := by
  subst hn
  intro k hk
  obtain ⟨h1, h2⟩ := cellsH_get H k hk
  exact ⟨hR.cell g o c rfl _ _ h1, hR.cell g o c rfl _ _ h2⟩
set_option maxHeartbeats 4000000 in
set_option maxRecDepth 100000 in
theorem hless_any (g o n c : Nat) (H : List Hd) (i j : Nat) (w : World) (hH : HsAt w g o H) (hn : n = H.length) (hg : g < w.heap.size) (hi : i < H.length) (hj : j < H.length) (hx : HdAt w.heap.size w (H.getD i Hd.zero)) (hy : HdAt w.heap.size w (H.getD j Hd.zero)) :
    Calls Tryz.prog 139 #[.slice (some ⟨g, o, none⟩) n c, .int .i64 (i : Int), .int .i64 (j : Int)] w fun e w' => e = .returned (.bool (lessB (H.getD i Hd.zero) (H.getD j Hd.zero))) ∧ Below w.heap.size w w' := by
  obtain ⟨a0, a1⟩ := hH i hi
  obtain ⟨b0, b1⟩ := hH j hj
  have xp := Hd.pos hx
  have yp := Hd.pos hy
  obtain ⟨bx, ox, ex, xlt, x0, x1, x2, x3⟩ := hx.first
  obtain ⟨by_, oy, ey, ylt, y0, y1, y2, y3⟩ := hy.first
  unfold lessB ordH
  generalize H.getD i Hd.zero = X at *
  generalize H.getD j Hd.zero = Y at *
  rw [ex] at a0
  rw [ey] at b0
  have u1 : (0 : Int) ≤ (i : Int) := by omega
  have u2 : (i : Int) < (n : Int) := by omega
  have u3 : (0 : Int) ≤ (j : Int) := by omega
  have u4 : (j : Int) < (n : Int) := by omega
  have u5 : (0 : Int) < (X.l.length : Int) := by omega
  have u6 : (0 : Int) < (Y.l.length : Int) := by omega
  have C1 := Lib.hid (fun w => compare_any X.e.k X.e.s X.e.n X.e.v Y.e.k Y.e.s Y.e.n Y.e.v w)
  have C2 := Lib.hid (fun w => cmpI_any (X.i : Int) (Y.i : Int) w)
  have HK := Lib.hid (show ∀ W, Below w.heap.size w W → W.cell? ⟨g, o + i * 2, none⟩ = some (.slice (some ⟨bx, ox, none⟩) X.l.length X.c) ∧ W.cell? ⟨g, o + i * 2 + 1, none⟩ = some (.int .i64 (X.i : Int)) ∧ W.cell? ⟨g, o + j * 2, none⟩ = some (.slice (some ⟨by_, oy, none⟩) Y.l.length Y.c) ∧ W.cell? ⟨g, o + j * 2 + 1, none⟩ = some (.int .i64 (Y.i : Int)) ∧ W.cell? ⟨bx, ox, none⟩ = some (.string X.e.k) ∧ W.cell? ⟨bx, ox + 1, none⟩ = some (.int .u64 X.e.s) ∧ W.cell? ⟨bx, ox + 2, none⟩ = some (.int .i64 X.e.n) ∧ W.cell? ⟨bx, ox + 3, none⟩ = some (.string X.e.v) ∧ W.cell? ⟨by_, oy, none⟩ = some (.string Y.e.k) ∧ W.cell? ⟨by_, oy + 1, none⟩ = some (.int .u64 Y.e.s) ∧ W.cell? ⟨by_, oy + 2, none⟩ = some (.int .i64 Y.e.n) ∧ W.cell? ⟨by_, oy + 3, none⟩ = some (.string Y.e.v) from fun W hb =>
    ⟨(hb.cell (p := ⟨g, _, none⟩) hg).trans a0, (hb.cell (p := ⟨g, _, none⟩) hg).trans a1, (hb.cell (p := ⟨g, _, none⟩) hg).trans b0, (hb.cell (p := ⟨g, _, none⟩) hg).trans b1, (hb.cell (p := ⟨bx, _, none⟩) xlt).trans x0, (hb.cell (p := ⟨bx, _, none⟩) xlt).trans x1, (hb.cell (p := ⟨bx, _, none⟩) xlt).trans x2, (hb.cell (p := ⟨bx, _, none⟩) xlt).trans x3, (hb.cell (p := ⟨by_, _, none⟩) ylt).trans y0, (hb.cell (p := ⟨by_, _, none⟩) ylt).trans y1, (hb.cell (p := ⟨by_, _, none⟩) ylt).trans y2, (hb.cell (p := ⟨by_, _, none⟩) ylt).trans y3⟩)
  clear hx hy hH ex ey
  generalize cmpU (X.i : Int) (Y.i : Int) = V at *
  generalize X.e = XE at *
  generalize Y.e = YE at *
  obtain ⟨xk, xs, xn, xv⟩ := XE
  obtain ⟨yk, ys, yn, yv⟩ := YE
  simp only at *
  generalize X.l.length = xl at *
  generalize Y.l.length = yl at *
  generalize X.c = xc at *
  generalize Y.c = yc at *
  generalize (X.i : Int) = xi at *
  generalize (Y.i : Int) = yi at *
  generalize cmpE xk xs yk ys = Z at *
  have C3 := Lib.hid (fun (w1 : World) => or2_any w1.heap.size 2 Z V (w1.alloc (.cells #[.int .i64 Z, .int .i64 V] 3)) (nce rfl rfl) (nce rfl rfl))
  generalize hR : (if Z = 0 then V else Z) = R at *
  unfold ev at C1
  go_enter Tryz.func139, Tryz.ntmps139
  go_wp2
  go_region_held3 (fun W => W.cell? ⟨g, o + i * 2, none⟩ = some (.slice (some ⟨bx, ox, none⟩) xl xc) ∧ W.cell? ⟨g, o + i * 2 + 1, none⟩ = some (.int .i64 xi) ∧ W.cell? ⟨g, o + j * 2, none⟩ = some (.slice (some ⟨by_, oy, none⟩) yl yc) ∧ W.cell? ⟨g, o + j * 2 + 1, none⟩ = some (.int .i64 yi) ∧ W.cell? ⟨bx, ox, none⟩ = some (.string xk) ∧ W.cell? ⟨bx, ox + 1, none⟩ = some (.int .u64 xs) ∧ W.cell? ⟨bx, ox + 2, none⟩ = some (.int .i64 xn) ∧ W.cell? ⟨bx, ox + 3, none⟩ = some (.string xv) ∧ W.cell? ⟨by_, oy, none⟩ = some (.string yk) ∧ W.cell? ⟨by_, oy + 1, none⟩ = some (.int .u64 ys) ∧ W.cell? ⟨by_, oy + 2, none⟩ = some (.int .i64 yn) ∧ W.cell? ⟨by_, oy + 3, none⟩ = some (.string yv)) (first | exact HK.out _ (Below.refl _ _).drew | exact HK.out _ hk1 | exact HK.out _ (hk1.alloc hk1.size _) | exact HK.out _ (hk1.alloc hk1.size _).drew | fail) (first | (go_at_call 144; refine (C1.out _).mono ?_; rintro e w1 ⟨rfl, hb1⟩; have hk1 := (Below.refl w.heap.size w).drew.trans hb1) | (go_at_call 145; refine (C2.out _).mono ?_; rintro e w2 ⟨rfl, rfl⟩) | (go_at_call 143; refine (C3.out _).mono ?_; rintro e w3 ⟨rfl, rfl⟩) | fail)
  all_goals go_wp2
  all_goals go_ret
  all_goals exact ⟨rfl, hk1.alloc hk1.size _⟩
end Go.Proofs.YtcbailiniigcnaaGreat

namespace Go.Proofs.YtcbailiniigcnaaGreat
open Go.ChangeShapes Go.WideShapes Go.ChangeAt Go.Deep Go.RowKit Go.Lib

theorem hrow_set {w : World} {e : TypeId} {size : Nat} {v : Value} {n : Nat} {xs : List Value} (h : Row w e size v n xs) {g o m : Nat} {c : Nat} (hv : v = .slice (some ⟨g, o, none⟩) m c) (ho : o = 0) (j : Nat) (hj : j < n * size) (u : Value) :
    Row (w.setCell ⟨g, o + j, none⟩ u) e size v n (xs.set j u) := by
  subst ho
  rw [Nat.zero_add]
  refine ⟨by rw [List.length_set]; exact h.1, ?_⟩
  rcases h.2 with ⟨rfl, -⟩ | ⟨g', cap, cur, hv', hgg, h1, h2, h3, h4⟩
  · omega
  · rw [hv] at hv'
    simp only [Value.slice.injEq, Option.some.injEq, Addr.mk.injEq, and_true] at hv'
    obtain ⟨rfl, rfl, rfl⟩ := hv'
    refine .inr ⟨g, cap, cur.setIfInBounds j u, hv, heap_setCell_same w g j _ _ _ hgg, h1, h2, by rw [Array.size_setIfInBounds]; exact h3, ?_⟩
    rw [Array.toList_setIfInBounds, List.take_set, h4]
theorem hrow_warm {w : World} {e : TypeId} {size : Nat} {v : Value} {n : Nat} {xs : List Value} (h : Row w e size v n xs) {g o m : Nat} {c : Nat} (hv : v = .slice (some ⟨g, o, none⟩) m c) (hn : 0 < n) (j : Nat) : w.frozen? ⟨g, j, none⟩ = false := by
  rcases h.2 with ⟨rfl, -⟩ | ⟨g', cap, cur, hv', hgg, h1, h2, h3, h4⟩
  · omega
  · rw [hv] at hv'
    simp only [Value.slice.injEq, Option.some.injEq, Addr.mk.injEq, and_true] at hv'
    obtain ⟨⟨rfl, -⟩, rfl, rfl⟩ := hv'
    simp [World.frozen?, hgg]
theorem cellsH_set : ∀ (H : List Hd) (i : Nat) (x : Hd), i < H.length → cellsH (H.set i x) = ((cellsH H).set (i * 2) (.slice x.a x.l.length x.c)).set (i * 2 + 1) (.int .i64 (x.i : Int))
  | y :: H, 0, x, _ => rfl
  | y :: H, i + 1, x, h => by
    have ih := cellsH_set H i x (by simpa using h)
    have e : cellsH (y :: H) = .slice y.a y.l.length y.c :: .int .i64 (y.i : Int) :: cellsH H := rfl
    have e2 : cellsH (y :: H.set i x) = .slice y.a y.l.length y.c :: .int .i64 (y.i : Int) :: cellsH (H.set i x) := rfl
    rw [List.set_cons_succ, e, e2, ih, show (i + 1) * 2 = i * 2 + 1 + 1 by omega, show i * 2 + 1 + 1 + 1 = (i * 2 + 1) + 1 + 1 by omega, List.set_cons_succ, List.set_cons_succ, List.set_cons_succ, List.set_cons_succ]
/-- A box that holds a slice of heads of the call's own. -/
def HpAt (w : World) (p : Nat) (v : Value) (H : List Hd) : Prop := w.heap[p]? = some (.cells #[v] 167 (0, 0)) ∧ Row w 170 2 v H.length (cellsH H)
theorem HpAt.lt {w : World} {p : Nat} {v : Value} {H : List Hd} (h : HpAt w p v H) : p < w.heap.size := (Array.getElem?_eq_some_iff.1 h.1).1
theorem HpAt.cell {w : World} {p : Nat} {v : Value} {H : List Hd} (h : HpAt w p v H) : w.cell? ⟨p, 0, none⟩ = some v := by unfold World.cell?; rw [h.1]; rfl
theorem HpAt.warm {w : World} {p : Nat} {v : Value} {H : List Hd} (h : HpAt w p v H) (j : Nat) : w.frozen? ⟨p, j, none⟩ = false := by unfold World.frozen?; rw [h.1]; simp
theorem HpAt.apart {w : World} {p : Nat} {v : Value} {H : List Hd} (h : HpAt w p v H) : ob v ≠ some p := by
  intro e
  rcases h.2.2 with ⟨-, rfl | ⟨b, o, rfl⟩⟩ | ⟨g, cap, cur, rfl, hg, -⟩
  · cases e
  · cases e
  · obtain rfl : g = p := by simpa [ob] using e
    rw [h.1] at hg
    cases hg
theorem HpAt.kept {w w' : World} {p : Nat} {v : Value} {H : List Hd} (h : HpAt w p v H) (hk : ∀ k, (k = p ∨ ob v = some k) → w'.heap[k]? = w.heap[k]?) : HpAt w' p v H :=
  ⟨(hk p (.inl rfl)).trans h.1, h.2.kept fun k hv => hk k (.inr hv)⟩
/-- The blocks of a heap. -/
def hblk (p : Nat) (v : Value) : List Nat := p :: (ob v).toList
theorem mem_hblk {p : Nat} {v : Value} {k : Nat} : k ∈ hblk p v ↔ k = p ∨ ob v = some k := by
  unfold hblk
  cases ob v with
  | none => simp
  | some x => simp [eq_comm]
theorem HpAt.below {w w' : World} {p : Nat} {v : Value} {H : List Hd} (h : HpAt w p v H) (hb : Below w.heap.size w w') : HpAt w' p v H :=
  h.kept fun k hk => hb.block k (by
    rcases hk with rfl | hk
    · exact h.lt
    · exact h.2.lt k hk)
theorem hlen_any (A : Option Addr) (n c : Nat) (w : World) : Calls Tryz.prog 86 #[.slice A n c] w fun e w' => e = .returned (.int .i64 (n : Int)) ∧ w = w' := by
  go_enter Tryz.func86, Tryz.ntmps86
  go_wp2
  go_ret
  exact ⟨rfl, rfl⟩
set_option maxHeartbeats 4000000 in
set_option maxRecDepth 100000 in
theorem hswap_any (g o n c : Nat) (H : List Hd) (i j : Nat) (w : World) (hR : Row w 170 2 (.slice (some ⟨g, o, none⟩) n c) H.length (cellsH H)) (ho : o = 0) (hn : n = H.length) (hi : i < H.length) (hj : j < H.length) :
    Calls Tryz.prog 142 #[.slice (some ⟨g, o, none⟩) n c, .int .i64 (i : Int), .int .i64 (j : Int)] w fun e w' => e = .returned (.tuple #[]) ∧ Row w' 170 2 (.slice (some ⟨g, o, none⟩) n c) H.length (cellsH (swH H i j)) ∧ Turn [g] w w' := by
  have hH := hsAt_of hR hn
  obtain ⟨a0, a1⟩ := hH i hi
  obtain ⟨b0, b1⟩ := hH j hj
  have hwm := fun k => hrow_warm hR rfl (by omega) k
  have f0 := hwm (o + i * 2)
  have f1 := hwm (o + i * 2 + 1)
  have f2 := hwm (o + j * 2)
  have f3 := hwm (o + j * 2 + 1)
  have u1 : (0 : Int) ≤ (i : Int) := by omega
  have u2 : (i : Int) < (n : Int) := by omega
  have u3 : (0 : Int) ≤ (j : Int) := by omega
  have u4 : (j : Int) < (n : Int) := by omega
  have HF := Lib.hid (show ∀ W, Row W 170 2 (.slice (some ⟨g, o, none⟩) n c) H.length (cellsH H) → Turn [] w W → Row ((((W.setCell ⟨g, o + i * 2, none⟩ (.slice (H.getD j Hd.zero).a (H.getD j Hd.zero).l.length (H.getD j Hd.zero).c)).setCell ⟨g, o + i * 2 + 1, none⟩ (.int .i64 ((H.getD j Hd.zero).i : Int))).setCell ⟨g, o + j * 2, none⟩ (.slice (H.getD i Hd.zero).a (H.getD i Hd.zero).l.length (H.getD i Hd.zero).c)).setCell ⟨g, o + j * 2 + 1, none⟩ (.int .i64 ((H.getD i Hd.zero).i : Int))) 170 2 (.slice (some ⟨g, o, none⟩) n c) H.length (cellsH (swH H i j)) ∧ Turn [g] w ((((W.setCell ⟨g, o + i * 2, none⟩ (.slice (H.getD j Hd.zero).a (H.getD j Hd.zero).l.length (H.getD j Hd.zero).c)).setCell ⟨g, o + i * 2 + 1, none⟩ (.int .i64 ((H.getD j Hd.zero).i : Int))).setCell ⟨g, o + j * 2, none⟩ (.slice (H.getD i Hd.zero).a (H.getD i Hd.zero).l.length (H.getD i Hd.zero).c)).setCell ⟨g, o + j * 2 + 1, none⟩ (.int .i64 ((H.getD i Hd.zero).i : Int))) from fun W hW ht => by
    subst hn
    constructor
    · have h1 := hrow_set hW rfl ho (i * 2) (by omega) (.slice (H.getD j Hd.zero).a (H.getD j Hd.zero).l.length (H.getD j Hd.zero).c)
      have h2 := hrow_set h1 rfl ho (i * 2 + 1) (by omega) (.int .i64 ((H.getD j Hd.zero).i : Int))
      have h3 := hrow_set h2 rfl ho (j * 2) (by omega) (.slice (H.getD i Hd.zero).a (H.getD i Hd.zero).l.length (H.getD i Hd.zero).c)
      have h4 := hrow_set h3 rfl ho (j * 2 + 1) (by omega) (.int .i64 ((H.getD i Hd.zero).i : Int))
      unfold swH
      rw [cellsH_set _ _ _ (by rw [List.length_set]; exact hj), cellsH_set _ _ _ hi]
      exact h4
    · exact ((((ht.mono (by simp)).setCell (.inl (by simp)) _).setCell (.inl (by simp)) _).setCell (.inl (by simp)) _).setCell (.inl (by simp)) _)
  have HR := Lib.hid hR
  clear hwm hH hR ho
  generalize H.getD i Hd.zero = X at *
  generalize H.getD j Hd.zero = Y at *
  obtain ⟨Xa, Xc, Xl, Xi⟩ := X
  obtain ⟨Ya, Yc, Yl, Yi⟩ := Y
  simp only at *
  generalize Xl.length = xl at *
  generalize Yl.length = yl at *
  by_cases e : i = j
  · subst e
    have k0 := Option.some.inj (a0.symm.trans b0)
    have k1 := Option.some.inj (a1.symm.trans b1)
    simp only [Value.slice.injEq, Value.int.injEq, true_and] at k0 k1
    obtain ⟨rfl, rfl, rfl⟩ := k0
    obtain rfl : Xi = Yi := by omega
    clear b0 b1 f2 f3 u3 u4
    go_enter Tryz.func142, Tryz.ntmps142
    go_wp2
    go_region_with (fail)
    all_goals go_wp2
    all_goals first | go_end0 | refine bodyPost_ret (results_none rfl _ _ _) rfl ?_
    all_goals (
      obtain ⟨r1, r2⟩ := HF.out _ HR.out (Turn.refl _ _)
      exact ⟨rfl, r1.kept (fun _ _ => rfl), r2.drew⟩)
  · have d1 : ¬ j = i := fun h => e h.symm
    have d2 : ¬ o + j * 2 = o + i * 2 := by omega
    have d3 : ¬ o + j * 2 = o + i * 2 + 1 := by omega
    have d4 : ¬ o + j * 2 + 1 = o + i * 2 := by omega
    have d5 : ¬ o + j * 2 + 1 = o + i * 2 + 1 := by omega
    have d6 : ¬ o + i * 2 = o + j * 2 := by omega
    have d7 : ¬ o + i * 2 = o + j * 2 + 1 := by omega
    have d8 : ¬ o + i * 2 + 1 = o + j * 2 := by omega
    have d9 : ¬ o + i * 2 + 1 = o + j * 2 + 1 := by omega
    go_enter Tryz.func142, Tryz.ntmps142
    go_wp2
    go_region_with (fail)
    all_goals go_wp2
    all_goals first | go_end0 | refine bodyPost_ret (results_none rfl _ _ _) rfl ?_
    all_goals (
      obtain ⟨r1, r2⟩ := HF.out _ HR.out (Turn.refl _ _)
      exact ⟨rfl, r1.kept (fun _ _ => rfl), r2.drew⟩)
end Go.Proofs.YtcbailiniigcnaaGreat

namespace Go.Proofs.YtcbailiniigcnaaGreat
open Go.ChangeShapes Go.WideShapes Go.ChangeAt Go.Deep Go.RowKit Go.Lib

/-- The heap, with all lists of which it has what is left. -/
structure HpI (B : Nat) (w : World) (p : Nat) (v : Value) (H : List Hd) : Prop where
  at_ : HpAt w p v H
  box : B ≤ p
  arr : ∀ b, ob v = some b → B ≤ b
  hds : ∀ h ∈ H, HdAt B w h
theorem HpI.lt {B p : Nat} {v : Value} {H : List Hd} {w : World} (h : HpI B w p v H) : B ≤ w.heap.size := Nat.le_trans h.box (Nat.le_of_lt h.at_.lt)
theorem HpI.far {B p : Nat} {v : Value} {H : List Hd} {w : World} (h : HpI B w p v H) : ∀ x ∈ hblk p v, B ≤ x := fun x hx => by
  rcases mem_hblk.1 hx with rfl | hx
  · exact h.box
  · exact h.arr x hx
theorem HpI.turn {B p : Nat} {v : Value} {H : List Hd} {w w' : World} {F : List Nat} (h : HpI B w p v H) (ht : Turn F w w') (hF : ∀ x ∈ F, x ∉ hblk p v ∧ B ≤ x) : HpI B w' p v H :=
  ⟨h.at_.kept fun k hk => ht.block k (by
    rcases hk with rfl | hk
    · exact h.at_.lt
    · exact h.at_.2.lt k hk) (fun hf => (hF k hf).1 (mem_hblk.2 hk)), h.box, h.arr, fun x hx => (h.hds x hx).turn ht h.lt fun y hy => (hF y hy).2⟩
theorem HpI.below {B p : Nat} {v : Value} {H : List Hd} {w w' : World} (h : HpI B w p v H) (hb : Below w.heap.size w w') : HpI B w' p v H := h.turn (turn_of_below (F := []) hb) (by simp)
theorem HpI.open {B p : Nat} {v : Value} {H : List Hd} {w : World} (h : HpI B w p v H) (hp : 0 < H.length) : ∃ g c, v = .slice (some ⟨g, 0, none⟩) H.length c ∧ g ≠ p ∧ g < w.heap.size ∧ H.length ≤ c ∧ c ≤ maxLen := by
  rcases h.at_.2.2 with ⟨e, -⟩ | ⟨g, cap, cur, rfl, hg, h1, h2, -⟩
  · omega
  · exact ⟨g, cap + 1, rfl, fun e => h.at_.apart (by rw [e]; rfl), (Array.getElem?_eq_some_iff.1 hg).1, h1, h2⟩
/-- One array turned, the box as it was. -/
theorem HpI.with {B p : Nat} {v : Value} {H H' : List Hd} {w w' : World} {g c n : Nat} (h : HpI B w p v H) (hv : v = .slice (some ⟨g, 0, none⟩) n (c + 1)) (hR : Row w' 170 2 v H.length (cellsH H')) (hl : H'.length = H.length) (hm : ∀ x ∈ H', x ∈ H) (ht : Turn [g] w w') : HpI B w' p v H' := by
  have hgp : g ≠ p := fun e => h.at_.apart (by rw [hv, e]; rfl)
  refine ⟨⟨(ht.block p h.at_.lt (by simp; exact fun e => hgp e.symm)).trans h.at_.1, by rw [hl]; exact hR⟩, h.box, h.arr, fun x hx => (h.hds x (hm x hx)).turn ht h.lt (by
    intro y hy
    simp at hy
    subst hy
    exact h.arr y (by rw [hv]; rfl))⟩
theorem mem_swH {H : List Hd} {i j : Nat} (hi : i < H.length) (hj : j < H.length) : ∀ x ∈ swH H i j, x ∈ H := fun _ hx => (swH_perm H i j hi hj).mem_iff.1 hx
theorem getD_mem {H : List Hd} {i : Nat} (hi : i < H.length) : H.getD i Hd.zero ∈ H := by
  rw [List.getD_eq_getElem?_getD, List.getElem?_eq_getElem hi]
  exact List.getElem_mem hi
theorem hless_at {B p n : Nat} {v : Value} {H : List Hd} {w : World} (h : HpI B w p v H) {g c : Nat} (hv : v = .slice (some ⟨g, 0, none⟩) n c) (hn : H.length = n) (i j : Nat) (hi : i < n) (hj : j < n) :
    Calls Tryz.prog 139 #[.slice (some ⟨g, 0, none⟩) n c, .int .i64 (i : Int), .int .i64 (j : Int)] w fun e w' => e = .returned (.bool (lessB (H.getD i Hd.zero) (H.getD j Hd.zero))) ∧ HpI B w' p v H ∧ Turn [] w w' := by
  subst hn
  have hR := h.at_.2
  rw [hv] at hR
  have hg : g < w.heap.size := by
    refine h.at_.2.lt g ?_
    obtain ⟨-, hle⟩ := (h.open (by omega)).choose_spec.choose_spec
    rw [hv]
    obtain ⟨g', c', e, -, -, h1, -⟩ := h.open (by omega)
    rw [hv] at e
    cases e
    obtain ⟨c', rfl⟩ : ∃ c'', c = c'' + 1 := ⟨c - 1, by omega⟩
    rfl
  have hx := fun k (hk : k < H.length) => (h.hds _ (getD_mem hk)).mono_base h.lt
  refine (hless_any g 0 H.length c H i j w (hsAt_of hR rfl) rfl hg hi hj (hx i hi) (hx j hj)).mono ?_
  rintro e w' ⟨rfl, hb⟩
  exact ⟨rfl, h.below hb, turn_of_below hb⟩
theorem hswap_at {B p n : Nat} {v : Value} {H : List Hd} {w : World} (h : HpI B w p v H) {g c : Nat} (hv : v = .slice (some ⟨g, 0, none⟩) n c) (hn : H.length = n) (i j : Nat) (hi : i < n) (hj : j < n) :
    Calls Tryz.prog 142 #[.slice (some ⟨g, 0, none⟩) n c, .int .i64 (i : Int), .int .i64 (j : Int)] w fun e w' => e = .returned (.tuple #[]) ∧ HpI B w' p v (swH H i j) ∧ Turn (hblk p v) w w' := by
  subst hn
  have hR := h.at_.2
  rw [hv] at hR
  refine (hswap_any g 0 H.length c H i j w hR rfl rfl hi hj).mono ?_
  rintro e w' ⟨rfl, hr, ht⟩
  obtain ⟨g', c', e, -, -, h1, -⟩ := h.open (by omega)
  rw [hv] at e
  cases e
  obtain ⟨c', rfl⟩ : ∃ c'', c = c'' + 1 := ⟨c - 1, by omega⟩
  exact ⟨rfl, h.with hv (by rw [hv]; exact hr) (swH_length _ _ _) (mem_swH hi hj) ht, ht.mono (by
    intro x hx
    simp at hx
    subst hx
    exact .inl (mem_hblk.2 (.inr (by rw [hv]; rfl))))⟩
set_option maxHeartbeats 4000000 in
set_option maxRecDepth 100000 in
theorem up_any (B p j : Nat) (v : Value) (H : List Hd) (w : World) (h : HpI B w p v H) (hj : j < H.length) (hu : HeapUp H H.length j) (hN : H.length ≤ 1000000) :
    Calls Tryz.prog 121 #[.iface 100 (.pointer (some ⟨p, 0, none⟩)), .int .i64 (j : Int)] w fun e w' => e = .returned (.tuple #[]) ∧ ∃ H', HpI B w' p v H' ∧ H'.Perm H ∧ HeapH H' H'.length ∧ Turn (hblk p v) w w' := by
  obtain ⟨n, hn⟩ : ∃ n, H.length = n := ⟨_, rfl⟩
  have HN := Lib.hid hn
  clear hn
  go_enter Tryz.func121, Tryz.ntmps121
  go_wp2
  go_loopw [1] (fun rv wr => ∃ (r : Nat) (K : List Hd), rv = .int .i64 (r : Int) ∧ r < n ∧ K.Perm H ∧ HeapUp K n r ∧ HpI B wr p v K ∧ Turn (hblk p v) w wr) (fun rv _ => (Go.RowKit.intOf rv).toNat)
  case atStart => exact ⟨j, H, rfl, by rw [← HN.out]; exact hj, .refl _, by rw [← HN.out]; exact hu, h, Turn.refl _ _⟩
  case round =>
    obtain ⟨r, K, rfl, hr, hp, hup, hh, ht⟩ := hrel
    have hKl := hp.length_eq.trans HN.out
    have hN2 : n ≤ 1000000 := HN.out ▸ hN
    obtain ⟨g, c, hv, hgp, -, -, -⟩ := hh.open (by omega)
    have hcell := hh.at_.cell
    rw [hKl] at hv
    rw [hv] at hcell
    have CL := Lib.hid (fun i j hi hj => hless_at hh hv hKl i j hi hj)
    have CS := Lib.hid (fun W (h : HpI B W p v K) i j hi hj => hswap_at h hv hKl i j hi hj)
    have HH := Lib.hid hh
    have HT := Lib.hid ht
    have HP := Lib.hid hp
    have HUP := Lib.hid hup
    have HKL := Lib.hid hKl
    have HSW := Lib.hid (show ∀ q, Kid q r → leH (K.getD r Hd.zero) (K.getD q Hd.zero) → (swH K q r).Perm H ∧ HeapUp (swH K q r) n q from fun q hq hle => ⟨(swH_perm K q r (by unfold Kid at hq; omega) (by omega)).trans hp, up_step hup (by omega) hq hr hle⟩)
    clear hh ht hp hup h hu hj hN hKl
    by_cases h0 : r = 0
    · subst h0
      go_wp2
      first | go_end0 | refine bodyPost_ret (results_none rfl _ _ _) rfl ?_
      exact ⟨rfl, K, HH.out, HP.out, by rw [HKL.out]; exact up_end HUP.out (fun x hx => by unfold Kid at hx; omega), HT.out⟩
    · obtain ⟨k, hk⟩ : ∃ k, r = k + 1 := ⟨r - 1, by omega⟩
      obtain ⟨q, hq⟩ : ∃ q, q = k / 2 := ⟨_, rfl⟩
      have e1 : (r : Int) - 1 = (k : Int) := by omega
      have e2 : IntKind.i64.wrap (k : Int) = (k : Int) := by rw [IntKind.wrap_i64]; omega
      have e3 : Int.tdiv (k : Int) 2 = (q : Int) := by rw [hq, Int.tdiv_eq_ediv_of_nonneg (by omega)]; omega
      have e4 : IntKind.i64.wrap (q : Int) = (q : Int) := by rw [IntKind.wrap_i64]; omega
      have hqr : q < r := by omega
      have d1 : ((q : Int) == (r : Int)) = false := by rw [beq_eq_false_iff_ne]; omega
      have HQ := Lib.hid (show Kid q r by unfold Kid; omega)
      have HQR := Lib.hid hqr
      have HR2 := Lib.hid hr
      have CL1 := Lib.hid (CL.out r q hr (by omega))
      have M1 := fun n' => mLess n' p (some ⟨g, 0, none⟩) n c wr hcell
      clear hk hq CL hqr h0
      cases hb : lessB (K.getD r Hd.zero) (K.getD q Hd.zero) with
      | false =>
        rw [hb] at CL1
        go_wp2_with (go_at_call 139; refine CL1.out.mono ?_; rintro e w1 ⟨rfl, hh1, ht1⟩)
        first | go_end0 | refine bodyPost_ret (results_none rfl _ _ _) rfl ?_
        exact ⟨rfl, K, hh1, HP.out, by rw [HKL.out]; exact up_end HUP.out (fun x hx => by
          obtain rfl : x = q := by have := HQ.out; unfold Kid at hx this; omega
          exact lessB_no.1 hb), HT.out.trans ht1 (by simp)⟩
      | true =>
        rw [hb] at CL1
        go_wp2_with (first | (go_at_call 139; refine CL1.out.mono ?_; rintro e w1 ⟨rfl, hh1, ht1⟩; have hcell1 := hh1.at_.cell; rw [hv] at hcell1; have M2 := fun n' => mSwap n' p (some ⟨g, 0, none⟩) n c w1 hcell1; have CS1 := Lib.hid (CS.out w1 hh1 q r (Nat.lt_trans HQR.out HR2.out) HR2.out)) | (go_at_call 142; refine CS1.out.mono ?_; rintro e w2 ⟨rfl, hh2, ht2⟩))
        go_roundw
        · exact ⟨q, swH K q r, rfl, Nat.lt_trans HQR.out HR2.out, (HSW.out q HQ.out (lessB_yes hb)).1, (HSW.out q HQ.out (lessB_yes hb)).2, hh2, (HT.out.trans ht1 (by simp)).trans ht2 (fun x hx => .inl hx)⟩
        · have := HQR.out
          simp [Go.RowKit.intOf]
          omega
end Go.Proofs.YtcbailiniigcnaaGreat
