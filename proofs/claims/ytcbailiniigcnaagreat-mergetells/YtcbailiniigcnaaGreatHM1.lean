/- The heads of lists in memory; their order, and two of them exchanged. -/
import Derived.Test.YtcbailiniigcnaaGreatHM0
import Derived.Deep.RegionHeld3
namespace Go.Proofs.YtcbailiniigcnaaGreat
open Go.RowKit

theorem mPush (k : Nat) (a : Addr) (w : World) : (method (k + 1) 100 (.pointer (some a)) "Push").run Tryz.prog w = .ok (141, .pointer (some a)) w := by kernel_rfl
theorem mPop (k : Nat) (a : Addr) (w : World) : (method (k + 1) 100 (.pointer (some a)) "Pop").run Tryz.prog w = .ok (140, .pointer (some a)) w := by kernel_rfl
theorem mLess0 (k : Nat) (a : Addr) (w : World) : (method (k + 1) 100 (.pointer (some a)) "Less").run Tryz.prog w = (do pure (139, ← loadVar 167 a) : Sem (FuncId × Value)).run Tryz.prog w := by kernel_rfl
theorem mSwap0 (k : Nat) (a : Addr) (w : World) : (method (k + 1) 100 (.pointer (some a)) "Swap").run Tryz.prog w = (do pure (142, ← loadVar 167 a) : Sem (FuncId × Value)).run Tryz.prog w := by kernel_rfl
theorem mLen0 (k : Nat) (a : Addr) (w : World) : (method (k + 1) 100 (.pointer (some a)) "Len").run Tryz.prog w = (do pure (86, ← loadVar 167 a) : Sem (FuncId × Value)).run Tryz.prog w := by kernel_rfl
theorem mLess (k p : Nat) (A : Option Addr) (n c : Nat) (w : World) (h : w.cell? ⟨p, 0, none⟩ = some (.slice A n c)) : (method (k + 1) 100 (.pointer (some ⟨p, 0, none⟩)) "Less").run Tryz.prog w = .ok (139, .slice A n c) w := by
  rw [mLess0]
  simp [go_sem, h]
theorem mSwap (k p : Nat) (A : Option Addr) (n c : Nat) (w : World) (h : w.cell? ⟨p, 0, none⟩ = some (.slice A n c)) : (method (k + 1) 100 (.pointer (some ⟨p, 0, none⟩)) "Swap").run Tryz.prog w = .ok (142, .slice A n c) w := by
  rw [mSwap0]
  simp [go_sem, h]
theorem mLen (k p : Nat) (A : Option Addr) (n c : Nat) (w : World) (h : w.cell? ⟨p, 0, none⟩ = some (.slice A n c)) : (method (k + 1) 100 (.pointer (some ⟨p, 0, none⟩)) "Len").run Tryz.prog w = .ok (86, .slice A n c) w := by
  rw [mLen0]
  simp [go_sem, h]

def Hd.cells (h : Hd) : List Value := [.slice h.a h.l.length h.c, .int .i64 (h.i : Int)]
def Hd.val (h : Hd) : Value := .agg #[.slice h.a h.l.length h.c, .int .i64 (h.i : Int)]
def cellsH (H : List Hd) : List Value := H.flatMap Hd.cells
theorem cellsH_length : ∀ H : List Hd, (cellsH H).length = H.length * 2
  | [] => rfl
  | x :: H => by
    have := cellsH_length H
    unfold cellsH at this ⊢
    rw [List.flatMap_cons, List.length_append, this]
    simp [Hd.cells]
    omega
theorem cellsH_get : ∀ (H : List Hd) (k : Nat), k < H.length → (cellsH H)[k * 2]? = some (.slice (H.getD k Hd.zero).a (H.getD k Hd.zero).l.length (H.getD k Hd.zero).c) ∧ (cellsH H)[k * 2 + 1]? = some (.int .i64 ((H.getD k Hd.zero).i : Int))
  | x :: H, 0, _ => ⟨rfl, rfl⟩
  | x :: H, k + 1, h => by
    obtain ⟨h1, h2⟩ := cellsH_get H k (by simpa using h)
    have e : cellsH (x :: H) = .slice x.a x.l.length x.c :: .int .i64 (x.i : Int) :: cellsH H := rfl
    rw [e, List.getD_cons_succ]
    constructor
    · rw [show (k + 1) * 2 = k * 2 + 1 + 1 by omega, List.getElem?_cons_succ, List.getElem?_cons_succ]; exact h1
    · rw [show (k + 1) * 2 + 1 = k * 2 + 1 + 1 + 1 by omega, List.getElem?_cons_succ, List.getElem?_cons_succ]; exact h2
/-- The versions that wait of one list can be read. -/
def HdAt (n₀ : Nat) (w : World) (h : Hd) : Prop := ∃ b off, h.a = some ⟨b, off, none⟩ ∧ b < n₀ ∧ (h.l ≠ [] ∧ h.l.length ≤ h.c) ∧ ∀ i (hi : i < h.l.length), ∀ j u, h.l[i].cells[j]? = some u → w.cell? ⟨b, off + i * 4 + j, none⟩ = some u
theorem HdAt.below {n₀ : Nat} {A B : World} {h : Hd} (hh : HdAt n₀ A h) (hb : Below n₀ A B) : HdAt n₀ B h := by
  obtain ⟨b, off, e, hlt, hne, hc⟩ := hh
  exact ⟨b, off, e, hlt, hne, fun i hi j u hu => (hb.cell (p := ⟨b, off + i * 4 + j, none⟩) hlt).trans (hc i hi j u hu)⟩
theorem HdAt.mono_base {m n₀ : Nat} {w : World} {h : Hd} (hh : HdAt n₀ w h) (hm : n₀ ≤ m) : HdAt m w h := by
  obtain ⟨b, off, e, hlt, rest⟩ := hh
  exact ⟨b, off, e, Nat.lt_of_lt_of_le hlt hm, rest⟩
theorem HdAt.turn {n₀ : Nat} {A B : World} {h : Hd} {F : List Nat} (hh : HdAt n₀ A h) (ht : Turn F A B) (hn : n₀ ≤ A.heap.size) (hF : ∀ x ∈ F, n₀ ≤ x) : HdAt n₀ B h := hh.below (ht.below hn hF)
/-- The first one that waits, in memory. -/
theorem HdAt.first {n₀ : Nat} {w : World} {h : Hd} (hh : HdAt n₀ w h) : ∃ b off, h.a = some ⟨b, off, none⟩ ∧ b < n₀ ∧ w.cell? ⟨b, off, none⟩ = some (.string h.e.k) ∧ w.cell? ⟨b, off + 1, none⟩ = some (.int .u64 h.e.s) ∧ w.cell? ⟨b, off + 2, none⟩ = some (.int .i64 h.e.n) ∧ w.cell? ⟨b, off + 3, none⟩ = some (.string h.e.v) := by
  obtain ⟨b, off, e, hlt, hne, hc⟩ := hh
  refine ⟨b, off, e, hlt, ?_⟩
  have hp : 0 < h.l.length := by
    cases hl : h.l with
    | nil => exact absurd hl hne.1
    | cons x r => simp
  have he : h.l[0]'hp = h.e := by
    unfold Hd.e
    rw [List.headD_eq_head?_getD, List.head?_eq_getElem?, List.getElem?_eq_getElem hp]
    rfl
  have h1 := hc 0 hp
  rw [he] at h1
  simp only [Nat.zero_mul, Nat.add_zero] at h1
  exact ⟨h1 0 _ rfl, h1 1 _ rfl, h1 2 _ rfl, h1 3 _ rfl⟩
theorem Hd.cap {n₀ : Nat} {w : World} {h : Hd} (hh : HdAt n₀ w h) : h.l.length ≤ h.c := by
  obtain ⟨b, off, e, hlt, hne, hc⟩ := hh
  exact hne.2
theorem Hd.pos {n₀ : Nat} {w : World} {h : Hd} (hh : HdAt n₀ w h) : 0 < h.l.length := by
  obtain ⟨b, off, e, hlt, hne, hc⟩ := hh
  exact List.length_pos_iff.2 hne.1
/-- The array of heads. -/
def HsAt (w : World) (g o : Nat) (H : List Hd) : Prop := ∀ k, k < H.length → w.cell? ⟨g, o + k * 2, none⟩ = some (.slice (H.getD k Hd.zero).a (H.getD k Hd.zero).l.length (H.getD k Hd.zero).c) ∧ w.cell? ⟨g, o + k * 2 + 1, none⟩ = some (.int .i64 ((H.getD k Hd.zero).i : Int))
theorem hsAt_of {w : World} {g o n c : Nat} {H : List Hd} (hR : Row w 170 2 (.slice (some ⟨g, o, none⟩) n c) H.length (cellsH H)) (hn : n = H.length) : HsAt w g o H := by
  subst hn
  intro k hk
  obtain ⟨h1, h2⟩ := cellsH_get H k hk
  exact ⟨hR.cell g o c rfl _ _ h1, hR.cell g o c rfl _ _ h2⟩
set_option maxHeartbeats 4000000 in
set_option maxRecDepth 100000 in
theorem hless_any (g o n c : Nat) (H : List Hd) (i j : Nat) (w : World) (hH : HsAt w g o H) (hn : n = H.length) (hg : g < w.heap.size) (hi : i < H.length) (hj : j < H.length) (hx : HdAt w.heap.size w (H.getD i Hd.zero)) (hy : HdAt w.heap.size w (H.getD j Hd.zero)) :
    Calls Tryz.prog 139 #[.slice (some ⟨g, o, none⟩) n c, .int .i64 (i : Int), .int .i64 (j : Int)] w fun e w' => e = .returned (.bool (lessB (H.getD i Hd.zero) (H.getD j Hd.zero))) ∧ Below w.heap.size w w' := by
  obtain ⟨a0, a1⟩ := hH i hi
  obtain ⟨b0, b1⟩ := hH j hj
  have xp := Hd.pos hx
  have yp := Hd.pos hy
  obtain ⟨bx, ox, ex, xlt, x0, x1, x2, x3⟩ := hx.first
  obtain ⟨by_, oy, ey, ylt, y0, y1, y2, y3⟩ := hy.first
  unfold lessB ordH
  generalize H.getD i Hd.zero = X at *
  generalize H.getD j Hd.zero = Y at *
  rw [ex] at a0
  rw [ey] at b0
  have u1 : (0 : Int) ≤ (i : Int) := by omega
  have u2 : (i : Int) < (n : Int) := by omega
  have u3 : (0 : Int) ≤ (j : Int) := by omega
  have u4 : (j : Int) < (n : Int) := by omega
  have u5 : (0 : Int) < (X.l.length : Int) := by omega
  have u6 : (0 : Int) < (Y.l.length : Int) := by omega
  have C1 := Lib.hid (fun w => compare_any X.e.k X.e.s X.e.n X.e.v Y.e.k Y.e.s Y.e.n Y.e.v w)
  have C2 := Lib.hid (fun w => cmpI_any (X.i : Int) (Y.i : Int) w)
  have HK := Lib.hid (show ∀ W, Below w.heap.size w W → W.cell? ⟨g, o + i * 2, none⟩ = some (.slice (some ⟨bx, ox, none⟩) X.l.length X.c) ∧ W.cell? ⟨g, o + i * 2 + 1, none⟩ = some (.int .i64 (X.i : Int)) ∧ W.cell? ⟨g, o + j * 2, none⟩ = some (.slice (some ⟨by_, oy, none⟩) Y.l.length Y.c) ∧ W.cell? ⟨g, o + j * 2 + 1, none⟩ = some (.int .i64 (Y.i : Int)) ∧ W.cell? ⟨bx, ox, none⟩ = some (.string X.e.k) ∧ W.cell? ⟨bx, ox + 1, none⟩ = some (.int .u64 X.e.s) ∧ W.cell? ⟨bx, ox + 2, none⟩ = some (.int .i64 X.e.n) ∧ W.cell? ⟨bx, ox + 3, none⟩ = some (.string X.e.v) ∧ W.cell? ⟨by_, oy, none⟩ = some (.string Y.e.k) ∧ W.cell? ⟨by_, oy + 1, none⟩ = some (.int .u64 Y.e.s) ∧ W.cell? ⟨by_, oy + 2, none⟩ = some (.int .i64 Y.e.n) ∧ W.cell? ⟨by_, oy + 3, none⟩ = some (.string Y.e.v) from fun W hb =>
    ⟨(hb.cell (p := ⟨g, _, none⟩) hg).trans a0, (hb.cell (p := ⟨g, _, none⟩) hg).trans a1, (hb.cell (p := ⟨g, _, none⟩) hg).trans b0, (hb.cell (p := ⟨g, _, none⟩) hg).trans b1, (hb.cell (p := ⟨bx, _, none⟩) xlt).trans x0, (hb.cell (p := ⟨bx, _, none⟩) xlt).trans x1, (hb.cell (p := ⟨bx, _, none⟩) xlt).trans x2, (hb.cell (p := ⟨bx, _, none⟩) xlt).trans x3, (hb.cell (p := ⟨by_, _, none⟩) ylt).trans y0, (hb.cell (p := ⟨by_, _, none⟩) ylt).trans y1, (hb.cell (p := ⟨by_, _, none⟩) ylt).trans y2, (hb.cell (p := ⟨by_, _, none⟩) ylt).trans y3⟩)
  clear hx hy hH ex ey
  generalize cmpU (X.i : Int) (Y.i : Int) = V at *
  generalize X.e = XE at *
  generalize Y.e = YE at *
  obtain ⟨xk, xs, xn, xv⟩ := XE
  obtain ⟨yk, ys, yn, yv⟩ := YE
  simp only at *
  generalize X.l.length = xl at *
  generalize Y.l.length = yl at *
  generalize X.c = xc at *
  generalize Y.c = yc at *
  generalize (X.i : Int) = xi at *
  generalize (Y.i : Int) = yi at *
  generalize cmpE xk xs yk ys = Z at *
  have C3 := Lib.hid (fun (w1 : World) => or2_any w1.heap.size 2 Z V (w1.alloc (.cells #[.int .i64 Z, .int .i64 V] 3)) (nce rfl rfl) (nce rfl rfl))
  generalize hR : (if Z = 0 then V else Z) = R at *
  unfold ev at C1
  go_enter Tryz.func139, Tryz.ntmps139
  go_wp2
  go_region_held3 (fun W => W.cell? ⟨g, o + i * 2, none⟩ = some (.slice (some ⟨bx, ox, none⟩) xl xc) ∧ W.cell? ⟨g, o + i * 2 + 1, none⟩ = some (.int .i64 xi) ∧ W.cell? ⟨g, o + j * 2, none⟩ = some (.slice (some ⟨by_, oy, none⟩) yl yc) ∧ W.cell? ⟨g, o + j * 2 + 1, none⟩ = some (.int .i64 yi) ∧ W.cell? ⟨bx, ox, none⟩ = some (.string xk) ∧ W.cell? ⟨bx, ox + 1, none⟩ = some (.int .u64 xs) ∧ W.cell? ⟨bx, ox + 2, none⟩ = some (.int .i64 xn) ∧ W.cell? ⟨bx, ox + 3, none⟩ = some (.string xv) ∧ W.cell? ⟨by_, oy, none⟩ = some (.string yk) ∧ W.cell? ⟨by_, oy + 1, none⟩ = some (.int .u64 ys) ∧ W.cell? ⟨by_, oy + 2, none⟩ = some (.int .i64 yn) ∧ W.cell? ⟨by_, oy + 3, none⟩ = some (.string yv)) (first | exact HK.out _ (Below.refl _ _).drew | exact HK.out _ hk1 | exact HK.out _ (hk1.alloc hk1.size _) | exact HK.out _ (hk1.alloc hk1.size _).drew | fail) (first | (go_at_call 144; refine (C1.out _).mono ?_; rintro e w1 ⟨rfl, hb1⟩; have hk1 := (Below.refl w.heap.size w).drew.trans hb1) | (go_at_call 145; refine (C2.out _).mono ?_; rintro e w2 ⟨rfl, rfl⟩) | (go_at_call 143; refine (C3.out _).mono ?_; rintro e w3 ⟨rfl, rfl⟩) | fail)
  all_goals go_wp2
  all_goals go_ret
  all_goals exact ⟨rfl, hk1.alloc hk1.size _⟩
end Go.Proofs.YtcbailiniigcnaaGreat
