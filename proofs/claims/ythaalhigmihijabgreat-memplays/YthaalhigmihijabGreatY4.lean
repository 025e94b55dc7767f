/- skip's ahead. -/
import Derived.Test.YthaalhigmihijabGreatY3
import Derived.Deep.QuietTactic
import Derived.BigQuiet
import Derived.Lib.Hide
import Derived.Deep.RegionHeld3
import Derived.Deep.DeepCutAuto
import Derived.Deep.CutBlock
import Derived.Deep.CutRange
namespace Go.Proofs.YthaalhigmihijabGreat
open Go.RowKit

theorem belowN {B : Nat} {a w : World} (h : Below B a w) (n : Nat) : Below B a (w.drewN n) := ⟨h.os, h.tape, h.output, h.size, h.block⟩
def rankOf (L : List Nat) : Value → Nat
  | .pointer (some a) => L.length - L.idxOf a.block
  | _ => 0
/-- The places told so far. -/
def Outs (b : Nat) (g : Nat → Value) (w : World) : Prop := w.heap[b]? = some (.cells #[g 0, g 1, g 2, g 3, g 4, g 5, g 6, g 7] 36)
theorem Outs.cell {b : Nat} {g : Nat → Value} {w : World} (h : Outs b g w) {j : Nat} (hj : j < 8) : w.cell? ⟨b, j, none⟩ = some (g j) := by
  unfold World.cell?
  rw [show w.heap[b]? = _ from h]
  match j, hj with
  | 0, _ | 1, _ | 2, _ | 3, _ | 4, _ | 5, _ | 6, _ | 7, _ => rfl
theorem Outs.warm {b : Nat} {g : Nat → Value} {w : World} (h : Outs b g w) (j : Nat) : w.frozen? ⟨b, j, none⟩ = false := by unfold World.frozen?; rw [show w.heap[b]? = _ from h]; simp
theorem Outs.lt {b : Nat} {g : Nat → Value} {w : World} (h : Outs b g w) : b < w.heap.size := (Array.getElem?_eq_some_iff.1 h).1
theorem outs_below {b : Nat} {g : Nat → Value} {w w' : World} (h : Outs b g w) (hb : Below w.heap.size w w') : Outs b g w' := (hb.block b h.lt).trans h
theorem outs_set {b : Nat} {g : Nat → Value} {w : World} (h : Outs b g w) {i : Nat} (hi : i < 8) {v : Value} : Outs b (fun j => if j = i then v else g j) (w.setCell ⟨b, i, none⟩ v) := by
  have := heap_setCell_same w b i _ _ v h
  refine this.trans ?_
  match i, hi with
  | 0, _ | 1, _ | 2, _ | 3, _ | 4, _ | 5, _ | 6, _ | 7, _ => rfl
theorem outs_new {b : Nat} {w : World} (h : w.heap[b]? = some (.cells #[.pointer none, .pointer none, .pointer none, .pointer none, .pointer none, .pointer none, .pointer none, .pointer none] 36)) : Outs b (fun _ => .pointer none) w := h
set_option maxHeartbeats 4000000 in
set_option maxRecDepth 100000 in
theorem ahead_any {p c : Nat} {ns P Q : List Nd} {k : ByteArray} {s : Int} (n : Int) (v : ByteArray) {w : World} (h : Lst p c ns w) (hr : Right ns) (hc : Cut k s ns P Q) :
    Calls Tryz.prog 137 #[.pointer (some ⟨p, 0, none⟩), ev k s n v] w fun e w' => ∃ g : Nat → Value, e = .returned (.agg #[g 0, g 1, g 2, g 3, g 4, g 5, g 6, g 7]) ∧ (∀ j, j < 8 → ∃ m, g j = pN m ∧ IsLast j (hd p :: P) m) ∧ Below w.heap.size w w' := by
  have HH := Lib.hid h
  have HR := Lib.hid hr
  have HC := Lib.hid hc
  clear h hr hc
  unfold ev
  have hN : w.heap.size ≤ w.heap.size := Nat.le_refl _
  go_enter Tryz.func137, Tryz.ntmps137
  go_wp2
  obtain ⟨W, hW⟩ : ∃ W, (((w.alloc (.cells #[.string k, .int .u64 s, .int .i64 n, .string v] 34)).alloc (.cells #[.pointer none, .pointer none, .pointer none, .pointer none, .pointer none, .pointer none, .pointer none, .pointer none] 36)).alloc (.cells #[.pointer none, .pointer none, .pointer none, .pointer none, .pointer none, .pointer none, .pointer none, .pointer none] 36)) = W := ⟨_, rfl⟩
  have HB := Lib.hid (show Below w.heap.size w W by rw [← hW]; exact (((Below.refl _ _).alloc (Nat.le_refl _) _).alloc (by simp) _).alloc (by simp; omega) _)
  have HX := Lib.hid (show Boxe w.heap.size k s n v W by rw [← hW]; exact (Below.heap_alloc _ _ _ (by simp; omega)).trans ((Below.heap_alloc _ _ _ (by simp)).trans (new_block _ _ rfl)))
  have HO := Lib.hid (show W.heap[w.heap.size + 1 + 1]? = some (.cells #[.pointer none, .pointer none, .pointer none, .pointer none, .pointer none, .pointer none, .pointer none, .pointer none] 36) by rw [← hW]; exact new_block _ _ (by simp))
  have HP := Lib.hid (show W.heap[w.heap.size + 1]? = some (.cells #[.pointer none, .pointer none, .pointer none, .pointer none, .pointer none, .pointer none, .pointer none, .pointer none] 36) by rw [← hW]; exact (Below.heap_alloc _ _ _ (by simp)).trans (new_block _ _ (by simp)))
  rw [hW]
  clear hW
  go_loopw [6, 7] (fun av iv wr => ∃ (x : Int) (L1 : List Nd) (A : Nd) (mid : List Nd) (g : Nat → Value), -1 ≤ x ∧ x ≤ 7 ∧ iv = .int .i64 x ∧ av = .pointer (some ⟨A.a, 0, none⟩) ∧ hd p :: P = L1 ++ A :: mid ∧ x < A.l ∧ Outs (w.heap.size + 1 + 1) g wr ∧ (∀ j : Nat, x < j → j < 8 → ∃ m, g j = pN m ∧ IsLast j (hd p :: P) m) ∧ Boxe w.heap.size k s n v wr ∧ wr.heap[w.heap.size + 1]? = W.heap[w.heap.size + 1]? ∧ Below w.heap.size w wr) (fun _ iv _ => (intOf iv + 1).toNat)
  case atStart => exact ⟨7, [], hd p, P, fun _ => .pointer none, by omega, by omega, rfl, rfl, rfl, (show (7 : Int) < ((8 : Nat) : Int) by omega), outs_new HO.out, fun j h1 h2 => by omega, HX.out, rfl, HB.out⟩
  case round =>
    obtain ⟨x, L1, A, mid, g, hx1, hx2, rfl, rfl, hl, hlev, hout, hgs, hbx, hp1, hbl⟩ := hrel
    have HL := Lib.hid hl
    have HG := Lib.hid hgs
    have HBL := Lib.hid hbl
    have HP1 := Lib.hid hp1
    have HOU := Lib.hid hout
    have HBX := Lib.hid hbx
    clear hl hgs hbl hp1 hout hbx
    by_cases h0 : 0 ≤ x
    · obtain ⟨i, rfl⟩ := Int.eq_ofNat_of_zero_le h0
      have hi : i < 8 := by omega
      have d0 : decide (0 ≤ (i : Int)) = true := by simp
      obtain ⟨w1, rfl⟩ : ∃ w1, w1 = wr := ⟨_, rfl⟩
      go_upto_block 2 with fail
      go_cut [6] from 15 to 41 (fun av wx => ∃ m, av = .pointer (some ⟨m.a, 0, none⟩) ∧ IsLast i (hd p :: P) m ∧ Below w1.heap.size w1 wx)
      case first =>
        go_wp2_with fail
        go_loopw [6] (fun av wx => ∃ (L1 : List Nd) (A : Nd) (mid : List Nd), av = .pointer (some ⟨A.a, 0, none⟩) ∧ hd p :: P = L1 ++ A :: mid ∧ i < A.l ∧ Below w1.heap.size w1 wx) (fun av _ => rankOf (foot p ns) av)
        case atStart => exact ⟨L1, A, mid, rfl, HL.out, by omega, Below.refl _ _⟩
        case round =>
          obtain ⟨L1, A, mid, rfl, hl, hlev, hbx⟩ := hrel
          obtain ⟨wx, rfl⟩ : ∃ wx, wx = wr := ⟨_, rfl⟩
          have hbw : Below w.heap.size w wx := HBL.out.trans (hbx.mono HBL.out.size)
          have hlx : Lst p c ns wx := HH.out.below hbw
          have hnL : (foot p ns).Nodup := hlx.nodup
          have hall : hd p :: ns = L1 ++ A :: (mid ++ Q) := by rw [HC.out.all, ← List.cons_append, hl]; simp
          have hA := hlx.chain L1 A (mid ++ Q) hall
          have hrk := idx_at hall hnL
          have hbox : Boxe w.heap.size k s n v wx := HBX.out.below hbx
          have b0 := hbox.c0
          have b1 := hbox.c1
          have b2 := hbox.c2
          have b3 := hbox.c3
          have cA := hA.nxt i hi
          rw [if_pos hlev] at cA
          have hi0 : (i : Int) < 8 := by omega
          rcases fol_split i mid with hno | ⟨m1, x, m2, rfl, hm1, hx⟩
          · have HLAST := Lib.hid (show IsLast i (hd p :: P) A from ⟨L1, mid, hl, hlev, hno⟩)
            rw [fol_skip hno] at cA
            rcases fol_split i Q with hnq | ⟨q1, x, q2, rfl, hq1, hx⟩
            · have e0 : fol i Q = .pointer none := by
                have := fol_skip (r := []) hnq
                rw [List.append_nil] at this
                exact this
              rw [e0] at cA
              clear hlx hall hA hrk hbox hl hnL hnq hno e0
              have HBB := Lib.hid hbx
              clear hbx hbw
              go_wp2
              go_quiet (fail)
              go_wp2
              go_meet
              exact ⟨A, rfl, HLAST.out, belowN HBB.out _⟩
            · rw [fol_hit hq1 hx] at cA
              have hxn := hlx.chain (L1 ++ A :: (mid ++ q1)) x q2 (by rw [hall]; simp)
              have x0 := hxn.c0
              have x1 := hxn.c1
              have x2 := hxn.c2
              have x3 := hxn.c3
              have hAlt := hA.lt
              have hxlt := hxn.lt
              have hblt := hbox.lt
              have CC := Lib.hid (fun W => compare_any x.e.k x.e.s x.e.n x.e.v k s n v W)
              have hz := HC.out.behind x (by simp)
              have hv := cmpE_vals x.e.k x.e.s k s
              generalize cmpE x.e.k x.e.s k s = z at CC hz hv
              have hz0 : decide (z < 0) = false := by simp; omega
              unfold ev at CC
              unfold pN at cA
              clear hlx hall hA hrk hbox hl hnL hq1 hno hxn hz hv
              have HBB := Lib.hid hbx
              clear hbx hbw
              go_wp2
              go_region_held3 (fun w' => w'.cell? ⟨A.a, 4 + i, none⟩ = some (.pointer (some ⟨x.a, 0, none⟩)) ∧ w'.cell? ⟨x.a, 0, none⟩ = some (.string x.e.k) ∧ w'.cell? ⟨x.a, 1, none⟩ = some (.int .u64 x.e.s) ∧ w'.cell? ⟨x.a, 2, none⟩ = some (.int .i64 x.e.n) ∧ w'.cell? ⟨x.a, 3, none⟩ = some (.string x.e.v) ∧ w'.cell? ⟨w.heap.size, 0, none⟩ = some (.string k) ∧ w'.cell? ⟨w.heap.size, 1, none⟩ = some (.int .u64 s) ∧ w'.cell? ⟨w.heap.size, 2, none⟩ = some (.int .i64 n) ∧ w'.cell? ⟨w.heap.size, 3, none⟩ = some (.string v)) (first | go_keep | exact ⟨z1, z2, z3, z4, z5, z6, z7, z8, z9⟩) (first | (go_at_call 138; (with_reducible refine (CC.out _).mono ?_); rintro e wy ⟨rfl, hby⟩; have z1 := (hby.cell (p := ⟨A.a, 4 + i, none⟩) hAlt).trans cA; have z2 := (hby.cell (p := ⟨x.a, 0, none⟩) hxlt).trans x0; have z3 := (hby.cell (p := ⟨x.a, 1, none⟩) hxlt).trans x1; have z4 := (hby.cell (p := ⟨x.a, 2, none⟩) hxlt).trans x2; have z5 := (hby.cell (p := ⟨x.a, 3, none⟩) hxlt).trans x3; have z6 := (hby.cell (p := ⟨w.heap.size, 0, none⟩) hblt).trans b0; have z7 := (hby.cell (p := ⟨w.heap.size, 1, none⟩) hblt).trans b1; have z8 := (hby.cell (p := ⟨w.heap.size, 2, none⟩) hblt).trans b2; have z9 := (hby.cell (p := ⟨w.heap.size, 3, none⟩) hblt).trans b3) | fail)
              all_goals go_wp2
              all_goals go_meet
              all_goals exact ⟨A, rfl, HLAST.out, HBB.out.drew.trans (hby.mono HBB.out.size)⟩
          · rw [show m1 ++ x :: m2 ++ Q = m1 ++ x :: (m2 ++ Q) by simp, fol_hit hm1 hx] at cA
            have hxn := hlx.chain (L1 ++ A :: m1) x (m2 ++ Q) (by rw [hall]; simp)
            have hl' : hd p :: P = (L1 ++ A :: m1) ++ x :: m2 := by rw [hl]; simp
            have hrk' := idx_at (show hd p :: ns = (L1 ++ A :: m1) ++ x :: (m2 ++ Q) by rw [hall]; simp) hnL
            have hln : (L1 ++ A :: m1).length < (foot p ns).length := by
              unfold foot
              rw [List.length_map, hall]
              simp
            have HRK := Lib.hid (show rankOf (foot p ns) (.pointer (some ⟨x.a, 0, none⟩)) < rankOf (foot p ns) (.pointer (some ⟨A.a, 0, none⟩)) by
              show (foot p ns).length - (foot p ns).idxOf x.a < (foot p ns).length - (foot p ns).idxOf A.a
              have e1 : (foot p ns).idxOf A.a = L1.length := hrk
              have e2 : (foot p ns).idxOf x.a = (L1 ++ A :: m1).length := hrk'
              rw [e1, e2]
              rw [List.length_append, List.length_cons] at *
              omega)
            have x0 := hxn.c0
            have x1 := hxn.c1
            have x2 := hxn.c2
            have x3 := hxn.c3
            have hAlt := hA.lt
            have hxlt := hxn.lt
            have hblt := hbox.lt
            have CC := Lib.hid (fun W => compare_any x.e.k x.e.s x.e.n x.e.v k s n v W)
            have hz := HC.out.ahead x (hd_cons hl x (by simp))
            rw [hz] at CC
            unfold ev at CC
            unfold pN at cA
            have HL' := Lib.hid hl'
            clear hlx hall hA hrk hbox hl hnL hm1 hxn hz hl' hrk' hln
            have HBB := Lib.hid hbx
            clear hbx hbw
            go_wp2
            go_region_held3 (fun w' => w'.cell? ⟨A.a, 4 + i, none⟩ = some (.pointer (some ⟨x.a, 0, none⟩)) ∧ w'.cell? ⟨x.a, 0, none⟩ = some (.string x.e.k) ∧ w'.cell? ⟨x.a, 1, none⟩ = some (.int .u64 x.e.s) ∧ w'.cell? ⟨x.a, 2, none⟩ = some (.int .i64 x.e.n) ∧ w'.cell? ⟨x.a, 3, none⟩ = some (.string x.e.v) ∧ w'.cell? ⟨w.heap.size, 0, none⟩ = some (.string k) ∧ w'.cell? ⟨w.heap.size, 1, none⟩ = some (.int .u64 s) ∧ w'.cell? ⟨w.heap.size, 2, none⟩ = some (.int .i64 n) ∧ w'.cell? ⟨w.heap.size, 3, none⟩ = some (.string v)) (first | go_keep | exact ⟨z1, z2, z3, z4, z5, z6, z7, z8, z9⟩) (first | (go_at_call 138; (with_reducible refine (CC.out _).mono ?_); rintro e wy ⟨rfl, hby⟩; have z1 := (hby.cell (p := ⟨A.a, 4 + i, none⟩) hAlt).trans cA; have z2 := (hby.cell (p := ⟨x.a, 0, none⟩) hxlt).trans x0; have z3 := (hby.cell (p := ⟨x.a, 1, none⟩) hxlt).trans x1; have z4 := (hby.cell (p := ⟨x.a, 2, none⟩) hxlt).trans x2; have z5 := (hby.cell (p := ⟨x.a, 3, none⟩) hxlt).trans x3; have z6 := (hby.cell (p := ⟨w.heap.size, 0, none⟩) hblt).trans b0; have z7 := (hby.cell (p := ⟨w.heap.size, 1, none⟩) hblt).trans b1; have z8 := (hby.cell (p := ⟨w.heap.size, 2, none⟩) hblt).trans b2; have z9 := (hby.cell (p := ⟨w.heap.size, 3, none⟩) hblt).trans b3) | fail)
            all_goals go_wp2
            all_goals go_roundw
            all_goals first
              | exact ⟨L1 ++ A :: m1, x, m2, rfl, HL'.out, hx, HBB.out.drew.trans (hby.mono HBB.out.size)⟩
              | exact HRK.out
      case rest =>
        obtain ⟨m, rfl, hm, hbc⟩ := hcut
        have HM := Lib.hid hm
        have hoc := outs_below HOU.out hbc
        have oc := hoc.cell hi
        have of := hoc.warm (4 + i)
        have of2 := hoc.warm i
        have HBC := Lib.hid hbc
        have HOC := Lib.hid hoc
        clear hm hbc hoc
        go_wp2
        obtain ⟨M1, M2, hm1, hm2, hm3⟩ := HM.out
        have hbw : Below w.heap.size w wc := HBL.out.trans (HBC.out.mono HBL.out.size)
        refine ⟨⟨(i : Int) - 1, M1, m, M2, fun j => if j = i then .pointer (some ⟨m.a, 0, none⟩) else g j, by omega, by omega, rfl, rfl, hm1, by omega, outs_set HOC.out hi, fun j h1 h2 => ?_, ?_, ?_, hbw.setCell (show w.heap.size ≤ w.heap.size + 1 + 1 by omega) _⟩, ?_⟩
        · by_cases hj : j = i
          · subst hj
            exact ⟨m, if_pos rfl, HM.out⟩
          · obtain ⟨y, y1, y2⟩ := HG.out j (by omega) h2
            exact ⟨y, by rw [← y1]; exact if_neg hj, y2⟩
        · exact (heap_setCell_other wc ⟨w.heap.size + 1 + 1, i, none⟩ w.heap.size _ (show w.heap.size ≠ w.heap.size + 1 + 1 by omega)).trans ((HBC.out.block _ HBX.out.lt).trans HBX.out)
        · have hlt : w.heap.size + 1 < w1.heap.size := by have := HOU.out.lt; omega
          exact (heap_setCell_other wc ⟨w.heap.size + 1 + 1, i, none⟩ (w.heap.size + 1) _ (show w.heap.size + 1 ≠ w.heap.size + 1 + 1 by omega)).trans ((HBC.out.block _ hlt).trans HP1.out)
        · simp [intOf]
    · obtain rfl : x = -1 := by omega
      have d0 : decide (0 ≤ (-1 : Int)) = false := by decide
      obtain ⟨m0, e0, -⟩ := HG.out 0 (by omega) (by omega)
      have o0 : wr.cell? ⟨w.heap.size + 1 + 1, 0, none⟩ = some (.pointer (some ⟨m0.a, 0, none⟩)) := by rw [HOU.out.cell (j := 0) (by omega), e0]; rfl
      obtain ⟨m1, e1, -⟩ := HG.out 1 (by omega) (by omega)
      have o1 : wr.cell? ⟨w.heap.size + 1 + 1, 1, none⟩ = some (.pointer (some ⟨m1.a, 0, none⟩)) := by rw [HOU.out.cell (j := 1) (by omega), e1]; rfl
      obtain ⟨m2, e2, -⟩ := HG.out 2 (by omega) (by omega)
      have o2 : wr.cell? ⟨w.heap.size + 1 + 1, 2, none⟩ = some (.pointer (some ⟨m2.a, 0, none⟩)) := by rw [HOU.out.cell (j := 2) (by omega), e2]; rfl
      obtain ⟨m3, e3, -⟩ := HG.out 3 (by omega) (by omega)
      have o3 : wr.cell? ⟨w.heap.size + 1 + 1, 3, none⟩ = some (.pointer (some ⟨m3.a, 0, none⟩)) := by rw [HOU.out.cell (j := 3) (by omega), e3]; rfl
      obtain ⟨m4, e4, -⟩ := HG.out 4 (by omega) (by omega)
      have o4 : wr.cell? ⟨w.heap.size + 1 + 1, 4, none⟩ = some (.pointer (some ⟨m4.a, 0, none⟩)) := by rw [HOU.out.cell (j := 4) (by omega), e4]; rfl
      obtain ⟨m5, e5, -⟩ := HG.out 5 (by omega) (by omega)
      have o5 : wr.cell? ⟨w.heap.size + 1 + 1, 5, none⟩ = some (.pointer (some ⟨m5.a, 0, none⟩)) := by rw [HOU.out.cell (j := 5) (by omega), e5]; rfl
      obtain ⟨m6, e6, -⟩ := HG.out 6 (by omega) (by omega)
      have o6 : wr.cell? ⟨w.heap.size + 1 + 1, 6, none⟩ = some (.pointer (some ⟨m6.a, 0, none⟩)) := by rw [HOU.out.cell (j := 6) (by omega), e6]; rfl
      obtain ⟨m7, e7, -⟩ := HG.out 7 (by omega) (by omega)
      have o7 : wr.cell? ⟨w.heap.size + 1 + 1, 7, none⟩ = some (.pointer (some ⟨m7.a, 0, none⟩)) := by rw [HOU.out.cell (j := 7) (by omega), e7]; rfl
      have hq : Outs (w.heap.size + 1) (fun _ => .pointer none) wr := outs_new (HP1.out.trans HP.out)
      have r0 : wr.cell? ⟨w.heap.size + 1, 0, none⟩ = some (.pointer none) := hq.cell (j := 0) (by omega)
      have t0 := hq.warm 0
      have r1 : wr.cell? ⟨w.heap.size + 1, 1, none⟩ = some (.pointer none) := hq.cell (j := 1) (by omega)
      have t1 := hq.warm 1
      have r2 : wr.cell? ⟨w.heap.size + 1, 2, none⟩ = some (.pointer none) := hq.cell (j := 2) (by omega)
      have t2 := hq.warm 2
      have r3 : wr.cell? ⟨w.heap.size + 1, 3, none⟩ = some (.pointer none) := hq.cell (j := 3) (by omega)
      have t3 := hq.warm 3
      have r4 : wr.cell? ⟨w.heap.size + 1, 4, none⟩ = some (.pointer none) := hq.cell (j := 4) (by omega)
      have t4 := hq.warm 4
      have r5 : wr.cell? ⟨w.heap.size + 1, 5, none⟩ = some (.pointer none) := hq.cell (j := 5) (by omega)
      have t5 := hq.warm 5
      have r6 : wr.cell? ⟨w.heap.size + 1, 6, none⟩ = some (.pointer none) := hq.cell (j := 6) (by omega)
      have t6 := hq.warm 6
      have r7 : wr.cell? ⟨w.heap.size + 1, 7, none⟩ = some (.pointer none) := hq.cell (j := 7) (by omega)
      have t7 := hq.warm 7
      clear hq
      have HE := Lib.hid (show #[g 0, g 1, g 2, g 3, g 4, g 5, g 6, g 7] = #[pN m0, pN m1, pN m2, pN m3, pN m4, pN m5, pN m6, pN m7] by rw [e0, e1, e2, e3, e4, e5, e6, e7])
      clear e0 e1 e2 e3 e4 e5 e6 e7
      go_wp2
      refine bodyPost_ret (v := .agg #[pN m0, pN m1, pN m2, pN m3, pN m4, pN m5, pN m6, pN m7]) (by simp [results, Tryz.results137, go_sem, r0, r1, r2, r3, r4, r5, r6, r7, pN]) rfl ?_
      refine ⟨g, by rw [HE.out], fun j hj => HG.out j (by omega) hj, ?_⟩
      have h1 : w.heap.size ≤ w.heap.size + 1 := by omega
      exact (((((((HBL.out.setCell h1 _).setCell h1 _).setCell h1 _).setCell h1 _).setCell h1 _).setCell h1 _).setCell h1 _).setCell h1 _
end Go.Proofs.YthaalhigmihijabGreat
