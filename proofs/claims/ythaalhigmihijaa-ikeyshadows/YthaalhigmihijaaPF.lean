/- slices.pdqsortOrdered at uint64, of fewer than 50 numbers: it sorts. -/
import Derived.Test.YthaalhigmihijaaPE
import Derived.Test.YthaalhigmihijaaPA
import Derived.Test.YthaalhigmihijaaPC
import Derived.Deep.LoopGhost
namespace Go.Proofs.Ythaalhigmihijaa
open Go.RowKit

theorem Arr.bel {w w' : World} {g : Nat} {d : List Int} (h : Arr w g d) (hb : Below w.heap.size w w') : Arr w' g d := by
  have hlt := h.lt
  obtain ⟨cur, h1, h2⟩ := h
  exact ⟨cur, (hb.block g hlt).trans h1, h2⟩
theorem grown_bel {w w1 w2 : World} {r : Option Nat} (h : w.grownBy w1 r) (k : Below w1.heap.size w1 w2) : w.grownBy w2 r :=
  ⟨k.os.trans h.os, k.tape.trans h.tape, k.output.trans h.output, Nat.le_trans h.size k.size, fun x hx hr => (k.block x (Nat.lt_of_lt_of_le hx h.size)).trans (h.block x hx hr)⟩
set_option maxHeartbeats 8000000 in
set_option maxRecDepth 1000000 in
theorem pdq_any (n cap g : Nat) (hN : n < 50) : ∀ (N a b lim : Nat) (d : List Int) (w : World), b - a < N → Arr w g d → d.length = n → a ≤ b → b ≤ n → lim ≤ 1000 → Low d a b →
    Calls Try.prog 63 #[.slice (some ⟨g, 0, none⟩) n cap, .int .i64 (a : Int), .int .i64 (b : Int), .int .i64 (lim : Int)] w fun e w' => e = .returned (.tuple #[]) ∧ ∃ d', Sw a b d d' ∧ Srt d' a b ∧ Arr w' g d' ∧ w.grownBy w' (some g) := by
  intro N
  induction N with
  | zero => intro _ _ _ _ _ h; exact absurd h (Nat.not_lt_zero _)
  | succ N ih =>
    intro a b lim d w hNb h hn hab hb hlim hlow
    have IH := Lib.hid ih
    have HH := Lib.hid h
    have HL := Lib.hid hlow
    clear ih h hlow
    go_enter Try.func63, Try.ntmps63
    go_wp2
    go_loopg [1, 2, 3, 8, 9] (b - a) (fun k s1 s2 s3 s8 s9 wr => ∃ (x y lm : Nat) (wb wp : Bool) (e : List Int), s1 = .int .i64 (x : Int) ∧ s2 = .int .i64 (y : Int) ∧ s3 = .int .i64 (lm : Int) ∧ s8 = .bool wb ∧ s9 = .bool wp ∧ a ≤ x ∧ x ≤ y ∧ y ≤ b ∧ y - x ≤ k ∧ k ≤ b - a ∧ lm ≤ lim ∧ Hid (Sw a b d e ∧ Rdy e a b x y ∧ Arr wr g e ∧ w.grownBy wr (some g)))
    case atStart => exact ⟨a, b, lim, true, true, d, rfl, rfl, rfl, rfl, rfl, Nat.le_refl _, hab, Nat.le_refl _, Nat.le_refl _, Nat.le_refl _, Nat.le_refl _, Lib.hid ⟨.refl, rdy_start d a b, HH.out, World.grownBy.refl _ _⟩⟩
    case round =>
      obtain ⟨x, y, lm, wb, wp, e, rfl, rfl, rfl, rfl, rfl, hax, hxy, hyb, hk, hkN, hlm, HS⟩ := hrel
      have hel : e.length = n := by rw [HS.out.1.length, hn]
      by_cases h12 : y - x ≤ 12
      · have h12z : (y : Int) - (x : Int) ≤ 12 := by omega
        have C := Lib.hid (ins_any g n cap x y e wr HS.out.2.2.1 hel hxy (by omega) (by omega))
        go_wp2_with (go_at_call 67; refine C.out.mono ?_; rintro _ w1 ⟨rfl, e1, q1, q2, q3, q4⟩)
        (try simp only [Exit.inBlock, Exit.then]); refine bodyPost_ret (results_none rfl _ _ _) rfl ?_
        have hs := HS.out
        exact ⟨rfl, e1, hs.1.trans (q1.mono hax hyb), rdy_done (rdy_keep hs.2.1 q1 hax hyb (by omega)) q2, q3, grown_two hs.2.2.2 q4⟩
      · have h12z : ¬ ((y : Int) - (x : Int) ≤ 12) := by omega
        by_cases hl0 : lm = 0
        · subst hl0
          have C := Lib.hid (heapSort_any g n cap x y e wr HS.out.2.2.1 hel (by omega) (by omega) (by omega))
          go_wp2_with (go_at_call 68; refine C.out.mono ?_; rintro _ w1 ⟨rfl, e1, q1, q2, q3, q4⟩)
          (try simp only [Exit.inBlock, Exit.then]); refine bodyPost_ret (results_none rfl _ _ _) rfl ?_
          have hs := HS.out
          exact ⟨rfl, e1, hs.1.trans (q1.mono hax hyb), rdy_done (rdy_keep hs.2.1 q1 hax hyb (by omega)) q2, q3, grown_two hs.2.2.2 q4⟩
        · have hl0z : ¬ ((lm : Int) = 0) := by omega
          go_upto_if 35 with fail
          go_cut [3] from 19 to 133 (fun s3 wc => ∃ (l1 : Nat) (e1 : List Int), s3 = .int .i64 (l1 : Int) ∧ l1 ≤ lm ∧ e1.length = n ∧ Hid (Sw a b d e1 ∧ Rdy e1 a b x y ∧ Arr wc g e1 ∧ w.grownBy wc (some g)))
          case first =>
            cases wb
            · have C := Lib.hid (break_any g n cap x y e wr HS.out.2.2.1 hel (by omega) (by omega) (by omega) (by omega))
              go_wp2_with (go_at_call 69; refine C.out.mono ?_; rintro _ w1 ⟨rfl, e1, q1, q3, q4⟩)
              go_meet
              case rel =>
                have hs := HS.out
                refine ⟨lm - 1, e1, ?_, by omega, by rw [q1.length, hel], Lib.hid ⟨hs.1.trans (q1.mono hax hyb), rdy_keep hs.2.1 q1 hax hyb (by omega), q3, grown_two hs.2.2.2 q4⟩⟩
                congr 1
                omega
            · go_wp2_with fail
              go_meet
              case rel => exact ⟨lm, e, rfl, Nat.le_refl _, hel, HS⟩
          case rest =>
            obtain ⟨l1, e1, rfl, hl1, he1, H1⟩ := hcut
            have C1 := Lib.hid (pivot_any g n cap x y e1 wc H1.out.2.2.1 he1 (by omega) (by omega) (by omega) (by omega))
            go_upto_if 50 with (go_at_call 70; refine C1.out.mono ?_; rintro _ w2 ⟨p, hn2, rfl, hp1, hp2, hh2, hb2⟩)
            have H2 := Lib.hid (show Sw a b d e1 ∧ Rdy e1 a b x y ∧ Arr w2 g e1 ∧ w.grownBy w2 (some g) from ⟨H1.out.1, H1.out.2.1, H1.out.2.2.1.bel hb2, grown_bel H1.out.2.2.2 hb2⟩)
            clear hb2 C1 H1
            go_cut [11, 12] from 19 to 133 (fun s11 s12 wc => ∃ (p2 : Nat) (h3 : Int) (e2 : List Int), s11 = .int .i64 (p2 : Int) ∧ s12 = .int .i64 h3 ∧ (h3 = 0 ∨ h3 = 1) ∧ x ≤ p2 ∧ p2 < y ∧ e2.length = n ∧ Hid (Sw a b d e2 ∧ Rdy e2 a b x y ∧ Arr wc g e2 ∧ w.grownBy wc (some g)))
            case first =>
              rcases hh2 with rfl | rfl | rfl
              · go_wp2_with fail
                go_meet
                case rel => exact ⟨p, 0, e1, rfl, rfl, .inl rfl, hp1, hp2, he1, H2⟩
              · go_wp2_with fail
                go_meet
                case rel => exact ⟨p, 1, e1, rfl, rfl, .inr rfl, hp1, hp2, he1, H2⟩
              · have C := Lib.hid (rev_any g n cap x y e1 w2 H2.out.2.2.1 he1 (by omega) (by omega) (by omega))
                go_wp2_with (go_at_call 71; refine C.out.mono ?_; rintro _ w3 ⟨rfl, e2, q1, q3, q4⟩)
                go_meet
                case rel =>
                  have hs := H2.out
                  refine ⟨(y - 1) - (p - x), 1, e2, ?_, rfl, .inr rfl, by omega, by omega, by rw [q1.length, he1], Lib.hid ⟨hs.1.trans (q1.mono hax hyb), rdy_keep hs.2.1 q1 hax hyb (by omega), q3, grown_two hs.2.2.2 q4⟩⟩
                  congr 1
                  omega
            case rest =>
              obtain ⟨p2, h3, e2, rfl, rfl, hh3, hp21, hp22, he2, H3⟩ := hcut
              clear H2 hh2 hp1 hp2
              go_upto_region 15 with fail
              go_cut [12, 68] from 19 to 133 (fun s12 s68 wx => ∃ t : Bool, s12 = .int .i64 h3 ∧ s68 = .bool t ∧ wx = wc)
              case first =>
                rcases hh3 with rfl | rfl <;> cases wb <;> cases wp <;>
                  (go_wp2_with fail
                   go_meet
                   exact ⟨_, rfl, rfl, rfl⟩)
              case rest =>
                obtain ⟨t, rfl, rfl, rfl⟩ := hcut
                go_upto_if 68 with fail
                go_cut [] from 19 to 133 (fun wx => Hid (Sw a b d e2 ∧ Rdy e2 a b x y ∧ Arr wx g e2 ∧ w.grownBy wx (some g)))
                case first =>
                  cases t
                  · go_wp2_with fail
                    go_meet
                    case rel => exact H3
                  · have C := Lib.hid (part_any g n cap x y e2 wc H3.out.2.2.1 he2 (by omega) (by omega) (by omega) (by omega))
                    go_wp2_with (go_at_call 72; refine C.out.mono ?_; rintro _ w4 ⟨r, rfl, q1, q2⟩; cases r)
                    all_goals first
                      | (go_meet
                         exact Lib.hid ⟨H3.out.1, H3.out.2.1, H3.out.2.2.1.bel q2, grown_bel H3.out.2.2.2 q2⟩)
                      | ((try simp only [Exit.inBlock, Exit.then]); refine bodyPost_ret (results_none rfl _ _ _) rfl ?_
                         exact ⟨rfl, e2, H3.out.1, rdy_done H3.out.2.1 (q1 (by first | rfl | trivial)), H3.out.2.2.1.bel q2, grown_bel H3.out.2.2.2 q2⟩)
                case rest =>
                  have H4 : Hid (Sw a b d e2 ∧ Rdy e2 a b x y ∧ Arr _ g e2 ∧ w.grownBy _ (some g)) := hcut
                  clear hcut H3
                  have HLW := Lib.hid (low_of H4.out.2.1 HL.out H4.out.1 (by omega) hax hyb)
                  have CL := Lib.hid (fun (i j : Nat) W => lessU_any (e2.getD i 0) (e2.getD j 0) W)
                  have kp := H4.out.2.2.1.cell (i := p2) (by omega)
                  go_upto_region 17 with fail
                  go_cut [87] from 19 to 133 (fun s87 wx => ∃ t : Bool, s87 = .bool t ∧ (t = true → x ≠ 0 ∧ e2.getD p2 0 ≤ e2.getD (x - 1) 0) ∧ Hid (Sw a b d e2 ∧ Rdy e2 a b x y ∧ Arr wx g e2 ∧ w.grownBy wx (some g)))
                  case first =>
                    rcases Nat.eq_zero_or_pos x with hx0 | hx0
                    · have d1 : decide ((x : Int) > 0) = false := decide_eq_false (by omega)
                      go_quiet ((go_at_call 65; exact quietU (CL.out (x - 1) p2 _)))
                      go_wp2_with fail
                      go_meet
                      case rel => exact ⟨false, by simp, fun h => (by cases h), Lib.hid ⟨H4.out.1, H4.out.2.1, H4.out.2.2.1.drewN _, H4.out.2.2.2.drewN1 _⟩⟩
                    · obtain ⟨q, hq⟩ : ∃ q, x = q + 1 := ⟨x - 1, by omega⟩
                      have d1 : decide ((x : Int) > 0) = true := decide_eq_true (by omega)
                      have e9 : (x : Int) - 1 = (q : Int) := by omega
                      have w9 : IntKind.i64.wrap (q : Int) = (q : Int) := by rw [IntKind.wrap_i64]; omega
                      have kq := H4.out.2.2.1.cell (i := q) (by omega)
                      have t1 : (q : Int) < (n : Int) := by omega
                      have t2 : (p2 : Int) < (n : Int) := by omega
                      have CL1 := Lib.hid (CL.out q p2)
                      cases hd : decide (e2.getD q 0 < e2.getD p2 0)
                      · rw [hd] at CL1
                        have HD := Lib.hid (Int.not_lt.mp (of_decide_eq_false hd))
                        have HQ := Lib.hid hq
                        clear hd hq CL
                        generalize hX : e2.getD q 0 = X at *
                        generalize hY : e2.getD p2 0 = Y at *
                        have HXY := Lib.hid (And.intro hX hY)
                        clear hX hY
                        go_quiet ((go_at_call 65; exact quietU (CL1.out _)))
                        go_wp2_with fail
                        go_meet
                        case rel => exact ⟨true, rfl, fun _ => ⟨by omega, by have := HD.out; rw [show x - 1 = q by have := HQ.out; omega, HXY.out.1]; exact this⟩, Lib.hid ⟨H4.out.1, H4.out.2.1, H4.out.2.2.1.drewN _, H4.out.2.2.2.drewN1 _⟩⟩
                      · rw [hd] at CL1
                        clear hd hq CL
                        generalize hX : e2.getD q 0 = X at *
                        generalize hY : e2.getD p2 0 = Y at *
                        clear hX hY
                        go_quiet ((go_at_call 65; exact quietU (CL1.out _)))
                        go_wp2_with fail
                        go_meet
                        case rel => exact ⟨false, rfl, fun h => (by cases h), Lib.hid ⟨H4.out.1, H4.out.2.1, H4.out.2.2.1.drewN _, H4.out.2.2.2.drewN1 _⟩⟩
                  case rest =>
                    obtain ⟨t, rfl, ht, H5⟩ := hcut
                    clear H4 kp CL
                    cases t
                    · clear ht
                      have C := Lib.hid (partn_any g n cap x y p2 e2 wc H5.out.2.2.1 he2 hp21 hp22 (by omega) (by omega))
                      go_upto_if 113 with (go_at_call 74; refine C.out.mono ?_; rintro _ w7 ⟨m, ap, e3, rfl, m1, m2, q1, q2, q3, q4, q5⟩)
                      have he3 : e3.length = n := by rw [q1.length, he2]
                      have H6 := Lib.hid (show Sw a b d e3 ∧ Rdy e3 a b x y ∧ Arr w7 g e3 ∧ w.grownBy w7 (some g) from ⟨H5.out.1.trans (q1.mono hax hyb), rdy_keep H5.out.2.1 q1 hax hyb (by omega), q4, grown_two H5.out.2.2.2 q5⟩)
                      have HLX := Lib.hid (low_keep HLW.out q1 (by omega))
                      have HQ := Lib.hid (And.intro q2 q3)
                      clear q1 q2 q3 q4 q5 C H5 HLW
                      by_cases h4 : m - x < y - m
                      · have h4z : (m : Int) - (x : Int) < (y : Int) - (m : Int) := by omega
                        have CI := Lib.hid (IH.out x m l1 e3 w7 (by omega) H6.out.2.2.1 he3 (by omega) (by omega) (by omega) (by
                          rcases HLX.out with hl | hl
                          · exact .inl hl
                          · exact .inr fun k k1 k2 => hl k k1 (by omega)))
                        go_wp2_with (go_at_call 63; refine CI.out.mono ?_; rintro _ w8 ⟨rfl, e4, r1, r2, r3, r4⟩)
                        go_roundg (y - (m + 1))
                        case measure => omega
                        case rel =>
                          have hs := H6.out
                          exact ⟨m + 1, y, l1, _, ap, e4, by simp, rfl, rfl, rfl, rfl, by omega, by omega, hyb, Nat.le_refl _, by omega, by omega, Lib.hid ⟨hs.1.trans (r1.mono hax (by omega)), rdy_left hs.2.1 hax hyb (by omega) m2 HQ.out.1 HQ.out.2 r1 r2, r3, grown_two hs.2.2.2 r4⟩⟩
                      · have h4z : ¬ ((m : Int) - (x : Int) < (y : Int) - (m : Int)) := by omega
                        have CI := Lib.hid (IH.out (m + 1) y l1 e3 w7 (by omega) H6.out.2.2.1 he3 (by omega) (by omega) (by omega) (.inr fun k k1 k2 => by
                          rw [show m + 1 - 1 = m by omega]
                          exact HQ.out.2 k (by omega) k2))
                        rw [show ((m + 1 : Nat) : Int) = (m : Int) + 1 by omega] at CI
                        go_wp2_with (go_at_call 63; refine CI.out.mono ?_; rintro _ w8 ⟨rfl, e4, r1, r2, r3, r4⟩)
                        go_roundg (m - x)
                        case measure => omega
                        case rel =>
                          have hs := H6.out
                          exact ⟨x, m, l1, _, ap, e4, rfl, rfl, rfl, rfl, rfl, hax, m1, by omega, Nat.le_refl _, by omega, by omega, Lib.hid ⟨hs.1.trans (r1.mono (by omega) hyb), rdy_right hs.2.1 hax hyb (by omega) m1 HQ.out.1 HQ.out.2 r1 r2, r3, grown_two hs.2.2.2 r4⟩⟩
                    · have C := Lib.hid (parteq_any g n cap x y p2 e2 wc H5.out.2.2.1 he2 hp21 hp22 (by omega) (by omega))
                      go_wp2_with (go_at_call 73; refine C.out.mono ?_; rintro _ w7 ⟨m, e3, rfl, m1, m2, q1, q2, q3, q4, q5⟩)
                      go_roundg (y - m)
                      case measure => omega
                      case rel =>
                        have hs := H5.out
                        have hx := ht (by first | rfl | trivial)
                        exact ⟨m, y, l1, wb, wp, e3, rfl, rfl, rfl, rfl, rfl, by omega, m2, hyb, Nat.le_refl _, by omega, by omega, Lib.hid ⟨hs.1.trans (q1.mono hax hyb), rdy_eq hs.2.1 q1 hax hyb (by omega) HLW.out hx.1 hx.2 q2 q3, q4, grown_two hs.2.2.2 q5⟩⟩
end Go.Proofs.Ythaalhigmihijaa
