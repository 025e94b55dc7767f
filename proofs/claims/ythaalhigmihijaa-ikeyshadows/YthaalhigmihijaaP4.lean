/- slices.siftDownOrdered at uint64: the walk. -/
import Derived.Test.YthaalhigmihijaaP3
namespace Go.Proofs.Ythaalhigmihijaa
open Go.RowKit

theorem quietU2 {P : Program} {f : FuncId} {args : Array Value} {w : World} {v : Value} (nd x : Nat) (h : Calls P f args (w.drewN (nd + x)) fun e w' => e = .returned v ∧ w.drewN (nd + x) = w') :
    Calls P f args (w.drewN (nd + x)) fun e w'' => e = .returned v ∧ ∃ n, w'' = w.drewN (nd + n) := h.mono fun _ _ ⟨he, hm⟩ => ⟨he, x, hm.symm⟩
set_option maxHeartbeats 8000000 in
set_option maxRecDepth 100000 in
theorem sift_any (g n cap lo hi f : Nat) (d : List Int) (w : World) (h : Arr w g d) (hn : d.length = n) (hlh : lo ≤ hi) (hf : f + hi ≤ n) (hN : n ≤ 1000) (hp : Heap d f (lo + 1) hi) :
    Calls Try.prog 77 #[.slice (some ⟨g, 0, none⟩) n cap, .int .i64 (lo : Int), .int .i64 (hi : Int), .int .i64 (f : Int)] w fun e w' => e = .returned (.tuple #[]) ∧ ∃ d', Sw f (f + hi) d d' ∧ Heap d' f lo hi ∧ Arr w' g d' ∧ w.grownBy w' (some g) := by
  go_enter Try.func77, Try.ntmps77
  go_wp2
  go_loopw [8] (fun rv wr => ∃ (r : Nat) (e : List Int), rv = .int .i64 (r : Int) ∧ lo ≤ r ∧ r ≤ hi ∧ Sw f (f + hi) d e ∧ HeapBut e f lo hi r ∧ Arr wr g e ∧ w.grownBy wr (some g)) (fun rv _ => hi - (intOf rv).toNat)
  case atStart => exact ⟨lo, d, rfl, Nat.le_refl _, hlh, .refl, heap_start hp, h, World.grownBy.refl _ _⟩
  case round =>
    obtain ⟨r, e, rfl, hr1, hr2, hsw, hbu, har, hgr⟩ := hrel
    have hel := hsw.length
    have HAR := Lib.hid har
    have HGR := Lib.hid hgr
    have HSW := Lib.hid hsw
    have HBU := Lib.hid hbu
    clear har hgr hsw hbu h hp
    obtain ⟨c, hc⟩ : ∃ c, c = 2 * r + 1 := ⟨_, rfl⟩
    have e1 : IntKind.i64.wrap (2 * (r : Int)) + 1 = (c : Int) := by rw [IntKind.wrap_i64]; omega
    have e2 : 2 * (r : Int) + 1 = (c : Int) := by omega
    have e3 : IntKind.i64.wrap (c : Int) = (c : Int) := by rw [IntKind.wrap_i64]; omega
    have e4 : IntKind.i64.wrap (2 * (r : Int)) = 2 * (r : Int) := by rw [IntKind.wrap_i64]; omega
    by_cases hch : hi ≤ c
    · have d1 : decide ((hi : Int) ≤ (c : Int)) = true := by simp; omega
      have HC := Lib.hid hc
      clear hc
      go_wp2
      first | go_end0 | refine bodyPost_ret (results_none rfl _ _ _) rfl ?_
      exact ⟨rfl, e, HSW.out, heap_end HBU.out (fun k hk hkh => by have := HC.out; unfold Kid at hk; omega), HAR.out, HGR.out⟩
    · have d1 : decide ((hi : Int) ≤ (c : Int)) = false := by simp; omega
      obtain ⟨pc, hpc⟩ : ∃ pc, pc = f + c := ⟨_, rfl⟩
      obtain ⟨pd, hpd⟩ : ∃ pd, pd = f + c + 1 := ⟨_, rfl⟩
      obtain ⟨pr, hpr⟩ : ∃ pr, pr = f + r := ⟨_, rfl⟩
      obtain ⟨c1, hc1⟩ : ∃ c1, c1 = c + 1 := ⟨_, rfl⟩
      have s1 : (f : Int) + (c : Int) = (pc : Int) := by omega
      have s2 : (pc : Int) + 1 = (pd : Int) := by omega
      have s3 : (f : Int) + (r : Int) = (pr : Int) := by omega
      have s4 : (c : Int) + 1 = (c1 : Int) := by omega
      have s5 : (f : Int) + (c1 : Int) = (pd : Int) := by omega
      have t1 : IntKind.i64.wrap (pc : Int) = (pc : Int) := by rw [IntKind.wrap_i64]; omega
      have t2 : IntKind.i64.wrap (pd : Int) = (pd : Int) := by rw [IntKind.wrap_i64]; omega
      have t3 : IntKind.i64.wrap (pr : Int) = (pr : Int) := by rw [IntKind.wrap_i64]; omega
      have t4 : IntKind.i64.wrap (c1 : Int) = (c1 : Int) := by rw [IntKind.wrap_i64]; omega
      have u1 : (pc : Int) < (n : Int) := by omega
      have u3 : (pr : Int) < (n : Int) := by omega
      have k1 := HAR.out.cell (i := pc) (by omega)
      have k3 := HAR.out.cell (i := pr) (by omega)
      have f1 := HAR.out.warm pc
      have f2 := HAR.out.warm pd
      have f3 := HAR.out.warm pr
      have HP := Lib.hid (show c = 2 * r + 1 ∧ pc = f + c ∧ pd = f + c + 1 ∧ pr = f + r ∧ c1 = c + 1 from ⟨hc, hpc, hpd, hpr, hc1⟩)
      have HPR := Lib.hid hpr
      by_cases h2 : c + 1 < hi
      · have d2 : decide ((c1 : Int) < (hi : Int)) = true := by simp; omega
        have d3 : decide (c1 < hi) = true := by simp; omega
        have u2 : (pd : Int) < (n : Int) := by omega
        have k2 := HAR.out.cell (i := pd) (by omega)
        have CL := Lib.hid (fun W => lessU_any (e.getD pc 0) (e.getD pd 0) W)
        cases hd : decide (e.getD pc 0 < e.getD pd 0) with
        | true =>
          rw [hd] at CL
          have HPK := Lib.hid (show pd = f + c1 by omega)
          have HMAX := Lib.hid (show ∀ x, Kid r x → x < hi → e.getD (f + x) 0 ≤ e.getD pd 0 from fun x hx _ => by
            have := of_decide_eq_true hd
            rcases hx with hx | hx
            · rw [show f + x = pc by omega]; omega
            · rw [show f + x = pd by omega]; omega)
          clear hd hpc hpd hpr hc1 hc
          cases hd2 : decide (e.getD pr 0 < e.getD pd 0) with
          | false =>
            have CL2 := Lib.hid (fun W => lessU_any (e.getD pr 0) (e.getD pd 0) W)
            rw [hd2] at CL2
            have HEND := Lib.hid (heap_end HBU.out (fun x hx hxh => by
              have := HMAX.out x hx hxh
              have := of_decide_eq_false hd2
              rw [HPR.out] at this
              omega))
            clear hd2
            go_wp2
            go_quiet ((go_at_call 65; exact quietU (CL.out _)))
            go_wp2_with (fail)
            go_quiet ((go_at_call 65; exact quietU2 _ _ (CL2.out _)))
            go_wp2
            first | go_end0 | refine bodyPost_ret (results_none rfl _ _ _) rfl ?_
            exact ⟨rfl, e, HSW.out, HEND.out, (HAR.out.drewN _).drewN _, (HGR.out.drewN1 _).drewN1 _⟩
          | true =>
            have CL2 := Lib.hid (fun W => lessU_any (e.getD pr 0) (e.getD pd 0) W)
            rw [hd2] at CL2
            have HST := Lib.hid (show HeapBut (swp e pr pd) f lo hi c1 from by
              have := of_decide_eq_true hd2
              have hh := HP.out
              rw [HPR.out, HPK.out] at this ⊢
              exact heap_step HBU.out (by omega) hr1 (by unfold Kid; omega) (by omega) this (fun x hx hxh => by have := HMAX.out x hx hxh; rw [HPK.out] at this; exact this))
            have HSS := Lib.hid (show Sw f (f + hi) d (swp e pr pd) from by have := HP.out; exact .step HSW.out (by omega) (by omega) (by omega) (by omega))
            have HAA := Lib.hid (show ∀ W, Arr W g e → Arr ((W.setCell ⟨g, pr, none⟩ (.int .u64 (e.getD pd 0))).setCell ⟨g, pd, none⟩ (.int .u64 (e.getD pr 0))) g (swp e pr pd) from fun W hW => by have := HP.out; exact hW.swap (by omega) (by omega))
            clear hd2
            go_wp2
            go_quiet ((go_at_call 65; exact quietU (CL.out _)))
            go_wp2_with (fail)
            go_quiet ((go_at_call 65; exact quietU2 _ _ (CL2.out _)))
            go_wp2
            go_region_with (fail)
            all_goals go_wp2
            all_goals go_roundw
            all_goals first
              | exact ⟨c1, swp e pr pd, rfl, by have := HP.out; omega, by have := HP.out; omega, HSS.out, HST.out, HAA.out _ (HAR.out.drewN _), grown_at (grown_at ((HGR.out.drewN1 _)) _) _⟩
              | (have := HP.out; simp [intOf]; omega)
        | false =>
          rw [hd] at CL
          have HPK := Lib.hid (show pc = f + c by omega)
          have HMAX := Lib.hid (show ∀ x, Kid r x → x < hi → e.getD (f + x) 0 ≤ e.getD pc 0 from fun x hx _ => by
            have := of_decide_eq_false hd
            rcases hx with hx | hx
            · rw [show f + x = pc by omega]; omega
            · rw [show f + x = pd by omega]; omega)
          clear hd hpc hpd hpr hc1 hc
          cases hd2 : decide (e.getD pr 0 < e.getD pc 0) with
          | false =>
            have CL2 := Lib.hid (fun W => lessU_any (e.getD pr 0) (e.getD pc 0) W)
            rw [hd2] at CL2
            have HEND := Lib.hid (heap_end HBU.out (fun x hx hxh => by
              have := HMAX.out x hx hxh
              have := of_decide_eq_false hd2
              rw [HPR.out] at this
              omega))
            clear hd2
            go_wp2
            go_quiet ((go_at_call 65; exact quietU (CL.out _)))
            go_wp2_with (fail)
            go_quiet ((go_at_call 65; exact quietU2 _ _ (CL2.out _)))
            go_wp2
            first | go_end0 | refine bodyPost_ret (results_none rfl _ _ _) rfl ?_
            exact ⟨rfl, e, HSW.out, HEND.out, (HAR.out.drewN _).drewN _, (HGR.out.drewN1 _).drewN1 _⟩
          | true =>
            have CL2 := Lib.hid (fun W => lessU_any (e.getD pr 0) (e.getD pc 0) W)
            rw [hd2] at CL2
            have HST := Lib.hid (show HeapBut (swp e pr pc) f lo hi c from by
              have := of_decide_eq_true hd2
              have hh := HP.out
              rw [HPR.out, HPK.out] at this ⊢
              exact heap_step HBU.out (by omega) hr1 (by unfold Kid; omega) (by omega) this (fun x hx hxh => by have := HMAX.out x hx hxh; rw [HPK.out] at this; exact this))
            have HSS := Lib.hid (show Sw f (f + hi) d (swp e pr pc) from by have := HP.out; exact .step HSW.out (by omega) (by omega) (by omega) (by omega))
            have HAA := Lib.hid (show ∀ W, Arr W g e → Arr ((W.setCell ⟨g, pr, none⟩ (.int .u64 (e.getD pc 0))).setCell ⟨g, pc, none⟩ (.int .u64 (e.getD pr 0))) g (swp e pr pc) from fun W hW => by have := HP.out; exact hW.swap (by omega) (by omega))
            clear hd2
            go_wp2
            go_quiet ((go_at_call 65; exact quietU (CL.out _)))
            go_wp2_with (fail)
            go_quiet ((go_at_call 65; exact quietU2 _ _ (CL2.out _)))
            go_wp2
            go_region_with (fail)
            all_goals go_wp2
            all_goals go_roundw
            all_goals first
              | exact ⟨c, swp e pr pc, rfl, by have := HP.out; omega, by have := HP.out; omega, HSS.out, HST.out, HAA.out _ (HAR.out.drewN _), grown_at (grown_at ((HGR.out.drewN1 _)) _) _⟩
              | (have := HP.out; simp [intOf]; omega)
      · have d2 : decide ((c1 : Int) < (hi : Int)) = false := by simp; omega
        have d3 : decide (c1 < hi) = false := by simp; omega
        have HPK := Lib.hid (show pc = f + c by omega)
        have HMAX := Lib.hid (show ∀ x, Kid r x → x < hi → e.getD (f + x) 0 ≤ e.getD pc 0 from fun x hx hxh => by
          rcases hx with hx | hx
          · rw [show f + x = pc by omega]; omega
          · omega)
        clear hpc hpd hpr hc1 hc
        cases hd2 : decide (e.getD pr 0 < e.getD pc 0) with
        | false =>
          have CL2 := Lib.hid (fun W => lessU_any (e.getD pr 0) (e.getD pc 0) W)
          rw [hd2] at CL2
          have HEND := Lib.hid (heap_end HBU.out (fun x hx hxh => by
            have := HMAX.out x hx hxh
            have := of_decide_eq_false hd2
            rw [HPR.out] at this
            omega))
          clear hd2
          go_wp2
          go_quiet (fail)
          go_wp2_with (fail)
          go_quiet ((go_at_call 65; exact quietU2 _ _ (CL2.out _)))
          go_wp2
          first | go_end0 | refine bodyPost_ret (results_none rfl _ _ _) rfl ?_
          exact ⟨rfl, e, HSW.out, HEND.out, (HAR.out.drewN _).drewN _, (HGR.out.drewN1 _).drewN1 _⟩
        | true =>
          have CL2 := Lib.hid (fun W => lessU_any (e.getD pr 0) (e.getD pc 0) W)
          rw [hd2] at CL2
          have HST := Lib.hid (show HeapBut (swp e pr pc) f lo hi c from by
            have := of_decide_eq_true hd2
            have hh := HP.out
            rw [HPR.out, HPK.out] at this ⊢
            exact heap_step HBU.out (by omega) hr1 (by unfold Kid; omega) (by omega) this (fun x hx hxh => by have := HMAX.out x hx hxh; rw [HPK.out] at this; exact this))
          have HSS := Lib.hid (show Sw f (f + hi) d (swp e pr pc) from by have := HP.out; exact .step HSW.out (by omega) (by omega) (by omega) (by omega))
          have HAA := Lib.hid (show ∀ W, Arr W g e → Arr ((W.setCell ⟨g, pr, none⟩ (.int .u64 (e.getD pc 0))).setCell ⟨g, pc, none⟩ (.int .u64 (e.getD pr 0))) g (swp e pr pc) from fun W hW => by have := HP.out; exact hW.swap (by omega) (by omega))
          clear hd2
          go_wp2
          go_quiet (fail)
          go_wp2_with (fail)
          go_quiet ((go_at_call 65; exact quietU2 _ _ (CL2.out _)))
          go_wp2
          go_region_with (fail)
          all_goals go_wp2
          all_goals go_roundw
          all_goals first
            | exact ⟨c, swp e pr pc, rfl, by have := HP.out; omega, by have := HP.out; omega, HSS.out, HST.out, HAA.out _ (HAR.out.drewN _), grown_at (grown_at ((HGR.out.drewN1 _)) _) _⟩
            | (have := HP.out; simp [intOf]; omega)
end Go.Proofs.Ythaalhigmihijaa
