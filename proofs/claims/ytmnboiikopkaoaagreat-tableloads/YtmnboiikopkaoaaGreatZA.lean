/- Joined: ZG ZU ZM. -/
import Derived.Test.YtmnboiikopkaoaaGreatZR
import Derived.Test.YtmnboiikopkaoaaGreatZI
import Derived.Test.YtmnboiikopkaoaaGreatZP
import Derived.Test.YtmnboiikopkaoaaGreatBB
import Derived.Test.YtmnboiikopkaoaaGreatBE
import Derived.Lib.ConvBytes
import Derived.Laws.IdiomCopy
namespace Go.Proofs.YtmnboiikopkaoaaGreat
open Go.RowKit

set_option maxHeartbeats 1000000 in
theorem shared_any (a b : ByteArray) (w : World) (ha : a.size ≤ 9223372036854775807) (_hb : b.size ≤ 9223372036854775807) :
    Calls Tryz.prog 113 #[.string a, .string b] w fun e w' => e = .returned (.int .i64 (shr a.data.toList b.data.toList : Nat)) ∧ ∃ n, w' = w.drewN n := by
  go_enter Tryz.func113, Tryz.ntmps113
  go_upto_region 1 with fail
  go_cut [5] from 7 to 11 (fun v wx => w = wx ∧ v = .int .i64 ((min a.size b.size : Nat) : Int))
  case first =>
    go_wp2
    all_goals go_meet
    all_goals exact ⟨rfl, by congr 1; omega⟩
  case rest =>
    obtain ⟨rfl, rfl⟩ := hcut
    obtain ⟨m, hm⟩ : ∃ m, min a.size b.size = m := ⟨_, rfl⟩
    have hma : m ≤ a.size := by omega
    have hmb : m ≤ b.size := by omega
    have HM := Lib.hid (show a.size ≤ m ∨ b.size ≤ m by omega)
    rw [hm]
    clear hm
    go_wp2
    go_loopw [13] (fun iv wr => ∃ (i n : Nat), iv = .int .i64 (i : Int) ∧ wr = w.drewN n ∧ i ≤ m ∧ Hid (shr a.data.toList b.data.toList = i + shr (a.data.toList.drop i) (b.data.toList.drop i))) (fun iv _ => m - (intOf iv).toNat)
    case atStart => exact ⟨0, 0, rfl, rfl, Nat.zero_le _, by show _ = _; simp⟩
    case round =>
      obtain ⟨i, n, rfl, rfl, h1, HS⟩ := hrel
      by_cases him : i < m
      · have hia : i < a.size := by omega
        have hib : i < b.size := by omega
        have d0 : (i : Int) < (m : Int) := by omega
        have e1 : (i : Int) < (a.size : Int) := by omega
        have e2 : (i : Int) < (b.size : Int) := by omega
        have HSD := Lib.hid (shr_drop a b i hia hib)
        by_cases hc : a[i] = b[i]
        · have d3 : ((a[i].toNat : Int) != (b[i].toNat : Int)) = false := by rw [hc]; simp
          have HN : Hid (shr a.data.toList b.data.toList = i + 1 + shr (a.data.toList.drop (i + 1)) (b.data.toList.drop (i + 1))) := by
            show _ = _
            rw [HS.out, HSD.out, if_pos hc]
            omega
          clear HS HSD hc
          go_wp2
          go_quiet (fail)
          go_wp2
          go_roundw
          case rel => exact ⟨i + 1, n + nq, by go_num, by first | rfl | (rw [drewN_addB]), by omega, HN⟩
          case measure => simp [intOf]; omega
        · have d3 : ((a[i].toNat : Int) != (b[i].toNat : Int)) = true := by
            rw [bne_iff_ne]
            intro e
            exact hc (UInt8.toNat_inj.1 (by omega))
          have HN : Hid (shr a.data.toList b.data.toList = i) := by
            show _ = _
            rw [HS.out, HSD.out, if_neg hc]
            omega
          clear HS HSD hc
          go_wp2
          go_quiet (fail)
          go_wp2
          go_ret
          exact ⟨by rw [HN.out]; rfl, n + nq, by first | rfl | (rw [drewN_addB])⟩
      · obtain rfl : i = m := by omega
        have HN : Hid (shr a.data.toList b.data.toList = i) := by
          show _ = _
          rw [HS.out, shr_end a b i HM.out]
          omega
        clear HS HM
        go_wp2
        go_ret
        exact ⟨by rw [HN.out]; rfl, n, rfl⟩
theorem isRestart_any (i : Nat) (w : World) (hi : i ≤ 9223372036854775807) :
    Calls Tryz.prog 111 #[.int .i64 (i : Int)] w fun e w' => e = .returned (.bool (decide (i % 4 = 0))) ∧ w = w' := by
  have ht : (i : Int).tmod 4 = ((i % 4 : Nat) : Int) := by rw [Int.tmod_eq_emod_of_nonneg (by omega)]; omega
  go_enter Tryz.func111, Tryz.ntmps111
  go_wp2
  go_ret
  refine ⟨?_, rfl⟩
  show Ending.returned (Value.bool ((i : Int) % 4 == 0)) = _
  congr 2
  rw [Bool.eq_iff_iff]
  simp
  omega
end Go.Proofs.YtmnboiikopkaoaaGreat

namespace Go.Proofs.YtmnboiikopkaoaaGreat
open Go.RowKit

set_option maxHeartbeats 8000000 in
set_option maxRecDepth 100000 in
theorem follows_any {w : World} (n0 : Nat) (hn0 : n0 ≤ w.heap.size) (a : Option Addr) (len cap : Nat) (es : List Ent) (hE : EntsAt n0 w a len es) (hlm : len ≤ 1000000) (hok : ∀ x ∈ es, x.Ok) (x : Ent) (hx : x.Ok) :
    Calls Tryz.prog 76 #[.slice a len cap, ev x.k x.s x.n x.v] w fun e w' => e = .returned (.bool (folB es x)) ∧ Below w.heap.size w w' := by
  have hll : es.length = len := hE.1
  obtain ⟨K', SQ', NN', V'⟩ := x
  obtain ⟨W0, hW0⟩ : ∃ W0, w.alloc (.cells #[.string K', .int .u64 SQ', .int .i64 NN', .string V'] 48) = W0 := ⟨_, rfl⟩
  have HB0 := Lib.hid (show Below w.heap.size w W0 by rw [← hW0]; exact (Below.refl _ _).alloc (Nat.le_refl _) _)
  have hbx : Boxe w.heap.size K' SQ' NN' V' W0 := by rw [← hW0]; exact new_block _ _ rfl
  obtain ⟨X, hX⟩ : ∃ X, w.heap.size = X := ⟨_, rfl⟩
  rw [hX] at hbx
  have q0 := hbx.c0
  have q1 := hbx.c1
  have q2 := hbx.c2
  have q3 := hbx.c3
  have CV := Lib.hid (fun W => valid_any K' SQ' NN' V' W hx.1 hx.2.2.2.2.2)
  have HIS := Lib.hid (show folB es ⟨K', SQ', NN', V'⟩ = (validB K' NN' V' && (decide (es.length = 0) || decide (cmpN (entAt es (es.length - 1)) ⟨K', SQ', NN', V'⟩ < 0))) from rfl)
  rw [hll] at HIS
  unfold ev
  show Calls _ _ #[.slice a len cap, .agg #[.string K', .int .u64 SQ', .int .i64 NN', .string V']] _ _
  cases hv : validB K' NN' V' with
  | false =>
    rw [hv] at CV
    have HR : Hid (folB es ⟨K', SQ', NN', V'⟩ = false) := by show _ = _; rw [HIS.out, hv]; rfl
    have u1 : W0.drew.cell? ⟨X, 0, none⟩ = some (.string K') ∧ W0.drew.cell? ⟨X, 1, none⟩ = some (.int .u64 SQ') ∧ W0.drew.cell? ⟨X, 2, none⟩ = some (.int .i64 NN') ∧ W0.drew.cell? ⟨X, 3, none⟩ = some (.string V') := ⟨q0, q1, q2, q3⟩
    have HX := Lib.hid hX
    clear HIS hE hok hll q0 q1 q2 q3 hbx hX
    go_enter Tryz.func76, Tryz.ntmps76
    go_wp2_with (fail)
    try rw [hW0]
    try rw [HX.out]
    refine wp_region_noPanic ?_
    refine wp_region_held (S := fun w' => w'.cell? ⟨X, 0, none⟩ = some (.string K') ∧ w'.cell? ⟨X, 1, none⟩ = some (.int .u64 SQ') ∧ w'.cell? ⟨X, 2, none⟩ = some (.int .i64 NN') ∧ w'.cell? ⟨X, 3, none⟩ = some (.string V')) (by kernel_rfl) ?_
    refine wpAnyH_take (i := 0) (v := ?_) rfl (by kernel_rfl) (by kernel_rfl) (by kernel_rfl) (fun _ _ _ h => h) (Or.inl ⟨by rfl, ?_⟩) u1 ?_
    rotate_left
    focus (simp only [List.getElem_toArray, List.getElem_cons_zero]; intro w' hS; first | (go_simp; done) | (go_simp; with_reducible rfl))
    simp only [List.getElem_toArray, List.getElem_cons_zero, Act.put, List.setIfInBounds_toArray, List.set_cons_zero, List.set_cons_succ]
    refine wpAnyH_ready (rs := [1]) (by kernel_rfl) (by simp) ?_
    refine AllReadyH.cons rfl (fun K hK => ?_) AllReadyH.nil
    simp only [List.getElem_toArray, List.getElem_cons_succ, List.getElem_cons_zero]
    go_simp
    refine (CV.out _).mono ?_
    rintro e w6 ⟨rfl, b6⟩
    have u6 := (show _ ∧ _ ∧ _ ∧ _ from ⟨kkB b6 u1.1, kkB b6 u1.2.1, kkB b6 u1.2.2.1, kkB b6 u1.2.2.2⟩)
    dsimp only
    refine hK.out _ _ u6 (fun _ => ?_)
    try simp only [List.getElem_toArray, List.getElem_cons_succ, List.getElem_cons_zero, Act.put, List.setIfInBounds_toArray, List.set_cons_zero, List.set_cons_succ]
    refine wpAnyH_take (i := 2) (v := ?_) rfl (by kernel_rfl) (by kernel_rfl) (by kernel_rfl) (fun _ _ _ h => h) (Or.inl ⟨by rfl, ?_⟩) u6 ?_
    rotate_left
    focus (simp only [List.getElem_toArray, List.getElem_cons_succ, List.getElem_cons_zero]; intro w' hS; first | (go_simp; done) | (go_simp; with_reducible rfl))
    simp only [List.getElem_toArray, List.getElem_cons_succ, List.getElem_cons_zero, Act.put, List.setIfInBounds_toArray, List.set_cons_zero, List.set_cons_succ]
    refine wpAnyH_take (i := 3) (v := undef) rfl (by kernel_rfl) (by kernel_rfl) (by kernel_rfl) (fun _ _ _ h => h) (Or.inr ⟨by rfl, rfl⟩) u6 ?_
    simp only [List.getElem_toArray, List.getElem_cons_succ, List.getElem_cons_zero, Act.put, List.setIfInBounds_toArray, List.set_cons_zero, List.set_cons_succ]
    refine wpAnyH_take (i := 4) (v := undef) rfl (by kernel_rfl) (by kernel_rfl) (by kernel_rfl) (fun _ _ _ h => h) (Or.inr ⟨by rfl, rfl⟩) u6 ?_
    simp only [List.getElem_toArray, List.getElem_cons_succ, List.getElem_cons_zero, Act.put, List.setIfInBounds_toArray, List.set_cons_zero, List.set_cons_succ]
    refine wpAnyH_take (i := 5) (v := undef) rfl (by kernel_rfl) (by kernel_rfl) (by kernel_rfl) (fun _ _ _ h => h) (Or.inr ⟨by rfl, rfl⟩) u6 ?_
    simp only [List.getElem_toArray, List.getElem_cons_succ, List.getElem_cons_zero, Act.put, List.setIfInBounds_toArray, List.set_cons_zero, List.set_cons_succ]
    refine wpAnyH_take (i := 6) (v := undef) rfl (by kernel_rfl) (by kernel_rfl) (by kernel_rfl) (fun _ _ _ h => h) (Or.inr ⟨by rfl, rfl⟩) u6 ?_
    simp only [List.getElem_toArray, List.getElem_cons_succ, List.getElem_cons_zero, Act.put, List.setIfInBounds_toArray, List.set_cons_zero, List.set_cons_succ]
    refine wpAnyH_take (i := 7) (v := undef) rfl (by kernel_rfl) (by kernel_rfl) (by kernel_rfl) (fun _ _ _ h => h) (Or.inr ⟨by rfl, rfl⟩) u6 ?_
    simp only [List.getElem_toArray, List.getElem_cons_succ, List.getElem_cons_zero, Act.put, List.setIfInBounds_toArray, List.set_cons_zero, List.set_cons_succ]
    refine wpAnyH_take (i := 8) (v := undef) rfl (by kernel_rfl) (by kernel_rfl) (by kernel_rfl) (fun _ _ _ h => h) (Or.inr ⟨by rfl, rfl⟩) u6 ?_
    simp only [List.getElem_toArray, List.getElem_cons_succ, List.getElem_cons_zero, Act.put, List.setIfInBounds_toArray, List.set_cons_zero, List.set_cons_succ]
    refine wpAnyH_take (i := 9) (v := undef) rfl (by kernel_rfl) (by kernel_rfl) (by kernel_rfl) (fun _ _ _ h => h) (Or.inr ⟨by rfl, rfl⟩) u6 ?_
    simp only [List.getElem_toArray, List.getElem_cons_succ, List.getElem_cons_zero, Act.put, List.setIfInBounds_toArray, List.set_cons_zero, List.set_cons_succ]
    refine wpAnyH_take (i := 10) (v := undef) rfl (by kernel_rfl) (by kernel_rfl) (by kernel_rfl) (fun _ _ _ h => h) (Or.inr ⟨by rfl, rfl⟩) u6 ?_
    simp only [List.getElem_toArray, List.getElem_cons_succ, List.getElem_cons_zero, Act.put, List.setIfInBounds_toArray, List.set_cons_zero, List.set_cons_succ]
    refine wpAnyH_take (i := 11) (v := undef) rfl (by kernel_rfl) (by kernel_rfl) (by kernel_rfl) (fun _ _ _ h => h) (Or.inr ⟨by rfl, rfl⟩) u6 ?_
    simp only [List.getElem_toArray, List.getElem_cons_succ, List.getElem_cons_zero, Act.put, List.setIfInBounds_toArray, List.set_cons_zero, List.set_cons_succ]
    refine wpAnyH_take (i := 12) (v := undef) rfl (by kernel_rfl) (by kernel_rfl) (by kernel_rfl) (fun _ _ _ h => h) (Or.inr ⟨by rfl, rfl⟩) u6 ?_
    simp only [List.getElem_toArray, List.getElem_cons_succ, List.getElem_cons_zero, Act.put, List.setIfInBounds_toArray, List.set_cons_zero, List.set_cons_succ]
    refine wpAnyH_take (i := 13) (v := undef) rfl (by kernel_rfl) (by kernel_rfl) (by kernel_rfl) (fun _ _ _ h => h) (Or.inr ⟨by rfl, rfl⟩) u6 ?_
    simp only [List.getElem_toArray, List.getElem_cons_succ, List.getElem_cons_zero, Act.put, List.setIfInBounds_toArray, List.set_cons_zero, List.set_cons_succ]
    refine wpAnyH_take (i := 14) (v := undef) rfl (by kernel_rfl) (by kernel_rfl) (by kernel_rfl) (fun _ _ _ h => h) (Or.inr ⟨by rfl, rfl⟩) u6 ?_
    simp only [List.getElem_toArray, List.getElem_cons_succ, List.getElem_cons_zero, Act.put, List.setIfInBounds_toArray, List.set_cons_zero, List.set_cons_succ]
    refine wpAnyH_take (i := 15) (v := undef) rfl (by kernel_rfl) (by kernel_rfl) (by kernel_rfl) (fun _ _ _ h => h) (Or.inr ⟨by rfl, rfl⟩) u6 ?_
    simp only [List.getElem_toArray, List.getElem_cons_succ, List.getElem_cons_zero, Act.put, List.setIfInBounds_toArray, List.set_cons_zero, List.set_cons_succ]
    refine wpAnyH_take (i := 16) (v := undef) rfl (by kernel_rfl) (by kernel_rfl) (by kernel_rfl) (fun _ _ _ h => h) (Or.inr ⟨by rfl, rfl⟩) u6 ?_
    simp only [List.getElem_toArray, List.getElem_cons_succ, List.getElem_cons_zero, Act.put, List.setIfInBounds_toArray, List.set_cons_zero, List.set_cons_succ]
    refine wpAnyH_take (i := 17) (v := ?_) rfl (by kernel_rfl) (by kernel_rfl) (by kernel_rfl) (fun _ _ _ h => h) (Or.inl ⟨by rfl, ?_⟩) u6 ?_
    rotate_left
    focus (simp only [List.getElem_toArray, List.getElem_cons_succ, List.getElem_cons_zero]; intro w' hS; first | (go_simp; done) | (go_simp; with_reducible rfl))
    simp only [List.getElem_toArray, List.getElem_cons_succ, List.getElem_cons_zero, Act.put, List.setIfInBounds_toArray, List.set_cons_zero, List.set_cons_succ]
    refine wpAnyH_take (i := 18) (v := ?_) rfl (by kernel_rfl) (by kernel_rfl) (by kernel_rfl) (fun _ _ _ h => h) (Or.inl ⟨by rfl, ?_⟩) u6 ?_
    rotate_left
    focus (simp only [List.getElem_toArray, List.getElem_cons_succ, List.getElem_cons_zero]; intro w' hS; first | (go_simp; done) | (go_simp; with_reducible rfl))
    simp only [List.getElem_toArray, List.getElem_cons_succ, List.getElem_cons_zero, Act.put, List.setIfInBounds_toArray, List.set_cons_zero, List.set_cons_succ]
    refine wpAnyH_done (by kernel_rfl) ?_ _
    refine NoPanic.normal ?_
    go_wp2
    go_ret
    exact ⟨by rw [HR.out]; rfl, HB0.out.drew.trans (b6.mono HB0.out.size)⟩
  | true =>
    rw [hv] at CV
    by_cases hi0 : len = 0
    · subst hi0
      have HR : Hid (folB es ⟨K', SQ', NN', V'⟩ = true) := by show _ = _; rw [HIS.out, hv]; rfl
      have u1 : W0.drew.cell? ⟨X, 0, none⟩ = some (.string K') ∧ W0.drew.cell? ⟨X, 1, none⟩ = some (.int .u64 SQ') ∧ W0.drew.cell? ⟨X, 2, none⟩ = some (.int .i64 NN') ∧ W0.drew.cell? ⟨X, 3, none⟩ = some (.string V') := ⟨q0, q1, q2, q3⟩
      have HX := Lib.hid hX
      clear HIS hE hok hll q0 q1 q2 q3 hbx hX
      go_enter Tryz.func76, Tryz.ntmps76
      go_wp2_with (fail)
      try rw [hW0]
      try rw [HX.out]
      refine wp_region_noPanic ?_
      refine wp_region_held (S := fun w' => w'.cell? ⟨X, 0, none⟩ = some (.string K') ∧ w'.cell? ⟨X, 1, none⟩ = some (.int .u64 SQ') ∧ w'.cell? ⟨X, 2, none⟩ = some (.int .i64 NN') ∧ w'.cell? ⟨X, 3, none⟩ = some (.string V')) (by kernel_rfl) ?_
      refine wpAnyH_take (i := 0) (v := ?_) rfl (by kernel_rfl) (by kernel_rfl) (by kernel_rfl) (fun _ _ _ h => h) (Or.inl ⟨by rfl, ?_⟩) u1 ?_
      rotate_left
      focus (simp only [List.getElem_toArray, List.getElem_cons_zero]; intro w' hS; first | (go_simp; done) | (go_simp; with_reducible rfl))
      simp only [List.getElem_toArray, List.getElem_cons_zero, Act.put, List.setIfInBounds_toArray, List.set_cons_zero, List.set_cons_succ]
      refine wpAnyH_ready (rs := [1]) (by kernel_rfl) (by simp) ?_
      refine AllReadyH.cons rfl (fun K hK => ?_) AllReadyH.nil
      simp only [List.getElem_toArray, List.getElem_cons_succ, List.getElem_cons_zero]
      go_simp
      refine (CV.out _).mono ?_
      rintro e w6 ⟨rfl, b6⟩
      have u6 := (show _ ∧ _ ∧ _ ∧ _ from ⟨kkB b6 u1.1, kkB b6 u1.2.1, kkB b6 u1.2.2.1, kkB b6 u1.2.2.2⟩)
      dsimp only
      refine hK.out _ _ u6 (fun _ => ?_)
      try simp only [List.getElem_toArray, List.getElem_cons_succ, List.getElem_cons_zero, Act.put, List.setIfInBounds_toArray, List.set_cons_zero, List.set_cons_succ]
      refine wpAnyH_take (i := 2) (v := ?_) rfl (by kernel_rfl) (by kernel_rfl) (by kernel_rfl) (fun _ _ _ h => h) (Or.inl ⟨by rfl, ?_⟩) u6 ?_
      rotate_left
      focus (simp only [List.getElem_toArray, List.getElem_cons_succ, List.getElem_cons_zero]; intro w' hS; first | (go_simp; done) | (go_simp; with_reducible rfl))
      simp only [List.getElem_toArray, List.getElem_cons_succ, List.getElem_cons_zero, Act.put, List.setIfInBounds_toArray, List.set_cons_zero, List.set_cons_succ]
      refine wpAnyH_take (i := 3) (v := ?_) rfl (by kernel_rfl) (by kernel_rfl) (by kernel_rfl) (fun _ _ _ h => h) (Or.inl ⟨by rfl, ?_⟩) u6 ?_
      rotate_left
      focus (simp only [List.getElem_toArray, List.getElem_cons_succ, List.getElem_cons_zero]; intro w' hS; first | (go_simp; done) | (go_simp; with_reducible rfl))
      simp only [List.getElem_toArray, List.getElem_cons_succ, List.getElem_cons_zero, Act.put, List.setIfInBounds_toArray, List.set_cons_zero, List.set_cons_succ]
      refine wpAnyH_take (i := 4) (v := ?_) rfl (by kernel_rfl) (by kernel_rfl) (by kernel_rfl) (fun _ _ _ h => h) (Or.inl ⟨by rfl, ?_⟩) u6 ?_
      rotate_left
      focus (simp only [List.getElem_toArray, List.getElem_cons_succ, List.getElem_cons_zero]; intro w' hS; first | (go_simp; done) | (go_simp; with_reducible rfl))
      simp only [List.getElem_toArray, List.getElem_cons_succ, List.getElem_cons_zero, Act.put, List.setIfInBounds_toArray, List.set_cons_zero, List.set_cons_succ]
      refine wpAnyH_take (i := 5) (v := ?_) rfl (by kernel_rfl) (by kernel_rfl) (by kernel_rfl) (fun _ _ _ h => h) (Or.inl ⟨by rfl, ?_⟩) u6 ?_
      rotate_left
      focus (simp only [List.getElem_toArray, List.getElem_cons_succ, List.getElem_cons_zero]; intro w' hS; first | (go_simp; done) | (go_simp; with_reducible rfl))
      simp only [List.getElem_toArray, List.getElem_cons_succ, List.getElem_cons_zero, Act.put, List.setIfInBounds_toArray, List.set_cons_zero, List.set_cons_succ]
      refine wpAnyH_take (i := 6) (v := ?_) rfl (by kernel_rfl) (by kernel_rfl) (by kernel_rfl) (fun _ _ _ h => h) (Or.inl ⟨by rfl, ?_⟩) u6 ?_
      rotate_left
      focus (simp only [List.getElem_toArray, List.getElem_cons_succ, List.getElem_cons_zero]; intro w' hS; first | (go_simp; done) | (go_simp; with_reducible rfl))
      simp only [List.getElem_toArray, List.getElem_cons_succ, List.getElem_cons_zero, Act.put, List.setIfInBounds_toArray, List.set_cons_zero, List.set_cons_succ]
      refine wpAnyH_take (i := 7) (v := undef) rfl (by kernel_rfl) (by kernel_rfl) (by kernel_rfl) (fun _ _ _ h => h) (Or.inr ⟨by rfl, rfl⟩) u6 ?_
      simp only [List.getElem_toArray, List.getElem_cons_succ, List.getElem_cons_zero, Act.put, List.setIfInBounds_toArray, List.set_cons_zero, List.set_cons_succ]
      refine wpAnyH_take (i := 8) (v := undef) rfl (by kernel_rfl) (by kernel_rfl) (by kernel_rfl) (fun _ _ _ h => h) (Or.inr ⟨by rfl, rfl⟩) u6 ?_
      simp only [List.getElem_toArray, List.getElem_cons_succ, List.getElem_cons_zero, Act.put, List.setIfInBounds_toArray, List.set_cons_zero, List.set_cons_succ]
      refine wpAnyH_take (i := 9) (v := undef) rfl (by kernel_rfl) (by kernel_rfl) (by kernel_rfl) (fun _ _ _ h => h) (Or.inr ⟨by rfl, rfl⟩) u6 ?_
      simp only [List.getElem_toArray, List.getElem_cons_succ, List.getElem_cons_zero, Act.put, List.setIfInBounds_toArray, List.set_cons_zero, List.set_cons_succ]
      refine wpAnyH_take (i := 10) (v := undef) rfl (by kernel_rfl) (by kernel_rfl) (by kernel_rfl) (fun _ _ _ h => h) (Or.inr ⟨by rfl, rfl⟩) u6 ?_
      simp only [List.getElem_toArray, List.getElem_cons_succ, List.getElem_cons_zero, Act.put, List.setIfInBounds_toArray, List.set_cons_zero, List.set_cons_succ]
      refine wpAnyH_take (i := 11) (v := undef) rfl (by kernel_rfl) (by kernel_rfl) (by kernel_rfl) (fun _ _ _ h => h) (Or.inr ⟨by rfl, rfl⟩) u6 ?_
      simp only [List.getElem_toArray, List.getElem_cons_succ, List.getElem_cons_zero, Act.put, List.setIfInBounds_toArray, List.set_cons_zero, List.set_cons_succ]
      refine wpAnyH_take (i := 12) (v := undef) rfl (by kernel_rfl) (by kernel_rfl) (by kernel_rfl) (fun _ _ _ h => h) (Or.inr ⟨by rfl, rfl⟩) u6 ?_
      simp only [List.getElem_toArray, List.getElem_cons_succ, List.getElem_cons_zero, Act.put, List.setIfInBounds_toArray, List.set_cons_zero, List.set_cons_succ]
      refine wpAnyH_take (i := 13) (v := undef) rfl (by kernel_rfl) (by kernel_rfl) (by kernel_rfl) (fun _ _ _ h => h) (Or.inr ⟨by rfl, rfl⟩) u6 ?_
      simp only [List.getElem_toArray, List.getElem_cons_succ, List.getElem_cons_zero, Act.put, List.setIfInBounds_toArray, List.set_cons_zero, List.set_cons_succ]
      refine wpAnyH_take (i := 14) (v := undef) rfl (by kernel_rfl) (by kernel_rfl) (by kernel_rfl) (fun _ _ _ h => h) (Or.inr ⟨by rfl, rfl⟩) u6 ?_
      simp only [List.getElem_toArray, List.getElem_cons_succ, List.getElem_cons_zero, Act.put, List.setIfInBounds_toArray, List.set_cons_zero, List.set_cons_succ]
      refine wpAnyH_take (i := 15) (v := undef) rfl (by kernel_rfl) (by kernel_rfl) (by kernel_rfl) (fun _ _ _ h => h) (Or.inr ⟨by rfl, rfl⟩) u6 ?_
      simp only [List.getElem_toArray, List.getElem_cons_succ, List.getElem_cons_zero, Act.put, List.setIfInBounds_toArray, List.set_cons_zero, List.set_cons_succ]
      refine wpAnyH_take (i := 16) (v := ?_) rfl (by kernel_rfl) (by kernel_rfl) (by kernel_rfl) (fun _ _ _ h => h) (Or.inl ⟨by rfl, ?_⟩) u6 ?_
      rotate_left
      focus (simp only [List.getElem_toArray, List.getElem_cons_succ, List.getElem_cons_zero]; intro w' hS; first | (go_simp; done) | (go_simp; with_reducible rfl))
      simp only [List.getElem_toArray, List.getElem_cons_succ, List.getElem_cons_zero, Act.put, List.setIfInBounds_toArray, List.set_cons_zero, List.set_cons_succ]
      refine wpAnyH_take (i := 17) (v := ?_) rfl (by kernel_rfl) (by kernel_rfl) (by kernel_rfl) (fun _ _ _ h => h) (Or.inl ⟨by rfl, ?_⟩) u6 ?_
      rotate_left
      focus (simp only [List.getElem_toArray, List.getElem_cons_succ, List.getElem_cons_zero]; intro w' hS; first | (go_simp; done) | (go_simp; with_reducible rfl))
      simp only [List.getElem_toArray, List.getElem_cons_succ, List.getElem_cons_zero, Act.put, List.setIfInBounds_toArray, List.set_cons_zero, List.set_cons_succ]
      refine wpAnyH_take (i := 18) (v := ?_) rfl (by kernel_rfl) (by kernel_rfl) (by kernel_rfl) (fun _ _ _ h => h) (Or.inl ⟨by rfl, ?_⟩) u6 ?_
      rotate_left
      focus (simp only [List.getElem_toArray, List.getElem_cons_succ, List.getElem_cons_zero]; intro w' hS; first | (go_simp; done) | (go_simp; with_reducible rfl))
      simp only [List.getElem_toArray, List.getElem_cons_succ, List.getElem_cons_zero, Act.put, List.setIfInBounds_toArray, List.set_cons_zero, List.set_cons_succ]
      refine wpAnyH_done (by kernel_rfl) ?_ _
      refine NoPanic.normal ?_
      go_wp2
      go_ret
      exact ⟨by rw [HR.out]; rfl, HB0.out.drew.trans (b6.mono HB0.out.size)⟩
    · obtain ⟨m, hm⟩ : ∃ m, len = m + 1 := ⟨len - 1, by omega⟩
      obtain ⟨b, off, rfl, hblt, hce⟩ : ∃ b off, a = some ⟨b, off, none⟩ ∧ b < w.heap.size ∧ ∃ y : Ent, es[m]? = some y ∧ ∀ j u, y.cells[j]? = some u → W0.cell? ⟨b, off + m * 4 + j, none⟩ = some u := by
        rcases ((hE.mono hn0).below HB0.out).2 with h0 | ⟨b, off, e, h1, h2⟩
        · omega
        · exact ⟨b, off, e, h1, es[m]'(by omega), List.getElem?_eq_getElem (by omega), h2 m (by omega)⟩
      obtain ⟨⟨K, SQ, NN, V⟩, hg1, hc1⟩ := hce
      have o1 := hok _ (List.mem_of_getElem? hg1)
      have hgi : entAt es (len - 1) = ⟨K, SQ, NN, V⟩ := by unfold entAt; rw [show len - 1 = m by omega, hg1]; rfl
      have p0 : W0.cell? ⟨b, off + m * 4, none⟩ = some (.string K) := hc1 0 _ rfl
      have p1 : W0.cell? ⟨b, off + m * 4 + 1, none⟩ = some (.int .u64 SQ) := hc1 1 _ rfl
      have p2 : W0.cell? ⟨b, off + m * 4 + 2, none⟩ = some (.int .i64 NN) := hc1 2 _ rfl
      have p3 : W0.cell? ⟨b, off + m * 4 + 3, none⟩ = some (.string V) := hc1 3 _ rfl
      have CC := Lib.hid (fun W => compare_any K SQ NN V K' SQ' NN' V' W)
      have HIS2 : Hid (folB es ⟨K', SQ', NN', V'⟩ = decide (cmpE K SQ K' SQ' < 0)) := by
        show _ = _
        rw [HIS.out, hv, decide_eq_false hi0, hgi]
        rfl
      generalize cmpE K SQ K' SQ' = Y at CC HIS2
      have hil3 : (m : Int) < (len : Int) := by omega
      have hij : (len : Int) - 1 = (m : Int) := by omega
      have hw3 : IntKind.i64.wrap (m : Int) = (m : Int) := by rw [IntKind.wrap_i64]; omega
      have d0 : ((len : Int) == 0) = false := by rw [beq_eq_false_iff_ne]; omega
      have d1 : (len == 0) = false := by rw [beq_eq_false_iff_ne]; omega
      have u1 : W0.drew.cell? ⟨X, 0, none⟩ = some (.string K') ∧ W0.drew.cell? ⟨X, 1, none⟩ = some (.int .u64 SQ') ∧ W0.drew.cell? ⟨X, 2, none⟩ = some (.int .i64 NN') ∧ W0.drew.cell? ⟨X, 3, none⟩ = some (.string V') ∧ W0.drew.cell? ⟨b, off + m * 4, none⟩ = some (.string K) ∧ W0.drew.cell? ⟨b, off + m * 4 + 1, none⟩ = some (.int .u64 SQ) ∧ W0.drew.cell? ⟨b, off + m * 4 + 2, none⟩ = some (.int .i64 NN) ∧ W0.drew.cell? ⟨b, off + m * 4 + 3, none⟩ = some (.string V) := ⟨q0, q1, q2, q3, p0, p1, p2, p3⟩
      have HX := Lib.hid hX
      cases hyy : decide (Y < 0) with
      | true =>
        have HR : Hid (folB es ⟨K', SQ', NN', V'⟩ = true) := by show _ = _; rw [HIS2.out, hyy]
        clear HIS HIS2 hE hok hll q0 q1 q2 q3 p0 p1 p2 p3 hbx hX hg1 hc1 o1 hgi hi0 hm
        go_enter Tryz.func76, Tryz.ntmps76
        go_wp2_with (fail)
        try rw [hW0]
        try rw [HX.out]
        refine wp_region_noPanic ?_
        refine wp_region_held (S := fun w' => w'.cell? ⟨X, 0, none⟩ = some (.string K') ∧ w'.cell? ⟨X, 1, none⟩ = some (.int .u64 SQ') ∧ w'.cell? ⟨X, 2, none⟩ = some (.int .i64 NN') ∧ w'.cell? ⟨X, 3, none⟩ = some (.string V') ∧ w'.cell? ⟨b, off + m * 4, none⟩ = some (.string K) ∧ w'.cell? ⟨b, off + m * 4 + 1, none⟩ = some (.int .u64 SQ) ∧ w'.cell? ⟨b, off + m * 4 + 2, none⟩ = some (.int .i64 NN) ∧ w'.cell? ⟨b, off + m * 4 + 3, none⟩ = some (.string V)) (by kernel_rfl) ?_
        refine wpAnyH_take (i := 0) (v := ?_) rfl (by kernel_rfl) (by kernel_rfl) (by kernel_rfl) (fun _ _ _ h => h) (Or.inl ⟨by rfl, ?_⟩) u1 ?_
        rotate_left
        focus (simp only [List.getElem_toArray, List.getElem_cons_zero]; intro w' hS; first | (go_simp; done) | (go_simp; with_reducible rfl))
        simp only [List.getElem_toArray, List.getElem_cons_zero, Act.put, List.setIfInBounds_toArray, List.set_cons_zero, List.set_cons_succ]
        refine wpAnyH_ready (rs := [1]) (by kernel_rfl) (by simp) ?_
        refine AllReadyH.cons rfl (fun K hK => ?_) AllReadyH.nil
        simp only [List.getElem_toArray, List.getElem_cons_succ, List.getElem_cons_zero]
        go_simp
        refine (CV.out _).mono ?_
        rintro e w6 ⟨rfl, b6⟩
        have u6 := (show _ ∧ _ ∧ _ ∧ _ ∧ _ ∧ _ ∧ _ ∧ _ from ⟨kkB b6 u1.1, kkB b6 u1.2.1, kkB b6 u1.2.2.1, kkB b6 u1.2.2.2.1, kkB b6 u1.2.2.2.2.1, kkB b6 u1.2.2.2.2.2.1, kkB b6 u1.2.2.2.2.2.2.1, kkB b6 u1.2.2.2.2.2.2.2⟩)
        dsimp only
        refine hK.out _ _ u6 (fun _ => ?_)
        try simp only [List.getElem_toArray, List.getElem_cons_succ, List.getElem_cons_zero, Act.put, List.setIfInBounds_toArray, List.set_cons_zero, List.set_cons_succ]
        refine wpAnyH_take (i := 2) (v := ?_) rfl (by kernel_rfl) (by kernel_rfl) (by kernel_rfl) (fun _ _ _ h => h) (Or.inl ⟨by rfl, ?_⟩) u6 ?_
        rotate_left
        focus (simp only [List.getElem_toArray, List.getElem_cons_succ, List.getElem_cons_zero]; intro w' hS; first | (go_simp; done) | (go_simp; with_reducible rfl))
        simp only [List.getElem_toArray, List.getElem_cons_succ, List.getElem_cons_zero, Act.put, List.setIfInBounds_toArray, List.set_cons_zero, List.set_cons_succ]
        refine wpAnyH_take (i := 3) (v := ?_) rfl (by kernel_rfl) (by kernel_rfl) (by kernel_rfl) (fun _ _ _ h => h) (Or.inl ⟨by rfl, ?_⟩) u6 ?_
        rotate_left
        focus (simp only [List.getElem_toArray, List.getElem_cons_succ, List.getElem_cons_zero]; intro w' hS; first | (go_simp; done) | (go_simp; with_reducible rfl))
        simp only [List.getElem_toArray, List.getElem_cons_succ, List.getElem_cons_zero, Act.put, List.setIfInBounds_toArray, List.set_cons_zero, List.set_cons_succ]
        refine wpAnyH_take (i := 4) (v := ?_) rfl (by kernel_rfl) (by kernel_rfl) (by kernel_rfl) (fun _ _ _ h => h) (Or.inl ⟨by rfl, ?_⟩) u6 ?_
        rotate_left
        focus (simp only [List.getElem_toArray, List.getElem_cons_succ, List.getElem_cons_zero]; intro w' hS; first | (go_simp; done) | (go_simp; with_reducible rfl))
        simp only [List.getElem_toArray, List.getElem_cons_succ, List.getElem_cons_zero, Act.put, List.setIfInBounds_toArray, List.set_cons_zero, List.set_cons_succ]
        refine wpAnyH_take (i := 5) (v := ?_) rfl (by kernel_rfl) (by kernel_rfl) (by kernel_rfl) (fun _ _ _ h => h) (Or.inl ⟨by rfl, ?_⟩) u6 ?_
        rotate_left
        focus (simp only [List.getElem_toArray, List.getElem_cons_succ, List.getElem_cons_zero]; intro w' hS; first | (go_simp; done) | (go_simp; with_reducible rfl))
        simp only [List.getElem_toArray, List.getElem_cons_succ, List.getElem_cons_zero, Act.put, List.setIfInBounds_toArray, List.set_cons_zero, List.set_cons_succ]
        refine wpAnyH_take (i := 6) (v := ?_) rfl (by kernel_rfl) (by kernel_rfl) (by kernel_rfl) (fun _ _ _ h => h) (Or.inl ⟨by rfl, ?_⟩) u6 ?_
        rotate_left
        focus (simp only [List.getElem_toArray, List.getElem_cons_succ, List.getElem_cons_zero]; intro w' hS; first | (go_simp; done) | (go_simp; with_reducible rfl))
        simp only [List.getElem_toArray, List.getElem_cons_succ, List.getElem_cons_zero, Act.put, List.setIfInBounds_toArray, List.set_cons_zero, List.set_cons_succ]
        refine wpAnyH_take (i := 7) (v := ?_) rfl (by kernel_rfl) (by kernel_rfl) (by kernel_rfl) (fun _ _ _ h => h) (Or.inl ⟨by rfl, ?_⟩) u6 ?_
        rotate_left
        focus (simp only [List.getElem_toArray, List.getElem_cons_succ, List.getElem_cons_zero]; intro w' hS; first | (go_simp; done) | (go_simp; with_reducible rfl))
        simp only [List.getElem_toArray, List.getElem_cons_succ, List.getElem_cons_zero, Act.put, List.setIfInBounds_toArray, List.set_cons_zero, List.set_cons_succ]
        refine wpAnyH_take (i := 8) (v := ?_) rfl (by kernel_rfl) (by kernel_rfl) (by kernel_rfl) (fun _ _ _ h => h) (Or.inl ⟨by rfl, ?_⟩) u6 ?_
        rotate_left
        focus (simp only [List.getElem_toArray, List.getElem_cons_succ, List.getElem_cons_zero]; intro w' hS; first | (go_simp; done) | (go_simp; with_reducible rfl))
        simp only [List.getElem_toArray, List.getElem_cons_succ, List.getElem_cons_zero, Act.put, List.setIfInBounds_toArray, List.set_cons_zero, List.set_cons_succ]
        refine wpAnyH_take (i := 9) (v := ?_) rfl (by kernel_rfl) (by kernel_rfl) (by kernel_rfl) (fun _ _ _ h => h) (Or.inl ⟨by rfl, ?_⟩) u6 ?_
        rotate_left
        focus (simp only [List.getElem_toArray, List.getElem_cons_succ, List.getElem_cons_zero]; intro w' hS; first | (go_simp; done) | (go_simp; with_reducible rfl))
        simp only [List.getElem_toArray, List.getElem_cons_succ, List.getElem_cons_zero, Act.put, List.setIfInBounds_toArray, List.set_cons_zero, List.set_cons_succ]
        refine wpAnyH_take (i := 10) (v := ?_) rfl (by kernel_rfl) (by kernel_rfl) (by kernel_rfl) (fun _ _ _ h => h) (Or.inl ⟨by rfl, ?_⟩) u6 ?_
        rotate_left
        focus (simp only [List.getElem_toArray, List.getElem_cons_succ, List.getElem_cons_zero]; intro w' hS; first | (go_simp; done) | (go_simp; with_reducible rfl))
        simp only [List.getElem_toArray, List.getElem_cons_succ, List.getElem_cons_zero, Act.put, List.setIfInBounds_toArray, List.set_cons_zero, List.set_cons_succ]
        refine wpAnyH_take (i := 11) (v := ?_) rfl (by kernel_rfl) (by kernel_rfl) (by kernel_rfl) (fun _ _ _ h => h) (Or.inl ⟨by rfl, ?_⟩) u6 ?_
        rotate_left
        focus (simp only [List.getElem_toArray, List.getElem_cons_succ, List.getElem_cons_zero]; intro w' hS; first | (go_simp; done) | (go_simp; with_reducible rfl))
        simp only [List.getElem_toArray, List.getElem_cons_succ, List.getElem_cons_zero, Act.put, List.setIfInBounds_toArray, List.set_cons_zero, List.set_cons_succ]
        refine wpAnyH_take (i := 12) (v := ?_) rfl (by kernel_rfl) (by kernel_rfl) (by kernel_rfl) (fun _ _ _ h => h) (Or.inl ⟨by rfl, ?_⟩) u6 ?_
        rotate_left
        focus (simp only [List.getElem_toArray, List.getElem_cons_succ, List.getElem_cons_zero]; intro w' hS; first | (go_simp; done) | (go_simp; with_reducible rfl))
        simp only [List.getElem_toArray, List.getElem_cons_succ, List.getElem_cons_zero, Act.put, List.setIfInBounds_toArray, List.set_cons_zero, List.set_cons_succ]
        refine wpAnyH_take (i := 13) (v := ?_) rfl (by kernel_rfl) (by kernel_rfl) (by kernel_rfl) (fun _ _ _ h => h) (Or.inl ⟨by rfl, ?_⟩) u6 ?_
        rotate_left
        focus (simp only [List.getElem_toArray, List.getElem_cons_succ, List.getElem_cons_zero]; intro w' hS; first | (go_simp; done) | (go_simp; with_reducible rfl))
        simp only [List.getElem_toArray, List.getElem_cons_succ, List.getElem_cons_zero, Act.put, List.setIfInBounds_toArray, List.set_cons_zero, List.set_cons_succ]
        refine wpAnyH_ready (rs := [14]) (by kernel_rfl) (by simp) ?_
        refine AllReadyH.cons rfl (fun K hK => ?_) AllReadyH.nil
        simp only [List.getElem_toArray, List.getElem_cons_succ, List.getElem_cons_zero]
        go_simp
        refine (CC.out _).mono ?_
        rintro e w7 ⟨rfl, b7⟩
        have u7 := (show _ ∧ _ ∧ _ ∧ _ ∧ _ ∧ _ ∧ _ ∧ _ from ⟨kkB b7 u6.1, kkB b7 u6.2.1, kkB b7 u6.2.2.1, kkB b7 u6.2.2.2.1, kkB b7 u6.2.2.2.2.1, kkB b7 u6.2.2.2.2.2.1, kkB b7 u6.2.2.2.2.2.2.1, kkB b7 u6.2.2.2.2.2.2.2⟩)
        dsimp only
        refine hK.out _ _ u7 (fun _ => ?_)
        try simp only [List.getElem_toArray, List.getElem_cons_succ, List.getElem_cons_zero, Act.put, List.setIfInBounds_toArray, List.set_cons_zero, List.set_cons_succ]
        refine wpAnyH_take (i := 15) (v := ?_) rfl (by kernel_rfl) (by kernel_rfl) (by kernel_rfl) (fun _ _ _ h => h) (Or.inl ⟨by rfl, ?_⟩) u7 ?_
        rotate_left
        focus (simp only [List.getElem_toArray, List.getElem_cons_succ, List.getElem_cons_zero]; intro w' hS; first | (go_simp; done) | (go_simp; with_reducible rfl))
        simp only [List.getElem_toArray, List.getElem_cons_succ, List.getElem_cons_zero, Act.put, List.setIfInBounds_toArray, List.set_cons_zero, List.set_cons_succ]
        refine wpAnyH_take (i := 16) (v := ?_) rfl (by kernel_rfl) (by kernel_rfl) (by kernel_rfl) (fun _ _ _ h => h) (Or.inl ⟨by rfl, ?_⟩) u7 ?_
        rotate_left
        focus (simp only [List.getElem_toArray, List.getElem_cons_succ, List.getElem_cons_zero]; intro w' hS; first | (go_simp; done) | (go_simp; with_reducible rfl))
        simp only [List.getElem_toArray, List.getElem_cons_succ, List.getElem_cons_zero, Act.put, List.setIfInBounds_toArray, List.set_cons_zero, List.set_cons_succ]
        refine wpAnyH_take (i := 17) (v := ?_) rfl (by kernel_rfl) (by kernel_rfl) (by kernel_rfl) (fun _ _ _ h => h) (Or.inl ⟨by rfl, ?_⟩) u7 ?_
        rotate_left
        focus (simp only [List.getElem_toArray, List.getElem_cons_succ, List.getElem_cons_zero]; intro w' hS; first | (go_simp; done) | (go_simp; with_reducible rfl))
        simp only [List.getElem_toArray, List.getElem_cons_succ, List.getElem_cons_zero, Act.put, List.setIfInBounds_toArray, List.set_cons_zero, List.set_cons_succ]
        refine wpAnyH_take (i := 18) (v := ?_) rfl (by kernel_rfl) (by kernel_rfl) (by kernel_rfl) (fun _ _ _ h => h) (Or.inl ⟨by rfl, ?_⟩) u7 ?_
        rotate_left
        focus (simp only [List.getElem_toArray, List.getElem_cons_succ, List.getElem_cons_zero]; intro w' hS; first | (go_simp; done) | (go_simp; with_reducible rfl))
        simp only [List.getElem_toArray, List.getElem_cons_succ, List.getElem_cons_zero, Act.put, List.setIfInBounds_toArray, List.set_cons_zero, List.set_cons_succ]
        refine wpAnyH_done (by kernel_rfl) ?_ _
        refine NoPanic.normal ?_
        go_wp2
        go_ret
        exact ⟨by rw [HR.out]; rfl, (HB0.out.drew.trans (b6.mono HB0.out.size)).trans (b7.mono (Nat.le_trans HB0.out.size b6.size))⟩
      | false =>
        have HR : Hid (folB es ⟨K', SQ', NN', V'⟩ = false) := by show _ = _; rw [HIS2.out, hyy]
        clear HIS HIS2 hE hok hll q0 q1 q2 q3 p0 p1 p2 p3 hbx hX hg1 hc1 o1 hgi hi0 hm
        go_enter Tryz.func76, Tryz.ntmps76
        go_wp2_with (fail)
        try rw [hW0]
        try rw [HX.out]
        refine wp_region_noPanic ?_
        refine wp_region_held (S := fun w' => w'.cell? ⟨X, 0, none⟩ = some (.string K') ∧ w'.cell? ⟨X, 1, none⟩ = some (.int .u64 SQ') ∧ w'.cell? ⟨X, 2, none⟩ = some (.int .i64 NN') ∧ w'.cell? ⟨X, 3, none⟩ = some (.string V') ∧ w'.cell? ⟨b, off + m * 4, none⟩ = some (.string K) ∧ w'.cell? ⟨b, off + m * 4 + 1, none⟩ = some (.int .u64 SQ) ∧ w'.cell? ⟨b, off + m * 4 + 2, none⟩ = some (.int .i64 NN) ∧ w'.cell? ⟨b, off + m * 4 + 3, none⟩ = some (.string V)) (by kernel_rfl) ?_
        refine wpAnyH_take (i := 0) (v := ?_) rfl (by kernel_rfl) (by kernel_rfl) (by kernel_rfl) (fun _ _ _ h => h) (Or.inl ⟨by rfl, ?_⟩) u1 ?_
        rotate_left
        focus (simp only [List.getElem_toArray, List.getElem_cons_zero]; intro w' hS; first | (go_simp; done) | (go_simp; with_reducible rfl))
        simp only [List.getElem_toArray, List.getElem_cons_zero, Act.put, List.setIfInBounds_toArray, List.set_cons_zero, List.set_cons_succ]
        refine wpAnyH_ready (rs := [1]) (by kernel_rfl) (by simp) ?_
        refine AllReadyH.cons rfl (fun K hK => ?_) AllReadyH.nil
        simp only [List.getElem_toArray, List.getElem_cons_succ, List.getElem_cons_zero]
        go_simp
        refine (CV.out _).mono ?_
        rintro e w6 ⟨rfl, b6⟩
        have u6 := (show _ ∧ _ ∧ _ ∧ _ ∧ _ ∧ _ ∧ _ ∧ _ from ⟨kkB b6 u1.1, kkB b6 u1.2.1, kkB b6 u1.2.2.1, kkB b6 u1.2.2.2.1, kkB b6 u1.2.2.2.2.1, kkB b6 u1.2.2.2.2.2.1, kkB b6 u1.2.2.2.2.2.2.1, kkB b6 u1.2.2.2.2.2.2.2⟩)
        dsimp only
        refine hK.out _ _ u6 (fun _ => ?_)
        try simp only [List.getElem_toArray, List.getElem_cons_succ, List.getElem_cons_zero, Act.put, List.setIfInBounds_toArray, List.set_cons_zero, List.set_cons_succ]
        refine wpAnyH_take (i := 2) (v := ?_) rfl (by kernel_rfl) (by kernel_rfl) (by kernel_rfl) (fun _ _ _ h => h) (Or.inl ⟨by rfl, ?_⟩) u6 ?_
        rotate_left
        focus (simp only [List.getElem_toArray, List.getElem_cons_succ, List.getElem_cons_zero]; intro w' hS; first | (go_simp; done) | (go_simp; with_reducible rfl))
        simp only [List.getElem_toArray, List.getElem_cons_succ, List.getElem_cons_zero, Act.put, List.setIfInBounds_toArray, List.set_cons_zero, List.set_cons_succ]
        refine wpAnyH_take (i := 3) (v := ?_) rfl (by kernel_rfl) (by kernel_rfl) (by kernel_rfl) (fun _ _ _ h => h) (Or.inl ⟨by rfl, ?_⟩) u6 ?_
        rotate_left
        focus (simp only [List.getElem_toArray, List.getElem_cons_succ, List.getElem_cons_zero]; intro w' hS; first | (go_simp; done) | (go_simp; with_reducible rfl))
        simp only [List.getElem_toArray, List.getElem_cons_succ, List.getElem_cons_zero, Act.put, List.setIfInBounds_toArray, List.set_cons_zero, List.set_cons_succ]
        refine wpAnyH_take (i := 4) (v := ?_) rfl (by kernel_rfl) (by kernel_rfl) (by kernel_rfl) (fun _ _ _ h => h) (Or.inl ⟨by rfl, ?_⟩) u6 ?_
        rotate_left
        focus (simp only [List.getElem_toArray, List.getElem_cons_succ, List.getElem_cons_zero]; intro w' hS; first | (go_simp; done) | (go_simp; with_reducible rfl))
        simp only [List.getElem_toArray, List.getElem_cons_succ, List.getElem_cons_zero, Act.put, List.setIfInBounds_toArray, List.set_cons_zero, List.set_cons_succ]
        refine wpAnyH_take (i := 5) (v := ?_) rfl (by kernel_rfl) (by kernel_rfl) (by kernel_rfl) (fun _ _ _ h => h) (Or.inl ⟨by rfl, ?_⟩) u6 ?_
        rotate_left
        focus (simp only [List.getElem_toArray, List.getElem_cons_succ, List.getElem_cons_zero]; intro w' hS; first | (go_simp; done) | (go_simp; with_reducible rfl))
        simp only [List.getElem_toArray, List.getElem_cons_succ, List.getElem_cons_zero, Act.put, List.setIfInBounds_toArray, List.set_cons_zero, List.set_cons_succ]
        refine wpAnyH_take (i := 6) (v := ?_) rfl (by kernel_rfl) (by kernel_rfl) (by kernel_rfl) (fun _ _ _ h => h) (Or.inl ⟨by rfl, ?_⟩) u6 ?_
        rotate_left
        focus (simp only [List.getElem_toArray, List.getElem_cons_succ, List.getElem_cons_zero]; intro w' hS; first | (go_simp; done) | (go_simp; with_reducible rfl))
        simp only [List.getElem_toArray, List.getElem_cons_succ, List.getElem_cons_zero, Act.put, List.setIfInBounds_toArray, List.set_cons_zero, List.set_cons_succ]
        refine wpAnyH_take (i := 7) (v := ?_) rfl (by kernel_rfl) (by kernel_rfl) (by kernel_rfl) (fun _ _ _ h => h) (Or.inl ⟨by rfl, ?_⟩) u6 ?_
        rotate_left
        focus (simp only [List.getElem_toArray, List.getElem_cons_succ, List.getElem_cons_zero]; intro w' hS; first | (go_simp; done) | (go_simp; with_reducible rfl))
        simp only [List.getElem_toArray, List.getElem_cons_succ, List.getElem_cons_zero, Act.put, List.setIfInBounds_toArray, List.set_cons_zero, List.set_cons_succ]
        refine wpAnyH_take (i := 8) (v := ?_) rfl (by kernel_rfl) (by kernel_rfl) (by kernel_rfl) (fun _ _ _ h => h) (Or.inl ⟨by rfl, ?_⟩) u6 ?_
        rotate_left
        focus (simp only [List.getElem_toArray, List.getElem_cons_succ, List.getElem_cons_zero]; intro w' hS; first | (go_simp; done) | (go_simp; with_reducible rfl))
        simp only [List.getElem_toArray, List.getElem_cons_succ, List.getElem_cons_zero, Act.put, List.setIfInBounds_toArray, List.set_cons_zero, List.set_cons_succ]
        refine wpAnyH_take (i := 9) (v := ?_) rfl (by kernel_rfl) (by kernel_rfl) (by kernel_rfl) (fun _ _ _ h => h) (Or.inl ⟨by rfl, ?_⟩) u6 ?_
        rotate_left
        focus (simp only [List.getElem_toArray, List.getElem_cons_succ, List.getElem_cons_zero]; intro w' hS; first | (go_simp; done) | (go_simp; with_reducible rfl))
        simp only [List.getElem_toArray, List.getElem_cons_succ, List.getElem_cons_zero, Act.put, List.setIfInBounds_toArray, List.set_cons_zero, List.set_cons_succ]
        refine wpAnyH_take (i := 10) (v := ?_) rfl (by kernel_rfl) (by kernel_rfl) (by kernel_rfl) (fun _ _ _ h => h) (Or.inl ⟨by rfl, ?_⟩) u6 ?_
        rotate_left
        focus (simp only [List.getElem_toArray, List.getElem_cons_succ, List.getElem_cons_zero]; intro w' hS; first | (go_simp; done) | (go_simp; with_reducible rfl))
        simp only [List.getElem_toArray, List.getElem_cons_succ, List.getElem_cons_zero, Act.put, List.setIfInBounds_toArray, List.set_cons_zero, List.set_cons_succ]
        refine wpAnyH_take (i := 11) (v := ?_) rfl (by kernel_rfl) (by kernel_rfl) (by kernel_rfl) (fun _ _ _ h => h) (Or.inl ⟨by rfl, ?_⟩) u6 ?_
        rotate_left
        focus (simp only [List.getElem_toArray, List.getElem_cons_succ, List.getElem_cons_zero]; intro w' hS; first | (go_simp; done) | (go_simp; with_reducible rfl))
        simp only [List.getElem_toArray, List.getElem_cons_succ, List.getElem_cons_zero, Act.put, List.setIfInBounds_toArray, List.set_cons_zero, List.set_cons_succ]
        refine wpAnyH_take (i := 12) (v := ?_) rfl (by kernel_rfl) (by kernel_rfl) (by kernel_rfl) (fun _ _ _ h => h) (Or.inl ⟨by rfl, ?_⟩) u6 ?_
        rotate_left
        focus (simp only [List.getElem_toArray, List.getElem_cons_succ, List.getElem_cons_zero]; intro w' hS; first | (go_simp; done) | (go_simp; with_reducible rfl))
        simp only [List.getElem_toArray, List.getElem_cons_succ, List.getElem_cons_zero, Act.put, List.setIfInBounds_toArray, List.set_cons_zero, List.set_cons_succ]
        refine wpAnyH_take (i := 13) (v := ?_) rfl (by kernel_rfl) (by kernel_rfl) (by kernel_rfl) (fun _ _ _ h => h) (Or.inl ⟨by rfl, ?_⟩) u6 ?_
        rotate_left
        focus (simp only [List.getElem_toArray, List.getElem_cons_succ, List.getElem_cons_zero]; intro w' hS; first | (go_simp; done) | (go_simp; with_reducible rfl))
        simp only [List.getElem_toArray, List.getElem_cons_succ, List.getElem_cons_zero, Act.put, List.setIfInBounds_toArray, List.set_cons_zero, List.set_cons_succ]
        refine wpAnyH_ready (rs := [14]) (by kernel_rfl) (by simp) ?_
        refine AllReadyH.cons rfl (fun K hK => ?_) AllReadyH.nil
        simp only [List.getElem_toArray, List.getElem_cons_succ, List.getElem_cons_zero]
        go_simp
        refine (CC.out _).mono ?_
        rintro e w7 ⟨rfl, b7⟩
        have u7 := (show _ ∧ _ ∧ _ ∧ _ ∧ _ ∧ _ ∧ _ ∧ _ from ⟨kkB b7 u6.1, kkB b7 u6.2.1, kkB b7 u6.2.2.1, kkB b7 u6.2.2.2.1, kkB b7 u6.2.2.2.2.1, kkB b7 u6.2.2.2.2.2.1, kkB b7 u6.2.2.2.2.2.2.1, kkB b7 u6.2.2.2.2.2.2.2⟩)
        dsimp only
        refine hK.out _ _ u7 (fun _ => ?_)
        try simp only [List.getElem_toArray, List.getElem_cons_succ, List.getElem_cons_zero, Act.put, List.setIfInBounds_toArray, List.set_cons_zero, List.set_cons_succ]
        refine wpAnyH_take (i := 15) (v := ?_) rfl (by kernel_rfl) (by kernel_rfl) (by kernel_rfl) (fun _ _ _ h => h) (Or.inl ⟨by rfl, ?_⟩) u7 ?_
        rotate_left
        focus (simp only [List.getElem_toArray, List.getElem_cons_succ, List.getElem_cons_zero]; intro w' hS; first | (go_simp; done) | (go_simp; with_reducible rfl))
        simp only [List.getElem_toArray, List.getElem_cons_succ, List.getElem_cons_zero, Act.put, List.setIfInBounds_toArray, List.set_cons_zero, List.set_cons_succ]
        refine wpAnyH_take (i := 16) (v := ?_) rfl (by kernel_rfl) (by kernel_rfl) (by kernel_rfl) (fun _ _ _ h => h) (Or.inl ⟨by rfl, ?_⟩) u7 ?_
        rotate_left
        focus (simp only [List.getElem_toArray, List.getElem_cons_succ, List.getElem_cons_zero]; intro w' hS; first | (go_simp; done) | (go_simp; with_reducible rfl))
        simp only [List.getElem_toArray, List.getElem_cons_succ, List.getElem_cons_zero, Act.put, List.setIfInBounds_toArray, List.set_cons_zero, List.set_cons_succ]
        refine wpAnyH_take (i := 17) (v := ?_) rfl (by kernel_rfl) (by kernel_rfl) (by kernel_rfl) (fun _ _ _ h => h) (Or.inl ⟨by rfl, ?_⟩) u7 ?_
        rotate_left
        focus (simp only [List.getElem_toArray, List.getElem_cons_succ, List.getElem_cons_zero]; intro w' hS; first | (go_simp; done) | (go_simp; with_reducible rfl))
        simp only [List.getElem_toArray, List.getElem_cons_succ, List.getElem_cons_zero, Act.put, List.setIfInBounds_toArray, List.set_cons_zero, List.set_cons_succ]
        refine wpAnyH_take (i := 18) (v := ?_) rfl (by kernel_rfl) (by kernel_rfl) (by kernel_rfl) (fun _ _ _ h => h) (Or.inl ⟨by rfl, ?_⟩) u7 ?_
        rotate_left
        focus (simp only [List.getElem_toArray, List.getElem_cons_succ, List.getElem_cons_zero]; intro w' hS; first | (go_simp; done) | (go_simp; with_reducible rfl))
        simp only [List.getElem_toArray, List.getElem_cons_succ, List.getElem_cons_zero, Act.put, List.setIfInBounds_toArray, List.set_cons_zero, List.set_cons_succ]
        refine wpAnyH_done (by kernel_rfl) ?_ _
        refine NoPanic.normal ?_
        go_wp2
        go_ret
        exact ⟨by rw [HR.out]; rfl, (HB0.out.drew.trans (b6.mono HB0.out.size)).trans (b7.mono (Nat.le_trans HB0.out.size b6.size))⟩
end Go.Proofs.YtmnboiikopkaoaaGreat

namespace Go.Proofs.YtmnboiikopkaoaaGreat
open Go.RowKit

/-- An append whose run is known. -/
theorem wpList_append_run {P : Program} (w : World) {ops : Array Oper} {rest : List Oper} {o : Oper} {a : Act} {Q : Exit → Act → World → Prop} (hgd : o.guard = none) (s x : Operand) (t tx : TypeId)
    (ho : o.op = .call { callee := .builtin .append, args := #[s, x], argTypes := #[t, tx] }) (v xv : Value) (hv : a.eval s = v) (hx : a.eval x = xv) {v' : Value} {w' : World}
    (hr : (Builtin.append_ #[t, tx] o.type #[v, xv]).run P w = .ok v' w') (h : wpList P ops Q rest (a.put o.dst v') w') : wpList P ops Q (o :: rest) a w := by
  refine wpList_plain hgd fun K hK => ?_
  unfold Oper.wp execOp
  simp only [ho, resolve, invoke, builtin, Sem.run_bind, Sem.run_pure, Result.andThen_ok, List.map_toArray, List.map_cons, List.map_nil, hv, hx, hr]
  exact hK _ _ h
theorem byteAt (l : List UInt8) (j : Nat) (hj : j < l.length) : (Lib.byteCells l)[j]? = some (.int .u8 (l[j].toNat : Int)) := by simp [Lib.byteCells, hj]
theorem addrJ (g j : Nat) : (⟨g, 0, none⟩ : Addr).add j = ⟨g, j, none⟩ := by unfold Addr.add; split <;> simp_all
/-- A text's bytes, another's behind them, as a text. -/
theorem join_run (a b : ByteArray) (w : World) (ha : a.size ≤ 1000000) (hb : b.size ≤ 1000000) : ∃ C w1, (convert 9 78 (.string a)).run Tryz.prog w = .ok (.slice (some ⟨w.heap.size, 0, none⟩) a.size C) w1 ∧
    ∃ v' w2, (∀ ty, (Builtin.append_ #[78, 9] ty #[.slice (some ⟨w.heap.size, 0, none⟩) a.size C, .string b]).run Tryz.prog w1 = .ok v' w2) ∧ (convert 78 9 v').run Tryz.prog w2 = .ok (.string (a ++ b)) w2 ∧ Below w.heap.size w w2 := by
  obtain ⟨i0, hi, hz0, hzs, hzb⟩ := info_parts infoByte
  have hge : a.size ≤ grownCap w a.size 0 5 := grownCap_ge _ _ _ _
  obtain ⟨W, hW⟩ : ∃ W, Lib.bytesWorld w 5 a = W := ⟨_, rfl⟩
  have hrun := Lib.run_convert_string_bytes w _ _ _ a Tryz.underlying9 Tryz.underlying78 Tryz.underlying5
  have hnew := Lib.bytesWorld_at_new w 5 a
  have hsz := Lib.bytesWorld_size w 5 a
  have hbel : Below w.heap.size w W := by rw [← hW]; exact ⟨rfl, rfl, rfl, by rw [hsz]; omega, fun k hk => Lib.bytesWorld_at_old w _ a k hk⟩
  have hcell : ∀ j (h : j < a.data.toList.length), W.cell? ⟨w.heap.size, j, none⟩ = some (.int .u8 (a.data.toList[j].toNat : Int)) := fun j h => by
    rw [← hW, Lib.bytesWorld_cell w _ a j (by simpa using h)]
    rw [List.getD, List.getElem?_eq_getElem h]
    rfl
  have hcs : (Lib.bytesCells w 5 a).size = grownCap w a.size 0 5 := by
    unfold Lib.bytesCells
    rw [Array.size_append, Array.size_map, Array.size_replicate]
    show a.size + _ = _
    omega
  rw [hW] at hrun hnew hsz
  rw [hcs] at hnew
  generalize hC : grownCap w a.size 0 5 = C at *
  refine ⟨C, W, hrun, ?_⟩
  have hS : Src Tryz.prog 1 9 (.string b) b.size (Lib.byteCells b.data.toList) W := src_strB b W
  have hla : a.data.toList.length = a.size := len_data' a
  have hlb : b.data.toList.length = b.size := len_data' b
  have hbc : (Lib.byteCells b.data.toList).length = b.size := by simp [Lib.byteCells]
  have hcat : (a ++ b) = ⟨(a.data.toList ++ b.data.toList).toArray⟩ := by rw [← cat_str]
  have hlen : (a.data.toList ++ b.data.toList).length = a.size + b.size := by rw [List.length_append, hla, hlb]
  by_cases hroom : a.size + b.size ≤ C
  · refine ⟨.slice (some ⟨w.heap.size, 0, none⟩) (a.size + b.size) C, W.setCells w.heap.size a.size (Lib.byteCells b.data.toList), fun ty => ?_, ?_, ?_⟩
    · have hthere : ∀ j, j < (Lib.byteCells b.data.toList).length → (W.cell? ⟨w.heap.size, 0 + a.size * i0.size + j, none⟩).isSome = true := fun j hj => by
        rw [hzs]
        simp only [World.cell?, hnew]
        have h1 : 0 + a.size * 1 + j < (Lib.bytesCells w 5 a).size := by rw [hcs]; omega
        rw [Array.getElem?_eq_getElem h1]
        rfl
      have hfree : ∀ j, j < (Lib.byteCells b.data.toList).length → W.frozen? ⟨w.heap.size, 0 + a.size * i0.size + j, none⟩ = false := fun j hj => by
        rw [hzs]
        simp only [World.frozen?, hnew]
        simp
        omega
      have := run_append_room_src (P := Tryz.prog) W 78 9 ty 5 i0 Tryz.underlying78 hi w.heap.size 0 a.size C (.string b) b.size _ (by rw [hzs]; exact hS) hroom hthere hfree
      rw [hzs, Nat.zero_add, Nat.mul_one] at this
      exact this
    · rw [hcat, ← hlen]
      refine run_convert_bytes_back (P := Tryz.prog) _ 78 9 5 ⟨w.heap.size, 0, none⟩ C _ Tryz.underlying78 Tryz.underlying5 Tryz.underlying9 (fun j hj => ?_)
      rw [addrJ]
      by_cases hja : j < a.size
      · rw [World.cell?_setCells_out _ _ _ _ _ (fun _ _ => .inl hja), hcell j (by omega)]
        rw [List.getElem_append_left]
      · have h2 := World.cell?_setCells_in w.heap.size (Lib.byteCells b.data.toList) a.size W (fun j hj => by
          simp only [World.cell?, hnew]
          have h1 : a.size + j < (Lib.bytesCells w 5 a).size := by rw [hcs]; omega
          simp [h1]) (j - a.size) (by omega)
        rw [show a.size + (j - a.size) = j by omega] at h2
        rw [h2, List.getElem_append_right (by omega)]
        simp [Lib.byteCells, hla]
    · exact below_row hbel (Nat.le_refl _) (setCells_grown w.heap.size _ _ W) (fun k hk => by cases hk; exact Nat.le_refl _)
  · have hold : (Builtin.firstCells i0.size a.size (.slice (some ⟨w.heap.size, 0, none⟩) a.size C)).run Tryz.prog W.drew = .ok (Lib.byteCells a.data.toList).toArray W.drew := by
      rw [hzs]
      refine run_firstCells_some W.drew 1 a.size _ a.size C _ (by simp [Lib.byteCells]) (fun j u hu => ?_)
      rw [addrJ]
      have hj : j < a.data.toList.length := by
        have := (List.getElem?_eq_some_iff.1 hu).1
        simpa [Lib.byteCells] using this
      rw [byteAt _ j hj] at hu
      rw [← Option.some.inj hu]
      exact hcell j hj
    refine ⟨_, _, fun ty => run_append_grow_src (P := Tryz.prog) W 78 9 ty 5 i0 _ Tryz.underlying78 hi hz0 (some ⟨w.heap.size, 0, none⟩) a.size C _ hold (.string b) b.size _ (by rw [hzs]; exact hS) (by omega) (by omega) (growslice_fits (by omega) (by rw [hzb]; omega)), ?_, ?_⟩
    · rw [hcat, ← hlen]
      refine run_convert_bytes_back (P := Tryz.prog) _ 78 9 5 ⟨W.heap.size, 0, none⟩ _ _ Tryz.underlying78 Tryz.underlying5 Tryz.underlying9 (fun j hj => ?_)
      rw [addrJ]
      have hnb := new_block W.drew (.cells ((Lib.byteCells a.data.toList ++ Lib.byteCells b.data.toList).toArray ++ Builtin.zeroCells (Value.int .u8 0).cells (grownCap W (a.data.toList ++ b.data.toList).length C 5 - (a.data.toList ++ b.data.toList).length)) 5) rfl
      simp only [World.cell?]
      rw [show W.drew.heap.size = W.heap.size from rfl] at hnb
      rw [hnb, ← Lib.byteCells_append]
      simp only
      rw [Array.getElem?_append_left (by simp [Lib.byteCells]; omega)]
      rw [List.getElem?_toArray, byteAt _ j hj]
      rfl
    · exact hbel.trans (((Below.refl W.heap.size W).drew.alloc (Nat.le_refl _) _).mono hbel.size)
set_option maxHeartbeats 2000000 in
set_option maxRecDepth 100000 in
theorem join_any (a b : ByteArray) (w : World) (ha : a.size ≤ 1000000) (hb : b.size ≤ 1000000) :
    Calls Tryz.prog 148 #[.string a, .string b] w fun e w' => e = .returned (.string (a ++ b)) ∧ Below w.heap.size w w' := by
  obtain ⟨C, w1, h1, v', w2, h2, h3, hB⟩ := join_run a b w ha hb
  have HB := Lib.hid hB
  have H2 := Lib.hid h2
  clear hB h2
  generalize a ++ b = AB at *
  go_enter Tryz.func148, Tryz.ntmps148
  go_wp2_with (at_builtin; refine wpList_append_run _ rfl _ _ 78 9 rfl _ _ rfl rfl (H2.out _) ?_)
  go_ret
  exact ⟨rfl, HB.out⟩
theorem be4 (p : Nat) (hp : p < 4294967296) : Lib.byteCells (be p 4) = [.int .u8 ((p : Int) / 16777216), .int .u8 ((p : Int) / 65536 % 256), .int .u8 ((p : Int) / 256 % 256), .int .u8 ((p : Int) % 256)] := by
  have e : be p 4 = [UInt8.ofNat (p / 16777216 % 256), UInt8.ofNat (p / 65536 % 256), UInt8.ofNat (p / 256 % 256), UInt8.ofNat (p / 1 % 256)] := rfl
  rw [e]
  have e1 : ((p / 16777216 % 256 % 256 : Nat) : Int) = (p : Int) / 16777216 := by omega
  have e2 : ((p / 65536 % 256 % 256 : Nat) : Int) = (p : Int) / 65536 % 256 := by omega
  have e3 : ((p / 256 % 256 % 256 : Nat) : Int) = (p : Int) / 256 % 256 := by omega
  have e4 : ((p / 1 % 256 % 256 : Nat) : Int) = (p : Int) % 256 := by omega
  simp only [Lib.byteCells, List.map_cons, List.map_nil, UInt8.toNat_ofNat', show (2 : Nat) ^ 8 = 256 from rfl, e1, e2, e3, e4]
set_option maxHeartbeats 2000000 in
set_option maxRecDepth 100000 in
theorem appendPlace_any {w : World} (v : Value) (n p : Nat) (xs : List Value) (hrow : Row w 5 1 v n xs) (hp : p < 4294967296) (hn : n ≤ 100000000) :
    Calls Tryz.prog 112 #[v, .int .i64 (p : Int)] w fun e w' => ∃ v', e = .returned v' ∧ Row w' 5 1 v' (n + 4) (xs ++ Lib.byteCells (be p 4)) ∧ w.grownBy w' (ob v) ∧ (ob v' = ob v ∨ ∃ g, ob v' = some g ∧ w.heap.size ≤ g) := by
  obtain ⟨i0, hi, hz0, hzs, hzb⟩ := info_parts infoByte
  have hwp : IntKind.u32.wrap (p : Int) = (p : Int) := by rw [IntKind.wrap_u32]; omega
  rw [be4 p hp]
  obtain ⟨a, cap, rfl, -, -⟩ := hrow.le
  have hbl := (Below.refl w.heap.size w).alloc (Nat.le_refl _) (.cells #[.int .u8 ((p : Int) / 16777216), .int .u8 ((p : Int) / 65536 % 256), .int .u8 ((p : Int) / 256 % 256), .int .u8 ((p : Int) % 256)] 5)
  have HG := Lib.hid (grownBy_of_below hbl none)
  have HR := Lib.hid (row_below hrow hbl)
  have HS := Lib.hid (show Src Tryz.prog 1 78 (.slice (some ⟨w.heap.size, 0, none⟩) 4 4) 4 [.int .u8 ((p : Int) / 16777216), .int .u8 ((p : Int) / 65536 % 256), .int .u8 ((p : Int) / 256 % 256), .int .u8 ((p : Int) % 256)] (w.alloc (.cells #[.int .u8 ((p : Int) / 16777216), .int .u8 ((p : Int) / 65536 % 256), .int .u8 ((p : Int) / 256 % 256), .int .u8 ((p : Int) % 256)] 5)) from
    Src.ofSlice (P := Tryz.prog) _ (size := 1) Tryz.underlying78 ⟨w.heap.size, 0, none⟩ 4 4 _ rfl (fun j u hu => by
      match j, hu with
      | 0, hu => simpa [Addr.add] using hu
      | 1, hu => simpa [Addr.add] using hu
      | 2, hu => simpa [Addr.add] using hu
      | 3, hu => simpa [Addr.add] using hu) (by simp [Value.oneCell']))
  have H1 := Lib.hid (show n + 4 ≤ maxLen by unfold maxLen; omega)
  have H2 := Lib.hid (show (n + 4) * 1 ≤ 140737488355328 by omega)
  clear hrow hbl
  go_enter Tryz.func112, Tryz.ntmps112
  go_wp2_with (at_builtin; refine wpList_append_row _ rfl _ _ 78 78 rfl 5 i0 _ 1 1 Tryz.underlying78 hi hz0 hzs hzb rfl (.slice a n cap) _ _ rfl HR.out _ rfl 4 _ HS.out H1.out H2.out ?_; intro v' w5 hrow5 hgrow5 hob5)
  go_ret
  refine ⟨v', rfl, hrow5, ⟨hgrow5.os.trans HG.out.os, hgrow5.tape.trans HG.out.tape, hgrow5.output.trans HG.out.output, Nat.le_trans HG.out.size hgrow5.size, fun k hk hr => (hgrow5.block k (Nat.lt_of_lt_of_le hk HG.out.size) hr).trans (HG.out.block k hk (by simp))⟩, ?_⟩
  rcases hob5 with e | ⟨e, -⟩
  · exact .inl e
  · exact .inr ⟨_, e, HG.out.size⟩
end Go.Proofs.YtmnboiikopkaoaaGreat

namespace Go.Proofs.YtmnboiikopkaoaaGreat
open Go.RowKit

theorem EntsAt.take {n0 : Nat} {w : World} {a : Option Addr} {len : Nat} {es : List Ent} (h : EntsAt n0 w a len es) (k : Nat) (hk : k ≤ len) : EntsAt n0 w a k (es.take k) := by
  refine ⟨by rw [List.length_take, h.1]; omega, ?_⟩
  rcases h.2 with h0 | ⟨b, off, e, h1, h2⟩
  · exact .inl (by omega)
  · refine .inr ⟨b, off, e, h1, fun i hi j u hu => h2 i (by rw [List.length_take] at hi; omega) j u (by rw [List.getElem_take] at hu; exact hu)⟩
theorem ordB_step (es : List Ent) (k : Nat) (hk : k < es.length) : ordB es (k + 1) = (ordB es k && folB (es.take k) (entAt es k)) := by
  have hl : (es.take k).length = k := by rw [List.length_take]; omega
  unfold folB
  rw [hl]
  show (ordB es k && (vldE (entAt es k) && _)) = _
  by_cases h0 : k = 0
  · subst h0; simp
  · have : entAt (es.take k) (k - 1) = entAt es (k - 1) := by
      unfold entAt
      rw [List.getElem?_take, if_pos (by omega)]
    rw [this]
set_option maxHeartbeats 8000000 in
set_option maxRecDepth 100000 in
theorem put_walk {w : World} (a : Option Addr) (len cap : Nat) (es : List Ent) (hE : EntsAt w.heap.size w a len es) (hlm : len ≤ 1000000) (hcap : len ≤ cap) (hok : ∀ x ∈ es, x.Ok)
    (hsz : (layB es).length ≤ 1000000)
    (CL : ∀ W, Below w.heap.size w W → ordB es len = true → Calls Tryz.prog 77 #[.slice a len cap] W fun e w' => e = .returned (.string ⟨(layB es).toArray⟩) ∧ Below W.heap.size W w') :
    Calls Tryz.prog 41 #[.slice a len cap] w fun e w' => e = .returned (putBV es) ∧ Below w.heap.size w w' := by
  have hll : es.length = len := hE.1
  have HE := Lib.hid hE
  have HOK := Lib.hid hok
  have HCL := Lib.hid CL
  have HSZ := Lib.hid hsz
  clear hE hok CL hsz
  go_enter Tryz.func41, Tryz.ntmps41
  go_wp2
  go_loopw [8] (fun iv wr => ∃ i : Nat, iv = .int .i64 (i : Int) ∧ i ≤ len ∧ Hid (ordB es i = true) ∧ Below w.heap.size w wr) (fun iv _ => len - (intOf iv).toNat)
  case atStart => exact ⟨0, rfl, Nat.zero_le _, rfl, Below.refl _ _⟩
  case round =>
    obtain ⟨i, rfl, hi, HORD, hbl⟩ := hrel
    have HBL := Lib.hid hbl
    by_cases hlt : i < len
    · obtain ⟨b, off, rfl, hblt, HCE⟩ : ∃ b off, a = some ⟨b, off, none⟩ ∧ b < w.heap.size ∧ ∃ x : Ent, es[i]? = some x ∧ ∀ j u, x.cells[j]? = some u → wr.cell? ⟨b, off + i * 4 + j, none⟩ = some u := by
        rcases (HE.out.below hbl).2 with h0 | ⟨b, off, e, h1, h2⟩
        · omega
        · exact ⟨b, off, e, h1, ⟨es[i]'(by omega), List.getElem?_eq_getElem (by omega), h2 i (by omega)⟩⟩
      obtain ⟨⟨K, SQ, NN, V⟩, hg, hc⟩ := HCE
      have o2 := HOK.out _ (List.mem_of_getElem? hg)
      have hgj : entAt es i = ⟨K, SQ, NN, V⟩ := by unfold entAt; rw [hg]; rfl
      have q0 : wr.cell? ⟨b, off + i * 4, none⟩ = some (.string K) := hc 0 _ rfl
      have q1 : wr.cell? ⟨b, off + i * 4 + 1, none⟩ = some (.int .u64 SQ) := hc 1 _ rfl
      have q2 : wr.cell? ⟨b, off + i * 4 + 2, none⟩ = some (.int .i64 NN) := hc 2 _ rfl
      have q3 : wr.cell? ⟨b, off + i * 4 + 3, none⟩ = some (.string V) := hc 3 _ rfl
      have hil : (i : Int) < (len : Int) := by omega
      have hil2 : (i : Int) ≤ (len : Int) := by omega
      clear hc hbl
      have hicap : (i : Int) ≤ (cap : Int) := by omega
      obtain ⟨W, hW⟩ : ∃ W, wr.alloc (.cells #[.string K, .int .u64 SQ, .int .i64 NN, .string V] 48) = W := ⟨_, rfl⟩
      have HBX := Lib.hid (show Boxe wr.heap.size K SQ NN V W by rw [← hW]; exact new_block _ _ rfl)
      have HBW := Lib.hid (show Below w.heap.size w W by rw [← hW]; exact HBL.out.alloc HBL.out.size _)
      have HF := Lib.hid (fun W' (hb : Below w.heap.size w W') => follows_any (w := W') w.heap.size hb.size (some ⟨b, off, none⟩) i cap (es.take i) ((HE.out.take i (by omega)).below hb) (by omega) (fun x hx => HOK.out x (List.mem_of_mem_take hx)) ⟨K, SQ, NN, V⟩ o2)
      unfold ev at HF
      simp only at HF
      have HST := Lib.hid (ordB_step es i (by omega))
      rw [HORD.out, Bool.true_and, hgj] at HST
      go_upto_region 4 with fail
      try rw [hW]
      generalize wr.heap.size = X at HBX ⊢
      have c0 : W.drew.cell? ⟨X, 0, none⟩ = some (.string K) := HBX.out.c0
      have c1 : W.drew.cell? ⟨X, 1, none⟩ = some (.int .u64 SQ) := HBX.out.c1
      have c2 : W.drew.cell? ⟨X, 2, none⟩ = some (.int .i64 NN) := HBX.out.c2
      have c3 : W.drew.cell? ⟨X, 3, none⟩ = some (.string V) := HBX.out.c3
      clear hW q0 q1 q2 q3 hg hgj o2 HORD
      generalize folB (es.take i) ⟨K, SQ, NN, V⟩ = F at HF HST
      cases F with
      | true =>
        go_region_held3 (fun w' => w'.cell? ⟨X, 0, none⟩ = some (.string K) ∧ w'.cell? ⟨X, 1, none⟩ = some (.int .u64 SQ) ∧ w'.cell? ⟨X, 2, none⟩ = some (.int .i64 NN) ∧ w'.cell? ⟨X, 3, none⟩ = some (.string V)) (first | assumption | with_reducible exact ⟨c0, c1, c2, c3⟩ | with_reducible exact ⟨kkB b6 c0, kkB b6 c1, kkB b6 c2, kkB b6 c3⟩ | go_keep)
          (first
          | (go_at_call 76; (with_reducible refine (HF.out _ HBW.out.drew).mono ?_); rintro e w6 ⟨rfl, b6⟩)
          | fail)
        all_goals go_wp2_with fail
        all_goals go_roundw
        all_goals first
          | exact ⟨i + 1, by go_num, by omega, HST, HBW.out.drew.trans (b6.mono HBW.out.size)⟩
          | (simp [intOf]; omega)
      | false =>
        have HR : Hid (putBV es = .tuple #[.string ⟨#[]⟩, .int .i64 1]) := by
          show _ = _
          unfold putBV
          rw [ordB_no HST.out (by omega)]
          rfl
        go_region_held3 (fun w' => w'.cell? ⟨X, 0, none⟩ = some (.string K) ∧ w'.cell? ⟨X, 1, none⟩ = some (.int .u64 SQ) ∧ w'.cell? ⟨X, 2, none⟩ = some (.int .i64 NN) ∧ w'.cell? ⟨X, 3, none⟩ = some (.string V)) (first | assumption | with_reducible exact ⟨c0, c1, c2, c3⟩ | with_reducible exact ⟨kkB b6 c0, kkB b6 c1, kkB b6 c2, kkB b6 c3⟩ | go_keep)
          (first
          | (go_at_call 76; (with_reducible refine (HF.out _ HBW.out.drew).mono ?_); rintro e w6 ⟨rfl, b6⟩)
          | fail)
        all_goals go_wp2_with fail
        all_goals go_ret2
        all_goals exact ⟨by rw [HR.out]; rfl, HBW.out.drew.trans (b6.mono HBW.out.size)⟩
    · obtain rfl : i = len := by omega
      have C1 := Lib.hid (HCL.out wr HBL.out HORD.out)
      obtain ⟨Z, hZ⟩ : ∃ Z : ByteArray, ⟨(layB es).toArray⟩ = Z := ⟨_, rfl⟩
      have hZd : Z.data.toList = layB es := by rw [← hZ]
      have hZs : Z.size ≤ 1000000 := by rw [← len_data', hZd]; exact HSZ.out
      rw [hZ] at C1
      have C2 := Lib.hid (fun W => seal_any Z W hZs)
      rw [hZd] at C2
      have HR : Hid (putBV es = .tuple #[.string ⟨(sealF (layB es)).toArray⟩, .int .i64 0]) := by
        show _ = _
        unfold putBV
        rw [hll, HORD.out]
        rfl
      clear HE HCL hZ hZd hbl
      go_wp2_with (first | (go_at_call 77; (with_reducible refine C1.out.mono ?_); rintro _ w2 ⟨rfl, b2⟩) | (go_at_call 48; (with_reducible refine (C2.out _).mono ?_); rintro _ w3 ⟨rfl, b3⟩) | fail)
      go_ret2
      exact ⟨by rw [HR.out]; rfl, (HBL.out.trans (b2.mono HBL.out.size)).trans (b3.mono (Nat.le_trans HBL.out.size b2.size))⟩
end Go.Proofs.YtmnboiikopkaoaaGreat

namespace Go.Proofs.YtmnboiikopkaoaaGreat
open Go.RowKit

theorem varP1 (x : Nat) (hx : x < 18446744073709551616) (W : World) : Calls Tryz.prog 38 #[.slice (some ⟨W.heap.size, 0, none⟩) 1 1] (W.alloc (.cells #[.int .u64 (x : Int)] 46)) fun e w' => e = .returned (.string ⟨(Lib.uvarint x).toArray⟩) ∧ Below W.heap.size W w' := by
  have h := var_any W.heap.size 0 1 [x] (W.alloc (.cells #[.int .u64 (x : Int)] 46)) (by simpa using hx) (by simp) (fun i hi => by
    match i, hi with
    | 0, _ => exact nce rfl rfl) (by simp)
  rw [show vars [x] = Lib.uvarint x by simp [vars]] at h
  exact h.mono fun e w' ⟨h1, h2⟩ => ⟨h1, ((Below.refl _ _).alloc (Nat.le_refl _) _).trans (h2.mono (by simp))⟩
theorem varP2 (x y : Nat) (hx : x < 18446744073709551616) (hy : y < 18446744073709551616) (W : World) : Calls Tryz.prog 38 #[.slice (some ⟨W.heap.size, 0, none⟩) 2 2] (W.alloc (.cells #[.int .u64 (x : Int), .int .u64 (y : Int)] 46)) fun e w' => e = .returned (.string ⟨(vars [x, y]).toArray⟩) ∧ Below W.heap.size W w' := by
  have h := var_any W.heap.size 0 2 [x, y] (W.alloc (.cells #[.int .u64 (x : Int), .int .u64 (y : Int)] 46)) (fun z hz => by simp at hz; omega) (by simp) (fun i hi => by
    match i, hi with
    | 0, _ => exact nce rfl rfl
    | 1, _ => exact nce rfl rfl) (by simp)
  exact h.mono fun e w' ⟨h1, h2⟩ => ⟨h1, ((Below.refl _ _).alloc (Nat.le_refl _) _).trans (h2.mono (by simp))⟩
theorem textP1 (s : ByteArray) (hs : s.size ≤ 1000000) (W : World) : Calls Tryz.prog 42 #[.slice (some ⟨W.heap.size, 0, none⟩) 1 1] (W.alloc (.cells #[.string s] 9)) fun e w' => e = .returned (.string ⟨(Lib.uvarint s.size ++ s.data.toList).toArray⟩) ∧ Below W.heap.size W w' := by
  have h := text_any W.heap.size 0 1 [s] (W.alloc (.cells #[.string s] 9)) (fun z hz => by simp at hz; subst hz; unfold maxLen; omega) (by simp [ntotal]; omega) (fun i hi => by
    match i, hi with
    | 0, _ => exact nce rfl rfl) (by simp)
  rw [show ntexts [s] = Lib.uvarint s.size ++ s.data.toList by simp [ntexts]] at h
  exact h.mono fun e w' ⟨h1, h2⟩ => ⟨h1, ((Below.refl _ _).alloc (Nat.le_refl _) _).trans (h2.mono (by simp))⟩
/-- Two rows of bytes of a call's own, apart, and blocks below as they were. -/
structure LayS (w : World) (V T : Value) (bs ts : List UInt8) (W : World) : Prop where
  rv : Row W 5 1 V bs.length (Lib.byteCells bs)
  rt : Row W 5 1 T ts.length (Lib.byteCells ts)
  ov : ∀ k, ob V = some k → w.heap.size ≤ k
  ot : ∀ k, ob T = some k → w.heap.size ≤ k
  ne : ∀ k, ob V = some k → ob T ≠ some k
  bel : Below w.heap.size w W
section
variable {w : World} {V T v' : Value} {bs ts cs : List UInt8} {W W' : World}
theorem LayS.below (h : LayS w V T bs ts W) (hb : Below W.heap.size W W') : LayS w V T bs ts W' :=
  ⟨row_below h.rv hb, row_below h.rt hb, h.ov, h.ot, h.ne, h.bel.trans (hb.mono h.bel.size)⟩
theorem LayS.addV (h : LayS w V T bs ts W) (hr : Row W' 5 1 v' (bs.length + cs.length) (Lib.byteCells bs ++ Lib.byteCells cs)) (hg : W.grownBy W' (ob V)) (ho : ob v' = ob V ∨ ∃ g, ob v' = some g ∧ W.heap.size ≤ g) : LayS w v' T (bs ++ cs) ts W' := by
  refine ⟨?_, ?_, ?_, h.ot, ?_, below_row h.bel (Nat.le_refl _) hg h.ov⟩
  · rw [List.length_append, Lib.byteCells_append]; exact hr
  · exact h.rt.kept fun k hk => hg.block k (h.rt.lt k hk) (fun e => h.ne k e.symm hk)
  · intro k hk
    rcases ho with e | ⟨g, e, hge⟩
    · exact h.ov k (by rw [← e]; exact hk)
    · rw [e] at hk; cases hk; exact Nat.le_trans h.bel.size hge
  · intro k hk hT
    rcases ho with e | ⟨g, e, hge⟩
    · exact h.ne k (by rw [← e]; exact hk) hT
    · rw [e] at hk; cases hk
      have := h.rt.lt _ hT
      omega
theorem LayS.addT (h : LayS w V T bs ts W) (hr : Row W' 5 1 v' (ts.length + cs.length) (Lib.byteCells ts ++ Lib.byteCells cs)) (hg : W.grownBy W' (ob T)) (ho : ob v' = ob T ∨ ∃ g, ob v' = some g ∧ W.heap.size ≤ g) : LayS w V v' bs (ts ++ cs) W' := by
  refine ⟨?_, ?_, h.ov, ?_, ?_, below_row h.bel (Nat.le_refl _) hg h.ot⟩
  · exact h.rv.kept fun k hk => hg.block k (h.rv.lt k hk) (fun e => h.ne k hk e.symm)
  · rw [List.length_append, Lib.byteCells_append]; exact hr
  · intro k hk
    rcases ho with e | ⟨g, e, hge⟩
    · exact h.ot k (by rw [← e]; exact hk)
    · rw [e] at hk; cases hk; exact Nat.le_trans h.bel.size hge
  · intro k hk hT
    rcases ho with e | ⟨g, e, hge⟩
    · exact h.ne k hk (by rw [← e]; exact hT)
    · rw [e] at hT; cases hT
      have := h.rv.lt _ hk
      omega
end
/-- The same beside a version in a box. -/
structure LayX (w : World) (X : Nat) (x : Ent) (V T : Value) (bs ts : List UInt8) (W : World) : Prop where
  s : LayS w V T bs ts W
  box : Boxe X x.k x.s x.n x.v W
  nv : ob V ≠ some X
  nt : ob T ≠ some X
section
variable {w : World} {X : Nat} {x : Ent} {V T v' : Value} {bs ts cs : List UInt8} {W W' : World}
theorem LayX.new (h : LayS w V T bs ts W) (x : Ent) (hW : W.alloc (.cells #[.string x.k, .int .u64 x.s, .int .i64 x.n, .string x.v] 48) = W') : LayX w W.heap.size x V T bs ts W' := by
  refine ⟨h.below (by rw [← hW]; exact (Below.refl _ _).alloc (Nat.le_refl _) _), by rw [← hW]; exact new_block _ _ rfl, fun e => ?_, fun e => ?_⟩
  · have := h.rv.lt _ e; omega
  · have := h.rt.lt _ e; omega
theorem LayX.below (h : LayX w X x V T bs ts W) (hb : Below W.heap.size W W') : LayX w X x V T bs ts W' := ⟨h.s.below hb, h.box.below hb, h.nv, h.nt⟩
theorem LayX.addV (h : LayX w X x V T bs ts W) (hr : Row W' 5 1 v' (bs.length + cs.length) (Lib.byteCells bs ++ Lib.byteCells cs)) (hg : W.grownBy W' (ob V)) (ho : ob v' = ob V ∨ ∃ g, ob v' = some g ∧ W.heap.size ≤ g) : LayX w X x v' T (bs ++ cs) ts W' := by
  refine ⟨h.s.addV hr hg ho, (hg.block X h.box.lt (fun e => h.nv e.symm)).trans h.box, fun e => ?_, h.nt⟩
  rcases ho with e1 | ⟨g, e1, hge⟩
  · exact h.nv (by rw [← e1]; exact e)
  · rw [e1] at e; cases e
    have := h.box.lt
    omega
theorem LayX.addT (h : LayX w X x V T bs ts W) (hr : Row W' 5 1 v' (ts.length + cs.length) (Lib.byteCells ts ++ Lib.byteCells cs)) (hg : W.grownBy W' (ob T)) (ho : ob v' = ob T ∨ ∃ g, ob v' = some g ∧ W.heap.size ≤ g) : LayX w X x V v' bs (ts ++ cs) W' := by
  refine ⟨h.s.addT hr hg ho, (hg.block X h.box.lt (fun e => h.nt e.symm)).trans h.box, h.nv, fun e => ?_⟩
  rcases ho with e1 | ⟨g, e1, hge⟩
  · exact h.nt (by rw [← e1]; exact e)
  · rw [e1] at e; cases e
    have := h.box.lt
    omega
end
/-- A row of bytes as what is appended. -/
theorem row_src {w : World} {v : Value} {l : List UInt8} (h : Row w 5 1 v l.length (Lib.byteCells l)) : Src Tryz.prog 1 78 v l.length (Lib.byteCells l) w := by
  have hone : ∀ u ∈ Lib.byteCells l, u.oneCell' = true := fun u hu => by
    obtain ⟨_, _, rfl⟩ := List.mem_map.1 hu
    rfl
  have hc := h.cell
  rcases h.2 with ⟨h0, rfl | ⟨b, o, rfl⟩⟩ | ⟨g, cap, cur, e, -⟩
  · have hl : l = [] := List.eq_nil_of_length_eq_zero h0
    subst hl
    exact Src.ofNil (P := Tryz.prog) w Tryz.underlying78 0
  · have hl : l = [] := List.eq_nil_of_length_eq_zero h0
    subst hl
    exact Src.ofSlice (P := Tryz.prog) w Tryz.underlying78 ⟨b, o, none⟩ 0 0 _ rfl (fun j u hu => by cases hu) hone
  · subst e
    refine Src.ofSlice (P := Tryz.prog) w Tryz.underlying78 ⟨g, 0, none⟩ l.length (cap + 1) _ (by simp [Lib.byteCells]) (fun j u hu => ?_) hone
    have := hc g 0 _ rfl j u hu
    rw [addrJ]
    rwa [Nat.zero_add] at this
theorem bodyP_len (es : List Ent) (hv : ∀ i, i < es.length → sizeE (entAt es i) ≤ 100000) (ho : ∀ i, i < es.length → (entAt es i).s.toNat < 18446744073709551616 ∧ (entAt es i).n.toNat < 18446744073709551616) : ∀ k, k ≤ es.length → (bodyB es k).length ≤ 60 * k + sizeEs (es.take k)
  | 0, _ => by simp [bodyB]
  | k + 1, h => by
    have ih := bodyP_len es hv ho k (by omega)
    have hk : k < es.length := by omega
    have h1 := sizeEs_take es k hk
    have h2 := hv k hk
    have h3 := entAt_get hk
    have h4 : shN es k ≤ 1000000 := by
      unfold shN
      split
      · omega
      · have := shr_le2 (entAt es (k - 1)).k.data.toList (entAt es k).k.data.toList
        rw [len_data'] at this
        unfold sizeE at h2
        omega
    have h5 := entB_len (shN es k) (entAt es k) (by omega) h4 (ho k hk).1 (ho k hk).2
    show (bodyB es k ++ entB (shN es k) (entAt es k)).length ≤ _
    rw [List.length_append, h1]
    rw [h3] at h5 ⊢
    omega
end Go.Proofs.YtmnboiikopkaoaaGreat

namespace Go.Proofs.YtmnboiikopkaoaaGreat
open Go.RowKit

set_option maxHeartbeats 8000000 in
set_option maxRecDepth 100000 in
theorem blay_any {w : World} (n0 : Nat) (hn0 : n0 ≤ w.heap.size) (a : Option Addr) (len cap : Nat) (es : List Ent) (hE : EntsAt n0 w a len es) (hlm : len ≤ 100000) (hok : ∀ x ∈ es, x.Ok) (hsz : sizeEs es ≤ 10000000) (ho : ordB es len = true) :
    Calls Tryz.prog 77 #[.slice a len cap] w fun e w' => e = .returned (.string ⟨(layB es).toArray⟩) ∧ Below w.heap.size w w' := by
  have hll : es.length = len := hE.1
  have HE := Lib.hid (hE.mono hn0)
  have HOK := Lib.hid hok
  have HORD := Lib.hid ho
  have HBLen := Lib.hid (bodyP_len es (fun i hi => by
    have h1 := valid_parts (ordB_at ho (show i < len by omega)).1
    unfold sizeE
    omega) (fun i hi => by
    have h1 := hok _ (List.getElem_mem hi)
    rw [entAt_get hi]
    unfold Ent.Ok at h1
    omega))
  have HSZ := Lib.hid (fun k => sizeEs_le es k)
  obtain ⟨i0, hi, hz0, hzs, hzb⟩ := info_parts infoByte
  clear ho hE hok
  go_enter Tryz.func77, Tryz.ntmps77
  go_wp2
  go_loopw [3, 4, 10] (fun bv tv iv wr => ∃ (i : Nat) (V T : Value), iv = .int .i64 (i : Int) ∧ V = bv ∧ T = tv ∧ i ≤ len ∧ LayS w V T (bodyB es i) (tailB es i) wr) (fun _ _ iv _ => len - (intOf iv).toNat)
  case atStart => exact ⟨0, _, _, rfl, rfl, rfl, Nat.zero_le _, ⟨row_nil _ _ _, row_nil _ _ _, by simp [ob], by simp [ob], by simp [ob], Below.refl _ _⟩⟩
  case round =>
    obtain ⟨i, V, T, rfl, rfl, rfl, hil, hlay⟩ := hrel
    have hbi := HBLen.out i (by omega)
    have hsi := HSZ.out i
    have hbLen : (bodyB es i).length ≤ 20000000 := by omega
    have htl := tailB_len es i
    have htLen : (tailB es i).length ≤ 400000 := by omega
    obtain ⟨av, cv, rfl, -, -⟩ := hlay.rv.le
    obtain ⟨ta, tc, rfl, -, -⟩ := hlay.rt.le
    by_cases hlt : i < len
    · obtain ⟨b, off, rfl, hblt, HCE⟩ : ∃ b off, a = some ⟨b, off, none⟩ ∧ b < w.heap.size ∧ ∀ i, i < len → ∃ x : Ent, es[i]? = some x ∧ ∀ j u, x.cells[j]? = some u → ∀ W, Below w.heap.size w W → W.cell? ⟨b, off + i * 4 + j, none⟩ = some u := by
        rcases HE.out.2 with h0 | ⟨b, off, e, h1, h2⟩
        · omega
        · exact ⟨b, off, e, h1, fun i hi => ⟨es[i]'(by omega), List.getElem?_eq_getElem (by omega), fun j u hu W hW => (hW.cell (p := ⟨b, off + i * 4 + j, none⟩) h1).trans (h2 i (by omega) j u hu)⟩⟩
      obtain ⟨⟨K, SQ, NN, U⟩, hg, hc⟩ := HCE i hlt
      have hgE : entAt es i = ⟨K, SQ, NN, U⟩ := by unfold entAt; rw [hg]; rfl
      have q0 : wr.cell? ⟨b, off + i * 4, none⟩ = some (.string K) := hc 0 _ rfl _ hlay.bel
      have q1 : wr.cell? ⟨b, off + i * 4 + 1, none⟩ = some (.int .u64 SQ) := hc 1 _ rfl _ hlay.bel
      have q2 : wr.cell? ⟨b, off + i * 4 + 2, none⟩ = some (.int .i64 NN) := hc 2 _ rfl _ hlay.bel
      have q3 : wr.cell? ⟨b, off + i * 4 + 3, none⟩ = some (.string U) := hc 3 _ rfl _ hlay.bel
      have hokx := HOK.out _ (List.mem_of_getElem? hg)
      have hvx := valid_parts (ordB_at HORD.out hlt).1
      rw [hgE] at hvx
      unfold Ent.Ok at hokx
      simp only at hokx hvx
      obtain ⟨sq, rfl⟩ : ∃ sq : Nat, SQ = (sq : Int) := ⟨SQ.toNat, by omega⟩
      obtain ⟨nn, rfl⟩ : ∃ nn : Nat, NN = (nn : Int) := ⟨NN.toNat, by omega⟩
      have hsq : sq < 18446744073709551616 := by omega
      have hnn2 : nn ≤ 2 := by omega
      have hilI : (i : Int) < (len : Int) := by omega
      obtain ⟨Bi, hBi⟩ : ∃ Bi, bodyB es i = Bi := ⟨_, rfl⟩
      obtain ⟨Ti, hTi⟩ : ∃ Ti, tailB es i = Ti := ⟨_, rfl⟩
      have HBN : Hid (bodyB es (i + 1) = Bi ++ entB (shN es i) ⟨K, (sq : Int), (nn : Int), U⟩) := by
        show bodyB es i ++ _ = _
        rw [hBi, hgE]
      have HTN : Hid (tailB es (i + 1) = if i % 4 = 0 then Ti ++ be Bi.length 4 else Ti) := by
        show (if i % 4 = 0 then tailB es i ++ be (bodyB es i).length 4 else tailB es i) = _
        rw [hBi, hTi]
      rw [hBi, hTi] at hlay
      rw [hBi] at hbLen
      rw [hTi] at htLen
      have HSH : Hid (i % 4 ≠ 0 → ∃ K0 : ByteArray, ∃ m, i = m + 1 ∧ K0.size ≤ 9223372036854775807 ∧ (∀ W, Below w.heap.size w W → W.cell? ⟨b, off + m * 4, none⟩ = some (.string K0)) ∧ shN es i = shr K0.data.toList K.data.toList) := fun h4 => by
        obtain ⟨m, hm⟩ : ∃ m, i = m + 1 := ⟨i - 1, by omega⟩
        obtain ⟨⟨K0, S0, N0, U0⟩, hg0, hc0⟩ := HCE m (by omega)
        have ho0 := HOK.out _ (List.mem_of_getElem? hg0)
        refine ⟨K0, m, hm, by have := ho0.1; unfold maxLen at this; simpa using this, fun W hW => hc0 0 _ rfl W hW, ?_⟩
        unfold shN
        rw [if_neg h4, hgE]
        have : entAt es (i - 1) = ⟨K0, S0, N0, U0⟩ := by unfold entAt; rw [show i - 1 = m by omega, hg0]; rfl
        rw [this]
      have hshK : shN es i ≤ K.size := by have := (shN_last es i).2.2; rw [hgE] at this; exact this
      have HS4 : Hid (i % 4 = 0 → shN es i = 0) := fun h => by unfold shN; rw [if_pos h]
      obtain ⟨SH, hSH⟩ : ∃ SH, shN es i = SH := ⟨_, rfl⟩
      rw [hSH] at HBN HSH hshK HS4
      obtain ⟨W, hW⟩ : ∃ W, wr.alloc (.cells #[.string K, .int .u64 (sq : Int), .int .i64 (nn : Int), .string U] 48) = W := ⟨_, rfl⟩
      have HX := Lib.hid (LayX.new hlay ⟨K, (sq : Int), (nn : Int), U⟩ hW)
      have CR := Lib.hid (fun W => isRestart_any i W (by omega))
      rw [hBi, hTi] 
      clear hlay HCE hc hg hgE hBi hTi hbi hsi htl hSH
      go_upto_if 16 with (go_at_call 111; (with_reducible refine (CR.out _).mono ?_); rintro _ w1 ⟨rfl, rfl⟩)
      generalize wr.heap.size = X at HX ⊢
      clear q0 q1 q2 q3 hW
      go_cut [4, 7] from 16 to 29 (fun v4 v7 wx => ∃ T' : Value, T' = v4 ∧ v7 = .int .i64 (SH : Int) ∧ LayX w X ⟨K, (sq : Int), (nn : Int), U⟩ (.slice av Bi.length cv) T' Bi (tailB es (i + 1)) wx)
      case first =>
        by_cases h4 : i % 4 = 0
        · have hS0 : SH = 0 := HS4.out h4
          have CP := Lib.hid (appendPlace_any (w := W) (.slice ta Ti.length tc) Ti.length Bi.length (Lib.byteCells Ti) HX.out.s.rt (by omega) (by omega))
          rw [decide_eq_true h4]
          have HT1 := Lib.hid (show tailB es (i + 1) = Ti ++ be Bi.length 4 by rw [HTN.out, if_pos h4])
          clear HTN HSH HBN h4
          go_wp2_with (go_at_call 112; (with_reducible refine CP.out.mono ?_); rintro _ w2 ⟨v2, rfl, r2, g2, o2⟩)
          go_meet
          refine ⟨v2, rfl, by rw [hS0]; rfl, ?_⟩
          rw [HT1.out]
          exact HX.out.addT (cs := be Bi.length 4) (by rw [be_length]; exact r2) g2 o2
        · obtain ⟨K0, m, hm, hK0, qm, hsh⟩ := HSH.out h4
          have C8 := Lib.hid (fun W => shared_any K0 K W hK0 (by omega))
          rw [← hsh] at C8
          have hmI : (i : Int) - 1 = (m : Int) := by omega
          have hmL : (m : Int) < (len : Int) := by omega
          have hwm : IntKind.i64.wrap (m : Int) = (m : Int) := by rw [IntKind.wrap_i64]; omega
          have p0 := qm W HX.out.s.bel
          have p1 : W.cell? ⟨X, 0, none⟩ = some (.string K) := HX.out.box.c0
          rw [decide_eq_false h4]
          have HT1 := Lib.hid (show tailB es (i + 1) = Ti by rw [HTN.out, if_neg h4])
          clear HTN HSH HBN h4 hm qm hsh
          go_wp2
          go_quiet ((go_at_call 113; with_reducible exact quietS (C8.out _)))
          go_wp2
          go_meet
          refine ⟨_, rfl, rfl, ?_⟩
          rw [HT1.out]
          exact HX.out.below (belowN (Below.refl _ _) _)
      case rest =>
        obtain ⟨T', rfl, rfl, hx2⟩ := hcut
        obtain ⟨Tn, hTn⟩ : ∃ Tn, tailB es (i + 1) = Tn := ⟨_, rfl⟩
        rw [hTn] at hx2
        have HTn := Lib.hid hTn
        obtain ⟨ta2, tc2, rfl, -, -⟩ := hx2.s.rt.le
        have HXC := Lib.hid hx2
        clear hTn hx2 HX CR HTN HSH HS4
        have hwS : IntKind.u64.wrap (SH : Int) = (SH : Int) := by rw [IntKind.wrap_u64]; omega
        have hwN : IntKind.u64.wrap (nn : Int) = (nn : Int) := by rw [IntKind.wrap_u64]; omega
        have hSK : (SH : Int) ≤ (K.size : Int) := by omega
        obtain ⟨K2, hK2⟩ : ∃ K2, K.extract SH K.size = K2 := ⟨_, rfl⟩
        have hK2d : K2.data.toList = K.data.toList.drop SH := by rw [← hK2, ext_from]
        have hK2s : K2.size = K.size - SH := by rw [← len_data', hK2d, List.length_drop, len_data']
        have C1 := Lib.hid (fun W => varP1 SH (by omega) W)
        have C2 := Lib.hid (fun W => textP1 K2 (by omega) W)
        have C3 := Lib.hid (fun W => varP2 sq nn hsq (by omega) W)
        have C4 := Lib.hid (fun W => textP1 U (by omega) W)
        have hu1 := uv_len SH (by omega)
        have hu2 := uv_len K2.size (by omega)
        have hu3 := vars_length [sq, nn] (fun z hz => by simp at hz; omega)
        have hu4 := uv_len U.size (by omega)
        obtain ⟨Z1, hZ1⟩ : ∃ Z : ByteArray, ⟨(Lib.uvarint SH).toArray⟩ = Z := ⟨_, rfl⟩
        obtain ⟨Z2, hZ2⟩ : ∃ Z : ByteArray, ⟨(Lib.uvarint K2.size ++ K2.data.toList).toArray⟩ = Z := ⟨_, rfl⟩
        obtain ⟨Z3, hZ3⟩ : ∃ Z : ByteArray, ⟨(vars [sq, nn]).toArray⟩ = Z := ⟨_, rfl⟩
        obtain ⟨Z4, hZ4⟩ : ∃ Z : ByteArray, ⟨(Lib.uvarint U.size ++ U.data.toList).toArray⟩ = Z := ⟨_, rfl⟩
        rw [hZ1] at C1
        rw [hZ2] at C2
        rw [hZ3] at C3
        rw [hZ4] at C4
        have hz1 : Z1.size ≤ 10 := by rw [← hZ1, str_size]; exact hu1
        have hz2 : Z2.size ≤ 400 := by rw [← hZ2, str_size, List.length_append, len_data']; omega
        have hz3 : Z3.size ≤ 30 := by rw [← hZ3, str_size]; simp only [List.length_cons, List.length_nil] at hu3; omega
        have hz4 : Z4.size ≤ 61000 := by rw [← hZ4, str_size, List.length_append, len_data']; omega
        have HEE := Lib.hid (show entB SH ⟨K, (sq : Int), (nn : Int), U⟩ = Z1.data.toList ++ Z2.data.toList ++ Z3.data.toList ++ Z4.data.toList by
          rw [entB_eq SH K sq nn U K2 hK2d hK2s, ← hZ1, ← hZ2, ← hZ3, ← hZ4])
        have HM1 := Lib.hid (show Bi.length + Z1.size ≤ maxLen by unfold maxLen; omega)
        have HN1 := Lib.hid (show (Bi.length + Z1.size) * 1 ≤ 140737488355328 by omega)
        clear hZ1 hZ2 hZ3 hZ4 hu1 hu2 hu3 hu4 hK2d hK2s
        go_upto_region 10 with (first | (go_at_call 38; (with_reducible refine (C1.out _).mono ?_); rintro _ wa1 ⟨rfl, ba1⟩; have xa1 := HXC.out.below ba1) | (at_builtin; refine wpList_append_row _ rfl _ _ 78 9 rfl 5 i0 _ 1 1 Tryz.underlying78 hi hz0 hzs hzb rfl (.slice av Bi.length cv) _ _ rfl xa1.s.rv _ rfl Z1.size _ (src_strB Z1 _) HM1.out HN1.out ?_; intro vb1 wb1 rb1 gb1 ob1) | fail)
        have xb1 := xa1.addV (cs := Z1.data.toList) (by rw [len_data']; exact rb1) gb1 (ob1.imp id (fun h => ⟨_, h.1, Nat.le_refl _⟩))
        obtain ⟨av1, cv1, hvv1, -, -⟩ := xb1.s.rv.le
        subst hvv1
        obtain ⟨B1, hB1⟩ : ∃ B1, Bi ++ Z1.data.toList = B1 := ⟨_, rfl⟩
        rw [hB1] at xb1 ⊢
        have hlB1 : B1.length ≤ 21000000 := by rw [← hB1, List.length_append, len_data']; omega
        have HBB1 := Lib.hid hB1
        have HXB1 := Lib.hid xb1
        clear rb1 gb1 ob1 xa1 ba1 hB1 xb1 HXC C1
        have HM2 := Lib.hid (show B1.length + Z2.size ≤ maxLen by unfold maxLen; omega)
        have HN2 := Lib.hid (show (B1.length + Z2.size) * 1 ≤ 140737488355328 by omega)
        have p0 : wb1.cell? ⟨X, 0, none⟩ = some (.string K) := HXB1.out.box.c0
        go_upto_region 11 with (first | (go_at_call 42; (with_reducible refine (C2.out _).mono ?_); rintro _ wa2 ⟨rfl, ba2⟩; have xa2 := HXB1.out.below ba2) | (at_builtin; refine wpList_append_row _ rfl _ _ 78 9 rfl 5 i0 _ 1 1 Tryz.underlying78 hi hz0 hzs hzb rfl (.slice av1 B1.length cv1) _ _ rfl xa2.s.rv _ rfl Z2.size _ (src_strB Z2 _) HM2.out HN2.out ?_; intro vb2 wb2 rb2 gb2 ob2) | fail)
        have xb2 := xa2.addV (cs := Z2.data.toList) (by rw [len_data']; exact rb2) gb2 (ob2.imp id (fun h => ⟨_, h.1, Nat.le_refl _⟩))
        obtain ⟨av2, cv2, hvv2, -, -⟩ := xb2.s.rv.le
        subst hvv2
        obtain ⟨B2, hB2⟩ : ∃ B2, B1 ++ Z2.data.toList = B2 := ⟨_, rfl⟩
        rw [hB2] at xb2 ⊢
        have hlB2 : B2.length ≤ 21100000 := by rw [← hB2, List.length_append, len_data']; omega
        have HBB2 := Lib.hid hB2
        have HXB2 := Lib.hid xb2
        clear rb2 gb2 ob2 xa2 ba2 hB2 xb2 HXB1 C2 p0
        have HM3 := Lib.hid (show B2.length + Z3.size ≤ maxLen by unfold maxLen; omega)
        have HN3 := Lib.hid (show (B2.length + Z3.size) * 1 ≤ 140737488355328 by omega)
        have p1 : wb2.cell? ⟨X, 1, none⟩ = some (.int .u64 (sq : Int)) := HXB2.out.box.c1
        have p2 : wb2.cell? ⟨X, 2, none⟩ = some (.int .i64 (nn : Int)) := HXB2.out.box.c2
        go_upto_region 12 with (first | (go_at_call 38; (with_reducible refine (C3.out _).mono ?_); rintro _ wa3 ⟨rfl, ba3⟩; have xa3 := HXB2.out.below ba3) | (at_builtin; refine wpList_append_row _ rfl _ _ 78 9 rfl 5 i0 _ 1 1 Tryz.underlying78 hi hz0 hzs hzb rfl (.slice av2 B2.length cv2) _ _ rfl xa3.s.rv _ rfl Z3.size _ (src_strB Z3 _) HM3.out HN3.out ?_; intro vb3 wb3 rb3 gb3 ob3) | fail)
        have xb3 := xa3.addV (cs := Z3.data.toList) (by rw [len_data']; exact rb3) gb3 (ob3.imp id (fun h => ⟨_, h.1, Nat.le_refl _⟩))
        obtain ⟨av3, cv3, hvv3, -, -⟩ := xb3.s.rv.le
        subst hvv3
        obtain ⟨B3, hB3⟩ : ∃ B3, B2 ++ Z3.data.toList = B3 := ⟨_, rfl⟩
        rw [hB3] at xb3 ⊢
        have hlB3 : B3.length ≤ 21200000 := by rw [← hB3, List.length_append, len_data']; omega
        have HBB3 := Lib.hid hB3
        have HXB3 := Lib.hid xb3
        clear rb3 gb3 ob3 xa3 ba3 hB3 xb3 HXB2 C3 p1 p2
        have HM4 := Lib.hid (show B3.length + Z4.size ≤ maxLen by unfold maxLen; omega)
        have HN4 := Lib.hid (show (B3.length + Z4.size) * 1 ≤ 140737488355328 by omega)
        have p3 : wb3.cell? ⟨X, 3, none⟩ = some (.string U) := HXB3.out.box.c3
        go_wp2_with (first | (go_at_call 42; (with_reducible refine (C4.out _).mono ?_); rintro _ wa4 ⟨rfl, ba4⟩; have xa4 := HXB3.out.below ba4) | (at_builtin; refine wpList_append_row _ rfl _ _ 78 9 rfl 5 i0 _ 1 1 Tryz.underlying78 hi hz0 hzs hzb rfl (.slice av3 B3.length cv3) _ _ rfl xa4.s.rv _ rfl Z4.size _ (src_strB Z4 _) HM4.out HN4.out ?_; intro vb4 wb4 rb4 gb4 ob4) | fail)
        have xb4 := xa4.addV (cs := Z4.data.toList) (by rw [len_data']; exact rb4) gb4 (ob4.imp id (fun h => ⟨_, h.1, Nat.le_refl _⟩))
        have HFIN := Lib.hid (show LayS w vb4 (.slice ta2 Tn.length tc2) (bodyB es (i + 1)) (tailB es (i + 1)) wb4 by
          rw [HBN.out, HEE.out, HTn.out]
          have e : Bi ++ (Z1.data.toList ++ Z2.data.toList ++ Z3.data.toList ++ Z4.data.toList) = B3 ++ Z4.data.toList := by
            rw [← HBB3.out, ← HBB2.out, ← HBB1.out]
            simp
          rw [e]
          exact xb4.s)
        clear rb4 gb4 ob4 xa4 ba4 xb4
        go_roundw
        all_goals first
          | exact ⟨i + 1, _, _, by go_num, rfl, rfl, by omega, HFIN.out⟩
          | (simp [intOf]; omega)
    · obtain rfl : i = len := by omega
      obtain ⟨Bi, hBi⟩ : ∃ Bi, bodyB es i = Bi := ⟨_, rfl⟩
      obtain ⟨Ti, hTi⟩ : ∃ Ti, tailB es i = Ti := ⟨_, rfl⟩
      have htc := tailB_cnt es i
      obtain ⟨cnt, hcnt⟩ : ∃ cnt, (i + 3) / 4 = cnt := ⟨_, rfl⟩
      have hcl : cnt < 4294967296 := by omega
      rw [hcnt] at htc
      have HL := Lib.hid (show layB es = Bi ++ Ti ++ be cnt 4 by unfold layB; rw [hll, hBi, hTi, hcnt])
      rw [hBi, hTi] at hlay ⊢
      rw [hBi] at hbLen
      rw [hTi] at htLen htc
      have hq : (Ti.length : Int) / 4 = (cnt : Int) := by omega
      have HS := Lib.hid (row_src hlay.rt)
      have HLAY := Lib.hid hlay
      have HM1 := Lib.hid (show Bi.length + Ti.length ≤ maxLen by unfold maxLen; omega)
      have HN1 := Lib.hid (show (Bi.length + Ti.length) * 1 ≤ 140737488355328 by omega)
      clear hlay hBi hTi hbi hsi htl htc hcnt
      go_upto_region 15 with (at_builtin; refine wpList_append_row _ rfl _ _ 78 78 rfl 5 i0 _ 1 1 Tryz.underlying78 hi hz0 hzs hzb rfl (.slice av Bi.length cv) _ _ rfl HLAY.out.rv _ rfl Ti.length _ HS.out HM1.out HN1.out ?_; intro vb wb rb gb hob)
      have xb := HLAY.out.addV (cs := Ti) rb gb (hob.imp id (fun h => ⟨_, h.1, Nat.le_refl _⟩))
      obtain ⟨av1, cv1, hvv, -, -⟩ := xb.rv.le
      subst hvv
      obtain ⟨B1, hB1⟩ : ∃ B1, Bi ++ Ti = B1 := ⟨_, rfl⟩
      rw [hB1] at xb ⊢
      rw [hB1] at HL
      have hlB1 : B1.length ≤ 21000000 := by rw [← hB1, List.length_append]; omega
      have HXB := Lib.hid xb
      have CP := Lib.hid (appendPlace_any (w := wb) (.slice av1 B1.length cv1) B1.length cnt (Lib.byteCells B1) xb.rv hcl (by omega))
      clear rb gb hob hB1 xb HS HLAY HM1 HN1
      go_upto_region 16 with (go_at_call 112; (with_reducible refine CP.out.mono ?_); rintro _ w2 ⟨v2, rfl, r2, g2, o2⟩)
      have x2 := HXB.out.addV (cs := be cnt 4) (by rw [be_length]; exact r2) g2 o2
      have hcv := conv_rowB x2.rv
      rw [← HL.out] at hcv
      have HB2 := Lib.hid x2.bel
      clear x2 r2 g2 o2 CP HXB
      go_wp2
      go_ret
      exact ⟨rfl, HB2.out⟩
end Go.Proofs.YtmnboiikopkaoaaGreat
