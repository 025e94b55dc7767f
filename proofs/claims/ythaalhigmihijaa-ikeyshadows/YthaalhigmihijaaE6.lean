/- ikey's below: how many of rising numbers are below one. -/
import Derived.Test.YthaalhigmihijaaE4
namespace Go.Proofs.Ythaalhigmihijaa
open Go.RowKit

def cnt (ys : List Int) (x : Int) : Nat := ys.countP fun y => decide (y < x)
theorem cnt_perm {ys zs : List Int} (h : ys.Perm zs) (x : Int) : cnt ys x = cnt zs x := h.countP_eq _
theorem cnt_le (ys : List Int) (x : Int) : cnt ys x ≤ ys.length := List.countP_le_length
theorem cnt_cut (ys : List Int) (x : Int) (i : Nat) (hi : i ≤ ys.length) (h1 : ∀ k (h : k < ys.length), k < i → ys[k] < x) (h2 : ∀ k (h : k < ys.length), i ≤ k → x ≤ ys[k]) : cnt ys x = i := by
  unfold cnt
  rw [← List.take_append_drop i ys, List.countP_append]
  have e1 : (ys.take i).countP (fun y => decide (y < x)) = i := by
    rw [List.countP_eq_length.2, List.length_take]
    · omega
    · intro y hy
      obtain ⟨k, hk, rfl⟩ := List.mem_iff_getElem.1 hy
      rw [List.length_take] at hk
      rw [List.getElem_take]
      exact decide_eq_true (h1 k (by omega) (by omega))
  have e2 : (ys.drop i).countP (fun y => decide (y < x)) = 0 := by
    rw [List.countP_eq_zero]
    intro y hy
    obtain ⟨k, hk, rfl⟩ := List.mem_iff_getElem.1 hy
    rw [List.length_drop] at hk
    rw [List.getElem_drop]
    have := h2 (i + k) (by omega) (by omega)
    simp
    omega
  omega
set_option maxHeartbeats 1000000 in
theorem lessU_any (x y : Int) (w : World) : Calls Try.prog 65 #[.int .u64 x, .int .u64 y] w fun e w' => e = .returned (.bool (decide (x < y))) ∧ w = w' := by
  cases h : decide (x < y) <;> (go_enter Try.func65, Try.ntmps65; go_wp2; go_ret; exact ⟨rfl, rfl⟩)
theorem half (i j : Nat) (h : i < j) (hj : j ≤ 1000000) : IntKind.i64.wrap (IntKind.u64.wrap ((i : Int) + (j : Int)) / 2) = (((i + j) / 2 : Nat) : Int) := by
  rw [IntKind.wrap_u64, IntKind.wrap_i64]
  omega
set_option maxHeartbeats 4000000 in
set_option maxRecDepth 100000 in
theorem bs_any (a : Option Addr) (len cap : Nat) (ys : List Int) (x : Int) (n₀ : Nat) (w : World) (hl : len ≤ 1000000) (hI : NumsAt n₀ w a len ys) (hs : ys.Pairwise (· ≤ ·)) :
    Calls Try.prog 58 #[.slice a len cap, .int .u64 x] w fun e w' => ∃ t : Bool, e = .returned (.tuple #[.int .i64 (cnt ys x : Nat), .bool t]) ∧ w = w' := by
  have hyl := hI.1
  have CL := Lib.hid (fun y w => lessU_any y x w)
  have HI := Lib.hid hI
  have HS := Lib.hid hs
  clear hI hs
  go_enter Try.func58, Try.ntmps58
  go_wp2
  go_loopw [7, 8] (fun iv jv wr => ∃ i j : Nat, iv = .int .i64 (i : Int) ∧ jv = .int .i64 (j : Int) ∧ i ≤ j ∧ j ≤ len ∧ (∀ k (h : k < ys.length), k < i → ys[k] < x) ∧ (∀ k (h : k < ys.length), j ≤ k → x ≤ ys[k]) ∧ wr = w) (fun iv jv _ => (intOf jv).toNat - (intOf iv).toNat)
  case atStart => exact ⟨0, len, rfl, rfl, Nat.zero_le _, Nat.le_refl _, fun k _ h => by omega, fun k h1 h2 => by omega, rfl⟩
  case round =>
    obtain ⟨i, j, rfl, rfl, hij, hjl, h1, h2, rfl⟩ := hrel
    have H1 := Lib.hid h1
    have H2 := Lib.hid h2
    clear h1 h2
    by_cases hlt : i < j
    · have hm := half i j hlt (by omega)
      obtain ⟨m, hme⟩ : ∃ m, (i + j) / 2 = m := ⟨_, rfl⟩
      rw [hme] at hm
      have m1 : i ≤ m := by omega
      have m2 : m < j := by omega
      obtain ⟨b, off, rfl, hc⟩ : ∃ b off, a = some ⟨b, off, none⟩ ∧ wr.cell? ⟨b, off + m, none⟩ = some (.int .u64 (ys[m]'(by omega))) := by
        rcases HI.out.2 with h0 | ⟨b, off, e, -, hc⟩
        · omega
        · exact ⟨b, off, e, hc m (by omega)⟩
      obtain ⟨y, hy⟩ : ∃ y, ys[m]'(by omega) = y := ⟨_, rfl⟩
      rw [hy] at hc
      have hil : (i : Int) < (j : Int) := by omega
      have hml : (m : Int) < (len : Int) := by omega
      have hP := HS.out
      rw [List.pairwise_iff_getElem] at hP
      have HP := Lib.hid hP
      clear hP
      cases hd : decide (y < x) with
      | true =>
        have cl := CL.out y
        rw [hd] at cl
        have CL1 := Lib.hid cl
        go_wp2_with (first | (go_at_call 65; refine (CL1.out _).mono ?_; rintro e w1 ⟨rfl, rfl⟩) | fail)
        go_roundw
        case rel => exact ⟨m + 1, j, by go_num, rfl, by omega, hjl, fun k h hk => by
          have hyx : y < x := of_decide_eq_true hd
          rcases Nat.lt_or_ge k m with hkm | hkm
          · have := HP.out k m h (by omega) hkm
            omega
          · obtain rfl : k = m := by omega
            omega, H2.out, (by first | rfl | trivial)⟩
        case measure => simp [intOf]; omega
      | false =>
        have cl := CL.out y
        rw [hd] at cl
        have CL1 := Lib.hid cl
        go_wp2_with (first | (go_at_call 65; refine (CL1.out _).mono ?_; rintro e w1 ⟨rfl, rfl⟩) | fail)
        go_roundw
        case rel => exact ⟨i, m, rfl, (by first | rfl | (congr 1; omega)), by omega, by omega, H1.out, fun k h hk => by
          have hyx : ¬ y < x := of_decide_eq_false hd
          rcases Nat.lt_or_ge m k with hkm | hkm
          · have := HP.out m k (by omega) h hkm
            omega
          · obtain rfl : k = m := by omega
            omega, (by first | rfl | trivial)⟩
        case measure => simp [intOf]; omega
    · obtain rfl : i = j := by omega
      have hcnt := cnt_cut ys x i (by omega) H1.out H2.out
      by_cases hlen : i < len
      · obtain ⟨b, off, rfl, hc⟩ : ∃ b off, a = some ⟨b, off, none⟩ ∧ wr.cell? ⟨b, off + i, none⟩ = some (.int .u64 (ys[i]'(by omega))) := by
          rcases HI.out.2 with h0 | ⟨b, off, e, -, hc⟩
          · omega
          · exact ⟨b, off, e, hc i (by omega)⟩
        generalize ys[i]'(by omega) = y at hc
        have hil : (i : Int) < (len : Int) := by omega
        cases hd : (y == x) with
        | true =>
          go_wp2
          refine bodyPost_ret (results_tmp2 rfl _ _ _) rfl ?_
          exact ⟨_, by rw [hcnt]; rfl, rfl⟩
        | false =>
          go_wp2
          refine bodyPost_ret (results_tmp2 rfl _ _ _) rfl ?_
          exact ⟨_, by rw [hcnt]; rfl, rfl⟩
      · obtain rfl : i = len := by omega
        go_wp2
        refine bodyPost_ret (results_tmp2 rfl _ _ _) rfl ?_
        exact ⟨_, by rw [hcnt]; rfl, rfl⟩
set_option maxHeartbeats 1000000 in
theorem below_any (a : Option Addr) (len cap : Nat) (ys : List Int) (x : Int) (n₀ : Nat) (w : World) (hl : len ≤ 1000000) (hI : NumsAt n₀ w a len ys) (hs : ys.Pairwise (· ≤ ·)) :
    Calls Try.prog 47 #[.slice a len cap, .int .u64 x] w fun e w' => e = .returned (.int .i64 (cnt ys x : Nat)) ∧ w = w' := by
  have C := Lib.hid (bs_any a len cap ys x n₀ w hl hI hs)
  go_enter Try.func47, Try.ntmps47
  go_wp2_with (go_at_call 58; refine C.out.mono ?_; rintro e w1 ⟨t, rfl, rfl⟩)
  go_ret
  exact ⟨rfl, rfl⟩
end Go.Proofs.Ythaalhigmihijaa
