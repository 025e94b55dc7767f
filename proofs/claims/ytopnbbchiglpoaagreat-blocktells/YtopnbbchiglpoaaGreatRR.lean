/- The document's own reader: its Fail, Var, Count, bytes, Text, Bool and End, of whatever bytes. -/
import Derived.Test.YtopnbbchiglpoaaGreatRP
namespace Go.Proofs.YtopnbbchiglpoaaGreat
open Go.RowKit

theorem rrfail_any (b : Nat) (s : ByteArray) (e2 : Int) (w : World) (h : IsRd w b s 0) :
    Calls Tryz.prog 115 #[.pointer (some ⟨b, 0, none⟩), .int .i64 e2] w fun x w' => (∃ v, x = .returned v) ∧ w.setCell ⟨b, 1, none⟩ (.int .i64 e2) = w' := by
  have h1 := h.c1
  have g1 := h.f1
  go_enter Tryz.func115, Tryz.ntmps115
  go_wp2
  go_end0
  exact ⟨⟨_, rfl⟩, rfl⟩
/-- One group more. -/
theorem grp_sum (acc k : Nat) (b : UInt8) (hk : k ≤ 9) (ha : acc < 2 ^ (7 * k)) (h9 : k = 9 → b.toNat ≤ 1) : acc + b.toNat % 128 * 2 ^ (7 * k) < 18446744073709551616 := by
  by_cases h : k = 9
  · subst h
    have := h9 rfl
    have : b.toNat % 128 * 2 ^ (7 * 9) ≤ 1 * 2 ^ 63 := Nat.mul_le_mul (by omega) (by decide)
    omega
  · have h2 : 2 ^ (7 * k) ≤ 2 ^ 56 := Nat.pow_le_pow_right (by omega) (by omega)
    have h3 : b.toNat % 128 * 2 ^ (7 * k) ≤ 127 * 2 ^ 56 := Nat.mul_le_mul (by omega) h2
    omega
theorem grp_lt (acc k : Nat) (b : UInt8) (ha : acc < 2 ^ (7 * k)) : acc + b.toNat % 128 * 2 ^ (7 * k) < 2 ^ (7 * (k + 1)) := by
  have e : 2 ^ (7 * (k + 1)) = 128 * 2 ^ (7 * k) := by rw [show 7 * (k + 1) = 7 + 7 * k by omega, Nat.pow_add]
  rw [e]
  have : b.toNat % 128 ≤ 127 := by omega
  have := Nat.mul_le_mul_right (2 ^ (7 * k)) this
  omega
set_option maxHeartbeats 4000000 in
set_option maxRecDepth 100000 in
theorem rrvar_any (b : Nat) (s : ByteArray) (w : World) (h : IsRd w b s 0) {v : Nat} {r : List UInt8} {e : Int} (hv : decV 0 0 s.data.toList = (v, r, e)) :
    Calls Tryz.prog 37 #[.pointer (some ⟨b, 0, none⟩)] w fun x w' => x = .returned (.int .u64 (v : Int)) ∧ w' = (if e = 0 then w.setCell ⟨b, 0, none⟩ (.string ⟨r.toArray⟩) else w.setCell ⟨b, 1, none⟩ (.int .i64 e)) := by
  have h0 := h.c0
  have h1 := h.c1
  have g0 := h.f0
  have FL := Lib.hid (fun e2 : Int => rrfail_any b s e2 w h)
  have HV := Lib.hid hv
  clear hv h
  go_enter Tryz.func37, Tryz.ntmps37
  go_wp2
  go_loop [3, 4, 5] (fun uv nv iv => ∃ (k acc un : Nat) (X U : Int), k ≤ s.size ∧ k ≤ 9 ∧ iv = .int .i64 k ∧ uv = .int .u64 X ∧ nv = .int .u64 U ∧ Hid (X = (acc : Int) ∧ U = (un : Int) ∧ un = 2 ^ (7 * k) ∧ acc < 2 ^ (7 * k) ∧ decV 0 0 s.data.toList = decV k acc (s.data.toList.drop k))) (fun _ _ iv => s.size - (intOf iv).toNat)
  case atStart => exact ⟨0, 0, 1, 0, 1, Nat.zero_le _, by omega, rfl, rfl, rfl, rfl, rfl, by decide, by decide, rfl⟩
  case round =>
    obtain ⟨k, acc, un, X, U, hk, hk9, rfl, rfl, rfl, HX⟩ := hrel
    by_cases hlt : k < s.size
    · have HD := Lib.hid (drop_cons s k hlt)
      have HS := Lib.hid (drop_str s (k + 1))
      have hkI : decide ((s.size : Int) ≤ (k : Int)) = false := decide_eq_false (by omega)
      have hkN : decide (s.size ≤ k) = false := decide_eq_false (by omega)
      obtain ⟨c, hc⟩ : ∃ c, s[k] = c := ⟨_, rfl⟩
      have hcl := c.toNat_lt
      rw [hc] at HD
      obtain ⟨HX1, HX2, HX3, HX4, HX5⟩ := HX.out
      have hun : un ≤ 9223372036854775808 := by rw [HX3]; exact Nat.pow_le_pow_right (n := 2) (j := 63) (by omega) (by omega)
      have hacc : acc < 9223372036854775808 := Nat.lt_of_lt_of_le HX4 (Nat.pow_le_pow_right (n := 2) (j := 63) (by omega) (by omega))
      subst HX1 HX2
      have HE : Hid (un = 2 ^ (7 * k) ∧ acc < 2 ^ (7 * k) ∧ decV 0 0 s.data.toList = decV k acc (s.data.toList.drop k)) := ⟨HX3, HX4, HX5⟩
      clear HX HX3 HX4 HX5
      obtain ⟨cm, hcm⟩ : ∃ cm, c.toNat % 128 = cm := ⟨_, rfl⟩
      have hcm1 : (c.toNat : Int) % 128 = (cm : Int) := by omega
      have hcm2 : (c.toNat : Int).tmod 128 = (cm : Int) := by rw [Int.tmod_eq_emod_of_nonneg (by omega)]; omega
      have hcm3 : IntKind.u64.wrap (cm : Int) = (cm : Int) := by rw [IntKind.wrap_u64]; omega
      have hcm4 : IntKind.u8.wrap (cm : Int) = (cm : Int) := by rw [IntKind.wrap_u8]; omega
      by_cases hbad : k = 9 ∧ 1 < c.toNat
      · have hv4 : decV 0 0 s.data.toList = (0, [], 4) := by
          rw [HE.out.2.2, HD.out]
          exact decV_bad _ _ _ _ (.inl hbad)
        rw [HV.out] at hv4
        obtain ⟨rfl, rfl, rfl⟩ : v = 0 ∧ r = [] ∧ e = 4 := by simpa using hv4
        have d1 : ((k : Int) == 9) = true := by rw [beq_iff_eq]; omega
        have d2 : decide (1 < (c.toNat : Int)) = true := decide_eq_true (by omega)
        clear HE HD HS hv4 HV hbad
        go_wp2_with (go_at_call 115; refine (FL.out _).mono ?_; rintro _ w1 ⟨⟨x, rfl⟩, rfl⟩)
        go_ret
        exact ⟨rfl, rfl⟩
      · obtain ⟨P, hP⟩ : ∃ P, cm * un = P := ⟨_, rfl⟩
        have hsum : acc + P < 18446744073709551616 := by
          rw [← hP, ← hcm, HE.out.1]
          exact grp_sum acc k c hk9 HE.out.2.1 (by omega)
        have hmi : (cm : Int) * (un : Int) = (P : Int) := by rw [← hP]; simp
        have hs3 : (acc : Int) + (P : Int) < 18446744073709551616 := by omega
        have hP3 : (P : Int) < 18446744073709551616 := by omega
        have HQ : Hid (acc + P = acc + c.toNat % 128 * 2 ^ (7 * k)) := by show _ = _; rw [← hP, ← hcm, HE.out.1]
        have HLT : Hid (acc + P < 2 ^ (7 * (k + 1))) := by show _ < _; rw [HQ.out]; exact grp_lt acc k c HE.out.2.1
        have HU : Hid (un * 128 = 2 ^ (7 * (k + 1))) := by show _ = _; rw [HE.out.1, show 7 * (k + 1) = 7 * k + 7 by omega, Nat.pow_add]
        clear hP
        by_cases hz : 0 < k ∧ c.toNat = 0
        · have hv4 : decV 0 0 s.data.toList = (0, [], 4) := by
            rw [HE.out.2.2, HD.out]
            exact decV_bad _ _ _ _ (.inr hz)
          rw [HV.out] at hv4
          obtain ⟨rfl, rfl, rfl⟩ : v = 0 ∧ r = [] ∧ e = 4 := by simpa using hv4
          have hk0 : 0 < k := hz.1
          have d3 : decide (0 < (k : Int)) = true := decide_eq_true (by omega)
          have hc0 : c = 0 := UInt8.toNat_inj.1 (by rw [hz.2]; rfl)
          clear HE HD HS hv4 HV hz HQ HLT HU hbad hsum hmi hs3 hP3 hcm hcm1 hcm2 hcm3 hcm4 hcl
          subst hc0
          by_cases h9 : k = 9
          · have d1 : ((k : Int) == 9) = true := by rw [beq_iff_eq]; omega
            clear h9
            go_wp2_with (go_at_call 115; refine (FL.out _).mono ?_; rintro _ w1 ⟨⟨x, rfl⟩, rfl⟩)
            go_ret
            exact ⟨rfl, rfl⟩
          · have d1 : ((k : Int) == 9) = false := by rw [beq_eq_false_iff_ne]; omega
            go_wp2_with (go_at_call 115; refine (FL.out _).mono ?_; rintro _ w1 ⟨⟨x, rfl⟩, rfl⟩)
            go_ret
            exact ⟨rfl, rfl⟩
        · by_cases hc128 : c.toNat < 128
          · have hv0 : decV 0 0 s.data.toList = (acc + c.toNat * 2 ^ (7 * k), s.data.toList.drop (k + 1), 0) := by
              rw [HE.out.2.2, HD.out]
              exact decV_last _ _ _ _ (by omega) hc128
            rw [HV.out] at hv0
            have hmod : c.toNat % 128 = c.toNat := Nat.mod_eq_of_lt hc128
            rw [← hmod, ← HQ.out] at hv0
            have hv1 : v = acc + P ∧ r = s.data.toList.drop (k + 1) ∧ e = 0 := by simpa using hv0
            obtain ⟨rfl, rfl, rfl⟩ := hv1
            have d0 : decide (128 ≤ (c.toNat : Int)) = false := decide_eq_false (by omega)
            clear hv0 hmod HE HD HV HQ HLT HU
            by_cases h9 : k = 9
            · have d1 : ((k : Int) == 9) = true := by rw [beq_iff_eq]; omega
              have d2 : decide (1 < (c.toNat : Int)) = false := decide_eq_false (by omega)
              have d3 : decide (0 < (k : Int)) = true := decide_eq_true (by omega)
              have d4 : ((c.toNat : Int) == 0) = false := by rw [beq_eq_false_iff_ne]; omega
              have hk0 : 0 < k := by omega
              clear h9 hz hbad
              go_wp2
              go_ret
              exact ⟨rfl, by rw [HS.out]⟩
            · have d1 : ((k : Int) == 9) = false := by rw [beq_eq_false_iff_ne]; omega
              clear hbad
              by_cases hk0 : 0 < k
              · have d3 : decide (0 < (k : Int)) = true := decide_eq_true (by omega)
                have d4 : ((c.toNat : Int) == 0) = false := by rw [beq_eq_false_iff_ne]; omega
                clear hz
                go_wp2
                go_ret
                exact ⟨rfl, by rw [HS.out]⟩
              · have d3 : decide (0 < (k : Int)) = false := decide_eq_false (by omega)
                have d5 : decide (0 < k) = false := decide_eq_false (by omega)
                clear hz
                go_wp2
                go_ret
                exact ⟨rfl, by rw [HS.out]⟩
          · have hd : decV 0 0 s.data.toList = decV (k + 1) (acc + P) (s.data.toList.drop (k + 1)) := by
              rw [HE.out.2.2, HD.out, decV_on _ _ _ _ (by omega) hc128, HQ.out]
            have HDD := Lib.hid hd
            have d0 : decide (128 ≤ (c.toNat : Int)) = true := decide_eq_true (by omega)
            have d1 : ((k : Int) == 9) = false := by rw [beq_eq_false_iff_ne]; omega
            have hun2 : un ≤ 72057594037927936 := by rw [HE.out.1]; exact Nat.pow_le_pow_right (n := 2) (j := 56) (by omega) (by omega)
            have hu3 : (un : Int) * 128 < 18446744073709551616 := by omega
            have hk8 : k ≤ 8 := by omega
            clear hd HE HD HV HQ hz hbad
            go_wp2
            go_round
            case rel => exact ⟨k + 1, acc + P, un * 128, _, _, by omega, by omega, by go_num, rfl, rfl, by simp, by simp, HU.out, HLT.out, HDD.out⟩
            case measure => simp [intOf]; omega
    · have hke : k = s.size := by omega
      have hv5 : decV 0 0 s.data.toList = (0, [], 5) := by
        rw [HX.out.2.2.2.2, List.drop_of_length_le (by rw [Array.length_toList]; show s.size ≤ k; omega)]
        rfl
      rw [HV.out] at hv5
      obtain ⟨rfl, rfl, rfl⟩ : v = 0 ∧ r = [] ∧ e = 5 := by simpa using hv5
      have hkI : decide ((s.size : Int) ≤ (k : Int)) = true := decide_eq_true (by omega)
      have hkN : decide (s.size ≤ k) = true := decide_eq_true (by omega)
      clear HV hv5 HX hke
      go_wp2_with (go_at_call 115; refine (FL.out _).mono ?_; rintro _ w1 ⟨⟨x, rfl⟩, rfl⟩)
      go_ret
      exact ⟨rfl, rfl⟩
end Go.Proofs.YtopnbbchiglpoaaGreat
