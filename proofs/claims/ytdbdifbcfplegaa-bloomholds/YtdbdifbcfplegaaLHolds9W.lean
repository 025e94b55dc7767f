/- Statement BloomHolds. -/
import Derived.Test.YtdbdifbcfplegaaG6
import Derived.Test.YtdbdifbcfplegaaGR
namespace Go.Proofs.Ytdbdifbcfplegaa
open Go.RowKit

set_option maxHeartbeats 4000000 in
set_option maxRecDepth 100000 in
theorem holds_bad (bits : Int) (p : Int) (a : Option Addr) (len cap : Nat) (ss : List ByteArray) (more : ByteArray) (hms : more.size ≤ maxLen) (w : World) (hI : IsRowS w a len ss) (hbad : bits < 1 ∨ 64 < bits ∨ p < 1 ∨ 20 < p) :
    Calls Try.prog 4 #[.int .i64 bits, .int .i64 p, .slice a len cap, .string more] w fun e w' => e = .returned (.bool true) ∧ Below w.heap.size w w' := by
  have CS := Lib.hid (short_any 200 6000 a len cap ss w (by omega) (by omega) (by omega) (by omega) hI)
  have CA := Lib.hid alive9_any
  have CM := Lib.hid (fun W : World => make_bad bits p a len cap W hbad)
  have HBD : Hid ((decide (bits < 1) || decide (64 < bits) || decide (p < 1) || decide (20 < p)) = true) := by
    show _ = _
    simp only [Bool.or_eq_true, decide_eq_true_eq]
    omega
  clear hbad
  unfold maxLen at hms
  go_enter Try.func4, Try.ntmps4
  go_wp2_with (fail)
  go_at_call 6
  refine CS.out.mono ?_
  rintro _ w1 ⟨⟨t, rfl, hfew⟩, b1⟩
  cases t with
  | false =>
    clear hfew
    go_wp2_with (go_at_call 7; refine (CA.out _).mono ?_; rintro _ w2 ⟨rfl, b2⟩)
    go_ret
    exact ⟨rfl, b1.trans (b2.mono b1.size)⟩
  | true =>
    clear hfew
    by_cases hm : 300 < more.size
    · have hd : decide (300 < (more.size : Int)) = true := decide_eq_true (by omega)
      go_wp2_with (go_at_call 7; refine (CA.out _).mono ?_; rintro _ w2 ⟨rfl, b2⟩)
      go_ret
      exact ⟨rfl, b1.trans (b2.mono b1.size)⟩
    · have hd : decide (300 < (more.size : Int)) = false := decide_eq_false (by omega)
      go_wp2_with (first | (go_at_call 7; refine (CA.out _).mono ?_; rintro _ w2 ⟨rfl, b2⟩) | (go_at_call 9; refine (CM.out _).mono ?_; rintro _ w3 ⟨rfl, rfl⟩))
      all_goals go_ret
      all_goals exact ⟨by first | rfl | exact congrArg (fun t => Ending.returned (Value.bool t)) HBD.out, b1.trans (b2.mono b1.size)⟩
set_option maxHeartbeats 4000000 in
set_option maxRecDepth 100000 in
theorem holds_good (bits p : Nat) (a : Option Addr) (len cap : Nat) (ss : List ByteArray) (more : ByteArray) (hms : more.size ≤ maxLen) (w : World) (hI : IsRowS w a len ss) (h1 : 1 ≤ bits) (h2 : bits ≤ 64) (h3 : 1 ≤ p) (h4 : p ≤ 20) :
    Calls Try.prog 4 #[.int .i64 bits, .int .i64 p, .slice a len cap, .string more] w fun e w' => e = .returned (.bool true) ∧ Below w.heap.size w w' := by
  have CS := Lib.hid (short_any 200 6000 a len cap ss w (by omega) (by omega) (by omega) (by omega) hI)
  have CA := Lib.hid alive9_any
  have hlen := hI.1
  unfold maxLen at hms
  go_enter Try.func4, Try.ntmps4
  go_wp2_with (fail)
  go_at_call 6
  refine CS.out.mono ?_
  rintro _ w1 ⟨⟨t, rfl, hfew⟩, b1⟩
  cases t with
  | false =>
    clear hfew hlen
    go_wp2_with (go_at_call 7; refine (CA.out _).mono ?_; rintro _ w2 ⟨rfl, b2⟩)
    go_ret
    exact ⟨rfl, b1.trans (b2.mono b1.size)⟩
  | true =>
    obtain ⟨hfew, htot⟩ := hfew rfl
    by_cases hm : 300 < more.size
    · have hd : decide (300 < (more.size : Int)) = true := decide_eq_true (by omega)
      clear hlen hfew htot
      go_wp2_with (go_at_call 7; refine (CA.out _).mono ?_; rintro _ w2 ⟨rfl, b2⟩)
      go_ret
      exact ⟨rfl, b1.trans (b2.mono b1.size)⟩
    · have hd : decide (300 < (more.size : Int)) = false := decide_eq_false (by omega)
      have hI1 := rowS_below hI b1
      have CM := Lib.hid (make_any bits p a len cap ss w1 h1 h2 h3 h4 (by omega) hI1)
      obtain ⟨f, hf⟩ : ∃ f : ByteArray, ⟨(mkB bits p ss).toArray⟩ = f := ⟨_, rfl⟩
      have hfd : f.data.toList = mkB bits p ss := by rw [← hf]
      have hfs : f.size ≤ 1000000 := by
        have hz : szB bits ss.length ≤ 1608 := by
          unfold szB
          have : bits * ss.length ≤ 64 * 200 := Nat.mul_le_mul h2 (by omega)
          omega
        rw [← hf, mkB_size]
        omega
      have HMI : Hid (∀ k (h : k < ss.length) (W : World), Calls Try.prog 13 #[.string f, .string ss[k]] W fun e w' => e = .returned (.bool true) ∧ Below W.heap.size W w') := fun k h W => by
        have hsz := hI.2.1 _ (List.getElem_mem h)
        unfold maxLen at hsz
        have := may_any f ss[k] W hfs (by omega)
        rw [hfd, mayB_in h3 h4 (List.getElem_mem h)] at this
        exact this
      have CV := Lib.hid (fun W : World => valid_any f W (by omega))
      rw [hfd, mkB_valid _ _ _ h3 h4] at CV
      have HMM : Hid (len = 0 → ∀ W : World, Calls Try.prog 13 #[.string f, .string more] W fun e w' => e = .returned (.bool false) ∧ Below W.heap.size W w') := fun h W => by
        have := may_any f more W hfs (by omega)
        have h0 : ss = [] := List.eq_nil_of_length_eq_zero (by omega)
        rw [hfd, h0, mayB_none h3 h4] at this
        exact this
      rw [hf] at CM
      have HIc := Lib.hid (fun h0 : 0 < len => rowS_cell hI1 h0)
      have hlen200 : len ≤ 200 := by omega
      have HL := Lib.hid hlen
      have HB1 := Lib.hid b1
      clear hf hfd hI hI1 hlen hfew htot b1
      go_wp2_with (go_at_call 9; refine CM.out.mono ?_; rintro _ w2 ⟨rfl, b2⟩)
      go_loopw [11] (fun i wr => ∃ k : Nat, k ≤ len ∧ i = .int .i64 k ∧ Below w1.heap.size w1 wr) (fun i _ => len - (intOf i).toNat)
      case atStart => exact ⟨0, Nat.zero_le _, rfl, b2⟩
      case round =>
        obtain ⟨k, hk, rfl, hB⟩ := hrel
        by_cases hlt : k < len
        · obtain ⟨b, off, rfl, hb, hc⟩ := HIc.out (by omega)
          have hkl : k < ss.length := by rw [HL.out]; exact hlt
          have hcx : wr.cell? ⟨b, off + k, none⟩ = some (.string ss[k]) := (hB.cell (p := ⟨b, off + k, none⟩) hb).trans (hc k hkl)
          have CX := Lib.hid (fun W : World => HMI.out k hkl W)
          generalize ss[k] = key at hcx CX
          clear hc hkl
          go_wp2_with (go_at_call 13; refine (CX.out _).mono ?_; rintro _ w3 ⟨rfl, b3⟩)
          go_roundw
          case rel => exact ⟨k + 1, by omega, by go_num, hB.trans (b3.mono hB.size)⟩
          case measure => simp [intOf]; omega
        · have hke : k = len := by omega
          subst hke
          by_cases h0 : k = 0
          · have CY := Lib.hid (HMM.out h0)
            clear HL HMM hlt
            subst h0
            go_wp2_with (first | (go_at_call 7; refine (CA.out _).mono ?_; rintro _ w4 ⟨rfl, b4⟩) | (go_at_call 15; refine (CV.out _).mono ?_; rintro _ w5 ⟨rfl, rfl⟩) | (go_at_call 13; refine (CY.out _).mono ?_; rintro _ w6 ⟨rfl, b6⟩))
            go_ret
            exact ⟨rfl, HB1.out.trans ((hB.trans ((b4.mono hB.size).trans (b6.mono (Nat.le_trans hB.size b4.size)))).mono HB1.out.size)⟩
          · have hd0 : decide (0 < (k : Int)) = true := decide_eq_true (by omega)
            have hd1 : decide (0 < k) = true := decide_eq_true (by omega)
            have hd2 : 0 < k := by omega
            clear HL
            go_wp2_with (first | (go_at_call 7; refine (CA.out _).mono ?_; rintro _ w4 ⟨rfl, b4⟩) | (go_at_call 15; refine (CV.out _).mono ?_; rintro _ w5 ⟨rfl, rfl⟩))
            go_ret
            exact ⟨rfl, HB1.out.trans ((hB.trans (b4.mono hB.size)).mono HB1.out.size)⟩
theorem bloomHolds_walk (bits : Int) (hb0 : -9223372036854775808 ≤ bits) (hb1 : bits ≤ 9223372036854775807) (p : Int) (hp0 : -9223372036854775808 ≤ p) (hp1 : p ≤ 9223372036854775807) (a : Option Addr) (len cap : Nat) (ss : List ByteArray) (more : ByteArray) (hms : more.size ≤ maxLen) (w : World) (hI : IsRowS w a len ss) :
    Calls Try.prog 4 #[.int .i64 bits, .int .i64 p, .slice a len cap, .string more] w fun e w' => e = .returned (.bool true) ∧ Below w.heap.size w w' := by
  by_cases h : bits < 1 ∨ 64 < bits ∨ p < 1 ∨ 20 < p
  · exact holds_bad bits p a len cap ss more hms w hI h
  · have := holds_good bits.toNat p.toNat a len cap ss more hms w hI (by omega) (by omega) (by omega) (by omega)
    rw [show ((bits.toNat : Nat) : Int) = bits by omega, show ((p.toNat : Nat) : Int) = p by omega] at this
    exact this
end Go.Proofs.Ytdbdifbcfplegaa
