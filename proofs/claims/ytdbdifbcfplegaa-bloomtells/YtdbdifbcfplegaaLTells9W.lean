/- Statement BloomTells. -/
import Derived.Test.YtdbdifbcfplegaaG6
import Derived.Test.YtdbdifbcfplegaaG8
import Derived.Test.YtdbdifbcfplegaaGR
import Derived.Test.YtdbdifbcfplegaaGL
namespace Go.Proofs.Ytdbdifbcfplegaa
open Go.RowKit

theorem lent_below {B : Nat} {w w' : World} {v : Value} {zs : List ByteArray} (h : LentS B w v zs) (hb : Below w.heap.size w w') : LentS B w' v zs := by
  obtain ⟨g, cap, rfl, hown⟩ := h
  exact ⟨g, cap, rfl, World.ownsRow.kept (row := none) hown ⟨hb.os, hb.tape, hb.output, hb.size, fun k hk _ => hb.block k hk⟩ (Classical.em _)⟩
theorem lent_row {B : Nat} {w : World} {v : Value} {zs : List ByteArray} (h : LentS B w v zs) (hz : ∀ s ∈ zs, s.size ≤ maxLen) : ∃ g cap, v = .slice (some ⟨g, 0, none⟩) zs.length cap ∧ IsRowS w (some ⟨g, 0, none⟩) zs.length zs := by
  obtain ⟨g, cap, rfl, hown⟩ := h
  refine ⟨g, cap, rfl, rfl, hz, .inr ⟨g, 0, rfl, (hown.lt g rfl).2, fun i hi => ?_⟩⟩
  rw [Nat.zero_add, hown.cellAt i (by omega)]
  exact cellsS_get zs i hi
theorem makes_same (bits p : Int) (ss : List ByteArray) (hn : ss.length ≤ 200) : ∃ (R : ByteArray) (E : Int), R.size ≤ 1000000 ∧
    (∀ (W : World) (a : Option Addr) (len cap : Nat), IsRowS W a len ss → Calls Try.prog 9 #[.int .i64 bits, .int .i64 p, .slice a len cap] W fun e w' => e = .returned (.tuple #[.string R, .int .i64 E]) ∧ Below W.heap.size W w') ∧
    (∀ (W : World) (a : Option Addr) (len cap : Nat), IsRowS W a len ss → Calls Try.prog 10 #[.int .i64 bits, .int .i64 p, .slice a len cap] W fun e w' => e = .returned (.tuple #[.string R, .int .i64 E]) ∧ Below W.heap.size W w') := by
  by_cases h : bits < 1 ∨ 64 < bits ∨ p < 1 ∨ 20 < p
  · refine ⟨⟨#[]⟩, 1, by decide, fun W a len cap _ => ?_, fun W a len cap _ => ?_⟩
    · exact (make_bad bits p a len cap W h).mono fun e w' ⟨h1, h2⟩ => ⟨h1, by rw [h2]; exact Below.refl _ _⟩
    · exact (rmake_bad bits p a len cap W h).mono fun e w' ⟨h1, h2⟩ => ⟨h1, by rw [h2]; exact Below.refl _ _⟩
  · have eb : ((bits.toNat : Nat) : Int) = bits := by omega
    have ep : ((p.toNat : Nat) : Int) = p := by omega
    refine ⟨⟨(mkB bits.toNat p.toNat ss).toArray⟩, 0, ?_, fun W a len cap hI => ?_, fun W a len cap hI => ?_⟩
    · rw [mkB_size]
      unfold szB
      have : bits.toNat * ss.length ≤ 64 * 200 := Nat.mul_le_mul (by omega) hn
      omega
    · have := make_any bits.toNat p.toNat a len cap ss W (by omega) (by omega) (by omega) (by omega) (by omega) hI
      rw [eb, ep] at this
      exact this
    · have := rmake_any bits.toNat p.toNat a len cap ss W (by omega) (by omega) (by omega) (by omega) (by omega) hI
      rw [eb, ep] at this
      exact this
set_option maxHeartbeats 4000000 in
set_option maxRecDepth 100000 in
theorem bloomTells_walk (bits : Int) (_hb0 : -9223372036854775808 ≤ bits) (_hb1 : bits ≤ 9223372036854775807) (p : Int) (_hp0 : -9223372036854775808 ≤ p) (_hp1 : p ≤ 9223372036854775807) (a : Option Addr) (len cap : Nat) (ss : List ByteArray) (f : ByteArray) (hfs : f.size ≤ maxLen) (key : ByteArray) (hks : key.size ≤ maxLen) (seed : Nat) (hseed : seed < 4294967296) (w : World) (hI : IsRowS w a len ss) (hnil : a = none → cap = 0) :
    Calls Try.prog 3 #[.int .i64 bits, .int .i64 p, .slice a len cap, .string f, .string key, .int .u32 (seed : Int)] w fun e w' => e = .returned (.bool true) ∧ Below w.heap.size w w' := by
  have CS := Lib.hid (short_any 200 6000 a len cap ss w (by omega) (by omega) (by omega) (by omega) hI)
  have CA := Lib.hid alive9_any
  unfold maxLen at hfs hks
  go_enter Try.func3, Try.ntmps3
  go_wp2_with (fail)
  go_at_call 6
  refine CS.out.mono ?_
  rintro _ w1 ⟨⟨t, rfl, hfew⟩, b1⟩
  cases t with
  | false =>
    clear hfew
    go_wp2_with (go_at_call 7; refine (CA.out _).mono ?_; rintro _ w2 ⟨rfl, b2⟩)
    go_ret
    exact ⟨rfl, b1.trans (b2.mono b1.size)⟩
  | true =>
    obtain ⟨hfew, htot⟩ := hfew rfl
    by_cases hm : 3000 < f.size
    · have hd : decide (3000 < (f.size : Int)) = true := decide_eq_true (by omega)
      clear hfew htot
      go_wp2_with (go_at_call 7; refine (CA.out _).mono ?_; rintro _ w2 ⟨rfl, b2⟩)
      go_ret
      exact ⟨rfl, b1.trans (b2.mono b1.size)⟩
    have hd : decide (3000 < (f.size : Int)) = false := decide_eq_false (by omega)
    by_cases hm2 : 3000 < key.size
    · have hd2 : decide (3000 < (key.size : Int)) = true := decide_eq_true (by omega)
      clear hfew htot
      go_wp2_with (go_at_call 7; refine (CA.out _).mono ?_; rintro _ w2 ⟨rfl, b2⟩)
      go_ret
      exact ⟨rfl, b1.trans (b2.mono b1.size)⟩
    have hd2 : decide (3000 < (key.size : Int)) = false := decide_eq_false (by omega)
    have hI1 := rowS_below hI b1
    have CL := Lib.hid (lentS_row a len cap ss w1 hI1 hnil (by rw [← hI1.1]; omega))
    obtain ⟨R, E, hRs, hMk, hRk⟩ := makes_same bits p ss (by omega)
    have MK := Lib.hid hMk
    have RK := Lib.hid hRk
    have HI := Lib.hid hI1
    have HB1 := Lib.hid b1
    have Hh := Lib.hid (fun W : World => hash_any key seed W (by omega) hseed)
    have Rh := Lib.hid (fun W : World => rhash_any key seed W (by omega) hseed)
    have Mf := Lib.hid (fun W : World => may_any f key W (by omega) (by omega))
    have Rf := Lib.hid (fun W : World => rmay_any f key W (by omega) (by omega))
    have Mr := Lib.hid (fun W : World => may_any R key W (by omega) (by omega))
    have Rr := Lib.hid (fun W : World => rmay_any R key W (by omega) (by omega))
    have Vf := Lib.hid (fun W : World => valid_any f W (by omega))
    have Rv := Lib.hid (fun W : World => rvalid_any f W (by omega))
    have hlen200 : len ≤ 200 := by have := hI1.1; omega
    generalize hashN key.data.toList seed = hh at Hh Rh
    generalize mayB f.data.toList key.data.toList = mf at Mf Rf
    generalize mayB R.data.toList key.data.toList = mr at Mr Rr
    generalize validB f.data.toList = vf at Vf Rv
    clear hI hI1 b1 hMk hRk hfew htot
    go_wp2_with (fail)
    go_at_call 8
    refine CL.out.mono ?_
    rintro _ w2 ⟨⟨v, rfl, hlent⟩, b2⟩
    have HI2 := Lib.hid (rowS_below HI.out b2)
    have HL2 := Lib.hid hlent
    have HB2 := Lib.hid (HB1.out.trans (b2.mono HB1.out.size))
    obtain ⟨g, capv, rfl, hrowv⟩ := lent_row hlent HI.out.2.1
    have CM := Lib.hid (MK.out w2 _ _ capv hrowv)
    clear CL hlent b2 HB1 HI hrowv MK
    go_wp2_with (fail)
    go_at_call 9
    refine CM.out.mono ?_
    rintro _ w3 ⟨rfl, b3⟩
    have HI3 := Lib.hid (rowS_below HI2.out b3)
    have HL3 := Lib.hid (lent_below HL2.out b3)
    have HB3 := Lib.hid (HB2.out.trans (b3.mono HB2.out.size))
    have CM2 := Lib.hid (RK.out w3 _ _ cap HI3.out)
    clear CM b3 HI2 HL2 HB2 RK
    go_wp2_with (fail)
    go_at_call 10
    refine CM2.out.mono ?_
    rintro _ w4 ⟨rfl, b4⟩
    have HI4 := Lib.hid (rowS_below HI3.out b4)
    have HL4 := Lib.hid (lent_below HL3.out b4)
    have HB4 := Lib.hid (HB3.out.trans (b4.mono HB3.out.size))
    clear CM2 b4 HI3 HL3 HB3
    go_wp2_with (first
      | (go_at_call 7; refine (CA.out _).mono ?_; rintro _ w5 ⟨rfl, b5⟩)
      | (go_at_call 11; refine (Hh.out _).mono ?_; rintro _ wh ⟨rfl, rfl⟩)
      | (go_at_call 12; refine (Rh.out _).mono ?_; rintro _ wh ⟨rfl, rfl⟩)
      | (go_at_call 13; (with_reducible refine (Mf.out _).mono ?_); rintro _ w6 ⟨rfl, b6⟩)
      | (go_at_call 14; (with_reducible refine (Rf.out _).mono ?_); rintro _ w7 ⟨rfl, b7⟩)
      | (go_at_call 15; refine (Vf.out _).mono ?_; rintro _ wv ⟨rfl, rfl⟩)
      | (go_at_call 16; refine (Rv.out _).mono ?_; rintro _ wv ⟨rfl, rfl⟩)
      | (go_at_call 13; (with_reducible refine (Mr.out _).mono ?_); rintro _ w8 ⟨rfl, b8⟩)
      | (go_at_call 14; (with_reducible refine (Rr.out _).mono ?_); rintro _ w9 ⟨rfl, b9⟩)
      | fail)
    go_at_call 17
    have q5 := b5.trans (b6.mono b5.size)
    have q7 := q5.trans (b7.mono q5.size)
    have q8 := q7.trans (b8.mono q7.size)
    have q9 := q8.trans (b9.mono q8.size)
    refine (staysS_any _ _ a len cap ss w9 (lent_below HL4.out q9) (rowS_below HI4.out q9) (by omega)).mono ?_
    rintro _ w10 ⟨rfl, b10⟩
    have HF := Lib.hid (HB4.out.trans ((q9.trans (b10.mono q9.size)).mono HB4.out.size))
    clear b5 b6 b7 b8 b9 b10 q5 q7 q8 q9
    go_wp2
    go_ret
    exact ⟨rfl, HF.out⟩
end Go.Proofs.Ytdbdifbcfplegaa
