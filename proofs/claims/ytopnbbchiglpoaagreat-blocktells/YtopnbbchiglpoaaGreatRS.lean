/- The document's own reader beside its plain state: what is left, and the error. -/
import Derived.Test.YtopnbbchiglpoaaGreatRR
namespace Go.Proofs.YtopnbbchiglpoaaGreat
open Go.RowKit

/-- A reader that has l left and the error e (behind an error nobody asks what is left). -/
def Rdr (w : World) (b : Nat) (l : List UInt8) (e : Int) : Prop := ∃ s, IsRd w b s e ∧ (e = 0 → s.data.toList = l) ∧ s.size ≤ 100000000
def rdV (l : List UInt8) (e : Int) : Nat × List UInt8 × Int := if e ≠ 0 then (0, l, e) else if (decV 0 0 l).2.2 ≠ 0 then (0, l, (decV 0 0 l).2.2) else decV 0 0 l
def rdC (most : Int) (l : List UInt8) (e : Int) : Nat × List UInt8 × Int := if e ≠ 0 then (0, l, e) else if (decC most l).2.2 ≠ 0 then (0, l, (decC most l).2.2) else decC most l
def rdT (most : Int) (l : List UInt8) (e : Int) : List UInt8 × List UInt8 × Int := if e ≠ 0 then ([], l, e) else if (decT most l).2.2 ≠ 0 then ([], l, (decT most l).2.2) else decT most l
def rdB (l : List UInt8) (e : Int) : Bool × List UInt8 × Int := if e ≠ 0 then (false, l, e) else if (decB l).2.2 ≠ 0 then (false, l, (decB l).2.2) else decB l
theorem rdV_err {l : List UInt8} {e : Int} (h : e ≠ 0) : rdV l e = (0, l, e) := by unfold rdV; rw [if_pos h]
theorem rdC_err {most : Int} {l : List UInt8} {e : Int} (h : e ≠ 0) : rdC most l e = (0, l, e) := by unfold rdC; rw [if_pos h]
theorem rdT_err {most : Int} {l : List UInt8} {e : Int} (h : e ≠ 0) : rdT most l e = ([], l, e) := by unfold rdT; rw [if_pos h]
theorem rdB_err {l : List UInt8} {e : Int} (h : e ≠ 0) : rdB l e = (false, l, e) := by unfold rdB; rw [if_pos h]
theorem rdV_ok {l r : List UInt8} {v : Nat} (h : decV 0 0 l = (v, r, 0)) : rdV l 0 = (v, r, 0) := by unfold rdV; rw [h]; rfl
theorem rdV_bad {l : List UInt8} {e : Int} (h : decV 0 0 l = (0, [], e)) (he : e ≠ 0) : rdV l 0 = (0, l, e) := by unfold rdV; rw [h, if_neg (by simp), if_pos he]
theorem rdC_ok {most : Int} {l r : List UInt8} {v : Nat} (h : decC most l = (v, r, 0)) : rdC most l 0 = (v, r, 0) := by unfold rdC; rw [h]; rfl
theorem rdC_bad {most : Int} {l : List UInt8} {e : Int} (h : decC most l = (0, [], e)) (he : e ≠ 0) : rdC most l 0 = (0, l, e) := by unfold rdC; rw [h, if_neg (by simp), if_pos he]
theorem rdT_ok {most : Int} {l t r : List UInt8} (h : decT most l = (t, r, 0)) : rdT most l 0 = (t, r, 0) := by unfold rdT; rw [h]; rfl
theorem rdT_bad {most : Int} {l : List UInt8} {e : Int} (h : decT most l = ([], [], e)) (he : e ≠ 0) : rdT most l 0 = ([], l, e) := by unfold rdT; rw [h, if_neg (by simp), if_pos he]
theorem rdB_ok {l r : List UInt8} {v : Bool} (h : decB l = (v, r, 0)) : rdB l 0 = (v, r, 0) := by unfold rdB; rw [h]; rfl
theorem rdB_bad {l : List UInt8} {e : Int} (h : decB l = (false, [], e)) (he : e ≠ 0) : rdB l 0 = (false, l, e) := by unfold rdB; rw [h, if_neg (by simp), if_pos he]
theorem decV_cases (l : List UInt8) : (∃ v r, decV 0 0 l = (v, r, 0)) ∨ (∃ e, e ≠ 0 ∧ decV 0 0 l = (0, [], e)) := by
  by_cases h : (decV 0 0 l).2.2 = 0
  · exact .inl ⟨_, _, by rw [← h]⟩
  · exact .inr ⟨_, h, decV_err l 0 0 h⟩
theorem str_size (l : List UInt8) : (⟨l.toArray⟩ : ByteArray).size = l.length := by simp [ByteArray.size]
theorem Rdr.lt {w : World} {b : Nat} {l : List UInt8} {e : Int} (h : Rdr w b l e) : b < w.heap.size := by obtain ⟨s, hr, -⟩ := h; exact hr.lt
theorem Rdr.below {w w' : World} {b B : Nat} {l : List UInt8} {e : Int} (h : Rdr w b l e) (hb : Below B w w') (hB : b < B) : Rdr w' b l e := by
  obtain ⟨s, hr, h1, h2⟩ := h
  exact ⟨s, hr.below hb hB, h1, h2⟩
/-- The reader's bytes, where there is no error. -/
theorem Rdr.at {w : World} {b : Nat} {l : List UInt8} (h : Rdr w b l 0) : ∃ s, IsRd w b s 0 ∧ s.data.toList = l ∧ s.size ≤ 100000000 := by
  obtain ⟨s, hr, h1, h2⟩ := h
  exact ⟨s, hr, h1 rfl, h2⟩
theorem Rdr.of {w : World} {b : Nat} {l : List UInt8} {e : Int} {s : ByteArray} (h : IsRd w b s e) (hl : e = 0 → s.data.toList = l) (hs : s.size ≤ 100000000) : Rdr w b l e := ⟨s, h, hl, hs⟩

theorem rr_var {w : World} {b : Nat} {l : List UInt8} {e : Int} (h : Rdr w b l e) :
    Calls Tryz.prog 37 #[.pointer (some ⟨b, 0, none⟩)] w fun x w' => x = .returned (.int .u64 ((rdV l e).1 : Int)) ∧ Rdr w' b (rdV l e).2.1 (rdV l e).2.2 ∧ w.grownBy w' (some b) := by
  by_cases he : e = 0
  · subst he
    obtain ⟨s, hr, rfl, hs⟩ := h.at
    rcases decV_cases s.data.toList with ⟨v, r, hv⟩ | ⟨e, he, hv⟩
    · rw [rdV_ok hv]
      refine (rrvar_any b s w hr hv).mono ?_
      rintro x w' ⟨rfl, rfl⟩
      rw [if_pos rfl]
      have hlen : r.length ≤ s.size := by have := decV_len s.data.toList 0 0; rw [hv] at this; simpa using this
      exact ⟨rfl, Rdr.of (hr.setRest _) (fun _ => rfl) (by rw [str_size]; omega), grownBy_set _ _ _ _⟩
    · rw [rdV_bad hv he]
      refine (rrvar_any b s w hr hv).mono ?_
      rintro x w' ⟨rfl, rfl⟩
      rw [if_neg he]
      exact ⟨rfl, Rdr.of (hr.setErr _) (fun h => absurd h he) hs, grownBy_set _ _ _ _⟩
  · rw [rdV_err he]
    obtain ⟨s, hr, hl, hs⟩ := h
    have h1 := hr.c1
    have hd : (e != 0) = true := by simpa using he
    have HR : Hid (Rdr w b l e) := ⟨s, hr, hl, hs⟩
    clear he hl hs hr
    go_enter Tryz.func37, Tryz.ntmps37
    go_wp2
    go_ret
    exact ⟨rfl, HR.out, ⟨rfl, rfl, rfl, Nat.le_refl _, fun _ _ _ => rfl⟩⟩
theorem same_grown (w : World) (r : Option Nat) : w.grownBy w r := ⟨rfl, rfl, rfl, Nat.le_refl _, fun _ _ _ => rfl⟩
set_option maxHeartbeats 2000000 in
theorem rr_count {w : World} {b : Nat} {l : List UInt8} {e : Int} (most : Int) (hm : most ≤ 9223372036854775807) (h : Rdr w b l e) :
    Calls Tryz.prog 35 #[.pointer (some ⟨b, 0, none⟩), .int .i64 most] w fun x w' => x = .returned (.int .i64 ((rdC most l e).1 : Int)) ∧ Rdr w' b (rdC most l e).2.1 (rdC most l e).2.2 ∧ w.grownBy w' (some b) := by
  have CV := rr_var h
  by_cases he : e = 0
  · subst he
    rcases decV_cases l with ⟨v, r, hv⟩ | ⟨e, he, hv⟩
    · rw [rdV_ok hv] at CV
      have hvl : v < 18446744073709551616 := by have := decV_lt l 0 0 (by omega) (by decide); rw [hv] at this; exact this
      by_cases hbig : most < 0 ∨ most < (v : Int)
      · have hc : decC most l = (0, [], 2) := by unfold decC; rw [hv, if_neg (by simp), if_pos hbig]
        rw [rdC_bad hc (by omega)]
        have HCV := Lib.hid CV
        clear CV hc hv h
        by_cases h0 : most < 0
        · have d1 : decide (most < 0) = true := decide_eq_true h0
          clear hbig
          go_enter Tryz.func35, Tryz.ntmps35
          go_wp2_with (fail)
          go_at_call 37
          refine HCV.out.mono ?_
          rintro x w1 ⟨rfl, hr1, hg1⟩
          obtain ⟨s1, hi1, -, hs1⟩ := hr1.at
          have c1 := hi1.c1
          have FL := Lib.hid (rrfail_any b s1 2 w1 hi1)
          have HE := Lib.hid (Rdr.of (l := l) (hi1.setErr 2) (fun h => by omega) hs1)
          have HG := Lib.hid (grownBy_trans hg1 (grownBy_set w1 b 1 (.int .i64 2)))
          clear hi1 hr1 hg1 HCV
          go_wp2_with (go_at_call 115; refine FL.out.mono ?_; rintro _ w2 ⟨⟨x, rfl⟩, rfl⟩)
          go_ret
          exact ⟨rfl, HE.out, HG.out⟩
        · have d1 : decide (most < 0) = false := decide_eq_false h0
          obtain ⟨m, rfl⟩ : ∃ m : Nat, most = (m : Int) := ⟨most.toNat, by omega⟩
          have hmv : m < v := by omega
          have d2 : decide ((m : Int) < (v : Int)) = true := decide_eq_true (by omega)
          have hwm : IntKind.u64.wrap (m : Int) = (m : Int) := by rw [IntKind.wrap_u64]; omega
          clear hbig h0
          go_enter Tryz.func35, Tryz.ntmps35
          go_wp2_with (fail)
          go_at_call 37
          refine HCV.out.mono ?_
          rintro x w1 ⟨rfl, hr1, hg1⟩
          obtain ⟨s1, hi1, -, hs1⟩ := hr1.at
          have c1 := hi1.c1
          have FL := Lib.hid (rrfail_any b s1 2 w1 hi1)
          have HE := Lib.hid (Rdr.of (l := l) (hi1.setErr 2) (fun h => by omega) hs1)
          have HG := Lib.hid (grownBy_trans hg1 (grownBy_set w1 b 1 (.int .i64 2)))
          clear hi1 hr1 hg1 HCV
          go_wp2_with (go_at_call 115; refine FL.out.mono ?_; rintro _ w2 ⟨⟨x, rfl⟩, rfl⟩)
          go_ret
          exact ⟨rfl, HE.out, HG.out⟩
      · have hc : decC most l = (v, r, 0) := by unfold decC; rw [hv, if_neg (by simp), if_neg hbig]
        rw [rdC_ok hc]
        have HCV := Lib.hid CV
        clear CV hc hv h
        have d1 : decide (most < 0) = false := decide_eq_false (by omega)
        obtain ⟨m, rfl⟩ : ∃ m : Nat, most = (m : Int) := ⟨most.toNat, by omega⟩
        have hmv : v ≤ m := by omega
        have d2 : decide ((m : Int) < (v : Int)) = false := decide_eq_false (by omega)
        have d3 : decide (m < v) = false := decide_eq_false (by omega)
        have hwm : IntKind.u64.wrap (m : Int) = (m : Int) := by rw [IntKind.wrap_u64]; omega
        have hwv : wrap64 (v : Int) = (v : Int) := by unfold wrap64; omega
        clear hbig
        go_enter Tryz.func35, Tryz.ntmps35
        go_wp2_with (fail)
        go_at_call 37
        refine HCV.out.mono ?_
        rintro x w1 ⟨rfl, hr1, hg1⟩
        obtain ⟨s1, hi1, -, hs1⟩ := hr1.at
        have c1 := hi1.c1
        clear hi1 HCV
        go_wp2
        go_ret
        exact ⟨rfl, hr1, hg1⟩
    · rw [rdV_bad hv he] at CV
      have hc : decC most l = (0, [], e) := by unfold decC; rw [hv, if_pos he]
      rw [rdC_bad hc he]
      have HCV := Lib.hid CV
      have hd : (e != 0) = true := by simpa using he
      clear CV hc hv h he
      go_enter Tryz.func35, Tryz.ntmps35
      go_wp2_with (fail)
      go_at_call 37
      refine HCV.out.mono ?_
      rintro x w1 ⟨rfl, hr1, hg1⟩
      obtain ⟨s1, hi1, -, hs1⟩ := id hr1
      have c1 := hi1.c1
      clear hi1 HCV
      go_wp2
      go_ret
      exact ⟨rfl, hr1, hg1⟩
  · rw [rdV_err he] at CV
    rw [rdC_err he]
    have HCV := Lib.hid CV
    have hd : (e != 0) = true := by simpa using he
    clear CV he h
    go_enter Tryz.func35, Tryz.ntmps35
    go_wp2_with (fail)
    go_at_call 37
    refine HCV.out.mono ?_
    rintro x w1 ⟨rfl, hr1, hg1⟩
    obtain ⟨s1, hi1, -, hs1⟩ := id hr1
    have c1 := hi1.c1
    clear hi1 HCV
    go_wp2
    go_ret
    exact ⟨rfl, hr1, hg1⟩
/-- The next n bytes. -/
def rdN (n : Nat) (l : List UInt8) (e : Int) : List UInt8 × List UInt8 × Int := if e ≠ 0 then ([], l, e) else if l.length < n then ([], l, 5) else (l.take n, l.drop n, 0)
set_option maxHeartbeats 2000000 in
theorem rr_bytes {w : World} {b : Nat} {l : List UInt8} {e : Int} (n : Nat) (hn : n ≤ 9223372036854775807) (h : Rdr w b l e) :
    Calls Tryz.prog 116 #[.pointer (some ⟨b, 0, none⟩), .int .i64 (n : Int)] w fun x w' => x = .returned (.string ⟨(rdN n l e).1.toArray⟩) ∧ Rdr w' b (rdN n l e).2.1 (rdN n l e).2.2 ∧ w.grownBy w' (some b) := by
  by_cases he : e = 0
  · subst he
    obtain ⟨s, hi, rfl, hs⟩ := h.at
    have c0 := hi.c0
    have c1 := hi.c1
    have f0 := hi.f0
    by_cases hlt : s.size < n
    · have hr : rdN n s.data.toList 0 = ([], s.data.toList, 5) := by unfold rdN; rw [if_neg (by simp), if_pos (by simpa using hlt)]
      rw [hr]
      have FL := Lib.hid (rrfail_any b s 5 w hi)
      have HE := Lib.hid (Rdr.of (l := s.data.toList) (hi.setErr 5) (fun h => by omega) hs)
      clear hi h hr
      go_enter Tryz.func116, Tryz.ntmps116
      go_wp2_with (go_at_call 115; refine FL.out.mono ?_; rintro _ w2 ⟨⟨x, rfl⟩, rfl⟩)
      go_ret
      exact ⟨rfl, HE.out, grownBy_set _ _ _ _⟩
    · have hr : rdN n s.data.toList 0 = (s.data.toList.take n, s.data.toList.drop n, 0) := by unfold rdN; rw [if_neg (by simp), if_neg (by simpa using hlt)]
      rw [hr]
      have HT : Hid (s.extract 0 n = ⟨(s.data.toList.take n).toArray⟩) := by show _ = _; have := take_str s.data.toList n; rwa [str_eta] at this
      have HD := Lib.hid (drop_str s n)
      have hnI : (n : Int) ≤ (s.size : Int) := by omega
      have hnN : n ≤ s.size := by omega
      have d1 : decide (s.size < n) = false := decide_eq_false (by omega)
      have d2 : decide ((s.size : Int) < (n : Int)) = false := decide_eq_false (by omega)
      have HE := Lib.hid (Rdr.of (l := s.data.toList.drop n) (hi.setRest ⟨(s.data.toList.drop n).toArray⟩) (fun _ => rfl) (by rw [str_size, List.length_drop, len_data']; omega))
      clear hi h hr
      go_enter Tryz.func116, Tryz.ntmps116
      go_wp2
      go_ret
      rw [HD.out]
      exact ⟨by rw [← HT.out]; rfl, HE.out, grownBy_set _ _ _ _⟩
  · have hr : rdN n l e = ([], l, e) := by unfold rdN; rw [if_pos he]
    rw [hr]
    obtain ⟨s, hi, -⟩ := id h
    have c1 := hi.c1
    have hd : (e != 0) = true := by simpa using he
    clear hi he hr
    go_enter Tryz.func116, Tryz.ntmps116
    go_wp2
    go_ret
    exact ⟨rfl, h, same_grown _ _⟩
theorem rdT_eq (most : Int) (l : List UInt8) (e : Int) : (rdT most l e).1 = (rdN (rdC most l e).1 (rdC most l e).2.1 (rdC most l e).2.2).1 ∧ (rdT most l e).2.2 = (rdN (rdC most l e).1 (rdC most l e).2.1 (rdC most l e).2.2).2.2 ∧ ((rdT most l e).2.2 = 0 → (rdT most l e).2.1 = (rdN (rdC most l e).1 (rdC most l e).2.1 (rdC most l e).2.2).2.1) := by
  by_cases he : e = 0
  · subst he
    rcases decC_cases most l with ⟨v, r, hc, -, -⟩ | ⟨e, he, hc⟩
    · rw [rdC_ok hc]
      by_cases hl : r.length < v
      · have ht : decT most l = ([], [], 5) := by unfold decT; rw [hc, if_neg (by simp), if_pos hl]
        rw [rdT_bad ht (by omega)]
        unfold rdN
        rw [if_neg (by simp), if_pos hl]
        exact ⟨rfl, rfl, fun h => by cases h⟩
      · have ht : decT most l = (r.take v, r.drop v, 0) := by unfold decT; rw [hc, if_neg (by simp), if_neg hl]
        rw [rdT_ok ht]
        unfold rdN
        rw [if_neg (by simp), if_neg hl]
        exact ⟨rfl, rfl, fun _ => rfl⟩
    · have ht : decT most l = ([], [], e) := by unfold decT; rw [hc, if_pos he]
      rw [rdC_bad hc he, rdT_bad ht he]
      unfold rdN
      rw [if_pos he]
      exact ⟨rfl, rfl, fun _ => rfl⟩
  · rw [rdC_err he, rdT_err he]
    unfold rdN
    rw [if_pos he]
    exact ⟨rfl, rfl, fun _ => rfl⟩
theorem rdC_le {most : Int} (l : List UInt8) (e : Int) (hm : 0 ≤ most) : ((rdC most l e).1 : Int) ≤ most := by
  by_cases he : e = 0
  · subst he
    rcases decC_cases most l with ⟨v, r, hc, hv, -⟩ | ⟨e, he, hc⟩
    · rw [rdC_ok hc]; exact hv
    · rw [rdC_bad hc he]; exact hm
  · rw [rdC_err he]; exact hm
set_option maxHeartbeats 2000000 in
theorem rr_text {w : World} {b : Nat} {l : List UInt8} {e : Int} (most : Int) (hm0 : 0 ≤ most) (hm : most ≤ 9223372036854775807) (h : Rdr w b l e) :
    Calls Tryz.prog 36 #[.pointer (some ⟨b, 0, none⟩), .int .i64 most] w fun x w' => x = .returned (.string ⟨(rdT most l e).1.toArray⟩) ∧ Rdr w' b (rdT most l e).2.1 (rdT most l e).2.2 ∧ w.grownBy w' (some b) := by
  have CC := Lib.hid (rr_count most hm h)
  have hle := rdC_le (most := most) l e hm0
  have HT := Lib.hid (rdT_eq most l e)
  generalize rdT most l e = T at HT ⊢
  rcases hrc : rdC most l e with ⟨n, l1, e1⟩
  rw [hrc] at CC hle HT
  clear h
  go_enter Tryz.func36, Tryz.ntmps36
  go_wp2_with (fail)
  go_at_call 35
  refine CC.out.mono ?_
  rintro x w1 ⟨rfl, hr1, hg1⟩
  have CB := Lib.hid (rr_bytes n (by omega) hr1)
  clear CC hr1
  go_wp2_with (fail)
  go_at_call 116
  refine CB.out.mono ?_
  rintro x w2 ⟨rfl, hr2, hg2⟩
  go_wp2
  go_ret
  refine ⟨by rw [HT.out.1]; rfl, ?_, grownBy_trans hg1 hg2⟩
  rw [HT.out.2.1]
  obtain ⟨s, hi, hl, hs⟩ := hr2
  exact ⟨s, hi, fun h0 => by rw [HT.out.2.2 (by rw [HT.out.2.1]; exact h0)]; exact hl h0, hs⟩
end Go.Proofs.YtopnbbchiglpoaaGreat
