/- The program: block.Get. -/
import Derived.Test.YtopnbbchiglpoaaZQ
import Derived.Test.YtopnbbchiglpoaaBT
namespace Go.Proofs.Ytopnbbchiglpoaa
open Go.RowKit

theorem toList_injP {a b : ByteArray} (h : a.toList = b.toList) : a = b := by
  rw [ByteArray.toList_eq, ByteArray.toList_eq] at h
  cases a; cases b
  simp_all
set_option maxHeartbeats 1000000 in
theorem get_err (b : ByteArray) (w : World) (h : b.size ≤ 1000000) {e : Int} (he : e ≠ 0) (ho : openV b.data.toList = .tuple #[.string ⟨#[]⟩, .int .i64 e]) (hg : getE b.data.toList = (e, [])) :
    Calls Try.prog 8 #[.string b] w (GotB b.data.toList w) := by
  have CO := Lib.hid (open_any b w h)
  rw [ho] at CO
  have hd : (e != 0) = true := by simpa using he
  have HG := Lib.hid hg
  clear ho hg he
  go_enter Try.func8, Try.ntmps8
  go_wp2_with (go_at_call 17; (with_reducible refine CO.out.mono ?_); rintro _ w1 ⟨rfl, b1⟩)
  go_ret2
  exact GotB.none HG.out b1
set_option maxHeartbeats 1000000 in
theorem get_no (b s : ByteArray) (w : World) (h : b.size ≤ 1000000) (ho : openV b.data.toList = .tuple #[.string s, .int .i64 0]) (CR : ∀ W : World, Calls Try.prog 18 #[.string s] W fun x w' => x = .returned (.tuple #[.slice none 0 0, .bool false]) ∧ Below W.heap.size W w') (hg : getE b.data.toList = (4, [])) :
    Calls Try.prog 8 #[.string b] w (GotB b.data.toList w) := by
  have CO := Lib.hid (open_any b w h)
  rw [ho] at CO
  have HCR := Lib.hid CR
  have HG := Lib.hid hg
  clear ho hg CR
  go_enter Try.func8, Try.ntmps8
  go_wp2_with (first | (go_at_call 17; (with_reducible refine CO.out.mono ?_); rintro _ w1 ⟨rfl, b1⟩) | (go_at_call 18; (with_reducible refine (HCR.out _).mono ?_); rintro _ w2 ⟨rfl, b2⟩) | fail)
  go_ret2
  exact GotB.none HG.out (b1.trans (b2.mono b1.size))
set_option maxHeartbeats 4000000 in
set_option maxRecDepth 100000 in
theorem get_loop (b s : ByteArray) (w : World) (h : b.size ≤ 100000) (h4 : 4 ≤ b.size) (ho : openV b.data.toList = .tuple #[.string s, .int .i64 0]) (hsd : s.data.toList = b.data.toList.take (b.size - 4)) (body : List UInt8) (hbl : body.length ≤ 100000) (CR : ∀ W : World, Calls Try.prog 18 #[.string s] W (ReadP body W)) (hbd : getBody b.data.toList = (0, body)) :
    Calls Try.prog 8 #[.string b] w (GotB b.data.toList w) := by
  have CO := Lib.hid (open_any b w (by omega))
  have hln : b.data.toList.length = b.size := len_data' b
  have hseal : sealF s.data.toList = b.data.toList := by
    have h1 := open_seal b.data.toList (by omega)
    rw [hsd]
    rw [hln] at h1
    refine h1.2 ?_
    unfold openV at ho
    rw [hln, if_neg (by omega)] at ho
    by_cases hc : crc (b.data.toList.take (b.size - 4)) = beVal (b.data.toList.drop (b.size - 4))
    · exact hc
    · rw [if_neg hc] at ho
      simp at ho
  rw [ho] at CO
  have HCR := Lib.hid CR
  have HBD := Lib.hid hbd
  have HSE := Lib.hid hseal
  have HLN := Lib.hid hln
  clear ho CR hbd hsd hseal hln
  go_enter Try.func8, Try.ntmps8
  go_wp2_with (fail)
  go_at_call 17
  refine CO.out.mono ?_
  rintro _ w1 ⟨rfl, b1⟩
  have C1 := Lib.hid (HCR.out w1)
  have HB1 := Lib.hid b1
  clear CO HCR b1
  go_wp2_with (fail)
  go_at_call 18
  refine C1.out.mono ?_
  rintro _ w2 (⟨es, v, rfl, hrow, hv0, hob, hgo, b2⟩ | ⟨rfl, hno, b2⟩)
  · obtain ⟨a, cap, rfl, hE⟩ := row_ents hrow
    have hcnt := hgo.cnt
    have hsum := hgo.sum
    simp only [List.length_nil, Nat.add_zero] at hcnt hsum
    have CL := Lib.hid (blay_any (w := w2) w2.heap.size (Nat.le_refl _) a es.length cap es hE (by omega) hgo.ok (by omega) hgo.ord)
    obtain ⟨A, hA⟩ : ∃ A : ByteArray, ⟨(layB es).toArray⟩ = A := ⟨_, rfl⟩
    have hAl : A.data.toList = layB es := by rw [← hA]
    rw [hA] at CL
    have HRW := Lib.hid hrow
    have HV0 := Lib.hid hv0
    have HOB := Lib.hid hob
    have HB2 := Lib.hid (HB1.out.trans (b2.mono HB1.out.size))
    have hb1s := HB1.out.size
    by_cases hq : A = s
    · subst hq
      have hg : getE b.data.toList = (0, es) := by
        rw [← HSE.out, hAl, ← blkB_lay]
        exact getE_laid es (by omega) hgo.ord (fun x hx => ⟨(hgo.ok x hx).2.1, (hgo.ok x hx).2.2.1⟩)
      have HG := Lib.hid hg
      clear hg hA hAl hE hrow hv0 hob b2 hgo
      go_wp2_with (go_at_call 16; (with_reducible refine CL.out.mono ?_); rintro _ w3 ⟨rfl, b3⟩)
      go_ret2
      unfold GotB
      rw [HG.out]
      exact ⟨_, rfl, row_below HRW.out b3, HV0.out, fun k hk => Nat.le_trans hb1s (HOB.out k hk), HB2.out.trans (b3.mono HB2.out.size)⟩
    · have hg : getE b.data.toList = (4, []) := getE_four (by rw [HLN.out]; omega) HBD.out (fun L hL hbL => hq (by
        obtain rfl := hgo.fin L hL
        rw [blkB_lay, ← HSE.out] at hbL
        have := sealF_inj hbL
        rw [← hAl] at this
        rw [arr_eq A, arr_eq s, this]))
      have HG := Lib.hid hg
      have dq : (!A.toList == s.toList) = true := by
        have : A.toList ≠ s.toList := fun e => hq (toList_injP e)
        simp [this]
      clear hg hA hAl hE hrow hv0 hob b2 hgo hq
      go_wp2_with (go_at_call 16; (with_reducible refine CL.out.mono ?_); rintro _ w3 ⟨rfl, b3⟩)
      go_ret2
      exact GotB.none HG.out (HB2.out.trans (b3.mono HB2.out.size))
  · have HG := Lib.hid (getE_four (by rw [HLN.out]; omega) HBD.out (fun L hL _ => hno L hL))
    clear hno
    go_wp2
    go_ret2
    exact GotB.none HG.out (HB1.out.trans (b2.mono HB1.out.size))
/-- The program's Get, of any bytes that are not many. -/
theorem getP_len (b : ByteArray) (w : World) (h : b.size ≤ 100000) : Calls Try.prog 8 #[.string b] w (GotB b.data.toList w) := by
  have hlen : b.data.toList.length = b.size := len_data' b
  rcases openV_cases b.data.toList with ⟨e, he, ho, hg⟩ | ⟨h4, ho, hg⟩
  · exact get_err b w (by omega) he ho (getE_err hg he)
  · obtain ⟨s, hs⟩ : ∃ s : ByteArray, ⟨(b.data.toList.take (b.data.toList.length - 4)).toArray⟩ = s := ⟨_, rfl⟩
    have hsd : s.data.toList = b.data.toList.take (b.data.toList.length - 4) := by rw [← hs]
    have hss : s.size = b.size - 4 := by rw [← len_data', hsd, List.length_take]; omega
    rw [hs] at ho
    by_cases h8 : b.data.toList.length < 8
    · rw [if_pos h8] at hg
      exact get_no b s w (by omega) ho (fun W => read_short s W (by omega)) (getE_err hg (by decide))
    · rw [if_neg h8] at hg
      have hp : piece s (s.size - 4) 4 = (b.data.toList.take (b.data.toList.length - 4)).drop (b.data.toList.length - 8) := by
        unfold piece
        rw [hsd, show s.size - 4 = b.data.toList.length - 8 by omega, List.take_of_length_le]
        rw [List.length_drop, List.length_take]
        omega
      generalize hn : beVal ((b.data.toList.take (b.data.toList.length - 4)).drop (b.data.toList.length - 8)) = n at hg
      have hpn : beVal (piece s (s.size - 4) 4) = n := by rw [hp, hn]
      by_cases hc : (b.data.toList.length - 8) / 4 < n
      · rw [if_pos hc] at hg
        exact get_no b s w (by omega) ho (fun W => read_cnt s W (by omega) (by omega) n hpn (by omega)) (getE_err hg (by decide))
      · rw [if_neg hc] at hg
        have hbd : getBody b.data.toList = (0, (s.extract 0 (s.size - 4 - 4 * n)).data.toList) := by
          rw [hg, ext_to, hsd, List.take_take]
          congr 2
          omega
        exact get_loop b s w h (by omega) ho (by rw [hsd, hlen]) _ (by rw [ext_to, List.length_take, len_data']; omega) (fun W => read_loop s W (by omega) (by omega) n hpn (by omega) _ rfl) hbd
end Go.Proofs.Ytopnbbchiglpoaa
