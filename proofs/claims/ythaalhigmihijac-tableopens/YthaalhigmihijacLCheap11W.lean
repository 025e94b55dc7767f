/- TableCheap's walk, over what is asked of the program's table; alive is a premise. -/
import Derived.Test.YthaalhigmihijacTL
import Derived.Test.YthaalhigmihijacBZ
import Derived.BigQuiet
namespace Go.Proofs.Ythaalhigmihijac
open Go.RowKit

theorem less_cbT : ∀ a b : List UInt8, Op.bytesLess a b = decide (Lib.compareBytes a b = -1)
  | [], [] => rfl
  | [], _ :: _ => rfl
  | _ :: _, [] => rfl
  | a :: l, b :: r => by
    unfold Op.bytesLess Lib.compareBytes
    by_cases h1 : a < b
    · simp [h1]
    · by_cases h2 : b < a
      · have h3 : ¬ a = b := fun e => by subst e; exact h1 h2
        simp [h1, h2, h3]
      · have h3 : a = b := UInt8.le_antisymm (UInt8.not_lt.1 h2) (UInt8.not_lt.1 h1)
        rw [less_cbT l r]
        simp [h3]
theorem less_T (a b : ByteArray) : Op.bytesLess a.toList b.toList = lessB a b := by
  rw [ByteArray.toList_eq, ByteArray.toList_eq]
  exact less_cbT _ _
theorem toList_injT {a b : ByteArray} (h : a.toList = b.toList) : a = b := by
  rw [ByteArray.toList_eq, ByteArray.toList_eq] at h
  cases a; cases b
  simp_all
theorem out_none {es : List Ent} {key : ByteArray} (ho : ordB es es.length = true) (h : outT es key = true) (seq : Nat) : findT es key seq = none := by
  refine findT_no (fun i hi hh => ?_)
  obtain ⟨h1, -⟩ := hh
  unfold outT at h
  rw [Bool.or_eq_true] at h
  rcases h with h | h
  · have := later_no (key := keyT es 0) ho (i := 0) (lessB_self _) i (Nat.zero_le _) hi
    rw [h1, h] at this
    cases this
  · have := later_no (key := key) ho (i := i) (by rw [h1]; exact lessB_self _) (es.length - 1) (by omega) (by omega)
    unfold keyT at h
    rw [this] at h
    cases h
theorem foundV_form (o : Option Ent) : ∃ (x : Ent) (t : Bool), foundV o = .tuple #[.agg #[.string x.k, .int .u64 x.s, .int .i64 x.n, .string x.v], .bool t, .int .i64 0] ∧ (o = none → t = false) := by
  cases o with
  | none => exact ⟨⟨⟨#[]⟩, 0, 0, ⟨#[]⟩⟩, false, rfl, fun _ => rfl⟩
  | some x => exact ⟨x, true, rfl, fun h => by cases h⟩
theorem less_threeT (a b : ByteArray) : (Op.bytesLess a.toList b.toList = true ∧ lessB b a = false) ∨ (a = b ∧ lessB b a = false) ∨ (Op.bytesLess a.toList b.toList = false ∧ (a.toList == b.toList) = false ∧ lessB b a = true) := by
  rw [less_T]
  unfold lessB
  rcases cb_vals a.data.toList b.data.toList with h | h | h
  · refine .inl ⟨by rw [h]; rfl, ?_⟩
    rw [cb_swap, h]
    rfl
  · have e : a = b := by
      have := cb_eq _ _ h
      cases a; cases b
      simp_all
    subst e
    exact .inr (.inl ⟨rfl, by rw [cb_refl]; rfl⟩)
  · refine .inr (.inr ⟨by rw [h]; rfl, ?_, by rw [cb_swap, h]; rfl⟩)
    rw [beq_eq_false_iff_ne]
    intro e
    have := toList_injT e
    subst this
    rw [cb_refl] at h
    cases h
theorem tabV_yes {es : List Ent} (h : FineT es) : ∃ Z : ByteArray, tabV es = .tuple #[.string Z, .int .i64 0] ∧ Z.data.toList = tabB es := by
  refine ⟨⟨(tabB es).toArray⟩, ?_, rfl⟩
  unfold tabV
  rw [if_pos ⟨h.some', h.ord⟩]
theorem tabV_no {es : List Ent} (h : ¬ (es ≠ [] ∧ ordB es es.length = true)) : tabV es = .tuple #[.string ⟨#[]⟩, .int .i64 1] := by
  unfold tabV
  rw [if_neg h]
set_option maxHeartbeats 8000000 in
set_option maxRecDepth 100000 in
theorem tableCheap_hard {Tbl : World → Nat → List Nat → List Ent → Nat → Prop} (T : TabC Tbl) {w : World} (CA : ∀ W : World, Calls Try.prog 8 #[] W fun e w' => e = .returned (.bool true) ∧ Below W.heap.size W w') (a : Option Addr) (len cap : Nat) (es : List Ent) (key : ByteArray) (hkm : key.size ≤ maxLen) (til : ByteArray) (htm : til.size ≤ maxLen) (hI : IsEs w a len es) (hcap : len ≤ cap) :
    Calls Try.prog 5 #[.slice a len cap, .string key, .string til] w fun e w' => e = .returned (.bool true) ∧ Below w.heap.size w w' := by
  obtain ⟨hlm, hok, hE⟩ := hI
  have HCA := Lib.hid CA
  have CS := Lib.hid (smallS_any a len cap es hE (by unfold maxLen at hlm; omega) hok)
  have hll : es.length = len := hE.1
  subst hll
  have HE := Lib.hid hE
  have HOK := Lib.hid hok
  have hk63 : key.size ≤ 9223372036854775807 := by unfold maxLen at hkm; omega
  have ht63 : til.size ≤ 9223372036854775807 := by unfold maxLen at htm; omega
  clear CA hlm hok hE hkm htm
  go_enter Try.func5, Try.ntmps5
  go_wp2_with (fail)
  go_at_call 6
  refine CS.out.mono ?_
  rintro _ w1 ⟨t, rfl, ht, b1⟩
  have HB1 := Lib.hid b1
  clear CS b1
  cases t with
  | false =>
    go_wp2_with (go_at_call 8; refine (HCA.out _).mono ?_; rintro _ w2 ⟨rfl, b2⟩)
    go_ret
    exact ⟨rfl, HB1.out.trans (b2.mono HB1.out.size)⟩
  | true =>
    obtain ⟨h150, hsz⟩ := ht rfl
    by_cases hk3 : key.size ≤ 300
    · have d1 : decide ((300 : Int) < (key.size : Int)) = false := by simp; omega
      by_cases ht3 : til.size ≤ 300
      · have d2 : decide ((300 : Int) < (til.size : Int)) = false := by simp; omega
        by_cases hem : es.length = 0
        · have d3 : ((es.length : Int) == 0) = true := by rw [beq_iff_eq]; omega
          have d4 : (es.length == 0) = true := by rw [beq_iff_eq]; omega
          go_wp2_with (go_at_call 8; refine (HCA.out _).mono ?_; rintro _ w2 ⟨rfl, b2⟩)
          go_ret
          exact ⟨rfl, HB1.out.trans (b2.mono HB1.out.size)⟩
        · have d3 : ((es.length : Int) == 0) = false := by rw [beq_eq_false_iff_ne]; omega
          have d4 : (es.length == 0) = false := by rw [beq_eq_false_iff_ne]; omega
          have hne : es ≠ [] := fun e => hem (by rw [e]; rfl)
          have C2 := Lib.hid (T.put (w := w1) a es.length cap es ((HE.out.below HB1.out).mono HB1.out.size) h150 hcap HOK.out hsz)
          cases hor : ordB es es.length with
          | false =>
            rw [tabV_no (fun h => by rw [hor] at h; cases h.2)] at C2
            go_wp2_with (first | (go_at_call 9; refine C2.out.mono ?_; rintro _ w2 ⟨rfl, b2⟩) | (go_at_call 8; refine (HCA.out _).mono ?_; rintro _ w3 ⟨rfl, b3⟩) | fail)
            go_ret
            exact ⟨rfl, (HB1.out.trans (b2.mono HB1.out.size)).trans (b3.mono (Nat.le_trans HB1.out.size b2.size))⟩
          | true =>
            have hF : FineT es := ⟨hne, hor, h150, hsz, HOK.out⟩
            obtain ⟨Z, hZ, hZd⟩ := tabV_yes hF
            rw [hZ] at C2
            go_wp2_with fail
            go_at_call 9
            refine C2.out.mono ?_
            rintro _ w2 ⟨rfl, b2⟩
            have HB2 := Lib.hid (HB1.out.trans (b2.mono HB1.out.size))
            have C3 := Lib.hid (T.opens es Z w2 hF hZd)
            clear C2 b2 HB1 hZ
            go_wp2_with fail
            go_at_call 10
            refine C3.out.mono ?_
            rintro _ w3 ⟨p, F, rfl, hT, hFw, b3⟩
            have HB3 := Lib.hid (HB2.out.trans (b3.mono HB2.out.size))
            have HFW := Lib.hid (show ∀ k ∈ F, w.heap.size ≤ k from fun k hk => Nat.le_trans HB2.out.size (hFw k hk))
            have HT := Lib.hid hT
            have CR := Lib.hid (T.read hT)
            have CG := Lib.hid (T.get key 9223372036854775808 hT (by omega) (by omega) (by omega))
            rw [show ((0 : Nat) : Int) = 0 from rfl] at CR
            rw [show ((9223372036854775808 : Nat) : Int) = 9223372036854775808 from rfl] at CG
            clear C3 b3 hFw hT
            go_wp2_with (go_at_call 14; (with_reducible refine CR.out.mono ?_); rintro _ w4 ⟨rfl, rfl⟩)
            go_at_call 11
            refine CG.out.mono ?_
            rintro _ w5 ⟨F5, n5, rfl, hT5, -, hn5, hout, tu5, hF5⟩
            have HT5 := Lib.hid hT5
            have HB5 := Lib.hid (show Below w.heap.size w w5 from HB3.out.trans (tu5.below HB3.out.size HFW.out))
            have hs5 := tu5.size
            have HF5 := Lib.hid (show ∀ k ∈ F5, w.heap.size ≤ k from fun k hk => (hF5 k hk).elim (HFW.out k) (fun h => Nat.le_trans HB3.out.size h))
            have HOUT := Lib.hid (show outT es key = true → n5 = 0 from hout)
            have hON := out_none (es := es) (key := key) hor
            obtain ⟨x, t, hx, htn⟩ := foundV_form (findT es key 9223372036854775808)
            rw [hx]
            have HTN := Lib.hid (show outT es key = true → t = false from fun h => htn (hON h _))
            have hn5' : n5 ≤ 200 := by omega
            clear CG CR HT tu5 hT5 hF5 hout hx htn hON
            obtain ⟨b, off, rfl, hblt, HCE⟩ : ∃ b off, a = some ⟨b, off, none⟩ ∧ b < w.heap.size ∧ ∀ i, i < es.length → ∀ W, Below w.heap.size w W → W.cell? ⟨b, off + i * 4, none⟩ = some (.string (keyT es i)) := by
              rcases HE.out.2 with h0 | ⟨b, off, e, h1, h2⟩
              · omega
              · exact ⟨b, off, e, h1, fun i hi W hW => (hW.cell (p := ⟨b, off + i * 4, none⟩) h1).trans (h2 i hi 0 _ (by unfold keyT; rw [entAt_get hi]; rfl))⟩
            obtain ⟨W6, hW6⟩ : ∃ W6, w5.alloc (.cells #[.string x.k, .int .u64 x.s, .int .i64 x.n, .string x.v] 36) = W6 := ⟨_, rfl⟩
            have hb6 : Below w5.heap.size w5 W6 := by rw [← hW6]; exact (Below.refl _ _).alloc (Nat.le_refl _) _
            have HB6 := Lib.hid (HB5.out.trans (hb6.mono HB5.out.size))
            have hT6 := T.below HT5.out hb6
            have HT6 := Lib.hid hT6
            have CR := Lib.hid (T.read hT6)
            obtain ⟨m, hm⟩ : ∃ m, es.length = m + 1 := ⟨es.length - 1, by omega⟩
            have hmI : (es.length : Int) - 1 = (m : Int) := by omega
            have hmL : (m : Int) < (es.length : Int) := by omega
            have hwm : IntKind.i64.wrap (m : Int) = (m : Int) := by rw [IntKind.wrap_i64]; omega
            have hposI : (0 : Int) < (es.length : Int) := by omega
            have q0 : W6.cell? ⟨b, off, none⟩ = some (.string (keyT es 0)) := by have := HCE 0 (by omega) W6 HB6.out; rwa [Nat.zero_mul, Nat.add_zero] at this
            have q1 : W6.cell? ⟨b, off + m * 4, none⟩ = some (.string (keyT es m)) := HCE m (by omega) W6 HB6.out
            have HCEH := Lib.hid HCE
            have HMM := Lib.hid hm
            have e0 := less_T key (keyT es 0)
            have e1 := less_T (keyT es m) key
            have hOT : outT es key = (lessB key (keyT es 0) || lessB (keyT es m) key) := by unfold outT; rw [show es.length - 1 = m by omega]
            clear HCE hb6 hT6 hm
            go_upto_region 10 with fail
            try rw [hW6]
            clear hW6
            go_cut [98] from 70 to 97 (fun v98 wx => v98 = .bool false ∧ W6 = wx)
            case first =>
              have hgo : lessB key (keyT es 0) = true → True := fun _ => trivial
              clear hgo
              generalize hK0 : keyT es 0 = K0 at *
              generalize hKm : keyT es m = Km at *
              cases ho0 : lessB key K0 with
              | true =>
                rw [ho0] at e0
                have hot : outT es key = true := by rw [hOT, ho0]; rfl
                obtain rfl := HOUT.out hot
                obtain rfl := HTN.out hot
                rw [show ((0 : Nat) : Int) = 0 from rfl] at CR
                go_wp2_with (go_at_call 14; (with_reducible refine CR.out.mono ?_); rintro _ w4 ⟨rfl, rfl⟩)
                go_meet
                exact ⟨rfl, rfl⟩
              | false =>
                rw [ho0] at e0
                rcases less_threeT key Km with ⟨h1, h2⟩ | ⟨h1, h2⟩ | ⟨h1, h2, h3⟩
                · go_wp2_with fail
                  go_meet
                  exact ⟨rfl, rfl⟩
                · subst h1
                  go_wp2_with fail
                  go_meet
                  exact ⟨rfl, rfl⟩
                · have hot : outT es key = true := by rw [hOT, h3]; simp
                  obtain rfl := HOUT.out hot
                  obtain rfl := HTN.out hot
                  rw [show ((0 : Nat) : Int) = 0 from rfl] at CR
                  go_wp2_with (go_at_call 14; (with_reducible refine CR.out.mono ?_); rintro _ w4 ⟨rfl, rfl⟩)
                  go_meet
                  exact ⟨rfl, rfl⟩
            case rest =>
              obtain ⟨rfl, rfl⟩ := hcut
              have CG := Lib.hid (T.range key til HT6.out (by omega) (by omega) (by omega))
              clear q0 q1 e0 e1 hOT HOUT HTN
              go_wp2_with (go_at_call 14; (with_reducible refine CR.out.mono ?_); rintro _ w4 ⟨rfl, rfl⟩)
              go_at_call 13
              refine CG.out.mono ?_
              rintro _ w7 ⟨v, F7, n7, rfl, hnl, hT7, hn7, hn7m, tu7, hF7⟩
              have HB7 := Lib.hid (show Below w.heap.size w w7 from HB6.out.trans (tu7.below HB6.out.size HF5.out))
              have HT7 := Lib.hid hT7
              obtain ⟨av, cv, rfl, -, -⟩ := hnl.row.le
              have hrl := rangeE_le key til es
              have HN7 := Lib.hid hn7m
              generalize (rangeE key til es).length = rl at hrl hnl ⊢
              clear CG CR HT6 hnl tu7 hT7 hF7 hn7m
              go_wp2_with fail
              go_loopw [17, 18] (fun mv iv wr => ∃ (k I M : Nat), mv = .int .i64 (M : Int) ∧ iv = .int .i64 (I : Int) ∧ Hid (I = 8 * k) ∧ k ≤ numT es ∧ Hid (M = mostT es key til k) ∧ wr = w7) (fun _ iv _ => es.length + 8 - (intOf iv).toNat)
              case atStart => exact ⟨0, 0, 0, rfl, rfl, Lib.hid rfl, Nat.zero_le _, Lib.hid rfl, rfl⟩
              case round =>
                obtain ⟨k, I, M, rfl, rfl, HI, hkn, HM, rfl⟩ := hrel
                have hMl : M ≤ 1000 := by have := mostT_le es key til k; have := HM.out; unfold numT at hkn; omega
                by_cases hlt : I < es.length
                · have hltI : (I : Int) < (es.length : Int) := by omega
                  go_upto_region 18 with fail
                  go_cut [19] from 114 to 119 (fun v19 wx => v19 = .int .i64 ((min (I + 7) (es.length - 1) : Nat) : Int) ∧ wr = wx)
                  case first =>
                    go_wp2
                    all_goals go_meet
                    all_goals exact ⟨by congr 1; omega, rfl⟩
                  case rest =>
                    obtain ⟨rfl, rfl⟩ := hcut
                    obtain ⟨q, hq⟩ : ∃ q, min (I + 7) (es.length - 1) = q := ⟨_, rfl⟩
                    have hql : q < es.length := by omega
                    have hqI : (q : Int) < (es.length : Int) := by omega
                    have c0 := HCEH.out q hql wr HB7.out
                    have c1 := HCEH.out I hlt wr HB7.out
                    have HST := Lib.hid (show mostT es key til (k + 1) = M + (if !(lessB (keyT es q) key) && (til.toList.isEmpty || lessB (keyT es I) til) then 1 else 0) by
                      show mostT es key til k + _ = _
                      rw [← HM.out, ← HI.out, hq])
                    have e0 := less_T (keyT es q) key
                    have e1 := less_T (keyT es I) til
                    generalize keyT es q = Kq at c0 HST e0
                    generalize keyT es I = KI at c1 HST e1
                    rw [hq]
                    clear hq
                    obtain ⟨B, hB⟩ : ∃ B, (!(lessB Kq key) && (til.toList.isEmpty || lessB KI til)) = B := ⟨_, rfl⟩
                    rw [hB] at HST
                    go_upto_region 19 with fail
                    go_cut [139] from 120 to 138 (fun v wx => v = .bool B ∧ wr = wx)
                    case first =>
                      cases h1 : lessB Kq key with
                      | true =>
                        rw [h1] at e0 hB
                        obtain rfl : false = B := hB
                        go_wp2
                        go_meet
                        exact ⟨rfl, rfl⟩
                      | false =>
                        rw [h1] at e0 hB
                        cases h2 : til.toList.isEmpty with
                        | true =>
                          rw [h2] at hB
                          obtain rfl : true = B := hB
                          go_wp2
                          go_meet
                          exact ⟨rfl, rfl⟩
                        | false =>
                          rw [h2] at hB
                          have hB2 : lessB KI til = B := by simpa using hB
                          rw [hB2] at e1
                          cases B with
                          | true =>
                            go_wp2
                            go_meet
                            exact ⟨rfl, rfl⟩
                          | false =>
                            go_wp2
                            go_meet
                            exact ⟨rfl, rfl⟩
                    case rest =>
                      obtain ⟨rfl, rfl⟩ := hcut
                      clear c0 c1 e0 e1 hB
                      cases B with
                      | true =>
                        go_wp2
                        go_roundw
                        case rel => exact ⟨k + 1, I + 8, M + 1, by go_num, by go_num, Lib.hid (by have := HI.out; omega), by unfold numT; have := HI.out; omega, Lib.hid (by rw [HST.out]; rfl), by first | rfl | trivial⟩
                        case measure => simp [intOf]; omega
                      | false =>
                        go_wp2
                        go_roundw
                        case rel => exact ⟨k + 1, I + 8, M, by go_num, by go_num, Lib.hid (by have := HI.out; omega), by unfold numT; have := HI.out; omega, Lib.hid (by rw [HST.out]; rfl), by first | rfl | trivial⟩
                        case measure => simp [intOf]; omega
                · have hke : k = numT es := by unfold numT at *; have := HI.out; omega
                  have hfin : n7 ≤ n5 + M + 1 := by rw [HM.out, hke]; exact HN7.out
                  have hfI : (n7 : Int) - (n5 : Int) ≤ (M : Int) + 1 := by omega
                  have hfd : decide ((n7 : Int) - (n5 : Int) ≤ (M : Int) + 1) = true := decide_eq_true hfI
                  have hrI : (rl : Int) ≤ (es.length : Int) := by omega
                  have hn7' : n7 ≤ 2000 := by omega
                  have CRR := Lib.hid (fun W (hW : Below wr.heap.size wr W) => T.read (T.below HT7.out hW))
                  clear HM HI hke
                  go_wp2_with (first | (go_at_call 8; (with_reducible refine (HCA.out _).mono ?_); rintro _ w8 ⟨rfl, b8⟩) | (go_at_call 14; (with_reducible refine (CRR.out _ b8).mono ?_); rintro _ w9 ⟨rfl, rfl⟩) | fail)
                  go_ret
                  exact ⟨rfl, HB7.out.trans (b8.mono HB7.out.size)⟩
      · have d2 : decide ((300 : Int) < (til.size : Int)) = true := by simp; omega
        go_wp2_with (go_at_call 8; refine (HCA.out _).mono ?_; rintro _ w2 ⟨rfl, b2⟩)
        go_ret
        exact ⟨rfl, HB1.out.trans (b2.mono HB1.out.size)⟩
    · have d1 : decide ((300 : Int) < (key.size : Int)) = true := by simp; omega
      go_wp2_with (go_at_call 8; refine (HCA.out _).mono ?_; rintro _ w2 ⟨rfl, b2⟩)
      go_ret
      exact ⟨rfl, HB1.out.trans (b2.mono HB1.out.size)⟩
end Go.Proofs.Ythaalhigmihijac
