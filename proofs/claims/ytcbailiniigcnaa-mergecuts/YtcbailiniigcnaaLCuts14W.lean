/- MergeCuts, walked, over what the calls are asked to tell. -/
import Derived.Test.YtcbailiniigcnaaLLatest14W
namespace Go.Proofs.Ytcbailiniigcnaa
open Go.ChangeShapes Go.WideShapes Go.ChangeAt Go.Deep Go.RowKit

theorem cutS_count (most : Int) : ∀ (l q : List Ent), (cutS most q l).length ≤ l.length
  | [], _ => Nat.le_refl _
  | e :: r, q => by
    unfold cutS
    split
    · have := cutS_count most r []
      simp only [List.length_cons]
      omega
    · have := cutS_count most r (q ++ [e])
      simp only [List.length_cons]
      omega
theorem cutS_all (most : Int) (l : List Ent) : (cutS most [] l).flatten = l := by
  cases l with
  | nil => rfl
  | cons e r => rw [cutS_flat most (e :: r) [] (by simp)]; rfl
theorem cutS_steps2 (most : Int) (l : List Ent) (i : Nat) (p q : List Ent) (hp : (cutS most [] l)[i]? = some p) (hq : (cutS most [] l)[i + 1]? = some q) : most ≤ (p.length : Int) ∧ (p.getLast?.map Ent.k) ≠ (q.head?.map Ent.k) := by
  obtain ⟨h1, rfl⟩ := List.getElem?_eq_some_iff.1 hp
  obtain ⟨h2, rfl⟩ := List.getElem?_eq_some_iff.1 hq
  exact cutS_steps most l [] i h2
theorem flat_len (ls : List (List Ent)) (i : Nat) : (ls.take i).flatten.length ≤ ls.flatten.length := by
  have h2 : ls.flatten = (ls.take i).flatten ++ (ls.drop i).flatten := by rw [← List.flatten_append, List.take_append_drop]
  rw [h2, List.length_append]
  omega
/-- A piece: where its first and its last key stand. -/
theorem ents_ends {n : Nat} {w : World} {a : Option Addr} {p : List Ent} (h : EntsAt n w a p.length p) (hp : p ≠ []) : ∃ b o x y, a = some ⟨b, o, none⟩ ∧ b < n ∧ p.head? = some x ∧ p.getLast? = some y ∧ w.cell? ⟨b, o, none⟩ = some (.string x.k) ∧ w.cell? ⟨b, o + (p.length - 1) * 4, none⟩ = some (.string y.k) := by
  have hpos : 0 < p.length := List.length_pos_iff.2 hp
  rcases h.2 with h0 | ⟨b, o, e, h1, h2⟩
  · omega
  · refine ⟨b, o, p[0], p[p.length - 1], e, h1, ?_, ?_, ?_, ?_⟩
    · rw [List.head?_eq_getElem?, List.getElem?_eq_getElem hpos]
    · rw [List.getLast?_eq_getElem?, List.getElem?_eq_getElem (by omega)]
    · have := h2 0 hpos 0 _ rfl
      simpa using this
    · exact h2 (p.length - 1) (by omega) 0 _ rfl
theorem srcE {n : Nat} {w : World} {a : Option Addr} {c : Nat} {p : List Ent} (h : EntsAt n w a p.length p) (hp : p ≠ []) : Src Try.prog 4 22 (.slice a p.length c) p.length (cellsE p) w := by
  rcases h.2 with h0 | ⟨b, o, rfl, h1, h2⟩
  · exact absurd (List.eq_nil_of_length_eq_zero h0) hp
  · refine src_part (l := p) (m := p) o c (fun j u hu => ?_) (by rw [← cellsE_length p, List.take_length])
    have hj : j < p.length * 4 := by
      have := (List.getElem?_eq_some_iff.1 hu).1
      rwa [cellsE_length] at this
    have hi : j / 4 < p.length := by omega
    have h3 := h2 (j / 4) hi (j % 4)
    have hc : p[j / 4].cells[j % 4]? = some u := by
      have hm : j % 4 < 4 := Nat.mod_lt _ (by omega)
      have hex : ∃ u', p[j / 4].cells[j % 4]? = some u' := by
        have : j % 4 < p[j / 4].cells.length := hm
        exact ⟨_, List.getElem?_eq_getElem this⟩
      obtain ⟨u', hu'⟩ := hex
      have := cellsE_get p (j / 4) hi (j % 4) u' hu'
      rw [show j / 4 * 4 + j % 4 = j by omega, hu] at this
      cases this
      exact hu'
    have h4 := h3 u hc
    rw [show o + j = o + j / 4 * 4 + j % 4 by omega]
    exact h4
set_option maxHeartbeats 8000000 in
set_option maxRecDepth 100000 in
theorem mergeCuts_walkC (CA : AllC) (CL : LatestC) (CT : CutC) {w : World} (l : Option Addr) (ln lc : Nat) (es : List Ent) (most : Int) (hE : EntsAt w.heap.size w l ln es) (hlm : ln ≤ 9223372036854775807) (hok : ∀ x ∈ es, x.Ok) :
    Calls Try.prog 3 #[.slice l ln lc, .int .i64 most] w fun e w' => e = .returned (.bool true) ∧ Below w.heap.size w w' := by
  obtain ⟨i0, hi, hz0, hzs, hzb⟩ := info_parts infoE5
  have HAL := Lib.hid (alive14 CA CL CT)
  have HCT := Lib.hid CT
  have C1 := Lib.hid (small_any l ln lc es hE hlm hok)
  have HE := Lib.hid hE
  have HOK := Lib.hid hok
  obtain rfl : es.length = ln := hE.1
  clear CA CL CT hE hok
  generalize hlb : w.heap.size = lb at *
  have hle : lb ≤ w.heap.size := Nat.le_of_eq hlb.symm
  go_enter Try.func3, Try.ntmps3
  go_wp2_with fail
  go_at_call 6
  refine C1.out.mono ?_
  rintro _ w1 ⟨t, rfl, ht, b1⟩
  clear C1
  have HW1 := Lib.hid (show Below lb w w1 from hlb ▸ b1)
  have HE1 := Lib.hid (show EntsAt w1.heap.size w1 l es.length es from (HE.out.below (hlb ▸ b1)).mono (by have := b1.size; omega))
  cases t with
  | false =>
    clear ht
    go_wp2_with fail
    go_at_call 8
    refine (HAL.out _).mono ?_
    rintro _ w2 ⟨rfl, b2⟩
    go_wp2_with fail
    go_ret
    exact ⟨rfl, below_on HW1.out hle b2⟩
  | true =>
  obtain ⟨hl150, hsh⟩ := ht rfl
  have HSH := Lib.hid hsh
  clear hsh
  clear ht b1
  have C2 := Lib.hid (ordered_any (w := w1) l es.length lc es HE1.out (by omega) HOK.out)
  go_wp2_with fail
  go_at_call 7
  refine C2.out.mono ?_
  rintro _ w2 ⟨t, rfl, ht, b2⟩
  clear C2
  have HW2 := Lib.hid (below_on HW1.out hle b2)
  have HE2 := Lib.hid (show EntsAt w2.heap.size w2 l es.length es from (HE1.out.below b2).mono b2.size)
  cases t with
  | false =>
    clear ht
    go_wp2_with fail
    go_at_call 8
    refine (HAL.out _).mono ?_
    rintro _ w3 ⟨rfl, b3⟩
    go_wp2_with fail
    go_ret
    exact ⟨rfl, below_on HW2.out hle b3⟩
  | true =>
  have HS := Lib.hid (ord_pair (ht rfl))
  clear ht b2 HE HE1 HW1
  have C3 := Lib.hid (HCT.out most l lc es w2 HE2.out (by omega) HS.out (fun x hx => ⟨HOK.out x hx, HSH.out x hx⟩))
  go_wp2_with fail
  go_at_call 9
  refine C3.out.mono ?_
  rintro _ w3 ⟨am, cm, rfl, hL, b3⟩
  clear C3
  have HW3 := Lib.hid (below_on HW2.out hle b3)
  have HE3 := Lib.hid (show EntsAt w3.heap.size w3 l es.length es from (HE2.out.below b3).mono b3.size)
  have HNE := Lib.hid (cutS_ne most es [])
  have HST := Lib.hid (cutS_steps2 most es)
  have HFA := Lib.hid (cutS_all most es)
  have hcnt := cutS_count most es []
  clear b3 HE2 HW2
  have HLS := Lib.hid hL
  clear hL
  generalize cutS most [] es = ps at *
  have HFL := Lib.hid (fun i => show (ps.take i).flatten.length ≤ 150 from by have := flat_len ps i; rw [HFA.out] at this; omega)
  go_wp2_with fail
  go_loopw [6, 7] (fun vv iv wr => ∃ (i : Nat) (V : Value), V = vv ∧ iv = .int .i64 (i : Int) ∧ i ≤ ps.length ∧ Hid (NewR w3.heap.size wr 29 4 V (ps.take i).flatten.length (cellsE (ps.take i).flatten)) ∧ Hid (Below w3.heap.size w3 wr)) (fun _ iv _ => ps.length - (intOf iv).toNat)
  case atStart => exact ⟨0, _, rfl, rfl, Nat.zero_le _, Lib.hid ⟨row_nil _ _ _, fun b hb => none_ne hb⟩, Lib.hid (Below.refl _ _)⟩
  case round =>
    obtain ⟨i, V, rfl, rfl, hile, HR, HB⟩ := hrel
    obtain ⟨wo, hwo⟩ : ∃ wo, wo = wr := ⟨wr, rfl⟩
    subst hwo
    by_cases hlt : i < ps.length
    · obtain ⟨b, off, rfl, hb, HCE⟩ : ∃ b off, am = some ⟨b, off, none⟩ ∧ b < w3.heap.size ∧ Hid (∀ i (h : i < ps.length), ∃ ai ci, w3.cell? ⟨b, off + i, none⟩ = some (.slice ai ps[i].length ci) ∧ EntsAt w3.heap.size w3 ai ps[i].length ps[i] ∧ ps[i].length ≤ ci) := by
        rcases HLS.out.2 with h0 | ⟨b, off, h1, h2, h3⟩
        · omega
        · exact ⟨b, off, h1, h2, h3⟩
      obtain ⟨ai, ci, hca, hEi, -⟩ := HCE.out i hlt
      have HTK := Lib.hid (flat_take ps i hlt)
      have hpi : ps[i]? = some ps[i] := List.getElem?_eq_getElem hlt
      have hpn : ps[i] ≠ [] := HNE.out _ (List.getElem_mem hlt)
      generalize ps[i] = p at hca hEi HTK hpi hpn
      have HPI := Lib.hid hpi
      obtain ⟨bi, oi, x, y, rfl, hbi, hx, hy, hcx, hcy⟩ := ents_ends hEi hpn
      have HX := Lib.hid hx
      have HSR := Lib.hid (fun (W : World) (hw : Below w3.heap.size w3 W) => srcE (c := ci) (hEi.below hw) hpn)
      have hplen : 0 < p.length := List.length_pos_iff.2 hpn
      have hpz : ((p.length : Int) == 0) = false := by simp; omega
      have hpi0 : (0 : Int) < (p.length : Int) := by omega
      have q0 : wo.cell? ⟨b, off + i, none⟩ = some (.slice (some ⟨bi, oi, none⟩) p.length ci) := (HB.out.cell (p := ⟨b, _, none⟩) hb).trans hca
      have q1 : wo.cell? ⟨bi, oi, none⟩ = some (.string x.k) := (HB.out.cell (p := ⟨bi, _, none⟩) hbi).trans hcx
      have hli : (i : Int) < (ps.length : Int) := by omega
      have hpl150 : p.length ≤ 150 := by
        have h1 := HFL.out (i + 1)
        rw [HTK.out, List.length_append] at h1
        omega
      clear hEi hca hpi hcx hcy hx hy hpn
      obtain ⟨XK, hXK⟩ : ∃ K, x.k = K := ⟨_, rfl⟩
      rw [hXK] at q1
      have HXK := Lib.hid hXK
      clear hXK
      go_wp2_with fail
      go_cut [76] from 20 to 82 (fun tv wx => tv = .bool false ∧ Below wo.heap.size wo wx)
      case first =>
        obtain ⟨q, hq⟩ : ∃ q, q = ps.length - 1 := ⟨_, rfl⟩
        have hqi : (ps.length : Int) - 1 = (q : Int) := by omega
        have hwq : IntKind.i64.wrap ((ps.length : Int) - 1) = (q : Int) := by rw [IntKind.wrap_i64]; omega
        have hmost : (i < q ∧ decide ((i : Int) < (q : Int)) = true ∧ decide ((p.length : Int) < most) = false) ∨ (¬ i < q ∧ decide ((i : Int) < (q : Int)) = false) := by
          by_cases h : i < q
          · obtain ⟨n, hn⟩ : ∃ n, ps[i + 1]? = some n := ⟨_, List.getElem?_eq_getElem (by omega)⟩
            have := (HST.out i p n HPI.out hn).1
            exact .inl ⟨h, by simp; omega, by simp; omega⟩
          · exact .inr ⟨h, by simp; omega⟩
        clear hq
        by_cases h0 : 0 < i
        · obtain ⟨m, hm⟩ : ∃ m, m = i - 1 := ⟨_, rfl⟩
          have hml : m < ps.length := by omega
          obtain ⟨aj, cj, hcj, hEj, -⟩ := HCE.out m hml
          have hpj : ps[m]? = some ps[m] := List.getElem?_eq_getElem hml
          have hpjn : ps[m] ≠ [] := HNE.out _ (List.getElem_mem hml)
          generalize ps[m] = pj at hcj hEj hpj hpjn
          obtain ⟨bj, oj, x2, y2, rfl, hbj, hx2, hy2, hcx2, hcy2⟩ := ents_ends hEj hpjn
          have hkk : y2.k ≠ XK := by
            have h := (HST.out m pj p hpj (by rw [hm, show i - 1 + 1 = i by omega]; exact HPI.out)).2
            rw [hy2, HX.out] at h
            intro e
            refine h ?_
            show some y2.k = some x.k
            rw [e, HXK.out]
          generalize y2.k = YK at hcy2 hkk
          have hne : (YK.toList == XK.toList) = false := by
            rw [beq_eq_false_iff_ne, ByteArray.toList_eq, ByteArray.toList_eq]
            exact fun e => hkk (bytes_ext e)
          have hjpos : 0 < pj.length := List.length_pos_iff.2 hpjn
          obtain ⟨n, hn⟩ : ∃ n, n = pj.length - 1 := ⟨_, rfl⟩
          rw [← hn] at hcy2
          have q2 : wo.cell? ⟨b, off + m, none⟩ = some (.slice (some ⟨bj, oj, none⟩) pj.length cj) := (HB.out.cell (p := ⟨b, _, none⟩) hb).trans hcj
          have q3 : wo.cell? ⟨bj, oj + n * 4, none⟩ = some (.string YK) := (HB.out.cell (p := ⟨bj, _, none⟩) hbj).trans hcy2
          have hd0 : decide ((0 : Int) < (i : Int)) = true := by simp; omega
          have hi0 : (0 : Int) < (i : Int) := by omega
          have hij : (i : Int) - 1 = (m : Int) := by omega
          have hwi : IntKind.i64.wrap ((i : Int) - 1) = (m : Int) := by rw [IntKind.wrap_i64]; omega
          have hmi : (m : Int) < (ps.length : Int) := by omega
          have hpj150 : pj.length ≤ 150 := by
            have h1 := HFL.out (m + 1)
            rw [flat_take ps m hml, List.length_append, show ps[m] = pj from by have h := hpj; rw [List.getElem?_eq_getElem hml] at h; exact Option.some.inj h] at h1
            omega
          have hnj : (pj.length : Int) - 1 = (n : Int) := by omega
          have hwn : IntKind.i64.wrap ((pj.length : Int) - 1) = (n : Int) := by rw [IntKind.wrap_i64]; omega
          have hni : (n : Int) < (pj.length : Int) := by omega
          clear hm hn hcj hEj hpj hpjn hx2 hy2 hcx2 hcy2 hkk
          rcases hmost with ⟨hq1, hq2, hq3⟩ | ⟨hq1, hq2⟩
          · go_wp2_with fail
            go_quiet (fail)
            go_wp2_with fail
            go_meet
            exact ⟨rfl, belowN (Below.refl _ _) _⟩
          · go_wp2_with fail
            go_quiet (fail)
            go_wp2_with fail
            go_meet
            exact ⟨rfl, belowN (Below.refl _ _) _⟩
        · have hd0 : decide ((0 : Int) < (i : Int)) = false := by simp; omega
          rcases hmost with ⟨hq1, hq2, hq3⟩ | ⟨hq1, hq2⟩
          · go_wp2_with fail
            go_quiet (fail)
            go_wp2_with fail
            go_meet
            exact ⟨rfl, belowN (Below.refl _ _) _⟩
          · go_wp2_with fail
            go_quiet (fail)
            go_wp2_with fail
            go_meet
            exact ⟨rfl, belowN (Below.refl _ _) _⟩
      case rest =>
        obtain ⟨rfl, hbc⟩ := hcut
        have HBC := Lib.hid (HB.out.trans (hbc.mono HB.out.size))
        have q0c : wc.cell? ⟨b, off + i, none⟩ = some (.slice (some ⟨bi, oi, none⟩) p.length ci) := (HBC.out.cell (p := ⟨b, _, none⟩) hb).trans ((HB.out.cell (p := ⟨b, _, none⟩) hb).symm.trans q0)
        obtain ⟨F, hF⟩ : ∃ F, (ps.take i).flatten = F := ⟨_, rfl⟩
        have hr := HR.out
        have hti : (ps.take i).flatten.length ≤ 150 := HFL.out i
        have htk := HTK.out
        rw [hF] at hr hti htk
        have HRW := Lib.hid (row_below hr.row hbc)
        have HRN := Lib.hid hr.new
        have HTF := Lib.hid htk
        have HSC := Lib.hid (HSR.out wc HBC.out)
        have HG1 := Lib.hid (show F.length + p.length ≤ maxLen by unfold maxLen; omega)
        have HG2 := Lib.hid (show (F.length + p.length) * 48 ≤ 140737488355328 by omega)
        clear hbc HSR HR hr htk HTK hF
        go_wp2_with (at_builtin; refine wpList_append_row _ rfl _ _ 22 22 rfl 29 i0 _ 4 48 Try.underlying22 hi hz0 hzs hzb rfl V _ _ rfl HRW.out _ rfl p.length _ HSC.out HG1.out HG2.out ?_)
        intro v1 w1 hrow1 hgrow1 hob1
        have hb1 := below_row HBC.out (Nat.le_refl _) hgrow1 HRN.out
        have hnew1 := ob_new hob1 HBC.out.size HRN.out
        have HN := Lib.hid (show NewR w3.heap.size w1 29 4 v1 (ps.take (i + 1)).flatten.length (cellsE (ps.take (i + 1)).flatten) from by
          rw [HTF.out, List.length_append, cellsE_append]
          exact ⟨hrow1, hnew1⟩)
        have HB1 := Lib.hid hb1
        clear hrow1 hgrow1 hob1 hnew1 hb1
        go_wp2_with fail
        go_roundw
        case rel => exact ⟨i + 1, v1, rfl, by go_num, hlt, HN, HB1⟩
        case measure => simp [intOf]; omega
    · obtain rfl : i = ps.length := by omega
      have h1 := HR.out
      rw [List.take_length, HFA.out] at h1
      obtain ⟨av, cv, rfl, hEv⟩ := row_ents h1.row
      have HEV := Lib.hid hEv
      clear h1 hEv HR
      go_wp2_with fail
      go_at_call 8
      refine (HAL.out _).mono ?_
      rintro _ w5 ⟨rfl, b5⟩
      have HSE := Lib.hid (same_ents (n1 := w5.heap.size) (n2 := w5.heap.size) av l cv lc es w5 ((HEV.out.below b5).mono b5.size) ((HE3.out.below (HB.out.trans (b5.mono HB.out.size))).mono (Nat.le_trans HB.out.size b5.size)) (by omega))
      go_wp2_with fail
      go_at_call 10
      refine HSE.out.mono ?_
      rintro _ w6 ⟨rfl, b6⟩
      have HW6 := Lib.hid (below_on HW3.out hle (HB.out.trans ((b5.trans (b6.mono b5.size)).mono HB.out.size)))
      clear b6
      go_wp2_with fail
      go_ret
      exact ⟨rfl, HW6.out⟩
end Go.Proofs.Ytcbailiniigcnaa
