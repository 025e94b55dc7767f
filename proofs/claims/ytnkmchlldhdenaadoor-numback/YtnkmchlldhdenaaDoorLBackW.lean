/- The walks of statement NumBack of chapter 1: it answers true for all lists, numbers and texts. -/
import Derived.Test.YtnkmchlldhdenaaDoorW5
import Derived.Test.YtnkmchlldhdenaaDoorW12
namespace Go.Proofs.YtnkmchlldhdenaaDoor
open Go.RowKit

set_option maxHeartbeats 2000000 in
theorem numBack_many (a0 : Option Addr) (len0 cap0 : Nat) (i : Int) (a2 : Option Addr) (len2 cap2 : Nat) (a b : Nat) (w : World) (h : 300 < len0) (htab : Tab w.heap.size w) :
    Calls Tryd.prog 5 #[.slice a0 len0 cap0, .int .i64 i, .slice a2 len2 cap2, .int .u64 a, .int .u64 b] w fun e w' => e = .returned (.bool true) ∧ Below w.heap.size w w' := by
  have HT := Lib.hid htab
  clear htab
  go_enter Tryd.func5, Tryd.ntmps5
  go_wp2_with (go_at_call 10; refine (alive_any w.heap.size _ (Nat.le_refl _) HT.out).mono ?_; rintro r w2 ⟨rfl, hb2⟩)
  go_ret
  exact ⟨rfl, hb2⟩

theorem IsRowU.below {w w' : World} {a : Option Addr} {len : Nat} {zs : List Nat} (h : IsRowU w a len zs) (hb : Below w.heap.size w w') : IsRowU w' a len zs := by
  obtain ⟨h1, h2, h3⟩ := h
  refine ⟨h1, h2, ?_⟩
  rcases h3 with h3 | ⟨b, off, e, hlt, hc⟩
  · exact .inl h3
  · exact .inr ⟨b, off, e, Nat.lt_of_lt_of_le hlt hb.size, fun i hi => (hb.cell (p := ⟨b, off + i, none⟩) hlt).trans (hc i hi)⟩
theorem IsRowS.below {w w' : World} {a : Option Addr} {len : Nat} {ss : List ByteArray} (h : IsRowS w a len ss) (hb : Below w.heap.size w w') : IsRowS w' a len ss := by
  obtain ⟨h1, h2, h3⟩ := h
  refine ⟨h1, h2, ?_⟩
  rcases h3 with h3 | ⟨b, off, e, hlt, hc⟩
  · exact .inl h3
  · exact .inr ⟨b, off, e, Nat.lt_of_lt_of_le hlt hb.size, fun i hi => (hb.cell (p := ⟨b, off + i, none⟩) hlt).trans (hc i hi)⟩

def boolB (i : Int) : List UInt8 := [boolByte (decide (0 < i))]
/-- All that is laid. -/
def laidL (zs : List Nat) (i : Int) (ss : List ByteArray) : List UInt8 := vars zs ++ (Lib.uvarint (Lib.zigzag i) ++ (texts ss ++ boolB i))

theorem rint_i (i : Int) (b : Nat) (rest : List UInt8) (w : World) (i0 : -9223372036854775808 ≤ i) (i1 : i ≤ 9223372036854775807) (h : IsRd w b ⟨(Lib.uvarint (Lib.zigzag i) ++ rest).toArray⟩ 0) (hs : rest.length ≤ 1000000) :
    Calls Tryd.prog 36 #[.pointer (some ⟨b, 0, none⟩)] w fun x w' => x = .returned (.int .i64 i) ∧ IsRd w' b ⟨rest.toArray⟩ 0 ∧ w.grownBy w' (some b) := by
  have hz := Lib.uvarint_length64 (Lib.zigzag_lt i0 i1)
  have := rint_ok b ⟨(Lib.uvarint (Lib.zigzag i) ++ rest).toArray⟩ w h (by show (Lib.uvarint (Lib.zigzag i) ++ rest).toArray.size ≤ _; simp; omega) (v := Lib.zigzag i) (r := rest) (decV_laid _ _ (Lib.zigzag_lt i0 i1)) (Lib.zigzag_lt i0 i1)
  rw [unzig_zig] at this
  exact this
theorem zag_i (i : Int) (w : World) (i0 : -9223372036854775808 ≤ i) (i1 : i ≤ 9223372036854775807) :
    Calls Tryd.prog 25 #[.int .u64 (Lib.zigzag i : Nat)] w fun e w' => e = .returned (.int .i64 i) ∧ w = w' := by
  have := zag_any (Lib.zigzag i) w (Lib.zigzag_lt i0 i1)
  rw [unzig_zig] at this
  exact this
theorem zig_u (u : Nat) (w : World) (h : u < 18446744073709551616) :
    Calls Tryd.prog 23 #[.int .i64 (Lib.unzigzag u)] w fun e w' => e = .returned (.int .u64 (u : Nat)) ∧ w = w' := by
  have := zig_any (Lib.unzigzag u) w (unzig_bounds u h).1 (unzig_bounds u h).2
  rw [zig_unzig] at this
  exact this
theorem str_eta (s : ByteArray) : (⟨s.data.toList.toArray⟩ : ByteArray) = s := by
  apply ByteArray.ext
  simp
theorem rtext_s (s : ByteArray) (b : Nat) (rest : List UInt8) (w : World) (h : IsRd w b ⟨(Lib.uvarint s.data.toList.length ++ (s.data.toList ++ rest)).toArray⟩ 0) (hs : s.size ≤ 6000) (hr : rest.length ≤ 1000000) :
    Calls Tryd.prog 39 #[.pointer (some ⟨b, 0, none⟩), .int .i64 6000] w fun x w' => x = .returned (.string s) ∧ IsRd w' b ⟨rest.toArray⟩ 0 ∧ w.grownBy w' (some b) := by
  have hl := len_data' s
  have hz := Lib.uvarint_length64 (x := s.data.toList.length) (by omega)
  have := rtext_ok b _ 6000 w h (by show (Lib.uvarint s.data.toList.length ++ (s.data.toList ++ rest)).toArray.size ≤ _; simp only [List.size_toArray, List.length_append]; omega) (by omega) (t := s.data.toList) (r := rest) (decT_laid 6000 _ _ (by omega) (by omega))
  rw [str_eta] at this
  exact this
theorem rbool_b (v : Bool) (b : Nat) (w : World) (h : IsRd w b ⟨[boolByte v].toArray⟩ 0) :
    Calls Tryd.prog 40 #[.pointer (some ⟨b, 0, none⟩)] w fun x w' => x = .returned (.bool v) ∧ IsRd w' b ⟨#[]⟩ 0 ∧ w.grownBy w' (some b) :=
  rbool_ok b ⟨[boolByte v].toArray⟩ w h (decB_laid v [])
theorem fix8 (v : Nat) (w : World) (h : v < 18446744073709551616) : Calls Tryd.prog 11 #[.int .u64 v, .int .i64 8] w fun e w' => e = .returned (.tuple #[.string ⟨(be v 8).toArray⟩, .int .i64 0]) ∧ Below w.heap.size w w' :=
  fix_ok v 8 w (by omega) (by omega) (by omega)
theorem unfix8 (v : Nat) (w : World) (h : v < 18446744073709551616) : Calls Tryd.prog 13 #[.string ⟨(be v 8).toArray⟩, .int .i64 0, .int .i64 8] w fun e w' => e = .returned (.tuple #[.int .u64 v, .int .i64 0]) ∧ w = w' := by
  have hz : (⟨(be v 8).toArray⟩ : ByteArray).size = 8 := by show (be v 8).toArray.size = 8; simp [be_length]
  have := unfix_front ⟨(be v 8).toArray⟩ 8 w (by omega) (by omega) (by omega) (by omega)
  rw [show (⟨(be v 8).toArray⟩ : ByteArray).data.toList.take 8 = be v 8 by rw [show (⟨(be v 8).toArray⟩ : ByteArray).data.toList = be v 8 by simp]; exact List.take_of_length_le (by rw [be_length]; exact Nat.le_refl _), beVal_be 8 v (by omega)] at this
  exact this

set_option maxHeartbeats 1600000 in
set_option maxRecDepth 100000 in
theorem numBack_ss (b0 off0 : Nat) (len0 cap0 : Nat) (zs : List Nat) (i : Int) (b2 off2 : Nat) (len2 cap2 : Nat) (ss : List ByteArray) (a b : Nat) (w : World)
    (h0 : IsRowU w (some ⟨b0, off0, none⟩) len0 zs) (h2 : IsRowS w (some ⟨b2, off2, none⟩) len2 ss) (hl0 : b0 < w.heap.size) (hc0 : ∀ i (h : i < zs.length), w.cell? ⟨b0, off0 + i, none⟩ = some (.int .u64 (zs[i] : Int))) (hl2 : b2 < w.heap.size) (hc2 : ∀ i (h : i < ss.length), w.cell? ⟨b2, off2 + i, none⟩ = some (.string ss[i])) (i0 : -9223372036854775808 ≤ i) (i1 : i ≤ 9223372036854775807) (ha : a < 18446744073709551616) (hb : b < 18446744073709551616)
    (h : ¬ 300 < len0) (htab : Tab w.heap.size w) :
    Calls Tryd.prog 5 #[.slice (some ⟨b0, off0, none⟩) len0 cap0, .int .i64 i, .slice (some ⟨b2, off2, none⟩) len2 cap2, .int .u64 a, .int .u64 b] w fun e w' => e = .returned (.bool true) ∧ Below w.heap.size w w' := by
  have HT := Lib.hid htab
  have HC0 := Lib.hid hc0
  clear hc0
  have HC2 := Lib.hid hc2
  clear hc2
  have H0 := Lib.hid h0
  have H2 := Lib.hid h2
  have hd : decide ((300 : Int) < (len0 : Int)) = false := by simp; omega
  clear htab h0 h2
  go_enter Tryd.func5, Tryd.ntmps5
  go_wp2_with fail
  refine (short_any 100 6000 (some ⟨b2, off2, none⟩) len2 cap2 ss _ (by omega) (by omega) (by omega) (by omega) H2.out).mono ?_
  rintro e w1 ⟨⟨t, rfl, ht⟩, hb1⟩
  cases t
  · clear ht
    go_wp2_with (go_at_call 10; refine (alive_any w.heap.size _ hb1.size (HT.out.on hb1)).mono ?_; rintro r w2 ⟨rfl, hb2⟩)
    go_ret
    exact ⟨rfl, hb1.trans (hb2.mono hb1.size)⟩
  · have HL := Lib.hid (ht rfl)
    clear ht
    have hl100 : len2 ≤ 100 := by
      have h1 := HL.out
      have h2 := H2.out.1
      omega
    have hlv : (vars zs).length ≤ 3000 := by
      have h1 := vars_length zs H0.out.2.1
      have h2 := H0.out.1
      omega
    have hlz : (Lib.uvarint (Lib.zigzag i)).length ≤ 10 := Lib.uvarint_length64 (Lib.zigzag_lt i0 i1)
    have hlx : (texts ss).length ≤ 7000 := by
      have h1 := texts_length ss H2.out.2.1
      have h2 := HL.out
      omega
    go_wp2_with fail
    refine (var_row (some ⟨b0, off0, none⟩) len0 cap0 zs _ (H0.out.below hb1) (by omega)).mono ?_
    rintro e w2 ⟨rfl, hb2⟩
    replace hb2 := hb1.trans (hb2.mono hb1.size)
    clear hb1
    go_wp2_with fail
    refine (zig_any i _ i0 i1).mono ?_
    rintro e w2' ⟨rfl, rfl⟩
    go_wp2_with fail
    refine (varOne w2.heap.size (Lib.zigzag i) _ (Lib.zigzag_lt i0 i1) (by simp) (by simp)).mono ?_
    rintro e w3 ⟨rfl, hb3⟩
    replace hb3 : Below w.heap.size w w3 := (hb2.alloc hb2.size _).trans (hb3.mono (by have := hb2.size; simp; omega))
    clear hb2
    go_wp2_with fail
    refine (text_row (some ⟨b2, off2, none⟩) len2 cap2 ss _ (H2.out.below hb3) (by have := HL.out; have := H2.out.1; omega)).mono ?_
    rintro e w4 ⟨rfl, hb4⟩
    replace hb4 := hb3.trans (hb4.mono hb3.size)
    clear hb3
    go_wp2_with fail
    refine (bool_one _ _).mono ?_
    rintro e w4' ⟨rfl, rfl⟩
    go_wp2_with fail
    refine (newReader_any _ _).mono ?_
    rintro e w5 ⟨rfl, hr5, hb5, -⟩
    replace hb5 := hb4.trans (hb5.mono hb4.size)
    have hB := hb4.size
    obtain ⟨R, hR⟩ : ∃ R, R = w4.heap.size := ⟨_, rfl⟩
    rw [← hR] at hr5 hB
    rw [show w4.heap.size = R from hR.symm]
    clear hb4 hR
    replace hr5 : IsRd w5 R ⟨(vars zs ++ (Lib.uvarint (Lib.zigzag i) ++ (texts ss ++ boolB i))).toArray⟩ 0 := by
      have e : ∀ x y z u : List UInt8, (⟨x.toArray⟩ : ByteArray) ++ ⟨y.toArray⟩ ++ ⟨z.toArray⟩ ++ ⟨u.toArray⟩ = ⟨(x ++ (y ++ (z ++ u))).toArray⟩ := by
        intro x y z u
        rw [cat_str, cat_str, cat_str]
        simp only [List.append_assoc]
      rw [← e]
      exact hr5
    obtain ⟨T, hT⟩ : ∃ T, T = Lib.uvarint (Lib.zigzag i) ++ (texts ss ++ boolB i) := ⟨_, rfl⟩
    rw [← hT] at hr5
    have hTl : T.length ≤ 8000 := by rw [hT]; simp [boolB]; omega
    have HSZ : ∀ k, Hid ((⟨(vars (zs.drop k) ++ T).toArray⟩ : ByteArray).size ≤ 9223372036854775807) := by
      intro k
      show (vars (zs.drop k) ++ T).toArray.size ≤ _
      have h1 := vars_length (zs.drop k) (fun z hz => H0.out.2.1 z (List.mem_of_mem_drop hz))
      have h2 := H0.out.1
      simp only [List.length_drop] at h1
      simp
      omega
    have HXZ : ∀ k, Hid ((texts (ss.drop k) ++ boolB i).length ≤ 1000000) := by
      intro k
      show _ ≤ _
      have h1 := texts_length (ss.drop k) (fun z hz => H2.out.2.1 z (List.mem_of_mem_drop hz))
      have h2 := HL.out
      have h3 : total (ss.drop k) ≤ total ss := by
        have := congrArg total (List.take_append_drop k ss)
        unfold total at this ⊢
        rw [List.map_append, List.sum_append] at this
        omega
      simp only [List.length_drop] at h1
      simp [boolB]
      omega
    have HTT := Lib.hid hT
    clear hT hTl
    go_wp2
    go_loopw [12] (fun vk wr => ∃ k : Nat, k ≤ len0 ∧ vk = .int .i64 k ∧ IsRd wr R ⟨(vars (zs.drop k) ++ T).toArray⟩ 0 ∧ Below w.heap.size w wr) (fun vk _ => len0 - (intOf vk).toNat)
    case atStart => exact ⟨0, Nat.zero_le _, rfl, hr5, hb5⟩
    case round =>
      obtain ⟨k, hk, rfl, hr, hnx⟩ := hrel
      clear hr5 hb5
      by_cases hlt : k < len0
      · have hz : k < zs.length := by have := H0.out.1; omega
        have hcx : wr.cell? ⟨b0, off0 + k, none⟩ = some (.int .u64 (zs[k] : Int)) := (hnx.cell (by exact hl0)).trans (HC0.out k hz)
        have hzk := H0.out.2.1 zs[k] (List.getElem_mem hz)
        have hne : b0 ≠ R := by omega
        have HV : Hid (decV 0 0 (⟨(vars (zs.drop k) ++ T).toArray⟩ : ByteArray).data.toList = (zs[k], vars (zs.drop (k + 1)) ++ T, 0)) := by
          show decV 0 0 (vars (zs.drop k) ++ T) = _
          rw [vars_cons zs k hz, decV_laid _ _ hzk]
        have HZ := HSZ k
        have HR := Lib.hid hr
        clear hr hzk
        go_wp2
        go_region_with (go_at_call 34; refine (rvar_ok R _ _ ?_ HZ.out HV.out).mono ?_; (first | exact HR.out | exact HR.out.drewN 1); rintro e w1 ⟨rfl, hr1, hg1⟩; have hcx1 := hg1.cell hcx (by simpa using hne))
        all_goals
          clear HR HV HZ
          go_wp2
          go_roundw
          case rel => exact ⟨k + 1, by omega, by go_num, hr1, hnx.drew.trans (below_of_grownBy hg1 hB hnx.size)⟩
          case measure => simp [intOf]; omega
      · have hke : zs.drop k = [] := List.drop_eq_nil_of_le (by have := H0.out.1; omega)
        rw [hke] at hr
        have hr' : IsRd wr R ⟨(Lib.uvarint (Lib.zigzag i) ++ (texts ss ++ boolB i)).toArray⟩ 0 := by
          rw [← HTT.out]; exact hr
        have HR := Lib.hid hr'
        have HY : Hid ((texts ss ++ boolB i).length ≤ 1000000) := HXZ 0
        clear hr hr' hke HSZ HTT
        go_wp2_with fail
        refine (rint_i i R _ _ i0 i1 HR.out HY.out).mono ?_
        rintro e w6 ⟨rfl, hr6, hg6⟩
        have hb6 := hnx.trans (below_of_grownBy hg6 hB hnx.size)
        clear HR HY hg6 hnx
        go_wp2_with fail
        refine (zig_any i _ i0 i1).mono ?_
        rintro e w6' ⟨rfl, rfl⟩
        go_wp2_with fail
        refine (zag_i i _ i0 i1).mono ?_
        rintro e w6' ⟨rfl, rfl⟩
        go_wp2_with fail
        refine (zag_any a _ ha).mono ?_
        rintro e w6' ⟨rfl, rfl⟩
        go_wp2_with fail
        refine (zig_u a _ ha).mono ?_
        rintro e w6' ⟨rfl, rfl⟩
        obtain ⟨wo, hwo⟩ : ∃ wo : World, wo = wr := ⟨_, rfl⟩
        clear hwo
        go_wp2
        go_loopw [13] (fun vk wr => ∃ m : Nat, m ≤ len2 ∧ vk = .int .i64 m ∧ IsRd wr R ⟨(texts (ss.drop m) ++ boolB i).toArray⟩ 0 ∧ Below w.heap.size w wr) (fun vk _ => len2 - (intOf vk).toNat)
        case atStart => exact ⟨0, Nat.zero_le _, rfl, hr6, hb6⟩
        case round =>
          obtain ⟨m, hm, rfl, hr2, hnx2⟩ := hrel
          clear hr6 hb6
          by_cases hlt2 : m < len2
          · have hz : m < ss.length := by have := H2.out.1; omega
            have hcx : wr.cell? ⟨b2, off2 + m, none⟩ = some (.string ss[m]) := (hnx2.cell (by exact hl2)).trans (HC2.out m hz)
            have hne : b2 ≠ R := by omega
            have hsm : ss[m].size ≤ 6000 := by have := total_take ss m hz; have := HL.out; omega
            have HR : Hid (IsRd wr R ⟨(Lib.uvarint ss[m].data.toList.length ++ (ss[m].data.toList ++ (texts (ss.drop (m + 1)) ++ boolB i))).toArray⟩ 0) := by
              rw [← texts_cons ss m hz]; exact hr2
            have HS := Lib.hid hsm
            have HY := HXZ (m + 1)
            clear hr2 hsm
            go_wp2
            go_region_with (go_at_call 39; refine (rtext_s _ R _ _ ?_ HS.out HY.out).mono ?_; (first | exact HR.out | exact HR.out.drewN 1); rintro e w1 ⟨rfl, hr1, hg1⟩; have hcx1 := hg1.cell hcx (by simpa using hne))
            all_goals
              clear HR HS HY
              go_wp2
              go_roundw
              case rel => exact ⟨m + 1, by omega, by go_num, hr1, hnx2.drew.trans (below_of_grownBy hg1 hB hnx2.size)⟩
              case measure => simp [intOf]; omega
          · have hke : ss.drop m = [] := List.drop_eq_nil_of_le (by have := H2.out.1; omega)
            rw [hke] at hr2
            have HR : Hid (IsRd wr R ⟨[boolByte (decide (0 < i))].toArray⟩ 0) := hr2
            clear hr2 hke HXZ
            have hbl := be_less 8 a b (by omega) (by omega)
            have huv := uvarint_eq a b ha hb
            have HBL := Lib.hid hbl
            have HUV := Lib.hid huv
            clear hbl huv
            go_wp2_with fail
            refine (rbool_b _ R _ HR.out).mono ?_
            rintro e w7 ⟨rfl, hr7, hg7⟩
            have hb7 := hnx2.trans (below_of_grownBy hg7 hB hnx2.size)
            clear HR hg7 hnx2
            go_wp2_with fail
            refine (end_ok _ _ _ hr7 rfl).mono ?_
            rintro e w7' ⟨rfl, rfl⟩
            clear hr7
            go_wp2_with fail
            refine (fix8 a _ ha).mono ?_
            rintro e w8 ⟨rfl, hb8⟩
            replace hb8 := hb7.trans (hb8.mono hb7.size)
            clear hb7
            go_wp2_with fail
            refine (fix8 b _ hb).mono ?_
            rintro e w9 ⟨rfl, hb9⟩
            replace hb9 := hb8.trans (hb9.mono hb8.size)
            clear hb8
            go_wp2_with fail
            refine (unfix8 a _ ha).mono ?_
            rintro e w9' ⟨rfl, rfl⟩
            go_wp2_with fail
            refine (alive_any w.heap.size _ hb9.size (HT.out.on hb9)).mono ?_
            rintro e w10 ⟨rfl, hb10⟩
            replace hb10 := hb9.trans (hb10.mono hb9.size)
            clear hb9
            have hbl := HBL.out
            go_wp2_with fail
            refine (varOne w10.heap.size a _ ha (by simp) (by simp)).mono ?_
            rintro e w11 ⟨rfl, hb11⟩
            replace hb11 : Below w.heap.size w w11 := (hb10.alloc hb10.size _).trans (hb11.mono (by have := hb10.size; simp; omega))
            clear hb10
            go_wp2_with fail
            refine (varOne w11.heap.size b _ hb (by simp) (by simp)).mono ?_
            rintro e w12 ⟨rfl, hb12⟩
            replace hb12 : Below w.heap.size w w12 := (hb11.alloc hb11.size _).trans (hb12.mono (by have := hb11.size; simp; omega))
            clear hb11 hbl
            go_wp2
            go_ret
            exact ⟨ret_bool' (by rw [HUV.out]; exact beq_self_eq_true _), hb12⟩

set_option maxHeartbeats 1600000 in
set_option maxRecDepth 100000 in
theorem numBack_sn (b0 off0 : Nat) (len0 cap0 : Nat) (zs : List Nat) (i : Int) (a2 : Option Addr) (cap2 : Nat) (ss : List ByteArray) (a b : Nat) (w : World)
    (h0 : IsRowU w (some ⟨b0, off0, none⟩) len0 zs) (h2 : IsRowS w a2 0 ss) (hl0 : b0 < w.heap.size) (hc0 : ∀ i (h : i < zs.length), w.cell? ⟨b0, off0 + i, none⟩ = some (.int .u64 (zs[i] : Int)))  (i0 : -9223372036854775808 ≤ i) (i1 : i ≤ 9223372036854775807) (ha : a < 18446744073709551616) (hb : b < 18446744073709551616)
    (h : ¬ 300 < len0) (htab : Tab w.heap.size w) :
    Calls Tryd.prog 5 #[.slice (some ⟨b0, off0, none⟩) len0 cap0, .int .i64 i, .slice a2 0 cap2, .int .u64 a, .int .u64 b] w fun e w' => e = .returned (.bool true) ∧ Below w.heap.size w w' := by
  have HT := Lib.hid htab
  have HC0 := Lib.hid hc0
  clear hc0
  have H0 := Lib.hid h0
  have H2 := Lib.hid h2
  have hd : decide ((300 : Int) < (len0 : Int)) = false := by simp; omega
  clear htab h0 h2
  go_enter Tryd.func5, Tryd.ntmps5
  go_wp2_with fail
  refine (short_any 100 6000 a2 0 cap2 ss _ (by omega) (by omega) (by omega) (by omega) H2.out).mono ?_
  rintro e w1 ⟨⟨t, rfl, ht⟩, hb1⟩
  cases t
  · clear ht
    go_wp2_with (go_at_call 10; refine (alive_any w.heap.size _ hb1.size (HT.out.on hb1)).mono ?_; rintro r w2 ⟨rfl, hb2⟩)
    go_ret
    exact ⟨rfl, hb1.trans (hb2.mono hb1.size)⟩
  · have HL := Lib.hid (ht rfl)
    clear ht
    have hl100 : 0 ≤ 100 := by
      have h1 := HL.out
      have h2 := H2.out.1
      omega
    have hlv : (vars zs).length ≤ 3000 := by
      have h1 := vars_length zs H0.out.2.1
      have h2 := H0.out.1
      omega
    have hlz : (Lib.uvarint (Lib.zigzag i)).length ≤ 10 := Lib.uvarint_length64 (Lib.zigzag_lt i0 i1)
    have hlx : (texts ss).length ≤ 7000 := by
      have h1 := texts_length ss H2.out.2.1
      have h2 := HL.out
      omega
    go_wp2_with fail
    refine (var_row (some ⟨b0, off0, none⟩) len0 cap0 zs _ (H0.out.below hb1) (by omega)).mono ?_
    rintro e w2 ⟨rfl, hb2⟩
    replace hb2 := hb1.trans (hb2.mono hb1.size)
    clear hb1
    go_wp2_with fail
    refine (zig_any i _ i0 i1).mono ?_
    rintro e w2' ⟨rfl, rfl⟩
    go_wp2_with fail
    refine (varOne w2.heap.size (Lib.zigzag i) _ (Lib.zigzag_lt i0 i1) (by simp) (by simp)).mono ?_
    rintro e w3 ⟨rfl, hb3⟩
    replace hb3 : Below w.heap.size w w3 := (hb2.alloc hb2.size _).trans (hb3.mono (by have := hb2.size; simp; omega))
    clear hb2
    go_wp2_with fail
    refine (text_row a2 0 cap2 ss _ (H2.out.below hb3) (by have := HL.out; have := H2.out.1; omega)).mono ?_
    rintro e w4 ⟨rfl, hb4⟩
    replace hb4 := hb3.trans (hb4.mono hb3.size)
    clear hb3
    go_wp2_with fail
    refine (bool_one _ _).mono ?_
    rintro e w4' ⟨rfl, rfl⟩
    go_wp2_with fail
    refine (newReader_any _ _).mono ?_
    rintro e w5 ⟨rfl, hr5, hb5, -⟩
    replace hb5 := hb4.trans (hb5.mono hb4.size)
    have hB := hb4.size
    obtain ⟨R, hR⟩ : ∃ R, R = w4.heap.size := ⟨_, rfl⟩
    rw [← hR] at hr5 hB
    rw [show w4.heap.size = R from hR.symm]
    clear hb4 hR
    replace hr5 : IsRd w5 R ⟨(vars zs ++ (Lib.uvarint (Lib.zigzag i) ++ (texts ss ++ boolB i))).toArray⟩ 0 := by
      have e : ∀ x y z u : List UInt8, (⟨x.toArray⟩ : ByteArray) ++ ⟨y.toArray⟩ ++ ⟨z.toArray⟩ ++ ⟨u.toArray⟩ = ⟨(x ++ (y ++ (z ++ u))).toArray⟩ := by
        intro x y z u
        rw [cat_str, cat_str, cat_str]
        simp only [List.append_assoc]
      rw [← e]
      exact hr5
    obtain ⟨T, hT⟩ : ∃ T, T = Lib.uvarint (Lib.zigzag i) ++ (texts ss ++ boolB i) := ⟨_, rfl⟩
    rw [← hT] at hr5
    have hTl : T.length ≤ 8000 := by rw [hT]; simp [boolB]; omega
    have HSZ : ∀ k, Hid ((⟨(vars (zs.drop k) ++ T).toArray⟩ : ByteArray).size ≤ 9223372036854775807) := by
      intro k
      show (vars (zs.drop k) ++ T).toArray.size ≤ _
      have h1 := vars_length (zs.drop k) (fun z hz => H0.out.2.1 z (List.mem_of_mem_drop hz))
      have h2 := H0.out.1
      simp only [List.length_drop] at h1
      simp
      omega
    have HXZ : ∀ k, Hid ((texts (ss.drop k) ++ boolB i).length ≤ 1000000) := by
      intro k
      show _ ≤ _
      have h1 := texts_length (ss.drop k) (fun z hz => H2.out.2.1 z (List.mem_of_mem_drop hz))
      have h2 := HL.out
      have h3 : total (ss.drop k) ≤ total ss := by
        have := congrArg total (List.take_append_drop k ss)
        unfold total at this ⊢
        rw [List.map_append, List.sum_append] at this
        omega
      simp only [List.length_drop] at h1
      simp [boolB]
      omega
    have HTT := Lib.hid hT
    clear hT hTl
    go_wp2
    go_loopw [12] (fun vk wr => ∃ k : Nat, k ≤ len0 ∧ vk = .int .i64 k ∧ IsRd wr R ⟨(vars (zs.drop k) ++ T).toArray⟩ 0 ∧ Below w.heap.size w wr) (fun vk _ => len0 - (intOf vk).toNat)
    case atStart => exact ⟨0, Nat.zero_le _, rfl, hr5, hb5⟩
    case round =>
      obtain ⟨k, hk, rfl, hr, hnx⟩ := hrel
      clear hr5 hb5
      by_cases hlt : k < len0
      · have hz : k < zs.length := by have := H0.out.1; omega
        have hcx : wr.cell? ⟨b0, off0 + k, none⟩ = some (.int .u64 (zs[k] : Int)) := (hnx.cell (by exact hl0)).trans (HC0.out k hz)
        have hzk := H0.out.2.1 zs[k] (List.getElem_mem hz)
        have hne : b0 ≠ R := by omega
        have HV : Hid (decV 0 0 (⟨(vars (zs.drop k) ++ T).toArray⟩ : ByteArray).data.toList = (zs[k], vars (zs.drop (k + 1)) ++ T, 0)) := by
          show decV 0 0 (vars (zs.drop k) ++ T) = _
          rw [vars_cons zs k hz, decV_laid _ _ hzk]
        have HZ := HSZ k
        have HR := Lib.hid hr
        clear hr hzk
        go_wp2
        go_region_with (go_at_call 34; refine (rvar_ok R _ _ ?_ HZ.out HV.out).mono ?_; (first | exact HR.out | exact HR.out.drewN 1); rintro e w1 ⟨rfl, hr1, hg1⟩; have hcx1 := hg1.cell hcx (by simpa using hne))
        all_goals
          clear HR HV HZ
          go_wp2
          go_roundw
          case rel => exact ⟨k + 1, by omega, by go_num, hr1, hnx.drew.trans (below_of_grownBy hg1 hB hnx.size)⟩
          case measure => simp [intOf]; omega
      · have hke : zs.drop k = [] := List.drop_eq_nil_of_le (by have := H0.out.1; omega)
        rw [hke] at hr
        have hr' : IsRd wr R ⟨(Lib.uvarint (Lib.zigzag i) ++ (texts ss ++ boolB i)).toArray⟩ 0 := by
          rw [← HTT.out]; exact hr
        have HR := Lib.hid hr'
        have HY : Hid ((texts ss ++ boolB i).length ≤ 1000000) := HXZ 0
        clear hr hr' hke HSZ HTT
        go_wp2_with fail
        refine (rint_i i R _ _ i0 i1 HR.out HY.out).mono ?_
        rintro e w6 ⟨rfl, hr6, hg6⟩
        have hb6 := hnx.trans (below_of_grownBy hg6 hB hnx.size)
        clear HR HY hg6 hnx
        go_wp2_with fail
        refine (zig_any i _ i0 i1).mono ?_
        rintro e w6' ⟨rfl, rfl⟩
        go_wp2_with fail
        refine (zag_i i _ i0 i1).mono ?_
        rintro e w6' ⟨rfl, rfl⟩
        go_wp2_with fail
        refine (zag_any a _ ha).mono ?_
        rintro e w6' ⟨rfl, rfl⟩
        go_wp2_with fail
        refine (zig_u a _ ha).mono ?_
        rintro e w6' ⟨rfl, rfl⟩
        obtain ⟨wo, hwo⟩ : ∃ wo : World, wo = wr := ⟨_, rfl⟩
        clear hwo
        go_wp2
        go_loopw [13] (fun vk wr => ∃ m : Nat, m ≤ 0 ∧ vk = .int .i64 m ∧ IsRd wr R ⟨(texts (ss.drop m) ++ boolB i).toArray⟩ 0 ∧ Below w.heap.size w wr) (fun vk _ => 0 - (intOf vk).toNat)
        case atStart => exact ⟨0, Nat.zero_le _, rfl, hr6, hb6⟩
        case round =>
          obtain ⟨m, hm, rfl, hr2, hnx2⟩ := hrel
          clear hr6 hb6
          by_cases hlt2 : m < 0
          · exfalso
            omega
          · have hke : ss.drop m = [] := List.drop_eq_nil_of_le (by have := H2.out.1; omega)
            rw [hke] at hr2
            have HR : Hid (IsRd wr R ⟨[boolByte (decide (0 < i))].toArray⟩ 0) := hr2
            clear hr2 hke HXZ
            have hbl := be_less 8 a b (by omega) (by omega)
            have huv := uvarint_eq a b ha hb
            have HBL := Lib.hid hbl
            have HUV := Lib.hid huv
            clear hbl huv
            go_wp2_with fail
            refine (rbool_b _ R _ HR.out).mono ?_
            rintro e w7 ⟨rfl, hr7, hg7⟩
            have hb7 := hnx2.trans (below_of_grownBy hg7 hB hnx2.size)
            clear HR hg7 hnx2
            go_wp2_with fail
            refine (end_ok _ _ _ hr7 rfl).mono ?_
            rintro e w7' ⟨rfl, rfl⟩
            clear hr7
            go_wp2_with fail
            refine (fix8 a _ ha).mono ?_
            rintro e w8 ⟨rfl, hb8⟩
            replace hb8 := hb7.trans (hb8.mono hb7.size)
            clear hb7
            go_wp2_with fail
            refine (fix8 b _ hb).mono ?_
            rintro e w9 ⟨rfl, hb9⟩
            replace hb9 := hb8.trans (hb9.mono hb8.size)
            clear hb8
            go_wp2_with fail
            refine (unfix8 a _ ha).mono ?_
            rintro e w9' ⟨rfl, rfl⟩
            go_wp2_with fail
            refine (alive_any w.heap.size _ hb9.size (HT.out.on hb9)).mono ?_
            rintro e w10 ⟨rfl, hb10⟩
            replace hb10 := hb9.trans (hb10.mono hb9.size)
            clear hb9
            have hbl := HBL.out
            go_wp2_with fail
            refine (varOne w10.heap.size a _ ha (by simp) (by simp)).mono ?_
            rintro e w11 ⟨rfl, hb11⟩
            replace hb11 : Below w.heap.size w w11 := (hb10.alloc hb10.size _).trans (hb11.mono (by have := hb10.size; simp; omega))
            clear hb10
            go_wp2_with fail
            refine (varOne w11.heap.size b _ hb (by simp) (by simp)).mono ?_
            rintro e w12 ⟨rfl, hb12⟩
            replace hb12 : Below w.heap.size w w12 := (hb11.alloc hb11.size _).trans (hb12.mono (by have := hb11.size; simp; omega))
            clear hb11 hbl
            go_wp2
            go_ret
            exact ⟨ret_bool' (by rw [HUV.out]; exact beq_self_eq_true _), hb12⟩

set_option maxHeartbeats 1600000 in
set_option maxRecDepth 100000 in
theorem numBack_ns (a0 : Option Addr) (cap0 : Nat) (zs : List Nat) (i : Int) (b2 off2 : Nat) (len2 cap2 : Nat) (ss : List ByteArray) (a b : Nat) (w : World)
    (h0 : IsRowU w a0 0 zs) (h2 : IsRowS w (some ⟨b2, off2, none⟩) len2 ss)  (hl2 : b2 < w.heap.size) (hc2 : ∀ i (h : i < ss.length), w.cell? ⟨b2, off2 + i, none⟩ = some (.string ss[i])) (i0 : -9223372036854775808 ≤ i) (i1 : i ≤ 9223372036854775807) (ha : a < 18446744073709551616) (hb : b < 18446744073709551616)
    (htab : Tab w.heap.size w) :
    Calls Tryd.prog 5 #[.slice a0 0 cap0, .int .i64 i, .slice (some ⟨b2, off2, none⟩) len2 cap2, .int .u64 a, .int .u64 b] w fun e w' => e = .returned (.bool true) ∧ Below w.heap.size w w' := by
  have HT := Lib.hid htab
  have HC2 := Lib.hid hc2
  clear hc2
  have H0 := Lib.hid h0
  have H2 := Lib.hid h2
  clear htab h0 h2
  go_enter Tryd.func5, Tryd.ntmps5
  go_wp2_with fail
  refine (short_any 100 6000 (some ⟨b2, off2, none⟩) len2 cap2 ss _ (by omega) (by omega) (by omega) (by omega) H2.out).mono ?_
  rintro e w1 ⟨⟨t, rfl, ht⟩, hb1⟩
  cases t
  · clear ht
    go_wp2_with (go_at_call 10; refine (alive_any w.heap.size _ hb1.size (HT.out.on hb1)).mono ?_; rintro r w2 ⟨rfl, hb2⟩)
    go_ret
    exact ⟨rfl, hb1.trans (hb2.mono hb1.size)⟩
  · have HL := Lib.hid (ht rfl)
    clear ht
    have hl100 : len2 ≤ 100 := by
      have h1 := HL.out
      have h2 := H2.out.1
      omega
    have hlv : (vars zs).length ≤ 3000 := by
      have h1 := vars_length zs H0.out.2.1
      have h2 := H0.out.1
      omega
    have hlz : (Lib.uvarint (Lib.zigzag i)).length ≤ 10 := Lib.uvarint_length64 (Lib.zigzag_lt i0 i1)
    have hlx : (texts ss).length ≤ 7000 := by
      have h1 := texts_length ss H2.out.2.1
      have h2 := HL.out
      omega
    go_wp2_with fail
    refine (var_row a0 0 cap0 zs _ (H0.out.below hb1) (by omega)).mono ?_
    rintro e w2 ⟨rfl, hb2⟩
    replace hb2 := hb1.trans (hb2.mono hb1.size)
    clear hb1
    go_wp2_with fail
    refine (zig_any i _ i0 i1).mono ?_
    rintro e w2' ⟨rfl, rfl⟩
    go_wp2_with fail
    refine (varOne w2.heap.size (Lib.zigzag i) _ (Lib.zigzag_lt i0 i1) (by simp) (by simp)).mono ?_
    rintro e w3 ⟨rfl, hb3⟩
    replace hb3 : Below w.heap.size w w3 := (hb2.alloc hb2.size _).trans (hb3.mono (by have := hb2.size; simp; omega))
    clear hb2
    go_wp2_with fail
    refine (text_row (some ⟨b2, off2, none⟩) len2 cap2 ss _ (H2.out.below hb3) (by have := HL.out; have := H2.out.1; omega)).mono ?_
    rintro e w4 ⟨rfl, hb4⟩
    replace hb4 := hb3.trans (hb4.mono hb3.size)
    clear hb3
    go_wp2_with fail
    refine (bool_one _ _).mono ?_
    rintro e w4' ⟨rfl, rfl⟩
    go_wp2_with fail
    refine (newReader_any _ _).mono ?_
    rintro e w5 ⟨rfl, hr5, hb5, -⟩
    replace hb5 := hb4.trans (hb5.mono hb4.size)
    have hB := hb4.size
    obtain ⟨R, hR⟩ : ∃ R, R = w4.heap.size := ⟨_, rfl⟩
    rw [← hR] at hr5 hB
    rw [show w4.heap.size = R from hR.symm]
    clear hb4 hR
    replace hr5 : IsRd w5 R ⟨(vars zs ++ (Lib.uvarint (Lib.zigzag i) ++ (texts ss ++ boolB i))).toArray⟩ 0 := by
      have e : ∀ x y z u : List UInt8, (⟨x.toArray⟩ : ByteArray) ++ ⟨y.toArray⟩ ++ ⟨z.toArray⟩ ++ ⟨u.toArray⟩ = ⟨(x ++ (y ++ (z ++ u))).toArray⟩ := by
        intro x y z u
        rw [cat_str, cat_str, cat_str]
        simp only [List.append_assoc]
      rw [← e]
      exact hr5
    obtain ⟨T, hT⟩ : ∃ T, T = Lib.uvarint (Lib.zigzag i) ++ (texts ss ++ boolB i) := ⟨_, rfl⟩
    rw [← hT] at hr5
    have hTl : T.length ≤ 8000 := by rw [hT]; simp [boolB]; omega
    have HSZ : ∀ k, Hid ((⟨(vars (zs.drop k) ++ T).toArray⟩ : ByteArray).size ≤ 9223372036854775807) := by
      intro k
      show (vars (zs.drop k) ++ T).toArray.size ≤ _
      have h1 := vars_length (zs.drop k) (fun z hz => H0.out.2.1 z (List.mem_of_mem_drop hz))
      have h2 := H0.out.1
      simp only [List.length_drop] at h1
      simp
      omega
    have HXZ : ∀ k, Hid ((texts (ss.drop k) ++ boolB i).length ≤ 1000000) := by
      intro k
      show _ ≤ _
      have h1 := texts_length (ss.drop k) (fun z hz => H2.out.2.1 z (List.mem_of_mem_drop hz))
      have h2 := HL.out
      have h3 : total (ss.drop k) ≤ total ss := by
        have := congrArg total (List.take_append_drop k ss)
        unfold total at this ⊢
        rw [List.map_append, List.sum_append] at this
        omega
      simp only [List.length_drop] at h1
      simp [boolB]
      omega
    have HTT := Lib.hid hT
    clear hT hTl
    go_wp2
    go_loopw [12] (fun vk wr => ∃ k : Nat, k ≤ 0 ∧ vk = .int .i64 k ∧ IsRd wr R ⟨(vars (zs.drop k) ++ T).toArray⟩ 0 ∧ Below w.heap.size w wr) (fun vk _ => 0 - (intOf vk).toNat)
    case atStart => exact ⟨0, Nat.zero_le _, rfl, hr5, hb5⟩
    case round =>
      obtain ⟨k, hk, rfl, hr, hnx⟩ := hrel
      clear hr5 hb5
      by_cases hlt : k < 0
      · exfalso
        omega
      · have hke : zs.drop k = [] := List.drop_eq_nil_of_le (by have := H0.out.1; omega)
        rw [hke] at hr
        have hr' : IsRd wr R ⟨(Lib.uvarint (Lib.zigzag i) ++ (texts ss ++ boolB i)).toArray⟩ 0 := by
          rw [← HTT.out]; exact hr
        have HR := Lib.hid hr'
        have HY : Hid ((texts ss ++ boolB i).length ≤ 1000000) := HXZ 0
        clear hr hr' hke HSZ HTT
        go_wp2_with fail
        refine (rint_i i R _ _ i0 i1 HR.out HY.out).mono ?_
        rintro e w6 ⟨rfl, hr6, hg6⟩
        have hb6 := hnx.trans (below_of_grownBy hg6 hB hnx.size)
        clear HR HY hg6 hnx
        go_wp2_with fail
        refine (zig_any i _ i0 i1).mono ?_
        rintro e w6' ⟨rfl, rfl⟩
        go_wp2_with fail
        refine (zag_i i _ i0 i1).mono ?_
        rintro e w6' ⟨rfl, rfl⟩
        go_wp2_with fail
        refine (zag_any a _ ha).mono ?_
        rintro e w6' ⟨rfl, rfl⟩
        go_wp2_with fail
        refine (zig_u a _ ha).mono ?_
        rintro e w6' ⟨rfl, rfl⟩
        obtain ⟨wo, hwo⟩ : ∃ wo : World, wo = wr := ⟨_, rfl⟩
        clear hwo
        go_wp2
        go_loopw [13] (fun vk wr => ∃ m : Nat, m ≤ len2 ∧ vk = .int .i64 m ∧ IsRd wr R ⟨(texts (ss.drop m) ++ boolB i).toArray⟩ 0 ∧ Below w.heap.size w wr) (fun vk _ => len2 - (intOf vk).toNat)
        case atStart => exact ⟨0, Nat.zero_le _, rfl, hr6, hb6⟩
        case round =>
          obtain ⟨m, hm, rfl, hr2, hnx2⟩ := hrel
          clear hr6 hb6
          by_cases hlt2 : m < len2
          · have hz : m < ss.length := by have := H2.out.1; omega
            have hcx : wr.cell? ⟨b2, off2 + m, none⟩ = some (.string ss[m]) := (hnx2.cell (by exact hl2)).trans (HC2.out m hz)
            have hne : b2 ≠ R := by omega
            have hsm : ss[m].size ≤ 6000 := by have := total_take ss m hz; have := HL.out; omega
            have HR : Hid (IsRd wr R ⟨(Lib.uvarint ss[m].data.toList.length ++ (ss[m].data.toList ++ (texts (ss.drop (m + 1)) ++ boolB i))).toArray⟩ 0) := by
              rw [← texts_cons ss m hz]; exact hr2
            have HS := Lib.hid hsm
            have HY := HXZ (m + 1)
            clear hr2 hsm
            go_wp2
            go_region_with (go_at_call 39; refine (rtext_s _ R _ _ ?_ HS.out HY.out).mono ?_; (first | exact HR.out | exact HR.out.drewN 1); rintro e w1 ⟨rfl, hr1, hg1⟩; have hcx1 := hg1.cell hcx (by simpa using hne))
            all_goals
              clear HR HS HY
              go_wp2
              go_roundw
              case rel => exact ⟨m + 1, by omega, by go_num, hr1, hnx2.drew.trans (below_of_grownBy hg1 hB hnx2.size)⟩
              case measure => simp [intOf]; omega
          · have hke : ss.drop m = [] := List.drop_eq_nil_of_le (by have := H2.out.1; omega)
            rw [hke] at hr2
            have HR : Hid (IsRd wr R ⟨[boolByte (decide (0 < i))].toArray⟩ 0) := hr2
            clear hr2 hke HXZ
            have hbl := be_less 8 a b (by omega) (by omega)
            have huv := uvarint_eq a b ha hb
            have HBL := Lib.hid hbl
            have HUV := Lib.hid huv
            clear hbl huv
            go_wp2_with fail
            refine (rbool_b _ R _ HR.out).mono ?_
            rintro e w7 ⟨rfl, hr7, hg7⟩
            have hb7 := hnx2.trans (below_of_grownBy hg7 hB hnx2.size)
            clear HR hg7 hnx2
            go_wp2_with fail
            refine (end_ok _ _ _ hr7 rfl).mono ?_
            rintro e w7' ⟨rfl, rfl⟩
            clear hr7
            go_wp2_with fail
            refine (fix8 a _ ha).mono ?_
            rintro e w8 ⟨rfl, hb8⟩
            replace hb8 := hb7.trans (hb8.mono hb7.size)
            clear hb7
            go_wp2_with fail
            refine (fix8 b _ hb).mono ?_
            rintro e w9 ⟨rfl, hb9⟩
            replace hb9 := hb8.trans (hb9.mono hb8.size)
            clear hb8
            go_wp2_with fail
            refine (unfix8 a _ ha).mono ?_
            rintro e w9' ⟨rfl, rfl⟩
            go_wp2_with fail
            refine (alive_any w.heap.size _ hb9.size (HT.out.on hb9)).mono ?_
            rintro e w10 ⟨rfl, hb10⟩
            replace hb10 := hb9.trans (hb10.mono hb9.size)
            clear hb9
            have hbl := HBL.out
            go_wp2_with fail
            refine (varOne w10.heap.size a _ ha (by simp) (by simp)).mono ?_
            rintro e w11 ⟨rfl, hb11⟩
            replace hb11 : Below w.heap.size w w11 := (hb10.alloc hb10.size _).trans (hb11.mono (by have := hb10.size; simp; omega))
            clear hb10
            go_wp2_with fail
            refine (varOne w11.heap.size b _ hb (by simp) (by simp)).mono ?_
            rintro e w12 ⟨rfl, hb12⟩
            replace hb12 : Below w.heap.size w w12 := (hb11.alloc hb11.size _).trans (hb12.mono (by have := hb11.size; simp; omega))
            clear hb11 hbl
            go_wp2
            go_ret
            exact ⟨ret_bool' (by rw [HUV.out]; exact beq_self_eq_true _), hb12⟩

set_option maxHeartbeats 1600000 in
set_option maxRecDepth 100000 in
theorem numBack_nn (a0 : Option Addr) (cap0 : Nat) (zs : List Nat) (i : Int) (a2 : Option Addr) (cap2 : Nat) (ss : List ByteArray) (a b : Nat) (w : World)
    (h0 : IsRowU w a0 0 zs) (h2 : IsRowS w a2 0 ss)   (i0 : -9223372036854775808 ≤ i) (i1 : i ≤ 9223372036854775807) (ha : a < 18446744073709551616) (hb : b < 18446744073709551616)
    (htab : Tab w.heap.size w) :
    Calls Tryd.prog 5 #[.slice a0 0 cap0, .int .i64 i, .slice a2 0 cap2, .int .u64 a, .int .u64 b] w fun e w' => e = .returned (.bool true) ∧ Below w.heap.size w w' := by
  have HT := Lib.hid htab
  have H0 := Lib.hid h0
  have H2 := Lib.hid h2
  clear htab h0 h2
  go_enter Tryd.func5, Tryd.ntmps5
  go_wp2_with fail
  refine (short_any 100 6000 a2 0 cap2 ss _ (by omega) (by omega) (by omega) (by omega) H2.out).mono ?_
  rintro e w1 ⟨⟨t, rfl, ht⟩, hb1⟩
  cases t
  · clear ht
    go_wp2_with (go_at_call 10; refine (alive_any w.heap.size _ hb1.size (HT.out.on hb1)).mono ?_; rintro r w2 ⟨rfl, hb2⟩)
    go_ret
    exact ⟨rfl, hb1.trans (hb2.mono hb1.size)⟩
  · have HL := Lib.hid (ht rfl)
    clear ht
    have hl100 : 0 ≤ 100 := by
      have h1 := HL.out
      have h2 := H2.out.1
      omega
    have hlv : (vars zs).length ≤ 3000 := by
      have h1 := vars_length zs H0.out.2.1
      have h2 := H0.out.1
      omega
    have hlz : (Lib.uvarint (Lib.zigzag i)).length ≤ 10 := Lib.uvarint_length64 (Lib.zigzag_lt i0 i1)
    have hlx : (texts ss).length ≤ 7000 := by
      have h1 := texts_length ss H2.out.2.1
      have h2 := HL.out
      omega
    go_wp2_with fail
    refine (var_row a0 0 cap0 zs _ (H0.out.below hb1) (by omega)).mono ?_
    rintro e w2 ⟨rfl, hb2⟩
    replace hb2 := hb1.trans (hb2.mono hb1.size)
    clear hb1
    go_wp2_with fail
    refine (zig_any i _ i0 i1).mono ?_
    rintro e w2' ⟨rfl, rfl⟩
    go_wp2_with fail
    refine (varOne w2.heap.size (Lib.zigzag i) _ (Lib.zigzag_lt i0 i1) (by simp) (by simp)).mono ?_
    rintro e w3 ⟨rfl, hb3⟩
    replace hb3 : Below w.heap.size w w3 := (hb2.alloc hb2.size _).trans (hb3.mono (by have := hb2.size; simp; omega))
    clear hb2
    go_wp2_with fail
    refine (text_row a2 0 cap2 ss _ (H2.out.below hb3) (by have := HL.out; have := H2.out.1; omega)).mono ?_
    rintro e w4 ⟨rfl, hb4⟩
    replace hb4 := hb3.trans (hb4.mono hb3.size)
    clear hb3
    go_wp2_with fail
    refine (bool_one _ _).mono ?_
    rintro e w4' ⟨rfl, rfl⟩
    go_wp2_with fail
    refine (newReader_any _ _).mono ?_
    rintro e w5 ⟨rfl, hr5, hb5, -⟩
    replace hb5 := hb4.trans (hb5.mono hb4.size)
    have hB := hb4.size
    obtain ⟨R, hR⟩ : ∃ R, R = w4.heap.size := ⟨_, rfl⟩
    rw [← hR] at hr5 hB
    rw [show w4.heap.size = R from hR.symm]
    clear hb4 hR
    replace hr5 : IsRd w5 R ⟨(vars zs ++ (Lib.uvarint (Lib.zigzag i) ++ (texts ss ++ boolB i))).toArray⟩ 0 := by
      have e : ∀ x y z u : List UInt8, (⟨x.toArray⟩ : ByteArray) ++ ⟨y.toArray⟩ ++ ⟨z.toArray⟩ ++ ⟨u.toArray⟩ = ⟨(x ++ (y ++ (z ++ u))).toArray⟩ := by
        intro x y z u
        rw [cat_str, cat_str, cat_str]
        simp only [List.append_assoc]
      rw [← e]
      exact hr5
    obtain ⟨T, hT⟩ : ∃ T, T = Lib.uvarint (Lib.zigzag i) ++ (texts ss ++ boolB i) := ⟨_, rfl⟩
    rw [← hT] at hr5
    have hTl : T.length ≤ 8000 := by rw [hT]; simp [boolB]; omega
    have HSZ : ∀ k, Hid ((⟨(vars (zs.drop k) ++ T).toArray⟩ : ByteArray).size ≤ 9223372036854775807) := by
      intro k
      show (vars (zs.drop k) ++ T).toArray.size ≤ _
      have h1 := vars_length (zs.drop k) (fun z hz => H0.out.2.1 z (List.mem_of_mem_drop hz))
      have h2 := H0.out.1
      simp only [List.length_drop] at h1
      simp
      omega
    have HXZ : ∀ k, Hid ((texts (ss.drop k) ++ boolB i).length ≤ 1000000) := by
      intro k
      show _ ≤ _
      have h1 := texts_length (ss.drop k) (fun z hz => H2.out.2.1 z (List.mem_of_mem_drop hz))
      have h2 := HL.out
      have h3 : total (ss.drop k) ≤ total ss := by
        have := congrArg total (List.take_append_drop k ss)
        unfold total at this ⊢
        rw [List.map_append, List.sum_append] at this
        omega
      simp only [List.length_drop] at h1
      simp [boolB]
      omega
    have HTT := Lib.hid hT
    clear hT hTl
    go_wp2
    go_loopw [12] (fun vk wr => ∃ k : Nat, k ≤ 0 ∧ vk = .int .i64 k ∧ IsRd wr R ⟨(vars (zs.drop k) ++ T).toArray⟩ 0 ∧ Below w.heap.size w wr) (fun vk _ => 0 - (intOf vk).toNat)
    case atStart => exact ⟨0, Nat.zero_le _, rfl, hr5, hb5⟩
    case round =>
      obtain ⟨k, hk, rfl, hr, hnx⟩ := hrel
      clear hr5 hb5
      by_cases hlt : k < 0
      · exfalso
        omega
      · have hke : zs.drop k = [] := List.drop_eq_nil_of_le (by have := H0.out.1; omega)
        rw [hke] at hr
        have hr' : IsRd wr R ⟨(Lib.uvarint (Lib.zigzag i) ++ (texts ss ++ boolB i)).toArray⟩ 0 := by
          rw [← HTT.out]; exact hr
        have HR := Lib.hid hr'
        have HY : Hid ((texts ss ++ boolB i).length ≤ 1000000) := HXZ 0
        clear hr hr' hke HSZ HTT
        go_wp2_with fail
        refine (rint_i i R _ _ i0 i1 HR.out HY.out).mono ?_
        rintro e w6 ⟨rfl, hr6, hg6⟩
        have hb6 := hnx.trans (below_of_grownBy hg6 hB hnx.size)
        clear HR HY hg6 hnx
        go_wp2_with fail
        refine (zig_any i _ i0 i1).mono ?_
        rintro e w6' ⟨rfl, rfl⟩
        go_wp2_with fail
        refine (zag_i i _ i0 i1).mono ?_
        rintro e w6' ⟨rfl, rfl⟩
        go_wp2_with fail
        refine (zag_any a _ ha).mono ?_
        rintro e w6' ⟨rfl, rfl⟩
        go_wp2_with fail
        refine (zig_u a _ ha).mono ?_
        rintro e w6' ⟨rfl, rfl⟩
        obtain ⟨wo, hwo⟩ : ∃ wo : World, wo = wr := ⟨_, rfl⟩
        clear hwo
        go_wp2
        go_loopw [13] (fun vk wr => ∃ m : Nat, m ≤ 0 ∧ vk = .int .i64 m ∧ IsRd wr R ⟨(texts (ss.drop m) ++ boolB i).toArray⟩ 0 ∧ Below w.heap.size w wr) (fun vk _ => 0 - (intOf vk).toNat)
        case atStart => exact ⟨0, Nat.zero_le _, rfl, hr6, hb6⟩
        case round =>
          obtain ⟨m, hm, rfl, hr2, hnx2⟩ := hrel
          clear hr6 hb6
          by_cases hlt2 : m < 0
          · exfalso
            omega
          · have hke : ss.drop m = [] := List.drop_eq_nil_of_le (by have := H2.out.1; omega)
            rw [hke] at hr2
            have HR : Hid (IsRd wr R ⟨[boolByte (decide (0 < i))].toArray⟩ 0) := hr2
            clear hr2 hke HXZ
            have hbl := be_less 8 a b (by omega) (by omega)
            have huv := uvarint_eq a b ha hb
            have HBL := Lib.hid hbl
            have HUV := Lib.hid huv
            clear hbl huv
            go_wp2_with fail
            refine (rbool_b _ R _ HR.out).mono ?_
            rintro e w7 ⟨rfl, hr7, hg7⟩
            have hb7 := hnx2.trans (below_of_grownBy hg7 hB hnx2.size)
            clear HR hg7 hnx2
            go_wp2_with fail
            refine (end_ok _ _ _ hr7 rfl).mono ?_
            rintro e w7' ⟨rfl, rfl⟩
            clear hr7
            go_wp2_with fail
            refine (fix8 a _ ha).mono ?_
            rintro e w8 ⟨rfl, hb8⟩
            replace hb8 := hb7.trans (hb8.mono hb7.size)
            clear hb7
            go_wp2_with fail
            refine (fix8 b _ hb).mono ?_
            rintro e w9 ⟨rfl, hb9⟩
            replace hb9 := hb8.trans (hb9.mono hb8.size)
            clear hb8
            go_wp2_with fail
            refine (unfix8 a _ ha).mono ?_
            rintro e w9' ⟨rfl, rfl⟩
            go_wp2_with fail
            refine (alive_any w.heap.size _ hb9.size (HT.out.on hb9)).mono ?_
            rintro e w10 ⟨rfl, hb10⟩
            replace hb10 := hb9.trans (hb10.mono hb9.size)
            clear hb9
            have hbl := HBL.out
            go_wp2_with fail
            refine (varOne w10.heap.size a _ ha (by simp) (by simp)).mono ?_
            rintro e w11 ⟨rfl, hb11⟩
            replace hb11 : Below w.heap.size w w11 := (hb10.alloc hb10.size _).trans (hb11.mono (by have := hb10.size; simp; omega))
            clear hb10
            go_wp2_with fail
            refine (varOne w11.heap.size b _ hb (by simp) (by simp)).mono ?_
            rintro e w12 ⟨rfl, hb12⟩
            replace hb12 : Below w.heap.size w w12 := (hb11.alloc hb11.size _).trans (hb12.mono (by have := hb11.size; simp; omega))
            clear hb11 hbl
            go_wp2
            go_ret
            exact ⟨ret_bool' (by rw [HUV.out]; exact beq_self_eq_true _), hb12⟩

theorem numBack_walk (a0 : Option Addr) (len0 cap0 : Nat) (zs : List Nat) (i : Int) (i0 : -9223372036854775808 ≤ i) (i1 : i ≤ 9223372036854775807) (a2 : Option Addr) (len2 cap2 : Nat) (ss : List ByteArray)
    (a : Nat) (ha : a < 18446744073709551616) (b : Nat) (hb : b < 18446744073709551616) (w : World) (h0 : IsRowU w a0 len0 zs) (h2 : IsRowS w a2 len2 ss) (htab : Tab w.heap.size w) :
    Calls Tryd.prog 5 #[.slice a0 len0 cap0, .int .i64 i, .slice a2 len2 cap2, .int .u64 a, .int .u64 b] w fun e w' => e = .returned (.bool true) ∧ Below w.heap.size w w' := by
  by_cases h : 300 < len0
  · exact numBack_many a0 len0 cap0 i a2 len2 cap2 a b w h htab
  · rcases h0.2.2 with e0 | ⟨b0, off0, rfl, l0, c0⟩
    · rcases h2.2.2 with e2 | ⟨b2, off2, rfl, l2, c2⟩
      · subst e0 e2
        exact numBack_nn a0 cap0 zs i a2 cap2 ss a b w h0 h2 i0 i1 ha hb htab
      · subst e0
        exact numBack_ns a0 cap0 zs i b2 off2 len2 cap2 ss a b w h0 h2 l2 c2 i0 i1 ha hb htab
    · rcases h2.2.2 with e2 | ⟨b2, off2, rfl, l2, c2⟩
      · subst e2
        exact numBack_sn b0 off0 len0 cap0 zs i a2 cap2 ss a b w h0 h2 l0 c0 i0 i1 ha hb h htab
      · exact numBack_ss b0 off0 len0 cap0 zs i b2 off2 len2 cap2 ss a b w h0 h2 l0 c0 l2 c2 i0 i1 ha hb h htab
end Go.Proofs.YtnkmchlldhdenaaDoor
