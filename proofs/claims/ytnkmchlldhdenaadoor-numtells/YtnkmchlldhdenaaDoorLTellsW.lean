/- The walks of statement NumTells of chapter 1: it answers true for all numbers, bytes and lists. -/
import Derived.Test.YtnkmchlldhdenaaDoorW5
import Derived.Test.YtnkmchlldhdenaaDoorR4
import Derived.Test.YtnkmchlldhdenaaDoorR5
namespace Go.Proofs.YtnkmchlldhdenaaDoor
open Go.RowKit

theorem rowU_below {w w' : World} {a : Option Addr} {len : Nat} {zs : List Nat} (h : IsRowU w a len zs) (hb : Below w.heap.size w w') : IsRowU w' a len zs := by
  obtain ⟨h1, h2, h3⟩ := h
  refine ⟨h1, h2, ?_⟩
  rcases h3 with h3 | ⟨b, off, e, hlt, hc⟩
  · exact .inl h3
  · exact .inr ⟨b, off, e, Nat.lt_of_lt_of_le hlt hb.size, fun i hi => (hb.cell (p := ⟨b, off + i, none⟩) hlt).trans (hc i hi)⟩
theorem rowS_below {w w' : World} {a : Option Addr} {len : Nat} {ss : List ByteArray} (h : IsRowS w a len ss) (hb : Below w.heap.size w w') : IsRowS w' a len ss := by
  obtain ⟨h1, h2, h3⟩ := h
  refine ⟨h1, h2, ?_⟩
  rcases h3 with h3 | ⟨b, off, e, hlt, hc⟩
  · exact .inl h3
  · exact .inr ⟨b, off, e, Nat.lt_of_lt_of_le hlt hb.size, fun i hi => (hb.cell (p := ⟨b, off + i, none⟩) hlt).trans (hc i hi)⟩
theorem lentU_below {B : Nat} {w w' : World} {v : Value} {zs : List Nat} (h : LentU B w v zs) (hb : Below w.heap.size w w') : LentU B w' v zs := by
  obtain ⟨g, cap, rfl, ho⟩ := h
  exact ⟨g, cap, rfl, own_below ho hb⟩
theorem lentS_below {B : Nat} {w w' : World} {v : Value} {zs : List ByteArray} (h : LentS B w v zs) (hb : Below w.heap.size w w') : LentS B w' v zs := by
  obtain ⟨g, cap, rfl, ho⟩ := h
  exact ⟨g, cap, rfl, own_below ho hb⟩
theorem lentU_isrow {B : Nat} {w : World} {g cap : Nat} {zs : List Nat} (ho : w.ownsRow B 22 1 (.slice (some ⟨g, 0, none⟩) (zs.length + 1) cap) (zs.length + 1) (cellsU zs ++ [.int .u64 77])) (hz : ∀ z ∈ zs, z < 18446744073709551616) : IsRowU w (some ⟨g, 0, none⟩) zs.length zs :=
  ⟨rfl, hz, .inr ⟨g, 0, rfl, (ho.lt g rfl).2, fun i hi => by rw [Nat.zero_add, ho.cellAt i (by omega)]; exact cellsU_get zs i hi⟩⟩
theorem lentS_isrow {B : Nat} {w : World} {g cap : Nat} {zs : List ByteArray} (ho : w.ownsRow B 9 1 (.slice (some ⟨g, 0, none⟩) (zs.length + 1) cap) (zs.length + 1) (cellsS zs ++ [.string ⟨#[109, 97, 114, 107]⟩])) (hz : ∀ z ∈ zs, z.size ≤ maxLen) : IsRowS w (some ⟨g, 0, none⟩) zs.length zs :=
  ⟨rfl, hz, .inr ⟨g, 0, rfl, (ho.lt g rfl).2, fun i hi => by rw [Nat.zero_add, ho.cellAt i (by omega)]; exact cellsS_get zs i hi⟩⟩

theorem refBool_one (v : Bool) (w : World) :
    Calls Tryd.prog 30 #[.bool v] w fun e w' => e = .returned (.string ⟨[boolByte v].toArray⟩) ∧ w = w' := refBool_any v w

theorem fix_both (v : Nat) (n : Int) (hv : v < 18446744073709551616) : ∃ (x : ByteArray) (e : Int),
    (∀ w, Calls Tryd.prog 11 #[.int .u64 v, .int .i64 n] w fun r w' => r = .returned (.tuple #[.string x, .int .i64 e]) ∧ Below w.heap.size w w') ∧
    (∀ w, Calls Tryd.prog 12 #[.int .u64 v, .int .i64 n] w fun r w' => r = .returned (.tuple #[.string x, .int .i64 e]) ∧ Below w.heap.size w w') := by
  by_cases h1 : n < 1 ∨ 8 < n
  · exact ⟨⟨#[]⟩, 1, fun w => (fix_no_width v n w h1).mono fun _ _ h => ⟨h.1, by rw [← h.2]; exact Below.refl _ _⟩, fun w => (refFix_wide v n w h1).mono fun _ _ h => ⟨h.1, by rw [← h.2]; exact Below.refl _ _⟩⟩
  · obtain ⟨m, rfl⟩ : ∃ m : Nat, n = (m : Int) := ⟨n.toNat, by omega⟩
    by_cases h : v < 256 ^ m
    · exact ⟨⟨(be v m).toArray⟩, 0, fun w => fix_ok v m w (by omega) (by omega) h, fun w => refFix_ok v m w (by omega) (by omega) hv h⟩
    · exact ⟨⟨#[]⟩, 1, fun w => (fix_great v m w (by omega) (by omega) (by omega)).mono fun _ _ h => ⟨h.1, by rw [← h.2]; exact Below.refl _ _⟩, fun w => refFix_great v m w (by omega) (by omega) hv (by omega)⟩
theorem unfix_both (s : ByteArray) (a n : Int) (hs : s.size ≤ 9223372036854775807) : ∃ (x e : Int),
    (∀ w, Calls Tryd.prog 13 #[.string s, .int .i64 a, .int .i64 n] w fun r w' => r = .returned (.tuple #[.int .u64 x, .int .i64 e]) ∧ w = w') ∧
    (∀ w, Calls Tryd.prog 14 #[.string s, .int .i64 a, .int .i64 n] w fun r w' => r = .returned (.tuple #[.int .u64 x, .int .i64 e]) ∧ w = w') := by
  by_cases h1 : n < 1 ∨ 8 < n ∨ a < 0
  · exact ⟨0, 1, fun w => unfix_arg s a n w h1, fun w => refUnfix_arg s a n w h1⟩
  · by_cases h2 : (s.size : Int) < a + n
    · exact ⟨0, 5, fun w => unfix_short s a n w hs (by omega) (by omega) (by omega) h2, fun w => refUnfix_short s a n w hs (by omega) (by omega) (by omega) h2⟩
    · obtain ⟨m, rfl⟩ : ∃ m : Nat, n = (m : Int) := ⟨n.toNat, by omega⟩
      obtain ⟨k, rfl⟩ : ∃ k : Nat, a = (k : Int) := ⟨a.toNat, by omega⟩
      exact ⟨_, 0, fun w => unfix_ok s k m w hs (by omega) (by omega) (by omega), fun w => refUnfix_ok s k m w hs (by omega) (by omega) (by omega)⟩

set_option maxHeartbeats 2000000 in
set_option maxRecDepth 100000 in
theorem numTells_long (v : Nat) (i n at_ : Int) (s : ByteArray) (a5 : Option Addr) (len5 cap5 : Nat) (a6 : Option Addr) (len6 cap6 : Nat) (w : World) (h : 3000 < s.size) (htab : Tab w.heap.size w) :
    Calls Tryd.prog 3 #[.int .u64 v, .int .i64 i, .int .i64 n, .int .i64 at_, .string s, .slice a5 len5 cap5, .slice a6 len6 cap6] w fun e w' => e = .returned (.bool true) ∧ Below w.heap.size w w' := by
  have HT := Lib.hid htab
  clear htab
  go_enter Tryd.func3, Tryd.ntmps3
  go_wp2_with (go_at_call 10; refine (alive_any w.heap.size _ (Nat.le_refl _) HT.out).mono ?_; rintro r w2 ⟨rfl, hb2⟩)
  go_ret
  exact ⟨rfl, hb2⟩

set_option maxHeartbeats 2000000 in
set_option maxRecDepth 100000 in
theorem numTells_many (v : Nat) (i n at_ : Int) (s : ByteArray) (a5 : Option Addr) (len5 cap5 : Nat) (a6 : Option Addr) (len6 cap6 : Nat) (w : World) (h' : ¬ 3000 < s.size) (h : 300 < len5) (htab : Tab w.heap.size w) :
    Calls Tryd.prog 3 #[.int .u64 v, .int .i64 i, .int .i64 n, .int .i64 at_, .string s, .slice a5 len5 cap5, .slice a6 len6 cap6] w fun e w' => e = .returned (.bool true) ∧ Below w.heap.size w w' := by
  have HT := Lib.hid htab
  clear htab
  have hd : decide ((3000 : Int) < (s.size : Int)) = false := by simp; omega
  go_enter Tryd.func3, Tryd.ntmps3
  go_wp2_with (go_at_call 10; refine (alive_any w.heap.size _ (Nat.le_refl _) HT.out).mono ?_; rintro r w2 ⟨rfl, hb2⟩)
  go_ret
  exact ⟨rfl, hb2⟩

set_option maxHeartbeats 3200000 in
set_option maxRecDepth 100000 in
theorem numTells_s (v : Nat) (i n at_ : Int) (s : ByteArray) (a5 : Option Addr) (len5 cap5 : Nat) (b6 off6 len6 cap6 : Nat) (w : World) (zs : List Nat) (ss : List ByteArray) (h5 : IsRowU w a5 len5 zs) (h6 : IsRowS w (some ⟨b6, off6, none⟩) len6 ss) (hl6 : b6 < w.heap.size) (hc6 : ∀ i (h : i < ss.length), w.cell? ⟨b6, off6 + i, none⟩ = some (.string ss[i])) (n5 : a5 = none → cap5 = 0) (hv : v < 18446744073709551616) (i0 : -9223372036854775808 ≤ i) (i1 : i ≤ 9223372036854775807)
    (h' : ¬ 3000 < s.size) (h : ¬ 300 < len5) (htab : Tab w.heap.size w) :
    Calls Tryd.prog 3 #[.int .u64 v, .int .i64 i, .int .i64 n, .int .i64 at_, .string s, .slice a5 len5 cap5, .slice (some ⟨b6, off6, none⟩) len6 cap6] w fun e w' => e = .returned (.bool true) ∧ Below w.heap.size w w' := by
  have HT := Lib.hid htab
  have H5 := Lib.hid h5
  have H6 := Lib.hid h6
  have N5 := Lib.hid n5
  have HC6 := Lib.hid hc6
  clear hc6
  have hd : decide ((3000 : Int) < (s.size : Int)) = false := by simp; omega
  have hd2 : decide ((300 : Int) < (len5 : Int)) = false := by simp; omega
  obtain ⟨x, e1, hfix, hrfix⟩ := fix_both v n hv
  obtain ⟨y, e2, hunfix, hrunfix⟩ := unfix_both s at_ n (by omega)
  obtain ⟨q, hq⟩ : ∃ q, q = numVal s.data.toList := ⟨_, rfl⟩
  obtain ⟨e3, he3⟩ : ∃ e3, e3 = numErr s.data.toList := ⟨_, rfl⟩
  have hnum : ∀ w, Calls Tryd.prog 15 #[.string s] w fun r w' => r = .returned (.tuple #[.int .i64 q, .int .i64 e3]) ∧ w = w' := fun w => by rw [hq, he3]; exact number_any s w
  have hrnum : ∀ w, Calls Tryd.prog 16 #[.string s] w fun r w' => r = .returned (.tuple #[.int .i64 q, .int .i64 e3]) ∧ w = w' := fun w => by rw [hq, he3]; exact refNumber_any s w
  have F1 := Lib.hid hfix
  have F2 := Lib.hid hrfix
  have F3 := Lib.hid hunfix
  have F4 := Lib.hid hrunfix
  have F5 := Lib.hid hnum
  have F6 := Lib.hid hrnum
  clear htab h5 h6 n5 hfix hrfix hunfix hrunfix hnum hrnum hq he3
  go_enter Tryd.func3, Tryd.ntmps3
  go_wp2_with fail
  refine (short_any 100 6000 (some ⟨b6, off6, none⟩) len6 cap6 ss _ (by omega) (by omega) (by omega) (by omega) H6.out).mono ?_
  rintro e w1 ⟨⟨t, rfl, ht⟩, hb1⟩
  cases t
  · clear ht
    go_wp2_with (go_at_call 10; refine (alive_any w.heap.size _ hb1.size (HT.out.on hb1)).mono ?_; rintro r w2 ⟨rfl, hb2⟩)
    go_ret
    exact ⟨rfl, hb1.trans (hb2.mono hb1.size)⟩
  · have HL := Lib.hid (ht rfl)
    clear ht
    have hl100 : len6 ≤ 100 := by
      have h1 := HL.out
      have h2 := H6.out.1
      omega
    go_wp2_with fail
    refine (F1.out _).mono ?_
    rintro e w2 ⟨rfl, hb2⟩
    replace hb2 := hb1.trans (hb2.mono hb1.size)
    clear hb1
    go_wp2_with fail
    refine (F2.out _).mono ?_
    rintro e w3 ⟨rfl, hb3⟩
    replace hb3 := hb2.trans (hb3.mono hb2.size)
    clear hb2
    go_wp2_with fail
    refine (F3.out _).mono ?_
    rintro e w3' ⟨rfl, rfl⟩
    go_wp2_with fail
    refine (F4.out _).mono ?_
    rintro e w3' ⟨rfl, rfl⟩
    go_wp2_with fail
    refine (F5.out _).mono ?_
    rintro e w3' ⟨rfl, rfl⟩
    go_wp2_with fail
    refine (F6.out _).mono ?_
    rintro e w3' ⟨rfl, rfl⟩
    clear F1 F2 F3 F4 F5 F6
    go_wp2_with fail
    refine (lentU_row a5 len5 cap5 zs _ (rowU_below H5.out hb3) N5.out (by omega)).mono ?_
    rintro e w4 ⟨⟨vm, rfl, hm⟩, hb4⟩
    have hm4 := hm
    replace hb4 := hb3.trans (hb4.mono hb3.size)
    have hB3 := hb3.size
    clear hb3 hm
    go_wp2_with fail
    refine (lentS_row (some ⟨b6, off6, none⟩) len6 cap6 ss _ (rowS_below H6.out hb4) (fun h => by cases h) (by omega)).mono ?_
    rintro e w5 ⟨⟨vt, rfl, ht5⟩, hb5⟩
    have hm5 := lentU_below hm4 hb5
    replace hb5 := hb4.trans (hb5.mono hb4.size)
    obtain ⟨B4, hB4⟩ : ∃ B4, B4 = w4.heap.size := ⟨_, rfl⟩
    obtain ⟨B3, hB3e⟩ : ∃ B3, B3 = w3.heap.size := ⟨_, rfl⟩
    rw [← hB4] at ht5
    rw [← hB3e] at hm5
    clear hb4 hm4 hB4 hB3 hB3e
    have HMU := Lib.hid hm5
    have HMS := Lib.hid ht5
    clear hm5 ht5
    have HTX : ∀ k, Hid ((texts (ss.take k)).length ≤ 10000) := by
      intro k
      show _ ≤ _
      have h1 := texts_length (ss.take k) (fun z hz => H6.out.2.1 z (List.mem_of_mem_take hz))
      have h2 := HL.out
      have h3 : total (ss.take k) ≤ total ss := by
        have := congrArg total (List.take_append_drop k ss)
        unfold total at this ⊢
        rw [List.map_append, List.sum_append] at this
        omega
      have h4 : (ss.take k).length ≤ ss.length := by rw [List.length_take]; omega
      omega
    go_wp2
    go_loopw [29, 30] (fun va vk wr => ∃ k : Nat, k ≤ len6 ∧ vk = .int .i64 k ∧ va = .string ⟨(texts (ss.take k)).toArray⟩ ∧ LentU B3 wr vm zs ∧ LentS B4 wr vt ss ∧ Below w.heap.size w wr) (fun _ vk _ => len6 - (intOf vk).toNat)
    case atStart => exact ⟨0, Nat.zero_le _, rfl, rfl, HMU.out, HMS.out, hb5⟩
    case round =>
      obtain ⟨k, hk, rfl, rfl, hmu, hms, hnx⟩ := hrel
      clear HMU HMS hb5
      have MU := Lib.hid hmu
      have MS := Lib.hid hms
      clear hmu hms
      by_cases hlt : k < len6
      · have hz : k < ss.length := by have := H6.out.1; omega
        have hcx : wr.cell? ⟨b6, off6 + k, none⟩ = some (.string ss[k]) := (hnx.cell (by exact hl6)).trans (HC6.out k hz)
        have hsm : ss[k].size ≤ 6000 := by have := total_take ss k hz; have := HL.out; omega
        have HS : Hid (ss[k].size ≤ 1000000) := by show _ ≤ _; omega
        have hx := (HTX k).out
        have hxl : (Lib.uvarint ss[k].size ++ ss[k].data.toList).length ≤ 7000 := by
          have h1 := Lib.uvarint_length64 (x := ss[k].size) (by omega)
          rw [List.length_append, len_data']
          omega
        have hux := Lib.uvarint_length64 (x := ss[k].size) (by omega)
        have hds : ss[k].data.size ≤ 6000 := hsm
        have HTK : Hid (ss.take (k + 1) = ss.take k ++ [ss[k]]) := List.take_succ_eq_append_getElem hz
        go_wp2_with fail
        refine (refText_any ss[k] _ HS.out).mono ?_
        rintro e w6 ⟨rfl, hb6⟩
        have mu6 := Lib.hid (lentU_below MU.out hb6)
        have ms6 := Lib.hid (lentS_below MS.out hb6)
        have hn6 := hnx.trans (hb6.mono hnx.size)
        clear MU MS hnx hb6
        go_wp2
        go_roundw
        case rel =>
          refine ⟨k + 1, by omega, by go_num, ?_, mu6.out, ms6.out, hn6⟩
          rw [HTK.out, texts_snoc, ← cat_str]
          rfl
        case measure => simp [intOf]; omega
      · have hke : Hid (ss.take k = ss) := List.take_of_length_le (by have := H6.out.1; omega)
        have hss := hke.out
        rw [hss]
        clear hss hke HTX
        obtain ⟨g5, c5, rfl, o5⟩ := MU.out
        obtain ⟨g6, c6, rfl, o6⟩ := MS.out
        have O5 := Lib.hid o5
        have O6 := Lib.hid o6
        clear MU MS o5 o6
        go_wp2_with fail
        refine (alive_any w.heap.size _ hnx.size (HT.out.on hnx)).mono ?_
        rintro e w7 ⟨rfl, hb7⟩
        have P5 := Lib.hid (own_below O5.out hb7)
        have P6 := Lib.hid (own_below O6.out hb7)
        replace hb7 := hnx.trans (hb7.mono hnx.size)
        clear O5 O6 hnx
        go_wp2_with fail
        refine (var_row _ zs.length _ zs _ (lentU_isrow P5.out H5.out.2.1) (by have := H5.out.1; omega)).mono ?_
        rintro e w8 ⟨rfl, hb8⟩
        have hb8' := hb8
        replace hb8 := hb7.trans (hb8.mono hb7.size)
        replace P5 := Lib.hid (own_below P5.out hb8')
        replace P6 := Lib.hid (own_below P6.out hb8')
        clear hb7 hb8'
        go_wp2_with fail
        refine (refVars_row a5 len5 cap5 zs _ (rowU_below H5.out hb8) (by omega)).mono ?_
        rintro e w9 ⟨rfl, hb9⟩
        have hb9' := hb9
        replace hb9 := hb8.trans (hb9.mono hb8.size)
        replace P5 := Lib.hid (own_below P5.out hb9')
        replace P6 := Lib.hid (own_below P6.out hb9')
        clear hb8 hb9'
        go_wp2_with fail
        refine (text_row _ ss.length _ ss _ (lentS_isrow P6.out H6.out.2.1) (by have := HL.out; omega)).mono ?_
        rintro e w10 ⟨rfl, hb10⟩
        have hb10' := hb10
        replace hb10 := hb9.trans (hb10.mono hb9.size)
        replace P5 := Lib.hid (own_below P5.out hb10')
        replace P6 := Lib.hid (own_below P6.out hb10')
        clear hb9 hb10'
        go_wp2_with fail
        refine (zig_any i _ i0 i1).mono ?_
        rintro e w10' ⟨rfl, rfl⟩
        go_wp2_with fail
        refine (refZig_any i _ i0 i1).mono ?_
        rintro e w10' ⟨rfl, rfl⟩
        go_wp2_with fail
        refine (zag_any v _ hv).mono ?_
        rintro e w10' ⟨rfl, rfl⟩
        go_wp2_with fail
        refine (refZag_any v _ hv).mono ?_
        rintro e w10' ⟨rfl, rfl⟩
        go_wp2_with fail
        refine (digits_any i i0 i1 w.heap.size _ (HT.out.on hb10)).mono ?_
        rintro e w11 ⟨rfl, hb11⟩
        have hb11' := hb11
        replace hb11 := hb10.trans (hb11.mono hb10.size)
        replace P5 := Lib.hid (own_below P5.out hb11')
        replace P6 := Lib.hid (own_below P6.out hb11')
        clear hb10 hb11'
        go_wp2_with fail
        refine (refDigits_any i i0 i1 _).mono ?_
        rintro e w12 ⟨rfl, hb12⟩
        have hb12' := hb12
        replace hb12 := hb11.trans (hb12.mono hb11.size)
        replace P5 := Lib.hid (own_below P5.out hb12')
        replace P6 := Lib.hid (own_below P6.out hb12')
        clear hb11 hb12'
        go_wp2_with fail
        refine (bool_one _ _).mono ?_
        rintro e w12' ⟨rfl, rfl⟩
        go_wp2_with fail
        refine (refBool_one _ _).mono ?_
        rintro e w12' ⟨rfl, rfl⟩
        go_wp2_with fail
        refine (staysU_any B3 _ a5 len5 cap5 zs _ ⟨g5, c5, rfl, P5.out⟩ (rowU_below H5.out hb12) (by omega)).mono ?_
        rintro e w13 ⟨rfl, hb13⟩
        have hb13' := hb13
        replace hb13 := hb12.trans (hb13.mono hb12.size)
        replace P5 := Lib.hid (own_below P5.out hb13')
        replace P6 := Lib.hid (own_below P6.out hb13')
        clear hb12 hb13'
        go_wp2_with fail
        refine (staysS_any B4 _ (some ⟨b6, off6, none⟩) len6 cap6 ss _ ⟨g6, c6, rfl, P6.out⟩ (rowS_below H6.out hb13) (by omega)).mono ?_
        rintro e w14 ⟨rfl, hb14⟩
        replace hb14 := hb13.trans (hb14.mono hb13.size)
        go_wp2
        go_ret
        exact ⟨rfl, hb14⟩

set_option maxHeartbeats 3200000 in
set_option maxRecDepth 100000 in
theorem numTells_n (v : Nat) (i n at_ : Int) (s : ByteArray) (a5 : Option Addr) (len5 cap5 : Nat) (a6 : Option Addr) (cap6 : Nat) (w : World) (zs : List Nat) (ss : List ByteArray) (h5 : IsRowU w a5 len5 zs) (h6 : IsRowS w a6 0 ss)  (n5 : a5 = none → cap5 = 0) (n6 : a6 = none → cap6 = 0) (hv : v < 18446744073709551616) (i0 : -9223372036854775808 ≤ i) (i1 : i ≤ 9223372036854775807)
    (h' : ¬ 3000 < s.size) (h : ¬ 300 < len5) (htab : Tab w.heap.size w) :
    Calls Tryd.prog 3 #[.int .u64 v, .int .i64 i, .int .i64 n, .int .i64 at_, .string s, .slice a5 len5 cap5, .slice a6 0 cap6] w fun e w' => e = .returned (.bool true) ∧ Below w.heap.size w w' := by
  have HT := Lib.hid htab
  have H5 := Lib.hid h5
  have H6 := Lib.hid h6
  have N5 := Lib.hid n5
  have N6 := Lib.hid n6
  clear n6
  have hd : decide ((3000 : Int) < (s.size : Int)) = false := by simp; omega
  have hd2 : decide ((300 : Int) < (len5 : Int)) = false := by simp; omega
  obtain ⟨x, e1, hfix, hrfix⟩ := fix_both v n hv
  obtain ⟨y, e2, hunfix, hrunfix⟩ := unfix_both s at_ n (by omega)
  obtain ⟨q, hq⟩ : ∃ q, q = numVal s.data.toList := ⟨_, rfl⟩
  obtain ⟨e3, he3⟩ : ∃ e3, e3 = numErr s.data.toList := ⟨_, rfl⟩
  have hnum : ∀ w, Calls Tryd.prog 15 #[.string s] w fun r w' => r = .returned (.tuple #[.int .i64 q, .int .i64 e3]) ∧ w = w' := fun w => by rw [hq, he3]; exact number_any s w
  have hrnum : ∀ w, Calls Tryd.prog 16 #[.string s] w fun r w' => r = .returned (.tuple #[.int .i64 q, .int .i64 e3]) ∧ w = w' := fun w => by rw [hq, he3]; exact refNumber_any s w
  have F1 := Lib.hid hfix
  have F2 := Lib.hid hrfix
  have F3 := Lib.hid hunfix
  have F4 := Lib.hid hrunfix
  have F5 := Lib.hid hnum
  have F6 := Lib.hid hrnum
  clear htab h5 h6 n5 hfix hrfix hunfix hrunfix hnum hrnum hq he3
  go_enter Tryd.func3, Tryd.ntmps3
  go_wp2_with fail
  refine (short_any 100 6000 a6 0 cap6 ss _ (by omega) (by omega) (by omega) (by omega) H6.out).mono ?_
  rintro e w1 ⟨⟨t, rfl, ht⟩, hb1⟩
  cases t
  · clear ht
    go_wp2_with (go_at_call 10; refine (alive_any w.heap.size _ hb1.size (HT.out.on hb1)).mono ?_; rintro r w2 ⟨rfl, hb2⟩)
    go_ret
    exact ⟨rfl, hb1.trans (hb2.mono hb1.size)⟩
  · have HL := Lib.hid (ht rfl)
    clear ht
    have hl100 : 0 ≤ 100 := by
      have h1 := HL.out
      have h2 := H6.out.1
      omega
    go_wp2_with fail
    refine (F1.out _).mono ?_
    rintro e w2 ⟨rfl, hb2⟩
    replace hb2 := hb1.trans (hb2.mono hb1.size)
    clear hb1
    go_wp2_with fail
    refine (F2.out _).mono ?_
    rintro e w3 ⟨rfl, hb3⟩
    replace hb3 := hb2.trans (hb3.mono hb2.size)
    clear hb2
    go_wp2_with fail
    refine (F3.out _).mono ?_
    rintro e w3' ⟨rfl, rfl⟩
    go_wp2_with fail
    refine (F4.out _).mono ?_
    rintro e w3' ⟨rfl, rfl⟩
    go_wp2_with fail
    refine (F5.out _).mono ?_
    rintro e w3' ⟨rfl, rfl⟩
    go_wp2_with fail
    refine (F6.out _).mono ?_
    rintro e w3' ⟨rfl, rfl⟩
    clear F1 F2 F3 F4 F5 F6
    go_wp2_with fail
    refine (lentU_row a5 len5 cap5 zs _ (rowU_below H5.out hb3) N5.out (by omega)).mono ?_
    rintro e w4 ⟨⟨vm, rfl, hm⟩, hb4⟩
    have hm4 := hm
    replace hb4 := hb3.trans (hb4.mono hb3.size)
    have hB3 := hb3.size
    clear hb3 hm
    go_wp2_with fail
    refine (lentS_row a6 0 cap6 ss _ (rowS_below H6.out hb4) N6.out (by omega)).mono ?_
    rintro e w5 ⟨⟨vt, rfl, ht5⟩, hb5⟩
    have hm5 := lentU_below hm4 hb5
    replace hb5 := hb4.trans (hb5.mono hb4.size)
    obtain ⟨B4, hB4⟩ : ∃ B4, B4 = w4.heap.size := ⟨_, rfl⟩
    obtain ⟨B3, hB3e⟩ : ∃ B3, B3 = w3.heap.size := ⟨_, rfl⟩
    rw [← hB4] at ht5
    rw [← hB3e] at hm5
    clear hb4 hm4 hB4 hB3 hB3e
    have HMU := Lib.hid hm5
    have HMS := Lib.hid ht5
    clear hm5 ht5
    have HTX : ∀ k, Hid ((texts (ss.take k)).length ≤ 10000) := by
      intro k
      show _ ≤ _
      have h1 := texts_length (ss.take k) (fun z hz => H6.out.2.1 z (List.mem_of_mem_take hz))
      have h2 := HL.out
      have h3 : total (ss.take k) ≤ total ss := by
        have := congrArg total (List.take_append_drop k ss)
        unfold total at this ⊢
        rw [List.map_append, List.sum_append] at this
        omega
      have h4 : (ss.take k).length ≤ ss.length := by rw [List.length_take]; omega
      omega
    go_wp2
    go_loopw [29, 30] (fun va vk wr => ∃ k : Nat, k ≤ 0 ∧ vk = .int .i64 k ∧ va = .string ⟨(texts (ss.take k)).toArray⟩ ∧ LentU B3 wr vm zs ∧ LentS B4 wr vt ss ∧ Below w.heap.size w wr) (fun _ vk _ => 0 - (intOf vk).toNat)
    case atStart => exact ⟨0, Nat.zero_le _, rfl, rfl, HMU.out, HMS.out, hb5⟩
    case round =>
      obtain ⟨k, hk, rfl, rfl, hmu, hms, hnx⟩ := hrel
      clear HMU HMS hb5
      have MU := Lib.hid hmu
      have MS := Lib.hid hms
      clear hmu hms
      by_cases hlt : k < 0
      · exfalso
        omega
      · have hke : Hid (ss.take k = ss) := List.take_of_length_le (by have := H6.out.1; omega)
        have hss := hke.out
        rw [hss]
        clear hss hke HTX
        obtain ⟨g5, c5, rfl, o5⟩ := MU.out
        obtain ⟨g6, c6, rfl, o6⟩ := MS.out
        have O5 := Lib.hid o5
        have O6 := Lib.hid o6
        clear MU MS o5 o6
        go_wp2_with fail
        refine (alive_any w.heap.size _ hnx.size (HT.out.on hnx)).mono ?_
        rintro e w7 ⟨rfl, hb7⟩
        have P5 := Lib.hid (own_below O5.out hb7)
        have P6 := Lib.hid (own_below O6.out hb7)
        replace hb7 := hnx.trans (hb7.mono hnx.size)
        clear O5 O6 hnx
        go_wp2_with fail
        refine (var_row _ zs.length _ zs _ (lentU_isrow P5.out H5.out.2.1) (by have := H5.out.1; omega)).mono ?_
        rintro e w8 ⟨rfl, hb8⟩
        have hb8' := hb8
        replace hb8 := hb7.trans (hb8.mono hb7.size)
        replace P5 := Lib.hid (own_below P5.out hb8')
        replace P6 := Lib.hid (own_below P6.out hb8')
        clear hb7 hb8'
        go_wp2_with fail
        refine (refVars_row a5 len5 cap5 zs _ (rowU_below H5.out hb8) (by omega)).mono ?_
        rintro e w9 ⟨rfl, hb9⟩
        have hb9' := hb9
        replace hb9 := hb8.trans (hb9.mono hb8.size)
        replace P5 := Lib.hid (own_below P5.out hb9')
        replace P6 := Lib.hid (own_below P6.out hb9')
        clear hb8 hb9'
        go_wp2_with fail
        refine (text_row _ ss.length _ ss _ (lentS_isrow P6.out H6.out.2.1) (by have := HL.out; omega)).mono ?_
        rintro e w10 ⟨rfl, hb10⟩
        have hb10' := hb10
        replace hb10 := hb9.trans (hb10.mono hb9.size)
        replace P5 := Lib.hid (own_below P5.out hb10')
        replace P6 := Lib.hid (own_below P6.out hb10')
        clear hb9 hb10'
        go_wp2_with fail
        refine (zig_any i _ i0 i1).mono ?_
        rintro e w10' ⟨rfl, rfl⟩
        go_wp2_with fail
        refine (refZig_any i _ i0 i1).mono ?_
        rintro e w10' ⟨rfl, rfl⟩
        go_wp2_with fail
        refine (zag_any v _ hv).mono ?_
        rintro e w10' ⟨rfl, rfl⟩
        go_wp2_with fail
        refine (refZag_any v _ hv).mono ?_
        rintro e w10' ⟨rfl, rfl⟩
        go_wp2_with fail
        refine (digits_any i i0 i1 w.heap.size _ (HT.out.on hb10)).mono ?_
        rintro e w11 ⟨rfl, hb11⟩
        have hb11' := hb11
        replace hb11 := hb10.trans (hb11.mono hb10.size)
        replace P5 := Lib.hid (own_below P5.out hb11')
        replace P6 := Lib.hid (own_below P6.out hb11')
        clear hb10 hb11'
        go_wp2_with fail
        refine (refDigits_any i i0 i1 _).mono ?_
        rintro e w12 ⟨rfl, hb12⟩
        have hb12' := hb12
        replace hb12 := hb11.trans (hb12.mono hb11.size)
        replace P5 := Lib.hid (own_below P5.out hb12')
        replace P6 := Lib.hid (own_below P6.out hb12')
        clear hb11 hb12'
        go_wp2_with fail
        refine (bool_one _ _).mono ?_
        rintro e w12' ⟨rfl, rfl⟩
        go_wp2_with fail
        refine (refBool_one _ _).mono ?_
        rintro e w12' ⟨rfl, rfl⟩
        go_wp2_with fail
        refine (staysU_any B3 _ a5 len5 cap5 zs _ ⟨g5, c5, rfl, P5.out⟩ (rowU_below H5.out hb12) (by omega)).mono ?_
        rintro e w13 ⟨rfl, hb13⟩
        have hb13' := hb13
        replace hb13 := hb12.trans (hb13.mono hb12.size)
        replace P5 := Lib.hid (own_below P5.out hb13')
        replace P6 := Lib.hid (own_below P6.out hb13')
        clear hb12 hb13'
        go_wp2_with fail
        refine (staysS_any B4 _ a6 0 cap6 ss _ ⟨g6, c6, rfl, P6.out⟩ (rowS_below H6.out hb13) (by omega)).mono ?_
        rintro e w14 ⟨rfl, hb14⟩
        replace hb14 := hb13.trans (hb14.mono hb13.size)
        go_wp2
        go_ret
        exact ⟨rfl, hb14⟩

theorem numTells_walk (v : Nat) (hv : v < 18446744073709551616) (i : Int) (i0 : -9223372036854775808 ≤ i) (i1 : i ≤ 9223372036854775807) (n : Int) (_ : -9223372036854775808 ≤ n) (_ : n ≤ 9223372036854775807) (at_ : Int) (_ : -9223372036854775808 ≤ at_) (_ : at_ ≤ 9223372036854775807)
    (s : ByteArray) (_ : s.size ≤ maxLen) (a5 : Option Addr) (len5 cap5 : Nat) (zs : List Nat) (a6 : Option Addr) (len6 cap6 : Nat) (ss : List ByteArray) (w : World) (h5 : IsRowU w a5 len5 zs) (h6 : IsRowS w a6 len6 ss) (n5 : a5 = none → cap5 = 0) (n6 : a6 = none → cap6 = 0) (htab : Tab w.heap.size w) :
    Calls Tryd.prog 3 #[.int .u64 v, .int .i64 i, .int .i64 n, .int .i64 at_, .string s, .slice a5 len5 cap5, .slice a6 len6 cap6] w fun e w' => e = .returned (.bool true) ∧ Below w.heap.size w w' := by
  by_cases h3 : 3000 < s.size
  · exact numTells_long v i n at_ s a5 len5 cap5 a6 len6 cap6 w h3 htab
  · by_cases h : 300 < len5
    · exact numTells_many v i n at_ s a5 len5 cap5 a6 len6 cap6 w h3 h htab
    · rcases h6.2.2 with e6 | ⟨b6, off6, rfl, l6, c6⟩
      · subst e6
        exact numTells_n v i n at_ s a5 len5 cap5 a6 cap6 w zs ss h5 h6 n5 n6 hv i0 i1 h3 h htab
      · exact numTells_s v i n at_ s a5 len5 cap5 b6 off6 len6 cap6 w zs ss h5 h6 l6 c6 n5 hv i0 i1 h3 h htab
end Go.Proofs.YtnkmchlldhdenaaDoor
