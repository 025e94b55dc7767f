/- Statement BloomOrders. -/
import Derived.Test.YtdbdifbcfplegaaG6
import Derived.Test.YtdbdifbcfplegaaGR
import Derived.Test.YtdbdifbcfplegaaGL
import Derived.Deep.DeepCutAuto
import Derived.Deep.RegionWith
import Derived.Deep.RegionHeld3
namespace Go.Proofs.Ytdbdifbcfplegaa
open Go.RowKit

theorem rowS_own {w : World} {B g n cap : Nat} {zs : List ByteArray} (h : w.ownsRow B 9 1 (.slice (some ⟨g, 0, none⟩) n cap) n (cellsS zs)) (hn : zs.length = n) (hz : ∀ s ∈ zs, s.size ≤ maxLen) : IsRowS w (some ⟨g, 0, none⟩) n zs := by
  refine ⟨hn, hz, .inr ⟨g, 0, rfl, (h.lt g rfl).2, fun i hi => ?_⟩⟩
  rw [Nat.zero_add, h.cellAt i (by omega)]
  simp [cellsS, hi]
theorem own_below9 {w w1 : World} {B : Nat} {e : TypeId} {z : Nat} {v : Value} {n : Nat} {xs : List Value} (h : w.ownsRow B e z v n xs) (hb : Below w.heap.size w w1) : w1.ownsRow B e z v n xs :=
  World.ownsRow.kept (row := none) h ⟨hb.os, hb.tape, hb.output, hb.size, fun k hk _ => hb.block k hk⟩ (Classical.em _)
theorem swap_mem (zs : List ByteArray) (a b : Nat) (ha : a < zs.length) (hb : b < zs.length) (k : ByteArray) : k ∈ (zs.set a zs[b]).set b zs[a] ↔ k ∈ zs := by
  rw [List.mem_iff_getElem?, List.mem_iff_getElem?]
  have get : ∀ i, ((zs.set a zs[b]).set b zs[a])[i]? = if i = b then some zs[a] else if i = a then some zs[b] else zs[i]? := by
    intro i
    rw [List.getElem?_set, List.getElem?_set]
    by_cases e1 : b = i
    · subst e1; simp [hb]
    · rw [if_neg e1, if_neg (Ne.symm e1)]
      by_cases e2 : a = i
      · subst e2; simp [ha]
      · rw [if_neg e2, if_neg (Ne.symm e2)]
  constructor
  · rintro ⟨i, hi⟩
    rw [get] at hi
    split at hi
    · exact ⟨a, by rw [← hi, List.getElem?_eq_getElem ha]⟩
    · split at hi
      · exact ⟨b, by rw [← hi, List.getElem?_eq_getElem hb]⟩
      · exact ⟨i, hi⟩
  · rintro ⟨i, hi⟩
    by_cases e1 : i = b
    · subst e1
      rw [List.getElem?_eq_getElem hb] at hi
      by_cases e2 : i = a
      · exact ⟨i, by rw [get, if_pos rfl, ← hi]; simp [e2]⟩
      · exact ⟨a, by rw [get, if_neg (Ne.symm e2), if_pos rfl, hi]⟩
    · by_cases e2 : i = a
      · subst e2
        rw [List.getElem?_eq_getElem ha] at hi
        exact ⟨b, by rw [get, if_pos rfl, hi]⟩
      · exact ⟨i, by rw [get, if_neg e1, if_neg e2, hi]⟩
set_option maxHeartbeats 4000000 in
set_option maxRecDepth 100000 in
theorem orders_good (pa : Option Addr) (len cap a b : Nat) (ss : List ByteArray) (w : World) (hI : IsRowS w pa len ss) (h1 : len ≤ 60) (ha : a < len) (hb : b < len) :
    Calls Try.prog 5 #[.slice pa len cap, .int .i64 a, .int .i64 b] w fun e w' => e = .returned (.bool true) ∧ Below w.heap.size w w' := by
  have CA := Lib.hid alive9_any
  obtain ⟨i0, hi, hz0, hz1, hz2⟩ := info_parts infoS
  obtain ⟨bb, off, rfl, hbb, hc⟩ := rowS_cell hI (by omega)
  have hlen := hI.1
  have HI := Lib.hid hI
  have HC := Lib.hid hc
  clear hI hc
  have d1 : decide (60 < (len : Int)) = false := decide_eq_false (by omega)
  have d2 : ((len : Int) == 0) = false := by rw [beq_eq_false_iff_ne]; omega
  have d3 : decide ((a : Int) < 0) = false := decide_eq_false (by omega)
  have d4 : decide ((b : Int) < 0) = false := decide_eq_false (by omega)
  have d5 : decide (len ≤ a) = false := decide_eq_false (by omega)
  have d6 : decide (len ≤ b) = false := decide_eq_false (by omega)
  have d7 : decide ((len : Int) ≤ (a : Int)) = false := decide_eq_false (by omega)
  have d8 : decide ((len : Int) ≤ (b : Int)) = false := decide_eq_false (by omega)
  go_enter Try.func5, Try.ntmps5
  go_wp2_with (fail)
  go_loop [7] (fun i => ∃ k : Nat, k ≤ len ∧ i = .int .i64 k) (fun i => len - (intOf i).toNat)
  case atStart => exact ⟨0, Nat.zero_le _, rfl⟩
  case round =>
    obtain ⟨k, hk, rfl⟩ := hrel
    by_cases hlt : k < len
    · have hkl : k < ss.length := by rw [hlen]; exact hlt
      have hcx := HC.out k hkl
      have hsz := HI.out.2.1 _ (List.getElem_mem hkl)
      unfold maxLen at hsz
      generalize ss[k] = key at hcx hsz
      by_cases h100 : 100 < key.size
      · have hd : decide (100 < (key.size : Int)) = true := decide_eq_true (by omega)
        clear hlen hkl
        go_wp2_with (go_at_call 7; refine (CA.out _).mono ?_; rintro _ w2 ⟨rfl, b2⟩)
        go_ret
        exact ⟨rfl, b2⟩
      · have hd : decide (100 < (key.size : Int)) = false := decide_eq_false (by omega)
        clear hlen hkl
        go_wp2
        go_round
        case rel => exact ⟨k + 1, by omega, by go_num⟩
        case measure => simp [intOf]; omega
    · have HO : Hid ((cellsS ss).length = len * 1) := by show _ = _; simp [cellsS, hlen]
      have H1 := Lib.hid (cellsS_one ss)
      have HCC : Hid (∀ j u, (cellsS ss)[j]? = some u → w.cell? ((⟨bb, off, none⟩ : Addr).add j) = some u) := fun j u hu => by
        have hj : j < ss.length := by
          have := (List.getElem?_eq_some_iff.1 hu).1
          simpa [cellsS] using this
        rw [addr_plain, HC.out j hj]
        simp [cellsS, hj] at hu
        rw [← hu]
      go_wp2_with (at_builtin; refine wpList_append_own _ rfl _ _ 22 rfl w.heap.size 9 i0 (.string ⟨#[]⟩) 1 16 Try.underlying22 hi hz0 hz1 hz2 rfl (by decide) _ _ _ rfl (World.ownsRow_nil w w.heap.size _ _) ⟨bb, off, none⟩ len cap (cellsS ss) rfl HO.out HCC.out H1.out ?c3 ?c4 ?c5 ?_)
      case c3 => unfold maxLen; omega
      case c4 => omega
      intro v1 w1 hown1 hgrow1 _
      have hb1 : Below w.heap.size w w1 := (Below.refl _ _).grown hgrow1 (Nat.le_refl _) (fun k hk => by cases hk)
      try simp only [Nat.zero_add, List.nil_append] at hown1
      have hs1 := hb1.size
      clear hgrow1 HO H1 HCC
      obtain ⟨g, cap1, rfl⟩ : ∃ g cap1, v1 = .slice (some ⟨g, 0, none⟩) len cap1 := by
        rcases hown1.2 with ⟨-, hz⟩ | ⟨g, cap', cur, rfl, -⟩
        · omega
        · exact ⟨g, cap', rfl⟩
      have hal : a < ss.length := by omega
      have hbl : b < ss.length := by omega
      have hca : w1.cell? ⟨g, a, none⟩ = some (.string ss[a]) := by rw [hown1.cellAt a (by omega)]; simp [cellsS, hal]
      have hcb : w1.cell? ⟨g, b, none⟩ = some (.string ss[b]) := by rw [hown1.cellAt b (by omega)]; simp [cellsS, hbl]
      have hfa := hown1.frozenAt a
      have hfb := hown1.frozenAt b
      have hst := (hown1.stored a (.string ss[b]))
      have hst2 := hst.1.stored b (.string ss[a])
      have HSW : Hid (((cellsS ss).set a (.string ss[b])).set b (.string ss[a]) = cellsS ((ss.set a ss[b]).set b ss[a])) := by
        show _ = _
        simp only [cellsS, List.map_set]
      have HOW := Lib.hid hst2.1
      have HBW : Hid (Below w.heap.size w ((w1.setCell ⟨g, a, none⟩ (.string ss[b])).setCell ⟨g, b, none⟩ (.string ss[a]))) :=
        (hb1.setCell (p := ⟨g, a, none⟩) (hown1.lt g rfl).1 _).setCell (p := ⟨g, b, none⟩) (hown1.lt g rfl).1 _
      clear hst hst2 hown1 hb1
      obtain ⟨za, hza⟩ : ∃ z, ss[a] = z := ⟨_, rfl⟩
      obtain ⟨zb, hzb⟩ : ∃ z, ss[b] = z := ⟨_, rfl⟩
      have HZA := Lib.hid hza
      have HZB := Lib.hid hzb
      rw [hza] at hca HOW HSW HBW
      rw [hzb] at hcb HOW HSW HBW
      clear hza hzb
      go_upto_region 9 with fail
      go_cut [] from 59 to 72 (fun wx => ∃ n, wx = ((w1.setCell ⟨g, a, none⟩ (.string zb)).setCell ⟨g, b, none⟩ (.string za)).drewN n)
      case first =>
        clear HI HC HOW HSW HBW HZA HZB CA hlen hal hbl
        by_cases hab : a = b
        · subst hab
          obtain rfl : za = zb := by
            rw [hca] at hcb
            simpa using hcb
          clear hcb hfb
          go_region_with (fail)
          all_goals (go_wp2_with fail; go_meet; exact ⟨1, rfl⟩)
        · have hab2 : ¬ (b = a) := fun e => hab e.symm
          go_region_with (fail)
          all_goals (go_wp2_with fail; go_meet; exact ⟨1, rfl⟩)
      case rest =>
        obtain ⟨nd, rfl⟩ := hcut
        have hszS : ∀ s ∈ ss, s.size ≤ maxLen := HI.out.2.1
        obtain ⟨ms, hms⟩ : ∃ ms, (ss.set a zb).set b za = ms := ⟨_, rfl⟩
        have hmem : ∀ k, k ∈ ms ↔ k ∈ ss := fun k => by
          rw [← hms, ← HZA.out, ← HZB.out]
          exact swap_mem ss a b hal hbl k
        have hml : ms.length = ss.length := by rw [← hms, List.length_set, List.length_set]
        have hszM : ∀ s ∈ ms, s.size ≤ maxLen := fun s hs => hszS s ((hmem s).1 hs)
        have hpm : mkB 10 4 ms = mkB 10 4 ss := mkB_perm hml hmem
        rw [HSW.out, hms] at HOW
        clear HSW hms
        obtain ⟨W2, hW2⟩ : ∃ W2, ((w1.setCell ⟨g, a, none⟩ (.string zb)).setCell ⟨g, b, none⟩ (.string za)).drewN nd = W2 := ⟨_, rfl⟩
        have hown2 : W2.ownsRow w.heap.size 9 1 (.slice (some ⟨g, 0, none⟩) len cap1) len (cellsS ms) := by rw [← hW2]; exact ⟨HOW.out.1, HOW.out.2⟩
        have hB2 : Below w.heap.size w W2 := by rw [← hW2]; exact ⟨HBW.out.os, HBW.out.tape, HBW.out.output, HBW.out.size, HBW.out.block⟩
        rw [hW2]
        clear hW2 HOW HBW hca hcb hfa hfb hs1
        obtain ⟨F, hF⟩ : ∃ F : ByteArray, ⟨(mkB 10 4 ss).toArray⟩ = F := ⟨_, rfl⟩
        have C1 := Lib.hid (make_any 10 4 (some ⟨bb, off, none⟩) len cap ss W2 (by omega) (by omega) (by omega) (by omega) (by omega) (rowS_below HI.out hB2))
        have C2 := Lib.hid (fun (W : World) (h : IsRowS W (some ⟨g, 0, none⟩) len ms) => make_any 10 4 (some ⟨g, 0, none⟩) len cap1 ms W (by omega) (by omega) (by omega) (by omega) (by omega) h)
        rw [hF, show ((10 : Nat) : Int) = 10 from rfl, show ((4 : Nat) : Int) = 4 from rfl] at C1
        rw [hpm, hF, show ((10 : Nat) : Int) = 10 from rfl, show ((4 : Nat) : Int) = 4 from rfl] at C2
        have HOW2 := Lib.hid hown2
        have HB2 := Lib.hid hB2
        have HSM := Lib.hid hszM
        have HSS := Lib.hid hszS
        have HMM := Lib.hid hmem
        have HML := Lib.hid hml
        have HF := Lib.hid hF
        clear hown2 hB2 hszM hszS hmem hml hpm hF
        go_wp2_with (fail)
        go_at_call 9
        refine C1.out.mono ?_
        rintro _ w3 ⟨rfl, b3⟩
        have HO3 := Lib.hid (own_below9 HOW2.out b3)
        have HB3 := Lib.hid (HB2.out.trans (b3.mono HB2.out.size))
        clear C1 HOW2 HB2 b3
        go_wp2_with (fail)
        go_at_call 9
        refine (C2.out _ (rowS_own HO3.out (by rw [HML.out]; exact hlen) HSM.out)).mono ?_
        rintro _ w4 ⟨rfl, b4⟩
        have HO4 := Lib.hid (own_below9 HO3.out b4)
        have HB4 := Lib.hid (HB3.out.trans (b4.mono HB3.out.size))
        have hs4 := HB4.out.size
        have hka : w4.cell? ⟨bb, off + a, none⟩ = some (.string za) := by
          rw [← HZA.out]
          exact (HB4.out.cell (p := ⟨bb, off + a, none⟩) hbb).trans (HC.out a hal)
        clear C2 HO3 HB3 b4
        go_wp2_with (at_builtin; refine wpList_append_own _ rfl _ _ 22 rfl w.heap.size 9 i0 (.string ⟨#[]⟩) 1 16 Try.underlying22 hi hz0 hz1 hz2 rfl (by decide) _ _ _ rfl (HO4.out.alloc _) ⟨w4.heap.size, 0, none⟩ 1 1 [.string za] rfl rfl ?e1 ?e2 ?e3 ?e4 ?e5 ?_)
        case e1 =>
          intro j u hj
          match j, hj with
          | 0, hj => simp at hj; subst hj; simp [Addr.add]
        case e2 => intro u hu; simp at hu; subst hu; rfl
        case e3 => unfold maxLen; omega
        case e4 => omega
        case e5 => simp; omega
        intro v5 w5 hown5 hgrow5 _
        have hb5 : Below w.heap.size w w5 := (HB4.out.alloc hs4 _).grown hgrow5 (by simp; omega) (fun k hk => (HO4.out.lt k hk).1)
        clear hgrow5 HO4 HB4 hka
        obtain ⟨g5, cap5, rfl⟩ : ∃ g5 cap5, v5 = .slice (some ⟨g5, 0, none⟩) (len + 1) cap5 := by
          rcases hown5.2 with ⟨-, hz⟩ | ⟨g, cap', cur, rfl, -⟩
          · omega
          · exact ⟨g, cap', rfl⟩
        have hcs : cellsS ms ++ [.string za] = cellsS (ms ++ [za]) := by simp [cellsS]
        rw [hcs] at hown5
        have hlen5 : (ms ++ [za]).length = len + 1 := by rw [List.length_append, List.length_singleton, HML.out, hlen]
        have hzin : za ∈ ss := by rw [← HZA.out]; exact List.getElem_mem hal
        have hzbin : zb ∈ ms ++ [za] := by
          refine List.mem_append_left _ ((HMM.out _).2 ?_)
          rw [← HZB.out]
          exact List.getElem_mem hbl
        have hrow5 := rowS_own hown5 hlen5 (fun s hs => by
          rcases List.mem_append.1 hs with hs | hs
          · exact HSM.out s hs
          · rw [List.mem_singleton] at hs
            rw [hs]
            exact HSS.out _ hzin)
        have C3 := make_any 10 4 (some ⟨g5, 0, none⟩) (len + 1) cap5 (ms ++ [za]) w5 (by omega) (by omega) (by omega) (by omega) (by omega) hrow5
        obtain ⟨X, hX⟩ : ∃ X : ByteArray, ⟨(mkB 10 4 (ms ++ [za])).toArray⟩ = X := ⟨_, rfl⟩
        rw [hX, show ((10 : Nat) : Int) = 10 from rfl, show ((4 : Nat) : Int) = 4 from rfl] at C3
        have hXs : F.size ≤ X.size := by
          rw [← HF.out, ← hX, mkB_size, mkB_size, hlen5, hlen]
          have := szB_mono (bits := 10) (show len ≤ len + 1 by omega)
          omega
        have hXm : X.size ≤ 1000000 := by
          rw [← hX, mkB_size, hlen5]
          unfold szB
          omega
        have hzs : zb.size ≤ 9223372036854775807 := by
          have := HSS.out zb (by rw [← HZB.out]; exact List.getElem_mem hbl)
          unfold maxLen at this
          omega
        have M3 := Lib.hid (fun W : World => may_any X zb W hXm hzs)
        rw [show mayB X.data.toList zb.data.toList = true by rw [← hX]; exact mayB_in (by omega) (by omega) hzbin] at M3
        have HC3 := Lib.hid C3
        have HB5 := Lib.hid hb5
        have HXS : (F.size : Int) ≤ (X.size : Int) := by omega
        clear C3 hb5 hX hown5 hrow5 hcs hlen5 hzin hzbin HSM HSS HMM HML HF hXm hzs hs4
        go_wp2_with (fail)
        go_at_call 9
        refine HC3.out.mono ?_
        rintro _ w6 ⟨rfl, b6⟩
        have HB6 := Lib.hid (HB5.out.trans (b6.mono HB5.out.size))
        clear HC3 HB5 b6
        go_wp2_with (fail)
        go_at_call 7
        refine (CA.out _).mono ?_
        rintro _ w7 ⟨rfl, b7⟩
        have HB7 := Lib.hid (HB6.out.trans (b7.mono HB6.out.size))
        have hkb : w7.cell? ⟨bb, off + b, none⟩ = some (.string zb) := by
          rw [← HZB.out]
          exact (HB7.out.cell (p := ⟨bb, off + b, none⟩) hbb).trans (HC.out b hbl)
        clear HB6 b7
        go_wp2_with (go_at_call 13; refine (M3.out _).mono ?_; rintro _ w8 ⟨rfl, b8⟩)
        go_ret
        exact ⟨rfl, HB7.out.trans (b8.mono HB7.out.size)⟩
end Go.Proofs.Ytdbdifbcfplegaa
