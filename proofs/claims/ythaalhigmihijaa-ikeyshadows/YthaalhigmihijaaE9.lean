/- The walk of ikey's viewers. -/
import Derived.Test.YthaalhigmihijaaE8
import Derived.Carry
import Derived.BigQuiet
namespace Go.Proofs.Ythaalhigmihijaa
open Go.RowKit Go.Shelf

theorem mapT9 : Try.prog.underlying 52 = some (.map 3 3) := Try.underlying52
theorem str_eq {a b : ByteArray} (h : (a.toList == b.toList) = true) : a = b := by
  rw [ByteArray.toList_eq, ByteArray.toList_eq] at h
  exact bytes_ext (by simpa using h)
theorem str_neq {a b : ByteArray} (h : (a.toList == b.toList) = false) : a ≠ b := by
  rintro rfl
  simp at h
theorem drewNE {B : Nat} {a b : World} (h : Below B a b) (n : Nat) : Below B a (b.drewN n) := ⟨h.os, h.tape, h.output, h.size, h.block⟩
theorem wf_i64 {z : Int} (h1 : -9223372036854775808 ≤ z) (h2 : z ≤ 9223372036854775807) : (Lit.int .i64 z).wf = true := by
  have e1 : IntKind.i64.min = -9223372036854775808 := rfl
  have e2 : IntKind.i64.max = 9223372036854775807 := rfl
  simp [Lit.wf]
  omega
set_option maxHeartbeats 4000000 in
set_option maxRecDepth 100000 in
theorem viewers_any (N : Nat) (hS : SortsU N) (a : Option Addr) (len cap : Nat) (es : List Ent) (pa : Option Addr) (plen pcap : Nat) (zs : List Int) (w : World) (hE : EntsAt w.heap.size w a len es) (hP : NumsAt w.heap.size w pa plen zs) (hl : len ≤ 1000000) (hp : plen ≤ 1000000) (hN : plen ≤ N) :
    Calls Try.prog 28 #[.slice a len cap, .slice pa plen pcap] w fun e w' => ∃ mb D, e = .returned (.map (some mb)) ∧ w'.ownsMap Try.prog 3 (plainElem Try.prog 3) mb len D ∧ Tells D es zs len ∧ w.heap.size ≤ mb ∧ Below w.heap.size w w' := by
  have hel := hE.1
  have hpl := hP.1
  have C0 := Lib.hid ((callsIn_wide (n := 5)).1 (vals_in Fence.wide 5 trivial rfl pa plen pcap w))
  have b1 : Below w.heap.size w (w.alloc (.cells #[.slice pa plen pcap] 23)) := (Below.refl _ _).alloc (Nat.le_refl _) _
  have hP1 : NumsAt (w.alloc (.cells #[.slice pa plen pcap] 23)).heap.size (w.alloc (.cells #[.slice pa plen pcap] 23)) pa plen zs := by
    refine ⟨hP.1, ?_⟩
    rcases (hP.below b1).2 with h0 | ⟨b, off, e, hlt, hc⟩
    · exact .inl h0
    · exact .inr ⟨b, off, e, by simp; omega, hc⟩
  have C1 := Lib.hid (sorted_any N hS w.heap.size pa plen pcap zs hN hp (w.alloc (.cells #[.slice pa plen pcap] 23)) (by simp) (nce rfl rfl) hP1)
  have HE := Lib.hid hE
  clear hE hP hP1
  have hmm := @run_makeMap Try.prog
  go_enter Try.func28, Try.ntmps28
  go_wp2_with (first | (go_at_call 46; refine C0.out.mono ?_; rintro e w1 ⟨rfl, rfl⟩) | (go_at_call 45; refine C1.out.mono ?_; rintro e w2 ⟨sa, scap, ys, rfl, hperm, hsort, hn, hb2⟩))
  have b2 : Below w.heap.size w w2 := b1.trans (hb2.mono (by simp))
  have hyl : ys.length = plen := by rw [hperm.length_eq]; exact hpl
  have CB := Lib.hid (fun x W (h : Below w2.heap.size w2 W) => below_any sa plen scap ys x w2.heap.size W hp (hn.below h) hsort)
  have HC := Lib.hid (fun x => cnt_perm hperm x)
  have HCL := Lib.hid (fun x => cnt_le zs x)
  have HEW := Lib.hid (fun W (h : Below w2.heap.size w2 W) => HE.out.below (b2.trans (h.mono b2.size)))
  clear hn hsort hperm
  go_loopw [17] (fun iv wr => ∃ (i : Nat) (D : DataW Unit), iv = .int .i64 (i : Int) ∧ i ≤ len ∧ wr.ownsMap Try.prog 3 (plainElem Try.prog 3) w2.heap.size i D ∧ Tells D es zs i ∧ Below w2.heap.size w2 wr) (fun iv _ => len - (intOf iv).toNat)
  case atStart => exact ⟨0, _, rfl, Nat.zero_le _, World.ownsMap_made _ _ _ _, tells_nil _ _, (Below.refl _ _).alloc (Nat.le_refl _) _⟩
  case round =>
    obtain ⟨i, D, rfl, hi, hown, hT, hbl⟩ := hrel
    by_cases hlt : i < len
    · obtain ⟨b, off, rfl, hblt, HCE⟩ : ∃ b off, a = some ⟨b, off, none⟩ ∧ b < w.heap.size ∧ ∀ i, i < len → ∃ x : Ent, es[i]? = some x ∧ ∀ j u, x.cells[j]? = some u → wr.cell? ⟨b, off + i * 4 + j, none⟩ = some u := by
        rcases (HEW.out wr hbl).2 with h0 | ⟨b, off, e, h1, h2⟩
        · omega
        · exact ⟨b, off, e, h1, fun i hi => ⟨es[i]'(by omega), List.getElem?_eq_getElem (by omega), h2 i (by omega)⟩⟩
      have hbr : b < wr.heap.size := by have := b2.size; have := hbl.size; omega
      obtain ⟨⟨K, SQ, NN, V⟩, hget, hcell⟩ := HCE i hlt
      have HCE := Lib.hid HCE
      have q0 : wr.cell? ⟨b, off + i * 4, none⟩ = some (.string K) := hcell 0 _ rfl
      have q1 : wr.cell? ⟨b, off + i * 4 + 1, none⟩ = some (.int .u64 SQ) := hcell 1 _ rfl
      have q2 : wr.cell? ⟨b, off + i * 4 + 2, none⟩ = some (.int .i64 NN) := hcell 2 _ rfl
      have q3 : wr.cell? ⟨b, off + i * 4 + 3, none⟩ = some (.string V) := hcell 3 _ rfl
      have hgi : es.getD i default = ⟨K, SQ, NN, V⟩ := by rw [List.getD_eq_getElem?_getD, hget]; rfl
      have hil : (i : Int) < (len : Int) := by omega
      have HNS := Lib.hid (show numAt es zs i = (leftAt es zs i : Int) - (cnt ys SQ : Int) by unfold numAt; rw [hgi, HC.out])
      have hle1 := HCL.out SQ
      rw [← HC.out] at hle1
      have CB1 := Lib.hid (CB.out SQ)
      have HGI := Lib.hid hgi
      clear hcell hget hgi
      have q0a : ∀ o, (wr.alloc o).cell? ⟨b, off + i * 4, none⟩ = _ := fun o => oce hbr q0
      have HBL := Lib.hid (show ∀ (o : Obj), Below w2.heap.size w2 (wr.alloc o) from fun o => hbl.alloc hbl.size o)
      have HOW := Lib.hid (show ∀ (o : Obj) (q : Nat), ((wr.alloc o).drewN q).ownsMap Try.prog 3 (plainElem Try.prog 3) w2.heap.size i D from fun o q => hown.alloc o)
      have WFI := Lib.hid (show ∀ z : Int, -9223372036854775808 ≤ z → z ≤ 9223372036854775807 → (Lit.int .i64 z).wf = true from fun z h1 h2 => wf_i64 h1 h2)
      have HMAP := Lib.hid (hown.isMap)
      have HT := Lib.hid hT
      have HB6 := Lib.hid (show ∀ (o : Obj) (q : Nat) (w6 : World), ((wr.alloc o).drewN q).grownBy w6 (some w2.heap.size) → Below w2.heap.size w2 w6 from fun o q w6 h => (drewNE (HBL.out o) q).trans ((turn_of_grown (F := [w2.heap.size]) h (fun k hk => by cases hk; exact .inl (by simp))).below (HBL.out o).size (fun k hk => by simp at hk; omega)))
      clear hT
      by_cases hi0 : i = 0
      · have d0 : decide (0 < i) = false := by simp; omega
        have hleft : leftAt es zs i = plen + 1 := by unfold leftAt; rw [if_neg (by omega)]; omega
        clear hi0
        generalize cnt ys SQ = CN at *
        rw [hleft] at HNS
        have hpos : decide (0 < (plen : Int) + 1 - (CN : Int)) = true := by simp; omega
        go_wp2
        go_quiet (fail)
        go_wp2_with (first | (go_at_call 47; (with_reducible refine (CB1.out _ (drewNE (HBL.out _) _)).mono ?_); rintro e w5 ⟨rfl, rfl⟩) | (at_mapUpdate; refine wpList_mapUpdate_own _ rfl _ _ _ 52 rfl 3 3 (Maps.int_keyed Try.underlying3) mapT9 (plainElem Try.prog 3) w2.heap.size i D rfl (HOW.out _ _) (by unfold maxLen; omega) _ _ _ rfl rfl (Maps.keyOf_int_mk Try.underlying3 (WFI.out _ (by omega) (by omega))) _ [] (plainElem_int Try.underlying3 (WFI.out _ (by omega) (by omega))) ?_; intro w6 hown6 hgrow6))
        have en : ((plen : Int) + 1 - (CN : Int) : Int) = numAt es zs i := by have := HNS.out; omega
        rw [en] at hown6
        have hn0 : 0 < numAt es zs i := by rw [← en]; omega
        go_roundw
        case rel => exact ⟨i + 1, _, by go_num, by omega, hown6, tells_put HMAP.out HT.out hn0, HB6.out _ _ _ hgrow6⟩
        case measure => simp [intOf]; omega
      · have d0 : decide (0 < i) = true := by simp; omega
        obtain ⟨j, hj⟩ : ∃ j, i = j + 1 := ⟨i - 1, by omega⟩
        obtain ⟨⟨K', SQ', NN', V'⟩, hget', hcell'⟩ := HCE.out j (by omega)
        have hgj : es.getD (i - 1) default = ⟨K', SQ', NN', V'⟩ := by rw [hj, Nat.add_sub_cancel, List.getD_eq_getElem?_getD, hget']; rfl
        have p0 : wr.cell? ⟨b, off + j * 4, none⟩ = some (.string K') := hcell' 0 _ rfl
        have p1 : wr.cell? ⟨b, off + j * 4 + 1, none⟩ = some (.int .u64 SQ') := hcell' 1 _ rfl
        have p0a : ∀ o, (wr.alloc o).cell? ⟨b, off + j * 4, none⟩ = _ := fun o => oce hbr p0
        have p1a : ∀ o, (wr.alloc o).cell? ⟨b, off + j * 4 + 1, none⟩ = _ := fun o => oce hbr p1
        have CB2 := Lib.hid (CB.out SQ')
        have hle2 := HCL.out SQ'
        rw [← HC.out] at hle2
        have hij : (i : Int) - 1 = (j : Int) := by omega
        have hjl : (j : Int) < (len : Int) := by omega
        have hlf : leftAt es zs i = if K' = K then cnt ys SQ' else plen + 1 := by
          unfold leftAt
          rw [hgj, HGI.out, HC.out, hpl]
          by_cases hk : K' = K
          · rw [if_pos ⟨by omega, hk⟩, if_pos hk]
          · rw [if_neg (fun h => hk h.2), if_neg hk]
        have HJ := Lib.hid hj
        clear hget' hcell' hgj hj hi0
        cases hkk : (K'.toList == K.toList) with
        | false =>
          rw [hlf, if_neg (str_neq hkk)] at HNS
          generalize cnt ys SQ = CN at *
          clear hlf
          have hpos : decide (0 < (plen : Int) + 1 - (CN : Int)) = true := by simp; omega
          go_wp2
          go_quiet (fail)
          go_wp2_with (first | (go_at_call 47; (with_reducible refine (CB1.out _ (drewNE (HBL.out _) _)).mono ?_); rintro e w5 ⟨rfl, rfl⟩) | (at_mapUpdate; refine wpList_mapUpdate_own _ rfl _ _ _ 52 rfl 3 3 (Maps.int_keyed Try.underlying3) mapT9 (plainElem Try.prog 3) w2.heap.size i D rfl (HOW.out _ _) (by unfold maxLen; omega) _ _ _ rfl rfl (Maps.keyOf_int_mk Try.underlying3 (WFI.out _ (by omega) (by omega))) _ [] (plainElem_int Try.underlying3 (WFI.out _ (by omega) (by omega))) ?_; intro w6 hown6 hgrow6))
          have en : ((plen : Int) + 1 - (CN : Int) : Int) = numAt es zs i := by have := HNS.out; omega
          rw [en] at hown6
          have hn0 : 0 < numAt es zs i := by rw [← en]; omega
          go_roundw
          case rel => exact ⟨i + 1, _, by go_num, by omega, hown6, tells_put HMAP.out HT.out hn0, HB6.out _ _ _ hgrow6⟩
          case measure => simp [intOf]; omega
        | true =>
          rw [hlf, if_pos (str_eq hkk)] at HNS
          generalize cnt ys SQ = CN at *
          generalize cnt ys SQ' = CL at *
          clear hlf
          by_cases hcl : CN < CL
          · have hpos : decide (0 < (CL : Int) - (CN : Int)) = true := by simp; omega
            go_wp2
            go_quiet (fail)
            go_wp2_with (first | (go_at_call 47; (with_reducible refine (CB2.out _ (drewNE (HBL.out _) _)).mono ?_); rintro e w5 ⟨rfl, rfl⟩) | (go_at_call 47; (with_reducible refine (CB1.out _ (drewNE (HBL.out _) _)).mono ?_); rintro e w5 ⟨rfl, rfl⟩) | (at_mapUpdate; refine wpList_mapUpdate_own _ rfl _ _ _ 52 rfl 3 3 (Maps.int_keyed Try.underlying3) mapT9 (plainElem Try.prog 3) w2.heap.size i D rfl (HOW.out _ _) (by unfold maxLen; omega) _ _ _ rfl rfl (Maps.keyOf_int_mk Try.underlying3 (WFI.out _ (by omega) (by omega))) _ [] (plainElem_int Try.underlying3 (WFI.out _ (by omega) (by omega))) ?_; intro w6 hown6 hgrow6))
            have en : ((CL : Int) - (CN : Int) : Int) = numAt es zs i := by have := HNS.out; omega
            rw [en] at hown6
            have hn0 : 0 < numAt es zs i := by rw [← en]; omega
            go_roundw
            case rel => exact ⟨i + 1, _, by go_num, by omega, hown6, tells_put HMAP.out HT.out hn0, HB6.out _ _ _ hgrow6⟩
            case measure => simp [intOf]; omega
          · have hpos : decide (0 < (CL : Int) - (CN : Int)) = false := by simp; omega
            go_wp2
            go_quiet (fail)
            go_wp2_with (first | (go_at_call 47; (with_reducible refine (CB2.out _ (drewNE (HBL.out _) _)).mono ?_); rintro e w5 ⟨rfl, rfl⟩) | (go_at_call 47; (with_reducible refine (CB1.out _ (drewNE (HBL.out _) _)).mono ?_); rintro e w5 ⟨rfl, rfl⟩) | fail)
            go_roundw
            case rel => exact ⟨i + 1, D, by go_num, by omega, (HOW.out _ _).mono (Nat.le_succ _), tells_skip HT.out (by rw [HNS.out]; omega), drewNE (HBL.out _) _⟩
            case measure => simp [intOf]; omega
    · obtain rfl : i = len := by omega
      go_wp2
      go_ret
      exact ⟨_, D, rfl, hown, hT, b2.size, b2.trans (hbl.mono b2.size)⟩
end Go.Proofs.Ythaalhigmihijaa
