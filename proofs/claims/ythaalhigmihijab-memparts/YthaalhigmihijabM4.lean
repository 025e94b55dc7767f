/- mem's Add, Get, Range, Size, Len, Last. -/
import Derived.Test.YthaalhigmihijabM3
namespace Go.Proofs.Ythaalhigmihijab
open Go.RowKit

set_option maxHeartbeats 4000000 in
set_option maxRecDepth 100000 in
theorem memAdd_any {B p la : Nat} {ds : List Int} {L : List Ent} {ns : List Nd} {w : World} (h : Mem B p ds L la ns w) (first : Nat) (a : Option Addr) (len cap : Nat) (ws : List Wr) (hE : WrsAt w.heap.size w a len ws) (hok : ∀ x ∈ ws, x.Ok) (ha : ∀ b off, a = some ⟨b, off, none⟩ → 0 < len → b ∉ foot p ns) (hl : len ≤ 60) (hf : first < 18446744073709551616) (hL : L.length ≤ 50000) (hds : ds.length ≤ 1000000) (hla : la < 18446744073709551616) :
    Calls Try.prog 20 #[.pointer (some ⟨p, 0, none⟩), .int .u64 (first : Int), .slice a len cap] w fun e w' => e = .returned (addV la first ws) ∧ ∃ ns', Mem B p ds (addL L la first ws) (addLa la first ws) ns' w' ∧ Turn (foot p ns) w w' ∧ (∀ k ∈ foot p ns', k ∈ foot p ns ∨ w.heap.size ≤ k) ∧ Same13 p w w' := by
  have hel := hE.1
  have CB := Lib.hid (putBatch_any first a len cap ws w hE hl hok hf)
  have HH := Lib.hid h
  have HE := Lib.hid hE
  have HA := Lib.hid ha
  cases hw : wrsOk ws with
  | false =>
    rw [putV_no first hw] at CB
    have HN := Lib.hid (addOk_no (addOk_bad (la := la) (first := first) (.inl hw)) L)
    clear h hE ha hok hw
    go_enter Try.func20, Try.ntmps20
    go_wp2_with (first | (go_at_call 36; (with_reducible refine CB.out.mono ?_); rintro e w1 ⟨rfl, hb⟩) | fail)
    refine bodyPost_ret (results_tmp2 rfl _ _ _) rfl ?_
    exact ⟨by rw [HN.out.1]; rfl, ns, by rw [HN.out.2.1, HN.out.2.2]; exact HH.out.below hb, turn_of_below hb, fun k hk => .inl hk, same13_below hb HH.out.tab.hdlt⟩
  | true =>
    rw [putV_yes first hw] at CB
    generalize (⟨(putB first ws).toArray⟩ : ByteArray) = bs at CB
    have hlw : IntKind.u64.wrap (len : Int) = (len : Int) := by rw [IntKind.wrap_u64]; omega
    have HPOS := Lib.hid (wrsOk_pos hw)
    have HWOK := Lib.hid hw
    have HWS := Lib.hid (wrsOk_all hw)
    have hsub : IntKind.u64.wrap (4611686018427387904 - (len : Int)) = 4611686018427387904 - (len : Int) := by rw [IntKind.wrap_u64]; omega
    by_cases hgo : la < first ∧ first + len ≤ 4611686018427387904
    · obtain ⟨g1, g2⟩ := hgo
      have d1 : decide ((first : Int) ≤ (la : Int)) = false := by simp; omega
      have d1' : decide (first ≤ la) = false := by simp; omega
      have d2 : decide (4611686018427387904 - (len : Int) < (first : Int)) = false := by simp; omega
      have HY := Lib.hid (addOk_yes (addOk_of hw g1 (by rw [hel]; exact g2)) L)
      clear h hE ha hok hw
      go_enter Try.func20, Try.ntmps20
      go_wp2_with (first | (go_at_call 36; (with_reducible refine CB.out.mono ?_); rintro e w1 ⟨rfl, hb⟩; have hc15 := (HH.out.below hb).tab.last) | fail)
      have HB := Lib.hid hb
      clear hb hc15
      go_loopw [42] (fun iv wr => ∃ (i : Nat) (ns' : List Nd), iv = .int .i64 (i : Int) ∧ i ≤ len ∧ Adds B p ds L (vers first ws) la i ns' wr ∧ Turn (foot p ns) w wr ∧ (∀ k ∈ foot p ns', k ∈ foot p ns ∨ w.heap.size ≤ k) ∧ Same13 p w wr) (fun iv _ => len - (intOf iv).toNat)
      case atStart => exact ⟨0, ns, rfl, Nat.zero_le _, (HH.out.below HB.out).adds _, turn_of_below HB.out, fun k hk => .inl hk, same13_below HB.out HH.out.tab.hdlt⟩
      case round =>
        obtain ⟨i, ns', rfl, hil0, hadd, htu, hft, h13⟩ := hrel
        have H13 := Lib.hid h13
        clear h13
        by_cases hlt : i < len
        · have hil : (i : Int) < (len : Int) := by omega
          obtain ⟨b, off, rfl, hblt, ⟨K, V, D⟩, hget, hcell⟩ : ∃ b off, a = some ⟨b, off, none⟩ ∧ b < w.heap.size ∧ ∃ x : Wr, ws[i]? = some x ∧ ∀ j u, x.cells[j]? = some u → wr.cell? ⟨b, off + i * 3 + j, none⟩ = some u := by
            rcases HE.out.2 with h0 | ⟨b, off, e, h1, h2⟩
            · omega
            · exact ⟨b, off, e, h1, ws[i]'(by omega), List.getElem?_eq_getElem (by omega), fun j u hu => (htu.cell h1 (HA.out b off e (by omega))).trans (h2 i (by omega) j u hu)⟩
          have q0 : wr.cell? ⟨b, off + i * 3, none⟩ = some (.string K) := hcell 0 _ rfl
          have q1 : wr.cell? ⟨b, off + i * 3 + 1, none⟩ = some (.string V) := hcell 1 _ rfl
          have q2 : wr.cell? ⟨b, off + i * 3 + 2, none⟩ = some (.bool D) := hcell 2 _ rfl
          have hwx : wrOk ⟨K, V, D⟩ = true := HWS.out _ (List.mem_of_getElem? hget)
          have hget2 : (vers first ws)[i]? = some (verE ⟨K, V, D⟩ (first + i)) := by
            have := vers_get ws first i (by omega)
            rw [this]
            rw [List.getElem?_eq_getElem (by omega)] at hget
            rw [Option.some.inj hget]
          have hfit := HH.out.fit
          have hszL : sizeL L + sizeL ((vers first ws).take i) ≤ 1000000000000 := by
            have h1 := sizeL_le L 50000 hfit hL
            have h2 := sizeL_le ((vers first ws).take i) 60 (fun e he => by
              obtain ⟨j, hj, rfl⟩ := vers_mem (List.mem_of_mem_take he)
              exact verE_fit (HWS.out _ (List.getElem_mem _)) (by omega)) (by rw [List.length_take]; omega)
            omega
          have CP := Lib.hid (fun W (h' : Tab B p ds ns' (sizeL L + sizeL ((vers first ws).take i)) la W) => mput_any h' (verE ⟨K, V, D⟩ (first + i)) (verE_nice hwx (by omega)) (verE_valid hwx _) (hadd.fresh g1 HH.out.old _) (by rw [hadd.len]; omega) hds hszL)
          have hw1 : IntKind.u64.wrap (i : Int) = (i : Int) := by rw [IntKind.wrap_u64]; omega
          have hw2 : IntKind.u64.wrap ((first : Int) + (i : Int)) = ((first + i : Nat) : Int) := by rw [IntKind.wrap_u64]; omega
          generalize first + i = S at CP hw2 hget2
          have CV := Lib.hid (fun W => version_any K V D (S : Int) W)
          have hbox : ∀ (o : Obj), Below wr.heap.size wr (wr.alloc o) := fun o => (Below.refl _ _).alloc (Nat.le_refl _) _
          have HBX := Lib.hid hbox
          have HADD := Lib.hid hadd
          have HTU := Lib.hid htu
          have HFT := Lib.hid hft
          have HG2 := Lib.hid hget2
          unfold ev verE at CP
          unfold ev at CV
          clear hcell hget hget2 hadd htu hft hfit hszL hwx hbox
          go_wp2_with (first | (go_at_call 38; (with_reducible refine (CV.out _).mono ?_); rintro e w2 ⟨rfl, hb2⟩) | (go_at_call 37; (with_reducible refine (CP.out _ (HADD.out.tab.below ((HBX.out _).trans (hb2.mono (HBX.out _).size)))).mono ?_); rintro e w3 ⟨rfl, ns3, hp3, ht3, hu3, hv3⟩) | fail)
          have hB2 := (HBX.out _).trans (hb2.mono (HBX.out _).size)
          go_roundw
          case rel =>
            refine ⟨i + 1, ns3, by go_num, by omega, HADD.out.step HG2.out (puts_mono hp3 (Nat.le_refl _)) ht3, ?_, fun k hk => ?_, (H13.out.trans (same13_below hB2 HADD.out.tab.hdlt)).trans hv3⟩
            · exact (HTU.out.trans (turn_of_below (F := []) hB2) (by simp)).trans hu3 HFT.out
            · rcases puts_foot hp3 k hk with h4 | h4
              · exact HFT.out k h4
              · exact .inr (Nat.le_trans HTU.out.size (Nat.le_trans hB2.size h4))
          case measure => simp [intOf]; omega
        · obtain rfl : i = len := by omega
          have cl := hadd.tab.last
          have fl := hadd.tab.warm 15
          have hwa : IntKind.u64.wrap ((first : Int) + (i : Int)) = (first : Int) + (i : Int) := by rw [IntKind.wrap_u64]; omega
          have hwb : IntKind.u64.wrap ((first : Int) + (i : Int) - 1) = (first : Int) + (i : Int) - 1 := by rw [IntKind.wrap_u64]; omega
          have HADD := Lib.hid hadd
          have HTU := Lib.hid htu
          have HFT := Lib.hid hft
          clear hadd htu hft
          go_wp2
          refine bodyPost_ret (results_tmp2 rfl _ _ _) rfl ?_
          have hd1 := HADD.out
          rw [← hel] at hd1
          have hd2 := hd1.done g1 HH.out.old HPOS.out
          have e1 : ((first + ws.length - 1 : Nat) : Int) = (first : Int) + (i : Int) - 1 := by have := HPOS.out; omega
          have e2 : ((first + ws.length : Nat) : Int) = (first : Int) + (i : Int) := by omega
          rw [e1] at hd2
          refine ⟨by rw [HY.out.1, e2]; rfl, ns', ?_, HTU.out.setCell (.inl (by simp [foot, hd])) _, HFT.out, H13.out.set (by omega)⟩
          rw [HY.out.2.1, HY.out.2.2]
          exact hd2
    · have HN := Lib.hid (addOk_no (addOk_bad (la := la) (first := first) (ws := ws) (by rw [hel]; omega)) L)
      by_cases g1 : la < first
      · have d1 : decide ((first : Int) ≤ (la : Int)) = false := by simp; omega
        have d1' : decide (first ≤ la) = false := by simp; omega
        have d2 : decide (4611686018427387904 - (len : Int) < (first : Int)) = true := by simp; omega
        clear h hE ha hok hw hgo
        go_enter Try.func20, Try.ntmps20
        go_wp2_with (first | (go_at_call 36; (with_reducible refine CB.out.mono ?_); rintro e w1 ⟨rfl, hb⟩; have hc15 := (HH.out.below hb).tab.last) | fail)
        refine bodyPost_ret (results_tmp2 rfl _ _ _) rfl ?_
        exact ⟨by rw [HN.out.1]; rfl, ns, by rw [HN.out.2.1, HN.out.2.2]; exact HH.out.below hb, turn_of_below hb, fun k hk => .inl hk, same13_below hb HH.out.tab.hdlt⟩
      · have d1 : decide ((first : Int) ≤ (la : Int)) = true := by simp; omega
        have d1' : decide (first ≤ la) = true := by simp; omega
        clear h hE ha hok hw hgo
        go_enter Try.func20, Try.ntmps20
        go_wp2_with (first | (go_at_call 36; (with_reducible refine CB.out.mono ?_); rintro e w1 ⟨rfl, hb⟩; have hc15 := (HH.out.below hb).tab.last) | fail)
        refine bodyPost_ret (results_tmp2 rfl _ _ _) rfl ?_
        exact ⟨by rw [HN.out.1]; rfl, ns, by rw [HN.out.2.1, HN.out.2.2]; exact HH.out.below hb, turn_of_below hb, fun k hk => .inl hk, same13_below hb HH.out.tab.hdlt⟩
section
variable {B p sz la : Nat} {ds : List Int} {ns : List Nd} {w : World}
set_option maxHeartbeats 1000000 in
set_option maxRecDepth 100000 in
theorem memGet_any {P Q : List Nd} {k : ByteArray} {s : Int} (h : Tab B p ds ns sz la w) (hc : Cut k s ns P Q) :
    Calls Try.prog 21 #[.pointer (some ⟨p, 0, none⟩), .string k, .int .u64 s] w fun e w' => e = .returned (getV (getR k Q)) ∧ Below w.heap.size w w' := by
  obtain ⟨W, hW⟩ : ∃ W, w.alloc (.cells #[.string ⟨#[]⟩, .int .u64 0, .int .i64 0, .string ⟨#[]⟩] 30) = W := ⟨_, rfl⟩
  have hB : Below w.heap.size w W := by rw [← hW]; exact (Below.refl _ _).alloc (Nat.le_refl _) _
  have hx : Boxe w.heap.size ⟨#[]⟩ 0 0 ⟨#[]⟩ W := by rw [← hW]; exact new_block _ _ rfl
  have C := Lib.hid (get_any (h.skp.lst.below hB) h.skp.right hc)
  generalize hg : getR k Q = g at C ⊢
  have HB := Lib.hid hB
  have HX := Lib.hid hx
  unfold getV Ent.val ev at C
  obtain ⟨y, hy⟩ : ∃ y, g.getD Ent.zero = y := ⟨_, rfl⟩
  rw [hy] at C
  clear h hc hB hx hg
  go_enter Try.func21, Try.ntmps21
  go_wp2_with (first | (go_at_call 12; (with_reducible refine C.out.mono ?_); rintro e w1 ⟨rfl, hb⟩; have hx1 := HX.out.below hb; have d0 := hx1.c0; have d1 := hx1.c1; have d2 := hx1.c2; have d3 := hx1.c3; have t0 := hx1.f 0; have t1 := hx1.f 1; have t2 := hx1.f 2; have t3 := hx1.f 3) | fail)
  have hB2 := HB.out.trans (hb.mono HB.out.size)
  refine bodyPost_ret (v := getV g) (by simp [results, Try.results21, go_sem, d0, d1, d2, d3, getV, hy, Ent.val, ev]) rfl ?_
  exact ⟨rfl, (((hB2.setCell (Nat.le_refl _) _).setCell (Nat.le_refl _) _).setCell (Nat.le_refl _) _).setCell (Nat.le_refl _) _⟩
theorem memRange_any {P Q : List Nd} {k : ByteArray} (tk : ByteArray) (h : Tab B p ds ns sz la w) (hc : Cut k 18446744073709551615 ns P Q) (hl : ns.length ≤ 1000000) :
    Calls Try.prog 22 #[.pointer (some ⟨p, 0, none⟩), .string k, .string tk] w fun e w' => ∃ v, e = .returned v ∧ Row w' 30 4 v (entsOf (upto tk Q)).length (cellsE (entsOf (upto tk Q))) ∧ (∀ b, ob v = some b → w.heap.size ≤ b) ∧ Below w.heap.size w w' := by
  have C := Lib.hid (between_any tk h.skp.lst h.skp.right hc hl)
  clear h hc
  go_enter Try.func22, Try.ntmps22
  go_wp2_with (first | (go_at_call 35; (with_reducible refine C.out.mono ?_); rintro e w1 ⟨v, rfl, hv, ho, hb⟩) | fail)
  go_ret
  exact ⟨v, rfl, hv, ho, hb⟩
theorem memSize_any (h : Tab B p ds ns sz la w) : Calls Try.prog 23 #[.pointer (some ⟨p, 0, none⟩)] w fun e w' => e = .returned (.int .i64 (sz : Int)) ∧ w = w' := by
  have c := h.size
  clear h
  go_enter Try.func23, Try.ntmps23
  go_wp2
  go_ret
  exact ⟨rfl, rfl⟩
theorem memLast_any (h : Tab B p ds ns sz la w) : Calls Try.prog 25 #[.pointer (some ⟨p, 0, none⟩)] w fun e w' => e = .returned (.int .u64 (la : Int)) ∧ w = w' := by
  have c := h.last
  clear h
  go_enter Try.func25, Try.ntmps25
  go_wp2
  go_ret
  exact ⟨rfl, rfl⟩
theorem memLen_any (h : Tab B p ds ns sz la w) : Calls Try.prog 24 #[.pointer (some ⟨p, 0, none⟩)] w fun e w' => e = .returned (.int .i64 (ns.length : Int)) ∧ w = w' := by
  have C := Lib.hid (len_any h.skp.lst)
  clear h
  go_enter Try.func24, Try.ntmps24
  go_wp2_with (first | (go_at_call 16; (with_reducible refine C.out.mono ?_); rintro e w1 ⟨rfl, rfl⟩) | fail)
  go_ret
  exact ⟨rfl, rfl⟩
end
end Go.Proofs.Ythaalhigmihijab
