/- BlockSeeks' walk, over the contracts of block.Put, Seek, Shared; alive is a premise. -/
import Derived.Test.YtopnbbchiglpoaaBQ
import Derived.Test.YtopnbbchiglpoaaBZ
namespace Go.Proofs.Ytopnbbchiglpoaa
open Go.RowKit

theorem range_all (es : List Ent) : rangeE ⟨#[]⟩ ⟨#[]⟩ es = es := by
  unfold rangeE
  rw [List.filter_eq_self]
  intro x _
  rw [inRange_all]
  unfold lessB
  have : Lib.compareBytes x.k.data.toList [] ≠ -1 := by cases x.k.data.toList <;> simp [Lib.compareBytes]
  simp [this]
theorem shr_self : ∀ x : List UInt8, shr x x = x.length
  | [] => rfl
  | b :: x => by simp [shr, shr_self x]
theorem shr_none : ∀ x : List UInt8, shr x [] = 0
  | [] => rfl
  | _ :: _ => rfl
theorem range_at (key : ByteArray) (es : List Ent) (i : Nat) (h : i < es.length) (hq : lessB es[i].k key = false) : ∃ hn : (rangeE key ⟨#[]⟩ (es.take i)).length < (rangeE key ⟨#[]⟩ es).length, (rangeE key ⟨#[]⟩ es)[(rangeE key ⟨#[]⟩ (es.take i)).length] = es[i] := by
  have hin : inRange key ⟨#[]⟩ es[i] = true := by rw [inRange_all, hq]; rfl
  have e1 : rangeE key ⟨#[]⟩ es = rangeE key ⟨#[]⟩ (es.take i) ++ es[i] :: rangeE key ⟨#[]⟩ (es.drop (i + 1)) := by
    unfold rangeE
    conv => lhs; rw [← List.take_append_drop i es, List.drop_eq_getElem_cons h, List.filter_append, List.filter_cons, if_pos hin]
  refine ⟨by rw [e1]; simp, ?_⟩
  simp only [e1]
  rw [List.getElem_append_right (Nat.le_refl _)]
  simp
set_option maxHeartbeats 8000000 in
set_option maxRecDepth 100000 in
theorem blockSeeks_hard {w : World} (CA : ∀ W : World, Calls Try.prog 6 #[] W fun e w' => e = .returned (.bool true) ∧ Below W.heap.size W w') (a : Option Addr) (len cap : Nat) (es : List Ent) (key : ByteArray) (hkm : key.size ≤ maxLen) (hI : IsEs w a len es) (hcap : len ≤ cap) :
    Calls Try.prog 4 #[.slice a len cap, .string key] w fun e w' => e = .returned (.bool true) ∧ Below w.heap.size w w' := by
  obtain ⟨hlm, hok, hE⟩ := hI
  have HCA := Lib.hid CA
  have CS := Lib.hid (smallS_any a len cap es hE (by unfold maxLen at hlm; omega) hok)
  have hll : es.length = len := hE.1
  subst hll
  have HE := Lib.hid hE
  have HOK := Lib.hid hok
  have hk63 : key.size ≤ 9223372036854775807 := by unfold maxLen at hkm; omega
  clear CA hlm hok hE hkm
  go_enter Try.func4, Try.ntmps4
  go_wp2_with (fail)
  go_at_call 5
  refine CS.out.mono ?_
  rintro _ w1 ⟨t, rfl, ht, b1⟩
  have HB1 := Lib.hid b1
  clear CS b1
  cases t with
  | false =>
    go_wp2_with (go_at_call 6; refine (HCA.out _).mono ?_; rintro _ w2 ⟨rfl, b2⟩)
    go_ret
    exact ⟨rfl, HB1.out.trans (b2.mono HB1.out.size)⟩
  | true =>
    obtain ⟨h150, hsz⟩ := ht rfl
    by_cases hk3 : key.size ≤ 300
    · have hk3I : ¬ (300 : Int) < (key.size : Int) := by omega
      have C2 := Lib.hid (putP_any (w := w1) a es.length cap es ((HE.out.below HB1.out).mono HB1.out.size) h150 hcap HOK.out hsz)
      cases hor : ordB es es.length with
      | false =>
        rw [show putBV es = .tuple #[.string ⟨#[]⟩, .int .i64 1] by unfold putBV; rw [hor]; rfl] at C2
        go_wp2_with (first | (go_at_call 7; refine C2.out.mono ?_; rintro _ w2 ⟨rfl, b2⟩) | (go_at_call 6; refine (HCA.out _).mono ?_; rintro _ w3 ⟨rfl, b3⟩) | fail)
        go_ret
        exact ⟨rfl, (HB1.out.trans (b2.mono HB1.out.size)).trans (b3.mono (Nat.le_trans HB1.out.size b2.size))⟩
      | true =>
        obtain ⟨Z, hZ⟩ : ∃ Z : ByteArray, ⟨(blkB es).toArray⟩ = Z := ⟨_, rfl⟩
        have hZd : Z.data.toList = blkB es := by rw [← hZ]
        have hG : getE Z.data.toList = (0, es) := by rw [hZd]; exact getE_laid es (by omega) hor (fun x hx => ⟨(HOK.out x hx).2.1, (HOK.out x hx).2.2.1⟩)
        rw [show putBV es = .tuple #[.string Z, .int .i64 0] by unfold putBV; rw [hor, ← hZ]; rfl] at C2
        clear hZ
        go_wp2_with fail
        go_at_call 7
        refine C2.out.mono ?_
        rintro _ w2 ⟨rfl, b2⟩
        have HB2 := Lib.hid (HB1.out.trans (b2.mono HB1.out.size))
        have C3 := Lib.hid (seekP_laid es key w2 h150 hsz HOK.out Z hZd)
        unfold SeekB at C3
        rw [hG] at C3
        clear C2 b2 HB1
        go_wp2_with fail
        go_at_call 9
        refine C3.out.mono ?_
        rintro _ w3 ⟨vm, rfl, rm, nm, -, b3⟩
        have HB3 := Lib.hid (HB2.out.trans (b3.mono HB2.out.size))
        have HRM := Lib.hid rm
        have C4 := Lib.hid (seekP_laid es ⟨#[]⟩ w3 h150 hsz HOK.out Z hZd)
        unfold SeekB at C4
        rw [hG, range_all] at C4
        clear C3 rm nm b3 HB2
        go_wp2_with fail
        go_at_call 9
        refine C4.out.mono ?_
        rintro _ w4 ⟨va, rfl, ra, -, -, b4⟩
        obtain ⟨aa, ca, rfl, -⟩ := ra.le
        obtain ⟨am, cm, rfl, hEm⟩ := row_ents (row_below HRM.out b4)
        have HEM := Lib.hid hEm
        have HB4 := Lib.hid (HB3.out.trans (b4.mono HB3.out.size))
        clear C4 ra b4 HB3 hEm
        have hfr := rangeE_le key ⟨#[]⟩ es
        go_wp2_with fail
        go_loopw [11, 12] (fun nv iv wr => ∃ i : Nat, nv = .int .i64 (((rangeE key ⟨#[]⟩ (es.take i)).length : Nat) : Int) ∧ iv = .int .i64 (i : Int) ∧ i ≤ es.length ∧ Below w4.heap.size w4 wr) (fun _ iv _ => es.length - (intOf iv).toNat)
        case atStart => exact ⟨0, by simp [rangeE], rfl, Nat.zero_le _, Below.refl _ _⟩
        case round =>
          obtain ⟨i, rfl, rfl, hil, hbl⟩ := hrel
          have HBL := Lib.hid hbl
          have HWR := Lib.hid (HB4.out.trans (hbl.mono HB4.out.size))
          clear hbl
          by_cases hlt : i < es.length
          · have hltI : (i : Int) < (es.length : Int) := by omega
            obtain ⟨b, off, rfl, hblt, hcell⟩ : ∃ b off, a = some ⟨b, off, none⟩ ∧ b < w.heap.size ∧ ∀ j u, es[i].cells[j]? = some u → wr.cell? ⟨b, off + i * 4 + j, none⟩ = some u := by
              rcases (HE.out.below HWR.out).2 with h0 | ⟨b, off, e, h1, h2⟩
              · omega
              · exact ⟨b, off, e, h1, h2 i hlt⟩
            have HST := Lib.hid (rangeE_take key ⟨#[]⟩ es i hlt)
            rw [inRange_all] at HST
            have hRA := range_at key es i hlt
            have hnle := rangeE_le key ⟨#[]⟩ (es.take i)
            rw [List.length_take] at hnle
            obtain ⟨n, hn⟩ : ∃ n, (rangeE key ⟨#[]⟩ (es.take i)).length = n := ⟨_, rfl⟩
            have q0 : wr.cell? ⟨b, off + i * 4, none⟩ = some (.string es[i].k) := hcell 0 _ rfl
            have q1 : wr.cell? ⟨b, off + i * 4 + 1, none⟩ = some (.int .u64 es[i].s) := hcell 1 _ rfl
            have q2 : wr.cell? ⟨b, off + i * 4 + 2, none⟩ = some (.int .i64 es[i].n) := hcell 2 _ rfl
            have q3 : wr.cell? ⟨b, off + i * 4 + 3, none⟩ = some (.string es[i].v) := hcell 3 _ rfl
            have hbl2 : Op.bytesLess es[i].k.toList key.toList = lessB es[i].k key := by rw [ByteArray.toList_eq, ByteArray.toList_eq]; exact less_cb _ _
            clear hcell
            cases hq : lessB es[i].k key with
            | true =>
              rw [hq] at hbl2 HST
              generalize es[i] = x at *
              go_wp2_with fail
              go_roundw
              case rel => exact ⟨i + 1, by rw [HST.out]; simp, by go_num, by omega, HBL.out⟩
              case measure => simp [intOf]; omega
            | false =>
              rw [hq] at hbl2 HST
              obtain ⟨hnl, hxn⟩ := hRA hq
              obtain ⟨bm, om, rfl, hbm, hcm⟩ : ∃ bm om, am = some ⟨bm, om, none⟩ ∧ bm < w4.heap.size ∧ ∀ j u, es[i].cells[j]? = some u → wr.cell? ⟨bm, om + n * 4 + j, none⟩ = some u := by
                rcases (HEM.out.below HBL.out).2 with h0 | ⟨b, off, e, h1, h2⟩
                · omega
                · refine ⟨b, off, e, h1, fun j u hu => ?_⟩
                  rw [← hn]
                  exact h2 _ hnl j u (by rw [hxn]; exact hu)
              have r0 : wr.cell? ⟨bm, om + n * 4, none⟩ = some (.string es[i].k) := hcm 0 _ rfl
              have r1 : wr.cell? ⟨bm, om + n * 4 + 1, none⟩ = some (.int .u64 es[i].s) := hcm 1 _ rfl
              have r2 : wr.cell? ⟨bm, om + n * 4 + 2, none⟩ = some (.int .i64 es[i].n) := hcm 2 _ rfl
              have r3 : wr.cell? ⟨bm, om + n * 4 + 3, none⟩ = some (.string es[i].v) := hcm 3 _ rfl
              rw [hn] at hnl hnle ⊢
              have hnN : (rangeE key ⟨#[]⟩ (es.take (i + 1))).length = n + 1 := by rw [HST.out, List.length_append, hn]; rfl
              have hnlI : (n : Int) < ((rangeE key ⟨#[]⟩ es).length : Int) := by omega
              clear hcm hxn hRA HST
              generalize es[i] = x at *
              generalize (rangeE key ⟨#[]⟩ es).length = ml at *
              have d1 : decide ((ml : Int) ≤ (n : Int)) = false := by simp; omega
              have d2 : decide (ml ≤ n) = false := by simp; omega
              go_wp2_with fail
              go_region_held3 (fun w' => w'.cell? ⟨bm, om + n * 4, none⟩ = some (.string x.k) ∧ w'.cell? ⟨bm, om + n * 4 + 1, none⟩ = some (.int .u64 x.s) ∧ w'.cell? ⟨bm, om + n * 4 + 2, none⟩ = some (.int .i64 x.n) ∧ w'.cell? ⟨bm, om + n * 4 + 3, none⟩ = some (.string x.v) ∧ w'.cell? ⟨b, off + i * 4, none⟩ = some (.string x.k) ∧ w'.cell? ⟨b, off + i * 4 + 1, none⟩ = some (.int .u64 x.s) ∧ w'.cell? ⟨b, off + i * 4 + 2, none⟩ = some (.int .i64 x.n) ∧ w'.cell? ⟨b, off + i * 4 + 3, none⟩ = some (.string x.v)) (first | go_keep | exact ⟨r0, r1, r2, r3, q0, q1, q2, q3⟩) (fail)
              all_goals go_wp2_with fail
              all_goals go_roundw
              case rel => exact ⟨i + 1, by rw [hnN]; go_num, by go_num, by omega, ⟨HBL.out.os, HBL.out.tape, HBL.out.output, HBL.out.size, HBL.out.block⟩⟩
              case measure => simp [intOf]; omega
          · obtain rfl : i = es.length := by omega
            rw [List.take_length]
            have C5 := Lib.hid (fun W => sharedP_any key key W (by omega) (by omega))
            rw [shr_self, len_data'] at C5
            have C6 := Lib.hid (fun W => sharedP_any key ⟨#[]⟩ W (by omega) (by show 0 ≤ _; omega))
            rw [show shr key.data.toList (⟨#[]⟩ : ByteArray).data.toList = 0 from shr_none _] at C6
            generalize (rangeE key ⟨#[]⟩ es).length = ml at *
            go_wp2_with fail
            go_at_call 12
            refine (C5.out _).mono ?_
            rintro _ w5 ⟨rfl, b5⟩
            go_wp2_with fail
            go_at_call 12
            refine (C6.out _).mono ?_
            rintro _ w6 ⟨rfl, b6⟩
            go_wp2_with fail
            go_at_call 6
            refine (HCA.out _).mono ?_
            rintro _ w7 ⟨rfl, b7⟩
            go_wp2_with fail
            go_ret
            exact ⟨rfl, ((HWR.out.trans (b5.mono HWR.out.size)).trans (b6.mono (Nat.le_trans HWR.out.size b5.size))).trans (b7.mono (Nat.le_trans HWR.out.size (Nat.le_trans b5.size b6.size)))⟩
    · have hk3I : (300 : Int) < (key.size : Int) := by omega
      go_wp2_with (go_at_call 6; refine (HCA.out _).mono ?_; rintro _ w2 ⟨rfl, b2⟩)
      go_ret
      exact ⟨rfl, HB1.out.trans (b2.mono HB1.out.size)⟩
end Go.Proofs.Ytopnbbchiglpoaa
