/- The walk of SkipLevels. -/
import Derived.Test.YthaalhigmihijabYD
import Derived.Test.YthaalhigmihijabTI
namespace Go.Proofs.Ythaalhigmihijab
open Go.RowKit

theorem Ent.Ok.nice7 {x : Ent} (h : x.Ok) : x.Nice := ⟨h.1, h.2.2.2.2.2, h.2.1, h.2.2.1⟩
theorem puts_len7 {W : World} {x : Ent} {l : Nat} {ns ns' : List Nd} {t : Bool} (h : Puts W x l ns t ns') : ns'.length ≤ ns.length + 1 := by
  rcases h with ⟨-, rfl, -⟩ | ⟨-, -, -, P, Q, a, hc, rfl, -⟩
  · omega
  · rw [hc.all]
    simp
    omega
theorem row_ents' {w : World} {v : Value} {l : List Ent} (h : Row w 30 4 v l.length (cellsE l)) : ∃ a cap, v = .slice a l.length cap ∧ EntsAt w.heap.size w a l.length l := row_ents h
theorem ents_keep {w w' : World} {a : Option Addr} {n : Nat} {l : List Ent} (h : EntsAt w.heap.size w a n l) (hb : Below w.heap.size w w') : EntsAt w.heap.size w' a n l := h.below hb
def entAt (l : List Ent) (i : Nat) : Ent := l.getD i Ent.zero
theorem entAt_eq {l : List Ent} {i : Nat} (h : i < l.length) : entAt l i = l[i] := by
  unfold entAt
  rw [List.getD_eq_getElem?_getD, List.getElem?_eq_getElem h]
  rfl
set_option maxHeartbeats 8000000 in
set_option maxRecDepth 100000 in
theorem skipLevels_walk (a : Option Addr) (len cap : Nat) (l : List Ent) (aa : Option Addr) (la ca : Nat) (ka : List Int) (ab : Option Addr) (lb cb : Nat) (kb : List Int) (key : ByteArray) (hkey : key.size ≤ maxLen) (seq : Nat) (_hseq : seq ≤ 18446744073709551615) (w : World) (hE : IsEs w a len l) (hA : IsIs w aa la ka) (hB : IsIs w ab lb kb) :
    Calls Try.prog 3 #[.slice a len cap, .slice aa la ca, .slice ab lb cb, .string key, .int .u64 (seq : Int)] w fun r w' => r = .returned (.bool true) ∧ Below w.heap.size w w' := by
  obtain ⟨hlm, hok, hE⟩ := hE
  obtain ⟨hla, hlka, -, hra⟩ := hA
  obtain ⟨hlb, hlkb, -, hrb⟩ := hB
  have hll := hE.1
  have CS := Lib.hid (small_any a len cap l hE (by unfold maxLen at hlm; omega) hok)
  have HE := Lib.hid hE
  have HOK := Lib.hid hok
  have HRA := Lib.hid hra
  have HRB := Lib.hid hrb
  have hk0 : key.size ≤ 9223372036854775807 := by unfold maxLen at hkey; omega
  have hla0 : la ≤ 9223372036854775807 := by unfold maxLen at hla; omega
  have hlb0 : lb ≤ 9223372036854775807 := by unfold maxLen at hlb; omega
  have CA := Lib.hid (fun W => alive7_any W)
  clear hE hok hra hrb
  go_enter Try.func3, Try.ntmps3
  go_wp2_with fail
  refine CS.out.mono ?_
  rintro e W1 ⟨t, rfl, hsm, hb1⟩
  have HSM := Lib.hid hsm
  have HB1 := Lib.hid hb1
  clear hsm hb1
  cases t
  · go_wp2_with (first | (go_at_call 9; (with_reducible refine (CA.out _).mono ?_); rintro e W2 ⟨rfl, hb2⟩) | fail)
    go_ret
    exact ⟨rfl, bt7 HB1.out hb2⟩
  have hl150 : len ≤ 150 := (HSM.out rfl).1
  clear HSM CS
  by_cases hl6 : 60 < len
  · have d1 : decide (60 < (len : Int)) = true := by simp; omega
    go_wp2_with (first | (go_at_call 9; (with_reducible refine (CA.out _).mono ?_); rintro e W2 ⟨rfl, hb2⟩) | fail)
    go_ret
    exact ⟨rfl, bt7 HB1.out hb2⟩
  have d1 : decide (60 < (len : Int)) = false := by simp; omega
  by_cases hl7 : 100 < la
  · have d2 : decide (100 < (la : Int)) = true := by simp; omega
    go_wp2_with (first | (go_at_call 9; (with_reducible refine (CA.out _).mono ?_); rintro e W2 ⟨rfl, hb2⟩) | fail)
    go_ret
    exact ⟨rfl, bt7 HB1.out hb2⟩
  have d2 : decide (100 < (la : Int)) = false := by simp; omega
  by_cases hl8 : 100 < lb
  · have d3 : decide (100 < (lb : Int)) = true := by simp; omega
    go_wp2_with (first | (go_at_call 9; (with_reducible refine (CA.out _).mono ?_); rintro e W2 ⟨rfl, hb2⟩) | fail)
    go_ret
    exact ⟨rfl, bt7 HB1.out hb2⟩
  have d3 : decide (100 < (lb : Int)) = false := by simp; omega
  by_cases hk3 : 300 < key.size
  · have d4 : decide (300 < (key.size : Int)) = true := by simp; omega
    go_wp2_with (first | (go_at_call 9; (with_reducible refine (CA.out _).mono ?_); rintro e W2 ⟨rfl, hb2⟩) | fail)
    go_ret
    exact ⟨rfl, bt7 HB1.out hb2⟩
  have d4 : decide (300 < (key.size : Int)) = false := by simp; omega
  go_wp2_with fail
  (with_reducible refine (skp_new _).mono ?_)
  rintro e W2 ⟨rfl, hs2, -, hb2⟩
  obtain ⟨p, hp⟩ : ∃ p, p = W1.heap.size := ⟨_, rfl⟩
  rw [← hp] at hs2 ⊢
  have hpw : w.heap.size ≤ p := by rw [hp]; exact HB1.out.size
  have HB2 := Lib.hid (bt7 HB1.out hb2)
  have HS2 := Lib.hid hs2
  clear hs2 hb2 hp
  go_wp2_with fail
  (with_reducible refine (skp_new _).mono ?_)
  rintro e W3 ⟨rfl, ht3, -, hb3⟩
  have HS3 := Lib.hid (HS2.out.below hb3)
  obtain ⟨q, hq⟩ : ∃ q, q = W2.heap.size := ⟨_, rfl⟩
  rw [← hq] at ht3 ⊢
  have hpq : p < q := by rw [hq]; exact HS2.out.lst.hdlt
  have HB3 := Lib.hid (bt7 HB2.out hb3)
  have HT3 := Lib.hid ht3
  clear ht3 hb3 hq
  have HCE := Lib.hid (show ∀ W, Below w.heap.size w W → ∀ i (h : i < len), ∃ b off, a = some ⟨b, off, none⟩ ∧ b < W.heap.size ∧ ∀ j u, (entAt l i).cells[j]? = some u → W.cell? ⟨b, off + i * 4 + j, none⟩ = some u from fun W hW i h => by
    rcases (HE.out.below hW).2 with h0 | ⟨b, off, e, h1, h2⟩
    · omega
    · refine ⟨b, off, e, Nat.lt_of_lt_of_le h1 hW.size, fun j u hu => h2 i (by omega) j u ?_⟩
      rw [entAt_eq (show i < l.length by omega)] at hu
      exact hu)
  go_wp2_with fail
  go_loopw [13] (fun iv wr => ∃ i : Nat, i ≤ len ∧ iv = .int .i64 (i : Int) ∧ (∀ i', i' < i → ∀ k', k' < i' → ¬ same2 (entAt l i') (entAt l k')) ∧ Below W3.heap.size W3 wr) (fun iv _ => len - (intOf iv).toNat)
  case atStart => exact ⟨0, Nat.zero_le _, rfl, fun i' h => by omega, Below.refl _ _⟩
  case round =>
    obtain ⟨i, hi, rfl, hdis, hbr⟩ := hrel
    have HDIS := Lib.hid hdis
    have HBR := Lib.hid hbr
    clear hdis hbr
    by_cases hlt : i < len
    · have hil : (i : Int) < (len : Int) := by omega
      obtain ⟨w1, rfl⟩ : ∃ w1, w1 = wr := ⟨_, rfl⟩
      go_wp2_with fail
      go_loopw [14] (fun kv wr => ∃ k : Nat, k ≤ i ∧ kv = .int .i64 (k : Int) ∧ (∀ k', k' < k → ¬ same2 (entAt l i) (entAt l k')) ∧ Below W3.heap.size W3 wr) (fun kv _ => i - (intOf kv).toNat)
      case atStart => exact ⟨0, Nat.zero_le _, rfl, fun k' h => by omega, HBR.out⟩
      case round =>
        obtain ⟨k, hk, rfl, hdk, hbk⟩ := hrel
        have HDK := Lib.hid hdk
        have HBK := Lib.hid hbk
        clear hdk hbk
        by_cases hki : k < i
        · have hkI : (k : Int) < (i : Int) := by omega
          have hkl : (k : Int) < (len : Int) := by omega
          have hbw := bt7 HB3.out HBK.out
          obtain ⟨b, off, rfl, -, ci⟩ := HCE.out wr hbw i hlt
          obtain ⟨b', off', e, -, ck⟩ := HCE.out wr hbw k (by omega)
          cases e
          have x0 : wr.cell? ⟨b, off + i * 4, none⟩ = some (.string (entAt l i).k) := ci 0 _ rfl
          have x1 : wr.cell? ⟨b, off + i * 4 + 1, none⟩ = some (.int .u64 (entAt l i).s) := ci 1 _ rfl
          have y0 : wr.cell? ⟨b, off + k * 4, none⟩ = some (.string (entAt l k).k) := ck 0 _ rfl
          have y1 : wr.cell? ⟨b, off + k * 4 + 1, none⟩ = some (.int .u64 (entAt l k).s) := ck 1 _ rfl
          have HNX := Lib.hid (show ¬ same2 (entAt l i) (entAt l k) → ∀ k', k' < k + 1 → ¬ same2 (entAt l i) (entAt l k') from fun h k' hk' => by
            by_cases hkk : k' = k
            · subst hkk
              exact h
            · exact HDK.out k' (by omega))
          clear ci ck hbw
          unfold same2 at HNX
          generalize entAt l i = x at *
          generalize entAt l k = y at *
          cases t1 : (x.k.toList == y.k.toList) with
          | false =>
            have HN1 := Lib.hid (HNX.out fun h => by rw [h.1] at t1; simp at t1)
            clear HNX HDK
            go_wp2
            go_quiet (fail)
            go_wp2
            go_roundw
            case rel => exact ⟨k + 1, by omega, by go_num, HN1.out, belowN HBK.out _⟩
            case measure => simp [intOf]; omega
          | true =>
            cases t2 : (x.s == y.s) with
            | false =>
              have HN1 := Lib.hid (HNX.out fun h => by rw [h.2] at t2; simp at t2)
              clear HNX HDK
              go_wp2
              go_quiet (fail)
              go_wp2
              go_roundw
              case rel => exact ⟨k + 1, by omega, by go_num, HN1.out, belowN HBK.out _⟩
              case measure => simp [intOf]; omega
            | true =>
              clear HNX HDK
              go_wp2
              go_quiet (fail)
              go_wp2_with (first | (go_at_call 9; (with_reducible refine (CA.out _).mono ?_); rintro e W4 ⟨rfl, hb4⟩) | fail)
              go_ret
              exact ⟨rfl, bt7 (bt7 HB3.out (belowN HBK.out _)) hb4⟩
        · obtain rfl : k = i := by omega
          go_wp2
          go_roundw
          case rel =>
            refine ⟨k + 1, by omega, by go_num, fun i' hi' k' hk' => ?_, HBK.out⟩
            by_cases hii : i' = k
            · subst hii
              exact HDK.out k' hk'
            · exact HDIS.out i' (by omega) k' hk'
          case measure => simp [intOf]; omega
    · obtain rfl : len = i := by omega
      obtain ⟨W4, rfl⟩ : ∃ W4, W4 = wr := ⟨_, rfl⟩
      have HD := Lib.hid (show ∀ i j, i < len → j < len → i ≠ j → ¬ same2 (entAt l i) (entAt l j) from fun i j h1 h2 h3 hs => by
        rcases Nat.lt_or_ge i j with h | h
        · exact HDIS.out j h2 i h ⟨hs.1.symm, hs.2.symm⟩
        · exact HDIS.out i h1 j (by omega) hs)
      have HB4 := Lib.hid (bt7 HB3.out HBR.out)
      have HS4 := Lib.hid (HS3.out.below HBR.out)
      have HT4 := Lib.hid (HT3.out.below HBR.out)
      go_wp2_with fail
      go_loopw [15] (fun jv wr => ∃ (j : Nat) (ns nt : List Nd), j ≤ len ∧ jv = .int .i64 (j : Int) ∧ ns.length ≤ j ∧ nt.length ≤ j ∧ Skp p p ns wr ∧ Skp q q nt wr ∧ (∀ k ∈ foot p ns, k ∉ foot q nt) ∧ Made (fun n => entAt l n) j ns ∧ Made (fun n => entAt l (len - 1 - n)) j nt ∧ Below w.heap.size w wr) (fun jv _ => len - (intOf jv).toNat)
      case atStart => exact ⟨0, [], [], Nat.zero_le _, rfl, Nat.le_refl _, Nat.le_refl _, HS4.out, HT4.out, fun k hk => by simp [foot, hd] at hk ⊢; omega, fun e => by simp [entsOf], fun e => by simp [entsOf], HB4.out⟩
      case round =>
        obtain ⟨j, ns, nt, hj, rfl, hns, hnt, hsk, htk, hdj, hma, hmb, hbl⟩ := hrel
        have HSK := Lib.hid hsk
        have HTK := Lib.hid htk
        have HDJ := Lib.hid hdj
        have HMA := Lib.hid hma
        have HMB := Lib.hid hmb
        have HBL := Lib.hid hbl
        clear hsk htk hdj hma hmb hbl
        by_cases hjl : j < len
        · have hjI : (j : Int) < (len : Int) := by omega
          obtain ⟨b, off, rfl, hbw, cj⟩ := HCE.out wr HBL.out j hjl
          have x0 : wr.cell? ⟨b, off + j * 4, none⟩ = some (.string (entAt l j).k) := cj 0 _ rfl
          have x1 : wr.cell? ⟨b, off + j * 4 + 1, none⟩ = some (.int .u64 (entAt l j).s) := cj 1 _ rfl
          have x2 : wr.cell? ⟨b, off + j * 4 + 2, none⟩ = some (.int .i64 (entAt l j).n) := cj 2 _ rfl
          have x3 : wr.cell? ⟨b, off + j * 4 + 3, none⟩ = some (.string (entAt l j).v) := cj 3 _ rfl
          clear cj
          obtain ⟨m, hm⟩ : ∃ m : Nat, m = len - 1 := ⟨_, rfl⟩
          obtain ⟨r, hr⟩ : ∃ r : Nat, r = m - j := ⟨_, rfl⟩
          have hmI : (len : Int) - 1 = (m : Int) := by omega
          have hrI : (m : Int) - (j : Int) = (r : Int) := by omega
          have hrl : (r : Int) < (len : Int) := by omega
          have HR := Lib.hid (show r = len - 1 - j by omega)
          have hrn : r < len := by omega
          have hniceJ : (entAt l j).Nice := by rw [entAt_eq (show j < l.length by omega)]; exact (HOK.out _ (List.getElem_mem _)).nice7
          have hniceR : (entAt l r).Nice := by rw [entAt_eq (show r < l.length by omega)]; exact (HOK.out _ (List.getElem_mem _)).nice7
          have CP := Lib.hid (fun z => put_step HSK.out (entAt l j) hniceJ z (by omega))
          have CQ := Lib.hid (fun z (w5 : World) (h5 : Skp q q nt w5) => put_step h5 (entAt l r) hniceR z (by omega))
          have HY := Lib.hid (fun w5 (h5 : Below w.heap.size w w5) => HCE.out w5 h5 r hrn)
          have HTB := Lib.hid (show ∀ w5, Turn (foot p ns) wr w5 → Below w.heap.size w w5 from fun w5 ht => HBL.out.trans (ht.below HBL.out.size (fun k hk => Nat.le_trans hpw (HSK.out.base k hk))))
          have HTT := Lib.hid (show ∀ w5, Turn (foot p ns) wr w5 → Skp q q nt w5 from fun w5 ht => HTK.out.turned ht (fun k hk hk2 => HDJ.out k hk2 hk))
          unfold ev at CP CQ
          clear hm hr hniceJ hniceR
          by_cases hia : j < la
          · by_cases hib : j < lb
            · obtain ⟨ba1, oa1, rfl, ga⟩ : ∃ ba1 oa1, aa = some ⟨ba1, oa1, none⟩ ∧ wr.cell? ⟨ba1, oa1 + j, none⟩ = some (.int .i64 (ka[j]'(by omega))) := by
                rcases HRA.out with h0 | ⟨ba1, oa1, e, h⟩
                · rw [h0] at hlka
                  simp at hlka
                  omega
                · have := h j (by omega)
                  exact ⟨ba1, oa1, e, (HBL.out.cell (p := ⟨ba1, oa1 + j, none⟩) (lt_of_cell this)).trans this⟩
              have dxa : decide ((j : Int) < (la : Int)) = true := by simp; omega
              generalize ka[j]'(by omega) = za at *
              obtain ⟨bb1, ob1, rfl, gb⟩ : ∃ bb1 ob1, ab = some ⟨bb1, ob1, none⟩ ∧ wr.cell? ⟨bb1, ob1 + j, none⟩ = some (.int .i64 (kb[j]'(by omega))) := by
                rcases HRB.out with h0 | ⟨bb1, ob1, e, h⟩
                · rw [h0] at hlkb
                  simp at hlkb
                  omega
                · have := h j (by omega)
                  exact ⟨bb1, ob1, e, (HBL.out.cell (p := ⟨bb1, ob1 + j, none⟩) (lt_of_cell this)).trans this⟩
              have dxb : decide ((j : Int) < (lb : Int)) = true := by simp; omega
              generalize kb[j]'(by omega) = zb at *
              clear HRA HRB CA
              go_wp2_with (first | (go_at_call 11; (with_reducible refine (CP.out _).mono ?_); rintro e w5 ⟨t5, ns', rfl, hpu, hs5, ht5⟩; obtain ⟨b', off', e', hbw', cr⟩ := HY.out w5 (HTB.out w5 ht5); cases e'; have y0 : w5.cell? ⟨b, off + r * 4, none⟩ = some (.string (entAt l r).k) := cr 0 _ rfl; have y1 : w5.cell? ⟨b, off + r * 4 + 1, none⟩ = some (.int .u64 (entAt l r).s) := cr 1 _ rfl; have y2 : w5.cell? ⟨b, off + r * 4 + 2, none⟩ = some (.int .i64 (entAt l r).n) := cr 2 _ rfl; have y3 : w5.cell? ⟨b, off + r * 4 + 3, none⟩ = some (.string (entAt l r).v) := cr 3 _ rfl; have HPU := Lib.hid hpu; have HS5 := Lib.hid hs5; have HT5 := Lib.hid ht5; clear hpu hs5 ht5 cr) | (go_at_call 11; (with_reducible refine (CQ.out _ _ (HTT.out _ HT5.out)).mono ?_); rintro e w6 ⟨t6, nt', rfl, hpu6, hs6, ht6⟩; have HPU6 := Lib.hid hpu6; have HS6 := Lib.hid hs6; have HT6 := Lib.hid ht6; clear hpu6 hs6 ht6) | fail)
              have hn1 := puts_len7 HPU.out
              have hn2 := puts_len7 HPU6.out
              have hb5 := HTB.out _ HT5.out
              have htq := HTT.out _ HT5.out
              have hb6 : Below w.heap.size w w6 := hb5.trans (HT6.out.below hb5.size (fun k hk => by have := htq.base k hk; omega))
              have hds : ∀ k ∈ foot p ns', k ∉ foot q nt := fun k hk hk2 => by
                rcases puts_foot HPU.out k hk with h | h
                · exact HDJ.out k h hk2
                · have := HTK.out.lst.lt k hk2
                  omega
              have hs6 : Skp p p ns' w6 := HS5.out.turned HT6.out hds
              have hd6 : ∀ k ∈ foot p ns', k ∉ foot q nt' := fun k hk hk2 => by
                rcases puts_foot HPU6.out k hk2 with h | h
                · exact hds k hk h
                · have := HS5.out.lst.lt k hk
                  omega
              have hm1 : Made (fun n => entAt l n) (j + 1) ns' := made_step HMA.out (fun t ht => HD.out t j (by omega) hjl (by omega)) HPU.out
              have hm2 : Made (fun n => entAt l (len - 1 - n)) (j + 1) nt' := made_step (f := fun n => entAt l (len - 1 - n)) HMB.out (fun t ht => HD.out _ _ (by omega) (by omega) (by omega)) (by rw [HR.out] at HPU6; exact HPU6.out)
              go_roundw
              case rel => exact ⟨j + 1, ns', nt', by omega, by go_num, by omega, by omega, hs6, HS6.out, hd6, hm1, hm2, hb6⟩
              case measure => simp [intOf]; omega
            · obtain ⟨ba1, oa1, rfl, ga⟩ : ∃ ba1 oa1, aa = some ⟨ba1, oa1, none⟩ ∧ wr.cell? ⟨ba1, oa1 + j, none⟩ = some (.int .i64 (ka[j]'(by omega))) := by
                rcases HRA.out with h0 | ⟨ba1, oa1, e, h⟩
                · rw [h0] at hlka
                  simp at hlka
                  omega
                · have := h j (by omega)
                  exact ⟨ba1, oa1, e, (HBL.out.cell (p := ⟨ba1, oa1 + j, none⟩) (lt_of_cell this)).trans this⟩
              have dxa : decide ((j : Int) < (la : Int)) = true := by simp; omega
              generalize ka[j]'(by omega) = za at *
              have dxb : decide ((j : Int) < (lb : Int)) = false := by simp; omega
              clear HRA HRB CA
              go_wp2_with (first | (go_at_call 11; (with_reducible refine (CP.out _).mono ?_); rintro e w5 ⟨t5, ns', rfl, hpu, hs5, ht5⟩; obtain ⟨b', off', e', hbw', cr⟩ := HY.out w5 (HTB.out w5 ht5); cases e'; have y0 : w5.cell? ⟨b, off + r * 4, none⟩ = some (.string (entAt l r).k) := cr 0 _ rfl; have y1 : w5.cell? ⟨b, off + r * 4 + 1, none⟩ = some (.int .u64 (entAt l r).s) := cr 1 _ rfl; have y2 : w5.cell? ⟨b, off + r * 4 + 2, none⟩ = some (.int .i64 (entAt l r).n) := cr 2 _ rfl; have y3 : w5.cell? ⟨b, off + r * 4 + 3, none⟩ = some (.string (entAt l r).v) := cr 3 _ rfl; have HPU := Lib.hid hpu; have HS5 := Lib.hid hs5; have HT5 := Lib.hid ht5; clear hpu hs5 ht5 cr) | (go_at_call 11; (with_reducible refine (CQ.out _ _ (HTT.out _ HT5.out)).mono ?_); rintro e w6 ⟨t6, nt', rfl, hpu6, hs6, ht6⟩; have HPU6 := Lib.hid hpu6; have HS6 := Lib.hid hs6; have HT6 := Lib.hid ht6; clear hpu6 hs6 ht6) | fail)
              have hn1 := puts_len7 HPU.out
              have hn2 := puts_len7 HPU6.out
              have hb5 := HTB.out _ HT5.out
              have htq := HTT.out _ HT5.out
              have hb6 : Below w.heap.size w w6 := hb5.trans (HT6.out.below hb5.size (fun k hk => by have := htq.base k hk; omega))
              have hds : ∀ k ∈ foot p ns', k ∉ foot q nt := fun k hk hk2 => by
                rcases puts_foot HPU.out k hk with h | h
                · exact HDJ.out k h hk2
                · have := HTK.out.lst.lt k hk2
                  omega
              have hs6 : Skp p p ns' w6 := HS5.out.turned HT6.out hds
              have hd6 : ∀ k ∈ foot p ns', k ∉ foot q nt' := fun k hk hk2 => by
                rcases puts_foot HPU6.out k hk2 with h | h
                · exact hds k hk h
                · have := HS5.out.lst.lt k hk
                  omega
              have hm1 : Made (fun n => entAt l n) (j + 1) ns' := made_step HMA.out (fun t ht => HD.out t j (by omega) hjl (by omega)) HPU.out
              have hm2 : Made (fun n => entAt l (len - 1 - n)) (j + 1) nt' := made_step (f := fun n => entAt l (len - 1 - n)) HMB.out (fun t ht => HD.out _ _ (by omega) (by omega) (by omega)) (by rw [HR.out] at HPU6; exact HPU6.out)
              go_roundw
              case rel => exact ⟨j + 1, ns', nt', by omega, by go_num, by omega, by omega, hs6, HS6.out, hd6, hm1, hm2, hb6⟩
              case measure => simp [intOf]; omega
          · by_cases hib : j < lb
            · have dxa : decide ((j : Int) < (la : Int)) = false := by simp; omega
              obtain ⟨bb1, ob1, rfl, gb⟩ : ∃ bb1 ob1, ab = some ⟨bb1, ob1, none⟩ ∧ wr.cell? ⟨bb1, ob1 + j, none⟩ = some (.int .i64 (kb[j]'(by omega))) := by
                rcases HRB.out with h0 | ⟨bb1, ob1, e, h⟩
                · rw [h0] at hlkb
                  simp at hlkb
                  omega
                · have := h j (by omega)
                  exact ⟨bb1, ob1, e, (HBL.out.cell (p := ⟨bb1, ob1 + j, none⟩) (lt_of_cell this)).trans this⟩
              have dxb : decide ((j : Int) < (lb : Int)) = true := by simp; omega
              generalize kb[j]'(by omega) = zb at *
              clear HRA HRB CA
              go_wp2_with (first | (go_at_call 11; (with_reducible refine (CP.out _).mono ?_); rintro e w5 ⟨t5, ns', rfl, hpu, hs5, ht5⟩; obtain ⟨b', off', e', hbw', cr⟩ := HY.out w5 (HTB.out w5 ht5); cases e'; have y0 : w5.cell? ⟨b, off + r * 4, none⟩ = some (.string (entAt l r).k) := cr 0 _ rfl; have y1 : w5.cell? ⟨b, off + r * 4 + 1, none⟩ = some (.int .u64 (entAt l r).s) := cr 1 _ rfl; have y2 : w5.cell? ⟨b, off + r * 4 + 2, none⟩ = some (.int .i64 (entAt l r).n) := cr 2 _ rfl; have y3 : w5.cell? ⟨b, off + r * 4 + 3, none⟩ = some (.string (entAt l r).v) := cr 3 _ rfl; have HPU := Lib.hid hpu; have HS5 := Lib.hid hs5; have HT5 := Lib.hid ht5; clear hpu hs5 ht5 cr) | (go_at_call 11; (with_reducible refine (CQ.out _ _ (HTT.out _ HT5.out)).mono ?_); rintro e w6 ⟨t6, nt', rfl, hpu6, hs6, ht6⟩; have HPU6 := Lib.hid hpu6; have HS6 := Lib.hid hs6; have HT6 := Lib.hid ht6; clear hpu6 hs6 ht6) | fail)
              have hn1 := puts_len7 HPU.out
              have hn2 := puts_len7 HPU6.out
              have hb5 := HTB.out _ HT5.out
              have htq := HTT.out _ HT5.out
              have hb6 : Below w.heap.size w w6 := hb5.trans (HT6.out.below hb5.size (fun k hk => by have := htq.base k hk; omega))
              have hds : ∀ k ∈ foot p ns', k ∉ foot q nt := fun k hk hk2 => by
                rcases puts_foot HPU.out k hk with h | h
                · exact HDJ.out k h hk2
                · have := HTK.out.lst.lt k hk2
                  omega
              have hs6 : Skp p p ns' w6 := HS5.out.turned HT6.out hds
              have hd6 : ∀ k ∈ foot p ns', k ∉ foot q nt' := fun k hk hk2 => by
                rcases puts_foot HPU6.out k hk2 with h | h
                · exact hds k hk h
                · have := HS5.out.lst.lt k hk
                  omega
              have hm1 : Made (fun n => entAt l n) (j + 1) ns' := made_step HMA.out (fun t ht => HD.out t j (by omega) hjl (by omega)) HPU.out
              have hm2 : Made (fun n => entAt l (len - 1 - n)) (j + 1) nt' := made_step (f := fun n => entAt l (len - 1 - n)) HMB.out (fun t ht => HD.out _ _ (by omega) (by omega) (by omega)) (by rw [HR.out] at HPU6; exact HPU6.out)
              go_roundw
              case rel => exact ⟨j + 1, ns', nt', by omega, by go_num, by omega, by omega, hs6, HS6.out, hd6, hm1, hm2, hb6⟩
              case measure => simp [intOf]; omega
            · have dxa : decide ((j : Int) < (la : Int)) = false := by simp; omega
              have dxb : decide ((j : Int) < (lb : Int)) = false := by simp; omega
              clear HRA HRB CA
              go_wp2_with (first | (go_at_call 11; (with_reducible refine (CP.out _).mono ?_); rintro e w5 ⟨t5, ns', rfl, hpu, hs5, ht5⟩; obtain ⟨b', off', e', hbw', cr⟩ := HY.out w5 (HTB.out w5 ht5); cases e'; have y0 : w5.cell? ⟨b, off + r * 4, none⟩ = some (.string (entAt l r).k) := cr 0 _ rfl; have y1 : w5.cell? ⟨b, off + r * 4 + 1, none⟩ = some (.int .u64 (entAt l r).s) := cr 1 _ rfl; have y2 : w5.cell? ⟨b, off + r * 4 + 2, none⟩ = some (.int .i64 (entAt l r).n) := cr 2 _ rfl; have y3 : w5.cell? ⟨b, off + r * 4 + 3, none⟩ = some (.string (entAt l r).v) := cr 3 _ rfl; have HPU := Lib.hid hpu; have HS5 := Lib.hid hs5; have HT5 := Lib.hid ht5; clear hpu hs5 ht5 cr) | (go_at_call 11; (with_reducible refine (CQ.out _ _ (HTT.out _ HT5.out)).mono ?_); rintro e w6 ⟨t6, nt', rfl, hpu6, hs6, ht6⟩; have HPU6 := Lib.hid hpu6; have HS6 := Lib.hid hs6; have HT6 := Lib.hid ht6; clear hpu6 hs6 ht6) | fail)
              have hn1 := puts_len7 HPU.out
              have hn2 := puts_len7 HPU6.out
              have hb5 := HTB.out _ HT5.out
              have htq := HTT.out _ HT5.out
              have hb6 : Below w.heap.size w w6 := hb5.trans (HT6.out.below hb5.size (fun k hk => by have := htq.base k hk; omega))
              have hds : ∀ k ∈ foot p ns', k ∉ foot q nt := fun k hk hk2 => by
                rcases puts_foot HPU.out k hk with h | h
                · exact HDJ.out k h hk2
                · have := HTK.out.lst.lt k hk2
                  omega
              have hs6 : Skp p p ns' w6 := HS5.out.turned HT6.out hds
              have hd6 : ∀ k ∈ foot p ns', k ∉ foot q nt' := fun k hk hk2 => by
                rcases puts_foot HPU6.out k hk2 with h | h
                · exact hds k hk h
                · have := HS5.out.lst.lt k hk
                  omega
              have hm1 : Made (fun n => entAt l n) (j + 1) ns' := made_step HMA.out (fun t ht => HD.out t j (by omega) hjl (by omega)) HPU.out
              have hm2 : Made (fun n => entAt l (len - 1 - n)) (j + 1) nt' := made_step (f := fun n => entAt l (len - 1 - n)) HMB.out (fun t ht => HD.out _ _ (by omega) (by omega) (by omega)) (by rw [HR.out] at HPU6; exact HPU6.out)
              go_roundw
              case rel => exact ⟨j + 1, ns', nt', by omega, by go_num, by omega, by omega, hs6, HS6.out, hd6, hm1, hm2, hb6⟩
              case measure => simp [intOf]; omega
        · obtain rfl : len = j := by omega
          have hee : entsOf nt = entsOf ns := sorted_ext _ _ (ents_ord HTK.out.right.ord) (ents_ord HSK.out.right.ord) (fun e => by
            rw [HMA.out e, HMB.out e]
            constructor
            · rintro ⟨t, h1, h2, h3⟩
              exact ⟨len - 1 - t, by omega, h2, h3⟩
            · rintro ⟨t, h1, h2, h3⟩
              refine ⟨len - 1 - t, by omega, ?_, h3⟩
              show entAt l (len - 1 - (len - 1 - t)) = e
              rw [show len - 1 - (len - 1 - t) = t by omega]
              exact h2)
          obtain ⟨P, Q, hc⟩ := cut_of key (seq : Int) ns HSK.out.right.ord
          obtain ⟨P', Q', hc'⟩ := cut_of key (seq : Int) nt HTK.out.right.ord
          obtain ⟨R, T, hf⟩ := cut_of key 18446744073709551615 ns HSK.out.right.ord
          obtain ⟨R', T', hf'⟩ := cut_of key 18446744073709551615 nt HTK.out.right.ord
          have hgq : getR key Q' = getR key Q := by rw [getR_ents, getR_ents, cut_filter hc, cut_filter hc', hee]
          have hft : entsOf T' = entsOf T := by rw [cut_filter hf, cut_filter hf', hee]
          have hTl : (entsOf T).length ≤ 1000 := by
            have h1 : (entsOf T).length = T.length := by simp [entsOf]
            have h2 : ns.length = R.length + T.length := by rw [hf.all]; simp
            omega
          have CG := Lib.hid (get_any HSK.out.lst HSK.out.right hc)
          have CG2 := Lib.hid (fun (W : World) (h : Skp q q nt W) => get_any h.lst h.right hc')
          rw [hgq] at CG2
          have CA1 := Lib.hid (fun (W : World) (h : Skp p p ns W) => all_any h.lst h.right (by omega))
          have CA2 := Lib.hid (fun (W : World) (h : Skp q q nt W) => all_any h.lst h.right (by omega))
          have CF1 := Lib.hid (fun (W : World) (h : Skp p p ns W) => from_any h.lst h.right hf (by omega))
          have CF2 := Lib.hid (fun (W : World) (h : Skp q q nt W) => from_any h.lst h.right hf' (by omega))
          have CL1 := Lib.hid (fun (W : World) (h : Skp p p ns W) => len_any h.lst)
          have CL2 := Lib.hid (fun (W : World) (h : Skp q q nt W) => len_any h.lst)
          have hln : nt.length = ns.length := by
            have h1 : (entsOf nt).length = nt.length := by simp [entsOf]
            have h2 : (entsOf ns).length = ns.length := by simp [entsOf]
            rw [← h1, ← h2, hee]
          have hnl1 : (entsOf ns).length ≤ 1000 := by simp [entsOf]; omega
          rw [hee] at CA2
          rw [hft] at CF2
          rw [hln] at CL2
          have tl : ((ns.length : Int) == (ns.length : Int)) = true := by simp
          obtain ⟨o, ho⟩ : ∃ o, o = getR key Q := ⟨_, rfl⟩
          rw [← ho] at CG CG2
          obtain ⟨eo, heo⟩ : ∃ eo, eo = o.getD Ent.zero := ⟨_, rfl⟩
          obtain ⟨ok, hok⟩ : ∃ ok, ok = o.isSome := ⟨_, rfl⟩
          unfold getV Ent.val ev at CG CG2
          rw [← heo, ← hok] at CG CG2
          generalize entsOf ns = es at *
          generalize entsOf T = et at *
          clear hee hc hc' hf hf' hgq hft ho heo hok HMA HMB hln HD HDIS HDJ HCE HOK HE HRA HRB
          go_wp2_with fail
          (with_reducible refine CG.out.mono ?_)
          rintro e W5 ⟨rfl, hb5⟩
          have HB5 := Lib.hid (bt7 HBL.out hb5)
          have HS5 := Lib.hid (HSK.out.below hb5)
          have HT5 := Lib.hid (HTK.out.below hb5)
          clear hb5
          go_upto_region 25 with fail
          obtain ⟨W6, hW6⟩ : ∃ W6, W5.alloc (.cells #[.string eo.k, .int .u64 eo.s, .int .i64 eo.n, .string eo.v] 30) = W6 := ⟨_, rfl⟩
          have hb6 : Below W5.heap.size W5 W6 := by rw [← hW6]; exact (Below.refl _ _).alloc (Nat.le_refl _) _
          have HX6 := Lib.hid (show Boxe W5.heap.size eo.k eo.s eo.n eo.v W6 by rw [← hW6]; exact new_block _ _ rfl)
          have HB6 := Lib.hid (bt7 HB5.out hb6)
          have HS6 := Lib.hid (HS5.out.below hb6)
          have HT6 := Lib.hid (HT5.out.below hb6)
          rw [hW6]
          clear hW6 hb6
          go_wp2_with fail
          (with_reducible refine (CG2.out _ HT6.out).mono ?_)
          rintro e W7 ⟨rfl, hb7⟩
          have HB7 := Lib.hid (bt7 HB6.out hb7)
          have HS7 := Lib.hid (HS6.out.below hb7)
          have HT7 := Lib.hid (HT6.out.below hb7)
          have HX7 := Lib.hid (HX6.out.below hb7)
          clear hb7
          go_upto_region 26 with fail
          obtain ⟨W8, hW8⟩ : ∃ W8, W7.alloc (.cells #[.string eo.k, .int .u64 eo.s, .int .i64 eo.n, .string eo.v] 30) = W8 := ⟨_, rfl⟩
          have hb8 : Below W7.heap.size W7 W8 := by rw [← hW8]; exact (Below.refl _ _).alloc (Nat.le_refl _) _
          have HY8 := Lib.hid (show Boxe W7.heap.size eo.k eo.s eo.n eo.v W8 by rw [← hW8]; exact new_block _ _ rfl)
          have HB8 := Lib.hid (bt7 HB7.out hb8)
          have HS8 := Lib.hid (HS7.out.below hb8)
          have HT8 := Lib.hid (HT7.out.below hb8)
          have HX8 := Lib.hid (HX7.out.below hb8)
          rw [hW8]
          clear hW8 hb8
          go_wp2_with fail
          (with_reducible refine (CA.out _).mono ?_)
          rintro e W9 ⟨rfl, hb9⟩
          have HS9 := Lib.hid (HS8.out.below hb9)
          have HT9 := Lib.hid (HT8.out.below hb9)
          have HX9 := Lib.hid (HX8.out.below hb9)
          have HY9 := Lib.hid (HY8.out.below hb9)
          have HB9 := Lib.hid (bt7 HB8.out hb9)
          clear hb9
          go_wp2_with fail
          (with_reducible refine (CA1.out _ HS9.out).mono ?_)
          rintro e W10 ⟨v1, rfl, hr1, -, hb10⟩
          obtain ⟨a1, c1, rfl, he1⟩ := row_ents' hr1
          clear hr1
          have HS10 := Lib.hid (HS9.out.below hb10)
          have HT10 := Lib.hid (HT9.out.below hb10)
          have HX10 := Lib.hid (HX9.out.below hb10)
          have HY10 := Lib.hid (HY9.out.below hb10)
          have HB10 := Lib.hid (bt7 HB9.out hb10)
          clear hb10
          go_wp2_with fail
          (with_reducible refine (CA2.out _ HT10.out).mono ?_)
          rintro e W11 ⟨v2, rfl, hr2, -, hb11⟩
          obtain ⟨a2, c2, rfl, he2⟩ := row_ents' hr2
          have HE1 := Lib.hid (ents_keep he1 hb11)
          have HE2 := Lib.hid he2
          clear hr2 he1 he2
          have HS11 := Lib.hid (HS10.out.below hb11)
          have HT11 := Lib.hid (HT10.out.below hb11)
          have HX11 := Lib.hid (HX10.out.below hb11)
          have HY11 := Lib.hid (HY10.out.below hb11)
          have HB11 := Lib.hid (bt7 HB10.out hb11)
          clear hb11
          go_wp2_with fail
          (with_reducible refine (same_ents _ _ _ _ es _ HE1.out HE2.out (by omega)).mono ?_)
          rintro e W12 ⟨rfl, hb12⟩
          clear HE1 HE2
          have HS12 := Lib.hid (HS11.out.below hb12)
          have HT12 := Lib.hid (HT11.out.below hb12)
          have HX12 := Lib.hid (HX11.out.below hb12)
          have HY12 := Lib.hid (HY11.out.below hb12)
          have HB12 := Lib.hid (bt7 HB11.out hb12)
          clear hb12
          go_wp2_with fail
          (with_reducible refine (CF1.out _ HS12.out).mono ?_)
          rintro e W13 ⟨v3, rfl, hr3, -, hb13⟩
          obtain ⟨a3, c3, rfl, he3⟩ := row_ents' hr3
          clear hr3
          have HS13 := Lib.hid (HS12.out.below hb13)
          have HT13 := Lib.hid (HT12.out.below hb13)
          have HX13 := Lib.hid (HX12.out.below hb13)
          have HY13 := Lib.hid (HY12.out.below hb13)
          have HB13 := Lib.hid (bt7 HB12.out hb13)
          clear hb13
          go_wp2_with fail
          (with_reducible refine (CF2.out _ HT13.out).mono ?_)
          rintro e W14 ⟨v4, rfl, hr4, -, hb14⟩
          obtain ⟨a4, c4, rfl, he4⟩ := row_ents' hr4
          have HE3 := Lib.hid (ents_keep he3 hb14)
          have HE4 := Lib.hid he4
          clear hr4 he3 he4
          have HS14 := Lib.hid (HS13.out.below hb14)
          have HT14 := Lib.hid (HT13.out.below hb14)
          have HX14 := Lib.hid (HX13.out.below hb14)
          have HY14 := Lib.hid (HY13.out.below hb14)
          have HB14 := Lib.hid (bt7 HB13.out hb14)
          clear hb14
          go_wp2_with fail
          (with_reducible refine (same_ents _ _ _ _ et _ HE3.out HE4.out (by omega)).mono ?_)
          rintro e W15 ⟨rfl, hb15⟩
          clear HE3 HE4
          have HS15 := Lib.hid (HS14.out.below hb15)
          have HT15 := Lib.hid (HT14.out.below hb15)
          have HX15 := Lib.hid (HX14.out.below hb15)
          have HY15 := Lib.hid (HY14.out.below hb15)
          have HB15 := Lib.hid (bt7 HB14.out hb15)
          clear hb15
          have f0 := HX15.out.c0
          have f1 := HX15.out.c1
          have f2 := HX15.out.c2
          have f3 := HX15.out.c3
          have g0 := HY15.out.c0
          have g1 := HY15.out.c1
          have g2 := HY15.out.c2
          have g3 := HY15.out.c3
          go_wp2_with (first
            | (go_at_call 16; (with_reducible refine (CL1.out _ HS15.out).mono ?_); rintro e W16 ⟨rfl, rfl⟩)
            | (go_at_call 16; (with_reducible refine (CL2.out _ HT15.out).mono ?_); rintro e W16 ⟨rfl, rfl⟩)
            | (go_at_call 17; (with_reducible refine (digit0 _).mono ?_); rintro e W16 ⟨rfl, rfl⟩)
            | fail)
          go_ret
          exact ⟨rfl, HB15.out⟩
end Go.Proofs.Ythaalhigmihijab
