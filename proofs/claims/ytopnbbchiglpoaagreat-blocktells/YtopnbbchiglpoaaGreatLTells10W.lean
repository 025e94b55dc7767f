/- BlockTells' walk, over the contracts of block.Put, Get, Seek, Shared (putP_any, getP_any, seekP_any, sharedP_any). -/
import Derived.Test.YtopnbbchiglpoaaGreatBQ
import Derived.Test.YtopnbbchiglpoaaGreatBU
import Derived.Test.YtopnbbchiglpoaaGreatBZ
import Derived.Test.YtopnbbchiglpoaaGreatBH
namespace Go.Proofs.YtopnbbchiglpoaaGreat
open Go.RowKit

theorem book_new7 (B : Nat) (w : World) (hB : B ≤ w.heap.size) : Own B (w.alloc (.cells #[.slice none 0 0, .slice none 0 0, .slice none 0 0, .slice none 0 0, .slice none 0 0, .slice none 0 0, .slice none 0 0, .slice none 0 0, .slice none 0 0, .slice none 0 0, .slice none 0 0, .slice none 0 0, .slice none 0 0, .slice none 0 0, .slice none 0 0, .slice none 0 0, .slice none 0 0, .slice none 0 0, .slice none 0 0, .slice none 0 0, .slice none 0 0, .slice none 0 0, .slice none 0 0, .slice none 0 0, .slice none 0 0, .slice none 0 0, .slice none 0 0, .slice none 0 0] 42)) [bookR w.heap.size (List.replicate 28 (.slice none 0 0))] := by
  have h0 : Own B w [] := Own.nil B w
  refine h0.new (r := bookR w.heap.size (List.replicate 28 (.slice none 0 0))) ((Below.refl _ _).alloc (Nat.le_refl _) _) ?_ hB
  refine ⟨rfl, .inr ⟨w.heap.size, 1, #[.slice none 0 0, .slice none 0 0, .slice none 0 0, .slice none 0 0, .slice none 0 0, .slice none 0 0, .slice none 0 0, .slice none 0 0, .slice none 0 0, .slice none 0 0, .slice none 0 0, .slice none 0 0, .slice none 0 0, .slice none 0 0, .slice none 0 0, .slice none 0 0, .slice none 0 0, .slice none 0 0, .slice none 0 0, .slice none 0 0, .slice none 0 0, .slice none 0 0, .slice none 0 0, .slice none 0 0, .slice none 0 0, .slice none 0 0, .slice none 0 0, .slice none 0 0], rfl, Nat.le_refl _, ?_, Nat.le_refl _, by unfold maxLen; omega, rfl, rfl⟩⟩
  simp [World.alloc, -World.alloc_eq, bookR]
theorem decEs_ok : ∀ (f : Nat) (last l : List UInt8) (es : List Ent), decEs f last l = some es → ∀ x ∈ es, x.Ok
  | 0, _, _, es, h => by
    obtain rfl : [] = es := Option.some.inj h
    intro x hx
    cases hx
  | f + 1, last, l, es, h => by
    rw [decEs] at h
    split at h
    · obtain rfl : [] = es := Option.some.inj h
      intro x hx
      cases hx
    · split at h
      · cases h
      · split at h
        · cases h
        · obtain ⟨m, hm, rfl⟩ := Option.map_eq_some_iff.1 h
          intro x hx
          rcases List.mem_cons.1 hx with rfl | hx
          · exact (stB_any last l).2.1
          · exact decEs_ok f _ _ m hm x hx
theorem getE_oks (b : List UInt8) : ∀ x ∈ (getE b).2, x.Ok := by
  unfold getE
  split
  · intro x hx; cases hx
  · split
    · intro x hx; cases hx
    · rename_i es hes
      split
      · exact decEs_ok _ _ _ _ hes
      · intro x hx; cases hx
theorem getE_pos (b : List UInt8) : ∀ x ∈ (getE b).2, 0 ≤ x.s := fun x hx => (getE_oks b x hx).2.1
theorem okE_of_row {w : World} {v : Value} {l : List Ent} {B : Nat} (h : Row w 59 4 v l.length (cellsE l)) (h0 : l = [] → v = .slice none 0 0) (hb : ∀ k, ob v = some k → B ≤ k) (hs : ∀ x ∈ l, 0 ≤ x.s) : (rwEntries (v, l.map elOf)).ok B w := by
  have := row_owns (B := B) h (fun e => h0 (List.eq_nil_of_length_eq_zero e)) hb
  show World.ownsRow _ _ _ _ _ _ _
  simp only [rwEntries, List.length_map, cells_el _ hs]
  exact this
theorem okE_of_row2 {w : World} {v : Value} {l : List Ent} {B : Nat} (h : Row w 59 4 v l.length (cellsE l)) (h0 : l = [] → v = .slice none 0 0 ∨ ob v ≠ none) (hb : ∀ k, ob v = some k → B ≤ k) (hs : ∀ x ∈ l, 0 ≤ x.s) : (rwEntries (v, l.map elOf)).ok B w := by
  have : w.ownsRow B 59 4 v l.length (cellsE l) := by
    refine ⟨h.1, ?_⟩
    rcases h.2 with ⟨hn, hv⟩ | ⟨g, cap, cur, rfl, hg, h1, h2, h3, h4⟩
    · rcases h0 (List.eq_nil_of_length_eq_zero hn) with e | e
      · exact .inl ⟨e, hn⟩
      · rcases hv with rfl | ⟨b, o, rfl⟩ <;> exact absurd rfl e
    · exact .inr ⟨g, cap + 1, cur, rfl, hb g rfl, hg, h1, h2, h3, h4⟩
  show World.ownsRow _ _ _ _ _ _ _
  simp only [rwEntries, List.length_map, cells_el _ hs]
  exact this
theorem rd_of_row {w : World} {v : Value} {l : List Ent} (h : Row w 59 4 v l.length (cellsE l)) (h0 : l = [] → v = .slice none 0 0) (hs : ∀ x ∈ l, 0 ≤ x.s) : Rd w v (l.map elOf).length (cellsEntries (l.map elOf)) :=
  (okE_of_row (B := 0) h h0 (fun _ _ => Nat.zero_le _) hs).rd
theorem putBV_form (es : List Ent) : ∃ (s : ByteArray) (e : Int), putBV es = .tuple #[.string s, .int .i64 e] := by
  unfold putBV
  split <;> exact ⟨_, _, rfl⟩
set_option maxHeartbeats 8000000 in
set_option maxRecDepth 100000 in
/-- From the loop on. -/
theorem blockTells_hard {w : World} (CA : ∀ W : World, Calls Tryz.prog 5 #[] W fun e w' => e = .returned (.bool true) ∧ Below W.heap.size W w') (a : Option Addr) (len cap : Nat) (es : List Ent) (b : ByteArray) (hbm : b.size ≤ maxLen) (key : ByteArray) (hkm : key.size ≤ maxLen) (own : Bool) (hI : IsEs w a len es) (hnil : a = none → cap = 0) :
    Calls Tryz.prog 3 #[.slice a len cap, .string b, .string key, .bool own] w fun e w' => e = .returned (.bool true) ∧ Below w.heap.size w w' := by
  obtain ⟨hlm, hok, hE⟩ := hI
  have HCA := Lib.hid CA
  have CS := Lib.hid (smallS_any a len cap es hE (by unfold maxLen at hlm; omega) hok)
  have hll : es.length = len := hE.1
  subst hll
  have hn : a = none → es = [] ∧ cap = 0 := fun h => by
    refine ⟨?_, hnil h⟩
    rcases hE.2 with h0 | ⟨g, o, h1, -⟩
    · exact List.eq_nil_of_length_eq_zero h0
    · rw [h] at h1
      cases h1
  have HE := Lib.hid hE
  have HOK := Lib.hid hok
  have HN := Lib.hid hn
  have hb63 : b.size ≤ 9223372036854775807 := by unfold maxLen at hbm; omega
  have hk63 : key.size ≤ 9223372036854775807 := by unfold maxLen at hkm; omega
  clear CA hlm hok hE hn hnil hbm hkm
  go_enter Tryz.func3, Tryz.ntmps3
  go_wp2_with (fail)
  go_at_call 4
  refine CS.out.mono ?_
  rintro _ w1 ⟨t, rfl, ht, b1⟩
  have HB1 := Lib.hid b1
  clear CS b1
  cases t with
  | false =>
    go_wp2_with (go_at_call 5; refine (HCA.out _).mono ?_; rintro _ w2 ⟨rfl, b2⟩)
    go_ret
    exact ⟨rfl, HB1.out.trans (b2.mono HB1.out.size)⟩
  | true =>
    obtain ⟨h150, hsz⟩ := ht rfl
    by_cases hb6 : b.size ≤ 6000
    · by_cases hk3 : key.size ≤ 3000
      · have hb6I : ¬ (6000 : Int) < (b.size : Int) := by omega
        have hk3I : ¬ (3000 : Int) < (key.size : Int) := by omega
        go_upto_if 36 with fail
        go_cut [1] from 36 (fun v1 wx => ∃ b' : ByteArray, v1 = .string b' ∧ b'.size ≤ 6004 ∧ Below w1.heap.size w1 wx)
        case first =>
          cases own with
          | false =>
            go_wp2_with fail
            go_meet
            exact ⟨b, rfl, by omega, Below.refl _ _⟩
          | true =>
            have CQ := Lib.hid (refSeal_any b w1 (by omega))
            go_wp2_with (go_at_call 6; refine CQ.out.mono ?_; rintro _ w2 ⟨rfl, b2⟩)
            go_meet
            refine ⟨_, rfl, ?_, b2⟩
            rw [str_size]
            unfold sealF
            rw [List.length_append, be_length, len_data']
            omega
        case rest =>
          obtain ⟨b', rfl, hb', hbx⟩ := hcut
          have HB2 := Lib.hid (HB1.out.trans (hbx.mono HB1.out.size))
          clear hbx HB1
          go_wp2_with fail
          obtain ⟨W, hW⟩ : ∃ W, wc.alloc (.cells #[.slice none 0 0, .slice none 0 0, .slice none 0 0, .slice none 0 0, .slice none 0 0, .slice none 0 0, .slice none 0 0, .slice none 0 0, .slice none 0 0, .slice none 0 0, .slice none 0 0, .slice none 0 0, .slice none 0 0, .slice none 0 0, .slice none 0 0, .slice none 0 0, .slice none 0 0, .slice none 0 0, .slice none 0 0, .slice none 0 0, .slice none 0 0, .slice none 0 0, .slice none 0 0, .slice none 0 0, .slice none 0 0, .slice none 0 0, .slice none 0 0, .slice none 0 0] 42) = W := ⟨_, rfl⟩
          have HW := Lib.hid (show Below w.heap.size w W by rw [← hW]; exact HB2.out.alloc HB2.out.size _)
          have HK := Lib.hid (show Book w.heap.size wc.heap.size [] [] [] W by rw [← hW]; exact Book.start (book_new7 w.heap.size wc HB2.out.size) (fun k hk => by cases hk))
          rw [hW]
          generalize wc.heap.size = bk at HK ⊢
          clear hW HB2
          obtain ⟨S, E, hSE⟩ := putBV_form es
          go_loopw [10] (fun kv wr => ∃ k : Nat, kv = .int .i64 (k : Int) ∧ k ≤ 2 ∧ Book w.heap.size bk [] [] [] wr ∧ Below w.heap.size w wr) (fun kv _ => 2 - (intOf kv).toNat)
          case atStart => exact ⟨0, rfl, by omega, HK.out, HW.out⟩
          case round =>
            clear HK HW
            obtain ⟨k, rfl, hk2, hbook, hbl⟩ := hrel
            have HBK := Lib.hid hbook
            have HBL := Lib.hid hbl
            clear hbook hbl
            by_cases hlt : k < 2
            · have hkI : (k : Int) < 2 := by omega
              have C1 := Lib.hid (lentE_any a cap es wr (src_ents (HE.out.below HBL.out) HN.out) (by omega))
              go_wp2_with fail
              go_at_call 7
              refine C1.out.mono ?_
              rintro _ w2 ⟨g, c, rfl, hrow2, hg2, b2⟩
              have HL2 := Lib.hid (show LentEs w2 g c es from ⟨hrow2⟩)
              have HB2 := Lib.hid b2
              have C2 := Lib.hid (putP_any (some ⟨g, 0, none⟩) es.length (c + 1) es HL2.out.ents h150 (by have := HL2.out.cap; omega) HOK.out hsz)
              rw [hSE] at C2
              clear C1 hrow2 b2
              go_wp2_with fail
              go_at_call 8
              refine C2.out.mono ?_
              rintro _ w3 ⟨rfl, b3⟩
              have HB3 := Lib.hid (HB2.out.trans (b3.mono HB2.out.size))
              have HL3 := Lib.hid (HL2.out.keep (b3.block g (HL2.out.row.lt g rfl)))
              clear C2 b3 HB2 HL2
              have HW3 := Lib.hid (HBL.out.trans (HB3.out.mono HBL.out.size))
              have C3 := Lib.hid (rput_any (w := w3) a es.length cap es ((HE.out.below HW3.out).mono HW3.out.size) (by omega) HOK.out (by omega))
              rw [hSE] at C3
              go_wp2_with fail
              go_at_call 9
              refine C3.out.mono ?_
              rintro _ w4 ⟨rfl, b4⟩
              have HB4 := Lib.hid (HB3.out.trans (b4.mono HB3.out.size))
              have HL4 := Lib.hid (HL3.out.keep (b4.block g (HL3.out.row.lt g rfl)))
              have C4 := Lib.hid (getP_any b' w4 hb')
              clear C3 b4 HB3 HL3 HW3
              go_wp2_with fail
              go_at_call 10
              refine C4.out.mono ?_
              rintro _ w5 ⟨vx, rfl, rx, nx, ox, b5⟩
              have HBK5 := Lib.hid (show Book w.heap.size bk [g] [(vx, (getE b'.data.toList).2.map elOf)] [] w5 from ((HBK.out.other (ls := [g]) (fun q hq => .inr (by simp at hq; omega))).below HB4.out).row b5 (okE_of_row rx nx ox (getE_pos _)) (Nat.le_trans HBL.out.size HB4.out.size) (fun q hq => by simp at hq; rw [hq]; exact HL4.out.row.lt g rfl))
              have HB5 := Lib.hid (HB4.out.trans (b5.mono HB4.out.size))
              have HL5 := Lib.hid (HL4.out.keep (b5.block g (HL4.out.row.lt g rfl)))
              have C5 := Lib.hid (rget_any b' w5 hb')
              clear C4 rx nx ox b5 HB4 HL4 HBK
              go_wp2_with fail
              go_at_call 11
              refine C5.out.mono ?_
              rintro _ w6 ⟨vy, rfl, ry, ny, oy, b6⟩
              have HKY := Lib.hid (show ∀ q ∈ g :: (ob vy).toList, q ∈ [g] ∨ w5.heap.size ≤ q from fun q hq => by
                rcases List.mem_cons.1 hq with rfl | hq
                · exact .inl (by simp)
                · exact .inr (oy q (by simpa using hq)))
              have HBK6 := Lib.hid ((HBK5.out.other HKY.out).below b6)
              have HB6 := Lib.hid (HB5.out.trans (b6.mono HB5.out.size))
              have HL6 := Lib.hid (HL5.out.keep (b6.block g (HL5.out.row.lt g rfl)))
              have HND := Lib.hid (show (g :: (ob vy).toList).Nodup by
                refine List.nodup_cons.2 ⟨fun hq => ?_, by cases ob vy <;> simp⟩
                have h1 := oy g (by simpa using hq)
                have h2 := HL5.out.row.lt g rfl
                omega)
              have HKL := Lib.hid (show ∀ q ∈ g :: (ob vy).toList, w.heap.size ≤ q ∧ q < w6.heap.size from fun q hq => by
                rcases List.mem_cons.1 hq with rfl | hq
                · exact ⟨Nat.le_trans HBL.out.size hg2, HL6.out.row.lt q rfl⟩
                · exact ⟨Nat.le_trans (Nat.le_trans HBL.out.size HB5.out.size) (oy q (by simpa using hq)), ry.lt q (by simpa using hq)⟩)
              have HRY := Lib.hid ry
              have HNY := Lib.hid ny
              have C6 := Lib.hid (seekP_any b' key w6 hb')
              clear C5 ry ny oy b6 HB5 HL5 HBK5 HKY
              go_wp2_with fail
              go_at_call 12
              refine C6.out.mono ?_
              rintro _ w7 ⟨vu, rfl, ru, nu, ou, b7⟩
              have hfew := (getE_small b'.data.toList).1
              rw [len_data'] at hfew
              have HSM := Lib.hid (getE_small b'.data.toList).2
              have HPOS := Lib.hid (getE_pos b'.data.toList)
              generalize hG : getE b'.data.toList = G at *
              have hfr := rangeE_le key ⟨#[]⟩ G.2
              have HPR := Lib.hid (show ∀ x ∈ rangeE key ⟨#[]⟩ G.2, 0 ≤ x.s from fun x hx => HPOS.out x (List.mem_filter.1 hx).1)
              have HBK7 := Lib.hid (HBK6.out.row b7 (okE_of_row2 ru nu ou HPR.out) (Nat.le_trans HBL.out.size HB6.out.size) (fun q hq => (HKL.out q hq).2))
              have HB7 := Lib.hid (HB6.out.trans (b7.mono HB6.out.size))
              have HL7 := Lib.hid (HL6.out.keep (b7.block g (HL6.out.row.lt g rfl)))
              have HRY7 := Lib.hid (row_below HRY.out b7)
              have HKL7 := Lib.hid (show ∀ q ∈ g :: (ob vy).toList, w.heap.size ≤ q ∧ q < w7.heap.size from fun q hq => ⟨(HKL.out q hq).1, Nat.lt_of_lt_of_le (HKL.out q hq).2 b7.size⟩)
              have HW7 := Lib.hid (HBL.out.trans (HB7.out.mono HBL.out.size))
              have C7 := Lib.hid (Book.addE (A := [(vu, (rangeE key ⟨#[]⟩ G.2).map elOf)]) (C := []) HBK7.out (by rw [List.length_map]; omega) HW7.out.size HND.out HKL7.out)
              clear C6 ru nu ou b7 HB6 HL6 HBK6 HRY HKL HBK7
              go_wp2_with fail
              go_at_call 13
              refine C7.out.mono ?_
              rintro _ w8 ⟨rfl, HBK8, hk8, b8⟩
              have HW8 := Lib.hid (HW7.out.trans b8)
              have HL8 := Lib.hid (HL7.out.keep (hk8 g (by simp)))
              have HRY8 := Lib.hid (HRY7.out.kept (fun q hq => hk8 q (by simp [hq])))
              have HKL8 := Lib.hid (show ∀ q ∈ g :: (ob vy).toList, w.heap.size ≤ q ∧ q < w8.heap.size from fun q hq => ⟨(HKL7.out q hq).1, Nat.lt_of_lt_of_le (HKL7.out q hq).2 b8.size⟩)
              have C8 := Lib.hid (Book.addE (A := []) (C := []) HBK8 (by rw [List.length_map]; omega) HW8.out.size HND.out HKL8.out)
              clear C7 HBK8 hk8 b8 HW7 HL7 HRY7 HKL7
              go_wp2_with fail
              go_at_call 13
              refine C8.out.mono ?_
              rintro _ w9 ⟨rfl, hbk9, hk9, b9⟩
              have HBK9 := Lib.hid hbk9
              have HW9 := Lib.hid (HW8.out.trans b9)
              have HL9 := Lib.hid (HL8.out.keep (hk9 g (by simp)))
              have HRY9 := Lib.hid (HRY8.out.kept (fun q hq => hk9 q (by simp [hq])))
              clear C8 hbk9 hk9 b9 HW8 HL8 HRY8 HKL8 HND
              have hm : (G.2.map elOf).length ≤ 1000000 := by rw [List.length_map]; omega
              have hmr : ((rangeE key ⟨#[]⟩ G.2).map elOf).length ≤ 1000000 := by rw [List.length_map]; omega
              have C9 := Lib.hid (sameEntries_rd vx vy (G.2.map elOf) w9 (HBK9.out.read (r := (vx, G.2.map elOf)) (by simp)) (rd_of_row HRY9.out HNY.out HPOS.out) hm)
              go_wp2_with fail
              go_at_call 14
              refine C9.out.mono ?_
              rintro _ wa ⟨rfl, n9, hwa⟩
              have hba : Below w9.heap.size w9 wa := by rw [hwa]; exact belowN (Below.refl _ _) n9
              have HBKa := Lib.hid (HBK9.out.below hba)
              have HWa := Lib.hid (HW9.out.trans (hba.mono HW9.out.size))
              have HLa := Lib.hid (HL9.out.keep (hba.block g (HL9.out.row.lt g rfl)))
              have HRYa := Lib.hid (row_below HRY9.out hba)
              clear C9 hwa hba HBK9 HW9 HL9 HRY9
              obtain ⟨ay, cy, rfl, hEy⟩ := row_ents HRYa.out
              have CR := Lib.hid (range_any ay G.2.length cy G.2 key ⟨#[]⟩ wa (Nat.le_refl _) hEy (by omega) (fun y hy => by have := HSM.out y hy; omega) hk63 (by show 0 ≤ _; omega))
              clear hEy
              go_wp2_with fail
              go_at_call 15
              refine CR.out.mono ?_
              rintro _ wb ⟨vr, rfl, rr, nr, -, bb⟩
              have HBKb := Lib.hid (HBKa.out.below bb)
              have HWb := Lib.hid (HWa.out.trans (bb.mono HWa.out.size))
              have HLb := Lib.hid (HLa.out.keep (bb.block g (HLa.out.row.lt g rfl)))
              have CB := Lib.hid (sameEntries_rd vu vr ((rangeE key ⟨#[]⟩ G.2).map elOf) wb (HBKb.out.read (r := (vu, (rangeE key ⟨#[]⟩ G.2).map elOf)) (by simp)) (rd_of_row rr nr HPR.out) hmr)
              clear CR rr nr bb HBKa HWa HLa HRYa
              go_wp2_with fail
              go_at_call 14
              refine CB.out.mono ?_
              rintro _ wd ⟨rfl, nd, hwd⟩
              have hbd : Below wb.heap.size wb wd := by rw [hwd]; exact belowN (Below.refl _ _) nd
              have HBKd := Lib.hid (HBKb.out.below hbd)
              have HWd := Lib.hid (HWb.out.trans (hbd.mono HWb.out.size))
              have HLd := Lib.hid (HLb.out.keep (hbd.block g (HLb.out.row.lt g rfl)))
              have CT := Lib.hid (staysE_any g c a cap es wd HLd.out ((HE.out.below HWd.out).mono HWd.out.size) (fun x hx => (HOK.out x hx).2.1) (by omega))
              clear CB hwd hbd HBKb HWb HLb
              go_wp2_with fail
              go_at_call 16
              refine CT.out.mono ?_
              rintro _ we ⟨rfl, be⟩
              have HBKe := Lib.hid (show Book w.heap.size bk [] [] [] we from ((HBKd.out.below be).other (ls := []) (fun q hq => by cases hq)).forget)
              have HWe := Lib.hid (HWd.out.trans (be.mono HWd.out.size))
              clear CT be HBKd HWd HLd
              go_wp2_with fail
              go_roundw
              case rel => exact ⟨k + 1, by go_num, by omega, HBKe.out, HWe.out⟩
              case measure => simp [intOf]; omega
            · obtain rfl : k = 2 := by omega
              go_wp2_with fail
              go_at_call 5
              refine (HCA.out _).mono ?_
              rintro _ w2 ⟨rfl, b2⟩
              have HBK2 := Lib.hid (HBK.out.below b2)
              have HW2 := Lib.hid (HBL.out.trans (b2.mono HBL.out.size))
              clear b2 HBK HBL
              have CP := Lib.hid (sharedP_any b' key w2 (by omega) (by omega))
              go_wp2_with fail
              go_at_call 17
              refine CP.out.mono ?_
              rintro _ w3 ⟨rfl, b3⟩
              have HBK3 := Lib.hid (HBK2.out.below b3)
              have HW3 := Lib.hid (HW2.out.trans (b3.mono HW2.out.size))
              clear b3 HBK2 HW2 CP
              have CD := Lib.hid (rshared_any b' key w3 (by omega) hk63)
              generalize shr b'.data.toList key.data.toList = sh at CD ⊢
              go_wp2_with fail
              go_at_call 18
              refine CD.out.mono ?_
              rintro _ w4 ⟨rfl, n4, hw4⟩
              have hb4 : Below w3.heap.size w3 w4 := by rw [hw4]; exact belowN (Below.refl _ _) n4
              have HBK4 := Lib.hid (HBK3.out.below hb4)
              have HW4 := Lib.hid (HW3.out.trans (hb4.mono HW3.out.size))
              clear hw4 hb4 HBK3 HW3 CD
              have CZ := Lib.hid (HBK4.out.apart HW4.out.size)
              go_wp2_with fail
              go_at_call 19
              refine CZ.out.mono ?_
              rintro _ w5 ⟨rfl, b5⟩
              go_wp2_with fail
              go_ret
              exact ⟨rfl, HW4.out.trans b5⟩
      · have hb6I : ¬ (6000 : Int) < (b.size : Int) := by omega
        have hk3I : (3000 : Int) < (key.size : Int) := by omega
        go_wp2_with (go_at_call 5; refine (HCA.out _).mono ?_; rintro _ w2 ⟨rfl, b2⟩)
        go_ret
        exact ⟨rfl, HB1.out.trans (b2.mono HB1.out.size)⟩
    · have hb6I : (6000 : Int) < (b.size : Int) := by omega
      go_wp2_with (go_at_call 5; refine (HCA.out _).mono ?_; rintro _ w2 ⟨rfl, b2⟩)
      go_ret
      exact ⟨rfl, HB1.out.trans (b2.mono HB1.out.size)⟩
end Go.Proofs.YtopnbbchiglpoaaGreat
