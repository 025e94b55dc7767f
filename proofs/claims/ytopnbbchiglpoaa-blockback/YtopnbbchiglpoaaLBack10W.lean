/- BlockBack's walk. -/
import Derived.Test.YtopnbbchiglpoaaZD
import Derived.Test.YtopnbbchiglpoaaBZ
import Derived.Test.YtopnbbchiglpoaaLAlive10P
namespace Go.Proofs.Ytopnbbchiglpoaa
open Go.RowKit

theorem oneN_le (e : Ent) (hv : vldE e = true) (hs : e.s.toNat < 18446744073709551616) : oneN e ≤ 60400 := by
  have h := valid_parts hv
  have a2 := uv_len e.k.size (by omega)
  have a3 := uv_len e.v.size (by omega)
  have a4 := vars_length [e.s.toNat, e.n.toNat] (fun z hz => by simp at hz; omega)
  unfold oneN
  simp only [List.length_append, len_data', List.length_cons, List.length_nil] at *
  omega
theorem sumN_le (es : List Ent) (ho : ordB es es.length = true) (hok : ∀ x ∈ es, x.Ok) : ∀ k, k ≤ es.length → sumN es k ≤ 60402 * k
  | 0, _ => by simp [sumN]
  | k + 1, h => by
    have ih := sumN_le es ho hok k (by omega)
    have hk : k < es.length := by omega
    rw [sumN_step es k hk]
    have := oneN_le (entAt es k) (ordB_at ho hk).1 (by rw [entAt_get hk]; obtain ⟨-, h2, h3, -⟩ := hok _ (List.getElem_mem hk); omega)
    omega
set_option maxHeartbeats 8000000 in
set_option maxRecDepth 100000 in
theorem blockBack_hard {w : World} (a : Option Addr) (len cap : Nat) (es : List Ent) (at_ by_ : Int) (key : ByteArray) (hkm : key.size ≤ maxLen) (hI : IsEs w a len es) (hcap : len ≤ cap) :
    Calls Try.prog 3 #[.slice a len cap, .int .i64 at_, .int .i64 by_, .string key] w fun e w' => e = .returned (.bool true) ∧ Below w.heap.size w w' := by
  obtain ⟨hlm, hok, hE⟩ := hI
  have HCA := Lib.hid alive10
  have CS := Lib.hid (smallS_any a len cap es hE (by unfold maxLen at hlm; omega) hok)
  have hll : es.length = len := hE.1
  subst hll
  have HE := Lib.hid hE
  have HOK := Lib.hid hok
  have hk63 : key.size ≤ 9223372036854775807 := by unfold maxLen at hkm; omega
  clear hlm hok hE hkm
  go_enter Try.func3, Try.ntmps3
  go_wp2_with (fail)
  go_at_call 5
  refine CS.out.mono ?_
  rintro _ w1 ⟨t, rfl, ht, b1⟩
  have HB1 := Lib.hid b1
  clear CS b1
  cases t with
  | false =>
    go_wp2_with (go_at_call 6; refine (HCA.out _).mono ?_; rintro _ w2 ⟨rfl, b2⟩)
    go_ret
    exact ⟨rfl, HB1.out.trans (b2.mono HB1.out.size)⟩
  | true =>
    obtain ⟨h150, hsz⟩ := ht rfl
    by_cases hk3 : key.size ≤ 300
    · have hk3I : ¬ (300 : Int) < (key.size : Int) := by omega
      have C2 := Lib.hid (putP_any (w := w1) a es.length cap es ((HE.out.below HB1.out).mono HB1.out.size) h150 hcap HOK.out hsz)
      cases hor : ordB es es.length with
      | false =>
        rw [show putBV es = .tuple #[.string ⟨#[]⟩, .int .i64 1] by unfold putBV; rw [hor]; rfl] at C2
        go_wp2_with (first | (go_at_call 7; refine C2.out.mono ?_; rintro _ w2 ⟨rfl, b2⟩) | (go_at_call 6; refine (HCA.out _).mono ?_; rintro _ w3 ⟨rfl, b3⟩) | fail)
        go_ret
        exact ⟨rfl, (HB1.out.trans (b2.mono HB1.out.size)).trans (b3.mono (Nat.le_trans HB1.out.size b2.size))⟩
      | true =>
        obtain ⟨Z, hZ⟩ : ∃ Z : ByteArray, ⟨(blkB es).toArray⟩ = Z := ⟨_, rfl⟩
        have hZd : Z.data.toList = blkB es := by rw [← hZ]
        have hZl : Z.size = (blkB es).length := by rw [← len_data', hZd]
        have hG : getE Z.data.toList = (0, es) := by rw [hZd]; exact getE_laid es (by omega) hor (fun x hx => ⟨(HOK.out x hx).2.1, (HOK.out x hx).2.2.1⟩)
        rw [show putBV es = .tuple #[.string Z, .int .i64 0] by unfold putBV; rw [hor, ← hZ]; rfl] at C2
        have hZ8 : 8 ≤ Z.size := by rw [hZl]; exact blkB_eight es
        have hZ60 : Z.size ≤ 60000 := by rw [hZl]; exact blkB_size es h150 hsz HOK.out
        have HZ0 := Lib.hid hZ
        clear hZ
        go_wp2_with fail
        go_at_call 7
        refine C2.out.mono ?_
        rintro _ w2 ⟨rfl, b2⟩
        have HB2 := Lib.hid (HB1.out.trans (b2.mono HB1.out.size))
        have C3 := Lib.hid (getP_laid es w2 h150 hsz HOK.out Z hZd)
        unfold GotB at C3
        rw [hG] at C3
        clear C2 b2 HB1
        go_wp2_with fail
        go_at_call 8
        refine C3.out.mono ?_
        rintro _ w3 ⟨vm, rfl, rm, nm, -, b3⟩
        have HB3 := Lib.hid (HB2.out.trans (b3.mono HB2.out.size))
        have HRM := Lib.hid rm
        have C4 := Lib.hid (seekP_laid es key w3 h150 hsz HOK.out Z hZd)
        unfold SeekB at C4
        rw [hG] at C4
        obtain ⟨d, hd, hdr⟩ := keep_end (key := key) hor
        rw [hdr] at C4
        have HDR := Lib.hid hdr
        clear C3 rm nm b3 HB2 hdr
        go_wp2_with fail
        go_at_call 9
        refine C4.out.mono ?_
        rintro _ w4 ⟨vn, rfl, rn, -, -, b4⟩
        obtain ⟨am, cm, rfl, hEm⟩ := row_ents (row_below HRM.out b4)
        obtain ⟨an, cn, rfl, hEn⟩ := row_ents rn
        have HEN := Lib.hid hEn
        have HB4 := Lib.hid (HB3.out.trans (b4.mono HB3.out.size))
        have CE := Lib.hid (sameE_any am a cm cap es w4 hEm ((HE.out.below HB4.out).mono HB4.out.size) (fun x hx => (HOK.out x hx).2.1) (by omega))
        clear C4 rn b4 HB3 hEm hEn HRM
        obtain ⟨mm, hmm⟩ : ∃ mm, es.length - d = mm := ⟨_, rfl⟩
        rw [List.length_drop, hmm] at HEN
        rw [List.length_drop, hmm]
        have HMD := Lib.hid (show mm + d = es.length by omega)
        have hmlI : ¬ (es.length : Int) < (mm : Int) := by omega
        have hdm1 : decide ((es.length : Int) < (mm : Int)) = false := by simp; omega
        have hdm2 : decide (es.length < mm) = false := by simp; omega
        have HZL := Lib.hid hZl
        have hZ8I : decide ((Z.size : Int) < 8) = false := by simp; omega
        clear hmm hZl
        go_wp2_with (go_at_call 10; (with_reducible refine CE.out.mono ?_); rintro _ w5 ⟨rfl, n5, rfl⟩)
        have HB5 := Lib.hid (show Below w4.heap.size w4 (w4.drewN n5) from belowN (Below.refl _ _) n5)
        generalize w4.drewN n5 = w5 at HB5 ⊢
        go_loopw [15] (fun iv wr => ∃ i : Nat, iv = .int .i64 (i : Int) ∧ i ≤ mm ∧ Below w4.heap.size w4 wr) (fun iv _ => mm - (intOf iv).toNat)
        case atStart => exact ⟨0, rfl, Nat.zero_le _, HB5.out⟩
        case round =>
          obtain ⟨i, rfl, him, hbl⟩ := hrel
          have HBL := Lib.hid hbl
          by_cases hlt : i < mm
          · obtain ⟨k, hk⟩ : ∃ k, d + i = k := ⟨_, rfl⟩
            have hkl : k < es.length := by have := HMD.out; omega
            obtain ⟨bn, on, rfl, hcn⟩ : ∃ b off, an = some ⟨b, off, none⟩ ∧ ∀ j u, (entAt es k).cells[j]? = some u → wr.cell? ⟨b, off + i * 4 + j, none⟩ = some u := by
              rcases (HEN.out.below hbl).2 with h0 | ⟨b, off, e, h1, h2⟩
              · omega
              · refine ⟨b, off, e, fun j u hu => h2 i (by rw [HEN.out.1]; exact hlt) j u ?_⟩
                rw [List.getElem_drop, ← entAt_get (show d + i < es.length by omega), hk]
                exact hu
            obtain ⟨b, off, rfl, hc⟩ : ∃ b off, a = some ⟨b, off, none⟩ ∧ ∀ j u, (entAt es k).cells[j]? = some u → wr.cell? ⟨b, off + k * 4 + j, none⟩ = some u := by
              rcases (HE.out.below (HB4.out.trans (hbl.mono HB4.out.size))).2 with h0 | ⟨b, off, e, h1, h2⟩
              · omega
              · refine ⟨b, off, e, ?_⟩
                rw [entAt_get hkl]
                exact h2 k hkl
            have hlb : Op.bytesLess (entAt es k).k.toList key.toList = false := by
              rw [less_cbP]
              have hx : entAt es k ∈ rangeE key ⟨#[]⟩ es := by
                rw [HDR.out, entAt_get hkl]
                have : es[k] = (es.drop d)[i]'(by rw [HEN.out.1]; exact hlt) := by rw [List.getElem_drop]; congr 1; omega
                rw [this]
                exact List.getElem_mem _
              have := (List.mem_filter.1 hx).2
              rw [inRange_all] at this
              simpa using this
            generalize entAt es k = x at hcn hc hlb
            have q0 : wr.cell? ⟨bn, on + i * 4, none⟩ = some (.string x.k) := hcn 0 _ rfl
            have q1 : wr.cell? ⟨bn, on + i * 4 + 1, none⟩ = some (.int .u64 x.s) := hcn 1 _ rfl
            have q2 : wr.cell? ⟨bn, on + i * 4 + 2, none⟩ = some (.int .i64 x.n) := hcn 2 _ rfl
            have q3 : wr.cell? ⟨bn, on + i * 4 + 3, none⟩ = some (.string x.v) := hcn 3 _ rfl
            have p0 : wr.cell? ⟨b, off + k * 4, none⟩ = some (.string x.k) := hc 0 _ rfl
            have p1 : wr.cell? ⟨b, off + k * 4 + 1, none⟩ = some (.int .u64 x.s) := hc 1 _ rfl
            have p2 : wr.cell? ⟨b, off + k * 4 + 2, none⟩ = some (.int .i64 x.n) := hc 2 _ rfl
            have p3 : wr.cell? ⟨b, off + k * 4 + 3, none⟩ = some (.string x.v) := hc 3 _ rfl
            have hltI : (i : Int) < (mm : Int) := by omega
            have hsub : (es.length : Int) - (mm : Int) = (d : Int) := by have := HMD.out; omega
            have hadd : (d : Int) + (i : Int) = (k : Int) := by omega
            have hkI : (k : Int) < (es.length : Int) := by omega
            clear hcn hc hbl hk
            go_wp2_with fail
            go_quiet (fail)
            go_wp2_with fail
            go_roundw
            case rel => exact ⟨i + 1, by go_num, by omega, belowN HBL.out nq⟩
            case measure => simp [intOf]; omega
          · obtain rfl : i = mm := by omega
            have HBW := Lib.hid (HB4.out.trans (hbl.mono HB4.out.size))
            obtain ⟨cnt, hcnt⟩ : ∃ cnt, (es.length + 3) / 4 = cnt := ⟨_, rfl⟩
            have hq : ((es.length : Int) + 3) / 4 = (cnt : Int) := by omega
            have hcl : cnt ≤ 38 := by omega
            obtain ⟨S, hS⟩ : ∃ S : Nat, 8 + 4 * cnt = S := ⟨_, rfl⟩
            have hSI : (8 : Int) + 4 * (cnt : Int) = (S : Int) := by omega
            have hSl : S ≤ 200 := by omega
            have HSUM := Lib.hid (sumN_le es hor HOK.out)
            have HSH := Lib.hid (show Z.size ≤ S + sumN es es.length by
              have := blkB_short es hor
              rw [HZL.out]
              omega)
            clear hbl hcnt hS HBL CE HEN HDR HMD HB5 HB4 hmlI
            have HSI := Lib.hid hSI
            go_wp2_with fail
            clear hq hSI
            go_loopw [16, 17] (fun sv iv wr => ∃ (i T : Nat), sv = .int .i64 (T : Int) ∧ iv = .int .i64 (i : Int) ∧ i ≤ es.length ∧ Hid (T = S + sumN es i) ∧ Below w.heap.size w wr) (fun _ iv _ => es.length - (intOf iv).toNat)
            case atStart => exact ⟨0, S, by first | rfl | rw [HSI.out], rfl, Nat.zero_le _, Lib.hid (by simp [sumN]), HBW.out⟩
            case round =>
              clear HBW
              obtain ⟨i2, T, rfl, rfl, hi2, HT, hbl⟩ := hrel
              have HBL := Lib.hid hbl
              have hTl : T ≤ 20000000 := by have := HSUM.out i2 hi2; have := HT.out; omega
              by_cases hlt2 : i2 < es.length
              · obtain ⟨b, off, rfl, hc⟩ : ∃ b off, a = some ⟨b, off, none⟩ ∧ ∀ j u, (entAt es i2).cells[j]? = some u → wr.cell? ⟨b, off + i2 * 4 + j, none⟩ = some u := by
                  rcases (HE.out.below hbl).2 with h0 | ⟨b, off, e, h1, h2⟩
                  · omega
                  · refine ⟨b, off, e, ?_⟩
                    rw [entAt_get hlt2]
                    exact h2 i2 hlt2
                have hokx : (entAt es i2).Ok := by rw [entAt_get hlt2]; exact HOK.out _ (List.getElem_mem _)
                have hvx := (ordB_at hor hlt2).1
                have CP := Lib.hid (fun W => put5_any (entAt es i2) hokx hvx W)
                have hon := oneN_le (entAt es i2) hvx (by obtain ⟨-, h2, h3, -⟩ := hokx; omega)
                have HSTEP := Lib.hid (sumN_step es i2 hlt2)
                generalize entAt es i2 = x at hc CP hon HSTEP
                have q0 : wr.cell? ⟨b, off + i2 * 4, none⟩ = some (.string x.k) := hc 0 _ rfl
                have q1 : wr.cell? ⟨b, off + i2 * 4 + 1, none⟩ = some (.int .u64 x.s) := hc 1 _ rfl
                have q2 : wr.cell? ⟨b, off + i2 * 4 + 2, none⟩ = some (.int .i64 x.n) := hc 2 _ rfl
                have q3 : wr.cell? ⟨b, off + i2 * 4 + 3, none⟩ = some (.string x.v) := hc 3 _ rfl
                have hltI2 : (i2 : Int) < (es.length : Int) := by omega
                clear hc hbl hokx hvx
                go_wp2_with (go_at_call 11; (with_reducible refine (CP.out _).mono ?_); rintro _ w6 ⟨sx, rfl, hsx, b6⟩; have hsl : sx.size ≤ 60400 := by rw [hsx.out]; exact hon)
                go_roundw
                case rel => exact ⟨i2 + 1, T + (sx.size + 2), by go_num, by go_num, by omega, Lib.hid (by rw [HSTEP.out, ← hsx.out, HT.out]; omega), HBL.out.trans (b6.mono HBL.out.size)⟩
                case measure => simp [intOf]; omega
              · obtain rfl : i2 = es.length := by omega
                have hle : Z.size ≤ T := by have := HT.out; have := HSH.out; omega
                have hleI : (Z.size : Int) ≤ (T : Int) := by omega
                have hgt : decide ((T : Int) < (Z.size : Int)) = false := by simp; omega
                have hgt2 : decide (T < Z.size) = false := by simp; omega
                clear hbl HSUM HSH HT
                by_cases hby : by_ % 256 = 0
                · go_wp2_with (go_at_call 6; (with_reducible refine (HCA.out _).mono ?_); rintro _ w7 ⟨rfl, b7⟩)
                  go_ret
                  exact ⟨rfl, HBL.out.trans (b7.mono HBL.out.size)⟩
                · have hd1 : (by_ % 256 == 0) = false := by simpa using hby
                  by_cases hneg : at_ < 0
                  · have hd2 : decide (at_ < 0) = true := decide_eq_true hneg
                    go_wp2_with (go_at_call 6; (with_reducible refine (HCA.out _).mono ?_); rintro _ w7 ⟨rfl, b7⟩)
                    go_ret
                    exact ⟨rfl, HBL.out.trans (b7.mono HBL.out.size)⟩
                  · have hd2 : decide (at_ < 0) = false := decide_eq_false hneg
                    have hZpos : (0 : Int) < (Z.size : Int) := by omega
                    obtain ⟨j, hj⟩ : ∃ j : Nat, at_ % (Z.size : Int) = (j : Int) := ⟨(at_ % (Z.size : Int)).toNat, by have := Int.emod_nonneg at_ (show (Z.size : Int) ≠ 0 by omega); omega⟩
                    have hjl : (j : Int) < (Z.size : Int) := by rw [← hj]; exact Int.emod_lt_of_pos at_ hZpos
                    have hjt : at_.tmod (Z.size : Int) = (j : Int) := by rw [Int.tmod_eq_emod_of_nonneg (by omega)]; exact hj
                    have hjs : j < (blkB es).length := by rw [← HZL.out]; omega
                    obtain ⟨c, hc, hcne⟩ := xor_byte (blkB es)[j] by_
                    have hch := blkB_change es j c hjs (hcne hby)
                    obtain ⟨M, hM⟩ : ∃ M : ByteArray, M = ⟨((blkB es).set j c).toArray⟩ := ⟨_, rfl⟩
                    have hMl : M.data.toList = (blkB es).set j c := by rw [hM]
                    have hMs : M.size ≤ 100000 := by rw [← len_data', hMl, List.length_set, ← HZL.out]; omega
                    have CG := Lib.hid (fun W => getP_len M W hMs)
                    unfold GotB at CG
                    rw [hMl, hch] at CG
                    obtain ⟨C, w7, hcv, b7, hCs, hcells, hfr, hg7⟩ := bytes_of Z wr
                    have hcj : w7.cell? ⟨wr.heap.size, j, none⟩ = some (.int .u8 ((blkB es)[j].toNat : Int)) := by
                      rw [hcells j (by omega), hZd]
                      simp [List.getD, hjs]
                    have hfj := hfr j (by omega)
                    have HSET := Lib.hid (show (convert 36 9 (.slice (some ⟨wr.heap.size, 0, none⟩) Z.size C)).run Try.prog (w7.setCell ⟨wr.heap.size, j, none⟩ (.int .u8 (c.toNat : Int))) = .ok (.string M) (w7.setCell ⟨wr.heap.size, j, none⟩ (.int .u8 (c.toNat : Int))) by
                      rw [hM]
                      refine back_of _ wr.heap.size C Z.size ((blkB es).set j c) (by rw [List.length_set]; exact HZL.out) (fun i hi => ?_)
                      have hi2 : i < (blkB es).length := by simpa using hi
                      by_cases hij : i = j
                      · subst hij
                        rw [World.cell?_setCell_same _ _ _ hcj]
                        simp
                      · rw [World.cell?_setCell_other _ _ _ _ (by intro h; cases h; exact hij rfl), hcells i (by rw [HZL.out]; exact hi2), hZd]
                        rw [List.getElem_set_ne (fun e => hij e.symm)]
                        simp [List.getD, hi2])
                    have HB8 := Lib.hid (show Below w.heap.size w (w7.setCell ⟨wr.heap.size, j, none⟩ (.int .u8 (c.toNat : Int))) from below_row (HBL.out.trans (b7.mono HBL.out.size)) (Nat.le_refl _) (grownBy_set w7 wr.heap.size j (.int .u8 (c.toNat : Int))) (fun k hk => by cases hk; exact HBL.out.size))
                    generalize (blkB es)[j] = x0 at hc hcj
                    have hcv2 := HSET.out
                    generalize wr.heap.size = gb at hcj hfj hcv hcv2 HB8
                    generalize hW8 : w7.setCell ⟨gb, j, none⟩ (.int .u8 (c.toNat : Int)) = W8 at hcv2 HB8
                    clear hcells hfr hcne hch hMl hM HSET hby hj b7 hg7
                    go_wp2_with (first | (go_at_call 8; (with_reducible refine (CG.out _).mono ?_); rintro _ w9 ⟨v9, rfl, -, -, -, b9⟩) | (go_at_call 6; (with_reducible refine (HCA.out _).mono ?_); rintro _ w10 ⟨rfl, b10⟩) | fail)
                    go_ret
                    exact ⟨rfl, (HB8.out.trans (b9.mono HB8.out.size)).trans (b10.mono (Nat.le_trans HB8.out.size b9.size))⟩
    · have hk3I : (300 : Int) < (key.size : Int) := by omega
      go_wp2_with (go_at_call 6; refine (HCA.out _).mono ?_; rintro _ w2 ⟨rfl, b2⟩)
      go_ret
      exact ⟨rfl, HB1.out.trans (b2.mono HB1.out.size)⟩
theorem blockBack_walk (a : Option Addr) (len cap : Nat) (es : List Ent) (x : Int) (_ : -9223372036854775808 ≤ x) (_ : x ≤ 9223372036854775807) (y : Int) (_ : -9223372036854775808 ≤ y) (_ : y ≤ 9223372036854775807) (key : ByteArray) (hk : key.size ≤ maxLen) (w : World) (hI : IsEs w a len es) (_hnil : a = none → cap = 0) (hcap : len ≤ cap ∧ cap ≤ maxLen) :
    Calls Try.prog 3 #[.slice a len cap, .int .i64 x, .int .i64 y, .string key] w fun e w' => e = .returned (.bool true) ∧ Below w.heap.size w w' :=
  blockBack_hard a len cap es x y key hk hI hcap.1
end Go.Proofs.Ytopnbbchiglpoaa
