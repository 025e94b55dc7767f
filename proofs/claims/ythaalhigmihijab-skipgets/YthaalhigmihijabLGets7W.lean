/- The walk of SkipGets. -/
import Derived.Test.YthaalhigmihijabYC
namespace Go.Proofs.Ythaalhigmihijab
open Go.RowKit

theorem Ent.Ok.nice {x : Ent} (h : x.Ok) : x.Nice := ⟨h.1, h.2.2.2.2.2, h.2.1, h.2.2.1⟩
theorem puts_len {W : World} {x : Ent} {l : Nat} {ns ns' : List Nd} {t : Bool} (h : Puts W x l ns t ns') : ns'.length ≤ ns.length + 1 := by
  rcases h with ⟨-, rfl, -⟩ | ⟨-, -, -, P, Q, a, hc, rfl, -⟩
  · omega
  · rw [hc.all]
    simp
    omega
set_option maxHeartbeats 8000000 in
set_option maxRecDepth 100000 in
theorem skipGets_walk (a : Option Addr) (len cap : Nat) (l : List Ent) (key : ByteArray) (hkey : key.size ≤ maxLen) (seq : Nat) (_hseq : seq ≤ 18446744073709551615) (w : World) (hE : IsEs w a len l) :
    Calls Try.prog 4 #[.slice a len cap, .string key, .int .u64 (seq : Int)] w fun r w' => r = .returned (.bool true) ∧ Below w.heap.size w w' := by
  obtain ⟨hlm, hok, hE⟩ := hE
  have hll := hE.1
  have CS := Lib.hid (small_any a len cap l hE (by unfold maxLen at hlm; omega) hok)
  have HE := Lib.hid hE
  have HOK := Lib.hid hok
  have hk0 : key.size ≤ 9223372036854775807 := by unfold maxLen at hkey; omega
  have CA := Lib.hid (fun W => alive7_any W)
  clear hE hok
  go_enter Try.func4, Try.ntmps4
  go_wp2_with fail
  refine CS.out.mono ?_
  rintro e W1 ⟨t, rfl, hsm, hb1⟩
  have HSM := Lib.hid hsm
  have HB1 := Lib.hid hb1
  clear hsm hb1
  cases t
  · go_wp2_with (first | (go_at_call 9; (with_reducible refine (CA.out _).mono ?_); rintro e W2 ⟨rfl, hb2⟩) | fail)
    go_ret
    exact ⟨rfl, bt7 HB1.out hb2⟩
  by_cases hk3 : 300 < key.size
  · have d3 : decide (300 < (key.size : Int)) = true := by simp; omega
    go_wp2_with (first | (go_at_call 9; (with_reducible refine (CA.out _).mono ?_); rintro e W2 ⟨rfl, hb2⟩) | fail)
    go_ret
    exact ⟨rfl, bt7 HB1.out hb2⟩
  have d3 : decide (300 < (key.size : Int)) = false := by simp; omega
  have hl150 : len ≤ 150 := (HSM.out rfl).1
  go_wp2_with fail
  (with_reducible refine (skp_new _).mono ?_)
  rintro e W2 ⟨rfl, hs2, -, hb2⟩
  have HB2 := Lib.hid (bt7 HB1.out hb2)
  obtain ⟨p, hp⟩ : ∃ p, p = W1.heap.size := ⟨_, rfl⟩
  rw [← hp] at hs2 ⊢
  have hpw : w.heap.size ≤ p := by rw [hp]; exact HB1.out.size
  have HS2 := Lib.hid hs2
  clear hs2 hb2 hp
  go_wp2_with fail
  go_loopw [8] (fun iv wr => ∃ (i : Nat) (ns : List Nd), i ≤ len ∧ iv = .int .i64 (i : Int) ∧ ns.length ≤ i ∧ Skp p p ns wr ∧ Below w.heap.size w wr) (fun iv _ => len - (intOf iv).toNat)
  case atStart => exact ⟨0, [], Nat.zero_le _, rfl, Nat.le_refl _, HS2.out, HB2.out⟩
  case round =>
    obtain ⟨i, ns, hi, rfl, hnl, hsk, hbl⟩ := hrel
    have HSK := Lib.hid hsk
    have HBL := Lib.hid hbl
    clear hsk hbl
    by_cases hlt : i < len
    · obtain ⟨b, off, rfl, hblt, x, hget, hcell⟩ : ∃ b off, a = some ⟨b, off, none⟩ ∧ b < w.heap.size ∧ ∃ x : Ent, l[i]? = some x ∧ ∀ j u, x.cells[j]? = some u → wr.cell? ⟨b, off + i * 4 + j, none⟩ = some u := by
        rcases (HE.out.below HBL.out).2 with h0 | ⟨b, off, e, h1, h2⟩
        · omega
        · exact ⟨b, off, e, h1, l[i]'(by omega), List.getElem?_eq_getElem (by omega), h2 i (by omega)⟩
      have hxok := HOK.out x (List.mem_of_getElem? hget)
      have q0 : wr.cell? ⟨b, off + i * 4, none⟩ = some (.string x.k) := hcell 0 _ rfl
      have q1 : wr.cell? ⟨b, off + i * 4 + 1, none⟩ = some (.int .u64 x.s) := hcell 1 _ rfl
      have q2 : wr.cell? ⟨b, off + i * 4 + 2, none⟩ = some (.int .i64 x.n) := hcell 2 _ rfl
      have q3 : wr.cell? ⟨b, off + i * 4 + 3, none⟩ = some (.string x.v) := hcell 3 _ rfl
      have hil : (i : Int) < (len : Int) := by omega
      have CP := Lib.hid (put_step HSK.out x hxok.nice (i : Int) (by omega))
      unfold ev at CP
      clear hcell hget hxok
      go_wp2_with (first | (go_at_call 11; (with_reducible refine CP.out.mono ?_); rintro e w3 ⟨t, ns', rfl, hpu, hs3, ht3⟩; have HPU := Lib.hid hpu; have HS3 := Lib.hid hs3; have HT3 := Lib.hid ht3; clear hpu hs3 ht3) | fail)
      have hnl' := puts_len HPU.out
      have hb3 : Below w.heap.size w w3 := HBL.out.trans (HT3.out.below HBL.out.size (fun k hk => Nat.le_trans hpw (HSK.out.base k hk)))
      go_roundw
      case rel => exact ⟨i + 1, ns', by omega, by go_num, by omega, HS3.out, hb3⟩
      case measure => simp [intOf]; omega
    · obtain rfl : i = len := by omega
      obtain ⟨P, Q, hc⟩ := cut_of key (seq : Int) ns HSK.out.right.ord
      have CG := Lib.hid (get_any HSK.out.lst HSK.out.right hc)
      have HC := Lib.hid hc
      clear hc
      go_wp2_with fail
      (with_reducible refine CG.out.mono ?_)
      rintro e W3 ⟨rfl, hb3⟩
      obtain ⟨o, ho⟩ : ∃ o, o = getR key Q := ⟨_, rfl⟩
      rw [← ho]
      have HO := Lib.hid ho
      clear ho
      unfold getV Ent.val ev
      have HB3 := Lib.hid (bt7 HBL.out hb3)
      have HS3 := Lib.hid (HSK.out.below hb3)
      clear hb3
      obtain ⟨eo, heo⟩ : ∃ eo, eo = o.getD Ent.zero := ⟨_, rfl⟩
      obtain ⟨ok, hok⟩ : ∃ ok, ok = o.isSome := ⟨_, rfl⟩
      rw [← heo, ← hok]
      have HEO := Lib.hid heo
      have HOK2 := Lib.hid hok
      clear heo hok
      go_upto_region 11 with fail
      obtain ⟨W4, hW4⟩ : ∃ W4, W3.alloc (.cells #[.string eo.k, .int .u64 eo.s, .int .i64 eo.n, .string eo.v] 30) = W4 := ⟨_, rfl⟩
      have hb4 : Below W3.heap.size W3 W4 := by rw [← hW4]; exact (Below.refl _ _).alloc (Nat.le_refl _) _
      have hx4 : Boxe W3.heap.size eo.k eo.s eo.n eo.v W4 := by rw [← hW4]; exact new_block _ _ rfl
      have hs4 := HS3.out.below hb4
      have HB4 := Lib.hid (bt7 HB3.out hb4)
      have CAll := Lib.hid (all_any hs4.lst hs4.right (by omega))
      have HS4 := Lib.hid hs4
      have HX4 := Lib.hid hx4
      rw [hW4]
      clear hW4 hb4 hx4 hs4
      go_wp2_with fail
      (with_reducible refine CAll.out.mono ?_)
      rintro e W5 ⟨v, rfl, hrow, -, hb5⟩
      obtain ⟨ra, rc, rfl, hents⟩ := row_ents hrow
      have HB5 := Lib.hid (bt7 HB4.out hb5)
      have HS5 := Lib.hid (HS4.out.below hb5)
      have HX5 := Lib.hid (HX4.out.below hb5)
      have HEN := Lib.hid hents
      have hn := HS5.out.right.ord
      have HORD := Lib.hid hn
      have hel : (entsOf ns).length = ns.length := by simp [entsOf]
      have HEL := Lib.hid hel
      have hen : (entsOf ns).length ≤ 150 := by omega
      clear hrow hb5 hents hn hel
      generalize hEE : entsOf ns = es at *
      have HEE := Lib.hid hEE
      clear hEE
      go_wp2_with fail
      go_loopw [12] (fun iv wr => ∃ j : Nat, j ≤ es.length ∧ iv = .int .i64 (j : Int) ∧ Below W5.heap.size W5 wr) (fun iv _ => es.length - (intOf iv).toNat)
      case atStart => exact ⟨0, Nat.zero_le _, rfl, Below.refl _ _⟩
      case round =>
        obtain ⟨j, hj, rfl, hbr⟩ := hrel
        have HBR := Lib.hid hbr
        clear hbr
        have hxr := HX5.out.below HBR.out
        have e1 := hxr.c1
        have e0 := hxr.c0
        by_cases hjl : j < es.length
        · obtain ⟨b, off, rfl, hblt, hcell⟩ : ∃ b off, ra = some ⟨b, off, none⟩ ∧ b < W5.heap.size ∧ ∀ i (h : i < es.length) t u, es[i].cells[t]? = some u → wr.cell? ⟨b, off + i * 4 + t, none⟩ = some u := by
            rcases (HEN.out.below HBR.out).2 with h0 | ⟨b, off, e, h1, h2⟩
            · omega
            · exact ⟨b, off, e, h1, h2⟩
          have hmem : es[j] ∈ entsOf ns := by rw [HEE.out]; exact List.getElem_mem _
          have q0 : wr.cell? ⟨b, off + j * 4, none⟩ = some (.string es[j].k) := hcell j hjl 0 _ rfl
          have q1 : wr.cell? ⟨b, off + j * 4 + 1, none⟩ = some (.int .u64 es[j].s) := hcell j hjl 1 _ rfl
          have hjI : (j : Int) < (es.length : Int) := by omega
          go_upto_region 15 with fail
          go_cut [82] from 53 to 81 (fun bv wx => bv = .bool false ∧ Below W5.heap.size W5 wx)
          case first =>
            have HMS := Lib.hid (show es[j].k = key → es[j].s ≤ (seq : Int) → ok = true ∧ es[j].s ≤ eo.s from fun h1 h2 => by
              obtain ⟨y, hy1, hy2⟩ := getR_most HORD.out HC.out hmem h1 h2
              have e1 := HO.out
              rw [hy1] at e1
              rw [HOK2.out, HEO.out, e1]
              exact ⟨rfl, hy2⟩)
            clear hmem hcell e0
            generalize es[j] = x at *
            by_cases c1 : x.k = key
            · have t1 : (x.k.toList == key.toList) = true := by rw [c1]; simp
              by_cases c2 : x.s ≤ (seq : Int)
              · obtain ⟨rfl, c3⟩ := HMS.out c1 c2
                have t2 : decide (x.s ≤ (seq : Int)) = true := decide_eq_true c2
                have t3 : decide (eo.s < x.s) = false := decide_eq_false (by omega)
                clear HMS c1 c2 c3
                go_quiet (fail)
                go_wp2
                go_meet
                exact ⟨rfl, belowN HBR.out _⟩
              · have t2 : decide (x.s ≤ (seq : Int)) = false := decide_eq_false c2
                clear HMS c1 c2
                go_quiet (fail)
                go_wp2
                go_meet
                exact ⟨rfl, belowN HBR.out _⟩
            · have t1 : (x.k.toList == key.toList) = false := by
                cases hq : (x.k.toList == key.toList) with
                | false => rfl
                | true => exact absurd (str_eq hq) c1
              clear HMS c1
              go_quiet (fail)
              go_wp2
              go_meet
              exact ⟨rfl, belowN HBR.out _⟩
          case rest =>
            obtain ⟨rfl, hbc⟩ := hcut
            have HBC := Lib.hid hbc
            clear hbc
            go_upto_region 17 with fail
            go_cut [126] from 83 to 125 (fun bv wx => bv = .bool false ∧ Below W5.heap.size W5 wx)
            case first =>
              clear hmem q0 q1 e0 e1 hxr
              by_cases hj0 : j = 0
              · have t0 : decide (0 < j) = false := by simp; omega
                clear hcell hj0
                go_quiet (fail)
                go_wp2
                go_meet
                exact ⟨rfl, belowN HBC.out _⟩
              · have t0 : decide (0 < j) = true := by simp; omega
                obtain ⟨k, hk⟩ : ∃ k, j = k + 1 := ⟨j - 1, by omega⟩
                have hkl : k < es.length := by omega
                have hrise : Op.bytesLess es[j].k.toList es[k].k.toList = false ∧ (es[j].k = es[k].k → es[j].s < es[k].s) := by
                  subst hk
                  have := ents_rise HORD.out k (by rw [HEE.out]; exact hjl)
                  simp only [HEE.out] at this
                  exact this
                have hce : ∀ i (h : i < es.length) t u, es[i].cells[t]? = some u → wc.cell? ⟨b, off + i * 4 + t, none⟩ = some u := fun i h t u hu => by
                  rcases (HEN.out.below HBC.out).2 with h0 | ⟨b', off', e, h1, h2⟩
                  · omega
                  · cases e
                    exact h2 i h t u hu
                have q0 : wc.cell? ⟨b, off + j * 4, none⟩ = some (.string es[j].k) := hce j hjl 0 _ rfl
                have q1 : wc.cell? ⟨b, off + j * 4 + 1, none⟩ = some (.int .u64 es[j].s) := hce j hjl 1 _ rfl
                have p0 : wc.cell? ⟨b, off + k * 4, none⟩ = some (.string es[k].k) := hce k hkl 0 _ rfl
                have p1 : wc.cell? ⟨b, off + k * 4 + 1, none⟩ = some (.int .u64 es[k].s) := hce k hkl 1 _ rfl
                have hij : (j : Int) - 1 = (k : Int) := by omega
                have hkI : (k : Int) < (es.length : Int) := by omega
                obtain ⟨r1, r2⟩ := hrise
                clear hk hj0 hce hcell
                generalize es[j] = x at *
                generalize es[k] = y at *
                cases hq : (x.k.toList == y.k.toList) with
                | false =>
                  clear r2
                  go_quiet (fail)
                  go_wp2
                  go_meet
                  exact ⟨rfl, belowN HBC.out _⟩
                | true =>
                  have t3 : decide (y.s ≤ x.s) = false := decide_eq_false (by have := r2 (str_eq hq); omega)
                  clear r2
                  go_quiet (fail)
                  go_wp2
                  go_meet
                  exact ⟨rfl, belowN HBC.out _⟩
            case rest =>
              obtain ⟨rfl, hbd⟩ := hcut
              have HBD := Lib.hid hbd
              clear hbd
              go_wp2
              go_roundw
              case rel => exact ⟨j + 1, by omega, by go_num, HBD.out⟩
              case measure => simp [intOf]; omega
        · obtain rfl : j = es.length := by omega
          have hlen := HS5.out.below HBR.out
          have HSR := Lib.hid hlen
          clear hlen
          have CL := Lib.hid (fun W (h : Below wr.heap.size wr W) => len_any (HSR.out.below h).lst)
          have hnl2 : ((ns.length : Nat) : Int) = (es.length : Int) := by rw [HEL.out]
          rw [hnl2] at CL
          have tl : ((es.length : Int) == (es.length : Int)) = true := by simp
          have HBF := Lib.hid (bt7 HB5.out HBR.out)
          cases ok with
          | false =>
            go_wp2_with (first
              | (go_at_call 9; (with_reducible refine (CA.out _).mono ?_); rintro e W6 ⟨rfl, hb6⟩)
              | (go_at_call 16; (with_reducible refine (CL.out _ hb6).mono ?_); rintro e W7 ⟨rfl, rfl⟩)
              | fail)
            go_ret
            exact ⟨rfl, bt7 HBF.out hb6⟩
          | true =>
            obtain ⟨y, hy⟩ : ∃ y, getR key Q = some y := by
              cases hg : getR key Q with
              | none =>
                have e1 := HO.out
                have e2 := HOK2.out
                rw [e1, hg] at e2
                cases e2
              | some y => exact ⟨y, rfl⟩
            obtain ⟨y1, y2, -⟩ := getR_right HC.out hy
            have hey : eo = y := by
              have e1 := HO.out
              have e2 := HEO.out
              rw [e1, hy] at e2
              exact e2
            subst hey
            have t1 : (eo.k.toList == key.toList) = true := by rw [y1]; simp
            have t2 : decide (eo.s ≤ (seq : Int)) = true := decide_eq_true y2
            clear hy y1 y2 e0 e1
            go_wp2_with (first
              | (go_at_call 9; (with_reducible refine (CA.out _).mono ?_); rintro e W6 ⟨rfl, hb6⟩; have hx6 := hxr.below hb6; have f0 := hx6.c0; have f1 := hx6.c1)
              | (go_at_call 16; (with_reducible refine (CL.out _ hb6).mono ?_); rintro e W7 ⟨rfl, rfl⟩)
              | fail)
            go_ret
            exact ⟨rfl, bt7 HBF.out hb6⟩
end Go.Proofs.Ythaalhigmihijab
