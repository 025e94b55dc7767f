/- The walk of FilePlays: the program's files and the document's, step by step, side by side. -/
import Derived.Test.YtfndlfnlepndmaaGreatDFK
import Derived.Test.YtfndlfnlepndmaaGreatFG
namespace Go.Proofs.YtfndlfnlepndmaaGreat
open Go.RowKit

theorem hs_crash0z {F : Nat → Prop} {B p n m : Nat} {s : St} {w : World} (h : Hs F B p n m s w) (hN : n ≤ 100000) (hM : m ≤ 1000000000) (dir : Int) :
    Calls Tryz.prog 12 #[.pointer (some ⟨p, 0, none⟩), .int .i64 dir, .slice none 0 0] w fun e w' => e = .returned (.tuple #[]) ∧ Hs F B p n m (s.crash dir []) w' ∧ Below B w w' ∧ Kp F w w' := by
  have hB := h.size
  obtain ⟨r, h1, rfl, h3, h4, h5, h6⟩ := h
  refine (crash_any h1 h4 hN hM h5 dir _ [] (keep_nil _ _)).mono ?_
  rintro e w' ⟨rfl, hn'⟩
  exact ⟨rfl, Hs.next hB h3 rfl hn' (crash_lim h4 _ _) (crash_coh _ _ _) h6⟩
theorem book_new4 (B : Nat) (w : World) (hB : B ≤ w.heap.size) : Own B (w.alloc (.cells #[.slice none 0 0, .slice none 0 0, .slice none 0 0, .slice none 0 0, .slice none 0 0, .slice none 0 0, .slice none 0 0, .slice none 0 0, .slice none 0 0, .slice none 0 0, .slice none 0 0, .slice none 0 0, .slice none 0 0, .slice none 0 0, .slice none 0 0, .slice none 0 0, .slice none 0 0, .slice none 0 0, .slice none 0 0, .slice none 0 0, .slice none 0 0, .slice none 0 0, .slice none 0 0, .slice none 0 0, .slice none 0 0, .slice none 0 0, .slice none 0 0, .slice none 0 0] 45)) [bookR w.heap.size (List.replicate 28 (.slice none 0 0))] := by
  have h0 : Own B w [] := Own.nil B w
  refine h0.new (r := bookR w.heap.size (List.replicate 28 (.slice none 0 0))) ((Below.refl _ _).alloc (Nat.le_refl _) _) ?_ hB
  refine ⟨⟨rfl, .inr ⟨w.heap.size, 0, #[.slice none 0 0, .slice none 0 0, .slice none 0 0, .slice none 0 0, .slice none 0 0, .slice none 0 0, .slice none 0 0, .slice none 0 0, .slice none 0 0, .slice none 0 0, .slice none 0 0, .slice none 0 0, .slice none 0 0, .slice none 0 0, .slice none 0 0, .slice none 0 0, .slice none 0 0, .slice none 0 0, .slice none 0 0, .slice none 0 0, .slice none 0 0, .slice none 0 0, .slice none 0 0, .slice none 0 0, .slice none 0 0, .slice none 0 0, .slice none 0 0, .slice none 0 0], rfl, ?_, Nat.le_refl _, by unfold maxLen; omega, rfl, rfl⟩⟩, fun k hk => by cases hk; exact Nat.le_refl _⟩
  simp [World.alloc, -World.alloc_eq, bookR]
set_option maxHeartbeats 16000000 in
set_option maxRecDepth 100000 in
theorem filePlays_walk (room : Int) (_ : -9223372036854775808 ≤ room) (hroom : room ≤ 9223372036854775807) (a : Option Addr) (len cap : Nat) (l : List Stp) (w : World) (hO : IsOs w a len l) :
    Calls Tryz.prog 3 #[.int .i64 room, .slice a len cap] w fun e w' => e = .returned (.bool true) ∧ Below w.heap.size w w' := by
  have hlm : len ≤ 9223372036854775807 := by have := hO.1; unfold maxLen at this; omega
  have HO := Lib.hid hO
  clear hO
  go_enter Tryz.func3, Tryz.ntmps3
  go_wp2_with (fail)
  go_at_call 4
  refine (light_any (Below.refl _ _) a len cap l HO.out).mono ?_
  rintro e W1 ⟨t1, rfl, ht1, b1⟩
  cases t1
  · go_wp2_with (go_at_call 5; refine (alive4_any _).mono ?_; rintro e WA ⟨rfl, bA⟩)
    go_ret
    exact ⟨rfl, b1.trans (bA.mono b1.size)⟩
  obtain ⟨h200, hsm⟩ := ht1 rfl
  have HSM := Lib.hid hsm
  have HB1 := Lib.hid b1
  clear ht1 hsm b1
  have CN := Lib.hid (hs_new room hroom W1)
  have CR := Lib.hid (fun W => rnew_any room W)
  go_wp2_with (first | (go_at_call 6; (with_reducible refine CN.out.mono ?_); rintro e W2 ⟨p0, rfl, hs2, b2⟩) | (go_at_call 7; (with_reducible refine (CR.out _).mono ?_); rintro e W3 ⟨rfl, hr3, b3, hz3⟩) | fail)
  obtain ⟨x0, hx0, hf0⟩ := hr3
  have hq2 := b2.size
  have two3 : Two (fun _ => False) W1.heap.size p0 W2.heap.size 0 0 (St.new room) (St.new room) W3 := by
    refine ⟨⟨x0, hs2.below b3 fun k hk => ?_, hx0, fun k hk => hk.elim⟩, Pair2.start room hroom, b2.size, fun k hk => hk.elim⟩
    rcases hk with hk | rfl | hk
    · exact hk.elim
    · exact .inr ⟨Nat.le_refl _, hz3⟩
    · rw [hf0] at hk
      cases hk
  have hsz3 : W1.heap.size ≤ W3.heap.size := Nat.le_trans b2.size b3.size
  have own4 := book_new4 W1.heap.size W3 hsz3
  obtain ⟨W4, hW4⟩ : ∃ W4, W3.alloc (.cells #[.slice none 0 0, .slice none 0 0, .slice none 0 0, .slice none 0 0, .slice none 0 0, .slice none 0 0, .slice none 0 0, .slice none 0 0, .slice none 0 0, .slice none 0 0, .slice none 0 0, .slice none 0 0, .slice none 0 0, .slice none 0 0, .slice none 0 0, .slice none 0 0, .slice none 0 0, .slice none 0 0, .slice none 0 0, .slice none 0 0, .slice none 0 0, .slice none 0 0, .slice none 0 0, .slice none 0 0, .slice none 0 0, .slice none 0 0, .slice none 0 0, .slice none 0 0] 45) = W4 := ⟨_, rfl⟩
  have hb34 : Below W3.heap.size W3 W4 := by rw [← hW4]; exact (Below.refl _ _).alloc (Nat.le_refl _) _
  have hz34 : W3.heap.size < W4.heap.size := by rw [← hW4]; simp
  rw [hW4] at own4
  rw [hW4]
  obtain ⟨L0, hbk4, hL0⟩ := Book4.start own4
  have st4 : St4 W1.heap.size W3.heap.size p0 W2.heap.size 0 0 (St.new room) (St.new room) L0 W4 := ⟨hbk4, two3.below hb34 fun k hk => .inr (by rw [hL0 k hk]; exact ⟨Nat.le_refl _, hz34⟩)⟩
  have hb14 : Below W1.heap.size W1 W4 := (b2.trans (b3.mono b2.size)).trans (hb34.mono hsz3)
  have HST4 := Lib.hid st4
  have HB14 := Lib.hid hb14
  clear x0 hx0 hf0 two3 own4 hW4 hb34 hz34 hL0 hbk4 st4 hb14 hs2 b2 b3 hz3
  go_loopw [5, 8] (fun fv iv wr => ∃ (p i : Nat) (s r : St) (L : List Rw), fv = .pointer (some ⟨p, 0, none⟩) ∧ iv = .int .i64 (i : Int) ∧ i ≤ len ∧ St4 W1.heap.size W3.heap.size p W2.heap.size (2 * i) (9000 * i) s r L wr ∧ Below W1.heap.size W1 wr) (fun _ iv _ => len - (intOf iv).toNat)
  case atStart => exact ⟨p0, 0, _, _, L0, rfl, rfl, Nat.zero_le _, HST4.out, HB14.out⟩
  case round =>
    obtain ⟨p, i, s, r, L, rfl, rfl, hi, hst, hbr⟩ := hrel
    by_cases hlt : i < len
    · have hiI : (i : Int) < (len : Int) := by omega
      have hil : i < l.length := by rw [HO.out.2.1]; exact hlt
      obtain ⟨b0, off, rfl, hb0, hcell⟩ : ∃ b0 off, a = some ⟨b0, off, none⟩ ∧ b0 < w.heap.size ∧ ∀ j u, l[i].cells[j]? = some u → wr.cell? ⟨b0, off + i * 6 + j, none⟩ = some u := by
        rcases HO.out.2.2.2 with h0 | ⟨b0, off, e, hc⟩
        · rw [h0] at hil
          cases hil
        · have hlt0 : b0 < w.heap.size := World.block_lt_of_cell? _ _ (hc i hil 0 _ rfl)
          exact ⟨b0, off, e, hlt0, fun j u hu => (((HB1.out.trans (hbr.mono HB1.out.size)).cell (p := ⟨b0, off + i * 6 + j, none⟩) hlt0).trans (hc i hil j u hu))⟩
      obtain ⟨-, hfn, hda, hdb, hdd, hlc1, hlc2, hii, hnn⟩ := HO.out.2.2.1 _ (List.getElem_mem hil)
      have hsx := HSM.out _ (List.getElem_mem hil)
      have z0 := hcell 0 _ rfl
      have z1 := hcell 1 _ rfl
      have z2 := hcell 2 _ rfl
      have z3 := hcell 3 _ rfl
      have z4 := hcell 4 _ rfl
      have z5 := hcell 5 _ rfl
      rw [Nat.add_zero] at z0
      clear hcell
      generalize l[i] = x at *
      obtain ⟨K, N, A, Bn, D, la, ll, lc, lz⟩ := x
      simp only at z0 z1 z2 z3 z4 z5 hfn hda hdb hdd hlc1 hlc2 hii hnn
      have hsA : A.size ≤ 9000 := hsx.1
      have hsD : D.size ≤ 9000 := hsx.2.2.1
      have HFN := Lib.hid hfn
      have HSX := Lib.hid hsx
      have HII := Lib.hid hii
      have HNN := Lib.hid hnn
      obtain ⟨wa, hwa⟩ : ∃ wa, wr.alloc (.cells #[.int .i64 K, .int .i64 N, .string A, .string Bn, .string D, .slice la ll lc] 48) = wa := ⟨_, rfl⟩
      have hba : Below wr.heap.size wr wa := by rw [← hwa]; exact (Below.refl _ _).alloc (Nat.le_refl _) _
      have hblk : wa.heap[wr.heap.size]? = some (.cells #[.int .i64 K, .int .i64 N, .string A, .string Bn, .string D, .slice la ll lc] 48) := by rw [← hwa]; exact blockZ _ _ rfl
      have hxs : wr.heap.size < wa.heap.size := by rw [← hwa]; simp
      have y0 : wa.cell? ⟨wr.heap.size, 0, none⟩ = some (.int .i64 K) := by simp [World.cell?, hblk]
      have y1 : wa.cell? ⟨wr.heap.size, 1, none⟩ = some (.int .i64 N) := by simp [World.cell?, hblk]
      have y2 : wa.cell? ⟨wr.heap.size, 2, none⟩ = some (.string A) := by simp [World.cell?, hblk]
      have y3 : wa.cell? ⟨wr.heap.size, 3, none⟩ = some (.string Bn) := by simp [World.cell?, hblk]
      have y4 : wa.cell? ⟨wr.heap.size, 4, none⟩ = some (.string D) := by simp [World.cell?, hblk]
      have y5 : wa.cell? ⟨wr.heap.size, 5, none⟩ = some (.slice la ll lc) := by simp [World.cell?, hblk]
      have HT2 := Lib.hid (hst.two.below (G := fun k => FL L k ∨ k = wr.heap.size) hba fun k hk => hk.elim .inl fun e => .inr ⟨by omega, by omega⟩)
      have HBK := Lib.hid (hst.below hba).book
      have HBD := Lib.hid (hbr.trans (hba.mono hst.two.size))
      have HXB := Lib.hid (show W1.heap.size ≤ wr.heap.size from hst.two.size)
      have HNB := Lib.hid (show ¬ FL L wr.heap.size from fun hk => by have := hst.two.lt _ hk; omega)
      clear hst hbr hba hblk hsx hii hnn hfn hda hdb hdd hlc1 hlc2
      by_cases h11 : K = 11
      · subst h11
        have CT := Lib.hid (HT2.out.twin (by omega) (by omega))
        go_wp2_with (first | (go_at_call 8; (with_reducible refine CT.out.mono ?_); rintro e wt ⟨p', s', FA, rfl, hbt, htw, hold, hfa, hnew⟩; have t1 := (hbt.cell (p := ⟨wr.heap.size, 1, none⟩) hxs).trans y1) | fail)
        · go_wp2_with (first | (go_at_call 9; (refine (hs_create hold (by omega) _ (by unfold maxLen; decide)).mono ?_); rintro e w5 ⟨rfl, hs5, hb5, hk5⟩) | (go_at_call 10; (refine (hs_append hs5 (by omega) _ (by unfold maxLen; decide) _ (by omega) (by decide)).mono ?_); rintro e w6 ⟨rfl, hs6, hb6, hk6⟩) | (go_at_call 11; (refine (hs_remove4 hs6 (by omega) _ (by unfold maxLen; decide)).mono ?_); rintro e w7 ⟨rfl, hs7, hb7, hk7⟩; have u0 := (World.cell?_of_block (((hk5.trans hk6).trans hk7) wr.heap.size (hfa _ (.inr rfl)))).trans ((hbt.cell (p := ⟨wr.heap.size, 0, none⟩) hxs).trans y0); have u1 := (World.cell?_of_block (((hk5.trans hk6).trans hk7) wr.heap.size (hfa _ (.inr rfl)))).trans ((hbt.cell (p := ⟨wr.heap.size, 1, none⟩) hxs).trans y1); have u2 := (World.cell?_of_block (((hk5.trans hk6).trans hk7) wr.heap.size (hfa _ (.inr rfl)))).trans ((hbt.cell (p := ⟨wr.heap.size, 2, none⟩) hxs).trans y2); have u3 := (World.cell?_of_block (((hk5.trans hk6).trans hk7) wr.heap.size (hfa _ (.inr rfl)))).trans ((hbt.cell (p := ⟨wr.heap.size, 3, none⟩) hxs).trans y3); have u4 := (World.cell?_of_block (((hk5.trans hk6).trans hk7) wr.heap.size (hfa _ (.inr rfl)))).trans ((hbt.cell (p := ⟨wr.heap.size, 4, none⟩) hxs).trans y4); have u5 := (World.cell?_of_block (((hk5.trans hk6).trans hk7) wr.heap.size (hfa _ (.inr rfl)))).trans ((hbt.cell (p := ⟨wr.heap.size, 5, none⟩) hxs).trans y5)) | fail)
          have hk57 := (hk5.trans hk6).trans hk7
          have htwo := hnew w7 hk57 (by have h1 := hb5.size; have h2 := hb6.size; have h3 := hb7.size; omega)
          have hbook := HBK.out.keep (w' := w7) fun k hk => (hk57 k (hfa k (.inl hk))).trans (hbt.block k (HT2.out.lt k (.inl hk)))
          have hbd7 := HBD.out.trans ((hbt.mono HT2.out.size).trans ((hb5.trans hb6).trans hb7))
          clear HT2 HBK HBD y0 y1 y2 y3 y4 y5 t1
          have HT2 := Lib.hid htwo
          have HBK := Lib.hid hbook
          have HBD := Lib.hid hbd7
          have y2 := u2
          clear hk57 htwo hbook hbd7 hold hnew hfa htw hs5 hs6 hs7 hb5 hb6 hb7 hk5 hk6 hk7 hbt u2
          have CD := Lib.hid (do_all HT2.out (by omega) (by omega) ⟨11, N, A, Bn, D, la, ll, lc, lz⟩ HFN.out HSX.out HII.out HNN.out HB1.out.size (HB1.out.trans (HBD.out.mono HB1.out.size)))
          go_wp2_with (first | (go_at_call 13; (with_reducible refine CD.out.mono ?_); rintro e we ⟨rfl, s2, r2, ht2, hk2, hb2⟩) | fail)
          have hst2 : St4 W1.heap.size W3.heap.size p' W2.heap.size (2 * i + 2) (9000 * i + D.size) s2 r2 L we := ⟨HBK.out.keep (hk2.mono fun k hk => .inl hk), ht2.fewer fun k hk => .inl hk⟩
          have v2 := (World.cell?_of_block (hk2 wr.heap.size (.inr rfl))).trans y2
          have hbe := HBD.out.trans (hb2.mono (Nat.le_refl _))
          have hxe : wr.heap.size < we.heap.size := World.block_lt_of_cell? _ _ v2
          have hB2 := hst2.two.size
          have HSTE := Lib.hid hst2
          have HBE := Lib.hid hbe
          obtain ⟨xe, he1, he2, -⟩ := hst2.two.lay
          have hnm : s2.names.length ≤ 100000 := by
            obtain ⟨rr, g1, -, -, g4, -⟩ := he1.has
            have := g4.nowl
            unfold St.names
            split
            · rw [List.length_map]
              omega
            · simp
          have CNM := Lib.hid (hs_names4 he1 (by omega))
          clear ht2 hk2 hb2 hst2 hbe he1 he2
          go_wp2_with (first | (go_at_call 15; (with_reducible refine CNM.out.mono ?_); rintro e wf ⟨vn, rfl, hrn, hfn, hbf⟩) | fail)
          have CTX := Lib.hid (HSTE.out.texts hbf hB2 hnm hrn hfn (bx := wr.heap.size) HXB.out hxe HNB.out)
          have v2f := (hbf.cell (p := ⟨wr.heap.size, 2, none⟩) hxe).trans v2
          have hbF := HBE.out.trans (hbf.mono hB2)
          have HBF := Lib.hid hbF
          clear hrn hfn hbf hbF
          go_wp2_with (first | (go_at_call 14; (with_reducible refine CTX.out.mono ?_); rintro e wg ⟨rfl, hbg, hxg, L', hst3⟩; have v2g := (World.cell?_of_block hxg).trans v2f) | fail)
          obtain ⟨xg, hg1, hg2, -⟩ := hst3.two.lay
          obtain ⟨fg, hfg⟩ := hst3.two.pair.up
          have hdg := hst3.two.doc
          have CRA := Lib.hid (hs_read hg1 A (by unfold maxLen; omega))
          have CRB := Lib.hid (rread_any hg2 hdg (by omega) A)
          rw [hfg.read] at CRB
          have CSM := Lib.hid (fun W (hb : Below wg.heap.size wg W) => same4_any (hst3.two.same hb) (by omega) (by omega))
          have HST3 := Lib.hid hst3
          have HBG := Lib.hid (HBF.out.trans (hbg.mono (Nat.le_refl _)))
          clear hg1 hg2 hfg hdg hst3 hbg hxg
          generalize s2.read A.data.toList = RR at *
          obtain ⟨R1, R2⟩ := RR
          unfold readV at CRA CRB
          go_wp2_with (first | (go_at_call 16; (with_reducible refine CRA.out.mono ?_); rintro e wh ⟨rfl, rfl⟩) | (go_at_call 17; (with_reducible refine CRB.out.mono ?_); rintro e wi ⟨rfl, hbi⟩; have CSN := Lib.hid (CSM.out _ hbi)) | (go_at_call 18; (with_reducible refine CSN.out.mono ?_); rintro e wj ⟨rfl, hbj⟩) | fail)
          have hbij := hbi.trans (hbj.mono hbi.size)
          go_roundw
          case rel =>
            have hst4 := HST3.out.below hbij
            exact ⟨p', i + 1, s2, r2, L', rfl, by go_num, by omega, ⟨hst4.book, hst4.two.up (Nat.le_refl _) (by omega)⟩, HBG.out.trans (hbij.mono HST3.out.two.size)⟩
          case measure => simp [intOf]; omega
        · go_wp2_with (first | (go_at_call 10; (refine (hs_append htw (by omega) _ (by unfold maxLen; decide) _ (by omega) (by decide)).mono ?_); rintro e w5 ⟨rfl, hs5, hb5, hk5⟩) | (go_at_call 11; (refine (hs_remove4 hs5 (by omega) _ (by unfold maxLen; decide)).mono ?_); rintro e w6 ⟨rfl, hs6, hb6, hk6⟩) | (go_at_call 12; (refine (hs_crash0z hs6 (by omega) (by have h1 : (⟨#[122]⟩ : ByteArray).size = 1 := rfl; omega) _).mono ?_); rintro e w7 ⟨rfl, hs7, hb7, hk7⟩; have u0 := ((hbt.trans ((hb5.trans hb6).trans hb7)).cell (p := ⟨wr.heap.size, 0, none⟩) hxs).trans y0; have u1 := ((hbt.trans ((hb5.trans hb6).trans hb7)).cell (p := ⟨wr.heap.size, 1, none⟩) hxs).trans y1; have u2 := ((hbt.trans ((hb5.trans hb6).trans hb7)).cell (p := ⟨wr.heap.size, 2, none⟩) hxs).trans y2; have u3 := ((hbt.trans ((hb5.trans hb6).trans hb7)).cell (p := ⟨wr.heap.size, 3, none⟩) hxs).trans y3; have u4 := ((hbt.trans ((hb5.trans hb6).trans hb7)).cell (p := ⟨wr.heap.size, 4, none⟩) hxs).trans y4; have u5 := ((hbt.trans ((hb5.trans hb6).trans hb7)).cell (p := ⟨wr.heap.size, 5, none⟩) hxs).trans y5) | fail)
          have hb57 := hbt.trans ((hb5.trans hb6).trans hb7)
          have htwo := HT2.out.same hb57
          have hbook := HBK.out.keep (w' := w7) fun k hk => hb57.block k (HT2.out.lt k (.inl hk))
          have hbd7 := HBD.out.trans (hb57.mono HT2.out.size)
          clear HT2 HBK HBD y0 y1 y2 y3 y4 y5 t1
          have HT2 := Lib.hid htwo
          have HBK := Lib.hid hbook
          have HBD := Lib.hid hbd7
          have y2 := u2
          clear hb57 htwo hbook hbd7 hold hnew hfa htw hs5 hs6 hs7 hb5 hb6 hb7 hk5 hk6 hk7 hbt u2
          have CD := Lib.hid (do_all HT2.out (by omega) (by omega) ⟨11, N, A, Bn, D, la, ll, lc, lz⟩ HFN.out HSX.out HII.out HNN.out HB1.out.size (HB1.out.trans (HBD.out.mono HB1.out.size)))
          go_wp2_with (first | (go_at_call 13; (with_reducible refine CD.out.mono ?_); rintro e we ⟨rfl, s2, r2, ht2, hk2, hb2⟩) | fail)
          have hst2 : St4 W1.heap.size W3.heap.size p W2.heap.size (2 * i + 2) (9000 * i + D.size) s2 r2 L we := ⟨HBK.out.keep (hk2.mono fun k hk => .inl hk), ht2.fewer fun k hk => .inl hk⟩
          have v2 := (World.cell?_of_block (hk2 wr.heap.size (.inr rfl))).trans y2
          have hbe := HBD.out.trans (hb2.mono (Nat.le_refl _))
          have hxe : wr.heap.size < we.heap.size := World.block_lt_of_cell? _ _ v2
          have hB2 := hst2.two.size
          have HSTE := Lib.hid hst2
          have HBE := Lib.hid hbe
          obtain ⟨xe, he1, he2, -⟩ := hst2.two.lay
          have hnm : s2.names.length ≤ 100000 := by
            obtain ⟨rr, g1, -, -, g4, -⟩ := he1.has
            have := g4.nowl
            unfold St.names
            split
            · rw [List.length_map]
              omega
            · simp
          have CNM := Lib.hid (hs_names4 he1 (by omega))
          clear ht2 hk2 hb2 hst2 hbe he1 he2
          go_wp2_with (first | (go_at_call 15; (with_reducible refine CNM.out.mono ?_); rintro e wf ⟨vn, rfl, hrn, hfn, hbf⟩) | fail)
          have CTX := Lib.hid (HSTE.out.texts hbf hB2 hnm hrn hfn (bx := wr.heap.size) HXB.out hxe HNB.out)
          have v2f := (hbf.cell (p := ⟨wr.heap.size, 2, none⟩) hxe).trans v2
          have hbF := HBE.out.trans (hbf.mono hB2)
          have HBF := Lib.hid hbF
          clear hrn hfn hbf hbF
          go_wp2_with (first | (go_at_call 14; (with_reducible refine CTX.out.mono ?_); rintro e wg ⟨rfl, hbg, hxg, L', hst3⟩; have v2g := (World.cell?_of_block hxg).trans v2f) | fail)
          obtain ⟨xg, hg1, hg2, -⟩ := hst3.two.lay
          obtain ⟨fg, hfg⟩ := hst3.two.pair.up
          have hdg := hst3.two.doc
          have CRA := Lib.hid (hs_read hg1 A (by unfold maxLen; omega))
          have CRB := Lib.hid (rread_any hg2 hdg (by omega) A)
          rw [hfg.read] at CRB
          have CSM := Lib.hid (fun W (hb : Below wg.heap.size wg W) => same4_any (hst3.two.same hb) (by omega) (by omega))
          have HST3 := Lib.hid hst3
          have HBG := Lib.hid (HBF.out.trans (hbg.mono (Nat.le_refl _)))
          clear hg1 hg2 hfg hdg hst3 hbg hxg
          generalize s2.read A.data.toList = RR at *
          obtain ⟨R1, R2⟩ := RR
          unfold readV at CRA CRB
          go_wp2_with (first | (go_at_call 16; (with_reducible refine CRA.out.mono ?_); rintro e wh ⟨rfl, rfl⟩) | (go_at_call 17; (with_reducible refine CRB.out.mono ?_); rintro e wi ⟨rfl, hbi⟩; have CSN := Lib.hid (CSM.out _ hbi)) | (go_at_call 18; (with_reducible refine CSN.out.mono ?_); rintro e wj ⟨rfl, hbj⟩) | fail)
          have hbij := hbi.trans (hbj.mono hbi.size)
          go_roundw
          case rel =>
            have hst4 := HST3.out.below hbij
            exact ⟨p, i + 1, s2, r2, L', rfl, by go_num, by omega, ⟨hst4.book, hst4.two.up (Nat.le_refl _) (by omega)⟩, HBG.out.trans (hbij.mono HST3.out.two.size)⟩
          case measure => simp [intOf]; omega
      · have d11 : (K == 11) = false := by simp; exact h11
        clear h11
        have CD := Lib.hid (do_all HT2.out (by omega) (by omega) ⟨K, N, A, Bn, D, la, ll, lc, lz⟩ HFN.out HSX.out HII.out HNN.out HB1.out.size (HB1.out.trans (HBD.out.mono HB1.out.size)))
        go_wp2_with (first | (go_at_call 13; (with_reducible refine CD.out.mono ?_); rintro e we ⟨rfl, s2, r2, ht2, hk2, hb2⟩) | fail)
        have hst2 : St4 W1.heap.size W3.heap.size p W2.heap.size (2 * i + 2) (9000 * i + D.size) s2 r2 L we := ⟨HBK.out.keep (hk2.mono fun k hk => .inl hk), ht2.fewer fun k hk => .inl hk⟩
        have v2 := (World.cell?_of_block (hk2 wr.heap.size (.inr rfl))).trans y2
        have hbe := HBD.out.trans (hb2.mono (Nat.le_refl _))
        have hxe : wr.heap.size < we.heap.size := World.block_lt_of_cell? _ _ v2
        have hB2 := hst2.two.size
        have HSTE := Lib.hid hst2
        have HBE := Lib.hid hbe
        obtain ⟨xe, he1, he2, -⟩ := hst2.two.lay
        have hnm : s2.names.length ≤ 100000 := by
          obtain ⟨rr, g1, -, -, g4, -⟩ := he1.has
          have := g4.nowl
          unfold St.names
          split
          · rw [List.length_map]
            omega
          · simp
        have CNM := Lib.hid (hs_names4 he1 (by omega))
        clear ht2 hk2 hb2 hst2 hbe he1 he2
        go_wp2_with (first | (go_at_call 15; (with_reducible refine CNM.out.mono ?_); rintro e wf ⟨vn, rfl, hrn, hfn, hbf⟩) | fail)
        have CTX := Lib.hid (HSTE.out.texts hbf hB2 hnm hrn hfn (bx := wr.heap.size) HXB.out hxe HNB.out)
        have v2f := (hbf.cell (p := ⟨wr.heap.size, 2, none⟩) hxe).trans v2
        have hbF := HBE.out.trans (hbf.mono hB2)
        have HBF := Lib.hid hbF
        clear hrn hfn hbf hbF
        go_wp2_with (first | (go_at_call 14; (with_reducible refine CTX.out.mono ?_); rintro e wg ⟨rfl, hbg, hxg, L', hst3⟩; have v2g := (World.cell?_of_block hxg).trans v2f) | fail)
        obtain ⟨xg, hg1, hg2, -⟩ := hst3.two.lay
        obtain ⟨fg, hfg⟩ := hst3.two.pair.up
        have hdg := hst3.two.doc
        have CRA := Lib.hid (hs_read hg1 A (by unfold maxLen; omega))
        have CRB := Lib.hid (rread_any hg2 hdg (by omega) A)
        rw [hfg.read] at CRB
        have CSM := Lib.hid (fun W (hb : Below wg.heap.size wg W) => same4_any (hst3.two.same hb) (by omega) (by omega))
        have HST3 := Lib.hid hst3
        have HBG := Lib.hid (HBF.out.trans (hbg.mono (Nat.le_refl _)))
        clear hg1 hg2 hfg hdg hst3 hbg hxg
        generalize s2.read A.data.toList = RR at *
        obtain ⟨R1, R2⟩ := RR
        unfold readV at CRA CRB
        go_wp2_with (first | (go_at_call 16; (with_reducible refine CRA.out.mono ?_); rintro e wh ⟨rfl, rfl⟩) | (go_at_call 17; (with_reducible refine CRB.out.mono ?_); rintro e wi ⟨rfl, hbi⟩; have CSN := Lib.hid (CSM.out _ hbi)) | (go_at_call 18; (with_reducible refine CSN.out.mono ?_); rintro e wj ⟨rfl, hbj⟩) | fail)
        have hbij := hbi.trans (hbj.mono hbi.size)
        go_roundw
        case rel =>
          have hst4 := HST3.out.below hbij
          exact ⟨p, i + 1, s2, r2, L', rfl, by go_num, by omega, ⟨hst4.book, hst4.two.up (Nat.le_refl _) (by omega)⟩, HBG.out.trans (hbij.mono HST3.out.two.size)⟩
        case measure => simp [intOf]; omega
    · have dk : decide ((i : Int) < (len : Int)) = false := decide_eq_false (by omega)
      have HSTX := Lib.hid hst
      have HBX := Lib.hid (HB1.out.trans (hbr.mono HB1.out.size))
      clear hst hbr
      go_wp2_with (first | (go_at_call 5; refine (alive4_any _).mono ?_; rintro e WA ⟨rfl, bA⟩; have hstA := HSTX.out.below bA) | (go_at_call 19; refine (hstA.book.apart hstA.two.size).mono ?_; rintro e WB ⟨rfl, bB⟩) | fail)
      go_ret
      exact ⟨rfl, (HBX.out.trans (bA.mono HBX.out.size)).trans (bB.mono HB1.out.size)⟩
end Go.Proofs.YtfndlfnlepndmaaGreat
