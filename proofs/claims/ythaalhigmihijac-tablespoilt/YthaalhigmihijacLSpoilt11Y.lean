/- Joined: TX LSpoilt11W TH LSpoilt11X. -/
import Derived.Test.YthaalhigmihijacVGT
import Derived.Test.YthaalhigmihijacTK
import Derived.Test.YthaalhigmihijacLOpens11W
import Derived.Lib.ConvBytes
import Derived.Test.YthaalhigmihijacZC
import Derived.Test.YthaalhigmihijacUD
import Derived.Test.YthaalhigmihijacLAlive11
namespace Go.Proofs.Ythaalhigmihijac
open Go.RowKit Go.ChangeShapes Go.WideShapes Go.ChangeAt

theorem taddr_plain (b o j : Nat) : (⟨b, o, none⟩ : Addr).add j = ⟨b, o + j, none⟩ := by unfold Addr.add; split <;> simp_all
theorem tbytes_of (s : ByteArray) (w : World) : ∃ (C : Nat) (w1 : World), (convert 9 31 (.string s)).run Try.prog w = .ok (.slice (some ⟨w.heap.size, 0, none⟩) s.size C) w1 ∧ Below w.heap.size w w1 ∧ s.size ≤ C ∧
    (∀ i, i < s.size → w1.cell? ⟨w.heap.size, i, none⟩ = some (.int .u8 (s.data.toList.getD i 0).toNat)) ∧ (∀ i, i < s.size → w1.frozen? ⟨w.heap.size, i, none⟩ = false) ∧ w.heap.size < w1.heap.size := by
  have hz : s.size ≤ (Lib.bytesCells w 5 s).size := by
    unfold Lib.bytesCells
    rw [Array.size_append, Array.size_map]
    exact Nat.le_add_right _ _
  refine ⟨_, _, Lib.run_convert_string_bytes w _ _ _ s Try.underlying9 Try.underlying31 Try.underlying5, ?_, ?_, ?_, ?_, ?_⟩
  · refine ⟨rfl, rfl, rfl, ?_, fun k hk => Lib.bytesWorld_at_old w _ s k hk⟩
    rw [Lib.bytesWorld_size]; omega
  · exact grownCap_ge _ _ _ _
  · intro i hi
    exact Lib.bytesWorld_cell w _ s i hi
  · intro i hi
    simp only [World.frozen?, Lib.bytesWorld_at_new]
    simp
    omega
  · rw [Lib.bytesWorld_size]; omega
theorem txor_byte (x : UInt8) (b : Int) : ∃ c : UInt8, bits .xor .u8 (x.toNat : Int) (b % 256) = (c.toNat : Int) ∧ (b % 256 ≠ 0 → c ≠ x) := by
  have hx := x.toNat_lt
  obtain ⟨m, hm⟩ : ∃ m : Nat, b % 256 = (m : Int) := ⟨(b % 256).toNat, by omega⟩
  have hl : x.toNat ^^^ m < 256 := Nat.xor_lt_two_pow (n := 8) (by omega) (by omega)
  refine ⟨UInt8.ofNat (x.toNat ^^^ m), ?_, ?_⟩
  · rw [hm, u8_xor_nat _ _ (by omega) (by omega), UInt8.toNat_ofNat', Nat.mod_eq_of_lt (by omega)]
  · intro h0 e
    have h1 := congrArg UInt8.toNat e
    rw [UInt8.toNat_ofNat', Nat.mod_eq_of_lt (by omega)] at h1
    have h2 : m = 0 := by
      have := congrArg (x.toNat ^^^ ·) h1
      simpa [← Nat.xor_assoc] using this
    omega
theorem taddr0 (b j : Nat) : (⟨b, 0, none⟩ : Addr).add j = ⟨b, j, none⟩ := by
  rw [taddr_plain, Nat.zero_add]
theorem tback_of (w : World) (b C n : Nat) (l : List UInt8) (hn : n = l.length) (h : ∀ i (hi : i < l.length), w.cell? ⟨b, i, none⟩ = some (.int .u8 (l[i].toNat : Int))) :
    (convert 31 9 (.slice (some ⟨b, 0, none⟩) n C)).run Try.prog w = .ok (.string ⟨l.toArray⟩) w := by
  subst hn
  exact run_convert_bytes_back (P := Try.prog) w 31 9 5 ⟨b, 0, none⟩ C l Try.underlying31 Try.underlying5 Try.underlying9 (fun j hj => by rw [taddr0]; exact h j hj)
theorem rowS_below {w w' : World} {a : Option Addr} {len : Nat} {ss : List ByteArray} (h : IsRowS w a len ss) (hb : Below w.heap.size w w') : IsRowS w' a len ss := by
  obtain ⟨h1, h2, h3⟩ := h
  refine ⟨h1, h2, h3.imp id ?_⟩
  rintro ⟨b, off, rfl, hl, hc⟩
  exact ⟨b, off, rfl, Nat.lt_of_lt_of_le hl hb.size, fun i hi => (hb.cell (by exact hl)).trans (hc i hi)⟩
theorem rowS_cell {w : World} {a : Option Addr} {len : Nat} {ss : List ByteArray} (h : IsRowS w a len ss) (h0 : 0 < len) : ∃ b off, a = some ⟨b, off, none⟩ ∧ b < w.heap.size ∧ ∀ i (h : i < ss.length), w.cell? ⟨b, off + i, none⟩ = some (.string ss[i]) := by
  rcases h.2.2 with h3 | h3
  · omega
  · exact h3
end Go.Proofs.Ythaalhigmihijac

namespace Go.Proofs.Ythaalhigmihijac
open Go.RowKit

/-- What is asked of Open, Get and Range of a table's bytes of which one was changed: Sp B w p es m: a reader at block p, all of whose blocks lie from B on; m more Gets may be asked. -/
structure SpoC (Sp : Nat → World → Nat → List Ent → Nat → Prop) : Prop where
  lo : ∀ {B : Nat} {w : World} {p : Nat} {es : List Ent} {m : Nat}, Sp B w p es m → B ≤ w.heap.size
  kept : ∀ {B : Nat} {w w' : World} {p : Nat} {es : List Ent} {m : Nat}, Sp B w p es m → Below w.heap.size w w' → Sp B w' p es m
  less : ∀ {B : Nat} {w : World} {p : Nat} {es : List Ent} {m m' : Nat}, Sp B w p es m → m' ≤ m → Sp B w p es m'
  opens : ∀ (es : List Ent) (j : Nat) (c : UInt8) (hj : j < (tabB es).length) (M : ByteArray) (w : World), FineT es → c ≠ (tabB es)[j] → M.data.toList = (tabB es).set j c →
    Calls Try.prog 10 #[.string M] w fun e w' => ((∃ er : Int, er ≠ 0 ∧ e = .returned (.tuple #[.pointer none, .int .i64 er])) ∨ ∃ p, e = .returned (.tuple #[.pointer (some ⟨p, 0, none⟩), .int .i64 0]) ∧ Sp w.heap.size w' p es 100) ∧ Below w.heap.size w w'
  get : ∀ {B : Nat} {w : World} {p : Nat} {es : List Ent} {m : Nat} (key : ByteArray) (seq : Nat), Sp B w p es (m + 1) → B ≤ w.heap.size → key.size ≤ 3000 → seq < 18446744073709551616 →
    Calls Try.prog 11 #[.pointer (some ⟨p, 0, none⟩), .string key, .int .u64 (seq : Int)] w fun e w' => (e = .returned (foundV (findT es key seq)) ∨ ∃ er : Int, er ≠ 0 ∧ e = .returned (.tuple #[.agg #[.string ⟨#[]⟩, .int .u64 0, .int .i64 0, .string ⟨#[]⟩], .bool false, .int .i64 er])) ∧ Sp B w' p es m ∧ Below B w w'
  range : ∀ {B : Nat} {w : World} {p : Nat} {es : List Ent} {m : Nat}, Sp B w p es m → B ≤ w.heap.size →
    Calls Try.prog 13 #[.pointer (some ⟨p, 0, none⟩), .string ⟨#[]⟩, .string ⟨#[]⟩] w fun e w' => ∃ v, e = .returned (.tuple #[v, .int .i64 6]) ∧ Below B w w'
theorem tabB_28 {es : List Ent} : 28 ≤ (tabB es).length := by
  unfold tabB footT sealF
  simp only [List.length_append, be_length]
  omega
set_option maxHeartbeats 8000000 in
set_option maxRecDepth 100000 in
theorem tableSpoilt_hard {Tbl : World → Nat → List Nat → List Ent → Nat → Prop} (T : TabC Tbl) {Sp : Nat → World → Nat → List Ent → Nat → Prop} (O : SpoC Sp) {w : World} (CA : ∀ W : World, Calls Try.prog 8 #[] W fun e w' => e = .returned (.bool true) ∧ Below W.heap.size W w') (a : Option Addr) (len cap : Nat) (es : List Ent) (at_ by_ : Int) (ak : Option Addr) (lk ck : Nat) (ks : List ByteArray) (seq : Nat) (hseq : seq < 18446744073709551616) (hI : IsEs w a len es) (hcap : len ≤ cap) (hK : IsRowS w ak lk ks) :
    Calls Try.prog 3 #[.slice a len cap, .int .i64 at_, .int .i64 by_, .slice ak lk ck, .int .u64 (seq : Int)] w fun e w' => e = .returned (.bool true) ∧ Below w.heap.size w w' := by
  obtain ⟨hlm, hok, hE⟩ := hI
  have HCA := Lib.hid CA
  have CS := Lib.hid (smallS_any a len cap es hE (by unfold maxLen at hlm; omega) hok)
  have hll : es.length = len := hE.1
  subst hll
  have HE := Lib.hid hE
  have HOK := Lib.hid hok
  have HK := Lib.hid hK
  have HKL := Lib.hid hK.1
  clear CA hlm hok hE hK
  go_enter Try.func3, Try.ntmps3
  go_wp2_with (fail)
  go_at_call 6
  refine CS.out.mono ?_
  rintro _ w1 ⟨t, rfl, ht, b1⟩
  have HB1 := Lib.hid b1
  clear CS
  cases t with
  | false =>
    clear b1
    go_wp2_with (go_at_call 8; refine (HCA.out _).mono ?_; rintro _ w2 ⟨rfl, b2⟩)
    go_ret
    exact ⟨rfl, HB1.out.trans (b2.mono HB1.out.size)⟩
  | true =>
    obtain ⟨h150, hsz⟩ := ht rfl
    have CSH := Lib.hid (short_any 40 3000 ak lk ck ks w1 (by omega) (by omega) (by omega) (by omega) (rowS_below HK.out b1))
    clear b1
    go_wp2_with (fail)
    go_at_call 7
    refine CSH.out.mono ?_
    rintro _ w2 ⟨⟨t, rfl, hfew⟩, b2⟩
    have HB2 := Lib.hid (HB1.out.trans (b2.mono HB1.out.size))
    clear CSH b2 HB1
    cases t with
    | false =>
      clear hfew
      go_wp2_with (go_at_call 8; refine (HCA.out _).mono ?_; rintro _ w3 ⟨rfl, b3⟩)
      go_ret
      exact ⟨rfl, HB2.out.trans (b3.mono HB2.out.size)⟩
    | true =>
      obtain ⟨hk40, hk3⟩ := hfew rfl
      by_cases hneg : at_ < 0
      · have hd2 : decide (at_ < 0) = true := decide_eq_true hneg
        go_wp2_with (go_at_call 8; refine (HCA.out _).mono ?_; rintro _ w3 ⟨rfl, b3⟩)
        go_ret
        exact ⟨rfl, HB2.out.trans (b3.mono HB2.out.size)⟩
      · have hd2 : decide (at_ < 0) = false := decide_eq_false hneg
        by_cases hby : by_ % 256 = 0
        · go_wp2_with (go_at_call 8; (with_reducible refine (HCA.out _).mono ?_); rintro _ w3 ⟨rfl, b3⟩)
          go_ret
          exact ⟨rfl, HB2.out.trans (b3.mono HB2.out.size)⟩
        · have hd1 : (by_ % 256 == 0) = false := by simpa using hby
          have C2 := Lib.hid (T.put (w := w2) a es.length cap es ((HE.out.below HB2.out).mono HB2.out.size) h150 hcap HOK.out hsz)
          by_cases hor : es ≠ [] ∧ ordB es es.length = true
          · have hF : FineT es := ⟨hor.1, hor.2, h150, hsz, HOK.out⟩
            obtain ⟨Z, hZ, hZd⟩ := tabV_yes hF
            have hZl : Z.size = (tabB es).length := by rw [← len_data', hZd]
            have hZs : Z.size ≤ 100000 := by rw [hZl]; exact tabB_few hF
            have hZ28 : 28 ≤ Z.size := by rw [hZl]; exact tabB_28
            have hZ28I : decide ((Z.size : Int) < 28) = false := by simp; omega
            rw [hZ] at C2
            have HF := Lib.hid hF
            have HOR := Lib.hid hor.2
            have HZL := Lib.hid hZl
            have HZD := Lib.hid hZd
            clear hF hor hZ hZd hZl
            go_wp2_with fail
            go_at_call 9
            refine C2.out.mono ?_
            rintro _ wr ⟨rfl, b3⟩
            have HBL := Lib.hid (HB2.out.trans (b3.mono HB2.out.size))
            clear C2 b3 HB2
            have hZpos : (0 : Int) < (Z.size : Int) := by omega
            obtain ⟨j, hj⟩ : ∃ j : Nat, at_ % (Z.size : Int) = (j : Int) := ⟨(at_ % (Z.size : Int)).toNat, by have := Int.emod_nonneg at_ (show (Z.size : Int) ≠ 0 by omega); omega⟩
            have hjl : (j : Int) < (Z.size : Int) := by rw [← hj]; exact Int.emod_lt_of_pos at_ hZpos
            have hjt : at_.tmod (Z.size : Int) = (j : Int) := by rw [Int.tmod_eq_emod_of_nonneg (by omega)]; exact hj
            have hjs : j < (tabB es).length := by rw [← HZL.out]; omega
            obtain ⟨c, hc, hcne⟩ := txor_byte (tabB es)[j] by_
            obtain ⟨M, hM⟩ : ∃ M : ByteArray, M = ⟨((tabB es).set j c).toArray⟩ := ⟨_, rfl⟩
            have hMl : M.data.toList = (tabB es).set j c := by rw [hM]
            have CO := Lib.hid (fun W => O.opens es j c hjs M W HF.out (hcne hby) hMl)
            obtain ⟨C, w7, hcv, b7, hCs, hcells, hfr, hg7⟩ := tbytes_of Z wr
            have hcj : w7.cell? ⟨wr.heap.size, j, none⟩ = some (.int .u8 ((tabB es)[j].toNat : Int)) := by
              rw [hcells j (by omega), HZD.out]
              simp [List.getD, hjs]
            have hfj := hfr j (by omega)
            have HSET := Lib.hid (show (convert 31 9 (.slice (some ⟨wr.heap.size, 0, none⟩) Z.size C)).run Try.prog (w7.setCell ⟨wr.heap.size, j, none⟩ (.int .u8 (c.toNat : Int))) = .ok (.string M) (w7.setCell ⟨wr.heap.size, j, none⟩ (.int .u8 (c.toNat : Int))) by
              rw [hM]
              refine tback_of _ wr.heap.size C Z.size ((tabB es).set j c) (by rw [List.length_set]; exact HZL.out) (fun i hi => ?_)
              have hi2 : i < (tabB es).length := by simpa using hi
              by_cases hij : i = j
              · subst hij
                rw [World.cell?_setCell_same _ _ _ hcj]
                simp
              · rw [World.cell?_setCell_other _ _ _ _ (by intro h; cases h; exact hij rfl), hcells i (by rw [HZL.out]; exact hi2), HZD.out]
                rw [List.getElem_set_ne (fun e => hij e.symm)]
                simp [List.getD, hi2])
            have HB8 := Lib.hid (show Below w.heap.size w (w7.setCell ⟨wr.heap.size, j, none⟩ (.int .u8 (c.toNat : Int))) from below_row (HBL.out.trans (b7.mono HBL.out.size)) (Nat.le_refl _) (grownBy_set w7 wr.heap.size j (.int .u8 (c.toNat : Int))) (fun k hk => by cases hk; exact HBL.out.size))
            generalize (tabB es)[j] = x0 at hc hcj
            have hcv2 := HSET.out
            generalize wr.heap.size = gb at hcj hfj hcv hcv2 HB8
            generalize hW8 : w7.setCell ⟨gb, j, none⟩ (.int .u8 (c.toNat : Int)) = W8 at hcv2 HB8
            clear hcells hfr hcne hMl hM HSET hby hj b7 hg7 HBL HZD HZL
            go_wp2_with fail
            go_at_call 10
            (with_reducible refine (CO.out _).mono ?_)
            rintro _ w9 ⟨hres, b9⟩
            have HB9 := Lib.hid (HB8.out.trans (b9.mono HB8.out.size))
            rcases hres with ⟨er, her, rfl⟩ | ⟨p, rfl, hS⟩
            · have her1 : (er == 0) = false := by simpa using her
              have her2 : (er != 0) = true := by simpa using her
              clear b9 CO
              go_wp2_with (go_at_call 8; (with_reducible refine (HCA.out _).mono ?_); rintro _ w10 ⟨rfl, b10⟩)
              go_ret
              exact ⟨rfl, HB9.out.trans (b10.mono HB9.out.size)⟩
            · obtain ⟨B, hBe⟩ : ∃ B, W8.heap.size = B := ⟨_, rfl⟩
              rw [hBe] at hS b9
              have hwB : w.heap.size ≤ B := by rw [← hBe]; exact HB8.out.size
              have HS := Lib.hid (O.less hS (show lk - 0 ≤ 100 by have := HKL.out; omega))
              have HB9b := Lib.hid (show B ≤ w9.heap.size by rw [← hBe]; exact b9.size)
              have HKC := Lib.hid (fun h0 : 0 < lk => rowS_cell HK.out h0)
              have HTOT := Lib.hid hk3
              have hlk : lk ≤ 40 := by have := HKL.out; omega
              clear CO b9 hS hcj hfj hcv hcv2 hW8 HB8 hBe hk3 hk40 HK
              go_wp2_with fail
              go_loopw [16] (fun iv wr => ∃ i : Nat, iv = .int .i64 (i : Int) ∧ i ≤ lk ∧ Sp B wr p es (lk - i) ∧ Below w.heap.size w wr ∧ B ≤ wr.heap.size) (fun iv _ => lk - (intOf iv).toNat)
              case atStart => exact ⟨0, rfl, Nat.zero_le _, HS.out, HB9.out, HB9b.out⟩
              case round =>
                clear HS HB9 HB9b
                obtain ⟨i, rfl, him, hS, hbl, hBl⟩ := hrel
                have HBL := Lib.hid hbl
                have HS := Lib.hid hS
                by_cases hlt : i < lk
                · obtain ⟨b, off, rfl, hb, hc2⟩ := HKC.out (by omega)
                  have hkl : i < ks.length := by rw [HKL.out]; exact hlt
                  have hcx : wr.cell? ⟨b, off + i, none⟩ = some (.string ks[i]) := (hbl.cell (p := ⟨b, off + i, none⟩) hb).trans (hc2 i hkl)
                  have hks : ks[i].size ≤ 3000 := by have := total_mem (List.getElem_mem hkl); have := HTOT.out; omega
                  have hltI : (i : Int) < (lk : Int) := by omega
                  generalize ks[i] = key at hcx hks
                  have hS2 : Sp B wr p es ((lk - (i + 1)) + 1) := by rw [show lk - (i + 1) + 1 = lk - i by omega]; exact hS
                  have CG := Lib.hid (O.get key seq hS2 hBl hks hseq)
                  clear hS2
                  have CP := Lib.hid (fun (W : World) (hw : Below w.heap.size w W) => pickF_any (n₀ := w.heap.size) a es.length cap es key (seq : Int) W hw.size (HE.out.below hw) (by omega))
                  rw [pick_find HOR.out key seq] at CP
                  obtain ⟨o, ho⟩ : ∃ o, findT es key seq = o := ⟨_, rfl⟩
                  rw [ho] at CG CP
                  clear hc2 hS hbl hBl ho
                  cases o with
                  | none =>
                    rw [show foundV none = .tuple #[.agg #[.string ⟨#[]⟩, .int .u64 0, .int .i64 0, .string ⟨#[]⟩], .bool false, .int .i64 0] from rfl] at CG
                    rw [show getV none = .tuple #[.agg #[.string ⟨#[]⟩, .int .u64 0, .int .i64 0, .string ⟨#[]⟩], .bool false] from rfl] at CP
                    go_wp2_with fail
                    go_at_call 11
                    refine CG.out.mono ?_
                    rintro _ w10 ⟨hres, hS10, b10⟩
                    have HB10 := Lib.hid (HBL.out.trans (b10.mono hwB))
                    have HS10 := Lib.hid hS10
                    have hcx10 : w10.cell? ⟨b, off + i, none⟩ = some (.string key) := (b10.cell (p := ⟨b, off + i, none⟩) (by show b < B; omega)).trans hcx
                    have HCX := Lib.hid (show b < w10.heap.size by have := HB10.out.size; omega)
                    clear CG b10 hS10 hcx
                    rcases hres with rfl | ⟨er, her, rfl⟩
                    · go_upto_region 19 with fail
                      obtain ⟨W11, hW11⟩ : ∃ W11, w10.alloc (.cells #[.string ⟨#[]⟩, .int .u64 0, .int .i64 0, .string ⟨#[]⟩] 36) = W11 := ⟨_, rfl⟩
                      have hb11 : Below w10.heap.size w10 W11 := by rw [← hW11]; exact (Below.refl _ _).alloc (Nat.le_refl _) _
                      have hbx : Boxe w10.heap.size ⟨#[]⟩ 0 0 ⟨#[]⟩ W11 := by rw [← hW11]; exact new_block _ _ rfl
                      rw [hW11]
                      have HB11 := Lib.hid (HB10.out.trans (hb11.mono HB10.out.size))
                      have HS11 := Lib.hid (O.kept HS10.out hb11)
                      have CP2 := Lib.hid (CP.out W11 HB11.out)
                      have hcx11 : W11.cell? ⟨b, off + i, none⟩ = some (.string key) := (hb11.cell (p := ⟨b, off + i, none⟩) HCX.out).trans hcx10
                      generalize w10.heap.size = X at hbx ⊢
                      have HBX := Lib.hid hbx
                      clear hW11 hb11 hbx CP hcx10
                      go_wp2_with fail
                      go_at_call 12
                      refine CP2.out.mono ?_
                      rintro _ w12 ⟨rfl, b12⟩
                      go_upto_region 20 with fail
                      obtain ⟨W13, hW13⟩ : ∃ W13, w12.alloc (.cells #[.string ⟨#[]⟩, .int .u64 0, .int .i64 0, .string ⟨#[]⟩] 36) = W13 := ⟨_, rfl⟩
                      have hb13 : Below w12.heap.size w12 W13 := by rw [← hW13]; exact (Below.refl _ _).alloc (Nat.le_refl _) _
                      have hby' : Boxe w12.heap.size ⟨#[]⟩ 0 0 ⟨#[]⟩ W13 := by rw [← hW13]; exact new_block _ _ rfl
                      rw [hW13]
                      have hb1113 : Below W11.heap.size W11 W13 := b12.trans (hb13.mono b12.size)
                      have HB13 := Lib.hid (HB11.out.trans (hb1113.mono HB11.out.size))
                      have HS13 := Lib.hid (O.kept HS11.out hb1113)
                      have HBB := Lib.hid (show B ≤ W13.heap.size from Nat.le_trans (O.lo HS11.out) hb1113.size)
                      have hbx2 := HBX.out.below hb1113
                      have x0 := hbx2.c0
                      have x1 := hbx2.c1
                      have x2 := hbx2.c2
                      have x3 := hbx2.c3
                      generalize w12.heap.size = Y at hby' ⊢
                      have y0 := hby'.c0
                      have y1 := hby'.c1
                      have y2 := hby'.c2
                      have y3 := hby'.c3
                      clear hW13 hb13 hby' hbx2 hb1113 b12 CP2 HBX HB11 HS11 HB10 HS10
                      go_wp2_with fail
                      go_roundw
                      case rel => exact ⟨i + 1, by go_num, by omega, HS13.out, HB13.out, HBB.out⟩
                      case measure => simp [intOf]; omega
                    · have her1 : (er == 0) = false := by simpa using her
                      have her2 : (er != 0) = true := by simpa using her
                      clear her
                      go_upto_region 19 with fail
                      obtain ⟨W11, hW11⟩ : ∃ W11, w10.alloc (.cells #[.string ⟨#[]⟩, .int .u64 0, .int .i64 0, .string ⟨#[]⟩] 36) = W11 := ⟨_, rfl⟩
                      have hb11 : Below w10.heap.size w10 W11 := by rw [← hW11]; exact (Below.refl _ _).alloc (Nat.le_refl _) _
                      have hbx : Boxe w10.heap.size ⟨#[]⟩ 0 0 ⟨#[]⟩ W11 := by rw [← hW11]; exact new_block _ _ rfl
                      rw [hW11]
                      have HB11 := Lib.hid (HB10.out.trans (hb11.mono HB10.out.size))
                      have HS11 := Lib.hid (O.kept HS10.out hb11)
                      have CP2 := Lib.hid (CP.out W11 HB11.out)
                      have hcx11 : W11.cell? ⟨b, off + i, none⟩ = some (.string key) := (hb11.cell (p := ⟨b, off + i, none⟩) HCX.out).trans hcx10
                      generalize w10.heap.size = X at hbx ⊢
                      have HBX := Lib.hid hbx
                      clear hW11 hb11 hbx CP hcx10
                      go_wp2_with fail
                      go_at_call 12
                      refine CP2.out.mono ?_
                      rintro _ w12 ⟨rfl, b12⟩
                      go_upto_region 20 with fail
                      obtain ⟨W13, hW13⟩ : ∃ W13, w12.alloc (.cells #[.string ⟨#[]⟩, .int .u64 0, .int .i64 0, .string ⟨#[]⟩] 36) = W13 := ⟨_, rfl⟩
                      have hb13 : Below w12.heap.size w12 W13 := by rw [← hW13]; exact (Below.refl _ _).alloc (Nat.le_refl _) _
                      have hby' : Boxe w12.heap.size ⟨#[]⟩ 0 0 ⟨#[]⟩ W13 := by rw [← hW13]; exact new_block _ _ rfl
                      rw [hW13]
                      have hb1113 : Below W11.heap.size W11 W13 := b12.trans (hb13.mono b12.size)
                      have HB13 := Lib.hid (HB11.out.trans (hb1113.mono HB11.out.size))
                      have HS13 := Lib.hid (O.kept HS11.out hb1113)
                      have HBB := Lib.hid (show B ≤ W13.heap.size from Nat.le_trans (O.lo HS11.out) hb1113.size)
                      have hbx2 := HBX.out.below hb1113
                      have x0 := hbx2.c0
                      have x1 := hbx2.c1
                      have x2 := hbx2.c2
                      have x3 := hbx2.c3
                      generalize w12.heap.size = Y at hby' ⊢
                      have y0 := hby'.c0
                      have y1 := hby'.c1
                      have y2 := hby'.c2
                      have y3 := hby'.c3
                      clear hW13 hb13 hby' hbx2 hb1113 b12 CP2 HBX HB11 HS11 HB10 HS10
                      go_wp2_with fail
                      go_roundw
                      case rel => exact ⟨i + 1, by go_num, by omega, HS13.out, HB13.out, HBB.out⟩
                      case measure => simp [intOf]; omega
                  | some x =>
                    rw [show foundV (some x) = .tuple #[.agg #[.string x.k, .int .u64 x.s, .int .i64 x.n, .string x.v], .bool true, .int .i64 0] from rfl] at CG
                    rw [show getV (some x) = .tuple #[.agg #[.string x.k, .int .u64 x.s, .int .i64 x.n, .string x.v], .bool true] from rfl] at CP
                    go_wp2_with fail
                    go_at_call 11
                    refine CG.out.mono ?_
                    rintro _ w10 ⟨hres, hS10, b10⟩
                    have HB10 := Lib.hid (HBL.out.trans (b10.mono hwB))
                    have HS10 := Lib.hid hS10
                    have hcx10 : w10.cell? ⟨b, off + i, none⟩ = some (.string key) := (b10.cell (p := ⟨b, off + i, none⟩) (by show b < B; omega)).trans hcx
                    have HCX := Lib.hid (show b < w10.heap.size by have := HB10.out.size; omega)
                    clear CG b10 hS10 hcx
                    rcases hres with rfl | ⟨er, her, rfl⟩
                    · go_upto_region 19 with fail
                      obtain ⟨W11, hW11⟩ : ∃ W11, w10.alloc (.cells #[.string x.k, .int .u64 x.s, .int .i64 x.n, .string x.v] 36) = W11 := ⟨_, rfl⟩
                      have hb11 : Below w10.heap.size w10 W11 := by rw [← hW11]; exact (Below.refl _ _).alloc (Nat.le_refl _) _
                      have hbx : Boxe w10.heap.size x.k x.s x.n x.v W11 := by rw [← hW11]; exact new_block _ _ rfl
                      rw [hW11]
                      have HB11 := Lib.hid (HB10.out.trans (hb11.mono HB10.out.size))
                      have HS11 := Lib.hid (O.kept HS10.out hb11)
                      have CP2 := Lib.hid (CP.out W11 HB11.out)
                      have hcx11 : W11.cell? ⟨b, off + i, none⟩ = some (.string key) := (hb11.cell (p := ⟨b, off + i, none⟩) HCX.out).trans hcx10
                      generalize w10.heap.size = X at hbx ⊢
                      have HBX := Lib.hid hbx
                      clear hW11 hb11 hbx CP hcx10
                      go_wp2_with fail
                      go_at_call 12
                      refine CP2.out.mono ?_
                      rintro _ w12 ⟨rfl, b12⟩
                      go_upto_region 20 with fail
                      obtain ⟨W13, hW13⟩ : ∃ W13, w12.alloc (.cells #[.string x.k, .int .u64 x.s, .int .i64 x.n, .string x.v] 36) = W13 := ⟨_, rfl⟩
                      have hb13 : Below w12.heap.size w12 W13 := by rw [← hW13]; exact (Below.refl _ _).alloc (Nat.le_refl _) _
                      have hby' : Boxe w12.heap.size x.k x.s x.n x.v W13 := by rw [← hW13]; exact new_block _ _ rfl
                      rw [hW13]
                      have hb1113 : Below W11.heap.size W11 W13 := b12.trans (hb13.mono b12.size)
                      have HB13 := Lib.hid (HB11.out.trans (hb1113.mono HB11.out.size))
                      have HS13 := Lib.hid (O.kept HS11.out hb1113)
                      have HBB := Lib.hid (show B ≤ W13.heap.size from Nat.le_trans (O.lo HS11.out) hb1113.size)
                      have hbx2 := HBX.out.below hb1113
                      have x0 := hbx2.c0
                      have x1 := hbx2.c1
                      have x2 := hbx2.c2
                      have x3 := hbx2.c3
                      generalize w12.heap.size = Y at hby' ⊢
                      have y0 := hby'.c0
                      have y1 := hby'.c1
                      have y2 := hby'.c2
                      have y3 := hby'.c3
                      clear hW13 hb13 hby' hbx2 hb1113 b12 CP2 HBX HB11 HS11 HB10 HS10
                      go_wp2_with fail
                      go_roundw
                      case rel => exact ⟨i + 1, by go_num, by omega, HS13.out, HB13.out, HBB.out⟩
                      case measure => simp [intOf]; omega
                    · have her1 : (er == 0) = false := by simpa using her
                      have her2 : (er != 0) = true := by simpa using her
                      clear her
                      go_upto_region 19 with fail
                      obtain ⟨W11, hW11⟩ : ∃ W11, w10.alloc (.cells #[.string ⟨#[]⟩, .int .u64 0, .int .i64 0, .string ⟨#[]⟩] 36) = W11 := ⟨_, rfl⟩
                      have hb11 : Below w10.heap.size w10 W11 := by rw [← hW11]; exact (Below.refl _ _).alloc (Nat.le_refl _) _
                      have hbx : Boxe w10.heap.size ⟨#[]⟩ 0 0 ⟨#[]⟩ W11 := by rw [← hW11]; exact new_block _ _ rfl
                      rw [hW11]
                      have HB11 := Lib.hid (HB10.out.trans (hb11.mono HB10.out.size))
                      have HS11 := Lib.hid (O.kept HS10.out hb11)
                      have CP2 := Lib.hid (CP.out W11 HB11.out)
                      have hcx11 : W11.cell? ⟨b, off + i, none⟩ = some (.string key) := (hb11.cell (p := ⟨b, off + i, none⟩) HCX.out).trans hcx10
                      generalize w10.heap.size = X at hbx ⊢
                      have HBX := Lib.hid hbx
                      clear hW11 hb11 hbx CP hcx10
                      go_wp2_with fail
                      go_at_call 12
                      refine CP2.out.mono ?_
                      rintro _ w12 ⟨rfl, b12⟩
                      go_upto_region 20 with fail
                      obtain ⟨W13, hW13⟩ : ∃ W13, w12.alloc (.cells #[.string x.k, .int .u64 x.s, .int .i64 x.n, .string x.v] 36) = W13 := ⟨_, rfl⟩
                      have hb13 : Below w12.heap.size w12 W13 := by rw [← hW13]; exact (Below.refl _ _).alloc (Nat.le_refl _) _
                      have hby' : Boxe w12.heap.size x.k x.s x.n x.v W13 := by rw [← hW13]; exact new_block _ _ rfl
                      rw [hW13]
                      have hb1113 : Below W11.heap.size W11 W13 := b12.trans (hb13.mono b12.size)
                      have HB13 := Lib.hid (HB11.out.trans (hb1113.mono HB11.out.size))
                      have HS13 := Lib.hid (O.kept HS11.out hb1113)
                      have HBB := Lib.hid (show B ≤ W13.heap.size from Nat.le_trans (O.lo HS11.out) hb1113.size)
                      have hbx2 := HBX.out.below hb1113
                      have x0 := hbx2.c0
                      have x1 := hbx2.c1
                      have x2 := hbx2.c2
                      have x3 := hbx2.c3
                      generalize w12.heap.size = Y at hby' ⊢
                      have y0 := hby'.c0
                      have y1 := hby'.c1
                      have y2 := hby'.c2
                      have y3 := hby'.c3
                      clear hW13 hb13 hby' hbx2 hb1113 b12 CP2 HBX HB11 HS11 HB10 HS10
                      go_wp2_with fail
                      go_roundw
                      case rel => exact ⟨i + 1, by go_num, by omega, HS13.out, HB13.out, HBB.out⟩
                      case measure => simp [intOf]; omega
                · obtain rfl : i = lk := by omega
                  have CR := Lib.hid (O.range hS hBl)
                  clear hS hbl hBl
                  go_wp2_with fail
                  go_at_call 13
                  refine CR.out.mono ?_
                  rintro _ w14 ⟨v14, rfl, b14⟩
                  have HB14 := Lib.hid (HBL.out.trans (b14.mono hwB))
                  clear CR b14
                  go_wp2_with (go_at_call 8; (with_reducible refine (HCA.out _).mono ?_); rintro _ w15 ⟨rfl, b15⟩)
                  go_ret
                  exact ⟨rfl, HB14.out.trans (b15.mono HB14.out.size)⟩
          · rw [tabV_no hor] at C2
            go_wp2_with (first | (go_at_call 9; refine C2.out.mono ?_; rintro _ w3 ⟨rfl, b3⟩) | (go_at_call 8; refine (HCA.out _).mono ?_; rintro _ w4 ⟨rfl, b4⟩) | fail)
            go_ret
            exact ⟨rfl, (HB2.out.trans (b3.mono HB2.out.size)).trans (b4.mono (Nat.le_trans HB2.out.size b3.size))⟩
end Go.Proofs.Ythaalhigmihijac

namespace Go.Proofs.Ythaalhigmihijac
open Go.RowKit

theorem blkB_ate (es : List Ent) : 8 ≤ (blkB es).length := by
  unfold blkB sealF
  simp only [List.length_append, be_length]
  omega
theorem blkB_chg (es : List Ent) (j : Nat) (c : UInt8) (hj : j < (blkB es).length) (hc : c ≠ (blkB es)[j]) : getE ((blkB es).set j c) = (6, []) := by
  have h8 := blkB_ate es
  have hl : ((blkB es).set j c).length = (blkB es).length := by simp
  have h1 := seal_change (layB es) j c hj hc
  have hsl : (sealF (layB es)).length = (layB es).length + 4 := by unfold sealF; rw [List.length_append, be_length]
  refine getE_err (l := []) ?_ (by decide)
  unfold getBody
  rw [hl, if_neg (by omega), if_neg ?_]
  rw [show (blkB es).length - 4 = (layB es).length by rw [blkB_lay, hsl]; omega]
  exact h1
theorem opn_chg (s : List UInt8) (k : Nat) (c : UInt8) (hk : k < (sealF s).length) (hc : c ≠ (sealF s)[k]) : (opn ((sealF s).set k c)).1 = 6 := by
  have h1 := seal_change s k c hk hc
  have hsl : (sealF s).length = s.length + 4 := by unfold sealF; rw [List.length_append, be_length]
  unfold opn
  rw [List.length_set, hsl, if_neg (by omega), Nat.add_sub_cancel, if_neg h1]
/-- A byte changed behind the blocks: not opened. -/
theorem openT_hurt {es : List Ent} (h : FineT es) (M : ByteArray) (j : Nat) (c : UInt8) (hj : j < (tabB es).length) (hc : c ≠ (tabB es)[j]) (hM : M.data.toList = (tabB es).set j c) (hb : (blksT es (numT es)).length ≤ j) : ∃ er : Int, er ≠ 0 ∧ openT M = (er, none) := by
  have htl := tabB_len es
  have hfew := tabB_few h
  have hft : (footT es).length = 24 := (footT_parts es).1
  have hsl : (sealF (footT es)).length = 28 := by unfold sealF; rw [List.length_append, be_length, hft]
  have hMl : M.data.toList.length = (tabB es).length := by rw [hM, List.length_set]
  have ht24 : (sealF (footT es)).take 24 = footT es := by unfold sealF; rw [← hft]; exact List.take_left
  have hdr24 : (sealF (footT es)).drop 24 = be (crc (footT es)) 4 := by unfold sealF; rw [← hft]; exact List.drop_left
  by_cases hf : (tabB es).length - 28 ≤ j
  · refine ⟨6, by decide, ?_⟩
    have hd : M.data.toList.drop (M.data.toList.length - 28) = (sealF (footT es)).set (j - ((tabB es).length - 28)) c := by
      rw [hMl, hM, List.drop_set, if_neg (by omega), tabB_foot]
    have hj2 : j - ((tabB es).length - 28) < (sealF (footT es)).length := by omega
    have hc2 : c ≠ (sealF (footT es))[j - ((tabB es).length - 28)] := by
      have e := piece_at (tabB es) (sealF (footT es)) ((tabB es).length - 28) 28 j (by rw [tabB_foot, List.take_of_length_le (by omega)]) hf hj hj2
      rw [← e]; exact hc
    have h1 := seal_change (footT es) _ c hj2 hc2
    rw [hft] at h1
    have hfoot : rdFoot M.data.toList = (6, 0, 0, 0, 0) := by
      unfold rdFoot
      rw [if_neg (by omega), hd, if_pos h1]
    unfold openT
    simp only [hfoot]
    rfl
  · have hd : M.data.toList.drop (M.data.toList.length - 28) = sealF (footT es) := by
      rw [hMl, hM, List.drop_set, if_pos (by omega), tabB_foot]
    have hp6 : (256 : Nat) ^ 6 = 281474976710656 := by decide
    have hf4 : foot4 (footT es) = ((blksT es (numT es)).length, (filT es).length, (blksT es (numT es)).length + (filT es).length, (indT es).length) := by
      obtain ⟨-, h1, h2, h3, h4⟩ := footT_parts es
      unfold foot4
      rw [h1, h2, h3, h4, beVal_be 6 _ (by omega), beVal_be 6 _ (by omega), beVal_be 6 _ (by omega), beVal_be 6 _ (by omega)]
    have hfoot : rdFoot M.data.toList = (0, (blksT es (numT es)).length, (filT es).length, (blksT es (numT es)).length + (filT es).length, (indT es).length) := by
      unfold rdFoot
      rw [if_neg (by omega), hd, ht24, hdr24, if_neg (by rw [beVal_be 4 _ (crc_lt _)]; simp), hf4]
      simp only
      rw [if_neg (fun hq => hq.elim (fun hq => hq rfl) (fun hq => hq (by omega)))]
    by_cases hfi : j < (blksT es (numT es)).length + (filT es).length
    · refine ⟨6, by decide, ?_⟩
      have hp : (M.data.toList.drop (blksT es (numT es)).length).take (filT es).length = (filT es).set (j - (blksT es (numT es)).length) c := by
        rw [hM, piece_set, if_pos hb, tabB_fil]
      have hj2 : j - (blksT es (numT es)).length < (filT es).length := by omega
      have hc2 : c ≠ (filT es)[j - (blksT es (numT es)).length] := by
        have e := piece_at (tabB es) (filT es) (blksT es (numT es)).length (filT es).length j (tabB_fil es) hb hj hj2
        rw [← e]; exact hc
      have ho := opn_chg (mkB 10 4 (keysT es es.length)) _ c hj2 hc2
      unfold openT
      simp only [hfoot, hp]
      rw [if_neg (by simp)]
      have ho2 : (opn ((filT es).set (j - (blksT es (numT es)).length) c)).1 = 6 := ho
      rw [ho2]
      rfl
    · refine ⟨6, by decide, ?_⟩
      have hp1 : (M.data.toList.drop (blksT es (numT es)).length).take (filT es).length = filT es := by
        rw [hM, piece_far _ _ _ _ _ (.inr (by omega)), tabB_fil]
      have hp : (M.data.toList.drop ((blksT es (numT es)).length + (filT es).length)).take (indT es).length = (indT es).set (j - ((blksT es (numT es)).length + (filT es).length)) c := by
        rw [hM, piece_set, if_pos (by omega), tabB_ind]
      have hj2 : j - ((blksT es (numT es)).length + (filT es).length) < (indT es).length := by omega
      have hc2 : c ≠ (indT es)[j - ((blksT es (numT es)).length + (filT es).length)] := by
        have e := piece_at (tabB es) (indT es) ((blksT es (numT es)).length + (filT es).length) (indT es).length j (tabB_ind es) (by omega) hj hj2
        rw [← e]; exact hc
      have ho : (opn ((indT es).set (j - ((blksT es (numT es)).length + (filT es).length)) c)).1 = 6 := by
        unfold indT at hj2 hc2 ⊢
        exact opn_chg _ _ c hj2 hc2
      have hof : opn (filT es) = (0, mkB 10 4 (keysT es es.length)) := by unfold filT; exact opn_seal _
      have hfl : isFilB (mkB 10 4 (keysT es es.length)) = true := by
        unfold isFilB
        rw [mkB_valid 10 4 _ (by omega) (by omega), mkB_last 10 4 _ (by omega)]
        rfl
      unfold openT
      simp only [hfoot, hp1, hp, hof]
      rw [if_neg (by simp), if_neg (by simp), hfl, if_neg (by simp), ho]
      rfl
/-- A reader of a table whose blocks' bytes are not all as they were laid. -/
structure SpoP (B : Nat) (w : World) (p : Nat) (es : List Ent) (m : Nat) : Prop where
  ex : ∃ F Bs n, RdAt w p F ⟨partsT es Bs (numT es), keyT es (es.length - 1), es.length, ⟨(mkB 10 4 (keysT es es.length)).toArray⟩, n⟩ ∧ FineT es ∧ Bs.length = (blksT es (numT es)).length ∧ BlocksT es (partsT es Bs (numT es)) ∧ (∃ x ∈ partsT es Bs (numT es), (getE x.b.data.toList).1 = 6) ∧ (∀ k ∈ F, B ≤ k) ∧ B ≤ w.heap.size ∧ n + 200 * m ≤ 1000000
/-- Of all blocks one is refused. -/
theorem goR_all : ∀ l : List Prt, (∀ x ∈ l, (getE x.b.data.toList).1 = 0 ∨ (getE x.b.data.toList).1 = 6) → (∃ x ∈ l, (getE x.b.data.toList).1 = 6) → (goR ⟨#[]⟩ ⟨#[]⟩ l).2.1 = 6
  | [], _, ⟨x, hx, _⟩ => by cases hx
  | y :: r, h, ⟨x, hx, h6⟩ => by
    have hw : withinB ⟨#[]⟩ ⟨#[]⟩ (maxB ⟨#[]⟩ y.f) = true := by
      rw [withinB_max]
      have : (⟨#[]⟩ : ByteArray).toList.isEmpty = true := by rw [ByteArray.toList_eq]; rfl
      rw [this]; rfl
    rw [goR_cons, if_neg (by rw [hw]; simp)]
    rcases h y (by simp) with h0 | h0
    · rw [if_neg (by rw [h0]; simp)]
      refine goR_all r (fun z hz => h z (List.mem_cons_of_mem _ hz)) ⟨x, ?_, h6⟩
      rcases List.mem_cons.1 hx with rfl | hx
      · rw [h0] at h6; cases h6
      · exact hx
    · rw [if_pos (by rw [h0]; decide)]
      exact h0
theorem spoC : SpoC SpoP where
  lo := fun h => by
    obtain ⟨F, Bs, n, -, -, -, -, -, -, h, -⟩ := h.ex
    exact h
  kept := fun h hb => by
    obtain ⟨F, Bs, n, h1, h2, h3, h4, h5, h6, h7, h8⟩ := h.ex
    exact ⟨F, Bs, n, h1.below hb, h2, h3, h4, h5, h6, Nat.le_trans h7 hb.size, h8⟩
  less := fun h hm => by
    obtain ⟨F, Bs, n, h1, h2, h3, h4, h5, h6, h7, h8⟩ := h.ex
    exact ⟨F, Bs, n, h1, h2, h3, h4, h5, h6, h7, by omega⟩
  opens := fun es j c hj M w hF hc hM => by
    have hsz : M.size ≤ 1000000 := by
      have := tabB_few hF
      rw [← len_data', hM, List.length_set]
      omega
    refine (topen_any M w hsz).mono ?_
    rintro e w' ⟨hbl, h1, h2⟩
    refine ⟨?_, hbl⟩
    by_cases hb : (blksT es (numT es)).length ≤ j
    · obtain ⟨er, he, ho⟩ := openT_hurt hF M j c hj hc hM hb
      exact .inl ⟨er, he, h1 er ho⟩
    · right
      have hBl : ((blksT es (numT es)).set j c).length = (blksT es (numT es)).length := List.length_set
      have hMe : M.data.toList = (blksT es (numT es)).set j c ++ filT es ++ indT es ++ sealF (footT es) := by
        rw [hM]
        unfold tabB
        rw [List.append_assoc, List.append_assoc, List.set_append_left _ _ (by omega), List.append_assoc, List.append_assoc]
      have ho := openT_laid hF M _ hBl hMe
      obtain ⟨p, F, rfl, hr, hFl⟩ := h2 _ _ ho
      have hpc : ∀ i, i < numT es → getE ((((blksT es (numT es)).set j c).drop (blksT es i).length).take (blkB (chunkT es i)).length) = (0, chunkT es i) ∨ (getE ((((blksT es (numT es)).set j c).drop (blksT es i).length).take (blkB (chunkT es i)).length)).1 = 6 := fun i hi => by
        rw [piece_set, blksT_at es hi]
        split
        · rename_i hle
          by_cases hin : j - (blksT es i).length < (blkB (chunkT es i)).length
          · right
            have hc2 : c ≠ (blkB (chunkT es i))[j - (blksT es i).length] := by
              have e := piece_at (tabB es) (blkB (chunkT es i)) (blksT es i).length (blkB (chunkT es i)).length j (tabB_blk es hi) hle hj hin
              rw [← e]; exact hc
            rw [blkB_chg _ _ c hin hc2]
          · left
            rw [List.set_eq_of_length_le (by omega), chunk_laid hF]
        · left
          rw [chunk_laid hF]
      obtain ⟨k, hk, hk1, hk2⟩ := blksT_where es j (numT es) (by omega)
      refine ⟨p, rfl, ⟨F, (blksT es (numT es)).set j c, 0, hr, hF, hBl, ⟨partsT_len _ _ _, fun i hi => by rw [partsT_at es _ hi]; rfl, fun i hi => ?_⟩, ?_, hFl, hbl.size, by omega⟩⟩
      · rw [partsT_at es _ hi]
        rw [partsT_len] at hi
        exact hpc i hi
      · have hkl : k < (partsT es ((blksT es (numT es)).set j c) (numT es)).length := by rw [partsT_len]; exact hk
        refine ⟨(partsT es ((blksT es (numT es)).set j c) (numT es))[k], List.getElem_mem hkl, ?_⟩
        rw [partsT_at es _ hkl]
        show (getE ((((blksT es (numT es)).set j c).drop (blksT es k).length).take (blkB (chunkT es k)).length)).1 = 6
        have hin : j - (blksT es k).length < (blkB (chunkT es k)).length := by omega
        have hc2 : c ≠ (blkB (chunkT es k))[j - (blksT es k).length] := by
          have e := piece_at (tabB es) (blkB (chunkT es k)) (blksT es k).length (blkB (chunkT es k)).length j (tabB_blk es hk) hk1 hj hin
          rw [← e]; exact hc
        rw [piece_set, if_pos hk1, blksT_at es hk, blkB_chg _ _ c hin hc2]
  get := fun {B w p es m} key seq h hB hk hs => by
    obtain ⟨F, Bs, n, h1, hF, h3, h4, h5, h6, h7, h8⟩ := h.ex
    obtain ⟨hn1, hn2, hpos⟩ := numT_le hF
    have hbf := blks_few hF
    refine (rget_any h1 (parts_ne hF _) (by show (partsT es Bs (numT es)).length ≤ _; rw [partsT_len]; omega) (parts_small _ (by omega)) (filT_small hF) (by show n ≤ _; omega) key (by omega) seq).mono ?_
    rintro e w' (⟨hm, rfl, hr, ht⟩ | ⟨hm, k, hst, rfl, hr, ht⟩)
    · have hnf : findT es key seq = none := findT_key (fun hin => by
        have := mayB_in (bits := 10) (p := 4) (by omega) (by omega) hin
        have hm2 : mayB (mkB 10 4 (keysT es es.length)) key.data.toList = false := hm
        rw [this] at hm2
        cases hm2)
      rw [hnf]
      have hb := ht.below hB (fun x hx => by simp at hx; subst hx; exact h6 _ h1.mem)
      exact ⟨.inl rfl, ⟨F, Bs, n, hr, hF, h3, h4, h5, h6, Nat.le_trans h7 hb.size, by omega⟩, hb⟩
    · have hb := ht.below hB (fun x hx => by simp at hx; subst hx; exact h6 _ h1.mem)
      have hlow := starts_low hF hst
      have hg := goG_blocks hF.ord h4 key seq (numT es - k) k (by omega)
      have hfew := goG_few key seq ((partsT es Bs (numT es)).drop k)
      rw [List.length_drop, partsT_len] at hfew
      refine ⟨?_, ⟨F, Bs, _, hr, hF, h3, h4, h5, h6, Nat.le_trans h7 hb.size, by simp only; omega⟩, hb⟩
      rw [find_low hlow.2]
      rcases hg with ⟨g1, g2⟩ | ⟨g1, g2⟩
      · left
        rw [← g2]
        show Ending.returned (gotV (goG key seq ((partsT es Bs (numT es)).drop k))) = _
        generalize goG key seq ((partsT es Bs (numT es)).drop k) = G at *
        obtain ⟨c, er, o⟩ := G
        simp only at g1
        subst g1
        cases o <;> rfl
      · right
        refine ⟨6, by decide, ?_⟩
        show Ending.returned (gotV (goG key seq ((partsT es Bs (numT es)).drop k))) = _
        generalize goG key seq ((partsT es Bs (numT es)).drop k) = G at *
        obtain ⟨c, er, o⟩ := G
        simp only at g1 g2
        subst g1 g2
        rfl
  range := fun {B w p es m} h hB => by
    obtain ⟨F, Bs, n, h1, hF, h3, h4, h5, h6, h7, h8⟩ := h.ex
    obtain ⟨hn1, hn2, hpos⟩ := numT_le hF
    have hbf := blks_few hF
    refine (rrange_any h1 (parts_ne hF _) (by show (partsT es Bs (numT es)).length ≤ _; rw [partsT_len]; omega) (parts_small _ (by omega)) (by show n ≤ _; omega) ⟨#[]⟩ ⟨#[]⟩).mono ?_
    rintro e w' ⟨k, v, hst, rfl, -, -, -, -, ht⟩
    have hk0 : k = 0 := by
      by_cases hk : k = 0
      · exact hk
      · have h9 := hst.2.2 (by omega)
        have : ∀ a : ByteArray, lessB a ⟨#[]⟩ = false := fun a => by
          unfold lessB
          rw [decide_eq_false_iff_not]
          intro hc
          have : ∀ l : List UInt8, Lib.compareBytes l [] ≠ -1 := fun l => by cases l <;> simp [Lib.compareBytes]
          exact this _ hc
        rw [this] at h9
        cases h9
    subst hk0
    have h6' := goR_all (partsT es Bs (numT es)) (fun x hx => by
      obtain ⟨i, hi, rfl⟩ := List.getElem_of_mem hx
      rcases h4.blk i hi with hg | hg
      · left; rw [hg]
      · exact .inr hg) h5
    refine ⟨v, ?_, ht.below hB (fun x hx => by simp at hx; subst hx; exact h6 _ h1.mem)⟩
    show Ending.returned (.tuple #[v, .int .i64 (goR ⟨#[]⟩ ⟨#[]⟩ ((partsT es Bs (numT es)).drop 0)).2.1]) = _
    rw [List.drop_zero, h6']
end Go.Proofs.Ythaalhigmihijac

namespace Go.Proofs.Ythaalhigmihijac
open Go.RowKit

theorem tableSpoilt_walk (a : Option Addr) (len cap : Nat) (es : List Ent) (x : Int) (_ : -9223372036854775808 ≤ x) (_ : x ≤ 9223372036854775807) (y : Int) (_ : -9223372036854775808 ≤ y) (_ : y ≤ 9223372036854775807) (ak : Option Addr) (lk ck : Nat) (ks : List ByteArray) (seq : Nat) (hseq : seq < 18446744073709551616) (w : World) (hI : IsEs w a len es) (hK : IsRowS w ak lk ks) (_hnil : a = none → cap = 0) (hcap : len ≤ cap ∧ cap ≤ maxLen) :
    Calls Try.prog 3 #[.slice a len cap, .int .i64 x, .int .i64 y, .slice ak lk ck, .int .u64 (seq : Int)] w fun e w' => e = .returned (.bool true) ∧ Below w.heap.size w w' :=
  tableSpoilt_hard tabC spoC (alive11 tabC name7) a len cap es x y ak lk ck ks seq hseq hI hcap.1 hK
end Go.Proofs.Ythaalhigmihijac
