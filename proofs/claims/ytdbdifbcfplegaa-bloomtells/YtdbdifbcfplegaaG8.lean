/- The document's own Make. -/
import Derived.Test.YtdbdifbcfplegaaG7
import Derived.Test.YtdbdifbcfplegaaG5
import Derived.BigRegion
namespace Go.Proofs.Ytdbdifbcfplegaa
open Go.RowKit

set_option maxHeartbeats 1000000 in
theorem rmake_bad (bits p : Int) (a : Option Addr) (len cap : Nat) (w : World) (h : bits < 1 ∨ 64 < bits ∨ p < 1 ∨ 20 < p) :
    Calls Try.prog 10 #[.int .i64 bits, .int .i64 p, .slice a len cap] w fun e w' => e = .returned (.tuple #[.string ⟨#[]⟩, .int .i64 1]) ∧ w = w' := by
  have done : ∀ b1 b2 b3 b4 : Bool, decide (bits < 1) = b1 → decide (64 < bits) = b2 → decide (p < 1) = b3 → decide (20 < p) = b4 → (b1 || b2 || b3 || b4) = true →
      Calls Try.prog 10 #[.int .i64 bits, .int .i64 p, .slice a len cap] w fun e w' => e = .returned (.tuple #[.string ⟨#[]⟩, .int .i64 1]) ∧ w = w' := by
    intro b1 b2 b3 b4 h1 h2 h3 h4 hb
    clear h
    cases b1 <;> cases b2 <;> cases b3 <;> cases b4 <;> first | (cases hb; done) | skip
    all_goals
      (go_enter Try.func10, Try.ntmps10
       go_wp2
       go_ret2
       exact ⟨rfl, rfl⟩)
  refine done _ _ _ _ rfl rfl rfl rfl ?_
  simp only [Bool.or_eq_true, decide_eq_true_eq]
  omega
theorem byteCells_at (L : List UInt8) (q : Nat) (h : q < L.length) : (Lib.byteCells L)[q]? = some (.int .u8 ((byteAt L q).toNat : Int)) := by
  unfold Lib.byteCells byteAt
  rw [List.getElem?_map, List.getElem?_eq_getElem h]
  rfl
theorem byteCells_set2 (L : List UInt8) (q : Nat) (v : UInt8) : (Lib.byteCells L).set q (.int .u8 (v.toNat : Int)) = Lib.byteCells (L.set q v) := by
  unfold Lib.byteCells
  rw [List.map_set]
set_option maxRecDepth 100000 in
set_option maxHeartbeats 4000000 in
theorem rmake_rows (bits p : Nat) (b off cap : Nat) (ss : List ByteArray) (w : World) (h1 : 1 ≤ bits) (h2 : bits ≤ 64) (h3 : 1 ≤ p) (h4 : p ≤ 20) (hn : ss.length ≤ 1000) (hss : ∀ s ∈ ss, s.size ≤ maxLen) (hb : b < w.heap.size) (hc : ∀ i (h : i < ss.length), w.cell? ⟨b, off + i, none⟩ = some (.string ss[i])) :
    Calls Try.prog 10 #[.int .i64 bits, .int .i64 p, .slice (some ⟨b, off, none⟩) ss.length cap] w fun e w' => e = .returned (.tuple #[.string ⟨(mkB bits p ss).toArray⟩, .int .i64 0]) ∧ Below w.heap.size w w' := by
  obtain ⟨i0, hi, hz0, hz1, hz2⟩ := info_parts infoByte
  have HC := Lib.hid hc
  have HSS := Lib.hid hss
  clear hc hss
  obtain ⟨m, hm⟩ : ∃ m, bits * ss.length = m := ⟨_, rfl⟩
  have hm2 : m ≤ 64000 := by rw [← hm]; exact Nat.mul_le_mul h2 hn
  obtain ⟨N, hN⟩ : ∃ N, max m 64 = N := ⟨_, rfl⟩
  have hN2 : N ≤ 64000 := by omega
  obtain ⟨sz, hsz⟩ : ∃ sz, (N + 7) / 8 = sz := ⟨_, rfl⟩
  have hsz8 : 8 ≤ sz := by omega
  have hszm : sz ≤ 8001 := by omega
  have HZ : Hid (szB bits ss.length = sz) := by show _ = _; unfold szB; rw [hm, hN, hsz]
  have hmul : (bits : Int) * (ss.length : Int) = (m : Int) := by rw [← hm]; simp
  have hmax : max (m : Int) 64 = (N : Int) := by omega
  obtain ⟨n8, hn8⟩ : ∃ n8, sz * 8 = n8 := ⟨_, rfl⟩
  have hdiv : ((N : Int) + 7).tdiv 8 = (sz : Int) := by rw [Int.tdiv_eq_ediv_of_nonneg (by omega)]; omega
  have hn8i : (sz : Int) * 8 = (n8 : Int) := by omega
  have hdiv2 : (n8 : Int).tdiv 8 = (sz : Int) := by rw [Int.tdiv_eq_ediv_of_nonneg (by omega)]; omega
  clear hm hN
  go_enter Try.func10, Try.ntmps10
  go_upto_region 3 with fail
  go_cut [8] from 27 to 31 (fun v w' => v = .int .i64 N ∧ w = w')
  case first =>
    go_wp2
    all_goals (go_meet; exact ⟨by congr 1; omega, rfl⟩)
  case rest =>
    obtain ⟨rfl, rfl⟩ := hcut
    go_wp2_with (at_make; refine wpList_make_full _ rfl _ _ 40 rfl w.heap.size 5 i0 (.int .u8 0) 1 Try.underlying40 hi hz0 hz1 .i64 .i64 _ _ sz rfl rfl ?hL ?hC ?b2 ?b3 ?b4 ?_)
    case hL => omega
    case hC => omega
    case b2 => rw [hz2]; omega
    case b3 => unfold maxLen; omega
    case b4 => exact Nat.le_refl _
    intro w1 hown hgrow
    have hb1 : Below w.heap.size w w1 := (Below.refl _ _).grown hgrow (Nat.le_refl _) (fun k hk => by cases hk)
    have hown1 : w1.ownsRow w.heap.size 5 1 (.slice (some ⟨w.heap.size, 0, none⟩) sz sz) sz (Lib.byteCells (fill n8 p [] (List.replicate sz 0))) := by
      rw [toList_madeCells_one] at hown
      unfold fill Lib.byteCells
      rw [List.foldl_nil, List.map_replicate]
      exact hown
    have HO := Lib.hid hown1
    clear hown hown1 hgrow
    go_wp2
    go_loopw [10] (fun iv wr => ∃ k : Nat, k ≤ ss.length ∧ iv = .int .i64 k ∧ wr.ownsRow w.heap.size 5 1 (.slice (some ⟨w.heap.size, 0, none⟩) sz sz) sz (Lib.byteCells (fill n8 p (ss.take k) (List.replicate sz 0))) ∧ Below w.heap.size w wr) (fun iv _ => ss.length - (intOf iv).toNat)
    case atStart => exact ⟨0, Nat.zero_le _, rfl, HO.out, hb1⟩
    case round =>
      obtain ⟨k, hk, rfl, hrow, hB⟩ := hrel
      by_cases hlt : k < ss.length
      · have hcx : wr.cell? ⟨b, off + k, none⟩ = some (.string ss[k]) := (hB.cell (p := ⟨b, off + k, none⟩) hb).trans (HC.out k hlt)
        have hks : ss[k].size ≤ 9223372036854775807 := by have := HSS.out _ (List.getElem_mem hlt); unfold maxLen at this; omega
        have HSN : Hid (ss.take (k + 1) = ss.take k ++ [ss[k]]) := List.take_succ_eq_append_getElem hlt
        generalize ss[k] = key at hcx hks HSN
        have CP := Lib.hid (fun (W : World) => rplaces_any key p n8 W hks h4 (by omega) (by omega))
        have HPL := Lib.hid (plcs_len key.data.toList n8 p)
        have HLT : Hid (∀ x ∈ plcs key.data.toList n8 p, x < n8) := fun x hx => plcs_lt (by omega) hx
        have hwn : IntKind.u64.wrap (n8 : Int) = (n8 : Int) := by rw [IntKind.wrap_u64]; omega
        have HFS : Hid (fill n8 p (ss.take (k + 1)) (List.replicate sz 0) = setAll (fill n8 p (ss.take k) (List.replicate sz 0)) (plcs key.data.toList n8 p)) := by
          show _ = _
          rw [HSN.out, fill_snoc]
        have HST : Hid ((fill n8 p (ss.take k) (List.replicate sz 0)).length = sz) := by show _ = _; rw [fill_len, List.length_replicate]
        obtain ⟨st, hst⟩ : ∃ st, fill n8 p (ss.take k) (List.replicate sz 0) = st := ⟨_, rfl⟩
        rw [hst] at HFS HST hrow
        obtain ⟨pl, hpl⟩ : ∃ pl, plcs key.data.toList n8 p = pl := ⟨_, rfl⟩
        rw [hpl] at HFS HPL HLT CP
        have HB := Lib.hid hB
        have HR := Lib.hid hrow
        clear hst hpl hB hrow HSN
        go_wp2_with (fail)
        go_at_call 20
        refine (CP.out _).mono ?_
        rintro e w2 ⟨v, rfl, hownp, hb2⟩
        obtain ⟨gp, capp, rfl⟩ : ∃ gp capp, v = .slice (some ⟨gp, 0, none⟩) p capp := by
          rcases hownp.2 with ⟨-, hz⟩ | ⟨g, cap', cur, rfl, -⟩
          · omega
          · exact ⟨g, cap', rfl⟩
        have hgp := hownp.lt gp rfl
        have hga := HR.out.lt w.heap.size rfl
        have hne : ¬ (gp = w.heap.size) := by omega
        have hne2 : ¬ (w.heap.size = gp) := by omega
        have HRP : Hid (∀ j x, pl[j]? = some x → w2.cell? ⟨gp, j, none⟩ = some (.int .u64 ((x : Nat) : Int))) := fun j x hx => by
          have hj := (List.getElem?_eq_some_iff.1 hx).1
          rw [HPL.out] at hj
          rw [hownp.cellAt j (by omega)]
          exact cellsU_get pl j x hx
        have HR2 : Hid (w2.ownsRow w.heap.size 5 1 (.slice (some ⟨w.heap.size, 0, none⟩) sz sz) sz (Lib.byteCells st)) :=
          World.ownsRow.kept (row := none) HR.out ⟨hb2.os, hb2.tape, hb2.output, hb2.size, fun k hk _ => hb2.block k hk⟩ (Classical.em _)
        have HB2 := Lib.hid (HB.out.trans (hb2.mono HB.out.size))
        clear CP hownp hb2 HR HB hgp hga hcx
        go_wp2
        go_loopw [12] (fun iv wq => ∃ j : Nat, j ≤ p ∧ iv = .int .i64 j ∧ wq.ownsRow w.heap.size 5 1 (.slice (some ⟨w.heap.size, 0, none⟩) sz sz) sz (Lib.byteCells (setAll st (pl.take j))) ∧ Hid (∀ j x, pl[j]? = some x → wq.cell? ⟨gp, j, none⟩ = some (.int .u64 ((x : Nat) : Int))) ∧ Below w.heap.size w wq) (fun iv _ => p - (intOf iv).toNat)
        case atStart => exact ⟨0, Nat.zero_le _, rfl, HR2.out, HRP, HB2.out⟩
        case round =>
          obtain ⟨j, hj, rfl, hrow, HRQ, hB⟩ := hrel
          by_cases hjl : j < p
          · have hjp : j < pl.length := by rw [HPL.out]; exact hjl
            have HT : Hid (pl.take (j + 1) = pl.take j ++ [pl[j]]) := List.take_succ_eq_append_getElem hjp
            have hcx := HRQ.out j pl[j] (List.getElem?_eq_getElem hjp)
            have hxl := HLT.out pl[j] (List.getElem_mem hjp)
            generalize pl[j] = x at HT hcx hxl
            obtain ⟨L, hL⟩ : ∃ L, setAll st (pl.take j) = L := ⟨_, rfl⟩
            have hLl : L.length = sz := by rw [← hL, setAll_len, HST.out]
            have HSA : Hid (setAll st (pl.take (j + 1)) = setBit L x) := by
              show _ = _
              rw [HT.out, setAll_snoc, hL]
            rw [hL] at hrow
            clear hL HT hjp
            obtain ⟨q, hq⟩ : ∃ q, x / 8 = q := ⟨_, rfl⟩
            obtain ⟨r, hr⟩ : ∃ r, x % 8 = r := ⟨_, rfl⟩
            have hqi : (x : Int) / 8 = (q : Int) := by omega
            have hri : (x : Int) % 8 = (r : Int) := by omega
            have hq2 : q < sz := by omega
            have hq3 : (q : Int) < (sz : Int) := by omega
            have hwq : IntKind.u64.wrap (q : Int) = (q : Int) := by rw [IntKind.wrap_u64]; omega
            have hwr : IntKind.u64.wrap (r : Int) = (r : Int) := by rw [IntKind.wrap_u64]; omega
            have hrt : (x : Int).tmod 8 = (r : Int) := by rw [Int.tmod_eq_emod_of_nonneg (by omega)]; omega
            have hqt : (x : Int).tdiv 8 = (q : Int) := by rw [Int.tdiv_eq_ediv_of_nonneg (by omega)]; omega
            have hcell : wr.cell? ⟨w.heap.size, q, none⟩ = some (.int .u8 ((byteAt L q).toNat : Int)) := by
              rw [hrow.cellAt q (by omega), byteCells_at L q (by omega)]
            have hfz : wr.frozen? ⟨w.heap.size, q, none⟩ = false := hrow.frozenAt q
            have hst3 := hrow.stored q (.int .u8 ((orB (byteAt L q) r).toNat : Int))
            obtain ⟨cc, hcc⟩ : ∃ cc, byteAt L q = cc := ⟨_, rfl⟩
            rw [hcc] at hcell hst3
            have HSB : Hid ((Lib.byteCells L).set q (.int .u8 ((orB cc r).toNat : Int)) = Lib.byteCells (setBit L x)) := by
              show _ = _
              unfold setBit
              rw [hq, hr, hcc]
              exact byteCells_set2 L q _
            have HF := Lib.hid (or_form cc r (by omega))
            rw [HSB.out, ← HSA.out] at hst3
            have HS3 := Lib.hid hst3
            have HNX : Hid (∀ j x, pl[j]? = some x → (wr.setCell ⟨w.heap.size, q, none⟩ (.int .u8 ((orB cc r).toNat : Int))).cell? ⟨gp, j, none⟩ = some (.int .u64 ((x : Nat) : Int))) := fun j' x' hx' => by
              have hold := HRQ.out j' x' hx'
              rw [World.cell?_of_block (hst3.2.block gp (block_lt hold) (by simpa using hne))]
              exact hold
            have HBX : Hid (Below w.heap.size w (wr.setCell ⟨w.heap.size, q, none⟩ (.int .u8 ((orB cc r).toNat : Int)))) := hB.setCell (p := ⟨w.heap.size, q, none⟩) (Nat.le_refl _) _
            have hjI : (j : Int) < (p : Int) := by omega
            clear hcc hst3 HSB HSA hrow HRQ hB hLl HRP HB2 HR2
            go_wp2
            go_region
            rw [HF.out]
            go_wp2
            go_roundw
            case rel => exact ⟨j + 1, by omega, by go_num, ⟨HS3.out.1.1, HS3.out.1.2⟩, HNX, ⟨HBX.out.os, HBX.out.tape, HBX.out.output, HBX.out.size, HBX.out.block⟩⟩
            case measure => simp [intOf]; omega
          · obtain rfl : j = p := by omega
            rw [List.take_of_length_le (by rw [HPL.out]; exact Nat.le_refl _), ← HFS.out] at hrow
            have HR3 := Lib.hid hrow
            clear HPL HLT HFS HST hrow HRQ HRP HB2 HR2
            go_wp2
            go_roundw
            case rel => exact ⟨k + 1, by omega, by go_num, HR3.out, hB⟩
            case measure => simp [intOf]; omega
      · obtain rfl : k = ss.length := by omega
        rw [List.take_length] at hrow
        obtain ⟨L, hL⟩ : ∃ L, fill n8 p ss (List.replicate sz 0) = L := ⟨_, rfl⟩
        have hLl : L.length = sz := by rw [← hL, fill_len, List.length_replicate]
        have HMK : Hid (mkB bits p ss = L ++ [UInt8.ofNat p]) := by
          show _ = _
          unfold mkB
          rw [HZ.out, hn8, hL]
        rw [hL] at hrow
        have e8 : (UInt8.ofNat p).toNat = p := by rw [UInt8.toNat_ofNat']; exact Nat.mod_eq_of_lt (by omega)
        have hpm : (p : Int) % 256 = (p : Int) := by omega
        have hs := hB.size
        clear hL
        go_wp2_with (at_builtin; refine wpList_append_own _ rfl _ _ 40 rfl w.heap.size 5 i0 (.int .u8 0) 1 1 Try.underlying40 hi hz0 hz1 hz2 rfl (by decide) _ _ _ rfl (hrow.alloc _) ⟨wr.heap.size, 0, none⟩ 1 1 [.int .u8 (p : Int)] rfl rfl ?c1 ?c2 ?c3 ?c4 ?c5 ?_)
        case c1 =>
          intro j u hj
          match j, hj with
          | 0, hj => simp at hj; subst hj; simp [Addr.add]
        case c2 => intro u hu; simp at hu; subst hu; rfl
        case c3 => unfold maxLen; omega
        case c4 => omega
        case c5 => simp; omega
        intro v2 w2 hown2 hgrow2 _
        have hb2 : Below w.heap.size w w2 := (hB.alloc hs _).grown hgrow2 (by simp; omega) (fun k hk => (hrow.lt k hk).1)
        have hown3 : w2.ownsRow w.heap.size 5 1 v2 (sz + 1) (Lib.byteCells (L ++ [UInt8.ofNat p])) := by
          unfold Lib.byteCells at hown2 ⊢
          rw [List.map_append, List.map_cons, List.map_nil, e8]
          exact hown2
        have hcv := conv_own9 hown3 (by rw [List.length_append, hLl, List.length_singleton])
        obtain ⟨RS, hRS⟩ : ∃ RS : ByteArray, (⟨(L ++ [UInt8.ofNat p]).toArray⟩ : ByteArray) = RS := ⟨_, rfl⟩
        rw [hRS] at hcv
        have HRS := Lib.hid hRS
        obtain ⟨g2, cap2, rfl⟩ : ∃ g2 cap2, v2 = .slice (some ⟨g2, 0, none⟩) (sz + 1) cap2 := by
          rcases hown3.2 with ⟨-, hz⟩ | ⟨g, cap', cur, rfl, -⟩
          · omega
          · exact ⟨g, cap', rfl⟩
        clear hown2 hown3 hgrow2 hrow hRS
        go_wp2
        go_ret2
        exact ⟨by rw [HMK.out, HRS.out]; rfl, hb2⟩
set_option maxRecDepth 100000 in
set_option maxHeartbeats 2000000 in
theorem rmake_none (bits p : Nat) (a : Option Addr) (cap : Nat) (w : World) (h1 : 1 ≤ bits) (h2 : bits ≤ 64) (h3 : 1 ≤ p) (h4 : p ≤ 20) :
    Calls Try.prog 10 #[.int .i64 bits, .int .i64 p, .slice a 0 cap] w fun e w' => e = .returned (.tuple #[.string ⟨(mkB bits p []).toArray⟩, .int .i64 0]) ∧ Below w.heap.size w w' := by
  obtain ⟨i0, hi, hz0, hz1, hz2⟩ := info_parts infoByte
  have HMK : Hid (mkB bits p [] = List.replicate 8 0 ++ [UInt8.ofNat p]) := by
    show _ = _
    unfold mkB
    rw [show szB bits ([] : List ByteArray).length = 8 from by unfold szB; simp]
    rfl
  go_enter Try.func10, Try.ntmps10
  go_wp2_with (at_make; refine wpList_make_full _ rfl _ _ 40 rfl w.heap.size 5 i0 (.int .u8 0) 1 Try.underlying40 hi hz0 hz1 .i64 .i64 _ _ 8 rfl rfl ?hL ?hC ?b2 ?b3 ?b4 ?_)
  case hL => rfl
  case hC => rfl
  case b2 => rw [hz2]; omega
  case b3 => unfold maxLen; omega
  case b4 => exact Nat.le_refl _
  intro w1 hown hgrow
  have hb1 : Below w.heap.size w w1 := (Below.refl _ _).grown hgrow (Nat.le_refl _) (fun k hk => by cases hk)
  have hrow : w1.ownsRow w.heap.size 5 1 (.slice (some ⟨w.heap.size, 0, none⟩) 8 8) 8 (Lib.byteCells (List.replicate 8 0)) := by
    rw [toList_madeCells_one] at hown
    exact hown
  have hs := hb1.size
  clear hown hgrow
  have e8 : (UInt8.ofNat p).toNat = p := by rw [UInt8.toNat_ofNat']; exact Nat.mod_eq_of_lt (by omega)
  have hpm : (p : Int) % 256 = (p : Int) := by omega
  go_wp2
  refine wp_loop_rounds 1 ?_
  rw [rounds_succ]
  go_wp2_with (at_builtin; refine wpList_append_own _ rfl _ _ 40 rfl w.heap.size 5 i0 (.int .u8 0) 1 1 Try.underlying40 hi hz0 hz1 hz2 rfl (by decide) _ _ _ rfl (hrow.alloc _) ⟨w1.heap.size, 0, none⟩ 1 1 [.int .u8 (p : Int)] rfl rfl ?c1 ?c2 ?c3 ?c4 ?c5 ?_)
  case c1 =>
    intro j u hj
    match j, hj with
    | 0, hj => simp at hj; subst hj; simp [Addr.add]
  case c2 => intro u hu; simp at hu; subst hu; rfl
  case c3 => unfold maxLen; omega
  case c4 => omega
  case c5 => simp; omega
  intro v2 w2 hown2 hgrow2 _
  have hb2 : Below w.heap.size w w2 := (hb1.alloc hs _).grown hgrow2 (by simp; omega) (fun k hk => (hrow.lt k hk).1)
  have hown3 : w2.ownsRow w.heap.size 5 1 v2 (8 + 1) (Lib.byteCells (List.replicate 8 0 ++ [UInt8.ofNat p])) := by
    unfold Lib.byteCells at hown2 ⊢
    rw [List.map_append, List.map_cons, List.map_nil, e8]
    exact hown2
  have hcv := conv_own9 hown3 (by simp)
  obtain ⟨RS, hRS⟩ : ∃ RS : ByteArray, (⟨(List.replicate 8 0 ++ [UInt8.ofNat p]).toArray⟩ : ByteArray) = RS := ⟨_, rfl⟩
  rw [hRS] at hcv
  have HRS := Lib.hid hRS
  obtain ⟨g2, cap2, rfl⟩ : ∃ g2 cap2, v2 = .slice (some ⟨g2, 0, none⟩) (8 + 1) cap2 := by
    rcases hown3.2 with ⟨-, hz⟩ | ⟨g, cap', cur, rfl, -⟩
    · omega
    · exact ⟨g, cap', rfl⟩
  clear hown2 hown3 hgrow2 hrow hRS
  go_wp2
  go_ret2
  exact ⟨by rw [HMK.out, HRS.out]; rfl, hb2⟩
theorem rmake_any (bits p : Nat) (a : Option Addr) (len cap : Nat) (ss : List ByteArray) (w : World) (h1 : 1 ≤ bits) (h2 : bits ≤ 64) (h3 : 1 ≤ p) (h4 : p ≤ 20) (hn : ss.length ≤ 1000) (h : IsRowS w a len ss) :
    Calls Try.prog 10 #[.int .i64 bits, .int .i64 p, .slice a len cap] w fun e w' => e = .returned (.tuple #[.string ⟨(mkB bits p ss).toArray⟩, .int .i64 0]) ∧ Below w.heap.size w w' := by
  obtain ⟨rfl, hss, hrow⟩ := h
  rcases hrow with h0 | ⟨b, off, rfl, hb, hc⟩
  · obtain rfl := List.eq_nil_of_length_eq_zero h0
    exact rmake_none bits p a cap w h1 h2 h3 h4
  · exact rmake_rows bits p b off cap ss w h1 h2 h3 h4 hn hss hb hc
end Go.Proofs.Ytdbdifbcfplegaa
