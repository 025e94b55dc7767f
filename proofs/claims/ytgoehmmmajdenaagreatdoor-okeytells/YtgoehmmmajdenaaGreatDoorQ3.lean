/- The document's own Put. -/
import Derived.Test.YtgoehmmmajdenaaGreatDoorQ2
import Derived.Test.YtgoehmmmajdenaaGreatDoorK7
import Derived.Laws.AppendOwnNone
namespace Go.Proofs.YtgoehmmmajdenaaGreatDoor
open Go.RowKit

theorem refKey_list (s : List UInt8) (w : World) (hs : s.length < 4294967281) :
    Calls Tryz.prog 18 #[.string ⟨s.toArray⟩] w fun e w' => e = .returned (.string ⟨(key s).toArray⟩) ∧ Below w.heap.size w w' := refKey_any ⟨s.toArray⟩ w hs

set_option maxHeartbeats 2000000 in
set_option maxRecDepth 100000 in
theorem refPut_good (b off cap : Nat) (ps : List Prt) (w : World) (hlen : ps.length ≤ 1000000) (hgood : ∀ i (h : i < ps.length), i < ps.length → okKind ps[i].kind) (hfit : ∀ p ∈ ps, p.Fits)
    (hc : ∀ i (h : i < ps.length) j u, (ps[i]).cells[j]? = some u → w.cell? ⟨b, off + i * 4 + j, none⟩ = some u) (hb : b < w.heap.size) :
    Calls Tryz.prog 7 #[.slice (some ⟨b, off, none⟩) ps.length cap] w fun e w' => e = .returned (.tuple #[.string ⟨(layAll ps).toArray⟩, .int .i64 0]) ∧ Below w.heap.size w w' := by
  obtain ⟨i0, hi, hz0, hz1, hz2⟩ := info_parts infoByte
  go_enter Tryz.func7, Tryz.ntmps7
  go_wp2
  go_loopw [4, 5] (fun vb i wr => ∃ k : Nat, k ≤ ps.length ∧ i = .int .i64 k ∧ wr.ownsRow w.heap.size 5 1 vb (layAll (ps.take k)).length (Lib.byteCells (layAll (ps.take k))) ∧ Below w.heap.size w wr) (fun _ i _ => ps.length - (intOf i).toNat)
  case atStart => exact ⟨0, Nat.zero_le _, rfl, by simpa [layAll, Lib.byteCells] using World.ownsRow_nil w _ _ _, Below.refl _ _⟩
  case round =>
    obtain ⟨k, hk, rfl, hown, hbel⟩ := hrel
    by_cases hlt : k < ps.length
    · skip
      have hkl : k < ps.length := by omega
      obtain ⟨cx0, cx1, cx2, cx3⟩ := row_cells hc k hkl
      rw [← hbel.cell (by exact hb)] at cx0 cx1 cx2 cx3
      have hf := hfit _ (List.getElem_mem hkl)
      have hok := hgood k hkl (by omega)
      have HT := Lib.hid (show layAll (ps.take (k + 1)) = layAll (ps.take k) ++ layPart ps[k] by rw [List.take_succ_eq_append_getElem hkl, layAll_snoc])
      have hl0 : (layAll (ps.take k)).length ≤ 2000010 * (ps.take k).length := layAll_length _ (fun p hp => hfit p (List.mem_of_mem_take hp))
      have hl1 : (layAll (ps.take k)).length + (layPart ps[k]).length ≤ 140737488355328 := by
        have h1 := layPart_length ps[k]
        have h2 : (ps.take k).length ≤ k := List.length_take_le _ _
        have h3 := hf.2.2.2
        omega
      clear hl0
      generalize layAll (ps.take k) = E at hown HT hl1
      generalize ps[k] = p at cx0 cx1 cx2 cx3 hf hok HT hl1
      obtain ⟨kd, sx, n, ii⟩ := p
      simp only at cx0 cx1 cx2 cx3 hok
      obtain ⟨hf1, hf2, hf3, hf4⟩ := hf
      simp only at hf1 hf2 hf3 hf4
      have hi1 : (k : Int) < (ps.length : Int) := by omega
      by_cases h1 : kd = 1
      · subst h1
        have HL := Lib.hid (show layPart ⟨1, sx, n, ii⟩ = key sx from rfl)
        rw [HL.out] at hl1
        go_wp2_with (first | (go_at_call 18; refine (refKey_list sx _ (by omega)).mono ?_; rintro e w1 ⟨rfl, hb1⟩; have hown1 := own_below hown hb1; have hbel1 : Below w.heap.size w w1 := hbel.trans (hb1.mono hbel.size)) | (at_builtin; refine Lib.wpList_append_own_string _ rfl _ _ 68 9 rfl w.heap.size 5 i0 Tryz.underlying68 Tryz.underlying9 hi hz0 hz1 hz2 _ _ _ rfl hown1 _ rfl ?c1 ?c2 ?c3 ?_))
        case c1 =>
          have hz : (⟨(key sx).toArray⟩ : ByteArray).size = (key sx).length := rfl
          unfold maxLen
          omega
        case c2 =>
          have hz : (⟨(key sx).toArray⟩ : ByteArray).size = (key sx).length := rfl
          omega
        case c3 => have := hbel1.size; omega
        intro v' w2 hown' hgrow _
        have hbel2 : Below w.heap.size w w2 := hbel1.grown hgrow hbel1.size (fun k hk => (hown1.lt k hk).1)
        clear hgrow
        go_wp2
        go_roundw
        case rel =>
          refine ⟨k + 1, by omega, by go_num, ?_, hbel2⟩
          rw [HT.out, HL.out, List.length_append, Lib.byteCells_append]
          exact hown'
        case measure => simp [intOf]; omega
      · have hd1 : (kd == 1) = false := by simpa using h1
        by_cases h2 : kd = 2
        · subst h2
          have HL := Lib.hid (show layPart ⟨2, sx, n, ii⟩ = be n 8 from rfl)
          rw [HL.out] at hl1
          go_wp2_with (first | (go_at_call 20; refine (refNum_any n _ hf1).mono ?_; rintro e w1 ⟨rfl, hb1⟩; have hown1 := own_below hown hb1; have hbel1 : Below w.heap.size w w1 := hbel.trans (hb1.mono hbel.size)) | (at_builtin; refine Lib.wpList_append_own_string _ rfl _ _ 68 9 rfl w.heap.size 5 i0 Tryz.underlying68 Tryz.underlying9 hi hz0 hz1 hz2 _ _ _ rfl hown1 _ rfl ?c1 ?c2 ?c3 ?_))
          case c1 =>
            have hz : (⟨(be n 8).toArray⟩ : ByteArray).size = (be n 8).length := rfl
            unfold maxLen
            omega
          case c2 =>
            have hz : (⟨(be n 8).toArray⟩ : ByteArray).size = (be n 8).length := rfl
            omega
          case c3 => have := hbel1.size; omega
          intro v' w2 hown' hgrow _
          have hbel2 : Below w.heap.size w w2 := hbel1.grown hgrow hbel1.size (fun k hk => (hown1.lt k hk).1)
          clear hgrow
          go_wp2
          go_roundw
          case rel =>
            refine ⟨k + 1, by omega, by go_num, ?_, hbel2⟩
            rw [HT.out, HL.out, List.length_append, Lib.byteCells_append]
            exact hown'
          case measure => simp [intOf]; omega
        · have h3 : kd = 3 := by have := hok.1; have := hok.2; omega
          subst h3
          have HL := Lib.hid (show layPart ⟨3, sx, n, ii⟩ = be (turn ii) 8 from rfl)
          rw [HL.out] at hl1
          go_wp2_with (first | (go_at_call 22; refine (refInt_any ii _ hf2 hf3).mono ?_; rintro e w1 ⟨rfl, hb1⟩; have hown1 := own_below hown hb1; have hbel1 : Below w.heap.size w w1 := hbel.trans (hb1.mono hbel.size)) | (at_builtin; refine Lib.wpList_append_own_string _ rfl _ _ 68 9 rfl w.heap.size 5 i0 Tryz.underlying68 Tryz.underlying9 hi hz0 hz1 hz2 _ _ _ rfl hown1 _ rfl ?c1 ?c2 ?c3 ?_))
          case c1 =>
            have hz : (⟨(be (turn ii) 8).toArray⟩ : ByteArray).size = (be (turn ii) 8).length := rfl
            unfold maxLen
            omega
          case c2 =>
            have hz : (⟨(be (turn ii) 8).toArray⟩ : ByteArray).size = (be (turn ii) 8).length := rfl
            omega
          case c3 => have := hbel1.size; omega
          intro v' w2 hown' hgrow _
          have hbel2 : Below w.heap.size w w2 := hbel1.grown hgrow hbel1.size (fun k hk => (hown1.lt k hk).1)
          clear hgrow
          go_wp2
          go_roundw
          case rel =>
            refine ⟨k + 1, by omega, by go_num, ?_, hbel2⟩
            rw [HT.out, HL.out, List.length_append, Lib.byteCells_append]
            exact hown'
          case measure => simp [intOf]; omega
    · have hke : k = ps.length := by omega
      subst hke
      rw [List.take_length] at hown
      have hcv := conv_own hown rfl
      go_wp2
      go_ret2
      exact ⟨rfl, hbel⟩

set_option maxHeartbeats 2000000 in
set_option maxRecDepth 100000 in
theorem refPut_bad (b off cap j : Nat) (ps : List Prt) (w : World) (hlen : ps.length ≤ 1000000) (hj : j < ps.length) (hbad : ¬ okKind ps[j].kind) (hgood : ∀ i (h : i < ps.length), i < j → okKind ps[i].kind) (hfit : ∀ p ∈ ps, p.Fits)
    (hc : ∀ i (h : i < ps.length) j u, (ps[i]).cells[j]? = some u → w.cell? ⟨b, off + i * 4 + j, none⟩ = some u) (hb : b < w.heap.size) :
    Calls Tryz.prog 7 #[.slice (some ⟨b, off, none⟩) ps.length cap] w fun e w' => e = .returned (.tuple #[.string ⟨#[]⟩, .int .i64 1]) ∧ Below w.heap.size w w' := by
  obtain ⟨i0, hi, hz0, hz1, hz2⟩ := info_parts infoByte
  go_enter Tryz.func7, Tryz.ntmps7
  go_wp2
  go_loopw [4, 5] (fun vb i wr => ∃ k : Nat, k ≤ j ∧ i = .int .i64 k ∧ wr.ownsRow w.heap.size 5 1 vb (layAll (ps.take k)).length (Lib.byteCells (layAll (ps.take k))) ∧ Below w.heap.size w wr) (fun _ i _ => j - (intOf i).toNat)
  case atStart => exact ⟨0, Nat.zero_le _, rfl, by simpa [layAll, Lib.byteCells] using World.ownsRow_nil w _ _ _, Below.refl _ _⟩
  case round =>
    obtain ⟨k, hk, rfl, hown, hbel⟩ := hrel
    by_cases hlt : k < j
    · skip
      have hkl : k < ps.length := by omega
      obtain ⟨cx0, cx1, cx2, cx3⟩ := row_cells hc k hkl
      rw [← hbel.cell (by exact hb)] at cx0 cx1 cx2 cx3
      have hf := hfit _ (List.getElem_mem hkl)
      have hok := hgood k hkl (by omega)
      have HT := Lib.hid (show layAll (ps.take (k + 1)) = layAll (ps.take k) ++ layPart ps[k] by rw [List.take_succ_eq_append_getElem hkl, layAll_snoc])
      have hl0 : (layAll (ps.take k)).length ≤ 2000010 * (ps.take k).length := layAll_length _ (fun p hp => hfit p (List.mem_of_mem_take hp))
      have hl1 : (layAll (ps.take k)).length + (layPart ps[k]).length ≤ 140737488355328 := by
        have h1 := layPart_length ps[k]
        have h2 : (ps.take k).length ≤ k := List.length_take_le _ _
        have h3 := hf.2.2.2
        omega
      clear hl0
      generalize layAll (ps.take k) = E at hown HT hl1
      generalize ps[k] = p at cx0 cx1 cx2 cx3 hf hok HT hl1
      obtain ⟨kd, sx, n, ii⟩ := p
      simp only at cx0 cx1 cx2 cx3 hok
      obtain ⟨hf1, hf2, hf3, hf4⟩ := hf
      simp only at hf1 hf2 hf3 hf4
      have hi1 : (k : Int) < (ps.length : Int) := by omega
      by_cases h1 : kd = 1
      · subst h1
        have HL := Lib.hid (show layPart ⟨1, sx, n, ii⟩ = key sx from rfl)
        rw [HL.out] at hl1
        go_wp2_with (first | (go_at_call 18; refine (refKey_list sx _ (by omega)).mono ?_; rintro e w1 ⟨rfl, hb1⟩; have hown1 := own_below hown hb1; have hbel1 : Below w.heap.size w w1 := hbel.trans (hb1.mono hbel.size)) | (at_builtin; refine Lib.wpList_append_own_string _ rfl _ _ 68 9 rfl w.heap.size 5 i0 Tryz.underlying68 Tryz.underlying9 hi hz0 hz1 hz2 _ _ _ rfl hown1 _ rfl ?c1 ?c2 ?c3 ?_))
        case c1 =>
          have hz : (⟨(key sx).toArray⟩ : ByteArray).size = (key sx).length := rfl
          unfold maxLen
          omega
        case c2 =>
          have hz : (⟨(key sx).toArray⟩ : ByteArray).size = (key sx).length := rfl
          omega
        case c3 => have := hbel1.size; omega
        intro v' w2 hown' hgrow _
        have hbel2 : Below w.heap.size w w2 := hbel1.grown hgrow hbel1.size (fun k hk => (hown1.lt k hk).1)
        clear hgrow
        go_wp2
        go_roundw
        case rel =>
          refine ⟨k + 1, by omega, by go_num, ?_, hbel2⟩
          rw [HT.out, HL.out, List.length_append, Lib.byteCells_append]
          exact hown'
        case measure => simp [intOf]; omega
      · have hd1 : (kd == 1) = false := by simpa using h1
        by_cases h2 : kd = 2
        · subst h2
          have HL := Lib.hid (show layPart ⟨2, sx, n, ii⟩ = be n 8 from rfl)
          rw [HL.out] at hl1
          go_wp2_with (first | (go_at_call 20; refine (refNum_any n _ hf1).mono ?_; rintro e w1 ⟨rfl, hb1⟩; have hown1 := own_below hown hb1; have hbel1 : Below w.heap.size w w1 := hbel.trans (hb1.mono hbel.size)) | (at_builtin; refine Lib.wpList_append_own_string _ rfl _ _ 68 9 rfl w.heap.size 5 i0 Tryz.underlying68 Tryz.underlying9 hi hz0 hz1 hz2 _ _ _ rfl hown1 _ rfl ?c1 ?c2 ?c3 ?_))
          case c1 =>
            have hz : (⟨(be n 8).toArray⟩ : ByteArray).size = (be n 8).length := rfl
            unfold maxLen
            omega
          case c2 =>
            have hz : (⟨(be n 8).toArray⟩ : ByteArray).size = (be n 8).length := rfl
            omega
          case c3 => have := hbel1.size; omega
          intro v' w2 hown' hgrow _
          have hbel2 : Below w.heap.size w w2 := hbel1.grown hgrow hbel1.size (fun k hk => (hown1.lt k hk).1)
          clear hgrow
          go_wp2
          go_roundw
          case rel =>
            refine ⟨k + 1, by omega, by go_num, ?_, hbel2⟩
            rw [HT.out, HL.out, List.length_append, Lib.byteCells_append]
            exact hown'
          case measure => simp [intOf]; omega
        · have h3 : kd = 3 := by have := hok.1; have := hok.2; omega
          subst h3
          have HL := Lib.hid (show layPart ⟨3, sx, n, ii⟩ = be (turn ii) 8 from rfl)
          rw [HL.out] at hl1
          go_wp2_with (first | (go_at_call 22; refine (refInt_any ii _ hf2 hf3).mono ?_; rintro e w1 ⟨rfl, hb1⟩; have hown1 := own_below hown hb1; have hbel1 : Below w.heap.size w w1 := hbel.trans (hb1.mono hbel.size)) | (at_builtin; refine Lib.wpList_append_own_string _ rfl _ _ 68 9 rfl w.heap.size 5 i0 Tryz.underlying68 Tryz.underlying9 hi hz0 hz1 hz2 _ _ _ rfl hown1 _ rfl ?c1 ?c2 ?c3 ?_))
          case c1 =>
            have hz : (⟨(be (turn ii) 8).toArray⟩ : ByteArray).size = (be (turn ii) 8).length := rfl
            unfold maxLen
            omega
          case c2 =>
            have hz : (⟨(be (turn ii) 8).toArray⟩ : ByteArray).size = (be (turn ii) 8).length := rfl
            omega
          case c3 => have := hbel1.size; omega
          intro v' w2 hown' hgrow _
          have hbel2 : Below w.heap.size w w2 := hbel1.grown hgrow hbel1.size (fun k hk => (hown1.lt k hk).1)
          clear hgrow
          go_wp2
          go_roundw
          case rel =>
            refine ⟨k + 1, by omega, by go_num, ?_, hbel2⟩
            rw [HT.out, HL.out, List.length_append, Lib.byteCells_append]
            exact hown'
          case measure => simp [intOf]; omega
    · have hke : k = j := by omega
      subst hke
      obtain ⟨cx0, cx1, cx2, cx3⟩ := row_cells hc k hj
      rw [← hbel.cell (by exact hb)] at cx0 cx1 cx2 cx3
      have hn : ps[k].kind ≠ 1 ∧ ps[k].kind ≠ 2 ∧ ps[k].kind ≠ 3 := by unfold okKind at hbad; omega
      have hi1 : (k : Int) < (ps.length : Int) := by omega
      clear hown
      generalize ps[k] = p at cx0 cx1 cx2 cx3 hn
      obtain ⟨kd, sx, n, ii⟩ := p
      simp only at cx0 cx1 cx2 cx3 hn
      have hd1 : (kd == 1) = false := by simpa using hn.1
      have hd2 : (kd == 2) = false := by simpa using hn.2.1
      have hd3 : (kd == 3) = false := by simpa using hn.2.2
      clear hn
      go_wp2
      go_ret2
      exact ⟨rfl, hbel⟩

set_option maxHeartbeats 1000000 in
set_option maxRecDepth 100000 in
theorem refPut_none (a : Option Addr) (cap : Nat) (w : World) :
    Calls Tryz.prog 7 #[.slice a 0 cap] w fun e w' => e = .returned (.tuple #[.string ⟨#[]⟩, .int .i64 0]) ∧ Below w.heap.size w w' := by
  have hcv := Lib.run_convert_nil_bytes (P := Tryz.prog) w 68 9 5 0 Tryz.underlying68 Tryz.underlying5 Tryz.underlying9
  go_enter Tryz.func7, Tryz.ntmps7
  go_wp2
  refine wp_loop_rounds 1 ?_
  rw [rounds_succ]
  go_wp2
  go_ret2
  exact ⟨rfl, Below.refl _ _⟩

theorem refPut_any (a : Option Addr) (cap : Nat) (ps : List Prt) (w : World) (hlen : ps.length ≤ 1000000) (hfit : ∀ p ∈ ps, p.Fits) (hr : IsRowP w a ps) :
    Calls Tryz.prog 7 #[.slice a ps.length cap] w fun e w' => e = .returned (putVal ps) ∧ Below w.heap.size w w' := by
  rcases hr with rfl | ⟨b, off, rfl, hc⟩
  · exact refPut_none a cap w
  · rcases first_bad (ps.map Prt.kind) with h | ⟨j, hj, h1, h2⟩
    · rw [putVal, if_pos h]
      rcases Nat.eq_zero_or_pos ps.length with h0 | h0
      · obtain rfl := List.eq_nil_of_length_eq_zero h0
        exact refPut_none _ cap w
      · exact refPut_good b off cap ps w hlen (fun i hi _ => h _ (List.mem_map.2 ⟨_, List.getElem_mem hi, rfl⟩)) hfit hc (block_lt (row_cells hc 0 h0).1)
    · rw [putVal, if_neg (fun h => h1 (h _ (List.getElem_mem hj)))]
      have hj' : j < ps.length := by simpa using hj
      rw [List.getElem_map] at h1
      exact refPut_bad b off cap j ps w hlen hj' h1 (fun i hi hij => by
        have := h2 i (by simpa using hi) hij
        rw [List.getElem_map] at this
        exact this) hfit hc (block_lt (row_cells hc j hj').1)
end Go.Proofs.YtgoehmmmajdenaaGreatDoor
