/- The statements' Book where lists of the kinds Texts were kept, each as it was: Apart returns true. -/
import Derived.Test.YtfndlfnlepndmaaGreatOtTexts
import Derived.Test.YtfndlfnlepndmaaGreatOeT
namespace Go.Proofs.YtfndlfnlepndmaaGreat
open Go.RowKit

def isNilOaT (j : Nat) : Bool := decide (j < 28) && !(decide (j = 0) || decide (j = 1))
set_option maxHeartbeats 8000000 in
set_option maxRecDepth 100000 in
theorem apartOaT_any (B b : Nat) (cs : List Value) (V0 W0 : Value) (rows0 was0 : List (Value × List ByteArray)) (R : List Rw) (w : World)
    (hown : Own B w (bookR b cs :: (keptTexts V0 W0 rows0 was0 ++ R))) (hv0 : cs[0]? = some V0) (hw0 : cs[1]? = some W0) (hf0 : FitsTexts rows0 was0)
    (hnil : ∀ j, isNilOaT j = true → cs[j]? = some (.slice none 0 0)) (hB : B ≤ w.heap.size) :
    Calls Tryz.prog 19 #[.pointer (some ⟨b, 0, none⟩)] w fun e w' => e = .returned (.bool true) ∧ Below B w w' := by
  have hcell : ∀ (w' : World) (rs : List Rw), Own B w' rs → bookR b cs ∈ rs → Hid (∀ j, isNilOaT j = true → w'.cell? ⟨b, j, none⟩ = some (.slice none 0 0)) := by
    intro w' rs h hm j hj
    exact (h.1 _ hm).cell rfl j _ (hnil j hj)
  have HNIL := Lib.hid hcell
  have HO0 := Lib.hid hown
  have HB0 := Lib.hid (Below.refl B w)
  have HF0 := Lib.hid hf0
  have HV0 := Lib.hid hv0
  have HW0 := Lib.hid hw0
  clear hcell hown hnil hf0 hv0 hw0
  go_enter Tryz.func19, Tryz.ntmps19
  have hn0 := HNIL.out _ _ HO0.out (by simp)
  go_wp2_with (first | (go_at_call 58; (with_reducible refine (stillInts_none b _ (hn0.out 2 (by decide))).mono ?_); rintro e w' ⟨rfl, rfl⟩) | (go_at_call 59; (with_reducible refine (stillNums_none b _ (hn0.out 4 (by decide))).mono ?_); rintro e w' ⟨rfl, rfl⟩) | (go_at_call 60; (with_reducible refine (stillEntries_none b _ (hn0.out 6 (by decide))).mono ?_); rintro e w' ⟨rfl, rfl⟩) | (go_at_call 61; (with_reducible refine (stillPairs_none b _ (hn0.out 8 (by decide))).mono ?_); rintro e w' ⟨rfl, rfl⟩) | (go_at_call 62; (with_reducible refine (stillWrites_none b _ (hn0.out 10 (by decide))).mono ?_); rintro e w' ⟨rfl, rfl⟩) | (go_at_call 63; (with_reducible refine (stillTables_none b _ (hn0.out 12 (by decide))).mono ?_); rintro e w' ⟨rfl, rfl⟩) | (go_at_call 64; (with_reducible refine (stillDots_none b _ (hn0.out 14 (by decide))).mono ?_); rintro e w' ⟨rfl, rfl⟩) | (go_at_call 65; (with_reducible refine (stillSpans_none b _ (hn0.out 16 (by decide))).mono ?_); rintro e w' ⟨rfl, rfl⟩) | (go_at_call 66; (with_reducible refine (stillItems_none b _ (hn0.out 18 (by decide))).mono ?_); rintro e w' ⟨rfl, rfl⟩) | (go_at_call 67; (with_reducible refine (stillParts_none b _ (hn0.out 20 (by decide))).mono ?_); rintro e w' ⟨rfl, rfl⟩) | (go_at_call 68; (with_reducible refine (stillBatches_none b _ (hn0.out 22 (by decide))).mono ?_); rintro e w' ⟨rfl, rfl⟩) | (go_at_call 69; (with_reducible refine (stillPackets_none b _ (hn0.out 24 (by decide))).mono ?_); rintro e w' ⟨rfl, rfl⟩) | (go_at_call 70; (with_reducible refine (stillSteps_none b _ (hn0.out 26 (by decide))).mono ?_); rintro e w' ⟨rfl, rfl⟩) | fail)
  (with_reducible refine (stillTexts_tot (HO0.out) HV0.out HW0.out HF0.out).mono ?_)
  rintro e w1 ⟨rfl, hb1⟩
  have HO1 := Lib.hid (HO0.out.below hb1)
  have HB1 := Lib.hid (HB0.out.trans (hb1.mono (Nat.le_trans hB HB0.out.size)))
  clear hb1 hn0 HO0 HB0
  have hn1 := HNIL.out _ _ HO1.out (by simp)
  go_wp2_with (first | (go_at_call 58; (with_reducible refine (stillInts_none b _ (hn1.out 2 (by decide))).mono ?_); rintro e w' ⟨rfl, rfl⟩) | (go_at_call 59; (with_reducible refine (stillNums_none b _ (hn1.out 4 (by decide))).mono ?_); rintro e w' ⟨rfl, rfl⟩) | (go_at_call 60; (with_reducible refine (stillEntries_none b _ (hn1.out 6 (by decide))).mono ?_); rintro e w' ⟨rfl, rfl⟩) | (go_at_call 61; (with_reducible refine (stillPairs_none b _ (hn1.out 8 (by decide))).mono ?_); rintro e w' ⟨rfl, rfl⟩) | (go_at_call 62; (with_reducible refine (stillWrites_none b _ (hn1.out 10 (by decide))).mono ?_); rintro e w' ⟨rfl, rfl⟩) | (go_at_call 63; (with_reducible refine (stillTables_none b _ (hn1.out 12 (by decide))).mono ?_); rintro e w' ⟨rfl, rfl⟩) | (go_at_call 64; (with_reducible refine (stillDots_none b _ (hn1.out 14 (by decide))).mono ?_); rintro e w' ⟨rfl, rfl⟩) | (go_at_call 65; (with_reducible refine (stillSpans_none b _ (hn1.out 16 (by decide))).mono ?_); rintro e w' ⟨rfl, rfl⟩) | (go_at_call 66; (with_reducible refine (stillItems_none b _ (hn1.out 18 (by decide))).mono ?_); rintro e w' ⟨rfl, rfl⟩) | (go_at_call 67; (with_reducible refine (stillParts_none b _ (hn1.out 20 (by decide))).mono ?_); rintro e w' ⟨rfl, rfl⟩) | (go_at_call 68; (with_reducible refine (stillBatches_none b _ (hn1.out 22 (by decide))).mono ?_); rintro e w' ⟨rfl, rfl⟩) | (go_at_call 69; (with_reducible refine (stillPackets_none b _ (hn1.out 24 (by decide))).mono ?_); rintro e w' ⟨rfl, rfl⟩) | (go_at_call 70; (with_reducible refine (stillSteps_none b _ (hn1.out 26 (by decide))).mono ?_); rintro e w' ⟨rfl, rfl⟩) | (go_at_call 74; (with_reducible refine (putInts_none b _ (hn1.out 2 (by decide))).mono ?_); rintro e w' ⟨rfl, rfl⟩) | (go_at_call 75; (with_reducible refine (putNums_none b _ (hn1.out 4 (by decide))).mono ?_); rintro e w' ⟨rfl, rfl⟩) | (go_at_call 76; (with_reducible refine (putEntries_none b _ (hn1.out 6 (by decide))).mono ?_); rintro e w' ⟨rfl, rfl⟩) | (go_at_call 77; (with_reducible refine (putPairs_none b _ (hn1.out 8 (by decide))).mono ?_); rintro e w' ⟨rfl, rfl⟩) | (go_at_call 78; (with_reducible refine (putWrites_none b _ (hn1.out 10 (by decide))).mono ?_); rintro e w' ⟨rfl, rfl⟩) | (go_at_call 79; (with_reducible refine (putTables_none b _ (hn1.out 12 (by decide))).mono ?_); rintro e w' ⟨rfl, rfl⟩) | (go_at_call 80; (with_reducible refine (putDots_none b _ (hn1.out 14 (by decide))).mono ?_); rintro e w' ⟨rfl, rfl⟩) | (go_at_call 81; (with_reducible refine (putSpans_none b _ (hn1.out 16 (by decide))).mono ?_); rintro e w' ⟨rfl, rfl⟩) | (go_at_call 82; (with_reducible refine (putItems_none b _ (hn1.out 18 (by decide))).mono ?_); rintro e w' ⟨rfl, rfl⟩) | (go_at_call 83; (with_reducible refine (putParts_none b _ (hn1.out 20 (by decide))).mono ?_); rintro e w' ⟨rfl, rfl⟩) | (go_at_call 71; (with_reducible refine (putBatches_none b _ (hn1.out 22 (by decide))).mono ?_); rintro e w' ⟨rfl, rfl⟩) | (go_at_call 84; (with_reducible refine (putPackets_none b _ (hn1.out 24 (by decide))).mono ?_); rintro e w' ⟨rfl, rfl⟩) | (go_at_call 72; (with_reducible refine (putSteps_none b _ (hn1.out 26 (by decide))).mono ?_); rintro e w' ⟨rfl, rfl⟩) | fail)
  (with_reducible refine (putTexts_tot (HO1.out) HV0.out HF0.out (Nat.le_trans hB HB1.out.size)).mono ?_)
  rintro e w2 ⟨rfl, ho, hb2⟩
  have HO2 := Lib.hid (show Own B w2 (bookR b cs :: (keptTexts V0 W0 (markAllTexts rows0) was0 ++ R)) from ho)
  have HB2 := Lib.hid (HB1.out.trans hb2)
  clear ho hb2 hn1 HO1 HB1
  have hn2 := HNIL.out _ _ HO2.out (by simp)
  go_wp2_with (first | (go_at_call 74; (with_reducible refine (putInts_none b _ (hn2.out 2 (by decide))).mono ?_); rintro e w' ⟨rfl, rfl⟩) | (go_at_call 75; (with_reducible refine (putNums_none b _ (hn2.out 4 (by decide))).mono ?_); rintro e w' ⟨rfl, rfl⟩) | (go_at_call 76; (with_reducible refine (putEntries_none b _ (hn2.out 6 (by decide))).mono ?_); rintro e w' ⟨rfl, rfl⟩) | (go_at_call 77; (with_reducible refine (putPairs_none b _ (hn2.out 8 (by decide))).mono ?_); rintro e w' ⟨rfl, rfl⟩) | (go_at_call 78; (with_reducible refine (putWrites_none b _ (hn2.out 10 (by decide))).mono ?_); rintro e w' ⟨rfl, rfl⟩) | (go_at_call 79; (with_reducible refine (putTables_none b _ (hn2.out 12 (by decide))).mono ?_); rintro e w' ⟨rfl, rfl⟩) | (go_at_call 80; (with_reducible refine (putDots_none b _ (hn2.out 14 (by decide))).mono ?_); rintro e w' ⟨rfl, rfl⟩) | (go_at_call 81; (with_reducible refine (putSpans_none b _ (hn2.out 16 (by decide))).mono ?_); rintro e w' ⟨rfl, rfl⟩) | (go_at_call 82; (with_reducible refine (putItems_none b _ (hn2.out 18 (by decide))).mono ?_); rintro e w' ⟨rfl, rfl⟩) | (go_at_call 83; (with_reducible refine (putParts_none b _ (hn2.out 20 (by decide))).mono ?_); rintro e w' ⟨rfl, rfl⟩) | (go_at_call 71; (with_reducible refine (putBatches_none b _ (hn2.out 22 (by decide))).mono ?_); rintro e w' ⟨rfl, rfl⟩) | (go_at_call 84; (with_reducible refine (putPackets_none b _ (hn2.out 24 (by decide))).mono ?_); rintro e w' ⟨rfl, rfl⟩) | (go_at_call 72; (with_reducible refine (putSteps_none b _ (hn2.out 26 (by decide))).mono ?_); rintro e w' ⟨rfl, rfl⟩) | (go_at_call 86; (with_reducible refine (growInts_none b _ (hn2.out 2 (by decide))).mono ?_); rintro e w' ⟨rfl, rfl⟩) | (go_at_call 87; (with_reducible refine (growNums_none b _ (hn2.out 4 (by decide))).mono ?_); rintro e w' ⟨rfl, rfl⟩) | (go_at_call 88; (with_reducible refine (growEntries_none b _ (hn2.out 6 (by decide))).mono ?_); rintro e w' ⟨rfl, rfl⟩) | (go_at_call 89; (with_reducible refine (growPairs_none b _ (hn2.out 8 (by decide))).mono ?_); rintro e w' ⟨rfl, rfl⟩) | (go_at_call 90; (with_reducible refine (growWrites_none b _ (hn2.out 10 (by decide))).mono ?_); rintro e w' ⟨rfl, rfl⟩) | (go_at_call 91; (with_reducible refine (growTables_none b _ (hn2.out 12 (by decide))).mono ?_); rintro e w' ⟨rfl, rfl⟩) | (go_at_call 92; (with_reducible refine (growDots_none b _ (hn2.out 14 (by decide))).mono ?_); rintro e w' ⟨rfl, rfl⟩) | (go_at_call 93; (with_reducible refine (growSpans_none b _ (hn2.out 16 (by decide))).mono ?_); rintro e w' ⟨rfl, rfl⟩) | (go_at_call 94; (with_reducible refine (growItems_none b _ (hn2.out 18 (by decide))).mono ?_); rintro e w' ⟨rfl, rfl⟩) | (go_at_call 95; (with_reducible refine (growParts_none b _ (hn2.out 20 (by decide))).mono ?_); rintro e w' ⟨rfl, rfl⟩) | (go_at_call 96; (with_reducible refine (growBatches_none b _ (hn2.out 22 (by decide))).mono ?_); rintro e w' ⟨rfl, rfl⟩) | (go_at_call 97; (with_reducible refine (growPackets_none b _ (hn2.out 24 (by decide))).mono ?_); rintro e w' ⟨rfl, rfl⟩) | (go_at_call 98; (with_reducible refine (growSteps_none b _ (hn2.out 26 (by decide))).mono ?_); rintro e w' ⟨rfl, rfl⟩) | fail)
  (with_reducible refine (growTexts_tot (HO2.out) HV0.out (by rw [markAllTexts_length]; exact HF0.out.len) (markAllTexts_few HF0.out.few) (markAllTexts_marked _) (Nat.le_trans hB HB2.out.size)).mono ?_)
  rintro e w3 ⟨G0, gr0, ol0, rfl, ho, hl0, hm0, hc0, hb3⟩
  have HO3 := Lib.hid (show Own B w3 (bookR b cs :: (grewTexts V0 W0 G0 (markAllTexts rows0) was0 gr0 ol0 ++ R)) from ho)
  have HB3 := Lib.hid (HB2.out.trans hb3)
  have HL0 := Lib.hid hl0
  have HM0 := Lib.hid hm0
  have HC0 := Lib.hid hc0
  clear ho hb3 hn2 HO2 HB2 hl0 hm0 hc0
  have hn3 := HNIL.out _ _ HO3.out (by simp)
  have hx2 := hn3.out 2 (by decide)
  have hx4 := hn3.out 4 (by decide)
  have hx6 := hn3.out 6 (by decide)
  have hx8 := hn3.out 8 (by decide)
  have hx10 := hn3.out 10 (by decide)
  have hx12 := hn3.out 12 (by decide)
  have hx14 := hn3.out 14 (by decide)
  have hx16 := hn3.out 16 (by decide)
  have hx18 := hn3.out 18 (by decide)
  have hx20 := hn3.out 20 (by decide)
  have hx22 := hn3.out 22 (by decide)
  have hx24 := hn3.out 24 (by decide)
  have hx26 := hn3.out 26 (by decide)
  have hx0 : w3.cell? ⟨b, 0, none⟩ = some V0 := (HO3.out.1 (bookR b cs) (by simp)).cell rfl 0 _ HV0.out
  go_wp2_with (first | (go_at_call 86; (with_reducible refine (growInts_none b _ (hn3.out 2 (by decide))).mono ?_); rintro e w' ⟨rfl, rfl⟩) | (go_at_call 87; (with_reducible refine (growNums_none b _ (hn3.out 4 (by decide))).mono ?_); rintro e w' ⟨rfl, rfl⟩) | (go_at_call 88; (with_reducible refine (growEntries_none b _ (hn3.out 6 (by decide))).mono ?_); rintro e w' ⟨rfl, rfl⟩) | (go_at_call 89; (with_reducible refine (growPairs_none b _ (hn3.out 8 (by decide))).mono ?_); rintro e w' ⟨rfl, rfl⟩) | (go_at_call 90; (with_reducible refine (growWrites_none b _ (hn3.out 10 (by decide))).mono ?_); rintro e w' ⟨rfl, rfl⟩) | (go_at_call 91; (with_reducible refine (growTables_none b _ (hn3.out 12 (by decide))).mono ?_); rintro e w' ⟨rfl, rfl⟩) | (go_at_call 92; (with_reducible refine (growDots_none b _ (hn3.out 14 (by decide))).mono ?_); rintro e w' ⟨rfl, rfl⟩) | (go_at_call 93; (with_reducible refine (growSpans_none b _ (hn3.out 16 (by decide))).mono ?_); rintro e w' ⟨rfl, rfl⟩) | (go_at_call 94; (with_reducible refine (growItems_none b _ (hn3.out 18 (by decide))).mono ?_); rintro e w' ⟨rfl, rfl⟩) | (go_at_call 95; (with_reducible refine (growParts_none b _ (hn3.out 20 (by decide))).mono ?_); rintro e w' ⟨rfl, rfl⟩) | (go_at_call 96; (with_reducible refine (growBatches_none b _ (hn3.out 22 (by decide))).mono ?_); rintro e w' ⟨rfl, rfl⟩) | (go_at_call 97; (with_reducible refine (growPackets_none b _ (hn3.out 24 (by decide))).mono ?_); rintro e w' ⟨rfl, rfl⟩) | (go_at_call 98; (with_reducible refine (growSteps_none b _ (hn3.out 26 (by decide))).mono ?_); rintro e w' ⟨rfl, rfl⟩) | (go_at_call 100; (with_reducible refine (markedInts_none _).mono ?_); rintro e w' ⟨rfl, rfl⟩) | (go_at_call 101; (with_reducible refine (markedNums_none _).mono ?_); rintro e w' ⟨rfl, rfl⟩) | (go_at_call 102; (with_reducible refine (markedEntries_none _).mono ?_); rintro e w' ⟨rfl, rfl⟩) | (go_at_call 103; (with_reducible refine (markedPairs_none _).mono ?_); rintro e w' ⟨rfl, rfl⟩) | (go_at_call 104; (with_reducible refine (markedWrites_none _).mono ?_); rintro e w' ⟨rfl, rfl⟩) | (go_at_call 105; (with_reducible refine (markedTables_none _).mono ?_); rintro e w' ⟨rfl, rfl⟩) | (go_at_call 106; (with_reducible refine (markedDots_none _).mono ?_); rintro e w' ⟨rfl, rfl⟩) | (go_at_call 107; (with_reducible refine (markedSpans_none _).mono ?_); rintro e w' ⟨rfl, rfl⟩) | (go_at_call 108; (with_reducible refine (markedItems_none _).mono ?_); rintro e w' ⟨rfl, rfl⟩) | (go_at_call 109; (with_reducible refine (markedParts_none _).mono ?_); rintro e w' ⟨rfl, rfl⟩) | (go_at_call 110; (with_reducible refine (markedBatches_none _).mono ?_); rintro e w' ⟨rfl, rfl⟩) | (go_at_call 111; (with_reducible refine (markedPackets_none _).mono ?_); rintro e w' ⟨rfl, rfl⟩) | (go_at_call 112; (with_reducible refine (markedSteps_none _).mono ?_); rintro e w' ⟨rfl, rfl⟩) | fail)
  (with_reducible refine (markedTexts_new (HO3.out) (by rw [HL0.out, markAllTexts_length]; exact HF0.out.len) HM0.out.1 HM0.out.2).mono ?_)
  rintro e w4 ⟨rfl, hb4⟩
  have HO4 := Lib.hid (HO3.out.below hb4)
  have HB4 := Lib.hid (HB3.out.trans (hb4.mono (Nat.le_trans hB HB3.out.size)))
  clear hb4 hn3 HO3 HB3 hx0 hx2 hx4 hx6 hx8 hx10 hx12 hx14 hx16 hx18 hx20 hx22 hx24 hx26
  have hn4 := HNIL.out _ _ HO4.out (by simp)
  have hx2 := hn4.out 2 (by decide)
  have hx4 := hn4.out 4 (by decide)
  have hx6 := hn4.out 6 (by decide)
  have hx8 := hn4.out 8 (by decide)
  have hx10 := hn4.out 10 (by decide)
  have hx12 := hn4.out 12 (by decide)
  have hx14 := hn4.out 14 (by decide)
  have hx16 := hn4.out 16 (by decide)
  have hx18 := hn4.out 18 (by decide)
  have hx20 := hn4.out 20 (by decide)
  have hx22 := hn4.out 22 (by decide)
  have hx24 := hn4.out 24 (by decide)
  have hx26 := hn4.out 26 (by decide)
  have hx0 : w4.cell? ⟨b, 0, none⟩ = some V0 := (HO4.out.1 (bookR b cs) (by simp)).cell rfl 0 _ HV0.out
  go_wp2_with fail
  (with_reducible refine (markedTexts_old (HO4.out) (by rw [markAllTexts_length]; exact HF0.out.len) (markAllTexts_marked _) (markAllTexts_few HF0.out.few) HC0.out).mono ?_)
  rintro e w5 ⟨rfl, hb5⟩
  have HO5 := Lib.hid (HO4.out.below hb5)
  have HB5 := Lib.hid (HB4.out.trans (hb5.mono (Nat.le_trans hB HB4.out.size)))
  clear hb5 hn4 HO4 HB4 hx0 hx2 hx4 hx6 hx8 hx10 hx12 hx14 hx16 hx18 hx20 hx22 hx24 hx26
  have hn5 := HNIL.out _ _ HO5.out (by simp)
  have hx2 := hn5.out 2 (by decide)
  have hx4 := hn5.out 4 (by decide)
  have hx6 := hn5.out 6 (by decide)
  have hx8 := hn5.out 8 (by decide)
  have hx10 := hn5.out 10 (by decide)
  have hx12 := hn5.out 12 (by decide)
  have hx14 := hn5.out 14 (by decide)
  have hx16 := hn5.out 16 (by decide)
  have hx18 := hn5.out 18 (by decide)
  have hx20 := hn5.out 20 (by decide)
  have hx22 := hn5.out 22 (by decide)
  have hx24 := hn5.out 24 (by decide)
  have hx26 := hn5.out 26 (by decide)
  have hx0 : w5.cell? ⟨b, 0, none⟩ = some V0 := (HO5.out.1 (bookR b cs) (by simp)).cell rfl 0 _ HV0.out
  go_wp2_with (first | (go_at_call 100; (with_reducible refine (markedInts_none _).mono ?_); rintro e w' ⟨rfl, rfl⟩) | (go_at_call 101; (with_reducible refine (markedNums_none _).mono ?_); rintro e w' ⟨rfl, rfl⟩) | (go_at_call 102; (with_reducible refine (markedEntries_none _).mono ?_); rintro e w' ⟨rfl, rfl⟩) | (go_at_call 103; (with_reducible refine (markedPairs_none _).mono ?_); rintro e w' ⟨rfl, rfl⟩) | (go_at_call 104; (with_reducible refine (markedWrites_none _).mono ?_); rintro e w' ⟨rfl, rfl⟩) | (go_at_call 105; (with_reducible refine (markedTables_none _).mono ?_); rintro e w' ⟨rfl, rfl⟩) | (go_at_call 106; (with_reducible refine (markedDots_none _).mono ?_); rintro e w' ⟨rfl, rfl⟩) | (go_at_call 107; (with_reducible refine (markedSpans_none _).mono ?_); rintro e w' ⟨rfl, rfl⟩) | (go_at_call 108; (with_reducible refine (markedItems_none _).mono ?_); rintro e w' ⟨rfl, rfl⟩) | (go_at_call 109; (with_reducible refine (markedParts_none _).mono ?_); rintro e w' ⟨rfl, rfl⟩) | (go_at_call 110; (with_reducible refine (markedBatches_none _).mono ?_); rintro e w' ⟨rfl, rfl⟩) | (go_at_call 111; (with_reducible refine (markedPackets_none _).mono ?_); rintro e w' ⟨rfl, rfl⟩) | (go_at_call 112; (with_reducible refine (markedSteps_none _).mono ?_); rintro e w' ⟨rfl, rfl⟩) | fail)
  go_ret
  exact ⟨rfl, HB5.out⟩
end Go.Proofs.YtfndlfnlepndmaaGreat
