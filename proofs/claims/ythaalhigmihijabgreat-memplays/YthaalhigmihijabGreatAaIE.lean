/- The statements' Book where lists of the kinds Ints Entries were kept, each as it was: Apart returns true. -/
import Derived.Test.YthaalhigmihijabGreatAtInts
import Derived.Test.YthaalhigmihijabGreatAtEntries
import Derived.Test.YthaalhigmihijabGreatAeIE
namespace Go.Proofs.YthaalhigmihijabGreat
open Go.RowKit

def isNilAaIE (j : Nat) : Bool := decide (j < 28) && !(decide (j = 2) || decide (j = 3) || decide (j = 6) || decide (j = 7))
set_option maxHeartbeats 8000000 in
set_option maxRecDepth 100000 in
theorem apartAaIE_any (B b : Nat) (cs : List Value) (V0 W0 : Value) (rows0 was0 : List (Value × List Int)) (V1 W1 : Value) (rows1 was1 : List (Value × List ElEntries)) (R : List Rw) (w : World)
    (hown : Own B w (bookR b cs :: (keptInts V0 W0 rows0 was0 ++ (keptEntries V1 W1 rows1 was1 ++ R)))) (hv0 : cs[2]? = some V0) (hw0 : cs[3]? = some W0) (hf0 : FitsInts rows0 was0) (hv1 : cs[6]? = some V1) (hw1 : cs[7]? = some W1) (hf1 : FitsEntries rows1 was1)
    (hnil : ∀ j, isNilAaIE j = true → cs[j]? = some (.slice none 0 0)) (hB : B ≤ w.heap.size) :
    Calls Tryz.prog 23 #[.pointer (some ⟨b, 0, none⟩)] w fun e w' => e = .returned (.bool true) ∧ Below B w w' := by
  have hcell : ∀ (w' : World) (rs : List Rw), Own B w' rs → bookR b cs ∈ rs → Hid (∀ j, isNilAaIE j = true → w'.cell? ⟨b, j, none⟩ = some (.slice none 0 0)) := by
    intro w' rs h hm j hj
    exact (h.1 _ hm).cell rfl j _ (hnil j hj)
  have HNIL := Lib.hid hcell
  have HO0 := Lib.hid hown
  have HB0 := Lib.hid (Below.refl B w)
  have HF0 := Lib.hid hf0
  have HV0 := Lib.hid hv0
  have HW0 := Lib.hid hw0
  have HF1 := Lib.hid hf1
  have HV1 := Lib.hid hv1
  have HW1 := Lib.hid hw1
  clear hcell hown hnil hf0 hv0 hw0 hf1 hv1 hw1
  go_enter Tryz.func23, Tryz.ntmps23
  have hn0 := HNIL.out _ _ HO0.out (by simp)
  go_wp2_with (first | (go_at_call 38; (with_reducible refine (stillTexts_none b _ (hn0.out 0 (by decide))).mono ?_); rintro e w' ⟨rfl, rfl⟩) | (go_at_call 40; (with_reducible refine (stillNums_none b _ (hn0.out 4 (by decide))).mono ?_); rintro e w' ⟨rfl, rfl⟩) | (go_at_call 42; (with_reducible refine (stillPairs_none b _ (hn0.out 8 (by decide))).mono ?_); rintro e w' ⟨rfl, rfl⟩) | (go_at_call 43; (with_reducible refine (stillWrites_none b _ (hn0.out 10 (by decide))).mono ?_); rintro e w' ⟨rfl, rfl⟩) | (go_at_call 44; (with_reducible refine (stillTables_none b _ (hn0.out 12 (by decide))).mono ?_); rintro e w' ⟨rfl, rfl⟩) | (go_at_call 45; (with_reducible refine (stillDots_none b _ (hn0.out 14 (by decide))).mono ?_); rintro e w' ⟨rfl, rfl⟩) | (go_at_call 46; (with_reducible refine (stillSpans_none b _ (hn0.out 16 (by decide))).mono ?_); rintro e w' ⟨rfl, rfl⟩) | (go_at_call 47; (with_reducible refine (stillItems_none b _ (hn0.out 18 (by decide))).mono ?_); rintro e w' ⟨rfl, rfl⟩) | (go_at_call 48; (with_reducible refine (stillParts_none b _ (hn0.out 20 (by decide))).mono ?_); rintro e w' ⟨rfl, rfl⟩) | (go_at_call 49; (with_reducible refine (stillBatches_none b _ (hn0.out 22 (by decide))).mono ?_); rintro e w' ⟨rfl, rfl⟩) | (go_at_call 50; (with_reducible refine (stillPackets_none b _ (hn0.out 24 (by decide))).mono ?_); rintro e w' ⟨rfl, rfl⟩) | (go_at_call 51; (with_reducible refine (stillSteps_none b _ (hn0.out 26 (by decide))).mono ?_); rintro e w' ⟨rfl, rfl⟩) | fail)
  (with_reducible refine (stillInts_tot (HO0.out) HV0.out HW0.out HF0.out).mono ?_)
  rintro e w1 ⟨rfl, hb1⟩
  have HO1 := Lib.hid (HO0.out.below hb1)
  have HB1 := Lib.hid (HB0.out.trans (hb1.mono (Nat.le_trans hB HB0.out.size)))
  clear hb1 hn0 HO0 HB0
  have hn1 := HNIL.out _ _ HO1.out (by simp)
  go_wp2_with (first | (go_at_call 38; (with_reducible refine (stillTexts_none b _ (hn1.out 0 (by decide))).mono ?_); rintro e w' ⟨rfl, rfl⟩) | (go_at_call 40; (with_reducible refine (stillNums_none b _ (hn1.out 4 (by decide))).mono ?_); rintro e w' ⟨rfl, rfl⟩) | (go_at_call 42; (with_reducible refine (stillPairs_none b _ (hn1.out 8 (by decide))).mono ?_); rintro e w' ⟨rfl, rfl⟩) | (go_at_call 43; (with_reducible refine (stillWrites_none b _ (hn1.out 10 (by decide))).mono ?_); rintro e w' ⟨rfl, rfl⟩) | (go_at_call 44; (with_reducible refine (stillTables_none b _ (hn1.out 12 (by decide))).mono ?_); rintro e w' ⟨rfl, rfl⟩) | (go_at_call 45; (with_reducible refine (stillDots_none b _ (hn1.out 14 (by decide))).mono ?_); rintro e w' ⟨rfl, rfl⟩) | (go_at_call 46; (with_reducible refine (stillSpans_none b _ (hn1.out 16 (by decide))).mono ?_); rintro e w' ⟨rfl, rfl⟩) | (go_at_call 47; (with_reducible refine (stillItems_none b _ (hn1.out 18 (by decide))).mono ?_); rintro e w' ⟨rfl, rfl⟩) | (go_at_call 48; (with_reducible refine (stillParts_none b _ (hn1.out 20 (by decide))).mono ?_); rintro e w' ⟨rfl, rfl⟩) | (go_at_call 49; (with_reducible refine (stillBatches_none b _ (hn1.out 22 (by decide))).mono ?_); rintro e w' ⟨rfl, rfl⟩) | (go_at_call 50; (with_reducible refine (stillPackets_none b _ (hn1.out 24 (by decide))).mono ?_); rintro e w' ⟨rfl, rfl⟩) | (go_at_call 51; (with_reducible refine (stillSteps_none b _ (hn1.out 26 (by decide))).mono ?_); rintro e w' ⟨rfl, rfl⟩) | fail)
  (with_reducible refine (stillEntries_tot ((HO1.out).perm (perm_two _ _ _ _)) HV1.out HW1.out HF1.out).mono ?_)
  rintro e w2 ⟨rfl, hb2⟩
  have HO2 := Lib.hid (HO1.out.below hb2)
  have HB2 := Lib.hid (HB1.out.trans (hb2.mono (Nat.le_trans hB HB1.out.size)))
  clear hb2 hn1 HO1 HB1
  have hn2 := HNIL.out _ _ HO2.out (by simp)
  go_wp2_with (first | (go_at_call 38; (with_reducible refine (stillTexts_none b _ (hn2.out 0 (by decide))).mono ?_); rintro e w' ⟨rfl, rfl⟩) | (go_at_call 40; (with_reducible refine (stillNums_none b _ (hn2.out 4 (by decide))).mono ?_); rintro e w' ⟨rfl, rfl⟩) | (go_at_call 42; (with_reducible refine (stillPairs_none b _ (hn2.out 8 (by decide))).mono ?_); rintro e w' ⟨rfl, rfl⟩) | (go_at_call 43; (with_reducible refine (stillWrites_none b _ (hn2.out 10 (by decide))).mono ?_); rintro e w' ⟨rfl, rfl⟩) | (go_at_call 44; (with_reducible refine (stillTables_none b _ (hn2.out 12 (by decide))).mono ?_); rintro e w' ⟨rfl, rfl⟩) | (go_at_call 45; (with_reducible refine (stillDots_none b _ (hn2.out 14 (by decide))).mono ?_); rintro e w' ⟨rfl, rfl⟩) | (go_at_call 46; (with_reducible refine (stillSpans_none b _ (hn2.out 16 (by decide))).mono ?_); rintro e w' ⟨rfl, rfl⟩) | (go_at_call 47; (with_reducible refine (stillItems_none b _ (hn2.out 18 (by decide))).mono ?_); rintro e w' ⟨rfl, rfl⟩) | (go_at_call 48; (with_reducible refine (stillParts_none b _ (hn2.out 20 (by decide))).mono ?_); rintro e w' ⟨rfl, rfl⟩) | (go_at_call 49; (with_reducible refine (stillBatches_none b _ (hn2.out 22 (by decide))).mono ?_); rintro e w' ⟨rfl, rfl⟩) | (go_at_call 50; (with_reducible refine (stillPackets_none b _ (hn2.out 24 (by decide))).mono ?_); rintro e w' ⟨rfl, rfl⟩) | (go_at_call 51; (with_reducible refine (stillSteps_none b _ (hn2.out 26 (by decide))).mono ?_); rintro e w' ⟨rfl, rfl⟩) | (go_at_call 54; (with_reducible refine (putTexts_none b _ (hn2.out 0 (by decide))).mono ?_); rintro e w' ⟨rfl, rfl⟩) | (go_at_call 56; (with_reducible refine (putNums_none b _ (hn2.out 4 (by decide))).mono ?_); rintro e w' ⟨rfl, rfl⟩) | (go_at_call 58; (with_reducible refine (putPairs_none b _ (hn2.out 8 (by decide))).mono ?_); rintro e w' ⟨rfl, rfl⟩) | (go_at_call 59; (with_reducible refine (putWrites_none b _ (hn2.out 10 (by decide))).mono ?_); rintro e w' ⟨rfl, rfl⟩) | (go_at_call 60; (with_reducible refine (putTables_none b _ (hn2.out 12 (by decide))).mono ?_); rintro e w' ⟨rfl, rfl⟩) | (go_at_call 61; (with_reducible refine (putDots_none b _ (hn2.out 14 (by decide))).mono ?_); rintro e w' ⟨rfl, rfl⟩) | (go_at_call 62; (with_reducible refine (putSpans_none b _ (hn2.out 16 (by decide))).mono ?_); rintro e w' ⟨rfl, rfl⟩) | (go_at_call 63; (with_reducible refine (putItems_none b _ (hn2.out 18 (by decide))).mono ?_); rintro e w' ⟨rfl, rfl⟩) | (go_at_call 64; (with_reducible refine (putParts_none b _ (hn2.out 20 (by decide))).mono ?_); rintro e w' ⟨rfl, rfl⟩) | (go_at_call 52; (with_reducible refine (putBatches_none b _ (hn2.out 22 (by decide))).mono ?_); rintro e w' ⟨rfl, rfl⟩) | (go_at_call 65; (with_reducible refine (putPackets_none b _ (hn2.out 24 (by decide))).mono ?_); rintro e w' ⟨rfl, rfl⟩) | (go_at_call 53; (with_reducible refine (putSteps_none b _ (hn2.out 26 (by decide))).mono ?_); rintro e w' ⟨rfl, rfl⟩) | fail)
  (with_reducible refine (putInts_tot (HO2.out) HV0.out HF0.out (Nat.le_trans hB HB2.out.size)).mono ?_)
  rintro e w3 ⟨rfl, ho, hb3⟩
  have HO3 := Lib.hid (show Own B w3 (bookR b cs :: (keptInts V0 W0 (markAllInts rows0) was0 ++ (keptEntries V1 W1 rows1 was1 ++ R))) from ho)
  have HB3 := Lib.hid (HB2.out.trans hb3)
  clear ho hb3 hn2 HO2 HB2
  have hn3 := HNIL.out _ _ HO3.out (by simp)
  go_wp2_with (first | (go_at_call 54; (with_reducible refine (putTexts_none b _ (hn3.out 0 (by decide))).mono ?_); rintro e w' ⟨rfl, rfl⟩) | (go_at_call 56; (with_reducible refine (putNums_none b _ (hn3.out 4 (by decide))).mono ?_); rintro e w' ⟨rfl, rfl⟩) | (go_at_call 58; (with_reducible refine (putPairs_none b _ (hn3.out 8 (by decide))).mono ?_); rintro e w' ⟨rfl, rfl⟩) | (go_at_call 59; (with_reducible refine (putWrites_none b _ (hn3.out 10 (by decide))).mono ?_); rintro e w' ⟨rfl, rfl⟩) | (go_at_call 60; (with_reducible refine (putTables_none b _ (hn3.out 12 (by decide))).mono ?_); rintro e w' ⟨rfl, rfl⟩) | (go_at_call 61; (with_reducible refine (putDots_none b _ (hn3.out 14 (by decide))).mono ?_); rintro e w' ⟨rfl, rfl⟩) | (go_at_call 62; (with_reducible refine (putSpans_none b _ (hn3.out 16 (by decide))).mono ?_); rintro e w' ⟨rfl, rfl⟩) | (go_at_call 63; (with_reducible refine (putItems_none b _ (hn3.out 18 (by decide))).mono ?_); rintro e w' ⟨rfl, rfl⟩) | (go_at_call 64; (with_reducible refine (putParts_none b _ (hn3.out 20 (by decide))).mono ?_); rintro e w' ⟨rfl, rfl⟩) | (go_at_call 52; (with_reducible refine (putBatches_none b _ (hn3.out 22 (by decide))).mono ?_); rintro e w' ⟨rfl, rfl⟩) | (go_at_call 65; (with_reducible refine (putPackets_none b _ (hn3.out 24 (by decide))).mono ?_); rintro e w' ⟨rfl, rfl⟩) | (go_at_call 53; (with_reducible refine (putSteps_none b _ (hn3.out 26 (by decide))).mono ?_); rintro e w' ⟨rfl, rfl⟩) | (go_at_call 66; (with_reducible refine (growTexts_none b _ (hn3.out 0 (by decide))).mono ?_); rintro e w' ⟨rfl, rfl⟩) | (go_at_call 68; (with_reducible refine (growNums_none b _ (hn3.out 4 (by decide))).mono ?_); rintro e w' ⟨rfl, rfl⟩) | (go_at_call 70; (with_reducible refine (growPairs_none b _ (hn3.out 8 (by decide))).mono ?_); rintro e w' ⟨rfl, rfl⟩) | (go_at_call 71; (with_reducible refine (growWrites_none b _ (hn3.out 10 (by decide))).mono ?_); rintro e w' ⟨rfl, rfl⟩) | (go_at_call 72; (with_reducible refine (growTables_none b _ (hn3.out 12 (by decide))).mono ?_); rintro e w' ⟨rfl, rfl⟩) | (go_at_call 73; (with_reducible refine (growDots_none b _ (hn3.out 14 (by decide))).mono ?_); rintro e w' ⟨rfl, rfl⟩) | (go_at_call 74; (with_reducible refine (growSpans_none b _ (hn3.out 16 (by decide))).mono ?_); rintro e w' ⟨rfl, rfl⟩) | (go_at_call 75; (with_reducible refine (growItems_none b _ (hn3.out 18 (by decide))).mono ?_); rintro e w' ⟨rfl, rfl⟩) | (go_at_call 76; (with_reducible refine (growParts_none b _ (hn3.out 20 (by decide))).mono ?_); rintro e w' ⟨rfl, rfl⟩) | (go_at_call 77; (with_reducible refine (growBatches_none b _ (hn3.out 22 (by decide))).mono ?_); rintro e w' ⟨rfl, rfl⟩) | (go_at_call 78; (with_reducible refine (growPackets_none b _ (hn3.out 24 (by decide))).mono ?_); rintro e w' ⟨rfl, rfl⟩) | (go_at_call 79; (with_reducible refine (growSteps_none b _ (hn3.out 26 (by decide))).mono ?_); rintro e w' ⟨rfl, rfl⟩) | fail)
  (with_reducible refine (putEntries_tot ((HO3.out).perm (perm_two _ _ _ _)) HV1.out HF1.out (Nat.le_trans hB HB3.out.size)).mono ?_)
  rintro e w4 ⟨rfl, ho, hb4⟩
  have HO4 := Lib.hid (show Own B w4 (bookR b cs :: (keptInts V0 W0 (markAllInts rows0) was0 ++ (keptEntries V1 W1 (markAllEntries rows1) was1 ++ R))) from (ho).perm (perm_two _ _ _ _))
  have HB4 := Lib.hid (HB3.out.trans hb4)
  clear ho hb4 hn3 HO3 HB3
  have hn4 := HNIL.out _ _ HO4.out (by simp)
  go_wp2_with (first | (go_at_call 54; (with_reducible refine (putTexts_none b _ (hn4.out 0 (by decide))).mono ?_); rintro e w' ⟨rfl, rfl⟩) | (go_at_call 56; (with_reducible refine (putNums_none b _ (hn4.out 4 (by decide))).mono ?_); rintro e w' ⟨rfl, rfl⟩) | (go_at_call 58; (with_reducible refine (putPairs_none b _ (hn4.out 8 (by decide))).mono ?_); rintro e w' ⟨rfl, rfl⟩) | (go_at_call 59; (with_reducible refine (putWrites_none b _ (hn4.out 10 (by decide))).mono ?_); rintro e w' ⟨rfl, rfl⟩) | (go_at_call 60; (with_reducible refine (putTables_none b _ (hn4.out 12 (by decide))).mono ?_); rintro e w' ⟨rfl, rfl⟩) | (go_at_call 61; (with_reducible refine (putDots_none b _ (hn4.out 14 (by decide))).mono ?_); rintro e w' ⟨rfl, rfl⟩) | (go_at_call 62; (with_reducible refine (putSpans_none b _ (hn4.out 16 (by decide))).mono ?_); rintro e w' ⟨rfl, rfl⟩) | (go_at_call 63; (with_reducible refine (putItems_none b _ (hn4.out 18 (by decide))).mono ?_); rintro e w' ⟨rfl, rfl⟩) | (go_at_call 64; (with_reducible refine (putParts_none b _ (hn4.out 20 (by decide))).mono ?_); rintro e w' ⟨rfl, rfl⟩) | (go_at_call 52; (with_reducible refine (putBatches_none b _ (hn4.out 22 (by decide))).mono ?_); rintro e w' ⟨rfl, rfl⟩) | (go_at_call 65; (with_reducible refine (putPackets_none b _ (hn4.out 24 (by decide))).mono ?_); rintro e w' ⟨rfl, rfl⟩) | (go_at_call 53; (with_reducible refine (putSteps_none b _ (hn4.out 26 (by decide))).mono ?_); rintro e w' ⟨rfl, rfl⟩) | (go_at_call 66; (with_reducible refine (growTexts_none b _ (hn4.out 0 (by decide))).mono ?_); rintro e w' ⟨rfl, rfl⟩) | (go_at_call 68; (with_reducible refine (growNums_none b _ (hn4.out 4 (by decide))).mono ?_); rintro e w' ⟨rfl, rfl⟩) | (go_at_call 70; (with_reducible refine (growPairs_none b _ (hn4.out 8 (by decide))).mono ?_); rintro e w' ⟨rfl, rfl⟩) | (go_at_call 71; (with_reducible refine (growWrites_none b _ (hn4.out 10 (by decide))).mono ?_); rintro e w' ⟨rfl, rfl⟩) | (go_at_call 72; (with_reducible refine (growTables_none b _ (hn4.out 12 (by decide))).mono ?_); rintro e w' ⟨rfl, rfl⟩) | (go_at_call 73; (with_reducible refine (growDots_none b _ (hn4.out 14 (by decide))).mono ?_); rintro e w' ⟨rfl, rfl⟩) | (go_at_call 74; (with_reducible refine (growSpans_none b _ (hn4.out 16 (by decide))).mono ?_); rintro e w' ⟨rfl, rfl⟩) | (go_at_call 75; (with_reducible refine (growItems_none b _ (hn4.out 18 (by decide))).mono ?_); rintro e w' ⟨rfl, rfl⟩) | (go_at_call 76; (with_reducible refine (growParts_none b _ (hn4.out 20 (by decide))).mono ?_); rintro e w' ⟨rfl, rfl⟩) | (go_at_call 77; (with_reducible refine (growBatches_none b _ (hn4.out 22 (by decide))).mono ?_); rintro e w' ⟨rfl, rfl⟩) | (go_at_call 78; (with_reducible refine (growPackets_none b _ (hn4.out 24 (by decide))).mono ?_); rintro e w' ⟨rfl, rfl⟩) | (go_at_call 79; (with_reducible refine (growSteps_none b _ (hn4.out 26 (by decide))).mono ?_); rintro e w' ⟨rfl, rfl⟩) | fail)
  (with_reducible refine (growInts_tot (HO4.out) HV0.out (by rw [markAllInts_length]; exact HF0.out.len) (markAllInts_few HF0.out.few) (markAllInts_marked _) (Nat.le_trans hB HB4.out.size)).mono ?_)
  rintro e w5 ⟨G0, gr0, ol0, rfl, ho, hl0, hm0, hc0, hb5⟩
  have HO5 := Lib.hid (show Own B w5 (bookR b cs :: (grewInts V0 W0 G0 (markAllInts rows0) was0 gr0 ol0 ++ (keptEntries V1 W1 (markAllEntries rows1) was1 ++ R))) from ho)
  have HB5 := Lib.hid (HB4.out.trans hb5)
  have HL0 := Lib.hid hl0
  have HM0 := Lib.hid hm0
  have HC0 := Lib.hid hc0
  clear ho hb5 hn4 HO4 HB4 hl0 hm0 hc0
  have hn5 := HNIL.out _ _ HO5.out (by simp)
  go_wp2_with (first | (go_at_call 66; (with_reducible refine (growTexts_none b _ (hn5.out 0 (by decide))).mono ?_); rintro e w' ⟨rfl, rfl⟩) | (go_at_call 68; (with_reducible refine (growNums_none b _ (hn5.out 4 (by decide))).mono ?_); rintro e w' ⟨rfl, rfl⟩) | (go_at_call 70; (with_reducible refine (growPairs_none b _ (hn5.out 8 (by decide))).mono ?_); rintro e w' ⟨rfl, rfl⟩) | (go_at_call 71; (with_reducible refine (growWrites_none b _ (hn5.out 10 (by decide))).mono ?_); rintro e w' ⟨rfl, rfl⟩) | (go_at_call 72; (with_reducible refine (growTables_none b _ (hn5.out 12 (by decide))).mono ?_); rintro e w' ⟨rfl, rfl⟩) | (go_at_call 73; (with_reducible refine (growDots_none b _ (hn5.out 14 (by decide))).mono ?_); rintro e w' ⟨rfl, rfl⟩) | (go_at_call 74; (with_reducible refine (growSpans_none b _ (hn5.out 16 (by decide))).mono ?_); rintro e w' ⟨rfl, rfl⟩) | (go_at_call 75; (with_reducible refine (growItems_none b _ (hn5.out 18 (by decide))).mono ?_); rintro e w' ⟨rfl, rfl⟩) | (go_at_call 76; (with_reducible refine (growParts_none b _ (hn5.out 20 (by decide))).mono ?_); rintro e w' ⟨rfl, rfl⟩) | (go_at_call 77; (with_reducible refine (growBatches_none b _ (hn5.out 22 (by decide))).mono ?_); rintro e w' ⟨rfl, rfl⟩) | (go_at_call 78; (with_reducible refine (growPackets_none b _ (hn5.out 24 (by decide))).mono ?_); rintro e w' ⟨rfl, rfl⟩) | (go_at_call 79; (with_reducible refine (growSteps_none b _ (hn5.out 26 (by decide))).mono ?_); rintro e w' ⟨rfl, rfl⟩) | fail)
  (with_reducible refine (growEntries_tot ((HO5.out).perm (perm_two _ _ _ _)) HV1.out (by rw [markAllEntries_length]; exact HF1.out.len) (markAllEntries_few HF1.out.few) (markAllEntries_marked _) (Nat.le_trans hB HB5.out.size)).mono ?_)
  rintro e w6 ⟨G1, gr1, ol1, rfl, ho, hl1, hm1, hc1, hb6⟩
  have HO6 := Lib.hid (show Own B w6 (bookR b cs :: (grewInts V0 W0 G0 (markAllInts rows0) was0 gr0 ol0 ++ (grewEntries V1 W1 G1 (markAllEntries rows1) was1 gr1 ol1 ++ R))) from (ho).perm (perm_two _ _ _ _))
  have HB6 := Lib.hid (HB5.out.trans hb6)
  have HL1 := Lib.hid hl1
  have HM1 := Lib.hid hm1
  have HC1 := Lib.hid hc1
  clear ho hb6 hn5 HO5 HB5 hl1 hm1 hc1
  have hn6 := HNIL.out _ _ HO6.out (by simp)
  have hx0 := hn6.out 0 (by decide)
  have hx4 := hn6.out 4 (by decide)
  have hx8 := hn6.out 8 (by decide)
  have hx10 := hn6.out 10 (by decide)
  have hx12 := hn6.out 12 (by decide)
  have hx14 := hn6.out 14 (by decide)
  have hx16 := hn6.out 16 (by decide)
  have hx18 := hn6.out 18 (by decide)
  have hx20 := hn6.out 20 (by decide)
  have hx22 := hn6.out 22 (by decide)
  have hx24 := hn6.out 24 (by decide)
  have hx26 := hn6.out 26 (by decide)
  have hx2 : w6.cell? ⟨b, 2, none⟩ = some V0 := (HO6.out.1 (bookR b cs) (by simp)).cell rfl 2 _ HV0.out
  have hx6 : w6.cell? ⟨b, 6, none⟩ = some V1 := (HO6.out.1 (bookR b cs) (by simp)).cell rfl 6 _ HV1.out
  go_wp2_with (first | (go_at_call 66; (with_reducible refine (growTexts_none b _ (hn6.out 0 (by decide))).mono ?_); rintro e w' ⟨rfl, rfl⟩) | (go_at_call 68; (with_reducible refine (growNums_none b _ (hn6.out 4 (by decide))).mono ?_); rintro e w' ⟨rfl, rfl⟩) | (go_at_call 70; (with_reducible refine (growPairs_none b _ (hn6.out 8 (by decide))).mono ?_); rintro e w' ⟨rfl, rfl⟩) | (go_at_call 71; (with_reducible refine (growWrites_none b _ (hn6.out 10 (by decide))).mono ?_); rintro e w' ⟨rfl, rfl⟩) | (go_at_call 72; (with_reducible refine (growTables_none b _ (hn6.out 12 (by decide))).mono ?_); rintro e w' ⟨rfl, rfl⟩) | (go_at_call 73; (with_reducible refine (growDots_none b _ (hn6.out 14 (by decide))).mono ?_); rintro e w' ⟨rfl, rfl⟩) | (go_at_call 74; (with_reducible refine (growSpans_none b _ (hn6.out 16 (by decide))).mono ?_); rintro e w' ⟨rfl, rfl⟩) | (go_at_call 75; (with_reducible refine (growItems_none b _ (hn6.out 18 (by decide))).mono ?_); rintro e w' ⟨rfl, rfl⟩) | (go_at_call 76; (with_reducible refine (growParts_none b _ (hn6.out 20 (by decide))).mono ?_); rintro e w' ⟨rfl, rfl⟩) | (go_at_call 77; (with_reducible refine (growBatches_none b _ (hn6.out 22 (by decide))).mono ?_); rintro e w' ⟨rfl, rfl⟩) | (go_at_call 78; (with_reducible refine (growPackets_none b _ (hn6.out 24 (by decide))).mono ?_); rintro e w' ⟨rfl, rfl⟩) | (go_at_call 79; (with_reducible refine (growSteps_none b _ (hn6.out 26 (by decide))).mono ?_); rintro e w' ⟨rfl, rfl⟩) | (go_at_call 80; (with_reducible refine (markedTexts_none _).mono ?_); rintro e w' ⟨rfl, rfl⟩) | (go_at_call 82; (with_reducible refine (markedNums_none _).mono ?_); rintro e w' ⟨rfl, rfl⟩) | (go_at_call 84; (with_reducible refine (markedPairs_none _).mono ?_); rintro e w' ⟨rfl, rfl⟩) | (go_at_call 85; (with_reducible refine (markedWrites_none _).mono ?_); rintro e w' ⟨rfl, rfl⟩) | (go_at_call 86; (with_reducible refine (markedTables_none _).mono ?_); rintro e w' ⟨rfl, rfl⟩) | (go_at_call 87; (with_reducible refine (markedDots_none _).mono ?_); rintro e w' ⟨rfl, rfl⟩) | (go_at_call 88; (with_reducible refine (markedSpans_none _).mono ?_); rintro e w' ⟨rfl, rfl⟩) | (go_at_call 89; (with_reducible refine (markedItems_none _).mono ?_); rintro e w' ⟨rfl, rfl⟩) | (go_at_call 90; (with_reducible refine (markedParts_none _).mono ?_); rintro e w' ⟨rfl, rfl⟩) | (go_at_call 91; (with_reducible refine (markedBatches_none _).mono ?_); rintro e w' ⟨rfl, rfl⟩) | (go_at_call 92; (with_reducible refine (markedPackets_none _).mono ?_); rintro e w' ⟨rfl, rfl⟩) | (go_at_call 93; (with_reducible refine (markedSteps_none _).mono ?_); rintro e w' ⟨rfl, rfl⟩) | fail)
  (with_reducible refine (markedInts_new (HO6.out) (by rw [HL0.out, markAllInts_length]; exact HF0.out.len) HM0.out.1 HM0.out.2).mono ?_)
  rintro e w7 ⟨rfl, hb7⟩
  have HO7 := Lib.hid (HO6.out.below hb7)
  have HB7 := Lib.hid (HB6.out.trans (hb7.mono (Nat.le_trans hB HB6.out.size)))
  clear hb7 hn6 HO6 HB6 hx0 hx2 hx4 hx6 hx8 hx10 hx12 hx14 hx16 hx18 hx20 hx22 hx24 hx26
  have hn7 := HNIL.out _ _ HO7.out (by simp)
  have hx0 := hn7.out 0 (by decide)
  have hx4 := hn7.out 4 (by decide)
  have hx8 := hn7.out 8 (by decide)
  have hx10 := hn7.out 10 (by decide)
  have hx12 := hn7.out 12 (by decide)
  have hx14 := hn7.out 14 (by decide)
  have hx16 := hn7.out 16 (by decide)
  have hx18 := hn7.out 18 (by decide)
  have hx20 := hn7.out 20 (by decide)
  have hx22 := hn7.out 22 (by decide)
  have hx24 := hn7.out 24 (by decide)
  have hx26 := hn7.out 26 (by decide)
  have hx2 : w7.cell? ⟨b, 2, none⟩ = some V0 := (HO7.out.1 (bookR b cs) (by simp)).cell rfl 2 _ HV0.out
  have hx6 : w7.cell? ⟨b, 6, none⟩ = some V1 := (HO7.out.1 (bookR b cs) (by simp)).cell rfl 6 _ HV1.out
  go_wp2_with fail
  (with_reducible refine (markedInts_old (HO7.out) (by rw [markAllInts_length]; exact HF0.out.len) (markAllInts_marked _) (markAllInts_few HF0.out.few) HC0.out).mono ?_)
  rintro e w8 ⟨rfl, hb8⟩
  have HO8 := Lib.hid (HO7.out.below hb8)
  have HB8 := Lib.hid (HB7.out.trans (hb8.mono (Nat.le_trans hB HB7.out.size)))
  clear hb8 hn7 HO7 HB7 hx0 hx2 hx4 hx6 hx8 hx10 hx12 hx14 hx16 hx18 hx20 hx22 hx24 hx26
  have hn8 := HNIL.out _ _ HO8.out (by simp)
  have hx0 := hn8.out 0 (by decide)
  have hx4 := hn8.out 4 (by decide)
  have hx8 := hn8.out 8 (by decide)
  have hx10 := hn8.out 10 (by decide)
  have hx12 := hn8.out 12 (by decide)
  have hx14 := hn8.out 14 (by decide)
  have hx16 := hn8.out 16 (by decide)
  have hx18 := hn8.out 18 (by decide)
  have hx20 := hn8.out 20 (by decide)
  have hx22 := hn8.out 22 (by decide)
  have hx24 := hn8.out 24 (by decide)
  have hx26 := hn8.out 26 (by decide)
  have hx2 : w8.cell? ⟨b, 2, none⟩ = some V0 := (HO8.out.1 (bookR b cs) (by simp)).cell rfl 2 _ HV0.out
  have hx6 : w8.cell? ⟨b, 6, none⟩ = some V1 := (HO8.out.1 (bookR b cs) (by simp)).cell rfl 6 _ HV1.out
  go_wp2_with (first | (go_at_call 66; (with_reducible refine (growTexts_none b _ (hn8.out 0 (by decide))).mono ?_); rintro e w' ⟨rfl, rfl⟩) | (go_at_call 68; (with_reducible refine (growNums_none b _ (hn8.out 4 (by decide))).mono ?_); rintro e w' ⟨rfl, rfl⟩) | (go_at_call 70; (with_reducible refine (growPairs_none b _ (hn8.out 8 (by decide))).mono ?_); rintro e w' ⟨rfl, rfl⟩) | (go_at_call 71; (with_reducible refine (growWrites_none b _ (hn8.out 10 (by decide))).mono ?_); rintro e w' ⟨rfl, rfl⟩) | (go_at_call 72; (with_reducible refine (growTables_none b _ (hn8.out 12 (by decide))).mono ?_); rintro e w' ⟨rfl, rfl⟩) | (go_at_call 73; (with_reducible refine (growDots_none b _ (hn8.out 14 (by decide))).mono ?_); rintro e w' ⟨rfl, rfl⟩) | (go_at_call 74; (with_reducible refine (growSpans_none b _ (hn8.out 16 (by decide))).mono ?_); rintro e w' ⟨rfl, rfl⟩) | (go_at_call 75; (with_reducible refine (growItems_none b _ (hn8.out 18 (by decide))).mono ?_); rintro e w' ⟨rfl, rfl⟩) | (go_at_call 76; (with_reducible refine (growParts_none b _ (hn8.out 20 (by decide))).mono ?_); rintro e w' ⟨rfl, rfl⟩) | (go_at_call 77; (with_reducible refine (growBatches_none b _ (hn8.out 22 (by decide))).mono ?_); rintro e w' ⟨rfl, rfl⟩) | (go_at_call 78; (with_reducible refine (growPackets_none b _ (hn8.out 24 (by decide))).mono ?_); rintro e w' ⟨rfl, rfl⟩) | (go_at_call 79; (with_reducible refine (growSteps_none b _ (hn8.out 26 (by decide))).mono ?_); rintro e w' ⟨rfl, rfl⟩) | (go_at_call 80; (with_reducible refine (markedTexts_none _).mono ?_); rintro e w' ⟨rfl, rfl⟩) | (go_at_call 82; (with_reducible refine (markedNums_none _).mono ?_); rintro e w' ⟨rfl, rfl⟩) | (go_at_call 84; (with_reducible refine (markedPairs_none _).mono ?_); rintro e w' ⟨rfl, rfl⟩) | (go_at_call 85; (with_reducible refine (markedWrites_none _).mono ?_); rintro e w' ⟨rfl, rfl⟩) | (go_at_call 86; (with_reducible refine (markedTables_none _).mono ?_); rintro e w' ⟨rfl, rfl⟩) | (go_at_call 87; (with_reducible refine (markedDots_none _).mono ?_); rintro e w' ⟨rfl, rfl⟩) | (go_at_call 88; (with_reducible refine (markedSpans_none _).mono ?_); rintro e w' ⟨rfl, rfl⟩) | (go_at_call 89; (with_reducible refine (markedItems_none _).mono ?_); rintro e w' ⟨rfl, rfl⟩) | (go_at_call 90; (with_reducible refine (markedParts_none _).mono ?_); rintro e w' ⟨rfl, rfl⟩) | (go_at_call 91; (with_reducible refine (markedBatches_none _).mono ?_); rintro e w' ⟨rfl, rfl⟩) | (go_at_call 92; (with_reducible refine (markedPackets_none _).mono ?_); rintro e w' ⟨rfl, rfl⟩) | (go_at_call 93; (with_reducible refine (markedSteps_none _).mono ?_); rintro e w' ⟨rfl, rfl⟩) | fail)
  (with_reducible refine (markedEntries_new ((HO8.out).perm (perm_two _ _ _ _)) (by rw [HL1.out, markAllEntries_length]; exact HF1.out.len) HM1.out.1 HM1.out.2).mono ?_)
  rintro e w9 ⟨rfl, hb9⟩
  have HO9 := Lib.hid (HO8.out.below hb9)
  have HB9 := Lib.hid (HB8.out.trans (hb9.mono (Nat.le_trans hB HB8.out.size)))
  clear hb9 hn8 HO8 HB8 hx0 hx2 hx4 hx6 hx8 hx10 hx12 hx14 hx16 hx18 hx20 hx22 hx24 hx26
  have hn9 := HNIL.out _ _ HO9.out (by simp)
  have hx0 := hn9.out 0 (by decide)
  have hx4 := hn9.out 4 (by decide)
  have hx8 := hn9.out 8 (by decide)
  have hx10 := hn9.out 10 (by decide)
  have hx12 := hn9.out 12 (by decide)
  have hx14 := hn9.out 14 (by decide)
  have hx16 := hn9.out 16 (by decide)
  have hx18 := hn9.out 18 (by decide)
  have hx20 := hn9.out 20 (by decide)
  have hx22 := hn9.out 22 (by decide)
  have hx24 := hn9.out 24 (by decide)
  have hx26 := hn9.out 26 (by decide)
  have hx2 : w9.cell? ⟨b, 2, none⟩ = some V0 := (HO9.out.1 (bookR b cs) (by simp)).cell rfl 2 _ HV0.out
  have hx6 : w9.cell? ⟨b, 6, none⟩ = some V1 := (HO9.out.1 (bookR b cs) (by simp)).cell rfl 6 _ HV1.out
  go_wp2_with fail
  (with_reducible refine (markedEntries_old ((HO9.out).perm (perm_two _ _ _ _)) (by rw [markAllEntries_length]; exact HF1.out.len) (markAllEntries_marked _) (markAllEntries_few HF1.out.few) HC1.out).mono ?_)
  rintro e w10 ⟨rfl, hb10⟩
  have HO10 := Lib.hid (HO9.out.below hb10)
  have HB10 := Lib.hid (HB9.out.trans (hb10.mono (Nat.le_trans hB HB9.out.size)))
  clear hb10 hn9 HO9 HB9 hx0 hx2 hx4 hx6 hx8 hx10 hx12 hx14 hx16 hx18 hx20 hx22 hx24 hx26
  have hn10 := HNIL.out _ _ HO10.out (by simp)
  have hx0 := hn10.out 0 (by decide)
  have hx4 := hn10.out 4 (by decide)
  have hx8 := hn10.out 8 (by decide)
  have hx10 := hn10.out 10 (by decide)
  have hx12 := hn10.out 12 (by decide)
  have hx14 := hn10.out 14 (by decide)
  have hx16 := hn10.out 16 (by decide)
  have hx18 := hn10.out 18 (by decide)
  have hx20 := hn10.out 20 (by decide)
  have hx22 := hn10.out 22 (by decide)
  have hx24 := hn10.out 24 (by decide)
  have hx26 := hn10.out 26 (by decide)
  have hx2 : w10.cell? ⟨b, 2, none⟩ = some V0 := (HO10.out.1 (bookR b cs) (by simp)).cell rfl 2 _ HV0.out
  have hx6 : w10.cell? ⟨b, 6, none⟩ = some V1 := (HO10.out.1 (bookR b cs) (by simp)).cell rfl 6 _ HV1.out
  go_wp2_with (first | (go_at_call 80; (with_reducible refine (markedTexts_none _).mono ?_); rintro e w' ⟨rfl, rfl⟩) | (go_at_call 82; (with_reducible refine (markedNums_none _).mono ?_); rintro e w' ⟨rfl, rfl⟩) | (go_at_call 84; (with_reducible refine (markedPairs_none _).mono ?_); rintro e w' ⟨rfl, rfl⟩) | (go_at_call 85; (with_reducible refine (markedWrites_none _).mono ?_); rintro e w' ⟨rfl, rfl⟩) | (go_at_call 86; (with_reducible refine (markedTables_none _).mono ?_); rintro e w' ⟨rfl, rfl⟩) | (go_at_call 87; (with_reducible refine (markedDots_none _).mono ?_); rintro e w' ⟨rfl, rfl⟩) | (go_at_call 88; (with_reducible refine (markedSpans_none _).mono ?_); rintro e w' ⟨rfl, rfl⟩) | (go_at_call 89; (with_reducible refine (markedItems_none _).mono ?_); rintro e w' ⟨rfl, rfl⟩) | (go_at_call 90; (with_reducible refine (markedParts_none _).mono ?_); rintro e w' ⟨rfl, rfl⟩) | (go_at_call 91; (with_reducible refine (markedBatches_none _).mono ?_); rintro e w' ⟨rfl, rfl⟩) | (go_at_call 92; (with_reducible refine (markedPackets_none _).mono ?_); rintro e w' ⟨rfl, rfl⟩) | (go_at_call 93; (with_reducible refine (markedSteps_none _).mono ?_); rintro e w' ⟨rfl, rfl⟩) | fail)
  go_ret
  exact ⟨rfl, HB10.out⟩
end Go.Proofs.YthaalhigmihijabGreat
