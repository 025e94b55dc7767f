/- Contracts: the first call of the statements. -/
import Derived.Test.YtdbdifbcfplegaaG5
namespace Go.Proofs.Ytdbdifbcfplegaa
open Go.RowKit

theorem mkB_size (bits p : Nat) (ss : List ByteArray) : (⟨(mkB bits p ss).toArray⟩ : ByteArray).size = szB bits ss.length + 1 := by
  show (mkB bits p ss).toArray.size = _
  rw [List.size_toArray, mkB_len]
theorem rowS_one {w : World} {s : ByteArray} (hs : s.size ≤ maxLen) : IsRowS (w.alloc (.cells #[.string s] 9)) (some ⟨w.heap.size, 0, none⟩) 1 [s] := by
  refine ⟨rfl, fun t ht => by rw [List.mem_singleton] at ht; rw [ht]; exact hs, .inr ⟨_, 0, rfl, by simp, fun i hi => ?_⟩⟩
  obtain rfl : i = 0 := by simpa using hi
  exact (Boxed.new w 9 (.string s)).cell
theorem hash_zero : hashN [] 0 = 2166202364 := by unfold hashN hashX hfin; decide

set_option maxHeartbeats 2000000 in
set_option maxRecDepth 100000 in
theorem alive9_any (w : World) : Calls Try.prog 7 #[] w fun e w' => e = .returned (.bool true) ∧ Below w.heap.size w w' := by
  obtain ⟨f1, hf1⟩ : ∃ f : ByteArray, ⟨(mkB 10 3 []).toArray⟩ = f := ⟨_, rfl⟩
  obtain ⟨f2, hf2⟩ : ∃ f : ByteArray, ⟨(mkB 10 3 [⟨#[97]⟩]).toArray⟩ = f := ⟨_, rfl⟩
  have s1 : f1.size = 9 := by rw [← hf1, mkB_size]; decide
  have s2 : f2.size = 9 := by rw [← hf2, mkB_size]; decide
  have C1 := Lib.hid (fun W : World => make_none 10 3 none 0 W (by omega) (by omega) (by omega) (by omega))
  have C2 := Lib.hid (fun W : World => make_any 10 3 (some ⟨W.heap.size, 0, none⟩) 1 1 [⟨#[97]⟩] (W.alloc (.cells #[.string ⟨#[97]⟩] 9)) (by omega) (by omega) (by omega) (by omega) (by simp) (rowS_one (by decide)))
  have M1 := Lib.hid (fun W : World => may_any f1 ⟨#[97]⟩ W (by omega) (by decide))
  have M2 := Lib.hid (fun W : World => may_any f2 ⟨#[97]⟩ W (by omega) (by decide))
  have V2 := Lib.hid (fun W : World => valid_any f2 W (by omega))
  have V3 := Lib.hid (fun W : World => valid_any ⟨#[120]⟩ W (by decide))
  have H1 := Lib.hid (fun W : World => hash_any ⟨#[]⟩ 0 W (by decide) (by omega))
  rw [show mayB f1.data.toList [97] = false by rw [← hf1]; exact mayB_none (by omega) (by omega) _] at M1
  rw [show mayB f2.data.toList [97] = true by rw [← hf2]; exact mayB_in (k := ⟨#[97]⟩) (by omega) (by omega) (by simp)] at M2
  rw [show validB f2.data.toList = true by rw [← hf2]; exact mkB_valid _ _ _ (by omega) (by omega)] at V2
  rw [show validB [120] = false by decide] at V3
  rw [show hashN [] 0 = 2166202364 from hash_zero, show ((0 : Nat) : Int) = 0 from rfl, show ((2166202364 : Nat) : Int) = 2166202364 from rfl] at H1
  rw [show ((10 : Nat) : Int) = 10 from rfl, show ((3 : Nat) : Int) = 3 from rfl] at C1 C2
  rw [hf1] at C1
  rw [hf2] at C2
  clear hf1 hf2
  go_enter Try.func7, Try.ntmps7
  go_wp2_with (first
    | (go_at_call 9; (with_reducible refine (C1.out _).mono ?_); rintro e w1 ⟨rfl, b1⟩)
    | (go_at_call 9; (with_reducible refine (C2.out _).mono ?_); rintro e w2 ⟨rfl, b2⟩)
    | (go_at_call 13; (with_reducible refine (M1.out _).mono ?_); rintro e w3 ⟨rfl, b3⟩)
    | (go_at_call 13; (with_reducible refine (M2.out _).mono ?_); rintro e w4 ⟨rfl, b4⟩)
    | (go_at_call 15; (with_reducible refine (V2.out _).mono ?_); rintro e w5 ⟨rfl, rfl⟩)
    | (go_at_call 15; (with_reducible refine (V3.out _).mono ?_); rintro e w6 ⟨rfl, rfl⟩)
    | (go_at_call 11; (with_reducible refine (H1.out _).mono ?_); rintro e w7 ⟨rfl, rfl⟩)
    | fail)
  go_ret
  exact ⟨rfl, (b1.trans (((Below.refl w1.heap.size w1).alloc (Nat.le_refl _) _).mono b1.size)).trans ((b2.mono (by have := b1.size; simp; omega)).trans ((b3.mono (by have := b1.size; have := b2.size; simp at this; omega)).trans (b4.mono (by have := b1.size; have := b2.size; have := b3.size; simp at *; omega))))⟩
end Go.Proofs.Ytdbdifbcfplegaa
