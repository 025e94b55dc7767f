/- merge.waiting. -/
import Derived.Test.YtcbailiniigcnaaGreatHM7
namespace Go.Proofs.YtcbailiniigcnaaGreat
open Go.ChangeShapes Go.WideShapes Go.ChangeAt Go.Deep Go.RowKit Go.Lib

theorem hdAt_of {B : Nat} {w : World} {a : Option Addr} {c i : Nat} {l : List Ent} (h : EntsAt B w a l.length l) (hc : l.length ≤ c) (hl : l ≠ []) : HdAt B w ⟨a, c, l, i⟩ := by
  rcases h.2 with h0 | ⟨b, off, e, hb, hcell⟩
  · exact absurd (List.eq_nil_of_length_eq_zero h0) hl
  · exact ⟨b, off, e, hb, ⟨hl, hc⟩, hcell⟩
theorem hblk_new {p B : Nat} {v v' : Value} {w : World} (ho : ObN w v v') (hv : ∀ x ∈ hblk p v, B ≤ x) (hw : B ≤ w.heap.size) : ∀ x ∈ hblk p v', B ≤ x := fun x hx => by
  rcases mem_hblk.1 hx with rfl | hx
  · exact hv _ (mem_hblk.2 (.inl rfl))
  · rcases ho with e | ⟨b, e, hge⟩
    · exact hv x (mem_hblk.2 (.inr (by rw [← e]; exact hx)))
    · rw [hx] at e
      cases e
      omega
theorem HdAt.kept {n₀ : Nat} {A B : World} {h : Hd} (hh : HdAt n₀ A h) (hb : Below n₀ A B) : HdAt n₀ B h := hh.below hb
/-- Lists of versions, their own blocks below n₀. -/
def LsIn (n₀ : Nat) (w : World) (a : Option Addr) (n : Nat) (ls : List (List Ent)) : Prop :=
  ls.length = n ∧ (n = 0 ∨ ∃ b off, a = some ⟨b, off, none⟩ ∧ b < n₀ ∧ ∀ i (h : i < ls.length), ∃ ai ci, w.cell? ⟨b, off + i, none⟩ = some (.slice ai ls[i].length ci) ∧ EntsAt n₀ w ai ls[i].length ls[i] ∧ ls[i].length ≤ ci)
theorem LsAt.lsIn {w : World} {a : Option Addr} {n : Nat} {ls : List (List Ent)} (h : LsAt w a n ls) : LsIn w.heap.size w a n ls := h
theorem LsIn.below {n₀ : Nat} {w w' : World} {a : Option Addr} {n : Nat} {ls : List (List Ent)} (h : LsIn n₀ w a n ls) (hb : Below n₀ w w') : LsIn n₀ w' a n ls := by
  refine ⟨h.1, ?_⟩
  rcases h.2 with h0 | ⟨b, off, e, hlt, hc⟩
  · exact .inl h0
  · refine .inr ⟨b, off, e, hlt, fun i hi => ?_⟩
    obtain ⟨ai, ci, h1, h2, h3⟩ := hc i hi
    exact ⟨ai, ci, (hb.cell (p := ⟨b, off + i, none⟩) hlt).trans h1, h2.below hb, h3⟩
set_option maxHeartbeats 8000000 in
set_option maxRecDepth 100000 in
theorem waiting_any (n₀ : Nat) (a : Option Addr) (n cap : Nat) (ls : List (List Ent)) (w : World) (hn₀ : n₀ ≤ w.heap.size) (hL : LsIn n₀ w a n ls) (hn : n ≤ 8) :
    Calls Tryz.prog 85 #[.slice a n cap] w fun e w' => ∃ p v H, e = .returned (.pointer (some ⟨p, 0, none⟩)) ∧ HpI n₀ w' p v H ∧ WaI ls ls.length H ∧ sumH H ≤ ls.flatten.length ∧ (∀ x ∈ hblk p v, w.heap.size ≤ x) ∧ Below w.heap.size w w' := by
  obtain rfl : ls.length = n := hL.1
  have HL := Lib.hid hL
  obtain ⟨W1, hW1⟩ : ∃ W, w.alloc (.cells #[] 170) = W := ⟨_, rfl⟩
  obtain ⟨W2, hW2⟩ : ∃ W, W1.alloc (.cells #[.slice (some ⟨w.heap.size, 0, none⟩) 0 0] 167) = W := ⟨_, rfl⟩
  have hs1 : W1.heap.size = w.heap.size + 1 := by rw [← hW1]; simp
  have hb1 : Below w.heap.size w W2 := by rw [← hW2, ← hW1]; exact ((Below.refl _ _).alloc (Nat.le_refl _) _).alloc (by simp) _
  have hp1 : HpI n₀ W2 W1.heap.size (.slice (some ⟨w.heap.size, 0, none⟩) 0 0) [] := ⟨⟨by rw [← hW2]; exact heap_alloc_new W1 _, rfl, .inl ⟨rfl, .inr ⟨_, _, rfl⟩⟩⟩, by omega, fun b hb => by simp [ob] at hb, fun h hh => by cases hh⟩
  have hf1 : ∀ x ∈ hblk W1.heap.size (.slice (some ⟨w.heap.size, 0, none⟩) 0 0), w.heap.size ≤ x := fun x hx => by
    rcases mem_hblk.1 hx with rfl | hx
    · omega
    · simp [ob] at hx
  have HP1 := Lib.hid hp1
  have HF1 := Lib.hid hf1
  have HN0 := Lib.hid hn₀
  have HB1 := Lib.hid hb1
  have HSZ := Lib.hid hs1
  clear hL hp1 hb1 hs1 hf1 hn₀
  go_enter Tryz.func85, Tryz.ntmps85
  go_wp2_with fail
  go_loopw [10] (fun iv wr => ∃ (i : Nat) (v : Value) (H : List Hd), iv = .int .i64 (i : Int) ∧ i ≤ ls.length ∧ Hid (HpI n₀ wr W1.heap.size v H ∧ ∀ x ∈ hblk W1.heap.size v, w.heap.size ≤ x) ∧ Hid (WaI ls i H ∧ H.length ≤ i ∧ sumH H ≤ (ls.take i).flatten.length) ∧ Hid (Below w.heap.size w wr)) (fun iv _ => ls.length - (Go.RowKit.intOf iv).toNat)
  case atStart => exact ⟨0, _, [], rfl, Nat.zero_le _, Lib.hid ⟨HP1.out, HF1.out⟩, Lib.hid ⟨waI_nil ls, Nat.le_refl _, by simp [sumH]⟩, HB1⟩
  case round =>
    obtain ⟨i, v, H, rfl, hile, HP, HW, HB⟩ := hrel
    by_cases hlt : i < ls.length
    · have hli : (i : Int) < (ls.length : Int) := by omega
      have hld : decide ((i : Int) < (ls.length : Int)) = true := by simp; omega
      obtain ⟨b, off, rfl, hbl, ai, ci, hc, hE, hcap⟩ : ∃ b off, a = some ⟨b, off, none⟩ ∧ b < n₀ ∧ ∃ ai ci, w.cell? ⟨b, off + i, none⟩ = some (.slice ai (ls[i]'hlt).length ci) ∧ EntsAt n₀ w ai (ls[i]'hlt).length (ls[i]'hlt) ∧ (ls[i]'hlt).length ≤ ci := by
        rcases HL.out.2 with h0 | ⟨b, off, e, h1, h2⟩
        · omega
        · obtain ⟨ai, ci, h3, h4, h5⟩ := h2 i hlt
          exact ⟨b, off, e, h1, ai, ci, h3, h4, h5⟩
      have hcr := (HB.out.cell (p := ⟨b, _, none⟩) (Nat.lt_of_lt_of_le hbl HN0.out)).trans hc
      have hpi : ls[i]? = some ls[i] := List.getElem?_eq_getElem hlt
      have hft := flat_take ls i hlt
      generalize ls[i] = l at *
      by_cases hle : l = []
      · subst hle
        have HW2 := Lib.hid (show WaI ls (i + 1) H ∧ H.length ≤ i + 1 ∧ sumH H ≤ (ls.take (i + 1)).flatten.length from ⟨HW.out.1.none hpi, by have := HW.out.2.1; omega, by rw [hft, List.length_append]; have := HW.out.2.2; omega⟩)
        simp only [List.length_nil] at hcr
        clear hc hE hcap hpi hft
        go_wp2_with fail
        go_roundw
        case rel => exact ⟨i + 1, v, H, by go_num, hlt, HP, HW2, HB⟩
        case measure => simp [Go.RowKit.intOf]; omega
      · have hlp : 0 < l.length := List.length_pos_iff.2 hle
        have u1 : (0 : Int) < (l.length : Int) := by omega
        have u2 : decide ((0 : Int) < (l.length : Int)) = true := by simp; omega
        have CP := Lib.hid (gpush_any n₀ W1.heap.size v H ⟨ai, ci, l, i⟩ wr HP.out.1 HW.out.1.heap ((hdAt_of hE hcap hle).below (HB.out.mono HN0.out)) (by have := HW.out.2.1; omega))
        have HM := Lib.hid (show ∀ H', HeapH H' H'.length → H'.Perm (H ++ [(⟨ai, ci, l, i⟩ : Hd)]) → WaI ls (i + 1) H' ∧ H'.length ≤ i + 1 ∧ sumH H' ≤ (ls.take (i + 1)).flatten.length from fun H' h1 h2 => ⟨HW.out.1.more rfl hpi hle h1 h2, by rw [h2.length_eq, List.length_append]; have := HW.out.2.1; simp; omega, by
          have h3 : sumH (H ++ [(⟨ai, ci, l, i⟩ : Hd)]) = sumH H + l.length := by unfold sumH; simp
          rw [sumH_perm h2, h3, hft, List.length_append]
          have := HW.out.2.2
          omega⟩)
        unfold Hd.val at CP
        dsimp only at CP
        clear hc hE hcap hpi hle hft
        generalize l.length = len at *
        go_wp2_with (first | (go_at_call 115; (with_reducible refine CP.out.mono ?_); rintro e w1 ⟨rfl, v', H', hp', hpe, hh', ht', ho'⟩; have HP2 := Lib.hid (show HpI n₀ w1 W1.heap.size v' H' ∧ ∀ x ∈ hblk W1.heap.size v', w.heap.size ≤ x from ⟨hp', hblk_new ho' HP.out.2 HB.out.size⟩); have HW2 := Lib.hid (HM.out H' hh' hpe); have HB2 := Lib.hid (HB.out.trans (ht'.below HB.out.size HP.out.2)); clear hp' hpe hh' ht' ho') | fail)
        go_roundw
        case rel => exact ⟨i + 1, v', H', by go_num, hlt, HP2, HW2, HB2⟩
        case measure => simp [Go.RowKit.intOf]; omega
    · obtain rfl : i = ls.length := by omega
      have hsum := HW.out.2.2
      rw [List.take_length] at hsum
      have HSU := Lib.hid hsum
      clear hsum
      go_wp2_with fail
      go_ret
      exact ⟨_, v, H, rfl, HP.out.1, HW.out.1, HSU.out, HP.out.2, HB.out⟩
end Go.Proofs.YtcbailiniigcnaaGreat
