/- Contracts: what is done to a directory; all of it again. -/
import Derived.Test.YtlgcbapgbpofoaaGreatFA
namespace Go.Proofs.YtlgcbapgbpofoaaGreat
open Go.RowKit

theorem keyS : Maps.Keyed Tryz.prog 9 := Maps.string_keyed Tryz.underlying9
theorem zeroC (w : World) : (zeroValue 198).run Tryz.prog w = .ok (.pointer none) w := by kernel_rfl
theorem dirT : Tryz.prog.underlying 164 = some (.map 9 198) := Tryz.underlying164
abbrev DirAt (w : World) (b : Nat) (l : Dir) : Prop := OwnsDir Tryz.prog 9 w b l
theorem dirLook {w : World} {b : Nat} {l : Dir} (h : DirAt w b l) (s : ByteArray) (hs : s.size ≤ maxLen) :
    (Instr.lookup 164 (.map (some b)) (.string s) false).run Tryz.prog w = .ok (pAt (dget l s.data.toList)) w := h.look Tryz.underlying9 dirT zeroC s hs
theorem toList_data (s : ByteArray) : s.toList = s.data.toList := by
  simp [ByteArray.toList_eq]
theorem str_nil {s : ByteArray} (h : s.data.toList = []) : s.toList.isEmpty = true := by rw [toList_data, h]; rfl
theorem str_ne {s : ByteArray} (h : s.data.toList ≠ []) : s.toList.isEmpty = false := by rw [toList_data]; simpa using h
theorem DirAt.stored {w' : World} {b : Nat} {l : Dir} {n : Nm} {a k : Nat} (h : w'.ownsMap Tryz.prog 9 pElem b k ((DataW.map (encD l)).put (.string n) (.lit (.int .i64 a)))) : DirAt w' b (dput l n a) := by
  rw [encD_put] at h
  exact ownsDir_of h
theorem DirAt.dropped {w' : World} {b : Nat} {l : Dir} {n : Nm} {k : Nat} (h : w'.ownsMap Tryz.prog 9 pElem b k ((DataW.map (encD l)).del (.string n))) : DirAt w' b (ddel l n) := by
  rw [encD_del] at h
  exact ownsDir_of h
theorem key_str {s : ByteArray} (hs : s.size ≤ maxLen) : keyOf Tryz.prog 9 (.string s) = some (.string s.data.toList) := WideMaps.keyOf_string_mk Tryz.underlying9 hs

set_option maxHeartbeats 400000 in
set_option maxRecDepth 100000 in
theorem chg_do (b : Nat) (l : Dir) (src dst : ByteArray) (made : Option Nat) (w : World) (h : DirAt w b l) (h1 : src.size ≤ 1000) (h2 : dst.size ≤ 1000) (hl : l.length ≤ 1000000000)
    (ha : (Chg.mk src.data.toList dst.data.toList made).able l) :
    Calls Tryz.prog 228 #[.agg #[.string src, .string dst, pAt made], .map (some b)] w fun e w' => e = .returned (.tuple #[]) ∧ DirAt w' b ((Chg.mk src.data.toList dst.data.toList made).run l) ∧ Turn [b] w w' := by
  have m1 : src.size ≤ maxLen := by unfold maxLen; omega
  have m2 : dst.size ≤ maxLen := by unfold maxLen; omega
  have hm : l.length < maxLen := by unfold maxLen; omega
  have ht0 := Lib.hid ((Turn.refl [b] w).alloc (.cells #[.string src, .string dst, pAt made] 205))
  have hd0 := h.kept (Below.heap_alloc w (.cells #[.string src, .string dst, pAt made] 205) b h.lt)
  by_cases hs : src.data.toList = []
  · have es := str_nil hs
    by_cases hd : dst.data.toList = []
    · have ed := str_nil hd
      have hfin := Lib.hid (show (Chg.mk src.data.toList dst.data.toList made).run l = l by simp only [Chg.run, Chg.less, hs, hd, if_true])
      clear hs hd
      go_enter Tryz.func228, Tryz.ntmps228
      go_wp2
      go_end0
      rw [hfin.out]
      exact ⟨rfl, hd0, ht0.out⟩
    · have ed := str_ne hd
      have hmade : made.isSome = true := by
        rcases ha with ha | ha
        · exact absurd ha hd
        · simpa [Chg.file, hs] using ha
      obtain ⟨a, rfl⟩ := Option.isSome_iff_exists.1 hmade
      have hfin := Lib.hid (show (Chg.mk src.data.toList dst.data.toList (some a)).run l = dput l dst.data.toList a by rw [Chg.run_put _ _ hd (a := a) (by simp [Chg.file, hs])]; simp only [Chg.less, hs, if_true])
      have hown := Lib.hid hd0
      clear hd0 hs hd
      go_enter Tryz.func228, Tryz.ntmps228
      go_wp2_with (at_mapUpdate; refine wpList_mapUpdate_own _ rfl _ _ _ 164 rfl 9 198 keyS dirT pElem b l.length _ rfl hown.out hm _ _ _ rfl rfl (key_str m2) _ [] (pElem_some a) ?_; intro w1 hown1 hgrow1)
      go_end0
      rw [hfin.out]
      exact ⟨rfl, DirAt.stored hown1, ht0.out.trans (turn_of_grown hgrow1 (F := [b]) (by simp)) (by simp)⟩
  · have es := str_ne hs
    have hlook := dirLook hd0 src m1
    have hown := Lib.hid hd0
    clear hd0
    by_cases hd : dst.data.toList = []
    · have ed := str_nil hd
      have hfin := Lib.hid (show (Chg.mk src.data.toList dst.data.toList made).run l = ddel l src.data.toList by simp only [Chg.run, Chg.less, hs, hd, if_true, if_false])
      generalize pAt (dget l src.data.toList) = q at hlook
      clear hs hd
      go_enter Tryz.func228, Tryz.ntmps228
      go_wp2_with (at_delete; refine wpList_delete_own _ rfl _ _ 164 9 rfl 198 keyS dirT pElem b l.length _ rfl hown.out _ _ rfl (key_str m1) ?_; intro w1 hown1 hturn1; have hc1 : w1.cell? ⟨w.heap.size, 1, none⟩ = some (.string dst) := hturn1.grown.cell (by simp) (by have := h.lt; simp; omega))
      go_end0
      rw [hfin.out]
      exact ⟨rfl, DirAt.dropped hown1, ht0.out.trans (turn_of_grown hturn1.grown (F := [b]) (by simp)) (by simp)⟩
    · have ed := str_ne hd
      have hsome : (dget l src.data.toList).isSome = true := by
        rcases ha with ha | ha
        · exact absurd ha hd
        · simpa [Chg.file, hs] using ha
      obtain ⟨a, hget⟩ := Option.isSome_iff_exists.1 hsome
      rw [hget] at hlook
      have hle := length_ddel l src.data.toList
      have hfin := Lib.hid (show (Chg.mk src.data.toList dst.data.toList made).run l = dput (ddel l src.data.toList) dst.data.toList a by rw [Chg.run_put _ _ hd (a := a) (by simp [Chg.file, hs, hget])]; simp only [Chg.less, hs, if_false])
      clear hget hsome hs hd
      go_enter Tryz.func228, Tryz.ntmps228
      go_wp2_with (first | (at_delete; refine wpList_delete_own _ rfl _ _ 164 9 rfl 198 keyS dirT pElem b l.length _ rfl hown.out _ _ rfl (key_str m1) ?_; intro w1 hown1 hturn1; have hown2 := Lib.hid (DirAt.dropped hown1); clear hown1; have hc1 : w1.cell? ⟨w.heap.size, 1, none⟩ = some (.string dst) := hturn1.grown.cell (by simp) (by have := h.lt; simp; omega)) | (at_mapUpdate; refine wpList_mapUpdate_own _ rfl _ _ _ 164 rfl 9 198 keyS dirT pElem b _ _ rfl hown2.out (Nat.lt_of_le_of_lt hle hm) _ _ _ rfl rfl (key_str m2) _ [] (pElem_some a) ?_; intro w2 hown3 hgrow2))
      go_end0
      rw [hfin.out]
      exact ⟨rfl, DirAt.stored hown3, (ht0.out.trans (turn_of_grown hturn1.grown (F := [b]) (by simp)) (by simp)).trans (turn_of_grown hgrow2 (F := [b]) (by simp)) (by simp)⟩
end Go.Proofs.YtlgcbapgbpofoaaGreat
