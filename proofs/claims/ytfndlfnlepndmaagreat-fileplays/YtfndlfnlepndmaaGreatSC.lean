/- slices.Clone of bytes and of changes; a file's twin. -/
import Derived.Test.YtfndlfnlepndmaaGreatFG
import Derived.Lib.BufferMore
namespace Go.Proofs.YtfndlfnlepndmaaGreat
open Go.RowKit Go.Lib

theorem infoU8 : (Tryz.prog.info? 5).map (fun i => (i.zero, i.size, i.bytes)) = some (some (.int .u8 0), 1, 1) := by kernel_rfl
set_option maxHeartbeats 2000000 in
set_option maxRecDepth 100000 in
theorem sclone8_some (b o n cap : Nat) (xs : List Value) (w : World) (h : Row w 5 1 (.slice (some ⟨b, o, none⟩) n cap) n xs) (hn : n ≤ 1000000000) (h1 : ∀ u ∈ xs, u.oneCell' = true) :
    Calls Tryz.prog 116 #[.slice (some ⟨b, o, none⟩) n cap] w fun e w' => ∃ v', e = .returned v' ∧ Row w' 5 1 v' n xs ∧ Below w.heap.size w w' ∧ ∀ k, ob v' = some k → w.heap.size ≤ k := by
  have hwa : Below w.heap.size w (w.alloc (.cells #[] 5)) := (Below.refl _ _).alloc (Nat.le_refl _) _
  have HR := Lib.hid (show Row (w.alloc (.cells #[] 5)) 5 1 (.slice (some ⟨w.heap.size, 0, none⟩) 0 0) 0 [] from ⟨rfl, .inl ⟨rfl, .inr ⟨_, _, rfl⟩⟩⟩)
  have HS := Lib.hid (Src.ofSlice (P := Tryz.prog) (w.alloc (.cells #[] 5)) (size := 1) Tryz.underlying85 ⟨b, o, none⟩ n cap xs h.1 (fun j u hu => by
    have hc := h.cell b o cap rfl j u hu
    have hadd : (⟨b, o, none⟩ : Addr).add j = ⟨b, o + j, none⟩ := by unfold Addr.add; split <;> simp_all
    rw [hadd]
    exact (hwa.cell (p := ⟨b, o + j, none⟩) (World.block_lt_of_cell? w _ hc)).trans hc) h1)
  have HB1 := Lib.hid (show 0 + n ≤ maxLen by unfold maxLen; omega)
  have HB2 := Lib.hid (show (0 + n) * 1 ≤ 140737488355328 by omega)
  have HW := Lib.hid hwa
  have heq := fun w => run_eql_slice_some_nil (P := Tryz.prog) w (t := 85) ⟨b, o, none⟩ n cap Tryz.underlying85
  obtain ⟨i0, hi, hz0, hzs, hzb⟩ := info_parts infoU8
  clear hwa h h1
  go_enter Tryz.func116, Tryz.ntmps116
  go_wp2_with (refine wpList_append_row _ rfl (.tmp 5) (.tmp 6) 85 85 rfl 5 i0 _ 1 1 Tryz.underlying85 hi hz0 hzs hzb rfl (.slice (some ⟨w.heap.size, 0, none⟩) 0 0) _ _ (by simp [Act.eval]) HR.out (.slice (some ⟨b, o, none⟩) n cap) (by simp [Act.eval]) n _ HS.out HB1.out HB2.out ?_; intro v' w5 hrow5 hgrow5 hob5)
  go_ret
  refine ⟨v', rfl, by simpa using hrow5, ?_, ?_⟩
  · refine HW.out.trans ?_
    rcases hob5 with hq | ⟨hq, hg⟩
    · exact ⟨hgrow5.os, hgrow5.tape, hgrow5.output, hgrow5.size, fun k hk => hgrow5.block k (Nat.lt_of_lt_of_le hk HW.out.size) (by simp [ob])⟩
    · exact ⟨hg.os, hg.tape, hg.output, hg.size, fun k hk => hg.block k (Nat.lt_of_lt_of_le hk HW.out.size) (by simp)⟩
  · intro k hk
    rcases hob5 with hq | ⟨hq, -⟩
    · rw [hq] at hk
      simp [ob] at hk
    · rw [hq] at hk
      cases hk
      exact HW.out.size
set_option maxRecDepth 100000 in
theorem sclone8_none (w : World) : Calls Tryz.prog 116 #[.slice none 0 0] w fun e w' => e = .returned (.slice none 0 0) ∧ w = w' := by
  have heq := fun w => run_eql_slice_nil_nil (P := Tryz.prog) w (t := 85) 0 0 Tryz.underlying85
  go_enter Tryz.func116, Tryz.ntmps116
  go_wp2
  go_ret
  exact ⟨rfl, rfl⟩
theorem sclone8_any (v : Value) (n : Nat) (xs : List Value) (w : World) (h : Row w 5 1 v n xs) (hn : n ≤ 1000000000) (h1 : ∀ u ∈ xs, u.oneCell' = true) :
    Calls Tryz.prog 116 #[v] w fun e w' => ∃ v', e = .returned v' ∧ Row w' 5 1 v' n xs ∧ Below w.heap.size w w' ∧ ∀ k, ob v' = some k → w.heap.size ≤ k := by
  rcases h.2 with ⟨rfl, rfl | ⟨b, o, rfl⟩⟩ | ⟨g, cap, cur, rfl, -⟩
  · refine (sclone8_none w).mono ?_
    rintro e w' ⟨rfl, rfl⟩
    exact ⟨_, rfl, h, Below.refl _ _, fun k hk => by simp [ob] at hk⟩
  · exact sclone8_some b o 0 0 xs w h hn h1
  · exact sclone8_some g 0 n (cap + 1) xs w h hn h1
set_option maxHeartbeats 2000000 in
set_option maxRecDepth 100000 in
theorem scloneC_some (b o n cap : Nat) (xs : List Value) (w : World) (h : Row w 80 3 (.slice (some ⟨b, o, none⟩) n cap) n xs) (hn : n ≤ 1000000000) (h1 : ∀ u ∈ xs, u.oneCell' = true) :
    Calls Tryz.prog 26 #[.slice (some ⟨b, o, none⟩) n cap] w fun e w' => ∃ v', e = .returned v' ∧ Row w' 80 3 v' n xs ∧ Below w.heap.size w w' ∧ ∀ k, ob v' = some k → w.heap.size ≤ k := by
  have hwa : Below w.heap.size w (w.alloc (.cells #[] 80)) := (Below.refl _ _).alloc (Nat.le_refl _) _
  have HR := Lib.hid (show Row (w.alloc (.cells #[] 80)) 80 3 (.slice (some ⟨w.heap.size, 0, none⟩) 0 0) 0 [] from ⟨rfl, .inl ⟨rfl, .inr ⟨_, _, rfl⟩⟩⟩)
  have HS := Lib.hid (Src.ofSlice (P := Tryz.prog) (w.alloc (.cells #[] 80)) (size := 3) Tryz.underlying68 ⟨b, o, none⟩ n cap xs h.1 (fun j u hu => by
    have hc := h.cell b o cap rfl j u hu
    have hadd : (⟨b, o, none⟩ : Addr).add j = ⟨b, o + j, none⟩ := by unfold Addr.add; split <;> simp_all
    rw [hadd]
    exact (hwa.cell (p := ⟨b, o + j, none⟩) (World.block_lt_of_cell? w _ hc)).trans hc) h1)
  have HB1 := Lib.hid (show 0 + n ≤ maxLen by unfold maxLen; omega)
  have HB2 := Lib.hid (show (0 + n) * 40 ≤ 140737488355328 by omega)
  have HW := Lib.hid hwa
  have heq := fun w => run_eql_slice_some_nil (P := Tryz.prog) w (t := 68) ⟨b, o, none⟩ n cap Tryz.underlying68
  obtain ⟨i0, hi, hz0, hzs, hzb⟩ := info_parts infoChg
  clear hwa h h1
  go_enter Tryz.func26, Tryz.ntmps26
  go_wp2_with (refine wpList_append_row _ rfl (.tmp 5) (.tmp 6) 68 68 rfl 80 i0 _ 3 40 Tryz.underlying68 hi hz0 hzs hzb rfl (.slice (some ⟨w.heap.size, 0, none⟩) 0 0) _ _ (by simp [Act.eval]) HR.out (.slice (some ⟨b, o, none⟩) n cap) (by simp [Act.eval]) n _ HS.out HB1.out HB2.out ?_; intro v' w5 hrow5 hgrow5 hob5)
  go_ret
  refine ⟨v', rfl, by simpa using hrow5, ?_, ?_⟩
  · refine HW.out.trans ?_
    rcases hob5 with hq | ⟨hq, hg⟩
    · exact ⟨hgrow5.os, hgrow5.tape, hgrow5.output, hgrow5.size, fun k hk => hgrow5.block k (Nat.lt_of_lt_of_le hk HW.out.size) (by simp [ob])⟩
    · exact ⟨hg.os, hg.tape, hg.output, hg.size, fun k hk => hg.block k (Nat.lt_of_lt_of_le hk HW.out.size) (by simp)⟩
  · intro k hk
    rcases hob5 with hq | ⟨hq, -⟩
    · rw [hq] at hk
      simp [ob] at hk
    · rw [hq] at hk
      cases hk
      exact HW.out.size
set_option maxRecDepth 100000 in
theorem scloneC_none (w : World) : Calls Tryz.prog 26 #[.slice none 0 0] w fun e w' => e = .returned (.slice none 0 0) ∧ w = w' := by
  have heq := fun w => run_eql_slice_nil_nil (P := Tryz.prog) w (t := 68) 0 0 Tryz.underlying68
  go_enter Tryz.func26, Tryz.ntmps26
  go_wp2
  go_ret
  exact ⟨rfl, rfl⟩
theorem scloneC_any (v : Value) (n : Nat) (xs : List Value) (w : World) (h : Row w 80 3 v n xs) (hn : n ≤ 1000000000) (h1 : ∀ u ∈ xs, u.oneCell' = true) :
    Calls Tryz.prog 26 #[v] w fun e w' => ∃ v', e = .returned v' ∧ Row w' 80 3 v' n xs ∧ Below w.heap.size w w' ∧ ∀ k, ob v' = some k → w.heap.size ≤ k := by
  rcases h.2 with ⟨rfl, rfl | ⟨b, o, rfl⟩⟩ | ⟨g, cap, cur, rfl, -⟩
  · refine (scloneC_none w).mono ?_
    rintro e w' ⟨rfl, rfl⟩
    exact ⟨_, rfl, h, Below.refl _ _, fun k hk => by simp [ob] at hk⟩
  · exact scloneC_some b o 0 0 xs w h hn h1
  · exact scloneC_some g 0 n (cap + 1) xs w h hn h1
end Go.Proofs.YtfndlfnlepndmaaGreat
