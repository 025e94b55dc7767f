/- slices.Clone of ints. -/
import Derived.Test.YthaalhigmihijabMN
import Derived.Test.YthaalhigmihijabFR
import Derived.Lib.BufferMore
import Derived.Lib.Hide
namespace Go.Proofs.Ythaalhigmihijab
open Go.RowKit Go.Lib

theorem infoI8 : (Try.prog.info? 3).map (fun i => (i.zero, i.size, i.bytes)) = some (some (.int .i64 0), 1, 8) := by kernel_rfl
/-- Ints as cells. -/
def cellsI (ks : List Int) : List Value := ks.map fun k => .int .i64 k
theorem cellsI_one (ks : List Int) : ∀ u ∈ cellsI ks, u.oneCell' = true := by
  intro u hu
  obtain ⟨k, -, rfl⟩ := List.mem_map.1 hu
  rfl
theorem cellsI_length (ks : List Int) : (cellsI ks).length = ks.length := by simp [cellsI]
set_option maxHeartbeats 2000000 in
set_option maxRecDepth 100000 in
theorem scloneI_some (y : Addr) (cap : Nat) (ks : List Int) (w : World) (hc : ∀ j u, (cellsI ks)[j]? = some u → w.cell? (y.add j) = some u) (hn : ks.length ≤ 1000000000) :
    Calls Try.prog 39 #[.slice (some y) ks.length cap] w fun e w' => ∃ v', e = .returned v' ∧ Row w' 3 1 v' ks.length (cellsI ks) ∧ Below w.heap.size w w' ∧ ∀ k, ob v' = some k → w.heap.size ≤ k := by
  have hwa : Below w.heap.size w (w.alloc (.cells #[] 3)) := (Below.refl _ _).alloc (Nat.le_refl _) _
  have HR := Lib.hid (show Row (w.alloc (.cells #[] 3)) 3 1 (.slice (some ⟨w.heap.size, 0, none⟩) 0 0) 0 [] from ⟨rfl, .inl ⟨rfl, .inr ⟨_, _, rfl⟩⟩⟩)
  have HS := Lib.hid (Src.ofSlice (P := Try.prog) (w.alloc (.cells #[] 3)) (size := 1) Try.underlying23 y ks.length cap (cellsI ks) (by rw [cellsI_length, Nat.mul_one]) (fun j u hu => (hwa.cell (p := y.add j) (World.block_lt_of_cell? w _ (hc j u hu))).trans (hc j u hu)) (cellsI_one ks))
  have HB1 := Lib.hid (show 0 + ks.length ≤ maxLen by unfold maxLen; omega)
  have HB2 := Lib.hid (show (0 + ks.length) * 8 ≤ 140737488355328 by omega)
  have HW := Lib.hid hwa
  have heq := fun w => run_eql_slice_some_nil (P := Try.prog) w (t := 23) y ks.length cap Try.underlying23
  obtain ⟨i0, hi, hz0, hzs, hzb⟩ := info_parts infoI8
  clear hwa hc
  go_enter Try.func39, Try.ntmps39
  go_wp2_with (refine wpList_append_row _ rfl (.tmp 5) (.tmp 6) 23 23 rfl 3 i0 _ 1 8 Try.underlying23 hi hz0 hzs hzb rfl (.slice (some ⟨w.heap.size, 0, none⟩) 0 0) _ _ (by simp [Act.eval]) HR.out (.slice (some y) ks.length cap) (by simp [Act.eval]) ks.length _ HS.out HB1.out HB2.out ?_; intro v' w5 hrow5 hgrow5 hob5)
  go_ret
  refine ⟨v', rfl, by simpa using hrow5, ?_, ?_⟩
  · refine HW.out.trans ?_
    rcases hob5 with hq | ⟨hq, hg⟩
    · exact ⟨hgrow5.os, hgrow5.tape, hgrow5.output, hgrow5.size, fun k hk => hgrow5.block k (Nat.lt_of_lt_of_le hk HW.out.size) (by simp [ob])⟩
    · exact ⟨hg.os, hg.tape, hg.output, hg.size, fun k hk => hg.block k (Nat.lt_of_lt_of_le hk HW.out.size) (by simp)⟩
  · intro k hk
    rcases hob5 with hq | ⟨hq, -⟩
    · rw [hq] at hk
      simp [ob] at hk
    · rw [hq] at hk
      cases hk
      exact HW.out.size
set_option maxRecDepth 100000 in
theorem scloneI_none (w : World) : Calls Try.prog 39 #[.slice none 0 0] w fun e w' => e = .returned (.slice none 0 0) ∧ w = w' := by
  have heq := fun w => run_eql_slice_nil_nil (P := Try.prog) w (t := 23) 0 0 Try.underlying23
  go_enter Try.func39, Try.ntmps39
  go_wp2
  go_ret
  exact ⟨rfl, rfl⟩
/-- A slice of ints that can be read: none at all, or one that lies somewhere. -/
def IntsV (w : World) (v : Value) (ks : List Int) : Prop := (v = .slice none 0 0 ∧ ks = []) ∨ ∃ y cap, v = .slice (some y) ks.length cap ∧ ∀ j u, (cellsI ks)[j]? = some u → w.cell? (y.add j) = some u
theorem intsV_plain {w : World} (b o cap : Nat) (ks : List Int) (hc : ∀ j u, (cellsI ks)[j]? = some u → w.cell? ⟨b, o + j, none⟩ = some u) : IntsV w (.slice (some ⟨b, o, none⟩) ks.length cap) ks :=
  .inr ⟨⟨b, o, none⟩, cap, rfl, fun j u hu => by
    have hadd : (⟨b, o, none⟩ : Addr).add j = ⟨b, o + j, none⟩ := by unfold Addr.add; split <;> simp_all
    rw [hadd]
    exact hc j u hu⟩
theorem IntsV.below {w w' : World} {v : Value} {ks : List Int} (h : IntsV w v ks) (hb : Below w.heap.size w w') : IntsV w' v ks := by
  rcases h with h | ⟨y, cap, rfl, hc⟩
  · exact .inl h
  · exact .inr ⟨y, cap, rfl, fun j u hu => (hb.cell (p := y.add j) (World.block_lt_of_cell? w _ (hc j u hu))).trans (hc j u hu)⟩
theorem scloneI_any (v : Value) (ks : List Int) (w : World) (h : IntsV w v ks) (hn : ks.length ≤ 1000000000) :
    Calls Try.prog 39 #[v] w fun e w' => ∃ v', e = .returned v' ∧ Row w' 3 1 v' ks.length (cellsI ks) ∧ Below w.heap.size w w' ∧ ∀ k, ob v' = some k → w.heap.size ≤ k := by
  rcases h with ⟨rfl, rfl⟩ | ⟨y, cap, rfl, hc⟩
  · refine (scloneI_none w).mono ?_
    rintro e w' ⟨rfl, rfl⟩
    exact ⟨_, rfl, row_nil _ _ _, Below.refl _ _, fun k hk => by simp [ob] at hk⟩
  · exact scloneI_some y cap ks w hc hn
end Go.Proofs.Ythaalhigmihijab
