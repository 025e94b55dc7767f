/- slices.Clone of tables, strings.Clone; edit's copies. -/
import Derived.Test.YtlecffpjcjlabaaGreatJ1
import Derived.Lib.BufferMore
import Derived.Lib.Hide
namespace Go.Proofs.YtlecffpjcjlabaaGreat
open Go.RowKit Go.Lib

theorem info_partsT {n : Nat} {z : Value} {size bytes : Nat} (h : (Tryz.prog.info? n).map (fun i => (i.zero, i.size, i.bytes)) = some (some z, size, bytes)) : ∃ i, Tryz.prog.info? n = some i ∧ i.zero = some z ∧ i.size = size ∧ i.bytes = bytes := by
  cases hi : Tryz.prog.info? n with
  | none => rw [hi] at h; cases h
  | some i =>
    rw [hi] at h
    simp only [Option.map_some, Option.some.injEq, Prod.mk.injEq] at h
    exact ⟨i, rfl, h.1, h.2.1, h.2.2⟩
theorem cloneS_any (s : ByteArray) (w : World) (hlim : s.size ≤ 281474976710656) :
    Calls Tryz.prog 221 #[.string s] w fun e w' => e = .returned (.string s) ∧ Below w.heap.size w w' := by
  have C1 := Lib.hid (fun w => Tryz.stringslite_Clone s w hlim)
  go_enter Tryz.func221, Tryz.ntmps221
  go_wp2_with (go_at_call 262; refine (C1.out _).mono ?_; rintro e w1 ⟨rfl, h1⟩)
  go_ret
  exact ⟨rfl, h1⟩
set_option maxHeartbeats 2000000 in
set_option maxRecDepth 100000 in
theorem scloneT_some (y : Addr) (cap : Nat) (ks : List Tb) (w : World) (hc : ∀ j u, (cellsT ks)[j]? = some u → w.cell? (y.add j) = some u) (hn : ks.length ≤ 1000000) :
    Calls Tryz.prog 75 #[.slice (some y) ks.length cap] w fun e w' => ∃ v', e = .returned v' ∧ RowB w' v' ks ∧ Below w.heap.size w w' ∧ ∀ k, ob v' = some k → w.heap.size ≤ k := by
  have hwa : Below w.heap.size w (w.alloc (.cells #[] 89)) := (Below.refl _ _).alloc (Nat.le_refl _) _
  have HR := Lib.hid (show Row (w.alloc (.cells #[] 89)) 89 5 (.slice (some ⟨w.heap.size, 0, none⟩) 0 0) 0 [] from ⟨rfl, .inl ⟨rfl, .inr ⟨_, _, rfl⟩⟩⟩)
  have HS := Lib.hid (Src.ofSlice (P := Tryz.prog) (w.alloc (.cells #[] 89)) (size := 5) Tryz.underlying49 y ks.length cap (cellsT ks) (cellsT_len ks) (fun j u hu => (hwa.cell (p := y.add j) (World.block_lt_of_cell? w _ (hc j u hu))).trans (hc j u hu)) (cellsT_one1 ks))
  have HB1 := Lib.hid (show 0 + ks.length ≤ maxLen by unfold maxLen; omega)
  have HB2 := Lib.hid (show (0 + ks.length) * 56 ≤ 140737488355328 by omega)
  have HW := Lib.hid hwa
  have heq := fun w => run_eql_slice_some_nil (P := Tryz.prog) w (t := 49) y ks.length cap Tryz.underlying49
  obtain ⟨i0, hi, hz0, hzs, hzb⟩ := info_partsT infoTab
  clear hwa hc
  go_enter Tryz.func75, Tryz.ntmps75
  go_wp2_with (refine wpList_append_row _ rfl (.tmp 5) (.tmp 6) 49 49 rfl 89 i0 _ 5 56 Tryz.underlying49 hi hz0 hzs hzb rfl (.slice (some ⟨w.heap.size, 0, none⟩) 0 0) _ _ (by simp [Act.eval]) HR.out (.slice (some y) ks.length cap) (by simp [Act.eval]) ks.length _ HS.out HB1.out HB2.out ?_; intro v' w5 hrow5 hgrow5 hob5)
  go_ret
  refine ⟨v', rfl, by unfold RowB; simpa using hrow5, ?_, ?_⟩
  · refine HW.out.trans ?_
    rcases hob5 with hq | ⟨hq, hg⟩
    · exact ⟨hgrow5.os, hgrow5.tape, hgrow5.output, hgrow5.size, fun k hk => hgrow5.block k (Nat.lt_of_lt_of_le hk HW.out.size) (by simp [ob])⟩
    · exact ⟨hg.os, hg.tape, hg.output, hg.size, fun k hk => hg.block k (Nat.lt_of_lt_of_le hk HW.out.size) (by simp)⟩
  · intro k hk
    rcases hob5 with hq | ⟨hq, -⟩
    · rw [hq] at hk
      simp [ob] at hk
    · rw [hq] at hk
      cases hk
      exact HW.out.size
set_option maxRecDepth 100000 in
theorem scloneT_none (w : World) : Calls Tryz.prog 75 #[.slice none 0 0] w fun e w' => e = .returned (.slice none 0 0) ∧ w = w' := by
  have heq := fun w => run_eql_slice_nil_nil (P := Tryz.prog) w (t := 49) 0 0 Tryz.underlying49
  go_enter Tryz.func75, Tryz.ntmps75
  go_wp2
  go_ret
  exact ⟨rfl, rfl⟩
theorem scloneT_any (v : Value) (ks : List Tb) (w : World) (h : TbsV w v ks) (hn : ks.length ≤ 1000000) :
    Calls Tryz.prog 75 #[v] w fun e w' => ∃ v', e = .returned v' ∧ RowB w' v' ks ∧ Below w.heap.size w w' ∧ ∀ k, ob v' = some k → w.heap.size ≤ k := by
  rcases h with ⟨rfl, rfl⟩ | ⟨y, cap, rfl, hc⟩
  · refine (scloneT_none w).mono ?_
    rintro e w' ⟨rfl, rfl⟩
    exact ⟨_, rfl, row_nil _ _ _, Below.refl _ _, fun k hk => by simp [ob] at hk⟩
  · exact scloneT_some y cap ks w hc hn
end Go.Proofs.YtlecffpjcjlabaaGreat
