/- wal's Segments. -/
import Derived.Test.YtlgcbapgbpofoaaGreatWE
import Derived.Test.YtlgcbapgbpofoaaGreatWH
namespace Go.Proofs.YtlgcbapgbpofoaaGreat
open Go.RowKit

/-- The numbers of the segments among names. -/
def segs (ns : List Nm) : List Nat := ns.filterMap numOf
def natVals (l : List Nat) : List Value := l.map fun (z : Nat) => Value.int .i64 (z : Int)
theorem segs_snoc (ns : List Nm) (x : Nm) : segs (ns ++ [x]) = segs ns ++ (numOf x).toList := by
  unfold segs
  rw [List.filterMap_append]
  cases h : numOf x <;> simp [h]
theorem infoInt : (Tryz.prog.info? 3).map (fun i => (i.zero, i.size, i.bytes)) = some (some (.int .i64 0), 1, 8) := by kernel_rfl
set_option maxHeartbeats 4000000 in
set_option maxRecDepth 100000 in
theorem segments_any (pv : Value) (ns : List Nm) (hn : ns.length ≤ 1000000) (w : World)
    (CN : Calls Tryz.prog 161 #[pv] w fun e w' => ∃ v, e = .returned v ∧ Row w' 9 1 v ns.length (nmVals ns) ∧ Below w.heap.size w w') :
    Calls Tryz.prog 41 #[pv] w fun e w' => ∃ V, e = .returned V ∧ Row w' 3 1 V (segs ns).length (natVals (segs ns)) ∧ (∀ k, ob V = some k → w.heap.size ≤ k) ∧ Below w.heap.size w w' := by
  obtain ⟨i0, hi, hz0, hzs, hzb⟩ := info_parts infoInt
  have CN := Lib.hid CN
  go_enter Tryz.func41, Tryz.ntmps41
  go_wp2_with (fail)
  go_at_call 161
  refine CN.out.mono ?_
  rintro _ w1 ⟨v, rfl, hrw, b1⟩
  obtain ⟨a, cap, rfl, hlc, hcm⟩ := hrw.le
  have hcells : ∀ i (h : i < ns.length), ∃ g o, a = some ⟨g, o, none⟩ ∧ g < w1.heap.size ∧ w1.cell? ⟨g, o + i, none⟩ = some (.string ⟨ns[i].toArray⟩) := by
    intro i h
    rcases hrw.2 with ⟨h0, -⟩ | ⟨g, cap', cur, e, hg, -⟩
    · omega
    · simp only [Value.slice.injEq] at e
      obtain ⟨rfl, -, rfl⟩ := e
      refine ⟨g, 0, rfl, (Array.getElem?_eq_some_iff.1 hg).1, hrw.cell g 0 _ rfl i _ ?_⟩
      simp [nmVals, h]
  have HC := Lib.hid hcells
  have HB := Lib.hid b1
  clear hcells hrw b1 CN
  go_wp2_with (fail)
  go_loopw [3, 11] (fun lv iv wr => ∃ (i : Nat) (V : Value), V = lv ∧ iv = .int .i64 (i : Int) ∧ i ≤ ns.length ∧ Row wr 3 1 V (segs (ns.take i)).length (natVals (segs (ns.take i))) ∧ (∀ k, ob V = some k → w1.heap.size ≤ k) ∧ Below w1.heap.size w1 wr) (fun _ iv _ => ns.length - (intOf iv).toNat)
  case atStart => exact ⟨0, _, rfl, rfl, Nat.zero_le _, row_nil _ _ _, fun k hk => by simp [ob] at hk, Below.refl _ _⟩
  case round =>
    obtain ⟨i, V, rfl, rfl, hi0, hrow, hob, hbl⟩ := hrel
    have HRW := Lib.hid hrow
    have HOB := Lib.hid hob
    clear hrow hob
    by_cases hlt : i < ns.length
    · obtain ⟨g, o, rfl, hgl, q0⟩ := HC.out i hlt
      have q1 := (hbl.cell (p := ⟨g, o + i, none⟩) hgl).trans q0
      have hil : (i : Int) < (ns.length : Int) := by omega
      obtain ⟨NM, hNM⟩ : ∃ NM : ByteArray, (⟨ns[i].toArray⟩ : ByteArray) = NM := ⟨_, rfl⟩
      have hNl : NM.data.toList = ns[i] := by rw [← hNM]
      have CU := Lib.hid (fun W => number_any NM W)
      rw [hNl] at CU
      rw [hNM] at q1
      have HSG := Lib.hid (show segs (ns.take (i + 1)) = segs (ns.take i) ++ (numOf ns[i]).toList by rw [List.take_succ_eq_append_getElem hlt, segs_snoc])
      have hsl : (segs (ns.take i)).length ≤ i := by
        have h1 := List.length_filterMap_le numOf (ns.take i)
        rw [List.length_take] at h1
        show (List.filterMap numOf (ns.take i)).length ≤ i
        omega
      have HB1 := Lib.hid (show (segs (ns.take i)).length + 1 ≤ maxLen by unfold maxLen; omega)
      have HB3 := Lib.hid (show ((segs (ns.take i)).length + 1) * 8 ≤ 140737488355328 by omega)
      have HBL := Lib.hid (show ∀ (o : Obj), Below w1.heap.size w1 (wr.alloc o) from fun o => hbl.alloc hbl.size o)
      clear hNM hNl q0
      unfold numV at CU
      generalize numOf ns[i] = q at CU HSG
      cases q with
      | none =>
        rw [Option.toList_none, List.append_nil] at HSG
        go_wp2_with (go_at_call 165; refine (CU.out _).mono ?_; rintro _ _ ⟨rfl, rfl⟩)
        go_roundw
        case rel => exact ⟨i + 1, V, rfl, by go_num, by omega, by rw [HSG.out]; exact HRW.out, HOB.out, hbl⟩
        case measure => simp [intOf]; omega
      | some z =>
        rw [Option.toList_some] at HSG
        have HSrc := Lib.hid (show ∀ w4 : World, Src Tryz.prog 1 70 (.slice (some ⟨w4.heap.size, 0, none⟩) 1 1) 1 [.int .i64 (z : Int)] (w4.alloc (.cells #[.int .i64 (z : Int)] 3)) from fun w4 => Src.ofSlice (P := Tryz.prog) _ (size := 1) Tryz.underlying70 ⟨w4.heap.size, 0, none⟩ 1 1 _ rfl (fun j u hu => by
          match j, hu with
          | 0, hu => simpa [Addr.add] using hu) (by simp [Value.oneCell']))
        go_wp2_with (first
          | (go_at_call 165; refine (CU.out _).mono ?_; rintro _ _ ⟨rfl, rfl⟩)
          | (at_builtin; refine wpList_append_row _ rfl _ _ 70 70 rfl 3 i0 _ 1 8 Tryz.underlying70 hi hz0 hzs hzb rfl V _ _ rfl (HRW.out.kept (fun k hk => Below.heap_alloc wr _ k (HRW.out.lt k hk))) _ rfl 1 _ (HSrc.out _) HB1.out HB3.out ?_; intro v' w5 hrow5 hgrow5 hob5)
          | fail)
        have hB4 := HBL.out (.cells #[.int .i64 (z : Int)] 3)
        have hB5 : Below w1.heap.size w1 w5 := hB4.trans ((turn_of_grown (F := (ob V).toList) hgrow5 (fun k hk => .inl (by simp [hk]))).below hB4.size (fun k hk => HOB.out k (by simpa using hk)))
        go_roundw
        case rel =>
          refine ⟨i + 1, v', rfl, by go_num, by omega, by rw [HSG.out, List.length_append]; unfold natVals; rw [List.map_append]; exact hrow5, fun k hk => ?_, hB5⟩
          rcases hob5 with e | ⟨e, -⟩
          · exact HOB.out k (by rw [← e]; exact hk)
          · rw [e] at hk
            have := Option.some.inj hk
            have := hB4.size
            omega
        case measure => simp [intOf]; omega
    · obtain rfl : i = ns.length := by omega
      go_wp2
      go_ret
      have hr := HRW.out
      rw [List.take_length] at hr
      exact ⟨V, rfl, hr, fun k hk => by have := HOB.out k hk; have := HB.out.size; omega, HB.out.trans (hbl.mono HB.out.size)⟩
end Go.Proofs.YtlgcbapgbpofoaaGreat
