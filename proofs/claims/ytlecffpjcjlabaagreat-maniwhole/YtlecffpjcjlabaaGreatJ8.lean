/- edit's copies. -/
import Derived.Test.YtlecffpjcjlabaaGreatJ7
import Derived.Deep.RegionWith
namespace Go.Proofs.YtlecffpjcjlabaaGreat
open Go.RowKit Go.Shelf

theorem setCell_self {w : World} {g o : Nat} {u : Value} (h : w.cell? ⟨g, o, none⟩ = some u) : w.setCell ⟨g, o, none⟩ u = w := by
  rw [Go.Sort.setCell_eq]
  refine Go.Sort.mapBlock_id w g _ (fun c e fr hc => ?_)
  unfold World.cell? at h
  rw [hc] at h
  have h' : c[o]? = some u := h
  obtain ⟨ho, hu⟩ := Array.getElem?_eq_some_iff.1 h'
  apply Array.ext_getElem?
  intro k
  rw [Array.getElem?_setIfInBounds]
  split
  · rename_i hk
    subst hk
    first | rw [h'] | (rw [if_pos ho, h'])
  · rfl
theorem cloneB_any (s : ByteArray) (W6 W : World) (hlim : s.size ≤ 281474976710656) (hb : Below W6.heap.size W6 W) :
    Calls Tryz.prog 221 #[.string s] W fun e w' => e = .returned (.string s) ∧ Below W6.heap.size W6 w' :=
  (cloneS_any s W hlim).mono fun _ _ ⟨h1, h2⟩ => ⟨h1, hb.trans (h2.mono hb.size)⟩
set_option maxHeartbeats 8000000 in
set_option maxRecDepth 100000 in
theorem copies_any (v : Value) (ts : List Tb) (w : World) (hT : TbsV w v ts) (hl : ts.length ≤ 100000) (hok : ∀ t ∈ ts, t.Short) :
    Calls Tryz.prog 138 #[v] w fun e w' => ∃ v', e = .returned v' ∧ RowB w' v' ts ∧ Below w.heap.size w w' ∧ ∀ k, ob v' = some k → w.heap.size ≤ k := by
  have C1 := Lib.hid (scloneT_any v ts w hT (by omega))
  have HOK := Lib.hid hok
  have mixed : Tryz.prog.follows .mixedOrders = true := by kernel_rfl
  clear hT hok
  go_enter Tryz.func138, Tryz.ntmps138
  go_wp2_with (go_at_call 75; (with_reducible refine C1.out.mono ?_); rintro _ w1 ⟨v1, rfl, hr1, hb1, ho1⟩; have HR1 := Lib.hid hr1; have HB1 := Lib.hid hb1; have HO1 := Lib.hid ho1; obtain ⟨va, vc, rfl, -, -⟩ := Row.le hr1; clear hr1 hb1 ho1)
  clear C1
  go_loopw [9] (fun iv wr => ∃ (i : Nat), iv = .int .i64 (i : Int) ∧ i ≤ ts.length ∧ Hid (RowB wr (.slice va ts.length vc) ts) ∧ Hid (Below w.heap.size w wr)) (fun iv _ => ts.length - (intOf iv).toNat)
  case atStart => exact ⟨0, rfl, Nat.zero_le _, HR1, HB1⟩
  case round =>
    obtain ⟨i, rfl, hi, HR, HB⟩ := hrel
    by_cases hlt : i < ts.length
    · have hne : ts.length ≠ 0 := by omega
      obtain ⟨g, hva, hgw, hcell, hfz⟩ : ∃ g, va = some ⟨g, 0, none⟩ ∧ g < wr.heap.size ∧ (∀ j u, (tabAt ts i).cells[j]? = some u → wr.cell? ⟨g, i * 5 + j, none⟩ = some u) ∧ ∀ j, wr.frozen? ⟨g, j, none⟩ = false := by
        rcases HR.out.2 with ⟨h0, -⟩ | ⟨g, cap, cur, e, hg, -⟩
        · exact absurd h0 hne
        · cases e
          refine ⟨g, rfl, (Array.getElem?_eq_some_iff.1 hg).1, fun j u hu => ?_, fun j => by unfold World.frozen?; rw [hg]; simp⟩
          have := Row.cell HR.out g 0 _ rfl (i * 5 + j) u (by rw [cellsT_get ts i hlt j (cells_lt hu), ← tabAt_get hlt]; exact hu)
          rwa [Nat.zero_add] at this
      subst hva
      have HKX := Lib.hid (HOK.out (tabAt ts i) (by rw [tabAt_get hlt]; exact List.getElem_mem _))
      generalize tabAt ts i = x at *
      obtain ⟨n1, l1, z1, f1, g1⟩ := x
      have q0 : wr.cell? ⟨g, i * 5, none⟩ = some (.int .i64 n1) := hcell 0 _ rfl
      have q1 : wr.cell? ⟨g, i * 5 + 1, none⟩ = some (.int .i64 l1) := hcell 1 _ rfl
      have q2 : wr.cell? ⟨g, i * 5 + 2, none⟩ = some (.int .i64 z1) := hcell 2 _ rfl
      have q3 : wr.cell? ⟨g, i * 5 + 3, none⟩ = some (.string f1) := hcell 3 _ rfl
      have q4 : wr.cell? ⟨g, i * 5 + 4, none⟩ = some (.string g1) := hcell 4 _ rfl
      have hiI : (i : Int) < (ts.length : Int) := by omega
      obtain ⟨W6, hW6⟩ : ∃ W6, wr.alloc (.cells #[.int .i64 n1, .int .i64 l1, .int .i64 z1, .string f1, .string g1] 89) = W6 := ⟨_, rfl⟩
      have b6 : Below wr.heap.size wr W6 := by rw [← hW6]; exact (Below.refl _ _).alloc (Nat.le_refl _) _
      have x6 : BoxB wr.heap.size ⟨n1, l1, z1, f1, g1⟩ W6 := by rw [← hW6]; exact new_block _ _ rfl
      have HBX := Lib.hid (show ∀ W, Below W6.heap.size W6 W → W.cell? ⟨wr.heap.size, 3, none⟩ = some (.string f1) ∧ W.cell? ⟨wr.heap.size, 4, none⟩ = some (.string g1) ∧ W.cell? ⟨g, i * 5 + 3, none⟩ = some (.string f1) ∧ W.cell? ⟨g, i * 5 + 4, none⟩ = some (.string g1) ∧ W.frozen? ⟨g, i * 5 + 3, none⟩ = false ∧ W.frozen? ⟨g, i * 5 + 4, none⟩ = false from fun W hW => by
        have hb := b6.trans (hW.mono b6.size)
        have hf : ∀ j, W.frozen? ⟨g, j, none⟩ = false := fun j => (World.frozen?_of_block (hb.block g hgw)).trans (hfz j)
        exact ⟨(x6.below hW).c3, (x6.below hW).c4, (hb.cell (p := ⟨g, i * 5 + 3, none⟩) hgw).trans q3, (hb.cell (p := ⟨g, i * 5 + 4, none⟩) hgw).trans q4, hf _, hf _⟩)
      have HRW := Lib.hid (show ∀ W, Below W6.heap.size W6 W → RowB W (.slice (some ⟨g, 0, none⟩) ts.length vc) ts ∧ Below w.heap.size w W from fun W hW => by
        have hb := b6.trans (hW.mono b6.size)
        exact ⟨Row.kept HR.out (fun k hk => hb.block k (Row.lt HR.out k hk)), HB.out.trans (hb.mono HB.out.size)⟩)
      have HFN := Lib.hid (show ∀ W, Below W6.heap.size W6 W → RowB ((W.setCell ⟨g, i * 5 + 3, none⟩ (.string f1)).setCell ⟨g, i * 5 + 4, none⟩ (.string g1)) (.slice (some ⟨g, 0, none⟩) ts.length vc) ts ∧ Below w.heap.size w ((W.setCell ⟨g, i * 5 + 3, none⟩ (.string f1)).setCell ⟨g, i * 5 + 4, none⟩ (.string g1)) from fun W hW => by
        obtain ⟨-, -, a3, a4, -, -⟩ := HBX.out W hW
        rw [setCell_self a3, setCell_self a4]
        exact HRW.out W hW)
      have HFM := Lib.hid (show ∀ W, Below W6.heap.size W6 W → RowB ((W.setCell ⟨g, i * 5 + 4, none⟩ (.string g1)).setCell ⟨g, i * 5 + 3, none⟩ (.string f1)) (.slice (some ⟨g, 0, none⟩) ts.length vc) ts ∧ Below w.heap.size w ((W.setCell ⟨g, i * 5 + 4, none⟩ (.string g1)).setCell ⟨g, i * 5 + 3, none⟩ (.string f1)) from fun W hW => by
        obtain ⟨-, -, a3, a4, -, -⟩ := HBX.out W hW
        rw [setCell_self a4, setCell_self a3]
        exact HRW.out W hW)
      have CF := Lib.hid (fun W h => cloneB_any f1 W6 W (by have h := HKX.out; unfold Tb.Short at h; simp only at h; omega) h)
      have CG := Lib.hid (fun W h => cloneB_any g1 W6 W (by have h := HKX.out; unfold Tb.Short at h; simp only at h; omega) h)
      have bz : Below W6.heap.size W6 W6.drew := (Below.refl _ _).drew
      obtain ⟨t1, t2, t3, t4, t5, t6⟩ := HBX.out W6.drew bz
      clear hcell hfz b6 x6
      go_upto_region 5 with fail
      try rw [hW6]
      clear hW6 q0 q1 q2 q3 q4
      go_region_with (first | (go_at_call 221; (with_reducible refine (CF.out _ ?hf).mono ?_); (case hf => assumption); rintro _ w2 ⟨rfl, hb2⟩; obtain ⟨r1, r2, r3, r4, r5, r6⟩ := HBX.out w2 hb2) | (go_at_call 221; (with_reducible refine (CG.out _ ?hg).mono ?_); (case hg => assumption); rintro _ w3 ⟨rfl, hb3⟩; obtain ⟨p1, p2, p3, p4, p5, p6⟩ := HBX.out w3 hb3) | fail)
      all_goals go_wp2_with fail
      all_goals go_roundw
      all_goals first
        | (refine ⟨i + 1, by go_num, by omega, ?_, ?_⟩ <;> first
            | exact Lib.hid (HFN.out _ (by assumption)).1
            | exact Lib.hid (HFN.out _ (by assumption)).2
            | exact Lib.hid (HFM.out _ (by assumption)).1
            | exact Lib.hid (HFM.out _ (by assumption)).2)
        | (simp [intOf]; omega)
    · obtain rfl : i = ts.length := by omega
      have d3 : decide ((ts.length : Int) < (ts.length : Int)) = false := by simp
      go_wp2
      go_ret
      exact ⟨_, rfl, HR.out, HB.out, HO1.out⟩
end Go.Proofs.YtlecffpjcjlabaaGreat
