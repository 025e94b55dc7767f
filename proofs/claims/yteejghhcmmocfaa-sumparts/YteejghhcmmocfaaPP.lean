/- The drawn region of SumParts: one theorem a set of done operations. -/
import Derived.Test.YteejghhcmmocfaaS5
import Derived.Deep.RegionHeld3
import Derived.Deep.DrawnRows
namespace Go.Proofs.Yteejghhcmmocfaa
open Go.RowKit
attribute [local go_sem ↓] Go.wp_at_zero Go.wp_at_succ

theorem new_cell {W : World} {C : Array Value} {t : TypeId} {n j : Nat} {v : Value} (hn : n = W.heap.size) (h : C[j]? = some v) : (W.alloc (.cells C t)).cell? ⟨n, j, none⟩ = some v := by
  subst hn
  have hb : (W.alloc (.cells C t)).heap[W.heap.size]? = some (.cells C t) := by simp [World.alloc, -World.alloc_eq]
  simp only [World.cell?, hb]
  exact h
theorem old_cell {W : World} {o : Obj} {n j : Nat} {v : Value} (hn : n < W.heap.size) (h : W.cell? ⟨n, j, none⟩ = some v) : (W.alloc o).cell? ⟨n, j, none⟩ = some v :=
  (((Below.refl W.heap.size W).alloc (Nat.le_refl _) o).cell (p := ⟨n, j, none⟩) hn).trans h
theorem old_cell2 {W : World} {o : Obj} {n j : Nat} {v : Value} (h : W.cell? ⟨n, j, none⟩ = some v) : (W.alloc o).cell? ⟨n, j, none⟩ = some v := old_cell (World.block_lt_of_cell? W _ h) h
theorem bel_alloc {w w1 : World} (h : Below w.heap.size w w1) (o : Obj) : Below w.heap.size w (w1.alloc o) := h.alloc h.size o
theorem bel_trans {w w1 w2 : World} (h : Below w.heap.size w w1) (k : Below w1.heap.size w1 w2) : Below w.heap.size w w2 := h.trans (k.mono h.size)
/-- The operations of the first region of that number. -/
def regOps (n : Nat) : Code → Option (Array Oper)
  | .region m ops _ => if (m == n) = true then some ops else none
  | .seq a b => match regOps n a with
    | some x => some x
    | none => regOps n b
  | .cond _ a b => match regOps n a with
    | some x => some x
    | none => regOps n b
  | .block _ a => regOps n a
  | .loop a => regOps n a
  | .scope a => regOps n a
  | _ => none
noncomputable def OPS : Array Oper := (regOps 3 (Try.f3.body.getD .skip)).getD #[]
theorem wpAnyH_listed {P : Program} {md : Region.Mode} {ops : Array Oper} {Q : Exit → Act → World → Prop} {S : World → Prop} {n : Nat} {l l' : Array Bool} {a : Act} {w : World} (h : l = l') (k : wpAnyH P md ops Q S n l' a w) : wpAnyH P md ops Q S n l a w := h ▸ k
theorem wpAnyH_ops {P : Program} {md : Region.Mode} {ops ops' : Array Oper} {Q : Exit → Act → World → Prop} {S : World → Prop} {n : Nat} {l : Array Bool} {a : Act} {w : World} (h : ops = ops') (k : wpAnyH P md ops' Q S n l a w) : wpAnyH P md ops Q S n l a w := h ▸ k
section
variable {s A B C D FA FD G : ByteArray} {a b cc dd : Nat} {w : World} {Q : Exit → Act → World → Prop}
/-- What is known throughout. -/
structure PC (s : ByteArray) (a b : Nat) (A B C D FA FD G : ByteArray) (cc dd : Nat) (w : World) (Q : Exit → Act → World → Prop) : Prop where
  facts : s.extract 0 a = A ∧ s.extract a b = B ∧ s.extract b s.size = C ∧ s.extract a s.size = D ∧ FA ++ FD = G ∧ ¬ (9223372036854775807 < FA.size + FD.size) ∧ (0 : Int) ≤ (a : Int) ∧ (a : Int) ≤ (b : Int) ∧ (b : Int) ≤ (s.size : Int) ∧ (a : Int) ≤ (s.size : Int)
  hP : ∀ c a a' w, Q (.panic c) a w → Q (.panic c) a' w
  hfA : ∀ (W : World) (n : Nat), W.cell? ⟨n, 0, none⟩ = some (.string A) → Calls Try.prog 10 #[.slice (some ⟨n, 0, none⟩) 1 1] W fun e w' => e = .returned (.string FA) ∧ Below W.heap.size W w'
  hfD : ∀ (W : World) (n : Nat), W.cell? ⟨n, 0, none⟩ = some (.string D) → Calls Try.prog 10 #[.slice (some ⟨n, 0, none⟩) 1 1] W fun e w' => e = .returned (.string FD) ∧ Below W.heap.size W w'
  hfAD : ∀ (W : World) (n : Nat), W.cell? ⟨n, 0, none⟩ = some (.string A) → W.cell? ⟨n, 1, none⟩ = some (.string D) → Calls Try.prog 10 #[.slice (some ⟨n, 0, none⟩) 2 2] W fun e w' => e = .returned (.string G) ∧ Below W.heap.size W w'
  hc0 : ∀ W : World, Calls Try.prog 9 #[.slice none 0 0] W fun e w' => e = .returned (.int .u32 (dd : Int)) ∧ W = w'
  hc1 : ∀ (W : World) (n : Nat), W.cell? ⟨n, 0, none⟩ = some (.string s) → Calls Try.prog 9 #[.slice (some ⟨n, 0, none⟩) 1 1] W fun e w' => e = .returned (.int .u32 (cc : Int)) ∧ W = w'
  hc2 : ∀ (W : World) (n : Nat), W.cell? ⟨n, 0, none⟩ = some (.string ⟨#[]⟩) → W.cell? ⟨n, 1, none⟩ = some (.string ⟨#[]⟩) → Calls Try.prog 9 #[.slice (some ⟨n, 0, none⟩) 2 2] W fun e w' => e = .returned (.int .u32 (dd : Int)) ∧ W = w'
  hc3 : ∀ (W : World) (n : Nat), W.cell? ⟨n, 0, none⟩ = some (.string A) → W.cell? ⟨n, 1, none⟩ = some (.string B) → W.cell? ⟨n, 2, none⟩ = some (.string C) → Calls Try.prog 9 #[.slice (some ⟨n, 0, none⟩) 3 3] W fun e w' => e = .returned (.int .u32 (cc : Int)) ∧ W = w'
  hE : ∀ {v3 v4 v5 v7 v8 v9 v10 v11 v12 v13 v14 v15 v16 v17 v18 v19 v20 v21 v22 v23 v24 v25 v26 v27 v28 v29 v30 v31 v32 v33 v34 v35 v36 v37 v38 v39 v40 v41 v42 v43 v44 v45 v46 v47 v48 v49 v50 v51 v52 v53 v54 v55 v56 v57 v58 v59 v60 v61 v62 v63 v64 v65 v66 v67 v68 v69 v70 v71 v72 : Value} {W : World}, Below w.heap.size w W → Q .normal ⟨#[.string s, .int .i64 (a : Int), .int .i64 (b : Int), v3, v4, v5, .bool true, v7, v8, v9, v10, v11, v12, v13, v14, v15, v16, v17, v18, v19, v20, v21, v22, v23, v24, v25, v26, v27, v28, v29, v30, v31, v32, v33, v34, v35, v36, v37, v38, v39, v40, v41, v42, v43, v44, v45, v46, v47, v48, v49, v50, v51, v52, v53, v54, v55, v56, v57, v58, v59, v60, v61, v62, v63, v64, v65, v66, v67, v68, v69, v70, v71, v72], []⟩ W
set_option maxHeartbeats 4000000
set_option linter.unusedSimpArgs false
set_option maxRecDepth 100000
theorem st3_222 (c : PC s a b A B C D FA FD G cc dd w Q) {v3 v4 v5 v6 v7 v8 v9 v10 v11 v12 v13 v14 v15 v16 v17 v18 v19 v20 v21 v22 v23 v24 v25 v26 v27 v28 v29 v30 v31 v32 v33 v34 v35 v36 v37 v38 v39 v40 v41 v42 v43 v44 v45 v46 v47 v48 v49 v50 v52 v53 v55 v57 v58 v60 v63 v64 v66 v67 v69 v71 v72 : Value} {W : World} (hb : Below w.heap.size w W) :
    wpAnyH Try.prog .any OPS Q (fun _ => True) 3 #[true, true, true, true, true, true, true, true, true, true, true, true, true, true, true, true, true, true, true, true, true, true, true, true, true, true, true, true, true, true, true, true, true, true, true, true, true, true, true, true, true, true, true, true, true, false, false, false] ⟨#[.string s, .int .i64 (a : Int), .int .i64 (b : Int), v3, v4, v5, v6, v7, v8, v9, v10, v11, v12, v13, v14, v15, v16, v17, v18, v19, v20, v21, v22, v23, v24, v25, v26, v27, v28, v29, v30, v31, v32, v33, v34, v35, v36, v37, v38, v39, v40, v41, v42, v43, v44, v45, v46, v47, v48, v49, v50, .bool true, v52, v53, .string A, v55, .string FA, v57, v58, .string D, v60, .string FD, .string G, v63, v64, .string A, v66, v67, .string D, v69, .string G, v71, v72], []⟩ W := by
  obtain ⟨hA, hB, hC, hD, hcat, hkF, i1, i2, i3, i4⟩ := c.facts
  simp only [OPS, Try.f3, Option.getD, regOps, Nat.reduceBEq, Bool.false_eq_true, if_false, if_true]
  refine wpAnyH_take (i := 45) (v := ?_) rfl (by kernel_rfl) (by kernel_rfl) (by kernel_rfl) (fun _ _ _ h => c.hP _ _ _ _ h) (Or.inl ⟨by rfl, ?_⟩) trivial ?_
  rotate_left
  focus (simp only [List.getElem_toArray, List.getElem_cons_succ, List.getElem_cons_zero]; intro w' _; first | (go_simp; done) | (go_simp; with_reducible rfl))
  simp only [List.getElem_toArray, List.getElem_cons_succ, List.getElem_cons_zero, Act.put, List.setIfInBounds_toArray, List.set_cons_zero, List.set_cons_succ]
  refine wpAnyH_take (i := 46) (v := ?_) rfl (by kernel_rfl) (by kernel_rfl) (by kernel_rfl) (fun _ _ _ h => c.hP _ _ _ _ h) (Or.inl ⟨by rfl, ?_⟩) trivial ?_
  rotate_left
  focus (simp only [List.getElem_toArray, List.getElem_cons_succ, List.getElem_cons_zero]; intro w' _; first | (go_simp; done) | (go_simp; with_reducible rfl))
  simp only [List.getElem_toArray, List.getElem_cons_succ, List.getElem_cons_zero, Act.put, List.setIfInBounds_toArray, List.set_cons_zero, List.set_cons_succ]
  refine wpAnyH_take (i := 47) (v := ?_) rfl (by kernel_rfl) (by kernel_rfl) (by kernel_rfl) (fun _ _ _ h => c.hP _ _ _ _ h) (Or.inl ⟨by rfl, ?_⟩) trivial ?_
  rotate_left
  focus (simp only [List.getElem_toArray, List.getElem_cons_succ, List.getElem_cons_zero]; intro w' _; first | (go_simp; done) | (go_simp; with_reducible rfl))
  simp only [List.getElem_toArray, List.getElem_cons_succ, List.getElem_cons_zero, Act.put, List.setIfInBounds_toArray, List.set_cons_zero, List.set_cons_succ]
  refine wpAnyH_done (by kernel_rfl) ?_ _
  exact c.hE hb

theorem st3_221 (c : PC s a b A B C D FA FD G cc dd w Q) {v3 v4 v5 v6 v7 v8 v9 v10 v11 v12 v13 v14 v15 v16 v17 v18 v19 v20 v21 v22 v23 v24 v25 v26 v27 v28 v29 v30 v31 v32 v33 v34 v35 v36 v37 v38 v39 v40 v41 v42 v43 v44 v45 v46 v47 v48 v49 v50 v52 v53 v55 v57 v58 v60 v63 v64 v66 v67 v70 v71 v72 : Value} {W : World} (hb : Below w.heap.size w W) {n69 : Nat} (hc69 : W.cell? ⟨n69, 0, none⟩ = some (.string A)) (hc69b : W.cell? ⟨n69, 1, none⟩ = some (.string D)) :
    wpAnyH Try.prog .any OPS Q (fun _ => True) 4 #[true, true, true, true, true, true, true, true, true, true, true, true, true, true, true, true, true, true, true, true, true, true, true, true, true, true, true, true, true, true, true, true, true, true, true, true, true, true, true, true, true, true, true, true, false, false, false, false] ⟨#[.string s, .int .i64 (a : Int), .int .i64 (b : Int), v3, v4, v5, v6, v7, v8, v9, v10, v11, v12, v13, v14, v15, v16, v17, v18, v19, v20, v21, v22, v23, v24, v25, v26, v27, v28, v29, v30, v31, v32, v33, v34, v35, v36, v37, v38, v39, v40, v41, v42, v43, v44, v45, v46, v47, v48, v49, v50, .bool true, v52, v53, .string A, v55, .string FA, v57, v58, .string D, v60, .string FD, .string G, v63, v64, .string A, v66, v67, .string D, .slice (some ⟨n69, 0, none⟩) 2 2, v70, v71, v72], []⟩ W := by
  obtain ⟨hA, hB, hC, hD, hcat, hkF, i1, i2, i3, i4⟩ := c.facts
  simp only [OPS, Try.f3, Option.getD, regOps, Nat.reduceBEq, Bool.false_eq_true, if_false, if_true]
  refine wpAnyH_ready (rs := [44]) (by kernel_rfl) (by simp) ?_
  refine AllReadyH.cons rfl (fun K hK => ?_) ?_
  · simp only [List.getElem_toArray, List.getElem_cons_succ, List.getElem_cons_zero]
    go_simp
    refine (c.hfAD _ _ hc69 hc69b).mono ?_
    rintro e W' ⟨rfl, hb'⟩
    dsimp only
    refine hK.out _ _ trivial (fun _ => ?_)
    simp only [List.getElem_toArray, List.getElem_cons_succ, List.getElem_cons_zero, Act.put, List.setIfInBounds_toArray, List.set_cons_zero, List.set_cons_succ]
    exact (wpAnyH_listed (by kernel_rfl) (wpAnyH_ops (by kernel_rfl) (st3_222 c (bel_trans hb hb'))))
  exact AllReadyH.nil

theorem st3_211 (c : PC s a b A B C D FA FD G cc dd w Q) {v3 v4 v5 v6 v7 v8 v9 v10 v11 v12 v13 v14 v15 v16 v17 v18 v19 v20 v21 v22 v23 v24 v25 v26 v27 v28 v29 v30 v31 v32 v33 v34 v35 v36 v37 v38 v39 v40 v41 v42 v43 v44 v45 v46 v47 v48 v49 v50 v52 v53 v55 v57 v58 v61 v62 v63 v64 v66 v67 v70 v71 v72 : Value} {W : World} (hb : Below w.heap.size w W) {n60 : Nat} (hc60 : W.cell? ⟨n60, 0, none⟩ = some (.string D)) {n69 : Nat} (hc69 : W.cell? ⟨n69, 0, none⟩ = some (.string A)) (hc69b : W.cell? ⟨n69, 1, none⟩ = some (.string D)) :
    wpAnyH Try.prog .any OPS Q (fun _ => True) 6 #[true, true, true, true, true, true, true, true, true, true, true, true, true, true, true, true, true, true, true, true, true, true, true, true, true, true, true, true, true, true, true, true, true, true, true, false, false, true, true, true, true, true, true, true, false, false, false, false] ⟨#[.string s, .int .i64 (a : Int), .int .i64 (b : Int), v3, v4, v5, v6, v7, v8, v9, v10, v11, v12, v13, v14, v15, v16, v17, v18, v19, v20, v21, v22, v23, v24, v25, v26, v27, v28, v29, v30, v31, v32, v33, v34, v35, v36, v37, v38, v39, v40, v41, v42, v43, v44, v45, v46, v47, v48, v49, v50, .bool true, v52, v53, .string A, v55, .string FA, v57, v58, .string D, .slice (some ⟨n60, 0, none⟩) 1 1, v61, v62, v63, v64, .string A, v66, v67, .string D, .slice (some ⟨n69, 0, none⟩) 2 2, v70, v71, v72], []⟩ W := by
  obtain ⟨hA, hB, hC, hD, hcat, hkF, i1, i2, i3, i4⟩ := c.facts
  simp only [OPS, Try.f3, Option.getD, regOps, Nat.reduceBEq, Bool.false_eq_true, if_false, if_true]
  refine wpAnyH_ready (rs := [35]) (by kernel_rfl) (by simp) ?_
  refine AllReadyH.cons rfl (fun K hK => ?_) ?_
  · simp only [List.getElem_toArray, List.getElem_cons_succ, List.getElem_cons_zero]
    go_simp
    refine (c.hfD _ _ hc60).mono ?_
    rintro e W' ⟨rfl, hb'⟩
    dsimp only
    refine hK.out _ _ trivial (fun _ => ?_)
    simp only [List.getElem_toArray, List.getElem_cons_succ, List.getElem_cons_zero, Act.put, List.setIfInBounds_toArray, List.set_cons_zero, List.set_cons_succ]
    refine wpAnyH_take (i := 36) (v := ?_) rfl (by kernel_rfl) (by kernel_rfl) (by kernel_rfl) (fun _ _ _ h => c.hP _ _ _ _ h) (Or.inl ⟨by rfl, ?_⟩) trivial ?_
    rotate_left
    focus (simp only [List.getElem_toArray, List.getElem_cons_succ, List.getElem_cons_zero]; intro w' _; first | (go_simp; done) | (go_simp; with_reducible rfl))
    simp only [List.getElem_toArray, List.getElem_cons_succ, List.getElem_cons_zero, Act.put, List.setIfInBounds_toArray, List.set_cons_zero, List.set_cons_succ]
    exact (wpAnyH_listed (by kernel_rfl) (wpAnyH_ops (by kernel_rfl) (st3_221 c (bel_trans hb hb') ((hb'.cell (World.block_lt_of_cell? _ _ hc69)).trans hc69) ((hb'.cell (World.block_lt_of_cell? _ _ hc69b)).trans hc69b))))
  exact AllReadyH.nil

theorem st3_220 (c : PC s a b A B C D FA FD G cc dd w Q) {v3 v4 v5 v6 v7 v8 v9 v10 v11 v12 v13 v14 v15 v16 v17 v18 v19 v20 v21 v22 v23 v24 v25 v26 v27 v28 v29 v30 v31 v32 v33 v34 v35 v36 v37 v38 v39 v40 v41 v42 v43 v44 v45 v46 v47 v48 v49 v50 v52 v53 v55 v57 v58 v60 v63 v64 v66 v67 v69 v70 v71 v72 : Value} {W : World} (hb : Below w.heap.size w W) :
    wpAnyH Try.prog .any OPS Q (fun _ => True) 5 #[true, true, true, true, true, true, true, true, true, true, true, true, true, true, true, true, true, true, true, true, true, true, true, true, true, true, true, true, true, true, true, true, true, true, true, true, true, true, true, true, true, true, true, false, false, false, false, false] ⟨#[.string s, .int .i64 (a : Int), .int .i64 (b : Int), v3, v4, v5, v6, v7, v8, v9, v10, v11, v12, v13, v14, v15, v16, v17, v18, v19, v20, v21, v22, v23, v24, v25, v26, v27, v28, v29, v30, v31, v32, v33, v34, v35, v36, v37, v38, v39, v40, v41, v42, v43, v44, v45, v46, v47, v48, v49, v50, .bool true, v52, v53, .string A, v55, .string FA, v57, v58, .string D, v60, .string FD, .string G, v63, v64, .string A, v66, v67, .string D, v69, v70, v71, v72], []⟩ W := by
  obtain ⟨hA, hB, hC, hD, hcat, hkF, i1, i2, i3, i4⟩ := c.facts
  simp only [OPS, Try.f3, Option.getD, regOps, Nat.reduceBEq, Bool.false_eq_true, if_false, if_true]
  refine wpAnyH_ready (rs := [43]) (by kernel_rfl) (by simp) ?_
  refine AllReadyH.cons rfl (fun K hK => ?_) ?_
  · simp only [List.getElem_toArray, List.getElem_cons_succ, List.getElem_cons_zero]
    go_simp
    refine hK.out _ _ trivial (fun _ => ?_)
    simp only [List.getElem_toArray, List.getElem_cons_succ, List.getElem_cons_zero, Act.put, List.setIfInBounds_toArray, List.set_cons_zero, List.set_cons_succ]
    exact (wpAnyH_listed (by kernel_rfl) (wpAnyH_ops (by kernel_rfl) (st3_221 c (bel_alloc hb _) (new_cell rfl rfl) (new_cell rfl rfl))))
  exact AllReadyH.nil

theorem st3_111 (c : PC s a b A B C D FA FD G cc dd w Q) {v3 v4 v5 v6 v7 v8 v9 v10 v11 v12 v13 v14 v15 v16 v17 v18 v19 v20 v21 v22 v23 v24 v25 v26 v27 v28 v29 v30 v31 v32 v33 v34 v35 v36 v37 v38 v39 v40 v41 v42 v43 v44 v45 v46 v47 v48 v49 v50 v52 v53 v56 v57 v58 v61 v62 v63 v64 v66 v67 v70 v71 v72 : Value} {W : World} (hb : Below w.heap.size w W) {n55 : Nat} (hc55 : W.cell? ⟨n55, 0, none⟩ = some (.string A)) {n60 : Nat} (hc60 : W.cell? ⟨n60, 0, none⟩ = some (.string D)) {n69 : Nat} (hc69 : W.cell? ⟨n69, 0, none⟩ = some (.string A)) (hc69b : W.cell? ⟨n69, 1, none⟩ = some (.string D)) :
    wpAnyH Try.prog .any OPS Q (fun _ => True) 7 #[true, true, true, true, true, true, true, true, true, true, true, true, true, true, true, true, true, true, true, true, true, true, true, true, true, true, true, true, true, true, false, true, true, true, true, false, false, true, true, true, true, true, true, true, false, false, false, false] ⟨#[.string s, .int .i64 (a : Int), .int .i64 (b : Int), v3, v4, v5, v6, v7, v8, v9, v10, v11, v12, v13, v14, v15, v16, v17, v18, v19, v20, v21, v22, v23, v24, v25, v26, v27, v28, v29, v30, v31, v32, v33, v34, v35, v36, v37, v38, v39, v40, v41, v42, v43, v44, v45, v46, v47, v48, v49, v50, .bool true, v52, v53, .string A, .slice (some ⟨n55, 0, none⟩) 1 1, v56, v57, v58, .string D, .slice (some ⟨n60, 0, none⟩) 1 1, v61, v62, v63, v64, .string A, v66, v67, .string D, .slice (some ⟨n69, 0, none⟩) 2 2, v70, v71, v72], []⟩ W := by
  obtain ⟨hA, hB, hC, hD, hcat, hkF, i1, i2, i3, i4⟩ := c.facts
  simp only [OPS, Try.f3, Option.getD, regOps, Nat.reduceBEq, Bool.false_eq_true, if_false, if_true]
  refine wpAnyH_ready (rs := [30]) (by kernel_rfl) (by simp) ?_
  refine AllReadyH.cons rfl (fun K hK => ?_) ?_
  · simp only [List.getElem_toArray, List.getElem_cons_succ, List.getElem_cons_zero]
    go_simp
    refine (c.hfA _ _ hc55).mono ?_
    rintro e W' ⟨rfl, hb'⟩
    dsimp only
    refine hK.out _ _ trivial (fun _ => ?_)
    simp only [List.getElem_toArray, List.getElem_cons_succ, List.getElem_cons_zero, Act.put, List.setIfInBounds_toArray, List.set_cons_zero, List.set_cons_succ]
    exact (wpAnyH_listed (by kernel_rfl) (wpAnyH_ops (by kernel_rfl) (st3_211 c (bel_trans hb hb') ((hb'.cell (World.block_lt_of_cell? _ _ hc60)).trans hc60) ((hb'.cell (World.block_lt_of_cell? _ _ hc69)).trans hc69) ((hb'.cell (World.block_lt_of_cell? _ _ hc69b)).trans hc69b))))
  exact AllReadyH.nil

theorem st3_201 (c : PC s a b A B C D FA FD G cc dd w Q) {v3 v4 v5 v6 v7 v8 v9 v10 v11 v12 v13 v14 v15 v16 v17 v18 v19 v20 v21 v22 v23 v24 v25 v26 v27 v28 v29 v30 v31 v32 v33 v34 v35 v36 v37 v38 v39 v40 v41 v42 v43 v44 v45 v46 v47 v48 v49 v50 v52 v53 v55 v57 v58 v60 v61 v62 v63 v64 v66 v67 v70 v71 v72 : Value} {W : World} (hb : Below w.heap.size w W) {n69 : Nat} (hc69 : W.cell? ⟨n69, 0, none⟩ = some (.string A)) (hc69b : W.cell? ⟨n69, 1, none⟩ = some (.string D)) :
    wpAnyH Try.prog .any OPS Q (fun _ => True) 7 #[true, true, true, true, true, true, true, true, true, true, true, true, true, true, true, true, true, true, true, true, true, true, true, true, true, true, true, true, true, true, true, true, true, true, false, false, false, true, true, true, true, true, true, true, false, false, false, false] ⟨#[.string s, .int .i64 (a : Int), .int .i64 (b : Int), v3, v4, v5, v6, v7, v8, v9, v10, v11, v12, v13, v14, v15, v16, v17, v18, v19, v20, v21, v22, v23, v24, v25, v26, v27, v28, v29, v30, v31, v32, v33, v34, v35, v36, v37, v38, v39, v40, v41, v42, v43, v44, v45, v46, v47, v48, v49, v50, .bool true, v52, v53, .string A, v55, .string FA, v57, v58, .string D, v60, v61, v62, v63, v64, .string A, v66, v67, .string D, .slice (some ⟨n69, 0, none⟩) 2 2, v70, v71, v72], []⟩ W := by
  obtain ⟨hA, hB, hC, hD, hcat, hkF, i1, i2, i3, i4⟩ := c.facts
  simp only [OPS, Try.f3, Option.getD, regOps, Nat.reduceBEq, Bool.false_eq_true, if_false, if_true]
  refine wpAnyH_ready (rs := [34]) (by kernel_rfl) (by simp) ?_
  refine AllReadyH.cons rfl (fun K hK => ?_) ?_
  · simp only [List.getElem_toArray, List.getElem_cons_succ, List.getElem_cons_zero]
    go_simp
    refine hK.out _ _ trivial (fun _ => ?_)
    simp only [List.getElem_toArray, List.getElem_cons_succ, List.getElem_cons_zero, Act.put, List.setIfInBounds_toArray, List.set_cons_zero, List.set_cons_succ]
    exact (wpAnyH_listed (by kernel_rfl) (wpAnyH_ops (by kernel_rfl) (st3_211 c (bel_alloc hb _) (new_cell rfl rfl) (old_cell2 hc69) (old_cell2 hc69b))))
  exact AllReadyH.nil

theorem st3_210 (c : PC s a b A B C D FA FD G cc dd w Q) {v3 v4 v5 v6 v7 v8 v9 v10 v11 v12 v13 v14 v15 v16 v17 v18 v19 v20 v21 v22 v23 v24 v25 v26 v27 v28 v29 v30 v31 v32 v33 v34 v35 v36 v37 v38 v39 v40 v41 v42 v43 v44 v45 v46 v47 v48 v49 v50 v52 v53 v55 v57 v58 v61 v62 v63 v64 v66 v67 v69 v70 v71 v72 : Value} {W : World} (hb : Below w.heap.size w W) {n60 : Nat} (hc60 : W.cell? ⟨n60, 0, none⟩ = some (.string D)) :
    wpAnyH Try.prog .any OPS Q (fun _ => True) 7 #[true, true, true, true, true, true, true, true, true, true, true, true, true, true, true, true, true, true, true, true, true, true, true, true, true, true, true, true, true, true, true, true, true, true, true, false, false, true, true, true, true, true, true, false, false, false, false, false] ⟨#[.string s, .int .i64 (a : Int), .int .i64 (b : Int), v3, v4, v5, v6, v7, v8, v9, v10, v11, v12, v13, v14, v15, v16, v17, v18, v19, v20, v21, v22, v23, v24, v25, v26, v27, v28, v29, v30, v31, v32, v33, v34, v35, v36, v37, v38, v39, v40, v41, v42, v43, v44, v45, v46, v47, v48, v49, v50, .bool true, v52, v53, .string A, v55, .string FA, v57, v58, .string D, .slice (some ⟨n60, 0, none⟩) 1 1, v61, v62, v63, v64, .string A, v66, v67, .string D, v69, v70, v71, v72], []⟩ W := by
  obtain ⟨hA, hB, hC, hD, hcat, hkF, i1, i2, i3, i4⟩ := c.facts
  simp only [OPS, Try.f3, Option.getD, regOps, Nat.reduceBEq, Bool.false_eq_true, if_false, if_true]
  refine wpAnyH_ready (rs := [35, 43]) (by kernel_rfl) (by simp) ?_
  refine AllReadyH.cons rfl (fun K hK => ?_) ?_
  · simp only [List.getElem_toArray, List.getElem_cons_succ, List.getElem_cons_zero]
    go_simp
    refine (c.hfD _ _ hc60).mono ?_
    rintro e W' ⟨rfl, hb'⟩
    dsimp only
    refine hK.out _ _ trivial (fun _ => ?_)
    simp only [List.getElem_toArray, List.getElem_cons_succ, List.getElem_cons_zero, Act.put, List.setIfInBounds_toArray, List.set_cons_zero, List.set_cons_succ]
    refine wpAnyH_take (i := 36) (v := ?_) rfl (by kernel_rfl) (by kernel_rfl) (by kernel_rfl) (fun _ _ _ h => c.hP _ _ _ _ h) (Or.inl ⟨by rfl, ?_⟩) trivial ?_
    rotate_left
    focus (simp only [List.getElem_toArray, List.getElem_cons_succ, List.getElem_cons_zero]; intro w' _; first | (go_simp; done) | (go_simp; with_reducible rfl))
    simp only [List.getElem_toArray, List.getElem_cons_succ, List.getElem_cons_zero, Act.put, List.setIfInBounds_toArray, List.set_cons_zero, List.set_cons_succ]
    exact (wpAnyH_listed (by kernel_rfl) (wpAnyH_ops (by kernel_rfl) (st3_220 c (bel_trans hb hb'))))
  refine AllReadyH.cons rfl (fun K hK => ?_) ?_
  · simp only [List.getElem_toArray, List.getElem_cons_succ, List.getElem_cons_zero]
    go_simp
    refine hK.out _ _ trivial (fun _ => ?_)
    simp only [List.getElem_toArray, List.getElem_cons_succ, List.getElem_cons_zero, Act.put, List.setIfInBounds_toArray, List.set_cons_zero, List.set_cons_succ]
    exact (wpAnyH_listed (by kernel_rfl) (wpAnyH_ops (by kernel_rfl) (st3_211 c (bel_alloc hb _) (old_cell2 hc60) (new_cell rfl rfl) (new_cell rfl rfl))))
  exact AllReadyH.nil

theorem st3_011 (c : PC s a b A B C D FA FD G cc dd w Q) {v3 v4 v5 v6 v7 v8 v9 v10 v11 v12 v13 v14 v15 v16 v17 v18 v19 v20 v21 v22 v23 v24 v25 v26 v27 v28 v29 v30 v31 v32 v33 v34 v35 v36 v37 v38 v39 v40 v41 v42 v43 v44 v45 v46 v47 v48 v49 v50 v52 v53 v55 v56 v57 v58 v61 v62 v63 v64 v66 v67 v70 v71 v72 : Value} {W : World} (hb : Below w.heap.size w W) {n60 : Nat} (hc60 : W.cell? ⟨n60, 0, none⟩ = some (.string D)) {n69 : Nat} (hc69 : W.cell? ⟨n69, 0, none⟩ = some (.string A)) (hc69b : W.cell? ⟨n69, 1, none⟩ = some (.string D)) :
    wpAnyH Try.prog .any OPS Q (fun _ => True) 8 #[true, true, true, true, true, true, true, true, true, true, true, true, true, true, true, true, true, true, true, true, true, true, true, true, true, true, true, true, true, false, false, true, true, true, true, false, false, true, true, true, true, true, true, true, false, false, false, false] ⟨#[.string s, .int .i64 (a : Int), .int .i64 (b : Int), v3, v4, v5, v6, v7, v8, v9, v10, v11, v12, v13, v14, v15, v16, v17, v18, v19, v20, v21, v22, v23, v24, v25, v26, v27, v28, v29, v30, v31, v32, v33, v34, v35, v36, v37, v38, v39, v40, v41, v42, v43, v44, v45, v46, v47, v48, v49, v50, .bool true, v52, v53, .string A, v55, v56, v57, v58, .string D, .slice (some ⟨n60, 0, none⟩) 1 1, v61, v62, v63, v64, .string A, v66, v67, .string D, .slice (some ⟨n69, 0, none⟩) 2 2, v70, v71, v72], []⟩ W := by
  obtain ⟨hA, hB, hC, hD, hcat, hkF, i1, i2, i3, i4⟩ := c.facts
  simp only [OPS, Try.f3, Option.getD, regOps, Nat.reduceBEq, Bool.false_eq_true, if_false, if_true]
  refine wpAnyH_ready (rs := [29]) (by kernel_rfl) (by simp) ?_
  refine AllReadyH.cons rfl (fun K hK => ?_) ?_
  · simp only [List.getElem_toArray, List.getElem_cons_succ, List.getElem_cons_zero]
    go_simp
    refine hK.out _ _ trivial (fun _ => ?_)
    simp only [List.getElem_toArray, List.getElem_cons_succ, List.getElem_cons_zero, Act.put, List.setIfInBounds_toArray, List.set_cons_zero, List.set_cons_succ]
    exact (wpAnyH_listed (by kernel_rfl) (wpAnyH_ops (by kernel_rfl) (st3_111 c (bel_alloc hb _) (new_cell rfl rfl) (old_cell2 hc60) (old_cell2 hc69) (old_cell2 hc69b))))
  exact AllReadyH.nil

theorem st3_101 (c : PC s a b A B C D FA FD G cc dd w Q) {v3 v4 v5 v6 v7 v8 v9 v10 v11 v12 v13 v14 v15 v16 v17 v18 v19 v20 v21 v22 v23 v24 v25 v26 v27 v28 v29 v30 v31 v32 v33 v34 v35 v36 v37 v38 v39 v40 v41 v42 v43 v44 v45 v46 v47 v48 v49 v50 v52 v53 v56 v57 v58 v60 v61 v62 v63 v64 v66 v67 v70 v71 v72 : Value} {W : World} (hb : Below w.heap.size w W) {n55 : Nat} (hc55 : W.cell? ⟨n55, 0, none⟩ = some (.string A)) {n69 : Nat} (hc69 : W.cell? ⟨n69, 0, none⟩ = some (.string A)) (hc69b : W.cell? ⟨n69, 1, none⟩ = some (.string D)) :
    wpAnyH Try.prog .any OPS Q (fun _ => True) 8 #[true, true, true, true, true, true, true, true, true, true, true, true, true, true, true, true, true, true, true, true, true, true, true, true, true, true, true, true, true, true, false, true, true, true, false, false, false, true, true, true, true, true, true, true, false, false, false, false] ⟨#[.string s, .int .i64 (a : Int), .int .i64 (b : Int), v3, v4, v5, v6, v7, v8, v9, v10, v11, v12, v13, v14, v15, v16, v17, v18, v19, v20, v21, v22, v23, v24, v25, v26, v27, v28, v29, v30, v31, v32, v33, v34, v35, v36, v37, v38, v39, v40, v41, v42, v43, v44, v45, v46, v47, v48, v49, v50, .bool true, v52, v53, .string A, .slice (some ⟨n55, 0, none⟩) 1 1, v56, v57, v58, .string D, v60, v61, v62, v63, v64, .string A, v66, v67, .string D, .slice (some ⟨n69, 0, none⟩) 2 2, v70, v71, v72], []⟩ W := by
  obtain ⟨hA, hB, hC, hD, hcat, hkF, i1, i2, i3, i4⟩ := c.facts
  simp only [OPS, Try.f3, Option.getD, regOps, Nat.reduceBEq, Bool.false_eq_true, if_false, if_true]
  refine wpAnyH_ready (rs := [30, 34]) (by kernel_rfl) (by simp) ?_
  refine AllReadyH.cons rfl (fun K hK => ?_) ?_
  · simp only [List.getElem_toArray, List.getElem_cons_succ, List.getElem_cons_zero]
    go_simp
    refine (c.hfA _ _ hc55).mono ?_
    rintro e W' ⟨rfl, hb'⟩
    dsimp only
    refine hK.out _ _ trivial (fun _ => ?_)
    simp only [List.getElem_toArray, List.getElem_cons_succ, List.getElem_cons_zero, Act.put, List.setIfInBounds_toArray, List.set_cons_zero, List.set_cons_succ]
    exact (wpAnyH_listed (by kernel_rfl) (wpAnyH_ops (by kernel_rfl) (st3_201 c (bel_trans hb hb') ((hb'.cell (World.block_lt_of_cell? _ _ hc69)).trans hc69) ((hb'.cell (World.block_lt_of_cell? _ _ hc69b)).trans hc69b))))
  refine AllReadyH.cons rfl (fun K hK => ?_) ?_
  · simp only [List.getElem_toArray, List.getElem_cons_succ, List.getElem_cons_zero]
    go_simp
    refine hK.out _ _ trivial (fun _ => ?_)
    simp only [List.getElem_toArray, List.getElem_cons_succ, List.getElem_cons_zero, Act.put, List.setIfInBounds_toArray, List.set_cons_zero, List.set_cons_succ]
    exact (wpAnyH_listed (by kernel_rfl) (wpAnyH_ops (by kernel_rfl) (st3_111 c (bel_alloc hb _) (old_cell2 hc55) (new_cell rfl rfl) (old_cell2 hc69) (old_cell2 hc69b))))
  exact AllReadyH.nil

theorem st3_110 (c : PC s a b A B C D FA FD G cc dd w Q) {v3 v4 v5 v6 v7 v8 v9 v10 v11 v12 v13 v14 v15 v16 v17 v18 v19 v20 v21 v22 v23 v24 v25 v26 v27 v28 v29 v30 v31 v32 v33 v34 v35 v36 v37 v38 v39 v40 v41 v42 v43 v44 v45 v46 v47 v48 v49 v50 v52 v53 v56 v57 v58 v61 v62 v63 v64 v66 v67 v69 v70 v71 v72 : Value} {W : World} (hb : Below w.heap.size w W) {n55 : Nat} (hc55 : W.cell? ⟨n55, 0, none⟩ = some (.string A)) {n60 : Nat} (hc60 : W.cell? ⟨n60, 0, none⟩ = some (.string D)) :
    wpAnyH Try.prog .any OPS Q (fun _ => True) 8 #[true, true, true, true, true, true, true, true, true, true, true, true, true, true, true, true, true, true, true, true, true, true, true, true, true, true, true, true, true, true, false, true, true, true, true, false, false, true, true, true, true, true, true, false, false, false, false, false] ⟨#[.string s, .int .i64 (a : Int), .int .i64 (b : Int), v3, v4, v5, v6, v7, v8, v9, v10, v11, v12, v13, v14, v15, v16, v17, v18, v19, v20, v21, v22, v23, v24, v25, v26, v27, v28, v29, v30, v31, v32, v33, v34, v35, v36, v37, v38, v39, v40, v41, v42, v43, v44, v45, v46, v47, v48, v49, v50, .bool true, v52, v53, .string A, .slice (some ⟨n55, 0, none⟩) 1 1, v56, v57, v58, .string D, .slice (some ⟨n60, 0, none⟩) 1 1, v61, v62, v63, v64, .string A, v66, v67, .string D, v69, v70, v71, v72], []⟩ W := by
  obtain ⟨hA, hB, hC, hD, hcat, hkF, i1, i2, i3, i4⟩ := c.facts
  simp only [OPS, Try.f3, Option.getD, regOps, Nat.reduceBEq, Bool.false_eq_true, if_false, if_true]
  refine wpAnyH_ready (rs := [30, 43]) (by kernel_rfl) (by simp) ?_
  refine AllReadyH.cons rfl (fun K hK => ?_) ?_
  · simp only [List.getElem_toArray, List.getElem_cons_succ, List.getElem_cons_zero]
    go_simp
    refine (c.hfA _ _ hc55).mono ?_
    rintro e W' ⟨rfl, hb'⟩
    dsimp only
    refine hK.out _ _ trivial (fun _ => ?_)
    simp only [List.getElem_toArray, List.getElem_cons_succ, List.getElem_cons_zero, Act.put, List.setIfInBounds_toArray, List.set_cons_zero, List.set_cons_succ]
    exact (wpAnyH_listed (by kernel_rfl) (wpAnyH_ops (by kernel_rfl) (st3_210 c (bel_trans hb hb') ((hb'.cell (World.block_lt_of_cell? _ _ hc60)).trans hc60))))
  refine AllReadyH.cons rfl (fun K hK => ?_) ?_
  · simp only [List.getElem_toArray, List.getElem_cons_succ, List.getElem_cons_zero]
    go_simp
    refine hK.out _ _ trivial (fun _ => ?_)
    simp only [List.getElem_toArray, List.getElem_cons_succ, List.getElem_cons_zero, Act.put, List.setIfInBounds_toArray, List.set_cons_zero, List.set_cons_succ]
    exact (wpAnyH_listed (by kernel_rfl) (wpAnyH_ops (by kernel_rfl) (st3_111 c (bel_alloc hb _) (old_cell2 hc55) (old_cell2 hc60) (new_cell rfl rfl) (new_cell rfl rfl))))
  exact AllReadyH.nil

theorem st3_200 (c : PC s a b A B C D FA FD G cc dd w Q) {v3 v4 v5 v6 v7 v8 v9 v10 v11 v12 v13 v14 v15 v16 v17 v18 v19 v20 v21 v22 v23 v24 v25 v26 v27 v28 v29 v30 v31 v32 v33 v34 v35 v36 v37 v38 v39 v40 v41 v42 v43 v44 v45 v46 v47 v48 v49 v50 v52 v53 v55 v57 v58 v60 v61 v62 v63 v64 v66 v67 v69 v70 v71 v72 : Value} {W : World} (hb : Below w.heap.size w W) :
    wpAnyH Try.prog .any OPS Q (fun _ => True) 8 #[true, true, true, true, true, true, true, true, true, true, true, true, true, true, true, true, true, true, true, true, true, true, true, true, true, true, true, true, true, true, true, true, true, true, false, false, false, true, true, true, true, true, true, false, false, false, false, false] ⟨#[.string s, .int .i64 (a : Int), .int .i64 (b : Int), v3, v4, v5, v6, v7, v8, v9, v10, v11, v12, v13, v14, v15, v16, v17, v18, v19, v20, v21, v22, v23, v24, v25, v26, v27, v28, v29, v30, v31, v32, v33, v34, v35, v36, v37, v38, v39, v40, v41, v42, v43, v44, v45, v46, v47, v48, v49, v50, .bool true, v52, v53, .string A, v55, .string FA, v57, v58, .string D, v60, v61, v62, v63, v64, .string A, v66, v67, .string D, v69, v70, v71, v72], []⟩ W := by
  obtain ⟨hA, hB, hC, hD, hcat, hkF, i1, i2, i3, i4⟩ := c.facts
  simp only [OPS, Try.f3, Option.getD, regOps, Nat.reduceBEq, Bool.false_eq_true, if_false, if_true]
  refine wpAnyH_ready (rs := [34, 43]) (by kernel_rfl) (by simp) ?_
  refine AllReadyH.cons rfl (fun K hK => ?_) ?_
  · simp only [List.getElem_toArray, List.getElem_cons_succ, List.getElem_cons_zero]
    go_simp
    refine hK.out _ _ trivial (fun _ => ?_)
    simp only [List.getElem_toArray, List.getElem_cons_succ, List.getElem_cons_zero, Act.put, List.setIfInBounds_toArray, List.set_cons_zero, List.set_cons_succ]
    exact (wpAnyH_listed (by kernel_rfl) (wpAnyH_ops (by kernel_rfl) (st3_210 c (bel_alloc hb _) (new_cell rfl rfl))))
  refine AllReadyH.cons rfl (fun K hK => ?_) ?_
  · simp only [List.getElem_toArray, List.getElem_cons_succ, List.getElem_cons_zero]
    go_simp
    refine hK.out _ _ trivial (fun _ => ?_)
    simp only [List.getElem_toArray, List.getElem_cons_succ, List.getElem_cons_zero, Act.put, List.setIfInBounds_toArray, List.set_cons_zero, List.set_cons_succ]
    exact (wpAnyH_listed (by kernel_rfl) (wpAnyH_ops (by kernel_rfl) (st3_201 c (bel_alloc hb _) (new_cell rfl rfl) (new_cell rfl rfl))))
  exact AllReadyH.nil

theorem st3_001 (c : PC s a b A B C D FA FD G cc dd w Q) {v3 v4 v5 v6 v7 v8 v9 v10 v11 v12 v13 v14 v15 v16 v17 v18 v19 v20 v21 v22 v23 v24 v25 v26 v27 v28 v29 v30 v31 v32 v33 v34 v35 v36 v37 v38 v39 v40 v41 v42 v43 v44 v45 v46 v47 v48 v49 v50 v52 v53 v55 v56 v57 v58 v60 v61 v62 v63 v64 v66 v67 v70 v71 v72 : Value} {W : World} (hb : Below w.heap.size w W) {n69 : Nat} (hc69 : W.cell? ⟨n69, 0, none⟩ = some (.string A)) (hc69b : W.cell? ⟨n69, 1, none⟩ = some (.string D)) :
    wpAnyH Try.prog .any OPS Q (fun _ => True) 9 #[true, true, true, true, true, true, true, true, true, true, true, true, true, true, true, true, true, true, true, true, true, true, true, true, true, true, true, true, true, false, false, true, true, true, false, false, false, true, true, true, true, true, true, true, false, false, false, false] ⟨#[.string s, .int .i64 (a : Int), .int .i64 (b : Int), v3, v4, v5, v6, v7, v8, v9, v10, v11, v12, v13, v14, v15, v16, v17, v18, v19, v20, v21, v22, v23, v24, v25, v26, v27, v28, v29, v30, v31, v32, v33, v34, v35, v36, v37, v38, v39, v40, v41, v42, v43, v44, v45, v46, v47, v48, v49, v50, .bool true, v52, v53, .string A, v55, v56, v57, v58, .string D, v60, v61, v62, v63, v64, .string A, v66, v67, .string D, .slice (some ⟨n69, 0, none⟩) 2 2, v70, v71, v72], []⟩ W := by
  obtain ⟨hA, hB, hC, hD, hcat, hkF, i1, i2, i3, i4⟩ := c.facts
  simp only [OPS, Try.f3, Option.getD, regOps, Nat.reduceBEq, Bool.false_eq_true, if_false, if_true]
  refine wpAnyH_ready (rs := [29, 34]) (by kernel_rfl) (by simp) ?_
  refine AllReadyH.cons rfl (fun K hK => ?_) ?_
  · simp only [List.getElem_toArray, List.getElem_cons_succ, List.getElem_cons_zero]
    go_simp
    refine hK.out _ _ trivial (fun _ => ?_)
    simp only [List.getElem_toArray, List.getElem_cons_succ, List.getElem_cons_zero, Act.put, List.setIfInBounds_toArray, List.set_cons_zero, List.set_cons_succ]
    exact (wpAnyH_listed (by kernel_rfl) (wpAnyH_ops (by kernel_rfl) (st3_101 c (bel_alloc hb _) (new_cell rfl rfl) (old_cell2 hc69) (old_cell2 hc69b))))
  refine AllReadyH.cons rfl (fun K hK => ?_) ?_
  · simp only [List.getElem_toArray, List.getElem_cons_succ, List.getElem_cons_zero]
    go_simp
    refine hK.out _ _ trivial (fun _ => ?_)
    simp only [List.getElem_toArray, List.getElem_cons_succ, List.getElem_cons_zero, Act.put, List.setIfInBounds_toArray, List.set_cons_zero, List.set_cons_succ]
    exact (wpAnyH_listed (by kernel_rfl) (wpAnyH_ops (by kernel_rfl) (st3_011 c (bel_alloc hb _) (new_cell rfl rfl) (old_cell2 hc69) (old_cell2 hc69b))))
  exact AllReadyH.nil

theorem st3_010 (c : PC s a b A B C D FA FD G cc dd w Q) {v3 v4 v5 v6 v7 v8 v9 v10 v11 v12 v13 v14 v15 v16 v17 v18 v19 v20 v21 v22 v23 v24 v25 v26 v27 v28 v29 v30 v31 v32 v33 v34 v35 v36 v37 v38 v39 v40 v41 v42 v43 v44 v45 v46 v47 v48 v49 v50 v52 v53 v55 v56 v57 v58 v61 v62 v63 v64 v66 v67 v69 v70 v71 v72 : Value} {W : World} (hb : Below w.heap.size w W) {n60 : Nat} (hc60 : W.cell? ⟨n60, 0, none⟩ = some (.string D)) :
    wpAnyH Try.prog .any OPS Q (fun _ => True) 9 #[true, true, true, true, true, true, true, true, true, true, true, true, true, true, true, true, true, true, true, true, true, true, true, true, true, true, true, true, true, false, false, true, true, true, true, false, false, true, true, true, true, true, true, false, false, false, false, false] ⟨#[.string s, .int .i64 (a : Int), .int .i64 (b : Int), v3, v4, v5, v6, v7, v8, v9, v10, v11, v12, v13, v14, v15, v16, v17, v18, v19, v20, v21, v22, v23, v24, v25, v26, v27, v28, v29, v30, v31, v32, v33, v34, v35, v36, v37, v38, v39, v40, v41, v42, v43, v44, v45, v46, v47, v48, v49, v50, .bool true, v52, v53, .string A, v55, v56, v57, v58, .string D, .slice (some ⟨n60, 0, none⟩) 1 1, v61, v62, v63, v64, .string A, v66, v67, .string D, v69, v70, v71, v72], []⟩ W := by
  obtain ⟨hA, hB, hC, hD, hcat, hkF, i1, i2, i3, i4⟩ := c.facts
  simp only [OPS, Try.f3, Option.getD, regOps, Nat.reduceBEq, Bool.false_eq_true, if_false, if_true]
  refine wpAnyH_ready (rs := [29, 43]) (by kernel_rfl) (by simp) ?_
  refine AllReadyH.cons rfl (fun K hK => ?_) ?_
  · simp only [List.getElem_toArray, List.getElem_cons_succ, List.getElem_cons_zero]
    go_simp
    refine hK.out _ _ trivial (fun _ => ?_)
    simp only [List.getElem_toArray, List.getElem_cons_succ, List.getElem_cons_zero, Act.put, List.setIfInBounds_toArray, List.set_cons_zero, List.set_cons_succ]
    exact (wpAnyH_listed (by kernel_rfl) (wpAnyH_ops (by kernel_rfl) (st3_110 c (bel_alloc hb _) (new_cell rfl rfl) (old_cell2 hc60))))
  refine AllReadyH.cons rfl (fun K hK => ?_) ?_
  · simp only [List.getElem_toArray, List.getElem_cons_succ, List.getElem_cons_zero]
    go_simp
    refine hK.out _ _ trivial (fun _ => ?_)
    simp only [List.getElem_toArray, List.getElem_cons_succ, List.getElem_cons_zero, Act.put, List.setIfInBounds_toArray, List.set_cons_zero, List.set_cons_succ]
    exact (wpAnyH_listed (by kernel_rfl) (wpAnyH_ops (by kernel_rfl) (st3_011 c (bel_alloc hb _) (old_cell2 hc60) (new_cell rfl rfl) (new_cell rfl rfl))))
  exact AllReadyH.nil

theorem st3_100 (c : PC s a b A B C D FA FD G cc dd w Q) {v3 v4 v5 v6 v7 v8 v9 v10 v11 v12 v13 v14 v15 v16 v17 v18 v19 v20 v21 v22 v23 v24 v25 v26 v27 v28 v29 v30 v31 v32 v33 v34 v35 v36 v37 v38 v39 v40 v41 v42 v43 v44 v45 v46 v47 v48 v49 v50 v52 v53 v56 v57 v58 v60 v61 v62 v63 v64 v66 v67 v69 v70 v71 v72 : Value} {W : World} (hb : Below w.heap.size w W) {n55 : Nat} (hc55 : W.cell? ⟨n55, 0, none⟩ = some (.string A)) :
    wpAnyH Try.prog .any OPS Q (fun _ => True) 9 #[true, true, true, true, true, true, true, true, true, true, true, true, true, true, true, true, true, true, true, true, true, true, true, true, true, true, true, true, true, true, false, true, true, true, false, false, false, true, true, true, true, true, true, false, false, false, false, false] ⟨#[.string s, .int .i64 (a : Int), .int .i64 (b : Int), v3, v4, v5, v6, v7, v8, v9, v10, v11, v12, v13, v14, v15, v16, v17, v18, v19, v20, v21, v22, v23, v24, v25, v26, v27, v28, v29, v30, v31, v32, v33, v34, v35, v36, v37, v38, v39, v40, v41, v42, v43, v44, v45, v46, v47, v48, v49, v50, .bool true, v52, v53, .string A, .slice (some ⟨n55, 0, none⟩) 1 1, v56, v57, v58, .string D, v60, v61, v62, v63, v64, .string A, v66, v67, .string D, v69, v70, v71, v72], []⟩ W := by
  obtain ⟨hA, hB, hC, hD, hcat, hkF, i1, i2, i3, i4⟩ := c.facts
  simp only [OPS, Try.f3, Option.getD, regOps, Nat.reduceBEq, Bool.false_eq_true, if_false, if_true]
  refine wpAnyH_ready (rs := [30, 34, 43]) (by kernel_rfl) (by simp) ?_
  refine AllReadyH.cons rfl (fun K hK => ?_) ?_
  · simp only [List.getElem_toArray, List.getElem_cons_succ, List.getElem_cons_zero]
    go_simp
    refine (c.hfA _ _ hc55).mono ?_
    rintro e W' ⟨rfl, hb'⟩
    dsimp only
    refine hK.out _ _ trivial (fun _ => ?_)
    simp only [List.getElem_toArray, List.getElem_cons_succ, List.getElem_cons_zero, Act.put, List.setIfInBounds_toArray, List.set_cons_zero, List.set_cons_succ]
    exact (wpAnyH_listed (by kernel_rfl) (wpAnyH_ops (by kernel_rfl) (st3_200 c (bel_trans hb hb'))))
  refine AllReadyH.cons rfl (fun K hK => ?_) ?_
  · simp only [List.getElem_toArray, List.getElem_cons_succ, List.getElem_cons_zero]
    go_simp
    refine hK.out _ _ trivial (fun _ => ?_)
    simp only [List.getElem_toArray, List.getElem_cons_succ, List.getElem_cons_zero, Act.put, List.setIfInBounds_toArray, List.set_cons_zero, List.set_cons_succ]
    exact (wpAnyH_listed (by kernel_rfl) (wpAnyH_ops (by kernel_rfl) (st3_110 c (bel_alloc hb _) (old_cell2 hc55) (new_cell rfl rfl))))
  refine AllReadyH.cons rfl (fun K hK => ?_) ?_
  · simp only [List.getElem_toArray, List.getElem_cons_succ, List.getElem_cons_zero]
    go_simp
    refine hK.out _ _ trivial (fun _ => ?_)
    simp only [List.getElem_toArray, List.getElem_cons_succ, List.getElem_cons_zero, Act.put, List.setIfInBounds_toArray, List.set_cons_zero, List.set_cons_succ]
    exact (wpAnyH_listed (by kernel_rfl) (wpAnyH_ops (by kernel_rfl) (st3_101 c (bel_alloc hb _) (old_cell2 hc55) (new_cell rfl rfl) (new_cell rfl rfl))))
  exact AllReadyH.nil

theorem st3_000 (c : PC s a b A B C D FA FD G cc dd w Q) {v3 v4 v5 v6 v7 v8 v9 v10 v11 v12 v13 v14 v15 v16 v17 v18 v19 v20 v21 v22 v23 v24 v25 v26 v27 v28 v29 v30 v31 v32 v33 v34 v35 v36 v37 v38 v39 v40 v41 v42 v43 v44 v45 v46 v47 v48 v49 v50 v52 v53 v55 v56 v57 v58 v60 v61 v62 v63 v64 v66 v67 v69 v70 v71 v72 : Value} {W : World} (hb : Below w.heap.size w W) :
    wpAnyH Try.prog .any OPS Q (fun _ => True) 10 #[true, true, true, true, true, true, true, true, true, true, true, true, true, true, true, true, true, true, true, true, true, true, true, true, true, true, true, true, true, false, false, true, true, true, false, false, false, true, true, true, true, true, true, false, false, false, false, false] ⟨#[.string s, .int .i64 (a : Int), .int .i64 (b : Int), v3, v4, v5, v6, v7, v8, v9, v10, v11, v12, v13, v14, v15, v16, v17, v18, v19, v20, v21, v22, v23, v24, v25, v26, v27, v28, v29, v30, v31, v32, v33, v34, v35, v36, v37, v38, v39, v40, v41, v42, v43, v44, v45, v46, v47, v48, v49, v50, .bool true, v52, v53, .string A, v55, v56, v57, v58, .string D, v60, v61, v62, v63, v64, .string A, v66, v67, .string D, v69, v70, v71, v72], []⟩ W := by
  obtain ⟨hA, hB, hC, hD, hcat, hkF, i1, i2, i3, i4⟩ := c.facts
  simp only [OPS, Try.f3, Option.getD, regOps, Nat.reduceBEq, Bool.false_eq_true, if_false, if_true]
  refine wpAnyH_ready (rs := [29, 34, 43]) (by kernel_rfl) (by simp) ?_
  refine AllReadyH.cons rfl (fun K hK => ?_) ?_
  · simp only [List.getElem_toArray, List.getElem_cons_succ, List.getElem_cons_zero]
    go_simp
    refine hK.out _ _ trivial (fun _ => ?_)
    simp only [List.getElem_toArray, List.getElem_cons_succ, List.getElem_cons_zero, Act.put, List.setIfInBounds_toArray, List.set_cons_zero, List.set_cons_succ]
    exact (wpAnyH_listed (by kernel_rfl) (wpAnyH_ops (by kernel_rfl) (st3_100 c (bel_alloc hb _) (new_cell rfl rfl))))
  refine AllReadyH.cons rfl (fun K hK => ?_) ?_
  · simp only [List.getElem_toArray, List.getElem_cons_succ, List.getElem_cons_zero]
    go_simp
    refine hK.out _ _ trivial (fun _ => ?_)
    simp only [List.getElem_toArray, List.getElem_cons_succ, List.getElem_cons_zero, Act.put, List.setIfInBounds_toArray, List.set_cons_zero, List.set_cons_succ]
    exact (wpAnyH_listed (by kernel_rfl) (wpAnyH_ops (by kernel_rfl) (st3_010 c (bel_alloc hb _) (new_cell rfl rfl))))
  refine AllReadyH.cons rfl (fun K hK => ?_) ?_
  · simp only [List.getElem_toArray, List.getElem_cons_succ, List.getElem_cons_zero]
    go_simp
    refine hK.out _ _ trivial (fun _ => ?_)
    simp only [List.getElem_toArray, List.getElem_cons_succ, List.getElem_cons_zero, Act.put, List.setIfInBounds_toArray, List.set_cons_zero, List.set_cons_succ]
    exact (wpAnyH_listed (by kernel_rfl) (wpAnyH_ops (by kernel_rfl) (st3_001 c (bel_alloc hb _) (new_cell rfl rfl) (new_cell rfl rfl))))
  exact AllReadyH.nil

theorem st3 (c : PC s a b A B C D FA FD G cc dd w Q) {v3 v4 v5 v6 v7 v8 v9 v10 v11 v12 v13 v14 v15 v16 v17 v18 v19 v20 v21 v22 v23 v24 v25 v26 v27 v28 v29 v30 v31 v32 v33 v34 v35 v36 v37 v38 v39 v40 v41 v42 v43 v44 v45 v46 v47 v48 v49 v50 v52 v53 v54 v55 v56 v57 v58 v59 v60 v61 v62 v63 v64 v65 v66 v67 v68 v69 v70 v71 v72 : Value} {W : World} (hb : Below w.heap.size w W) :
    wpAnyH Try.prog .any OPS Q (fun _ => True) 22 #[true, true, true, true, true, true, true, true, true, true, true, true, true, true, true, true, true, true, true, true, true, true, true, true, true, true, false, false, false, false, false, false, false, false, false, false, false, false, false, false, false, false, false, false, false, false, false, false] ⟨#[.string s, .int .i64 (a : Int), .int .i64 (b : Int), v3, v4, v5, v6, v7, v8, v9, v10, v11, v12, v13, v14, v15, v16, v17, v18, v19, v20, v21, v22, v23, v24, v25, v26, v27, v28, v29, v30, v31, v32, v33, v34, v35, v36, v37, v38, v39, v40, v41, v42, v43, v44, v45, v46, v47, v48, v49, v50, .bool true, v52, v53, v54, v55, v56, v57, v58, v59, v60, v61, v62, v63, v64, v65, v66, v67, v68, v69, v70, v71, v72], []⟩ W := by
  obtain ⟨hA, hB, hC, hD, hcat, hkF, i1, i2, i3, i4⟩ := c.facts
  simp only [OPS, Try.f3, Option.getD, regOps, Nat.reduceBEq, Bool.false_eq_true, if_false, if_true]
  refine wpAnyH_take (i := 26) (v := ?_) rfl (by kernel_rfl) (by kernel_rfl) (by kernel_rfl) (fun _ _ _ h => c.hP _ _ _ _ h) (Or.inl ⟨by rfl, ?_⟩) trivial ?_
  rotate_left
  focus (simp only [List.getElem_toArray, List.getElem_cons_succ, List.getElem_cons_zero]; intro w' _; first | (go_simp; done) | (go_simp; with_reducible rfl))
  simp only [List.getElem_toArray, List.getElem_cons_succ, List.getElem_cons_zero, Act.put, List.setIfInBounds_toArray, List.set_cons_zero, List.set_cons_succ]
  refine wpAnyH_take (i := 27) (v := ?_) rfl (by kernel_rfl) (by kernel_rfl) (by kernel_rfl) (fun _ _ _ h => c.hP _ _ _ _ h) (Or.inl ⟨by rfl, ?_⟩) trivial ?_
  rotate_left
  focus (simp only [List.getElem_toArray, List.getElem_cons_succ, List.getElem_cons_zero]; intro w' _; first | (go_simp; done) | (go_simp; with_reducible rfl))
  simp only [List.getElem_toArray, List.getElem_cons_succ, List.getElem_cons_zero, Act.put, List.setIfInBounds_toArray, List.set_cons_zero, List.set_cons_succ]
  refine wpAnyH_take (i := 28) (v := ?_) rfl (by kernel_rfl) (by kernel_rfl) (by kernel_rfl) (fun _ _ _ h => c.hP _ _ _ _ h) (Or.inl ⟨by rfl, ?_⟩) trivial ?_
  rotate_left
  focus (simp only [List.getElem_toArray, List.getElem_cons_succ, List.getElem_cons_zero]; intro w' _; first | (go_simp; done) | (go_simp; with_reducible rfl))
  simp only [List.getElem_toArray, List.getElem_cons_succ, List.getElem_cons_zero, Act.put, List.setIfInBounds_toArray, List.set_cons_zero, List.set_cons_succ]
  refine wpAnyH_take (i := 31) (v := ?_) rfl (by kernel_rfl) (by kernel_rfl) (by kernel_rfl) (fun _ _ _ h => c.hP _ _ _ _ h) (Or.inl ⟨by rfl, ?_⟩) trivial ?_
  rotate_left
  focus (simp only [List.getElem_toArray, List.getElem_cons_succ, List.getElem_cons_zero]; intro w' _; first | (go_simp; done) | (go_simp; with_reducible rfl))
  simp only [List.getElem_toArray, List.getElem_cons_succ, List.getElem_cons_zero, Act.put, List.setIfInBounds_toArray, List.set_cons_zero, List.set_cons_succ]
  refine wpAnyH_take (i := 32) (v := ?_) rfl (by kernel_rfl) (by kernel_rfl) (by kernel_rfl) (fun _ _ _ h => c.hP _ _ _ _ h) (Or.inl ⟨by rfl, ?_⟩) trivial ?_
  rotate_left
  focus (simp only [List.getElem_toArray, List.getElem_cons_succ, List.getElem_cons_zero]; intro w' _; first | (go_simp; done) | (go_simp; with_reducible rfl))
  simp only [List.getElem_toArray, List.getElem_cons_succ, List.getElem_cons_zero, Act.put, List.setIfInBounds_toArray, List.set_cons_zero, List.set_cons_succ]
  refine wpAnyH_take (i := 33) (v := ?_) rfl (by kernel_rfl) (by kernel_rfl) (by kernel_rfl) (fun _ _ _ h => c.hP _ _ _ _ h) (Or.inl ⟨by rfl, ?_⟩) trivial ?_
  rotate_left
  focus (simp only [List.getElem_toArray, List.getElem_cons_succ, List.getElem_cons_zero]; intro w' _; first | (go_simp; done) | (go_simp; with_reducible rfl))
  simp only [List.getElem_toArray, List.getElem_cons_succ, List.getElem_cons_zero, Act.put, List.setIfInBounds_toArray, List.set_cons_zero, List.set_cons_succ]
  refine wpAnyH_take (i := 37) (v := ?_) rfl (by kernel_rfl) (by kernel_rfl) (by kernel_rfl) (fun _ _ _ h => c.hP _ _ _ _ h) (Or.inl ⟨by rfl, ?_⟩) trivial ?_
  rotate_left
  focus (simp only [List.getElem_toArray, List.getElem_cons_succ, List.getElem_cons_zero]; intro w' _; first | (go_simp; done) | (go_simp; with_reducible rfl))
  simp only [List.getElem_toArray, List.getElem_cons_succ, List.getElem_cons_zero, Act.put, List.setIfInBounds_toArray, List.set_cons_zero, List.set_cons_succ]
  refine wpAnyH_take (i := 38) (v := ?_) rfl (by kernel_rfl) (by kernel_rfl) (by kernel_rfl) (fun _ _ _ h => c.hP _ _ _ _ h) (Or.inl ⟨by rfl, ?_⟩) trivial ?_
  rotate_left
  focus (simp only [List.getElem_toArray, List.getElem_cons_succ, List.getElem_cons_zero]; intro w' _; first | (go_simp; done) | (go_simp; with_reducible rfl))
  simp only [List.getElem_toArray, List.getElem_cons_succ, List.getElem_cons_zero, Act.put, List.setIfInBounds_toArray, List.set_cons_zero, List.set_cons_succ]
  refine wpAnyH_take (i := 39) (v := ?_) rfl (by kernel_rfl) (by kernel_rfl) (by kernel_rfl) (fun _ _ _ h => c.hP _ _ _ _ h) (Or.inl ⟨by rfl, ?_⟩) trivial ?_
  rotate_left
  focus (simp only [List.getElem_toArray, List.getElem_cons_succ, List.getElem_cons_zero]; intro w' _; first | (go_simp; done) | (go_simp; with_reducible rfl))
  simp only [List.getElem_toArray, List.getElem_cons_succ, List.getElem_cons_zero, Act.put, List.setIfInBounds_toArray, List.set_cons_zero, List.set_cons_succ]
  refine wpAnyH_take (i := 40) (v := ?_) rfl (by kernel_rfl) (by kernel_rfl) (by kernel_rfl) (fun _ _ _ h => c.hP _ _ _ _ h) (Or.inl ⟨by rfl, ?_⟩) trivial ?_
  rotate_left
  focus (simp only [List.getElem_toArray, List.getElem_cons_succ, List.getElem_cons_zero]; intro w' _; first | (go_simp; done) | (go_simp; with_reducible rfl))
  simp only [List.getElem_toArray, List.getElem_cons_succ, List.getElem_cons_zero, Act.put, List.setIfInBounds_toArray, List.set_cons_zero, List.set_cons_succ]
  refine wpAnyH_take (i := 41) (v := ?_) rfl (by kernel_rfl) (by kernel_rfl) (by kernel_rfl) (fun _ _ _ h => c.hP _ _ _ _ h) (Or.inl ⟨by rfl, ?_⟩) trivial ?_
  rotate_left
  focus (simp only [List.getElem_toArray, List.getElem_cons_succ, List.getElem_cons_zero]; intro w' _; first | (go_simp; done) | (go_simp; with_reducible rfl))
  simp only [List.getElem_toArray, List.getElem_cons_succ, List.getElem_cons_zero, Act.put, List.setIfInBounds_toArray, List.set_cons_zero, List.set_cons_succ]
  refine wpAnyH_take (i := 42) (v := ?_) rfl (by kernel_rfl) (by kernel_rfl) (by kernel_rfl) (fun _ _ _ h => c.hP _ _ _ _ h) (Or.inl ⟨by rfl, ?_⟩) trivial ?_
  rotate_left
  focus (simp only [List.getElem_toArray, List.getElem_cons_succ, List.getElem_cons_zero]; intro w' _; first | (go_simp; done) | (go_simp; with_reducible rfl))
  simp only [List.getElem_toArray, List.getElem_cons_succ, List.getElem_cons_zero, Act.put, List.setIfInBounds_toArray, List.set_cons_zero, List.set_cons_succ]
  exact (wpAnyH_listed (by kernel_rfl) (wpAnyH_ops (by kernel_rfl) (st3_000 c hb)))

theorem st2_11 (c : PC s a b A B C D FA FD G cc dd w Q) {v3 v4 v5 v6 v7 v8 v9 v10 v11 v12 v13 v14 v15 v16 v17 v18 v19 v20 v21 v22 v23 v24 v25 v26 v27 v28 v29 v30 v31 v32 v33 v34 v35 v36 v37 v38 v39 v40 v41 v42 v43 v44 v48 v49 v50 v51 v52 v53 v54 v55 v56 v57 v58 v59 v60 v61 v62 v63 v64 v65 v66 v67 v68 v69 v70 v71 v72 : Value} {W : World} (hb : Below w.heap.size w W) {n47 : Nat} (hc47 : W.cell? ⟨n47, 0, none⟩ = some (.string ⟨#[]⟩)) (hc47b : W.cell? ⟨n47, 1, none⟩ = some (.string ⟨#[]⟩)) :
    wpAnyH Try.prog .any OPS Q (fun _ => True) 26 #[true, true, true, true, true, true, true, true, true, true, true, true, true, true, true, true, true, true, true, true, true, true, false, false, false, false, false, false, false, false, false, false, false, false, false, false, false, false, false, false, false, false, false, false, false, false, false, false] ⟨#[.string s, .int .i64 (a : Int), .int .i64 (b : Int), v3, v4, v5, v6, v7, v8, v9, v10, v11, v12, v13, v14, v15, v16, v17, v18, v19, v20, v21, v22, v23, v24, v25, v26, v27, v28, v29, v30, v31, v32, v33, v34, v35, v36, v37, v38, v39, v40, v41, v42, v43, v44, .bool true, .int .u32 (dd : Int), .slice (some ⟨n47, 0, none⟩) 2 2, v48, v49, v50, v51, v52, v53, v54, v55, v56, v57, v58, v59, v60, v61, v62, v63, v64, v65, v66, v67, v68, v69, v70, v71, v72], []⟩ W := by
  obtain ⟨hA, hB, hC, hD, hcat, hkF, i1, i2, i3, i4⟩ := c.facts
  simp only [OPS, Try.f3, Option.getD, regOps, Nat.reduceBEq, Bool.false_eq_true, if_false, if_true]
  refine wpAnyH_ready (rs := [22]) (by kernel_rfl) (by simp) ?_
  refine AllReadyH.cons rfl (fun K hK => ?_) ?_
  · simp only [List.getElem_toArray, List.getElem_cons_succ, List.getElem_cons_zero]
    go_simp
    refine (c.hc2 _ _ hc47 hc47b).mono ?_
    rintro e W' ⟨rfl, rfl⟩
    dsimp only
    refine hK.out _ _ trivial (fun _ => ?_)
    simp only [List.getElem_toArray, List.getElem_cons_succ, List.getElem_cons_zero, Act.put, List.setIfInBounds_toArray, List.set_cons_zero, List.set_cons_succ]
    refine wpAnyH_take (i := 23) (v := ?_) rfl (by kernel_rfl) (by kernel_rfl) (by kernel_rfl) (fun _ _ _ h => c.hP _ _ _ _ h) (Or.inl ⟨by rfl, ?_⟩) trivial ?_
    rotate_left
    focus (simp only [List.getElem_toArray, List.getElem_cons_succ, List.getElem_cons_zero]; intro w' _; first | (go_simp; done) | (go_simp; with_reducible rfl))
    simp only [List.getElem_toArray, List.getElem_cons_succ, List.getElem_cons_zero, Act.put, List.setIfInBounds_toArray, List.set_cons_zero, List.set_cons_succ]
    refine wpAnyH_take (i := 24) (v := ?_) rfl (by kernel_rfl) (by kernel_rfl) (by kernel_rfl) (fun _ _ _ h => c.hP _ _ _ _ h) (Or.inl ⟨by rfl, ?_⟩) trivial ?_
    rotate_left
    focus (simp only [List.getElem_toArray, List.getElem_cons_succ, List.getElem_cons_zero]; intro w' _; first | (go_simp; done) | (go_simp; with_reducible rfl))
    simp only [List.getElem_toArray, List.getElem_cons_succ, List.getElem_cons_zero, Act.put, List.setIfInBounds_toArray, List.set_cons_zero, List.set_cons_succ]
    refine wpAnyH_take (i := 25) (v := ?_) rfl (by kernel_rfl) (by kernel_rfl) (by kernel_rfl) (fun _ _ _ h => c.hP _ _ _ _ h) (Or.inl ⟨by rfl, ?_⟩) trivial ?_
    rotate_left
    focus (simp only [List.getElem_toArray, List.getElem_cons_succ, List.getElem_cons_zero]; intro w' _; first | (go_simp; done) | (go_simp; with_reducible rfl))
    simp only [List.getElem_toArray, List.getElem_cons_succ, List.getElem_cons_zero, Act.put, List.setIfInBounds_toArray, List.set_cons_zero, List.set_cons_succ]
    exact (wpAnyH_listed (by kernel_rfl) (wpAnyH_ops (by kernel_rfl) (st3 c hb)))
  exact AllReadyH.nil

theorem st2_10 (c : PC s a b A B C D FA FD G cc dd w Q) {v3 v4 v5 v6 v7 v8 v9 v10 v11 v12 v13 v14 v15 v16 v17 v18 v19 v20 v21 v22 v23 v24 v25 v26 v27 v28 v29 v30 v31 v32 v33 v34 v35 v36 v37 v38 v39 v40 v41 v42 v43 v44 v47 v48 v49 v50 v51 v52 v53 v54 v55 v56 v57 v58 v59 v60 v61 v62 v63 v64 v65 v66 v67 v68 v69 v70 v71 v72 : Value} {W : World} (hb : Below w.heap.size w W) :
    wpAnyH Try.prog .any OPS Q (fun _ => True) 27 #[true, true, true, true, true, true, true, true, true, true, true, true, true, true, true, true, true, true, true, true, true, false, false, false, false, false, false, false, false, false, false, false, false, false, false, false, false, false, false, false, false, false, false, false, false, false, false, false] ⟨#[.string s, .int .i64 (a : Int), .int .i64 (b : Int), v3, v4, v5, v6, v7, v8, v9, v10, v11, v12, v13, v14, v15, v16, v17, v18, v19, v20, v21, v22, v23, v24, v25, v26, v27, v28, v29, v30, v31, v32, v33, v34, v35, v36, v37, v38, v39, v40, v41, v42, v43, v44, .bool true, .int .u32 (dd : Int), v47, v48, v49, v50, v51, v52, v53, v54, v55, v56, v57, v58, v59, v60, v61, v62, v63, v64, v65, v66, v67, v68, v69, v70, v71, v72], []⟩ W := by
  obtain ⟨hA, hB, hC, hD, hcat, hkF, i1, i2, i3, i4⟩ := c.facts
  simp only [OPS, Try.f3, Option.getD, regOps, Nat.reduceBEq, Bool.false_eq_true, if_false, if_true]
  refine wpAnyH_ready (rs := [21]) (by kernel_rfl) (by simp) ?_
  refine AllReadyH.cons rfl (fun K hK => ?_) ?_
  · simp only [List.getElem_toArray, List.getElem_cons_succ, List.getElem_cons_zero]
    go_simp
    refine hK.out _ _ trivial (fun _ => ?_)
    simp only [List.getElem_toArray, List.getElem_cons_succ, List.getElem_cons_zero, Act.put, List.setIfInBounds_toArray, List.set_cons_zero, List.set_cons_succ]
    exact (wpAnyH_listed (by kernel_rfl) (wpAnyH_ops (by kernel_rfl) (st2_11 c (bel_alloc hb _) (new_cell rfl rfl) (new_cell rfl rfl))))
  exact AllReadyH.nil

theorem st2_01 (c : PC s a b A B C D FA FD G cc dd w Q) {v3 v4 v5 v6 v7 v8 v9 v10 v11 v12 v13 v14 v15 v16 v17 v18 v19 v20 v21 v22 v23 v24 v25 v26 v27 v28 v29 v30 v31 v32 v33 v34 v35 v36 v37 v38 v39 v40 v41 v42 v43 v44 v46 v48 v49 v50 v51 v52 v53 v54 v55 v56 v57 v58 v59 v60 v61 v62 v63 v64 v65 v66 v67 v68 v69 v70 v71 v72 : Value} {W : World} (hb : Below w.heap.size w W) {n47 : Nat} (hc47 : W.cell? ⟨n47, 0, none⟩ = some (.string ⟨#[]⟩)) (hc47b : W.cell? ⟨n47, 1, none⟩ = some (.string ⟨#[]⟩)) :
    wpAnyH Try.prog .any OPS Q (fun _ => True) 27 #[true, true, true, true, true, true, true, true, true, true, true, true, true, true, true, true, true, true, true, true, false, true, false, false, false, false, false, false, false, false, false, false, false, false, false, false, false, false, false, false, false, false, false, false, false, false, false, false] ⟨#[.string s, .int .i64 (a : Int), .int .i64 (b : Int), v3, v4, v5, v6, v7, v8, v9, v10, v11, v12, v13, v14, v15, v16, v17, v18, v19, v20, v21, v22, v23, v24, v25, v26, v27, v28, v29, v30, v31, v32, v33, v34, v35, v36, v37, v38, v39, v40, v41, v42, v43, v44, .bool true, v46, .slice (some ⟨n47, 0, none⟩) 2 2, v48, v49, v50, v51, v52, v53, v54, v55, v56, v57, v58, v59, v60, v61, v62, v63, v64, v65, v66, v67, v68, v69, v70, v71, v72], []⟩ W := by
  obtain ⟨hA, hB, hC, hD, hcat, hkF, i1, i2, i3, i4⟩ := c.facts
  simp only [OPS, Try.f3, Option.getD, regOps, Nat.reduceBEq, Bool.false_eq_true, if_false, if_true]
  refine wpAnyH_ready (rs := [20]) (by kernel_rfl) (by simp) ?_
  refine AllReadyH.cons rfl (fun K hK => ?_) ?_
  · simp only [List.getElem_toArray, List.getElem_cons_succ, List.getElem_cons_zero]
    go_simp
    refine (c.hc0 _).mono ?_
    rintro e W' ⟨rfl, rfl⟩
    dsimp only
    refine hK.out _ _ trivial (fun _ => ?_)
    simp only [List.getElem_toArray, List.getElem_cons_succ, List.getElem_cons_zero, Act.put, List.setIfInBounds_toArray, List.set_cons_zero, List.set_cons_succ]
    exact (wpAnyH_listed (by kernel_rfl) (wpAnyH_ops (by kernel_rfl) (st2_11 c hb hc47 hc47b)))
  exact AllReadyH.nil

theorem st2_00 (c : PC s a b A B C D FA FD G cc dd w Q) {v3 v4 v5 v6 v7 v8 v9 v10 v11 v12 v13 v14 v15 v16 v17 v18 v19 v20 v21 v22 v23 v24 v25 v26 v27 v28 v29 v30 v31 v32 v33 v34 v35 v36 v37 v38 v39 v40 v41 v42 v43 v44 v46 v47 v48 v49 v50 v51 v52 v53 v54 v55 v56 v57 v58 v59 v60 v61 v62 v63 v64 v65 v66 v67 v68 v69 v70 v71 v72 : Value} {W : World} (hb : Below w.heap.size w W) :
    wpAnyH Try.prog .any OPS Q (fun _ => True) 28 #[true, true, true, true, true, true, true, true, true, true, true, true, true, true, true, true, true, true, true, true, false, false, false, false, false, false, false, false, false, false, false, false, false, false, false, false, false, false, false, false, false, false, false, false, false, false, false, false] ⟨#[.string s, .int .i64 (a : Int), .int .i64 (b : Int), v3, v4, v5, v6, v7, v8, v9, v10, v11, v12, v13, v14, v15, v16, v17, v18, v19, v20, v21, v22, v23, v24, v25, v26, v27, v28, v29, v30, v31, v32, v33, v34, v35, v36, v37, v38, v39, v40, v41, v42, v43, v44, .bool true, v46, v47, v48, v49, v50, v51, v52, v53, v54, v55, v56, v57, v58, v59, v60, v61, v62, v63, v64, v65, v66, v67, v68, v69, v70, v71, v72], []⟩ W := by
  obtain ⟨hA, hB, hC, hD, hcat, hkF, i1, i2, i3, i4⟩ := c.facts
  simp only [OPS, Try.f3, Option.getD, regOps, Nat.reduceBEq, Bool.false_eq_true, if_false, if_true]
  refine wpAnyH_ready (rs := [20, 21]) (by kernel_rfl) (by simp) ?_
  refine AllReadyH.cons rfl (fun K hK => ?_) ?_
  · simp only [List.getElem_toArray, List.getElem_cons_succ, List.getElem_cons_zero]
    go_simp
    refine (c.hc0 _).mono ?_
    rintro e W' ⟨rfl, rfl⟩
    dsimp only
    refine hK.out _ _ trivial (fun _ => ?_)
    simp only [List.getElem_toArray, List.getElem_cons_succ, List.getElem_cons_zero, Act.put, List.setIfInBounds_toArray, List.set_cons_zero, List.set_cons_succ]
    exact (wpAnyH_listed (by kernel_rfl) (wpAnyH_ops (by kernel_rfl) (st2_10 c hb)))
  refine AllReadyH.cons rfl (fun K hK => ?_) ?_
  · simp only [List.getElem_toArray, List.getElem_cons_succ, List.getElem_cons_zero]
    go_simp
    refine hK.out _ _ trivial (fun _ => ?_)
    simp only [List.getElem_toArray, List.getElem_cons_succ, List.getElem_cons_zero, Act.put, List.setIfInBounds_toArray, List.set_cons_zero, List.set_cons_succ]
    exact (wpAnyH_listed (by kernel_rfl) (wpAnyH_ops (by kernel_rfl) (st2_01 c (bel_alloc hb _) (new_cell rfl rfl) (new_cell rfl rfl))))
  exact AllReadyH.nil

theorem st1_21 (c : PC s a b A B C D FA FD G cc dd w Q) {v3 v4 v5 v6 v7 v8 v9 v10 v11 v12 v13 v14 v15 v16 v17 v18 v19 v20 v21 v22 v23 v24 v25 v26 v28 v29 v31 v32 v33 v35 v36 v38 v42 v43 v44 v45 v46 v47 v48 v49 v50 v51 v52 v53 v54 v55 v56 v57 v58 v59 v60 v61 v62 v63 v64 v65 v66 v67 v68 v69 v70 v71 v72 : Value} {W : World} (hb : Below w.heap.size w W) {n41 : Nat} (hc41 : W.cell? ⟨n41, 0, none⟩ = some (.string s)) :
    wpAnyH Try.prog .any OPS Q (fun _ => True) 32 #[true, true, true, true, true, true, true, true, true, true, true, true, true, true, true, true, false, false, false, false, false, false, false, false, false, false, false, false, false, false, false, false, false, false, false, false, false, false, false, false, false, false, false, false, false, false, false, false] ⟨#[.string s, .int .i64 (a : Int), .int .i64 (b : Int), v3, v4, v5, v6, v7, v8, v9, v10, v11, v12, v13, v14, v15, v16, v17, v18, v19, v20, v21, v22, v23, v24, v25, v26, .bool true, v28, v29, .string A, v31, v32, v33, .string B, v35, v36, .string C, v38, .int .u32 (cc : Int), .string s, .slice (some ⟨n41, 0, none⟩) 1 1, v42, v43, v44, v45, v46, v47, v48, v49, v50, v51, v52, v53, v54, v55, v56, v57, v58, v59, v60, v61, v62, v63, v64, v65, v66, v67, v68, v69, v70, v71, v72], []⟩ W := by
  obtain ⟨hA, hB, hC, hD, hcat, hkF, i1, i2, i3, i4⟩ := c.facts
  simp only [OPS, Try.f3, Option.getD, regOps, Nat.reduceBEq, Bool.false_eq_true, if_false, if_true]
  refine wpAnyH_ready (rs := [16]) (by kernel_rfl) (by simp) ?_
  refine AllReadyH.cons rfl (fun K hK => ?_) ?_
  · simp only [List.getElem_toArray, List.getElem_cons_succ, List.getElem_cons_zero]
    go_simp
    refine (c.hc1 _ _ hc41).mono ?_
    rintro e W' ⟨rfl, rfl⟩
    dsimp only
    refine hK.out _ _ trivial (fun _ => ?_)
    simp only [List.getElem_toArray, List.getElem_cons_succ, List.getElem_cons_zero, Act.put, List.setIfInBounds_toArray, List.set_cons_zero, List.set_cons_succ]
    refine wpAnyH_take (i := 17) (v := ?_) rfl (by kernel_rfl) (by kernel_rfl) (by kernel_rfl) (fun _ _ _ h => c.hP _ _ _ _ h) (Or.inl ⟨by rfl, ?_⟩) trivial ?_
    rotate_left
    focus (simp only [List.getElem_toArray, List.getElem_cons_succ, List.getElem_cons_zero]; intro w' _; first | (go_simp; done) | (go_simp; with_reducible rfl))
    simp only [List.getElem_toArray, List.getElem_cons_succ, List.getElem_cons_zero, Act.put, List.setIfInBounds_toArray, List.set_cons_zero, List.set_cons_succ]
    refine wpAnyH_take (i := 18) (v := ?_) rfl (by kernel_rfl) (by kernel_rfl) (by kernel_rfl) (fun _ _ _ h => c.hP _ _ _ _ h) (Or.inl ⟨by rfl, ?_⟩) trivial ?_
    rotate_left
    focus (simp only [List.getElem_toArray, List.getElem_cons_succ, List.getElem_cons_zero]; intro w' _; first | (go_simp; done) | (go_simp; with_reducible rfl))
    simp only [List.getElem_toArray, List.getElem_cons_succ, List.getElem_cons_zero, Act.put, List.setIfInBounds_toArray, List.set_cons_zero, List.set_cons_succ]
    refine wpAnyH_take (i := 19) (v := ?_) rfl (by kernel_rfl) (by kernel_rfl) (by kernel_rfl) (fun _ _ _ h => c.hP _ _ _ _ h) (Or.inl ⟨by rfl, ?_⟩) trivial ?_
    rotate_left
    focus (simp only [List.getElem_toArray, List.getElem_cons_succ, List.getElem_cons_zero]; intro w' _; first | (go_simp; done) | (go_simp; with_reducible rfl))
    simp only [List.getElem_toArray, List.getElem_cons_succ, List.getElem_cons_zero, Act.put, List.setIfInBounds_toArray, List.set_cons_zero, List.set_cons_succ]
    exact (wpAnyH_listed (by kernel_rfl) (wpAnyH_ops (by kernel_rfl) (st2_00 c hb)))
  exact AllReadyH.nil

theorem st1_20 (c : PC s a b A B C D FA FD G cc dd w Q) {v3 v4 v5 v6 v7 v8 v9 v10 v11 v12 v13 v14 v15 v16 v17 v18 v19 v20 v21 v22 v23 v24 v25 v26 v28 v29 v31 v32 v33 v35 v36 v38 v41 v42 v43 v44 v45 v46 v47 v48 v49 v50 v51 v52 v53 v54 v55 v56 v57 v58 v59 v60 v61 v62 v63 v64 v65 v66 v67 v68 v69 v70 v71 v72 : Value} {W : World} (hb : Below w.heap.size w W) :
    wpAnyH Try.prog .any OPS Q (fun _ => True) 33 #[true, true, true, true, true, true, true, true, true, true, true, true, true, true, true, false, false, false, false, false, false, false, false, false, false, false, false, false, false, false, false, false, false, false, false, false, false, false, false, false, false, false, false, false, false, false, false, false] ⟨#[.string s, .int .i64 (a : Int), .int .i64 (b : Int), v3, v4, v5, v6, v7, v8, v9, v10, v11, v12, v13, v14, v15, v16, v17, v18, v19, v20, v21, v22, v23, v24, v25, v26, .bool true, v28, v29, .string A, v31, v32, v33, .string B, v35, v36, .string C, v38, .int .u32 (cc : Int), .string s, v41, v42, v43, v44, v45, v46, v47, v48, v49, v50, v51, v52, v53, v54, v55, v56, v57, v58, v59, v60, v61, v62, v63, v64, v65, v66, v67, v68, v69, v70, v71, v72], []⟩ W := by
  obtain ⟨hA, hB, hC, hD, hcat, hkF, i1, i2, i3, i4⟩ := c.facts
  simp only [OPS, Try.f3, Option.getD, regOps, Nat.reduceBEq, Bool.false_eq_true, if_false, if_true]
  refine wpAnyH_ready (rs := [15]) (by kernel_rfl) (by simp) ?_
  refine AllReadyH.cons rfl (fun K hK => ?_) ?_
  · simp only [List.getElem_toArray, List.getElem_cons_succ, List.getElem_cons_zero]
    go_simp
    refine hK.out _ _ trivial (fun _ => ?_)
    simp only [List.getElem_toArray, List.getElem_cons_succ, List.getElem_cons_zero, Act.put, List.setIfInBounds_toArray, List.set_cons_zero, List.set_cons_succ]
    exact (wpAnyH_listed (by kernel_rfl) (wpAnyH_ops (by kernel_rfl) (st1_21 c (bel_alloc hb _) (new_cell rfl rfl))))
  exact AllReadyH.nil

theorem st1_11 (c : PC s a b A B C D FA FD G cc dd w Q) {v3 v4 v5 v6 v7 v8 v9 v10 v11 v12 v13 v14 v15 v16 v17 v18 v19 v20 v21 v22 v23 v24 v25 v26 v28 v29 v31 v32 v33 v35 v36 v39 v42 v43 v44 v45 v46 v47 v48 v49 v50 v51 v52 v53 v54 v55 v56 v57 v58 v59 v60 v61 v62 v63 v64 v65 v66 v67 v68 v69 v70 v71 v72 : Value} {W : World} (hb : Below w.heap.size w W) {n38 : Nat} (hc38 : W.cell? ⟨n38, 0, none⟩ = some (.string A)) (hc38b : W.cell? ⟨n38, 1, none⟩ = some (.string B)) (hc38c : W.cell? ⟨n38, 2, none⟩ = some (.string C)) {n41 : Nat} (hc41 : W.cell? ⟨n41, 0, none⟩ = some (.string s)) :
    wpAnyH Try.prog .any OPS Q (fun _ => True) 33 #[true, true, true, true, true, true, true, true, true, true, true, true, true, false, true, true, false, false, false, false, false, false, false, false, false, false, false, false, false, false, false, false, false, false, false, false, false, false, false, false, false, false, false, false, false, false, false, false] ⟨#[.string s, .int .i64 (a : Int), .int .i64 (b : Int), v3, v4, v5, v6, v7, v8, v9, v10, v11, v12, v13, v14, v15, v16, v17, v18, v19, v20, v21, v22, v23, v24, v25, v26, .bool true, v28, v29, .string A, v31, v32, v33, .string B, v35, v36, .string C, .slice (some ⟨n38, 0, none⟩) 3 3, v39, .string s, .slice (some ⟨n41, 0, none⟩) 1 1, v42, v43, v44, v45, v46, v47, v48, v49, v50, v51, v52, v53, v54, v55, v56, v57, v58, v59, v60, v61, v62, v63, v64, v65, v66, v67, v68, v69, v70, v71, v72], []⟩ W := by
  obtain ⟨hA, hB, hC, hD, hcat, hkF, i1, i2, i3, i4⟩ := c.facts
  simp only [OPS, Try.f3, Option.getD, regOps, Nat.reduceBEq, Bool.false_eq_true, if_false, if_true]
  refine wpAnyH_ready (rs := [13]) (by kernel_rfl) (by simp) ?_
  refine AllReadyH.cons rfl (fun K hK => ?_) ?_
  · simp only [List.getElem_toArray, List.getElem_cons_succ, List.getElem_cons_zero]
    go_simp
    refine (c.hc3 _ _ hc38 hc38b hc38c).mono ?_
    rintro e W' ⟨rfl, rfl⟩
    dsimp only
    refine hK.out _ _ trivial (fun _ => ?_)
    simp only [List.getElem_toArray, List.getElem_cons_succ, List.getElem_cons_zero, Act.put, List.setIfInBounds_toArray, List.set_cons_zero, List.set_cons_succ]
    exact (wpAnyH_listed (by kernel_rfl) (wpAnyH_ops (by kernel_rfl) (st1_21 c hb hc41)))
  exact AllReadyH.nil

theorem st1_10 (c : PC s a b A B C D FA FD G cc dd w Q) {v3 v4 v5 v6 v7 v8 v9 v10 v11 v12 v13 v14 v15 v16 v17 v18 v19 v20 v21 v22 v23 v24 v25 v26 v28 v29 v31 v32 v33 v35 v36 v39 v41 v42 v43 v44 v45 v46 v47 v48 v49 v50 v51 v52 v53 v54 v55 v56 v57 v58 v59 v60 v61 v62 v63 v64 v65 v66 v67 v68 v69 v70 v71 v72 : Value} {W : World} (hb : Below w.heap.size w W) {n38 : Nat} (hc38 : W.cell? ⟨n38, 0, none⟩ = some (.string A)) (hc38b : W.cell? ⟨n38, 1, none⟩ = some (.string B)) (hc38c : W.cell? ⟨n38, 2, none⟩ = some (.string C)) :
    wpAnyH Try.prog .any OPS Q (fun _ => True) 34 #[true, true, true, true, true, true, true, true, true, true, true, true, true, false, true, false, false, false, false, false, false, false, false, false, false, false, false, false, false, false, false, false, false, false, false, false, false, false, false, false, false, false, false, false, false, false, false, false] ⟨#[.string s, .int .i64 (a : Int), .int .i64 (b : Int), v3, v4, v5, v6, v7, v8, v9, v10, v11, v12, v13, v14, v15, v16, v17, v18, v19, v20, v21, v22, v23, v24, v25, v26, .bool true, v28, v29, .string A, v31, v32, v33, .string B, v35, v36, .string C, .slice (some ⟨n38, 0, none⟩) 3 3, v39, .string s, v41, v42, v43, v44, v45, v46, v47, v48, v49, v50, v51, v52, v53, v54, v55, v56, v57, v58, v59, v60, v61, v62, v63, v64, v65, v66, v67, v68, v69, v70, v71, v72], []⟩ W := by
  obtain ⟨hA, hB, hC, hD, hcat, hkF, i1, i2, i3, i4⟩ := c.facts
  simp only [OPS, Try.f3, Option.getD, regOps, Nat.reduceBEq, Bool.false_eq_true, if_false, if_true]
  refine wpAnyH_ready (rs := [13, 15]) (by kernel_rfl) (by simp) ?_
  refine AllReadyH.cons rfl (fun K hK => ?_) ?_
  · simp only [List.getElem_toArray, List.getElem_cons_succ, List.getElem_cons_zero]
    go_simp
    refine (c.hc3 _ _ hc38 hc38b hc38c).mono ?_
    rintro e W' ⟨rfl, rfl⟩
    dsimp only
    refine hK.out _ _ trivial (fun _ => ?_)
    simp only [List.getElem_toArray, List.getElem_cons_succ, List.getElem_cons_zero, Act.put, List.setIfInBounds_toArray, List.set_cons_zero, List.set_cons_succ]
    exact (wpAnyH_listed (by kernel_rfl) (wpAnyH_ops (by kernel_rfl) (st1_20 c hb)))
  refine AllReadyH.cons rfl (fun K hK => ?_) ?_
  · simp only [List.getElem_toArray, List.getElem_cons_succ, List.getElem_cons_zero]
    go_simp
    refine hK.out _ _ trivial (fun _ => ?_)
    simp only [List.getElem_toArray, List.getElem_cons_succ, List.getElem_cons_zero, Act.put, List.setIfInBounds_toArray, List.set_cons_zero, List.set_cons_succ]
    exact (wpAnyH_listed (by kernel_rfl) (wpAnyH_ops (by kernel_rfl) (st1_11 c (bel_alloc hb _) (old_cell2 hc38) (old_cell2 hc38b) (old_cell2 hc38c) (new_cell rfl rfl))))
  exact AllReadyH.nil

theorem st1_01 (c : PC s a b A B C D FA FD G cc dd w Q) {v3 v4 v5 v6 v7 v8 v9 v10 v11 v12 v13 v14 v15 v16 v17 v18 v19 v20 v21 v22 v23 v24 v25 v26 v28 v29 v31 v32 v33 v35 v36 v38 v39 v42 v43 v44 v45 v46 v47 v48 v49 v50 v51 v52 v53 v54 v55 v56 v57 v58 v59 v60 v61 v62 v63 v64 v65 v66 v67 v68 v69 v70 v71 v72 : Value} {W : World} (hb : Below w.heap.size w W) {n41 : Nat} (hc41 : W.cell? ⟨n41, 0, none⟩ = some (.string s)) :
    wpAnyH Try.prog .any OPS Q (fun _ => True) 34 #[true, true, true, true, true, true, true, true, true, true, true, true, false, false, true, true, false, false, false, false, false, false, false, false, false, false, false, false, false, false, false, false, false, false, false, false, false, false, false, false, false, false, false, false, false, false, false, false] ⟨#[.string s, .int .i64 (a : Int), .int .i64 (b : Int), v3, v4, v5, v6, v7, v8, v9, v10, v11, v12, v13, v14, v15, v16, v17, v18, v19, v20, v21, v22, v23, v24, v25, v26, .bool true, v28, v29, .string A, v31, v32, v33, .string B, v35, v36, .string C, v38, v39, .string s, .slice (some ⟨n41, 0, none⟩) 1 1, v42, v43, v44, v45, v46, v47, v48, v49, v50, v51, v52, v53, v54, v55, v56, v57, v58, v59, v60, v61, v62, v63, v64, v65, v66, v67, v68, v69, v70, v71, v72], []⟩ W := by
  obtain ⟨hA, hB, hC, hD, hcat, hkF, i1, i2, i3, i4⟩ := c.facts
  simp only [OPS, Try.f3, Option.getD, regOps, Nat.reduceBEq, Bool.false_eq_true, if_false, if_true]
  refine wpAnyH_ready (rs := [12]) (by kernel_rfl) (by simp) ?_
  refine AllReadyH.cons rfl (fun K hK => ?_) ?_
  · simp only [List.getElem_toArray, List.getElem_cons_succ, List.getElem_cons_zero]
    go_simp
    refine hK.out _ _ trivial (fun _ => ?_)
    simp only [List.getElem_toArray, List.getElem_cons_succ, List.getElem_cons_zero, Act.put, List.setIfInBounds_toArray, List.set_cons_zero, List.set_cons_succ]
    exact (wpAnyH_listed (by kernel_rfl) (wpAnyH_ops (by kernel_rfl) (st1_11 c (bel_alloc hb _) (new_cell rfl rfl) (new_cell rfl rfl) (new_cell rfl rfl) (old_cell2 hc41))))
  exact AllReadyH.nil

theorem st1_00 (c : PC s a b A B C D FA FD G cc dd w Q) {v3 v4 v5 v6 v7 v8 v9 v10 v11 v12 v13 v14 v15 v16 v17 v18 v19 v20 v21 v22 v23 v24 v25 v26 v28 v29 v31 v32 v33 v35 v36 v38 v39 v41 v42 v43 v44 v45 v46 v47 v48 v49 v50 v51 v52 v53 v54 v55 v56 v57 v58 v59 v60 v61 v62 v63 v64 v65 v66 v67 v68 v69 v70 v71 v72 : Value} {W : World} (hb : Below w.heap.size w W) :
    wpAnyH Try.prog .any OPS Q (fun _ => True) 35 #[true, true, true, true, true, true, true, true, true, true, true, true, false, false, true, false, false, false, false, false, false, false, false, false, false, false, false, false, false, false, false, false, false, false, false, false, false, false, false, false, false, false, false, false, false, false, false, false] ⟨#[.string s, .int .i64 (a : Int), .int .i64 (b : Int), v3, v4, v5, v6, v7, v8, v9, v10, v11, v12, v13, v14, v15, v16, v17, v18, v19, v20, v21, v22, v23, v24, v25, v26, .bool true, v28, v29, .string A, v31, v32, v33, .string B, v35, v36, .string C, v38, v39, .string s, v41, v42, v43, v44, v45, v46, v47, v48, v49, v50, v51, v52, v53, v54, v55, v56, v57, v58, v59, v60, v61, v62, v63, v64, v65, v66, v67, v68, v69, v70, v71, v72], []⟩ W := by
  obtain ⟨hA, hB, hC, hD, hcat, hkF, i1, i2, i3, i4⟩ := c.facts
  simp only [OPS, Try.f3, Option.getD, regOps, Nat.reduceBEq, Bool.false_eq_true, if_false, if_true]
  refine wpAnyH_ready (rs := [12, 15]) (by kernel_rfl) (by simp) ?_
  refine AllReadyH.cons rfl (fun K hK => ?_) ?_
  · simp only [List.getElem_toArray, List.getElem_cons_succ, List.getElem_cons_zero]
    go_simp
    refine hK.out _ _ trivial (fun _ => ?_)
    simp only [List.getElem_toArray, List.getElem_cons_succ, List.getElem_cons_zero, Act.put, List.setIfInBounds_toArray, List.set_cons_zero, List.set_cons_succ]
    exact (wpAnyH_listed (by kernel_rfl) (wpAnyH_ops (by kernel_rfl) (st1_10 c (bel_alloc hb _) (new_cell rfl rfl) (new_cell rfl rfl) (new_cell rfl rfl))))
  refine AllReadyH.cons rfl (fun K hK => ?_) ?_
  · simp only [List.getElem_toArray, List.getElem_cons_succ, List.getElem_cons_zero]
    go_simp
    refine hK.out _ _ trivial (fun _ => ?_)
    simp only [List.getElem_toArray, List.getElem_cons_succ, List.getElem_cons_zero, Act.put, List.setIfInBounds_toArray, List.set_cons_zero, List.set_cons_succ]
    exact (wpAnyH_listed (by kernel_rfl) (wpAnyH_ops (by kernel_rfl) (st1_01 c (bel_alloc hb _) (new_cell rfl rfl))))
  exact AllReadyH.nil

theorem st1 (c : PC s a b A B C D FA FD G cc dd w Q) {v3 v4 v5 v6 v7 v8 v9 v10 v11 v12 v13 v14 v15 v16 v17 v18 v19 v20 v21 v22 v23 v24 v25 v26 v27 v28 v29 v30 v31 v32 v33 v34 v35 v36 v37 v38 v39 v40 v41 v42 v43 v44 v45 v46 v47 v48 v49 v50 v51 v52 v53 v54 v55 v56 v57 v58 v59 v60 v61 v62 v63 v64 v65 v66 v67 v68 v69 v70 v71 v72 : Value} {W : World} (hb : Below w.heap.size w W) :
    wpAnyH Try.prog .any OPS Q (fun _ => True) 48 #[false, false, false, false, false, false, false, false, false, false, false, false, false, false, false, false, false, false, false, false, false, false, false, false, false, false, false, false, false, false, false, false, false, false, false, false, false, false, false, false, false, false, false, false, false, false, false, false] ⟨#[.string s, .int .i64 (a : Int), .int .i64 (b : Int), v3, v4, v5, v6, v7, v8, v9, v10, v11, v12, v13, v14, v15, v16, v17, v18, v19, v20, v21, v22, v23, v24, v25, v26, v27, v28, v29, v30, v31, v32, v33, v34, v35, v36, v37, v38, v39, v40, v41, v42, v43, v44, v45, v46, v47, v48, v49, v50, v51, v52, v53, v54, v55, v56, v57, v58, v59, v60, v61, v62, v63, v64, v65, v66, v67, v68, v69, v70, v71, v72], []⟩ W := by
  obtain ⟨hA, hB, hC, hD, hcat, hkF, i1, i2, i3, i4⟩ := c.facts
  simp only [OPS, Try.f3, Option.getD, regOps, Nat.reduceBEq, Bool.false_eq_true, if_false, if_true]
  refine wpAnyH_ready (rs := [0]) (by kernel_rfl) (by simp) ?_
  refine AllReadyH.cons rfl (fun K hK => ?_) ?_
  · simp only [List.getElem_toArray, List.getElem_cons_succ, List.getElem_cons_zero]
    go_simp
    refine (alive_any _).mono ?_
    rintro e W' ⟨rfl, hb'⟩
    dsimp only
    refine hK.out _ _ trivial (fun _ => ?_)
    simp only [List.getElem_toArray, List.getElem_cons_succ, List.getElem_cons_zero, Act.put, List.setIfInBounds_toArray, List.set_cons_zero, List.set_cons_succ]
    refine wpAnyH_take (i := 1) (v := ?_) rfl (by kernel_rfl) (by kernel_rfl) (by kernel_rfl) (fun _ _ _ h => c.hP _ _ _ _ h) (Or.inl ⟨by rfl, ?_⟩) trivial ?_
    rotate_left
    focus (simp only [List.getElem_toArray, List.getElem_cons_succ, List.getElem_cons_zero]; intro w' _; first | (go_simp; done) | (go_simp; with_reducible rfl))
    simp only [List.getElem_toArray, List.getElem_cons_succ, List.getElem_cons_zero, Act.put, List.setIfInBounds_toArray, List.set_cons_zero, List.set_cons_succ]
    refine wpAnyH_take (i := 2) (v := ?_) rfl (by kernel_rfl) (by kernel_rfl) (by kernel_rfl) (fun _ _ _ h => c.hP _ _ _ _ h) (Or.inl ⟨by rfl, ?_⟩) trivial ?_
    rotate_left
    focus (simp only [List.getElem_toArray, List.getElem_cons_succ, List.getElem_cons_zero]; intro w' _; first | (go_simp; done) | (go_simp; with_reducible rfl))
    simp only [List.getElem_toArray, List.getElem_cons_succ, List.getElem_cons_zero, Act.put, List.setIfInBounds_toArray, List.set_cons_zero, List.set_cons_succ]
    refine wpAnyH_take (i := 3) (v := ?_) rfl (by kernel_rfl) (by kernel_rfl) (by kernel_rfl) (fun _ _ _ h => c.hP _ _ _ _ h) (Or.inl ⟨by rfl, ?_⟩) trivial ?_
    rotate_left
    focus (simp only [List.getElem_toArray, List.getElem_cons_succ, List.getElem_cons_zero]; intro w' _; first | (go_simp; done) | (go_simp; with_reducible rfl))
    simp only [List.getElem_toArray, List.getElem_cons_succ, List.getElem_cons_zero, Act.put, List.setIfInBounds_toArray, List.set_cons_zero, List.set_cons_succ]
    refine wpAnyH_take (i := 4) (v := ?_) rfl (by kernel_rfl) (by kernel_rfl) (by kernel_rfl) (fun _ _ _ h => c.hP _ _ _ _ h) (Or.inl ⟨by rfl, ?_⟩) trivial ?_
    rotate_left
    focus (simp only [List.getElem_toArray, List.getElem_cons_succ, List.getElem_cons_zero]; intro w' _; first | (go_simp; done) | (go_simp; with_reducible rfl))
    simp only [List.getElem_toArray, List.getElem_cons_succ, List.getElem_cons_zero, Act.put, List.setIfInBounds_toArray, List.set_cons_zero, List.set_cons_succ]
    refine wpAnyH_take (i := 5) (v := ?_) rfl (by kernel_rfl) (by kernel_rfl) (by kernel_rfl) (fun _ _ _ h => c.hP _ _ _ _ h) (Or.inl ⟨by rfl, ?_⟩) trivial ?_
    rotate_left
    focus (simp only [List.getElem_toArray, List.getElem_cons_succ, List.getElem_cons_zero]; intro w' _; first | (go_simp; done) | (go_simp; with_reducible rfl))
    simp only [List.getElem_toArray, List.getElem_cons_succ, List.getElem_cons_zero, Act.put, List.setIfInBounds_toArray, List.set_cons_zero, List.set_cons_succ]
    refine wpAnyH_take (i := 6) (v := ?_) rfl (by kernel_rfl) (by kernel_rfl) (by kernel_rfl) (fun _ _ _ h => c.hP _ _ _ _ h) (Or.inl ⟨by rfl, ?_⟩) trivial ?_
    rotate_left
    focus (simp only [List.getElem_toArray, List.getElem_cons_succ, List.getElem_cons_zero]; intro w' _; first | (go_simp; done) | (go_simp; with_reducible rfl))
    simp only [List.getElem_toArray, List.getElem_cons_succ, List.getElem_cons_zero, Act.put, List.setIfInBounds_toArray, List.set_cons_zero, List.set_cons_succ]
    refine wpAnyH_take (i := 7) (v := ?_) rfl (by kernel_rfl) (by kernel_rfl) (by kernel_rfl) (fun _ _ _ h => c.hP _ _ _ _ h) (Or.inl ⟨by rfl, ?_⟩) trivial ?_
    rotate_left
    focus (simp only [List.getElem_toArray, List.getElem_cons_succ, List.getElem_cons_zero]; intro w' _; first | (go_simp; done) | (go_simp; with_reducible rfl))
    simp only [List.getElem_toArray, List.getElem_cons_succ, List.getElem_cons_zero, Act.put, List.setIfInBounds_toArray, List.set_cons_zero, List.set_cons_succ]
    refine wpAnyH_take (i := 8) (v := ?_) rfl (by kernel_rfl) (by kernel_rfl) (by kernel_rfl) (fun _ _ _ h => c.hP _ _ _ _ h) (Or.inl ⟨by rfl, ?_⟩) trivial ?_
    rotate_left
    focus (simp only [List.getElem_toArray, List.getElem_cons_succ, List.getElem_cons_zero]; intro w' _; first | (go_simp; done) | (go_simp; with_reducible rfl))
    simp only [List.getElem_toArray, List.getElem_cons_succ, List.getElem_cons_zero, Act.put, List.setIfInBounds_toArray, List.set_cons_zero, List.set_cons_succ]
    refine wpAnyH_take (i := 9) (v := ?_) rfl (by kernel_rfl) (by kernel_rfl) (by kernel_rfl) (fun _ _ _ h => c.hP _ _ _ _ h) (Or.inl ⟨by rfl, ?_⟩) trivial ?_
    rotate_left
    focus (simp only [List.getElem_toArray, List.getElem_cons_succ, List.getElem_cons_zero]; intro w' _; first | (go_simp; done) | (go_simp; with_reducible rfl))
    simp only [List.getElem_toArray, List.getElem_cons_succ, List.getElem_cons_zero, Act.put, List.setIfInBounds_toArray, List.set_cons_zero, List.set_cons_succ]
    refine wpAnyH_take (i := 10) (v := ?_) rfl (by kernel_rfl) (by kernel_rfl) (by kernel_rfl) (fun _ _ _ h => c.hP _ _ _ _ h) (Or.inl ⟨by rfl, ?_⟩) trivial ?_
    rotate_left
    focus (simp only [List.getElem_toArray, List.getElem_cons_succ, List.getElem_cons_zero]; intro w' _; first | (go_simp; done) | (go_simp; with_reducible rfl))
    simp only [List.getElem_toArray, List.getElem_cons_succ, List.getElem_cons_zero, Act.put, List.setIfInBounds_toArray, List.set_cons_zero, List.set_cons_succ]
    refine wpAnyH_take (i := 11) (v := ?_) rfl (by kernel_rfl) (by kernel_rfl) (by kernel_rfl) (fun _ _ _ h => c.hP _ _ _ _ h) (Or.inl ⟨by rfl, ?_⟩) trivial ?_
    rotate_left
    focus (simp only [List.getElem_toArray, List.getElem_cons_succ, List.getElem_cons_zero]; intro w' _; first | (go_simp; done) | (go_simp; with_reducible rfl))
    simp only [List.getElem_toArray, List.getElem_cons_succ, List.getElem_cons_zero, Act.put, List.setIfInBounds_toArray, List.set_cons_zero, List.set_cons_succ]
    refine wpAnyH_take (i := 14) (v := ?_) rfl (by kernel_rfl) (by kernel_rfl) (by kernel_rfl) (fun _ _ _ h => c.hP _ _ _ _ h) (Or.inl ⟨by rfl, ?_⟩) trivial ?_
    rotate_left
    focus (simp only [List.getElem_toArray, List.getElem_cons_succ, List.getElem_cons_zero]; intro w' _; first | (go_simp; done) | (go_simp; with_reducible rfl))
    simp only [List.getElem_toArray, List.getElem_cons_succ, List.getElem_cons_zero, Act.put, List.setIfInBounds_toArray, List.set_cons_zero, List.set_cons_succ]
    exact (wpAnyH_listed (by kernel_rfl) (wpAnyH_ops (by kernel_rfl) (st1_00 c (bel_trans hb hb'))))
  exact AllReadyH.nil

end
end Go.Proofs.Yteejghhcmmocfaa
