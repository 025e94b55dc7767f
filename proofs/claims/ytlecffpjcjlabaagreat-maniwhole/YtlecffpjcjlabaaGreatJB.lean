/- edit's Whole. -/
import Derived.Test.YtlecffpjcjlabaaGreatJA
import Derived.Deep.RegionWith
namespace Go.Proofs.YtlecffpjcjlabaaGreat
open Go.RowKit Go.Shelf

theorem below_set5 {B : Nat} {w0 w : World} (h : Below B w0 w) (X : Nat) (hX : B ≤ X) (v0 v1 v2 v3 v4 : Value) : Below B w0 (((((w.setCell ⟨X, 0, none⟩ v0).setCell ⟨X, 1, none⟩ v1).setCell ⟨X, 2, none⟩ v2).setCell ⟨X, 3, none⟩ v3).setCell ⟨X, 4, none⟩ v4) :=
  (below_set4 h X hX v0 v1 v2 v3).setCell (p := ⟨X, 4, none⟩) hX v4
theorem block_set5 (w : World) (X : Nat) (v0 v1 v2 v3 v4 : Value) (k : Nat) (hk : k ≠ X) : (((((w.setCell ⟨X, 0, none⟩ v0).setCell ⟨X, 1, none⟩ v1).setCell ⟨X, 2, none⟩ v2).setCell ⟨X, 3, none⟩ v3).setCell ⟨X, 4, none⟩ v4).heap[k]? = w.heap[k]? := by
  rw [Below.heap_setCell _ _ _ _ hk, block_set4 _ _ _ _ _ _ _ hk]
set_option maxHeartbeats 8000000 in
set_option maxRecDepth 100000 in
theorem whole_any (v : Vr) (vv : Value) (w : World) (hT : TbsV w vv v.ts) (hl : v.ts.length ≤ 10000) (hok : ∀ t ∈ v.ts, t.Short) :
    Calls Tryz.prog 271 #[verV v.log v.next v.seq vv] w fun x w' => ∃ r, x = .returned (ediV v.log v.next v.seq r (.slice none 0 0)) ∧ RowB w' r v.ts ∧ (∀ k, ob r = some k → w.heap.size ≤ k) ∧ Below w.heap.size w w' := by
  obtain ⟨log, next, seq, ts⟩ := v
  simp only at hT hl hok ⊢
  obtain ⟨aa, ac, rfl⟩ := hT.len
  unfold verV ediV
  obtain ⟨W1, hW1⟩ : ∃ W1, (w.alloc (.cells #[.int .i64 log, .int .i64 next, .int .u64 (seq : Int), .slice aa ts.length ac] 63)).alloc (.cells #[.int .i64 0, .int .i64 0, .int .u64 0, .slice none 0 0, .slice none 0 0] 52) = W1 := ⟨_, rfl⟩
  have b1 : Below w.heap.size w W1 := by rw [← hW1]; exact ((Below.refl _ _).alloc (Nat.le_refl _) _).alloc (by simp) _
  have x1 : BoxV w.heap.size log next seq (.slice aa ts.length ac) W1 := by rw [← hW1]; exact (Below.heap_alloc _ _ _ (by simp)).trans (new_block _ _ rfl)
  have z1 : BoxEd (w.heap.size + 1) 0 0 0 (.slice none 0 0) (.slice none 0 0) W1 := by rw [← hW1]; exact new_block _ _ (by simp)
  have s1 : W1.heap.size = w.heap.size + 2 := by rw [← hW1]; simp
  have HS1 := Lib.hid s1
  have HCP := Lib.hid (show ∀ W, Below W1.heap.size W1 W → Calls Tryz.prog 138 #[.slice aa ts.length ac] W fun e w' => ∃ a8 c8, e = .returned (.slice a8 ts.length c8) ∧ RowB w' (.slice a8 ts.length c8) ts ∧ Below W1.heap.size W1 w' ∧ ∀ k, ob (.slice a8 ts.length c8) = some k → w.heap.size + 2 ≤ k from fun W hW => by
    refine (copies_any _ ts W ((hT.below b1).below hW) (by omega) hok).mono ?_
    rintro _ w' ⟨v', rfl, h1, h2, h3⟩
    obtain ⟨a8, c8, rfl⟩ := h1.short
    exact ⟨a8, c8, rfl, h1, hW.trans (h2.mono hW.size), fun k hk => by have := h3 k hk; have := hW.size; omega⟩)
  have HF := Lib.hid (show ∀ W, Below W1.heap.size W1 W → W.cell? ⟨w.heap.size, 0, none⟩ = some (.int .i64 log) ∧ W.cell? ⟨w.heap.size, 1, none⟩ = some (.int .i64 next) ∧ W.cell? ⟨w.heap.size, 2, none⟩ = some (.int .u64 (seq : Int)) ∧ W.cell? ⟨w.heap.size, 3, none⟩ = some (.slice aa ts.length ac) ∧ BoxEd (w.heap.size + 1) 0 0 0 (.slice none 0 0) (.slice none 0 0) W ∧ Below w.heap.size w W from fun W hW => ⟨(x1.below hW).c0, (x1.below hW).c1, (x1.below hW).c2, (x1.below hW).c3, z1.below hW, b1.trans (hW.mono b1.size)⟩)
  have bz : Below W1.heap.size W1 W1.drew := (Below.refl _ _).drew
  obtain ⟨p0, p1, p2, p3, -, -⟩ := HF.out _ bz
  clear hT hok b1 x1 z1 s1
  go_enter Tryz.func271, Tryz.ntmps271
  go_wp2_with fail
  try rw [hW1]
  clear hW1
  have u1 : (fun w' => w'.cell? ⟨w.heap.size, 0, none⟩ = some (.int .i64 log) ∧ w'.cell? ⟨w.heap.size, 1, none⟩ = some (.int .i64 next) ∧ w'.cell? ⟨w.heap.size, 2, none⟩ = some (.int .u64 (seq : Int)) ∧ w'.cell? ⟨w.heap.size, 3, none⟩ = some (.slice aa ts.length ac)) W1.drew := ⟨p0, p1, p2, p3⟩
  refine wp_region_noPanic ?_
  refine wp_region_held (S := (fun w' => w'.cell? ⟨w.heap.size, 0, none⟩ = some (.int .i64 log) ∧ w'.cell? ⟨w.heap.size, 1, none⟩ = some (.int .i64 next) ∧ w'.cell? ⟨w.heap.size, 2, none⟩ = some (.int .u64 (seq : Int)) ∧ w'.cell? ⟨w.heap.size, 3, none⟩ = some (.slice aa ts.length ac))) (by kernel_rfl) ?_
  refine wpAnyH_take (i := 0) (v := ?_) rfl (by kernel_rfl) (by kernel_rfl) (by kernel_rfl) (fun _ _ _ h => h) (Or.inl ⟨by rfl, ?_⟩) u1 ?_
  rotate_left
  focus (simp only [List.getElem_toArray, List.getElem_cons_zero]; intro w' hS; obtain ⟨s0, s1, s2, s3⟩ := hS; first | (go_simp; done) | (go_simp; with_reducible rfl))
  simp only [List.getElem_toArray, List.getElem_cons_zero, Act.put, List.setIfInBounds_toArray, List.set_cons_zero, List.set_cons_succ]
  refine wpAnyH_take (i := 1) (v := ?_) rfl (by kernel_rfl) (by kernel_rfl) (by kernel_rfl) (fun _ _ _ h => h) (Or.inl ⟨by rfl, ?_⟩) u1 ?_
  rotate_left
  focus (simp only [List.getElem_toArray, List.getElem_cons_succ, List.getElem_cons_zero]; intro w' hS; obtain ⟨s0, s1, s2, s3⟩ := hS; first | (go_simp; done) | (go_simp; with_reducible rfl))
  simp only [List.getElem_toArray, List.getElem_cons_succ, List.getElem_cons_zero, Act.put, List.setIfInBounds_toArray, List.set_cons_zero, List.set_cons_succ]
  refine wpAnyH_take (i := 2) (v := ?_) rfl (by kernel_rfl) (by kernel_rfl) (by kernel_rfl) (fun _ _ _ h => h) (Or.inl ⟨by rfl, ?_⟩) u1 ?_
  rotate_left
  focus (simp only [List.getElem_toArray, List.getElem_cons_succ, List.getElem_cons_zero]; intro w' hS; obtain ⟨s0, s1, s2, s3⟩ := hS; first | (go_simp; done) | (go_simp; with_reducible rfl))
  simp only [List.getElem_toArray, List.getElem_cons_succ, List.getElem_cons_zero, Act.put, List.setIfInBounds_toArray, List.set_cons_zero, List.set_cons_succ]
  refine wpAnyH_take (i := 3) (v := ?_) rfl (by kernel_rfl) (by kernel_rfl) (by kernel_rfl) (fun _ _ _ h => h) (Or.inl ⟨by rfl, ?_⟩) u1 ?_
  rotate_left
  focus (simp only [List.getElem_toArray, List.getElem_cons_succ, List.getElem_cons_zero]; intro w' hS; obtain ⟨s0, s1, s2, s3⟩ := hS; first | (go_simp; done) | (go_simp; with_reducible rfl))
  simp only [List.getElem_toArray, List.getElem_cons_succ, List.getElem_cons_zero, Act.put, List.setIfInBounds_toArray, List.set_cons_zero, List.set_cons_succ]
  refine wpAnyH_take (i := 4) (v := ?_) rfl (by kernel_rfl) (by kernel_rfl) (by kernel_rfl) (fun _ _ _ h => h) (Or.inl ⟨by rfl, ?_⟩) u1 ?_
  rotate_left
  focus (simp only [List.getElem_toArray, List.getElem_cons_succ, List.getElem_cons_zero]; intro w' hS; obtain ⟨s0, s1, s2, s3⟩ := hS; first | (go_simp; done) | (go_simp; with_reducible rfl))
  simp only [List.getElem_toArray, List.getElem_cons_succ, List.getElem_cons_zero, Act.put, List.setIfInBounds_toArray, List.set_cons_zero, List.set_cons_succ]
  refine wpAnyH_take (i := 5) (v := ?_) rfl (by kernel_rfl) (by kernel_rfl) (by kernel_rfl) (fun _ _ _ h => h) (Or.inl ⟨by rfl, ?_⟩) u1 ?_
  rotate_left
  focus (simp only [List.getElem_toArray, List.getElem_cons_succ, List.getElem_cons_zero]; intro w' hS; obtain ⟨s0, s1, s2, s3⟩ := hS; first | (go_simp; done) | (go_simp; with_reducible rfl))
  simp only [List.getElem_toArray, List.getElem_cons_succ, List.getElem_cons_zero, Act.put, List.setIfInBounds_toArray, List.set_cons_zero, List.set_cons_succ]
  refine wpAnyH_take (i := 6) (v := ?_) rfl (by kernel_rfl) (by kernel_rfl) (by kernel_rfl) (fun _ _ _ h => h) (Or.inl ⟨by rfl, ?_⟩) u1 ?_
  rotate_left
  focus (simp only [List.getElem_toArray, List.getElem_cons_succ, List.getElem_cons_zero]; intro w' hS; obtain ⟨s0, s1, s2, s3⟩ := hS; first | (go_simp; done) | (go_simp; with_reducible rfl))
  simp only [List.getElem_toArray, List.getElem_cons_succ, List.getElem_cons_zero, Act.put, List.setIfInBounds_toArray, List.set_cons_zero, List.set_cons_succ]
  refine wpAnyH_take (i := 7) (v := ?_) rfl (by kernel_rfl) (by kernel_rfl) (by kernel_rfl) (fun _ _ _ h => h) (Or.inl ⟨by rfl, ?_⟩) u1 ?_
  rotate_left
  focus (simp only [List.getElem_toArray, List.getElem_cons_succ, List.getElem_cons_zero]; intro w' hS; obtain ⟨s0, s1, s2, s3⟩ := hS; first | (go_simp; done) | (go_simp; with_reducible rfl))
  simp only [List.getElem_toArray, List.getElem_cons_succ, List.getElem_cons_zero, Act.put, List.setIfInBounds_toArray, List.set_cons_zero, List.set_cons_succ]
  refine wpAnyH_ready (rs := [8]) (by kernel_rfl) (by simp) ?_
  refine AllReadyH.cons rfl (fun K hK => ?_) AllReadyH.nil
  simp only [List.getElem_toArray, List.getElem_cons_succ, List.getElem_cons_zero]
  go_simp
  refine (HCP.out _ bz).mono ?_
  rintro _ w2 ⟨a8, c8, rfl, hr2, hb2, ho2⟩
  obtain ⟨r0, r1, r2, r3, z2, hbw⟩ := HF.out w2 hb2
  have u3 : (fun w' => w'.cell? ⟨w.heap.size, 0, none⟩ = some (.int .i64 log) ∧ w'.cell? ⟨w.heap.size, 1, none⟩ = some (.int .i64 next) ∧ w'.cell? ⟨w.heap.size, 2, none⟩ = some (.int .u64 (seq : Int)) ∧ w'.cell? ⟨w.heap.size, 3, none⟩ = some (.slice aa ts.length ac)) w2 := ⟨r0, r1, r2, r3⟩
  have g0 := z2.c0
  have g1 := z2.c1
  have g2 := z2.c2
  have g3 := z2.c3
  have g4 := z2.c4
  have f0 := z2.f 0
  have f1 := z2.f 1
  have f2 := z2.f 2
  have f3 := z2.f 3
  have f4 := z2.f 4
  have HR2 := Lib.hid hr2
  have HO2 := Lib.hid ho2
  have HBW := Lib.hid hbw
  clear hr2 ho2 z2 hbw
  dsimp only
  refine hK.out _ _ u3 (fun _ => ?_)
  try simp only [List.getElem_toArray, List.getElem_cons_succ, List.getElem_cons_zero, Act.put, List.setIfInBounds_toArray, List.set_cons_zero, List.set_cons_succ]
  refine wpAnyH_take (i := 9) (v := ?_) rfl (by kernel_rfl) (by kernel_rfl) (by kernel_rfl) (fun _ _ _ h => h) (Or.inl ⟨by rfl, ?_⟩) u3 ?_
  rotate_left
  focus (simp only [List.getElem_toArray, List.getElem_cons_succ, List.getElem_cons_zero]; intro w' hS; obtain ⟨s0, s1, s2, s3⟩ := hS; first | (go_simp; done) | (go_simp; with_reducible rfl))
  simp only [List.getElem_toArray, List.getElem_cons_succ, List.getElem_cons_zero, Act.put, List.setIfInBounds_toArray, List.set_cons_zero, List.set_cons_succ]
  refine wpAnyH_ready (rs := [10]) (by kernel_rfl) (by simp) ?_
  refine AllReadyH.cons rfl (fun K hK => ?_) AllReadyH.nil
  simp only [List.getElem_toArray, List.getElem_cons_succ, List.getElem_cons_zero]
  go_simp
  refine hK.out _ _ ?u5 (fun _ => ?_)
  case u5 => exact ⟨by rw [World.cell?_of_block (block_set5 _ _ _ _ _ _ _ _ (show w.heap.size ≠ w.heap.size + 1 by omega))]; exact r0, by rw [World.cell?_of_block (block_set5 _ _ _ _ _ _ _ _ (show w.heap.size ≠ w.heap.size + 1 by omega))]; exact r1, by rw [World.cell?_of_block (block_set5 _ _ _ _ _ _ _ _ (show w.heap.size ≠ w.heap.size + 1 by omega))]; exact r2, by rw [World.cell?_of_block (block_set5 _ _ _ _ _ _ _ _ (show w.heap.size ≠ w.heap.size + 1 by omega))]; exact r3⟩
  try simp only [List.getElem_toArray, List.getElem_cons_succ, List.getElem_cons_zero, Act.put, List.setIfInBounds_toArray, List.set_cons_zero, List.set_cons_succ]
  refine wpAnyH_done (by kernel_rfl) ?_ _
  refine NoPanic.normal ?_
  go_wp2_with fail
  refine bodyPost_ret (by simp [results, Tryz.results271, go_sem, g0, g1, g2, g3, g4]; try rfl) rfl ?_
  exact ⟨_, rfl, Row.kept HR2.out (fun k hk => block_set5 _ _ _ _ _ _ _ k (by have := HO2.out k hk; omega)), fun k hk => (by have := HO2.out k hk; omega), below_set5 HBW.out _ (by omega) _ _ _ _ _⟩
end Go.Proofs.YtlecffpjcjlabaaGreat
