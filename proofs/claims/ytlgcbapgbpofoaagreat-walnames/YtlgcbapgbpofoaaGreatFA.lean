/- Contracts of package file's small calls: On, ends, begin. -/
import Derived.Test.YtlgcbapgbpofoaaGreatFS
import Derived.Deep.QuietTactic
import Derived.BigQuiet
import Derived.Lib.Hide
namespace Go.Proofs.YtlgcbapgbpofoaaGreat
open Go.RowKit

theorem on_nil (w : World) : Calls Tryz.prog 46 #[.pointer none] w fun e w' => e = .returned (.bool false) ∧ w = w' := by
  go_enter Tryz.func46, Tryz.ntmps46
  go_wp2
  go_ret
  exact ⟨rfl, rfl⟩
theorem on_at (b : Nat) (x : Bool) (w : World) (h : w.cell? ⟨b, 1, none⟩ = some (.bool x)) : Calls Tryz.prog 46 #[.pointer (some ⟨b, 0, none⟩)] w fun e w' => e = .returned (.bool x) ∧ w = w' := by
  go_enter Tryz.func46, Tryz.ntmps46
  go_wp2
  go_ret
  exact ⟨rfl, rfl⟩
theorem ends_neg (b j : Nat) (c : Int) (w : World) (h : w.cell? ⟨b, j, none⟩ = some (.int .i64 c)) (hc : c < 0) :
    Calls Tryz.prog 241 #[.pointer (some ⟨b, j, none⟩)] w fun e w' => e = .returned (.bool (over c)) ∧ w = w' := by
  have ho : over c = false := by simp [over, hc]
  rw [ho]
  go_enter Tryz.func241, Tryz.ntmps241
  go_wp2
  go_ret
  exact ⟨rfl, rfl⟩
theorem ends_pos (b j : Nat) (c : Int) (w : World) (h : w.cell? ⟨b, j, none⟩ = some (.int .i64 c)) (hf : w.frozen? ⟨b, j, none⟩ = false) (hc : 0 ≤ c) (hc2 : c ≤ 9223372036854775807) :
    Calls Tryz.prog 241 #[.pointer (some ⟨b, j, none⟩)] w fun e w' => e = .returned (.bool (over c)) ∧ w.setCell ⟨b, j, none⟩ (.int .i64 (c - 1)) = w' := by
  have ho : over c = decide (c - 1 < 0) := by simp [over, hc]
  rw [ho]
  go_enter Tryz.func241, Tryz.ntmps241
  go_wp2
  go_ret
  exact ⟨rfl, rfl⟩

theorem tmod_low (n : Int) {b : Int} (hb : 0 < b) : -b < n.tmod b := by
  have h := Int.tmod_lt_of_pos (-n) hb
  rw [Int.neg_tmod] at h
  omega
theorem tmod_modn (n : Int) (b : Nat) (hb : 0 < b) : ((n.tmod (b : Int)) + (b : Int)) % (b : Int) = (modn n b : Int) := by
  have h0 : (0 : Int) < (b : Int) := by omega
  have h1 := Int.emod_nonneg n (show (b : Int) ≠ 0 by omega)
  have h2 := Int.emod_lt_of_pos n h0
  have e : (modn n b : Int) = n % (b : Int) := by unfold modn; omega
  rw [e]
  have h3 := Int.tmod_lt_of_pos n h0
  have h4 := tmod_low n h0
  rw [Int.add_emod_right, Int.tmod_eq_emod]
  split
  · simp
  · rw [Int.sub_emod]
    simp
theorem modn_lt (n : Int) (b : Nat) (hb : 0 < b) : modn n b < b := by
  have h2 := Int.emod_lt_of_pos n (show (0 : Int) < (b : Int) by omega)
  have h1 := Int.emod_nonneg n (show (b : Int) ≠ 0 by omega)
  unfold modn
  omega
set_option maxHeartbeats 400000 in
theorem modulo_any (n : Int) (b : Nat) (w : World) (hb : 0 < b) (hb2 : b ≤ 1000000000000) :
    Calls Tryz.prog 168 #[.int .i64 n, .int .i64 (b : Int)] w fun e w' => e = .returned (.int .i64 (modn n b : Nat)) ∧ w = w' := by
  have h3 := Int.tmod_lt_of_pos n (show (0 : Int) < (b : Int) by omega)
  have h4 := tmod_low n (show (0 : Int) < (b : Int) by omega)
  have H := Lib.hid (tmod_modn n b hb)
  have hz : ((b : Int) == 0) = false := by simp; omega
  go_enter Tryz.func168, Tryz.ntmps168
  go_wp2
  go_ret
  exact ⟨by rw [← H.out]; rfl, rfl⟩

theorem begun_no (b : Nat) (w : World) (h : w.cell? ⟨b, 1, none⟩ = some (.bool false)) : Calls Tryz.prog 231 #[.pointer (some ⟨b, 0, none⟩)] w fun e w' => e = .returned (.bool false) ∧ w = w' := by
  go_enter Tryz.func231, Tryz.ntmps231
  go_wp2_with (go_at_call 46; refine (on_at _ _ _ h).mono ?_; rintro e w1 ⟨rfl, rfl⟩)
  go_ret
  exact ⟨rfl, rfl⟩
theorem begun_nil (w : World) : Calls Tryz.prog 231 #[.pointer none] w fun e w' => e = .returned (.bool false) ∧ w = w' := by
  go_enter Tryz.func231, Tryz.ntmps231
  go_wp2_with (go_at_call 46; refine (on_nil _).mono ?_; rintro e w1 ⟨rfl, rfl⟩)
  go_ret
  exact ⟨rfl, rfl⟩
theorem ncell {W : World} {C : Array Value} {t : TypeId} {n j : Nat} {v : Value} (hn : n = W.heap.size) (h : C[j]? = some v) : (W.alloc (.cells C t)).cell? ⟨n, j, none⟩ = some v := by
  subst hn
  have hb : (W.alloc (.cells C t)).heap[W.heap.size]? = some (.cells C t) := by simp [World.alloc, -World.alloc_eq]
  simp only [World.cell?, hb]
  exact h
theorem ocell {W : World} {o : Obj} {n j : Nat} {v : Value} (hn : n < W.heap.size) (h : W.cell? ⟨n, j, none⟩ = some v) : (W.alloc o).cell? ⟨n, j, none⟩ = some v :=
  (((Below.refl W.heap.size W).alloc (Nat.le_refl _) o).cell (p := ⟨n, j, none⟩) hn).trans h
theorem cell_set {w : World} {b i j : Nat} {u v : Value} (h : w.cell? ⟨b, j, none⟩ = some v) (hne : i ≠ j) : (w.setCell ⟨b, i, none⟩ u).cell? ⟨b, j, none⟩ = some v :=
  (World.cell?_setCell_other w _ _ u (fun e => hne (by cases e; rfl))).trans h
theorem cell_new {w : World} {b i : Nat} {u v : Value} (h : w.cell? ⟨b, i, none⟩ = some u) : (w.setCell ⟨b, i, none⟩ v).cell? ⟨b, i, none⟩ = some v := World.cell?_setCell_same w _ v h
theorem warm_set {w : World} {b i : Nat} {x : Addr} {u : Value} (h : w.frozen? x = false) : (w.setCell ⟨b, i, none⟩ u).frozen? x = false := (World.frozen?_setCell _ _ _ _).trans h
theorem Sys.set {w : World} {r : Rep} {s s' : St} (h : Sys w r s) (j : Nat) (v : Value) (hs : (sysCells r s).setIfInBounds j v = sysCells r s')
    (e1 : s'.now = s.now) (e2 : s'.last = s.last) (e3 : s'.pend = s.pend) (e4 : s'.files = s.files) : Sys (w.setCell ⟨r.p, j, none⟩ v) r s' := by
  refine h.fields ?_ (fun k _ hk => heap_setCell_other w ⟨r.p, j, none⟩ k v hk) e1 e2 e3 e4
  rw [← hs]
  exact heap_setCell_same w r.p j _ _ v h.cells
set_option maxHeartbeats 400000 in
theorem begin_yes {w : World} {r : Rep} {s : St} (h : Sys w r s) (hon : s.on = true) (h1 : 0 ≤ s.steps) (h2 : s.steps ≤ 4611686018427387904) (hf : s.fuse ≤ 9223372036854775807) :
    Calls Tryz.prog 231 #[.pointer (some ⟨r.p, 0, none⟩)] w fun e w' => e = .returned (.bool true) ∧ Sys w' r s.begun ∧ Turn [r.p] w w' ∧ w'.heap.size = w.heap.size := by
  have c1 : w.cell? ⟨r.p, 1, none⟩ = some (.bool true) := by rw [← hon]; exact h.c1
  have c3 := h.c3
  have c4 := h.c4
  have f1 := h.warm 1
  have f3 := h.warm 3
  have f4 := h.warm 4
  have hs1 := Lib.hid (h.set (s' := { s with steps := s.steps + 1 }) 3 (.int .i64 (s.steps + 1)) rfl rfl rfl rfl rfl)
  have ht1 := Lib.hid ((Turn.refl [r.p] w).setCell (p := ⟨r.p, 3, none⟩) (.inl (by simp)) (.int .i64 (s.steps + 1)))
  go_enter Tryz.func231, Tryz.ntmps231
  by_cases hneg : s.fuse < 0
  · go_wp2_with (first | (go_at_call 46; refine (on_at _ _ _ c1).mono ?_; rintro e w1 ⟨rfl, rfl⟩) | (go_at_call 241; refine (ends_neg _ _ s.fuse _ (cell_set c4 (by decide)) hneg).mono ?_; rintro e w2 ⟨rfl, rfl⟩))
    go_ret
    refine ⟨rfl, ?_, ?_, by simp⟩
    · have := hs1.out.set (s' := s.begun) 1 (.bool (!over s.fuse)) (by simp [sysCells, St.begun, tick, hneg]) rfl rfl rfl rfl
      exact this
    · exact ht1.out.setCell (.inl (by simp)) _
  · have hpos : 0 ≤ s.fuse := by omega
    go_wp2_with (first | (go_at_call 46; refine (on_at _ _ _ c1).mono ?_; rintro e w1 ⟨rfl, rfl⟩) | (go_at_call 241; refine (ends_pos _ _ s.fuse _ (cell_set c4 (by decide)) (warm_set f4) hpos hf).mono ?_; rintro e w2 ⟨rfl, rfl⟩))
    go_ret
    refine ⟨rfl, ?_, ?_, by simp⟩
    · have h3 := hs1.out.set (s' := { s with steps := s.steps + 1, fuse := s.fuse - 1 }) 4 (.int .i64 (s.fuse - 1)) rfl rfl rfl rfl rfl
      exact h3.set (s' := s.begun) 1 (.bool (!over s.fuse)) (by simp [sysCells, St.begun, tick]; omega) rfl rfl rfl rfl
    · exact (ht1.out.setCell (.inl (by simp)) _).setCell (.inl (by simp)) _
end Go.Proofs.YtlgcbapgbpofoaaGreat
