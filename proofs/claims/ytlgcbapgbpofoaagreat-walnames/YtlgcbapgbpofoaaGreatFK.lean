/- What a crash leaves of a file: cut. -/
import Derived.Test.YtlgcbapgbpofoaaGreatFJ
import Derived.Deep.DeepCutAuto
namespace Go.Proofs.YtlgcbapgbpofoaaGreat
open Go.RowKit

theorem cut_le {f : Fil} (h : f.syn ≤ f.b.length) (keep : Int) : f.syn + modn keep (f.b.length - f.syn + 1) ≤ f.b.length := by
  have := modn_lt keep (f.b.length - f.syn + 1) (by omega)
  omega
theorem cut_end {w w' : World} {x : Nat × Value} {f : Fil} {keep : Int} {a : Option Addr} {cap : Nat} (hok : FileOk w x f) (hx : x.2 = .slice a f.b.length cap) (hne : ob x.2 ≠ some x.1)
    (hw : w' = (w.setCell ⟨x.1, 1, none⟩ (.int .i64 ((f.syn + modn keep (f.b.length - f.syn + 1) : Nat) : Int))).setCell ⟨x.1, 0, none⟩ (.slice a (f.syn + modn keep (f.b.length - f.syn + 1)) cap)) :
    FileOk w' (x.1, .slice a (f.syn + modn keep (f.b.length - f.syn + 1)) cap) (f.cut keep) ∧ Turn [x.1] w w' := by
  have hle := cut_le hok.syn keep
  have hrow := hok.row.cut (f.syn + modn keep (f.b.length - f.syn + 1)) hle hx
  rw [Nat.mul_one] at hrow
  have hk : ∀ k, k ≠ x.1 → w'.heap[k]? = w.heap[k]? := fun k hk => by
    rw [hw]
    exact (heap_setCell_other _ ⟨x.1, 0, none⟩ k _ hk).trans (heap_setCell_other _ ⟨x.1, 1, none⟩ k _ hk)
  have hobe : ∀ k, ob (.slice a (f.syn + modn keep (f.b.length - f.syn + 1)) cap) = some k → k ≠ x.1 := by
    intro k hk e
    refine hne ?_
    rw [hx, ← e, ← hk]
    cases a <;> cases cap <;> rfl
  refine ⟨⟨?_, ?_, ?_⟩, ?_⟩
  · rw [hw]
    have h1 := heap_setCell_same w x.1 1 _ _ (.int .i64 ((f.syn + modn keep (f.b.length - f.syn + 1) : Nat) : Int)) hok.cells
    exact heap_setCell_same _ x.1 0 _ _ _ h1
  · have e1 : (f.cut keep).b.length = f.syn + modn keep (f.b.length - f.syn + 1) := by
      unfold Fil.cut
      simp only [List.length_take]
      omega
    have e2 : byteVals (f.cut keep).b = (byteVals f.b).take (f.syn + modn keep (f.b.length - f.syn + 1)) := by
      unfold Fil.cut byteVals
      simp only [List.map_take]
    rw [e1, e2]
    exact hrow.kept fun k hk' => hk k (hobe k hk')
  · unfold Fil.cut
    simp only [List.length_take]
    omega
  · rw [hw]
    exact ((Turn.refl _ _).setCell (.inl (by simp)) _).setCell (.inl (by simp)) _
set_option maxHeartbeats 2000000 in
set_option maxRecDepth 100000 in
theorem cut_any {w : World} {x : Nat × Value} {f : Fil} (hok : FileOk w x f) (hne : ob x.2 ≠ some x.1) (keep : Int) (hl : f.b.length ≤ 1000000000) :
    Calls Tryz.prog 170 #[.pointer (some ⟨x.1, 0, none⟩), .int .i64 keep] w fun e w' => e = .returned (.tuple #[]) ∧ ∃ v, FileOk w' (x.1, v) (f.cut keep) ∧ ob v = ob x.2 ∧ Turn [x.1] w w' := by
  obtain ⟨a, cap, hx, hcap, hcm⟩ := hok.slice
  have k0 := hok.c0
  rw [hx] at k0
  have k1 := hok.c1
  have f0 := hok.warm 0
  have f1 := hok.warm 1
  have hsyn := hok.syn
  have HM := Lib.hid (fun W => modulo_any keep (f.b.length - f.syn + 1) W (by omega) (by omega))
  have hle := cut_le hok.syn keep
  have hend := Lib.hid (fun w' hw => cut_end (w' := w') (keep := keep) hok hx hne hw)
  have hob : ob (.slice a (f.syn + modn keep (f.b.length - f.syn + 1)) cap) = ob x.2 := by
    rw [hx]
    cases a <;> cases cap <;> rfl
  have Hob := Lib.hid hob
  clear hob
  have hw1 : IntKind.i64.wrap (IntKind.i64.wrap ((f.b.length : Int) - (f.syn : Int)) + 1) = ((f.b.length - f.syn + 1 : Nat) : Int) := by
    rw [wrap_same ((f.b.length : Int) - (f.syn : Int)) (by omega) (by omega), wrap_same _ (by omega) (by omega)]
    omega
  have hw2 : IntKind.i64.wrap ((f.syn : Int) + ((modn keep (f.b.length - f.syn + 1) : Nat) : Int)) = ((f.syn + modn keep (f.b.length - f.syn + 1) : Nat) : Int) := by
    rw [wrap_same _ (by omega) (by omega)]
    omega
  obtain ⟨J, hJ⟩ : ∃ J, J = f.syn + modn keep (f.b.length - f.syn + 1) := ⟨_, rfl⟩
  rw [← hJ] at hw2 hend Hob hle
  clear hJ
  generalize modn keep (f.b.length - f.syn + 1) = j at *
  generalize f.b.length - f.syn + 1 = D at *
  generalize f.b.length = L at *
  generalize f.syn = sy0 at *
  have hJ0 : (0 : Int) ≤ (J : Int) := by omega
  have hJc : (J : Int) ≤ (cap : Int) := by omega
  have hcm' : cap ≤ 9223372036854775807 := by unfold maxLen at hcm; omega
  go_enter Tryz.func170, Tryz.ntmps170
  go_upto_region 0 with fail
  go_cut [1] (fun s1 w' => s1 = .int .i64 keep ∧ w' = (w.setCell ⟨x.1, 1, none⟩ (.int .i64 (J : Int))).drew)
  case first =>
    go_region_with (go_at_call 168; refine (HM.out _).mono ?_; rintro e w1 ⟨rfl, rfl⟩)
    all_goals (go_wp2_with fail; go_meet; exact ⟨rfl, rfl⟩)
  case rest =>
    obtain ⟨rfl, rfl⟩ := hcut
    have q0 : (w.setCell ⟨x.1, 1, none⟩ (.int .i64 (J : Int))).cell? ⟨x.1, 0, none⟩ = some (.slice a L cap) := cell_set k0 (by decide)
    have q1 : (w.setCell ⟨x.1, 1, none⟩ (.int .i64 (J : Int))).cell? ⟨x.1, 1, none⟩ = some (.int .i64 (J : Int)) := cell_new k1
    have g0 : (w.setCell ⟨x.1, 1, none⟩ (.int .i64 (J : Int))).frozen? ⟨x.1, 0, none⟩ = false := warm_set f0
    have hfin := Lib.hid (hend.out _ rfl)
    clear HM hend hw1 hw2 k0 k1 f0 f1
    generalize (w.setCell ⟨x.1, 1, none⟩ (.int .i64 (J : Int))) = w2 at *
    cases a with
    | none =>
      go_wp2
      go_region_with (fail)
      all_goals go_wp2
      all_goals go_end0
      all_goals exact ⟨rfl, _, hfin.out.1.kept (fun _ _ => rfl), Hob.out, hfin.out.2.drew.drew⟩
    | some a =>
      go_wp2
      go_region_with (fail)
      all_goals go_wp2
      all_goals go_end0
      all_goals exact ⟨rfl, _, hfin.out.1.kept (fun _ _ => rfl), Hob.out, hfin.out.2.drew.drew⟩
end Go.Proofs.YtlgcbapgbpofoaaGreat
