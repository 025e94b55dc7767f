/- edit's isFrom, isTable, isApart. -/
import Derived.Test.YtlecffpjcjlabaaGreatJ2
import Derived.Shelf.SlSortCmp.QuietGrown
namespace Go.Proofs.YtlecffpjcjlabaaGreat
open Go.RowKit

theorem ret_boolT {a b : Bool} (h : a = b) : Ending.returned (.bool a) = .returned (.bool b) := by rw [h]
def fromB (a b c : Int) : Bool := decide (a ≤ b) && decide (b ≤ c)
theorem fromB_iff {a b c : Int} : fromB a b c = true ↔ a ≤ b ∧ b ≤ c := by simp [fromB]
set_option maxHeartbeats 1000000 in
theorem isFrom_any (a b c : Int) (w : World) : Calls Tryz.prog 218 #[.int .i64 a, .int .i64 b, .int .i64 c] w fun e w' => e = .returned (.bool (fromB a b c)) ∧ w = w' := by
  unfold fromB
  by_cases h : a ≤ b
  · have d1 : decide (a ≤ b) = true := decide_eq_true h
    clear h
    go_enter Tryz.func218, Tryz.ntmps218
    go_wp2
    go_ret
    exact ⟨by first | rfl | (rw [d1]; rfl), rfl⟩
  · have d1 : decide (a ≤ b) = false := decide_eq_false h
    clear h
    go_enter Tryz.func218, Tryz.ntmps218
    go_wp2
    go_ret
    exact ⟨by first | rfl | (rw [d1]; rfl), rfl⟩
def tabB (next : Int) (t : Tb) : Bool := fromB 0 t.n (next - 1) && (fromB 0 t.lv 3 && (fromB 1 t.sz 1099511627776 && (!(lessS t.l t.f) && (decide (t.f.size ≤ 300) && decide (t.l.size ≤ 300)))))
theorem tabB_iff {next : Int} {t : Tb} : tabB next t = true ↔ TabOk next t := by
  unfold tabB TabOk lessS
  simp only [Bool.and_eq_true, fromB_iff, decide_eq_true_iff, Bool.not_eq_true', decide_eq_false_iff_not]
  constructor
  · rintro ⟨⟨a, b⟩, ⟨c, d⟩, ⟨e, f⟩, g, h, i⟩
    exact ⟨a, b, c, d, e, f, g, h, i⟩
  · rintro ⟨a, b, c, d, e, f, g, h, i⟩
    exact ⟨⟨a, b⟩, ⟨c, d⟩, ⟨e, f⟩, g, h, i⟩
set_option maxHeartbeats 4000000 in
set_option maxRecDepth 100000 in
theorem isTable_any (t : Tb) (next : Int) (w : World) (hn : 0 ≤ next ∧ next ≤ 100000000) (hs : t.f.size ≤ 9223372036854775807 ∧ t.l.size ≤ 9223372036854775807) :
    Calls Tryz.prog 219 #[t.val, .int .i64 next] w fun e w' => e = .returned (.bool (tabB next t)) ∧ Grows w w' := by
  obtain ⟨n1, l1, z1, f1, g1⟩ := t
  unfold Tb.val tabB
  simp only at hs ⊢
  obtain ⟨hs1, hs2⟩ := hs
  have hG : Grows w (w.alloc (.cells #[.int .i64 n1, .int .i64 l1, .int .i64 z1, .string f1, .string g1] 89)) := (Grows.refl w).alloc _
  have HG := Lib.hid hG
  have hw : IntKind.i64.wrap (next - 1) = next - 1 := by rw [IntKind.wrap_i64]; omega
  have C1 := Lib.hid (fun w => isFrom_any 0 n1 (next - 1) w)
  have C2 := Lib.hid (fun w => isFrom_any 0 l1 3 w)
  have C3 := Lib.hid (fun w => isFrom_any 1 z1 1099511627776 w)
  generalize fromB 0 n1 (next - 1) = B1 at *
  generalize fromB 0 l1 3 = B2 at *
  generalize fromB 1 z1 1099511627776 = B3 at *
  have HGG := Lib.hid (show decide ((g1.size : Int) ≤ 300) = decide (g1.size ≤ 300) from decide_eq_decide.2 (by omega))
  clear hG hn
  cases B1 with
  | false =>
    go_enter Tryz.func219, Tryz.ntmps219
    go_wp2_with (first | (go_at_call 218; (with_reducible refine (C1.out _).mono ?_); rintro e w1 ⟨rfl, rfl⟩) | (go_at_call 218; (with_reducible refine (C2.out _).mono ?_); rintro e w1 ⟨rfl, rfl⟩) | (go_at_call 218; (with_reducible refine (C3.out _).mono ?_); rintro e w1 ⟨rfl, rfl⟩) | fail)
    go_ret
    first | exact ⟨rfl, HG.out⟩ | exact ⟨ret_boolT (by rw [d1']; first | rfl | exact HGG.out), HG.out⟩
  | true =>
    cases B2 with
    | false =>
      go_enter Tryz.func219, Tryz.ntmps219
      go_wp2_with (first | (go_at_call 218; (with_reducible refine (C1.out _).mono ?_); rintro e w1 ⟨rfl, rfl⟩) | (go_at_call 218; (with_reducible refine (C2.out _).mono ?_); rintro e w1 ⟨rfl, rfl⟩) | (go_at_call 218; (with_reducible refine (C3.out _).mono ?_); rintro e w1 ⟨rfl, rfl⟩) | fail)
      go_ret
      first | exact ⟨rfl, HG.out⟩ | exact ⟨ret_boolT (by rw [d1']; first | rfl | exact HGG.out), HG.out⟩
    | true =>
      cases B3 with
      | false =>
        go_enter Tryz.func219, Tryz.ntmps219
        go_wp2_with (first | (go_at_call 218; (with_reducible refine (C1.out _).mono ?_); rintro e w1 ⟨rfl, rfl⟩) | (go_at_call 218; (with_reducible refine (C2.out _).mono ?_); rintro e w1 ⟨rfl, rfl⟩) | (go_at_call 218; (with_reducible refine (C3.out _).mono ?_); rintro e w1 ⟨rfl, rfl⟩) | fail)
        go_ret
        first | exact ⟨rfl, HG.out⟩ | exact ⟨ret_boolT (by rw [d1']; first | rfl | exact HGG.out), HG.out⟩
      | true =>
        rcases less3 f1 g1 with ⟨h1, h2⟩ | h1 | ⟨h1, h2, h3⟩
        · have hq : lessS g1 f1 = false := by unfold lessS; rw [cmpS_swap f1 g1, h2]; rfl
          rw [hq]
          clear h2 hq
          by_cases k1 : f1.size ≤ 300
          · have d1 : decide ((f1.size : Int) ≤ 300) = true := by simp; omega
            have d1' : decide (f1.size ≤ 300) = true := by simp; omega
            clear k1
            go_enter Tryz.func219, Tryz.ntmps219
            go_wp2_with (first | (go_at_call 218; (with_reducible refine (C1.out _).mono ?_); rintro e w1 ⟨rfl, rfl⟩) | (go_at_call 218; (with_reducible refine (C2.out _).mono ?_); rintro e w1 ⟨rfl, rfl⟩) | (go_at_call 218; (with_reducible refine (C3.out _).mono ?_); rintro e w1 ⟨rfl, rfl⟩) | fail)
            go_ret
            first | exact ⟨rfl, HG.out⟩ | exact ⟨ret_boolT (by rw [d1']; first | rfl | exact HGG.out), HG.out⟩
          · have d1 : decide ((f1.size : Int) ≤ 300) = false := by simp; omega
            have d1' : decide (f1.size ≤ 300) = false := by simp; omega
            clear k1
            go_enter Tryz.func219, Tryz.ntmps219
            go_wp2_with (first | (go_at_call 218; (with_reducible refine (C1.out _).mono ?_); rintro e w1 ⟨rfl, rfl⟩) | (go_at_call 218; (with_reducible refine (C2.out _).mono ?_); rintro e w1 ⟨rfl, rfl⟩) | (go_at_call 218; (with_reducible refine (C3.out _).mono ?_); rintro e w1 ⟨rfl, rfl⟩) | fail)
            go_ret
            first | exact ⟨rfl, HG.out⟩ | exact ⟨ret_boolT (by rw [d1']; first | rfl | exact HGG.out), HG.out⟩
        · subst h1
          have hq : lessS f1 f1 = false := by unfold lessS; rw [cmpS_refl]; rfl
          rw [hq]
          clear hq
          by_cases k1 : f1.size ≤ 300
          · have d1 : decide ((f1.size : Int) ≤ 300) = true := by simp; omega
            have d1' : decide (f1.size ≤ 300) = true := by simp; omega
            clear k1
            go_enter Tryz.func219, Tryz.ntmps219
            go_wp2_with (first | (go_at_call 218; (with_reducible refine (C1.out _).mono ?_); rintro e w1 ⟨rfl, rfl⟩) | (go_at_call 218; (with_reducible refine (C2.out _).mono ?_); rintro e w1 ⟨rfl, rfl⟩) | (go_at_call 218; (with_reducible refine (C3.out _).mono ?_); rintro e w1 ⟨rfl, rfl⟩) | fail)
            go_ret
            first | exact ⟨rfl, HG.out⟩ | exact ⟨ret_boolT (by rw [d1']; first | rfl | exact HGG.out), HG.out⟩
          · have d1 : decide ((f1.size : Int) ≤ 300) = false := by simp; omega
            have d1' : decide (f1.size ≤ 300) = false := by simp; omega
            clear k1
            go_enter Tryz.func219, Tryz.ntmps219
            go_wp2_with (first | (go_at_call 218; (with_reducible refine (C1.out _).mono ?_); rintro e w1 ⟨rfl, rfl⟩) | (go_at_call 218; (with_reducible refine (C2.out _).mono ?_); rintro e w1 ⟨rfl, rfl⟩) | (go_at_call 218; (with_reducible refine (C3.out _).mono ?_); rintro e w1 ⟨rfl, rfl⟩) | fail)
            go_ret
            first | exact ⟨rfl, HG.out⟩ | exact ⟨ret_boolT (by rw [d1']; first | rfl | exact HGG.out), HG.out⟩
        · have hq : lessS g1 f1 = true := by unfold lessS; rw [cmpS_swap f1 g1, h3]; rfl
          rw [hq]
          clear h3 hq
          go_enter Tryz.func219, Tryz.ntmps219
          go_wp2_with (first | (go_at_call 218; (with_reducible refine (C1.out _).mono ?_); rintro e w1 ⟨rfl, rfl⟩) | (go_at_call 218; (with_reducible refine (C2.out _).mono ?_); rintro e w1 ⟨rfl, rfl⟩) | (go_at_call 218; (with_reducible refine (C3.out _).mono ?_); rintro e w1 ⟨rfl, rfl⟩) | fail)
          go_ret
          first | exact ⟨rfl, HG.out⟩ | exact ⟨ret_boolT (by rw [d1']; first | rfl | exact HGG.out), HG.out⟩
def apartB (t u : Tb) : Bool := (t.lv == 0) || ((t.lv != u.lv) || lessS t.l u.f)
theorem apartB_iff {t u : Tb} : apartB t u = true ↔ ApartT t u := by
  unfold apartB ApartT lessS
  simp
set_option maxHeartbeats 2000000 in
set_option maxRecDepth 100000 in
theorem isApart_any (t u : Tb) (w : World) :
    Calls Tryz.prog 220 #[t.val, u.val] w fun e w' => e = .returned (.bool (apartB t u)) ∧ Grows w w' := by
  obtain ⟨n1, l1, z1, f1, g1⟩ := t
  obtain ⟨n2, l2, z2, f2, g2⟩ := u
  unfold Tb.val apartB
  simp only
  have hG : Grows w ((w.alloc (.cells #[.int .i64 n1, .int .i64 l1, .int .i64 z1, .string f1, .string g1] 89)).alloc (.cells #[.int .i64 n2, .int .i64 l2, .int .i64 z2, .string f2, .string g2] 89)) := ((Grows.refl w).alloc _).alloc _
  have HG := Lib.hid hG
  clear hG
  have HL := Lib.hid (bl_cmp g1 f2)
  cases d1 : (l1 == 0) with
  | true =>
    go_enter Tryz.func220, Tryz.ntmps220
    go_wp2
    go_ret
    exact ⟨by first | rfl | (simp; done), HG.out⟩
  | false =>
    cases d2 : (l1 != l2) with
    | true =>
      go_enter Tryz.func220, Tryz.ntmps220
      go_wp2
      go_ret
      exact ⟨by first | rfl | (simp; done), HG.out⟩
    | false =>
      go_enter Tryz.func220, Tryz.ntmps220
      go_wp2
      go_ret
      exact ⟨by first | (rw [HL.out]; rfl) | (rw [HL.out]; simp [lessS]; done) | rfl, HG.out⟩
end Go.Proofs.YtlecffpjcjlabaaGreat
