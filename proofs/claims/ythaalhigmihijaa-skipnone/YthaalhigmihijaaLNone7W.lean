/- The walk of SkipNone: of a nil list. -/
import Derived.Test.YthaalhigmihijaaYC
namespace Go.Proofs.Ythaalhigmihijaa
open Go.RowKit

theorem put_nil (k : ByteArray) (s n : Int) (v : ByteArray) (z : Int) (w : World) : Calls Try.prog 20 #[.pointer none, .agg #[.string k, .int .u64 s, .int .i64 n, .string v], .int .i64 z] w fun e w' => e = .returned (.bool false) ∧ Below w.heap.size w w' := by
  go_enter Try.func20, Try.ntmps20
  go_wp2
  go_ret
  exact ⟨rfl, (Below.refl _ _).alloc (Nat.le_refl _) _⟩
theorem get_nil (k : ByteArray) (s : Int) (w : World) : Calls Try.prog 19 #[.pointer none, .string k, .int .u64 s] w fun e w' => e = .returned (.tuple #[.agg #[.string ⟨#[]⟩, .int .u64 0, .int .i64 0, .string ⟨#[]⟩], .bool false]) ∧ Below w.heap.size w w' := by
  go_enter Try.func19, Try.ntmps19
  go_wp2
  exact bodyPost_ret (v := .tuple #[.agg #[.string ⟨#[]⟩, .int .u64 0, .int .i64 0, .string ⟨#[]⟩], .bool false]) (by simp [results, Try.results19, go_sem]) rfl ⟨rfl, (Below.refl _ _).alloc (Nat.le_refl _) _⟩
theorem from_nil (k : ByteArray) (w : World) : Calls Try.prog 22 #[.pointer none, .string k] w fun e w' => e = .returned (.slice none 0 0) ∧ w = w' := by
  go_enter Try.func22, Try.ntmps22
  go_wp2
  go_ret
  exact ⟨rfl, rfl⟩
theorem all_nil (w : World) : Calls Try.prog 21 #[.pointer none] w fun e w' => e = .returned (.slice none 0 0) ∧ w = w' := by
  go_enter Try.func21, Try.ntmps21
  go_wp2_with (first | (go_at_call 22; (with_reducible refine (from_nil _ _).mono ?_); rintro e w1 ⟨rfl, rfl⟩) | fail)
  go_ret
  exact ⟨rfl, rfl⟩
theorem len_nil (w : World) : Calls Try.prog 23 #[.pointer none] w fun e w' => e = .returned (.int .i64 0) ∧ w = w' := by
  go_enter Try.func23, Try.ntmps23
  go_wp2
  go_ret
  exact ⟨rfl, rfl⟩
theorem height_nil (w : World) : Calls Try.prog 24 #[.pointer none] w fun e w' => e = .returned (.int .i64 0) ∧ w = w' := by
  go_enter Try.func24, Try.ntmps24
  go_wp2
  go_ret
  exact ⟨rfl, rfl⟩
theorem path_nil (k : ByteArray) (w : World) : Calls Try.prog 25 #[.pointer none, .string k] w fun e w' => e = .returned (.slice none 0 0) ∧ w = w' := by
  go_enter Try.func25, Try.ntmps25
  go_wp2_with (first | (go_at_call 24; (with_reducible refine (height_nil _).mono ?_); rintro e w1 ⟨rfl, rfl⟩) | fail)
  refine wp_loop_rounds 1 ?_
  rw [rounds_succ]
  go_wp2
  go_ret
  exact ⟨rfl, rfl⟩
set_option maxHeartbeats 8000000 in
set_option maxRecDepth 100000 in
theorem skipNone_walk (e : Ent) (he : e.Ok) (z : Int) (_h1 : -9223372036854775808 ≤ z) (_h2 : z ≤ 9223372036854775807) (w : World) :
    Calls Try.prog 6 #[e.val, .int .i64 z] w fun r w' => r = .returned (.bool true) ∧ Below w.heap.size w w' := by
  obtain ⟨k, sI, nI, v⟩ := e
  show Calls Try.prog 6 #[.agg #[.string k, .int .u64 sI, .int .i64 nI, .string v], .int .i64 z] w _
  have b2 : ∀ o1 o2, Below w.heap.size w ((w.alloc o1).alloc o2) := fun o1 o2 => bt7 ((Below.refl _ _).alloc (Nat.le_refl _) _) ((Below.refl _ _).alloc (Nat.le_refl _) _)
  have cs := small_any (w := (w.alloc (.cells #[.string k, .int .u64 sI, .int .i64 nI, .string v] 29)).alloc (.cells #[.string k, .int .u64 sI, .int .i64 nI, .string v] 29)) (some ⟨w.heap.size + 1, 0, none⟩) 1 1 [⟨k, sI, nI, v⟩] ⟨rfl, .inr ⟨w.heap.size + 1, 0, rfl, by simp, fun i hi j u hu => by
    obtain rfl : i = 0 := by simp at hi; omega
    match j, hu with
    | 0, hu => exact nce (by simp) hu
    | 1, hu => exact nce (by simp) hu
    | 2, hu => exact nce (by simp) hu
    | 3, hu => exact nce (by simp) hu⟩⟩ (by omega) (fun x hx => by simp at hx; subst hx; exact he)
  have CS := Lib.hid cs
  have B2 := Lib.hid b2
  have HX := Lib.hid (show ∀ o W, Below ((w.alloc (.cells #[.string k, .int .u64 sI, .int .i64 nI, .string v] 29)).alloc o).heap.size ((w.alloc (.cells #[.string k, .int .u64 sI, .int .i64 nI, .string v] 29)).alloc o) W → Boxe w.heap.size k sI nI v W from fun o W h => Boxe.below (Boxe.below (new_block w _ rfl) ((Below.refl _ _).alloc (Nat.le_refl _) _)) h)
  clear b2 cs he
  go_enter Try.func6, Try.ntmps6
  go_wp2_with (fail)
  go_at_call 7
  refine CS.out.mono ?_
  rintro e W1 ⟨t, rfl, -, hb1⟩
  have x1 := HX.out _ _ hb1
  have k1 := bt7 (B2.out _ _) hb1
  have c0 := x1.c0
  cases t
  · go_wp2_with (first | (go_at_call 18; (with_reducible refine (alive7_any _).mono ?_); rintro e W2 ⟨rfl, hb2⟩) | fail)
    go_ret
    exact ⟨rfl, bt7 k1 hb2⟩
  · go_wp2_with fail
    (with_reducible refine (get_nil _ _ _).mono ?_)
    rintro e W2 ⟨rfl, hb2⟩
    have X2 := Lib.hid (x1.below hb2)
    have K2 := Lib.hid (bt7 k1 hb2)
    clear c0 x1 k1 hb1 hb2
    go_upto_region 5 with fail
    obtain ⟨W3, hW3⟩ : ∃ W3, W2.alloc (.cells #[.string ⟨#[]⟩, .int .u64 0, .int .i64 0, .string ⟨#[]⟩] 29) = W3 := ⟨_, rfl⟩
    have hb3 : Below W2.heap.size W2 W3 := by rw [← hW3]; exact (Below.refl _ _).alloc (Nat.le_refl _) _
    have y3 : Boxe W2.heap.size ⟨#[]⟩ 0 0 ⟨#[]⟩ W3 := by rw [← hW3]; exact new_block _ _ rfl
    have x3 := X2.out.below hb3
    have K3 := Lib.hid (bt7 K2.out hb3)
    rw [hW3]
    clear hW3 hb3
    have X3 := Lib.hid x3
    have Y3 := Lib.hid y3
    have c0 := x3.c0
    have c1 := x3.c1
    have c2 := x3.c2
    have c3 := x3.c3
    have c4 := y3.c0
    have c5 := y3.c1
    have c6 := y3.c2
    have c7 := y3.c3
    clear x3 y3
    have hw0 : IntKind.i64.wrap 0 = 0 := rfl
    have CA := Lib.hid (fun W => alive7_any W)
    have CP := Lib.hid (fun W => put_nil k sI nI v z W)
    go_region_held3 (fun w' => w'.cell? ⟨w.heap.size, 0, none⟩ = some (.string k) ∧ w'.cell? ⟨w.heap.size, 1, none⟩ = some (.int .u64 sI) ∧ w'.cell? ⟨w.heap.size, 2, none⟩ = some (.int .i64 nI) ∧ w'.cell? ⟨w.heap.size, 3, none⟩ = some (.string v) ∧ w'.cell? ⟨W2.heap.size, 0, none⟩ = some (.string ⟨#[]⟩) ∧ w'.cell? ⟨W2.heap.size, 1, none⟩ = some (.int .u64 0) ∧ w'.cell? ⟨W2.heap.size, 2, none⟩ = some (.int .i64 0) ∧ w'.cell? ⟨W2.heap.size, 3, none⟩ = some (.string ⟨#[]⟩)) (first | go_keep | exact ⟨d0, d1, d2, d3, d4, d5, d6, d7⟩ | exact ⟨e0, e1, e2, e3, e4, e5, e6, e7⟩) (first
      | (go_at_call 18; (with_reducible refine (CA.out _).mono ?_); rintro e W4 ⟨rfl, hb4⟩; have x4 := X3.out.drew.below hb4; have y4 := Y3.out.drew.below hb4; have d0 := x4.c0; have d1 := x4.c1; have d2 := x4.c2; have d3 := x4.c3; have d4 := y4.c0; have d5 := y4.c1; have d6 := y4.c2; have d7 := y4.c3)
      | (go_at_call 20; (with_reducible refine (CP.out _).mono ?_); rintro e W5 ⟨rfl, hb5⟩; have x5 := x4.below hb5; have y5 := y4.below hb5; have e0 := x5.c0; have e1 := x5.c1; have e2 := x5.c2; have e3 := x5.c3; have e4 := y5.c0; have e5 := y5.c1; have e6 := y5.c2; have e7 := y5.c3)
      | (go_at_call 21; (with_reducible refine (all_nil _).mono ?_); rintro e W6 ⟨rfl, rfl⟩)
      | (go_at_call 22; (with_reducible refine (from_nil _ _).mono ?_); rintro e W6 ⟨rfl, rfl⟩)
      | (go_at_call 23; (with_reducible refine (len_nil _).mono ?_); rintro e W6 ⟨rfl, rfl⟩)
      | (go_at_call 24; (with_reducible refine (height_nil _).mono ?_); rintro e W6 ⟨rfl, rfl⟩)
      | (go_at_call 25; (with_reducible refine (path_nil _ _).mono ?_); rintro e W6 ⟨rfl, rfl⟩)
      | fail)
    all_goals go_wp2
    all_goals go_ret
    all_goals exact ⟨rfl, bt7 (bt7 K3.out.drew hb4) hb5⟩
end Go.Proofs.Ythaalhigmihijaa
