/- The walk of IkeyOrder: versions have one order. -/
import Derived.Test.YtbbfdenpegkpnaaEC
import Derived.Test.YtbbfdenpegkpnaaEF
namespace Go.Proofs.Ytbbfdenpegkpnaa
open Go.RowKit Go.Shelf

/-- Three versions in boxes. -/
def B3 (B : Nat) (ka : ByteArray) (sa na : Int) (va kb : ByteArray) (sb nb : Int) (vb kc : ByteArray) (sc nc : Int) (vc : ByteArray) (W : World) : Prop :=
  W.cell? ⟨B, 0, none⟩ = some (.string ka) ∧ W.cell? ⟨B, 1, none⟩ = some (.int .u64 sa) ∧ W.cell? ⟨B, 2, none⟩ = some (.int .i64 na) ∧ W.cell? ⟨B, 3, none⟩ = some (.string va) ∧ W.cell? ⟨B + 1, 0, none⟩ = some (.string kb) ∧ W.cell? ⟨B + 1, 1, none⟩ = some (.int .u64 sb) ∧ W.cell? ⟨B + 1, 2, none⟩ = some (.int .i64 nb) ∧ W.cell? ⟨B + 1, 3, none⟩ = some (.string vb) ∧ W.cell? ⟨B + 2, 0, none⟩ = some (.string kc) ∧ W.cell? ⟨B + 2, 1, none⟩ = some (.int .u64 sc) ∧ W.cell? ⟨B + 2, 2, none⟩ = some (.int .i64 nc) ∧ W.cell? ⟨B + 2, 3, none⟩ = some (.string vc)
section
variable {B : Nat} {ka : ByteArray} {sa na : Int} {va kb : ByteArray} {sb nb : Int} {vb kc : ByteArray} {sc nc : Int} {vc : ByteArray} {W : World}
theorem B3.below {W' : World} (h : B3 B ka sa na va kb sb nb vb kc sc nc vc W) (hb : Below W.heap.size W W') : B3 B ka sa na va kb sb nb vb kc sc nc vc W' := by
  have key : ∀ (p : Addr) (v : Value), W.cell? p = some v → W'.cell? p = some v := fun p v hv => (hb.cell (World.block_lt_of_cell? W _ hv)).trans hv
  obtain ⟨h0, h1, h2, h3, h4, h5, h6, h7, h8, h9, h10, h11⟩ := h
  exact ⟨key _ _ h0, key _ _ h1, key _ _ h2, key _ _ h3, key _ _ h4, key _ _ h5, key _ _ h6, key _ _ h7, key _ _ h8, key _ _ h9, key _ _ h10, key _ _ h11⟩
end
theorem order_facts (ka : ByteArray) (sa : Int) (kb : ByteArray) (sb : Int) : ((ka.toList == kb.toList) = false ∧ (cmpE ka sa kb sb = -1 ∨ cmpE ka sa kb sb = 1)) ∨ ((ka.toList == kb.toList) = true ∧ ((sa = sb ∧ cmpE ka sa kb sb = 0) ∨ (sb < sa ∧ cmpE ka sa kb sb = -1) ∨ (sa < sb ∧ cmpE ka sa kb sb = 1))) := by
  cases h : (ka.toList == kb.toList) with
  | false =>
    refine .inl ⟨rfl, ?_⟩
    rcases cmpE_vals ka sa kb sb with e | e | e
    · exact .inl e
    · exact absurd ((cmpE_eq _ _ _ _).1 e).1 (str_neq h)
    · exact .inr e
  | true =>
    refine .inr ⟨rfl, ?_⟩
    have e := str_eq h
    subst e
    rw [cmpE_same]
    unfold cmpU
    rcases Int.lt_trichotomy sa sb with h1 | h1 | h1
    · rw [if_neg (by omega), if_pos h1]; exact .inr (.inr ⟨h1, rfl⟩)
    · rw [if_neg (by omega), if_neg (by omega)]; exact .inl ⟨h1, rfl⟩
    · rw [if_pos h1]; exact .inr (.inl ⟨h1, rfl⟩)
set_option maxHeartbeats 4000000 in
set_option maxRecDepth 100000 in
theorem order_hard (ka : ByteArray) (sa na : Int) (va kb : ByteArray) (sb nb : Int) (vb kc : ByteArray) (sc nc : Int) (vc : ByteArray) (w : World) (h1 : ka.size ≤ 300) (h2 : kb.size ≤ 300) (h3 : kc.size ≤ 300) :
    Calls Try.prog 6 #[.agg #[.string ka, .int .u64 sa, .int .i64 na, .string va], .agg #[.string kb, .int .u64 sb, .int .i64 nb, .string vb], .agg #[.string kc, .int .u64 sc, .int .i64 nc, .string vc]] w fun e w' => e = .returned (.bool true) ∧ Below w.heap.size w w' := by
  obtain ⟨W, hW⟩ : ∃ W, ((w.alloc (.cells #[.string ka, .int .u64 sa, .int .i64 na, .string va] 43)).alloc (.cells #[.string kb, .int .u64 sb, .int .i64 nb, .string vb] 43)).alloc (.cells #[.string kc, .int .u64 sc, .int .i64 nc, .string vc] 43) = W := ⟨_, rfl⟩
  have bW : Below w.heap.size w W := by rw [← hW]; exact (((Below.refl _ _).alloc (Nat.le_refl _) _).alloc (by simp) _).alloc (by simp; omega) _
  have A : B3 w.heap.size ka sa na va kb sb nb vb kc sc nc vc W := by
    rw [← hW]
    refine ⟨oce (by simp; omega) (oce (by simp) (nce rfl rfl)), oce (by simp; omega) (oce (by simp) (nce rfl rfl)), oce (by simp; omega) (oce (by simp) (nce rfl rfl)), oce (by simp; omega) (oce (by simp) (nce rfl rfl)), oce (by simp) (nce (by simp) rfl), oce (by simp) (nce (by simp) rfl), oce (by simp) (nce (by simp) rfl), oce (by simp) (nce (by simp) rfl), nce (by simp) rfl, nce (by simp) rfl, nce (by simp) rfl, nce (by simp) rfl⟩
  have A0 := A
  obtain ⟨a0, a1, a2, a3, a4, a5, a6, a7, a8, a9, a10, a11⟩ := A0
  have C1 := Lib.hid (fun W => compare_any ka sa na va kb sb nb vb W)
  have C2 := Lib.hid (fun W => compare_any kb sb nb vb kc sc nc vc W)
  have C3 := Lib.hid (fun W => compare_any ka sa na va kc sc nc vc W)
  have C4 := Lib.hid (fun W => compare_any kb sb nb vb ka sa na va W)
  have C5 := Lib.hid (fun W => compare_any ka sa na va ka sa na va W)
  unfold ev at C1 C2 C3 C4 C5
  rw [cmpE_swap ka sa kb sb] at C4
  rw [cmpE_refl] at C5
  have d1 : decide (300 < (ka.size : Int)) = false := by simp; omega
  have d2 : decide (300 < (kb.size : Int)) = false := by simp; omega
  have d3 : decide (300 < (kc.size : Int)) = false := by simp; omega
  have HOF := Lib.hid (order_facts ka sa kb sb)
  have HTR := Lib.hid (cmpE_trans ka sa kb sb kc sc)
  have HV1 := Lib.hid (cmpE_vals kb sb kc sc)
  have HEQ := Lib.hid (show cmpE ka sa kb sb = 0 → cmpE ka sa kc sc = cmpE kb sb kc sc from fun h => by obtain ⟨rfl, rfl⟩ := (cmpE_eq _ _ _ _).1 h; rfl)
  generalize cmpE ka sa kb sb = X at *
  generalize cmpE kb sb kc sc = Y at *
  generalize cmpE ka sa kc sc = Z at *
  go_enter Try.func6, Try.ntmps6
  go_wp2
  go_region_held3 (fun w' => w'.cell? ⟨w.heap.size, 0, none⟩ = some (.string ka) ∧ w'.cell? ⟨w.heap.size, 1, none⟩ = some (.int .u64 sa) ∧ w'.cell? ⟨w.heap.size, 2, none⟩ = some (.int .i64 na) ∧ w'.cell? ⟨w.heap.size, 3, none⟩ = some (.string va) ∧ w'.cell? ⟨w.heap.size + 1, 0, none⟩ = some (.string kb) ∧ w'.cell? ⟨w.heap.size + 1, 1, none⟩ = some (.int .u64 sb) ∧ w'.cell? ⟨w.heap.size + 1, 2, none⟩ = some (.int .i64 nb) ∧ w'.cell? ⟨w.heap.size + 1, 3, none⟩ = some (.string vb) ∧ w'.cell? ⟨w.heap.size + 2, 0, none⟩ = some (.string kc) ∧ w'.cell? ⟨w.heap.size + 2, 1, none⟩ = some (.int .u64 sc) ∧ w'.cell? ⟨w.heap.size + 2, 2, none⟩ = some (.int .i64 nc) ∧ w'.cell? ⟨w.heap.size + 2, 3, none⟩ = some (.string vc)) (first | go_keep | exact A | exact B | exact C | exact D) (first
    | (go_at_call 27; (with_reducible refine (C1.out _).mono ?_); rintro e W1 ⟨rfl, hb1⟩; have B : B3 w.heap.size ka sa na va kb sb nb vb kc sc nc vc W1 := B3.below (W := W.drew) A hb1; have B0 := B; obtain ⟨b0, b1, b2, b3, b4, b5, b6, b7, b8, b9, b10, b11⟩ := B0)
    | (go_at_call 27; (with_reducible refine (C2.out _).mono ?_); rintro e W2 ⟨rfl, hb2⟩; have C : B3 w.heap.size ka sa na va kb sb nb vb kc sc nc vc W2 := B3.below B hb2; have C0 := C; obtain ⟨c0, c1, c2, c3, c4, c5, c6, c7, c8, c9, c10, c11⟩ := C0)
    | (go_at_call 27; (with_reducible refine (C3.out _).mono ?_); rintro e W3 ⟨rfl, hb3⟩; have D : B3 w.heap.size ka sa na va kb sb nb vb kc sc nc vc W3 := B3.below C hb3; have D0 := D; obtain ⟨d0, d1, d2, d3, d4, d5, d6, d7, d8, d9, d10, d11⟩ := D0)
    | fail)
  have k1 : Below w.heap.size w W1 := bW.drew.trans (hb1.mono bW.size)
  have k2 : Below w.heap.size w W2 := k1.trans (hb2.mono k1.size)
  have k3 : Below w.heap.size w W3 := k2.trans (hb3.mono k2.size)
  have HK := Lib.hid (show ∀ W4 W5 W6, Below W3.heap.size W3 W4 → Below W4.heap.size W4 W5 → Below W5.heap.size W5 W6 → Below w.heap.size w W6 from fun W4 W5 W6 g4 g5 g6 => by
    have l4 := k3.trans (g4.mono k3.size)
    have l5 := l4.trans (g5.mono l4.size)
    exact l5.trans (g6.mono l5.size))
  rcases HOF.out with ⟨hk, rfl | rfl⟩ | ⟨hk, ⟨hs, rfl⟩ | ⟨hs, rfl⟩ | ⟨hs, rfl⟩⟩
  · rcases HV1.out with rfl | rfl | rfl
    · obtain rfl : Z = -1 := HTR.out rfl rfl
      go_wp2_with (first
        | (go_at_call 27; (with_reducible refine (C4.out _).mono ?_); rintro e W4 ⟨rfl, hb4⟩; have E : B3 w.heap.size ka sa na va kb sb nb vb kc sc nc vc W4 := B3.below D hb4; have E0 := E; obtain ⟨e0, e1, e2, e3, e4, e5, e6, e7, e8, e9, e10, e11⟩ := E0)
        | (go_at_call 27; (with_reducible refine (C5.out _).mono ?_); rintro e W5 ⟨rfl, hb5⟩; have F : B3 w.heap.size ka sa na va kb sb nb vb kc sc nc vc W5 := B3.below E hb5; have F0 := F; obtain ⟨f0, f1, f2, f3, f4, f5, f6, f7, f8, f9, f10, f11⟩ := F0)
        | (go_at_call 19; (with_reducible refine (alive5_any _).mono ?_); rintro e W6 ⟨rfl, hb6⟩; have G : B3 w.heap.size ka sa na va kb sb nb vb kc sc nc vc W6 := B3.below F hb6; have G0 := G; obtain ⟨g0, g1, g2, g3, g4, g5, g6, g7, g8, g9, g10, g11⟩ := G0)
        | fail)
      go_ret
      exact ⟨rfl, HK.out _ _ _ hb4 hb5 hb6⟩
    · go_wp2_with (first
        | (go_at_call 27; (with_reducible refine (C4.out _).mono ?_); rintro e W4 ⟨rfl, hb4⟩; have E : B3 w.heap.size ka sa na va kb sb nb vb kc sc nc vc W4 := B3.below D hb4; have E0 := E; obtain ⟨e0, e1, e2, e3, e4, e5, e6, e7, e8, e9, e10, e11⟩ := E0)
        | (go_at_call 27; (with_reducible refine (C5.out _).mono ?_); rintro e W5 ⟨rfl, hb5⟩; have F : B3 w.heap.size ka sa na va kb sb nb vb kc sc nc vc W5 := B3.below E hb5; have F0 := F; obtain ⟨f0, f1, f2, f3, f4, f5, f6, f7, f8, f9, f10, f11⟩ := F0)
        | (go_at_call 19; (with_reducible refine (alive5_any _).mono ?_); rintro e W6 ⟨rfl, hb6⟩; have G : B3 w.heap.size ka sa na va kb sb nb vb kc sc nc vc W6 := B3.below F hb6; have G0 := G; obtain ⟨g0, g1, g2, g3, g4, g5, g6, g7, g8, g9, g10, g11⟩ := G0)
        | fail)
      go_ret
      exact ⟨rfl, HK.out _ _ _ hb4 hb5 hb6⟩
    · go_wp2_with (first
        | (go_at_call 27; (with_reducible refine (C4.out _).mono ?_); rintro e W4 ⟨rfl, hb4⟩; have E : B3 w.heap.size ka sa na va kb sb nb vb kc sc nc vc W4 := B3.below D hb4; have E0 := E; obtain ⟨e0, e1, e2, e3, e4, e5, e6, e7, e8, e9, e10, e11⟩ := E0)
        | (go_at_call 27; (with_reducible refine (C5.out _).mono ?_); rintro e W5 ⟨rfl, hb5⟩; have F : B3 w.heap.size ka sa na va kb sb nb vb kc sc nc vc W5 := B3.below E hb5; have F0 := F; obtain ⟨f0, f1, f2, f3, f4, f5, f6, f7, f8, f9, f10, f11⟩ := F0)
        | (go_at_call 19; (with_reducible refine (alive5_any _).mono ?_); rintro e W6 ⟨rfl, hb6⟩; have G : B3 w.heap.size ka sa na va kb sb nb vb kc sc nc vc W6 := B3.below F hb6; have G0 := G; obtain ⟨g0, g1, g2, g3, g4, g5, g6, g7, g8, g9, g10, g11⟩ := G0)
        | fail)
      go_ret
      exact ⟨rfl, HK.out _ _ _ hb4 hb5 hb6⟩
  · go_wp2_with (first
      | (go_at_call 27; (with_reducible refine (C4.out _).mono ?_); rintro e W4 ⟨rfl, hb4⟩; have E : B3 w.heap.size ka sa na va kb sb nb vb kc sc nc vc W4 := B3.below D hb4; have E0 := E; obtain ⟨e0, e1, e2, e3, e4, e5, e6, e7, e8, e9, e10, e11⟩ := E0)
      | (go_at_call 27; (with_reducible refine (C5.out _).mono ?_); rintro e W5 ⟨rfl, hb5⟩; have F : B3 w.heap.size ka sa na va kb sb nb vb kc sc nc vc W5 := B3.below E hb5; have F0 := F; obtain ⟨f0, f1, f2, f3, f4, f5, f6, f7, f8, f9, f10, f11⟩ := F0)
      | (go_at_call 19; (with_reducible refine (alive5_any _).mono ?_); rintro e W6 ⟨rfl, hb6⟩; have G : B3 w.heap.size ka sa na va kb sb nb vb kc sc nc vc W6 := B3.below F hb6; have G0 := G; obtain ⟨g0, g1, g2, g3, g4, g5, g6, g7, g8, g9, g10, g11⟩ := G0)
      | fail)
    go_ret
    exact ⟨rfl, HK.out _ _ _ hb4 hb5 hb6⟩
  · obtain rfl : Z = Y := HEQ.out rfl
    have hse : (sa == sb) = true := by simpa using hs
    have hsd : decide (sb < sa) = false := by simp; omega
    clear hs
    go_wp2_with (first
      | (go_at_call 27; (with_reducible refine (C4.out _).mono ?_); rintro e W4 ⟨rfl, hb4⟩; have E : B3 w.heap.size ka sa na va kb sb nb vb kc sc nc vc W4 := B3.below D hb4; have E0 := E; obtain ⟨e0, e1, e2, e3, e4, e5, e6, e7, e8, e9, e10, e11⟩ := E0)
      | (go_at_call 27; (with_reducible refine (C5.out _).mono ?_); rintro e W5 ⟨rfl, hb5⟩; have F : B3 w.heap.size ka sa na va kb sb nb vb kc sc nc vc W5 := B3.below E hb5; have F0 := F; obtain ⟨f0, f1, f2, f3, f4, f5, f6, f7, f8, f9, f10, f11⟩ := F0)
      | (go_at_call 19; (with_reducible refine (alive5_any _).mono ?_); rintro e W6 ⟨rfl, hb6⟩; have G : B3 w.heap.size ka sa na va kb sb nb vb kc sc nc vc W6 := B3.below F hb6; have G0 := G; obtain ⟨g0, g1, g2, g3, g4, g5, g6, g7, g8, g9, g10, g11⟩ := G0)
      | fail)
    go_ret
    exact ⟨rfl, HK.out _ _ _ hb4 hb5 hb6⟩
  · have hse : (sa == sb) = false := by simp; omega
    have hsd : decide (sb < sa) = true := by simp; omega
    rcases HV1.out with rfl | rfl | rfl
    · obtain rfl : Z = -1 := HTR.out rfl rfl
      go_wp2_with (first
        | (go_at_call 27; (with_reducible refine (C4.out _).mono ?_); rintro e W4 ⟨rfl, hb4⟩; have E : B3 w.heap.size ka sa na va kb sb nb vb kc sc nc vc W4 := B3.below D hb4; have E0 := E; obtain ⟨e0, e1, e2, e3, e4, e5, e6, e7, e8, e9, e10, e11⟩ := E0)
        | (go_at_call 27; (with_reducible refine (C5.out _).mono ?_); rintro e W5 ⟨rfl, hb5⟩; have F : B3 w.heap.size ka sa na va kb sb nb vb kc sc nc vc W5 := B3.below E hb5; have F0 := F; obtain ⟨f0, f1, f2, f3, f4, f5, f6, f7, f8, f9, f10, f11⟩ := F0)
        | (go_at_call 19; (with_reducible refine (alive5_any _).mono ?_); rintro e W6 ⟨rfl, hb6⟩; have G : B3 w.heap.size ka sa na va kb sb nb vb kc sc nc vc W6 := B3.below F hb6; have G0 := G; obtain ⟨g0, g1, g2, g3, g4, g5, g6, g7, g8, g9, g10, g11⟩ := G0)
        | fail)
      go_ret
      exact ⟨rfl, HK.out _ _ _ hb4 hb5 hb6⟩
    · go_wp2_with (first
        | (go_at_call 27; (with_reducible refine (C4.out _).mono ?_); rintro e W4 ⟨rfl, hb4⟩; have E : B3 w.heap.size ka sa na va kb sb nb vb kc sc nc vc W4 := B3.below D hb4; have E0 := E; obtain ⟨e0, e1, e2, e3, e4, e5, e6, e7, e8, e9, e10, e11⟩ := E0)
        | (go_at_call 27; (with_reducible refine (C5.out _).mono ?_); rintro e W5 ⟨rfl, hb5⟩; have F : B3 w.heap.size ka sa na va kb sb nb vb kc sc nc vc W5 := B3.below E hb5; have F0 := F; obtain ⟨f0, f1, f2, f3, f4, f5, f6, f7, f8, f9, f10, f11⟩ := F0)
        | (go_at_call 19; (with_reducible refine (alive5_any _).mono ?_); rintro e W6 ⟨rfl, hb6⟩; have G : B3 w.heap.size ka sa na va kb sb nb vb kc sc nc vc W6 := B3.below F hb6; have G0 := G; obtain ⟨g0, g1, g2, g3, g4, g5, g6, g7, g8, g9, g10, g11⟩ := G0)
        | fail)
      go_ret
      exact ⟨rfl, HK.out _ _ _ hb4 hb5 hb6⟩
    · go_wp2_with (first
        | (go_at_call 27; (with_reducible refine (C4.out _).mono ?_); rintro e W4 ⟨rfl, hb4⟩; have E : B3 w.heap.size ka sa na va kb sb nb vb kc sc nc vc W4 := B3.below D hb4; have E0 := E; obtain ⟨e0, e1, e2, e3, e4, e5, e6, e7, e8, e9, e10, e11⟩ := E0)
        | (go_at_call 27; (with_reducible refine (C5.out _).mono ?_); rintro e W5 ⟨rfl, hb5⟩; have F : B3 w.heap.size ka sa na va kb sb nb vb kc sc nc vc W5 := B3.below E hb5; have F0 := F; obtain ⟨f0, f1, f2, f3, f4, f5, f6, f7, f8, f9, f10, f11⟩ := F0)
        | (go_at_call 19; (with_reducible refine (alive5_any _).mono ?_); rintro e W6 ⟨rfl, hb6⟩; have G : B3 w.heap.size ka sa na va kb sb nb vb kc sc nc vc W6 := B3.below F hb6; have G0 := G; obtain ⟨g0, g1, g2, g3, g4, g5, g6, g7, g8, g9, g10, g11⟩ := G0)
        | fail)
      go_ret
      exact ⟨rfl, HK.out _ _ _ hb4 hb5 hb6⟩
  · have hse : (sa == sb) = false := by simp; omega
    have hsd : decide (sb < sa) = false := by simp; omega
    go_wp2_with (first
      | (go_at_call 27; (with_reducible refine (C4.out _).mono ?_); rintro e W4 ⟨rfl, hb4⟩; have E : B3 w.heap.size ka sa na va kb sb nb vb kc sc nc vc W4 := B3.below D hb4; have E0 := E; obtain ⟨e0, e1, e2, e3, e4, e5, e6, e7, e8, e9, e10, e11⟩ := E0)
      | (go_at_call 27; (with_reducible refine (C5.out _).mono ?_); rintro e W5 ⟨rfl, hb5⟩; have F : B3 w.heap.size ka sa na va kb sb nb vb kc sc nc vc W5 := B3.below E hb5; have F0 := F; obtain ⟨f0, f1, f2, f3, f4, f5, f6, f7, f8, f9, f10, f11⟩ := F0)
      | (go_at_call 19; (with_reducible refine (alive5_any _).mono ?_); rintro e W6 ⟨rfl, hb6⟩; have G : B3 w.heap.size ka sa na va kb sb nb vb kc sc nc vc W6 := B3.below F hb6; have G0 := G; obtain ⟨g0, g1, g2, g3, g4, g5, g6, g7, g8, g9, g10, g11⟩ := G0)
      | fail)
    go_ret
    exact ⟨rfl, HK.out _ _ _ hb4 hb5 hb6⟩
set_option maxHeartbeats 2000000 in
theorem order_all (ka : ByteArray) (_ : ka.size ≤ maxLen) (sa na : Int) (va kb : ByteArray) (_ : kb.size ≤ maxLen) (sb nb : Int) (vb kc : ByteArray) (_ : kc.size ≤ maxLen) (sc nc : Int) (vc : ByteArray) (w : World) :
    Calls Try.prog 6 #[.agg #[.string ka, .int .u64 sa, .int .i64 na, .string va], .agg #[.string kb, .int .u64 sb, .int .i64 nb, .string vb], .agg #[.string kc, .int .u64 sc, .int .i64 nc, .string vc]] w fun e w' => e = .returned (.bool true) ∧ Below w.heap.size w w' := by
  rename_i m1 m2 m3
  unfold maxLen at m1 m2 m3
  have bW : ∀ o1 o2 o3, Below w.heap.size w (((w.alloc o1).alloc o2).alloc o3) := fun _ _ _ => (((Below.refl _ _).alloc (Nat.le_refl _) _).alloc (by simp) _).alloc (by simp; omega) _
  have HB := Lib.hid bW
  clear bW
  by_cases h1 : 300 < ka.size
  · have d1 : decide (300 < (ka.size : Int)) = true := by simp; omega
    go_enter Try.func6, Try.ntmps6
    go_wp2_with (go_at_call 19; refine (alive5_any _).mono ?_; rintro e w1 ⟨rfl, hb1⟩)
    go_ret
    exact ⟨rfl, (HB.out _ _ _).trans (hb1.mono (HB.out _ _ _).size)⟩
  have d1 : decide (300 < (ka.size : Int)) = false := by simp; omega
  by_cases h2 : 300 < kb.size
  · have d2 : decide (300 < (kb.size : Int)) = true := by simp; omega
    go_enter Try.func6, Try.ntmps6
    go_wp2_with (go_at_call 19; refine (alive5_any _).mono ?_; rintro e w1 ⟨rfl, hb1⟩)
    go_ret
    exact ⟨rfl, (HB.out _ _ _).trans (hb1.mono (HB.out _ _ _).size)⟩
  have d2 : decide (300 < (kb.size : Int)) = false := by simp; omega
  by_cases h3 : 300 < kc.size
  · have d3 : decide (300 < (kc.size : Int)) = true := by simp; omega
    go_enter Try.func6, Try.ntmps6
    go_wp2_with (go_at_call 19; refine (alive5_any _).mono ?_; rintro e w1 ⟨rfl, hb1⟩)
    go_ret
    exact ⟨rfl, (HB.out _ _ _).trans (hb1.mono (HB.out _ _ _).size)⟩
  exact order_hard ka sa na va kb sb nb vb kc sc nc vc w (by omega) (by omega) (by omega)
theorem ikeyOrder_walk (a : Ent) (ha : a.Ok) (b : Ent) (hb : b.Ok) (c : Ent) (hc : c.Ok) (w : World) :
    Calls Try.prog 6 #[a.val, b.val, c.val] w fun e w' => e = .returned (.bool true) ∧ Below w.heap.size w w' :=
  order_all a.k ha.1 a.s a.n a.v b.k hb.1 b.s b.n b.v c.k hc.1 c.s c.n c.v w
end Go.Proofs.Ytbbfdenpegkpnaa
