/- The statements' first call. -/
import Derived.Test.YthaalhigmihijaaEB
namespace Go.Proofs.Ythaalhigmihijaa
open Go.RowKit Go.Shelf

def esA : List Ent := [⟨⟨#[97]⟩, 5, 1, ⟨#[]⟩⟩, ⟨⟨#[97]⟩, 3, 1, ⟨#[]⟩⟩, ⟨⟨#[97]⟩, 1, 1, ⟨#[]⟩⟩]
theorem shadA : shad esA [4] 3 = [⟨⟨#[97]⟩, 5, 1, ⟨#[]⟩⟩, ⟨⟨#[97]⟩, 3, 1, ⟨#[]⟩⟩] := by rfl
theorem bestA : best esA ⟨#[97]⟩ 4 3 = 1 := by rfl
theorem cmpA : cmpE ⟨#[97]⟩ 5 ⟨#[97]⟩ 3 = -1 := by rfl
theorem validA : validB ⟨#[97]⟩ 1 ⟨#[]⟩ = true := by decide
theorem validA0 : validB ⟨#[97]⟩ 0 ⟨#[]⟩ = false := by decide
theorem smallA : ∀ x ∈ esA, x.Small := by
  intro x hx
  simp only [esA, List.mem_cons, List.not_mem_nil, or_false] at hx
  rcases hx with rfl | rfl | rfl <;> exact ⟨by decide, by decide⟩
theorem entsA (w : World) (o : Obj) : EntsAt ((w.alloc (.cells #[.string ⟨#[97]⟩, .int .u64 5, .int .i64 1, .string ⟨#[]⟩, .string ⟨#[97]⟩, .int .u64 3, .int .i64 1, .string ⟨#[]⟩, .string ⟨#[97]⟩, .int .u64 1, .int .i64 1, .string ⟨#[]⟩] 29)).alloc o).heap.size ((w.alloc (.cells #[.string ⟨#[97]⟩, .int .u64 5, .int .i64 1, .string ⟨#[]⟩, .string ⟨#[97]⟩, .int .u64 3, .int .i64 1, .string ⟨#[]⟩, .string ⟨#[97]⟩, .int .u64 1, .int .i64 1, .string ⟨#[]⟩] 29)).alloc o) (some ⟨w.heap.size, 0, none⟩) 3 esA := by
  refine ⟨rfl, .inr ⟨w.heap.size, 0, rfl, by simp; omega, fun i hi j u hu => ?_⟩⟩
  refine oce (by simp) (nce rfl ?_)
  match i, hi, j, hu with
  | 0, _, 0, hu => exact hu
  | 0, _, 1, hu => exact hu
  | 0, _, 2, hu => exact hu
  | 0, _, 3, hu => exact hu
  | 1, _, 0, hu => exact hu
  | 1, _, 1, hu => exact hu
  | 1, _, 2, hu => exact hu
  | 1, _, 3, hu => exact hu
  | 2, _, 0, hu => exact hu
  | 2, _, 1, hu => exact hu
  | 2, _, 2, hu => exact hu
  | 2, _, 3, hu => exact hu
theorem numsA (w : World) : NumsAt (w.alloc (.cells #[.int .u64 4] 24)).heap.size (w.alloc (.cells #[.int .u64 4] 24)) (some ⟨w.heap.size, 0, none⟩) 1 [4] := by
  refine ⟨rfl, .inr ⟨w.heap.size, 0, rfl, by simp, fun j hj => ?_⟩⟩
  obtain rfl : j = 0 := by simp at hj; omega
  exact nce rfl rfl
/-- What stays while the last row of the first call is reckoned. -/
def AH (b g e : Nat) (W : World) : Prop :=
  W.cell? ⟨b, 0, none⟩ = some (.string ⟨#[97]⟩) ∧ W.cell? ⟨b, 1, none⟩ = some (.int .u64 5) ∧ W.cell? ⟨b, 2, none⟩ = some (.int .i64 1) ∧ W.cell? ⟨b, 3, none⟩ = some (.string ⟨#[]⟩) ∧ W.cell? ⟨b, 4, none⟩ = some (.string ⟨#[97]⟩) ∧ W.cell? ⟨b, 5, none⟩ = some (.int .u64 3) ∧ W.cell? ⟨b, 6, none⟩ = some (.int .i64 1) ∧ W.cell? ⟨b, 7, none⟩ = some (.string ⟨#[]⟩) ∧ W.cell? ⟨g, 5, none⟩ = some (.int .u64 3) ∧ W.cell? ⟨e, 1, none⟩ = some (.int .u64 3)
theorem AH.below {b g e : Nat} {W W' : World} (h : AH b g e W) (hb : Below W.heap.size W W') : AH b g e W' := by
  have key : ∀ (p : Addr) (v : Value), W.cell? p = some v → W'.cell? p = some v := fun p v hv => (hb.cell (World.block_lt_of_cell? W _ hv)).trans hv
  obtain ⟨h0, h1, h2, h3, h4, h5, h6, h7, h8, h9⟩ := h
  exact ⟨key _ _ h0, key _ _ h1, key _ _ h2, key _ _ h3, key _ _ h4, key _ _ h5, key _ _ h6, key _ _ h7, key _ _ h8, key _ _ h9⟩
set_option maxHeartbeats 4000000 in
set_option maxRecDepth 100000 in
theorem alive5_any (w : World) : Calls Try.prog 9 #[] w fun e w' => e = .returned (.bool true) ∧ Below w.heap.size w w' := by
  obtain ⟨W2, hW2⟩ : ∃ W2, (w.alloc (.cells #[.string ⟨#[97]⟩, .int .u64 5, .int .i64 1, .string ⟨#[]⟩, .string ⟨#[97]⟩, .int .u64 3, .int .i64 1, .string ⟨#[]⟩, .string ⟨#[97]⟩, .int .u64 1, .int .i64 1, .string ⟨#[]⟩] 29)).alloc (.cells #[.int .u64 4] 24) = W2 := ⟨_, rfl⟩
  have eW : EntsAt W2.heap.size W2 (some ⟨w.heap.size, 0, none⟩) 3 esA := by rw [← hW2]; exact entsA w _
  have nW : NumsAt W2.heap.size W2 (some ⟨w.heap.size + 1, 0, none⟩) 1 [4] := by
    have := numsA (w.alloc (.cells #[.string ⟨#[97]⟩, .int .u64 5, .int .i64 1, .string ⟨#[]⟩, .string ⟨#[97]⟩, .int .u64 3, .int .i64 1, .string ⟨#[]⟩, .string ⟨#[97]⟩, .int .u64 1, .int .i64 1, .string ⟨#[]⟩] 29))
    rw [hW2, show (w.alloc (.cells #[.string ⟨#[97]⟩, .int .u64 5, .int .i64 1, .string ⟨#[]⟩, .string ⟨#[97]⟩, .int .u64 3, .int .i64 1, .string ⟨#[]⟩, .string ⟨#[97]⟩, .int .u64 1, .int .i64 1, .string ⟨#[]⟩] 29)).heap.size = w.heap.size + 1 by simp] at this
    exact this
  have b2 : Below w.heap.size w W2 := by rw [← hW2]; exact ((Below.refl _ _).alloc (Nat.le_refl _) _).alloc (by simp) _
  have c0 := shadow_any 1 sortsU_one (some ⟨w.heap.size, 0, none⟩) 3 3 esA (some ⟨w.heap.size + 1, 0, none⟩) 1 1 [4] W2 eW nW (by omega) (by omega) (by omega) smallA
  rw [shadA] at c0
  have C0 := Lib.hid c0
  have C1 := Lib.hid (fun W (h : Below W2.heap.size W2 W) => by
    have := pick_any (some ⟨w.heap.size, 0, none⟩) 3 3 esA ⟨#[97]⟩ 4 W (((eW.below h).mono h.size)) (by omega) smallA
    rw [bestA] at this
    exact this)
  have C2 := Lib.hid (fun W => by
    have := compare_any ⟨#[97]⟩ 5 1 ⟨#[]⟩ ⟨#[97]⟩ 3 1 ⟨#[]⟩ W
    rw [cmpA] at this
    unfold ev at this
    exact this)
  have C3 := Lib.hid (fun W => by
    have := valid_any ⟨#[97]⟩ 5 1 ⟨#[]⟩ W (by decide) (by decide)
    rw [validA] at this
    unfold ev at this
    exact this)
  have C4 := Lib.hid (fun W => by
    have := valid_any ⟨#[97]⟩ 0 0 ⟨#[]⟩ W (by decide) (by decide)
    rw [validA0] at this
    unfold ev at this
    exact this)
  have HEW := Lib.hid (fun W (h : Below W2.heap.size W2 W) => eW.below h)
  clear c0 eW nW
  go_enter Try.func9, Try.ntmps9
  go_wp2_with (first
    | (go_at_call 10; (with_reducible refine C0.out.mono ?_); rintro e W3 ⟨v, rfl, r3, o3, b3⟩; obtain ⟨av, cv, rfl, -, -⟩ := r3.le)
    | (go_at_call 11; (with_reducible refine (C1.out _ b3).mono ?_); rintro e W4 ⟨rfl, b4⟩; rw [show pickV esA 1 = .agg #[.string ⟨#[97]⟩, .int .u64 3, .int .i64 1, .string ⟨#[]⟩] from rfl, show decide ((0 : Int) ≤ 1) = true from rfl])
    | fail)
  clear hW2
  obtain ⟨g, rfl⟩ : ∃ g, av = some ⟨g, 0, none⟩ := by
    rcases r3.2 with ⟨h0, -⟩ | ⟨g, cap, cur, hv, -⟩
    · cases h0
    · cases hv
      exact ⟨g, rfl⟩
  have m5 : W3.cell? ⟨g, 5, none⟩ = some (.int .u64 3) := r3.cell g 0 _ rfl 5 _ rfl
  have b24 : Below W2.heap.size W2 W4 := b3.trans (b4.mono b3.size)
  have b04 : Below w.heap.size w W4 := b2.trans (b24.mono b2.size)
  have b45 : Below W4.heap.size W4 (W4.alloc (.cells #[.string ⟨#[97]⟩, .int .u64 3, .int .i64 1, .string ⟨#[]⟩] 29)) := (Below.refl _ _).alloc (Nat.le_refl _) _
  have m9 : (W4.alloc (.cells #[.string ⟨#[97]⟩, .int .u64 3, .int .i64 1, .string ⟨#[]⟩] 29)).cell? ⟨W4.heap.size, 1, none⟩ = some (.int .u64 3) := nce rfl rfl
  obtain ⟨W5, hW5⟩ : ∃ W5, W4.alloc (.cells #[.string ⟨#[97]⟩, .int .u64 3, .int .i64 1, .string ⟨#[]⟩] 29) = W5 := ⟨_, rfl⟩
  rw [hW5] at b45 m9 ⊢
  clear hW5
  have A : AH w.heap.size g W4.heap.size W5 := by
    have b25 : Below W2.heap.size W2 W5 := b24.trans (b45.mono b24.size)
    rcases (HEW.out W5 b25).2 with h0 | ⟨b, off, e, -, hc⟩
    · cases h0
    · cases e
      have k8 : W4.cell? ⟨g, 5, none⟩ = some (.int .u64 3) := (b4.cell (World.block_lt_of_cell? W3 _ m5)).trans m5
      have k9 : W5.cell? ⟨g, 5, none⟩ = some (.int .u64 3) := (b45.cell (World.block_lt_of_cell? W4 _ k8)).trans k8
      exact ⟨hc 0 (by decide) 0 _ rfl, hc 0 (by decide) 1 _ rfl, hc 0 (by decide) 2 _ rfl, hc 0 (by decide) 3 _ rfl, hc 1 (by decide) 0 _ rfl, hc 1 (by decide) 1 _ rfl, hc 1 (by decide) 2 _ rfl, hc 1 (by decide) 3 _ rfl, k9, m9⟩
  have b05 : Below w.heap.size w W5 := b04.trans (b45.mono b04.size)
  clear m5 m9 r3 b45
  have A0 := A
  obtain ⟨a0, a1, a2, a3, a4, a5, a6, a7, a8, a9⟩ := A0
  go_region_held3 (fun w' => w'.cell? ⟨w.heap.size, 0, none⟩ = some (.string ⟨#[97]⟩) ∧ w'.cell? ⟨w.heap.size, 1, none⟩ = some (.int .u64 5) ∧ w'.cell? ⟨w.heap.size, 2, none⟩ = some (.int .i64 1) ∧ w'.cell? ⟨w.heap.size, 3, none⟩ = some (.string ⟨#[]⟩) ∧ w'.cell? ⟨w.heap.size, 4, none⟩ = some (.string ⟨#[97]⟩) ∧ w'.cell? ⟨w.heap.size, 5, none⟩ = some (.int .u64 3) ∧ w'.cell? ⟨w.heap.size, 6, none⟩ = some (.int .i64 1) ∧ w'.cell? ⟨w.heap.size, 7, none⟩ = some (.string ⟨#[]⟩) ∧ w'.cell? ⟨g, 5, none⟩ = some (.int .u64 3) ∧ w'.cell? ⟨W4.heap.size, 1, none⟩ = some (.int .u64 3)) (first | go_keep | exact A | exact B | exact C | exact D) (first
    | (go_at_call 17; (with_reducible refine (C2.out _).mono ?_); rintro e W6 ⟨rfl, hb6⟩; have B : AH w.heap.size g W4.heap.size W6 := AH.below (W := W5.drew) A hb6; have B0 := B; obtain ⟨b0, b1, b2, b3, b4, b5, b6, b7, b8, b9⟩ := B0)
    | (go_at_call 13; (with_reducible refine (C3.out _).mono ?_); rintro e W7 ⟨rfl, hb7⟩; have C : AH w.heap.size g W4.heap.size W7 := AH.below B hb7; have C0 := C; obtain ⟨c0, c1, c2, c3, c4, c5, c6, c7, c8, c9⟩ := C0)
    | (go_at_call 13; (with_reducible refine (C4.out _).mono ?_); rintro e W8 ⟨rfl, hb8⟩; have D : AH w.heap.size g W4.heap.size W8 := AH.below C hb8; have D0 := D; obtain ⟨d0, d1, d2, d3, d4, d5, d6, d7, d8, d9⟩ := D0)
    | fail)
  all_goals go_wp2
  all_goals go_ret
  all_goals
    have k6 : Below w.heap.size w W6 := b05.drew.trans (hb6.mono b05.size)
    have k7 : Below w.heap.size w W7 := k6.trans (hb7.mono k6.size)
    have k8 : Below w.heap.size w W8 := k7.trans (hb8.mono k7.size)
    exact ⟨rfl, k8⟩
end Go.Proofs.Ythaalhigmihijaa
