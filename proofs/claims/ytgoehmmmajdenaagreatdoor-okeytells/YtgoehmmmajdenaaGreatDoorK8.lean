/- The statements' own first call, alive: it returns true. -/
import Derived.Test.YtgoehmmmajdenaaGreatDoorK7
namespace Go.Proofs.YtgoehmmmajdenaaGreatDoor
open Go.RowKit

/-- A slice of at least one element that a call has made: its block, and its cells. -/
theorem own_open {w : World} {B n : Nat} {e : TypeId} {size : Nat} {v : Value} {xs : List Value} (h : w.ownsRow B e size v n xs) (hn : 0 < n) :
    ∃ g cap, v = .slice (some ⟨g, 0, none⟩) n cap ∧ n ≤ cap ∧ B ≤ g ∧ g < w.heap.size ∧ ∀ j u, xs[j]? = some u → w.cell? ⟨g, j, none⟩ = some u := by
  have hcells := fun g => h.cells (g := g)
  have hlt := h.lt
  rcases h.2 with ⟨rfl, h0⟩ | ⟨g, cap, cur, rfl, hg, _, hcap, _⟩
  · omega
  · refine ⟨g, cap, rfl, hcap, hg, (hlt g rfl).2, fun j u hj => ?_⟩
    have := hcells g rfl j u hj
    have ha : (⟨g, 0, none⟩ : Addr).add j = ⟨g, j, none⟩ := by
      unfold Addr.add
      split
      · rename_i h0; subst h0; rfl
      · simp
    rwa [ha] at this

def aliveBytes : List UInt8 := [97, 0, 255, 98, 0, 1, 0, 0, 0, 0, 0, 0, 0, 7, 122]
theorem alive_get (X : ByteArray) (hX : X = ⟨aliveBytes.toArray⟩) (b : Nat) (w : World) (hm : Max w) (h0 : w.cell? ⟨b, 0, none⟩ = some (.int .i64 1)) (h1 : w.cell? ⟨b, 1, none⟩ = some (.int .i64 2)) :
    Calls Tryz.prog 10 #[.string X, .slice (some ⟨b, 0, none⟩) 2 2] w fun e w' => ∃ g cap, e = .returned (.tuple #[.slice (some ⟨g, 0, none⟩) 2 cap, .string ⟨#[122]⟩, .int .i64 0]) ∧ Below w.heap.size w w' ∧
      g < w'.heap.size ∧ w'.cell? ⟨g, 1, none⟩ = some (.string ⟨#[97, 0, 98]⟩) ∧ w'.cell? ⟨g, 6, none⟩ = some (.int .u64 7) := by
  have hr : IsRowI w (some ⟨b, 0, none⟩) [1, 2] := by
    refine .inr ⟨b, 0, rfl, ?_⟩
    intro i hi
    match i, hi with
    | 0, _ => simpa using h0
    | 1, _ => simpa using h1
  subst hX
  refine (get_any ⟨aliveBytes.toArray⟩ _ 2 [1, 2] w (by decide) hm (by decide) hr).mono ?_
  have e : rdGet (⟨aliveBytes.toArray⟩ : ByteArray).data.toList [1, 2] = ([⟨1, [97, 0, 98], 0, 0⟩, ⟨2, [], 7, 0⟩], [122], 0) := by rfl
  rw [e]
  rintro e w1 ⟨v, rfl, hown, hb⟩
  obtain ⟨g, cap, rfl, _, _, hg, hc⟩ := own_open hown (by decide)
  exact ⟨g, cap, rfl, hb, hg, hc 1 _ rfl, hc 6 _ rfl⟩

theorem be7 : be 7 8 = [0, 0, 0, 0, 0, 0, 0, 7] := by decide
theorem beM : be (turn (-1)) 8 = [127, 255, 255, 255, 255, 255, 255, 255] := by decide
theorem be0 : be (turn 0) 8 = [128, 0, 0, 0, 0, 0, 0, 0] := by decide

set_option maxHeartbeats 2000000 in
set_option maxRecDepth 100000 in
theorem alive_any (w : World) (hm : Max w) :
    Calls Tryz.prog 5 #[] w fun e w' => e = .returned (.bool true) ∧ Below w.heap.size w w' := by
  have hnx : Hid (∀ w', Calls Tryz.prog 15 #[.string ⟨#[97, 255]⟩] w' fun e w1 => e = .returned (.tuple #[.string ⟨#[98]⟩, .bool true]) ∧ Below w'.heap.size w' w1) := fun w' => next_any ⟨#[97, 255]⟩ w' (by decide)
  have hT1 : Hid (∀ w', Max w' → Calls Tryz.prog 17 #[.string ⟨#[97, 0, 98]⟩] w' fun e w1 => e = .returned (.string ⟨#[97, 0, 255, 98, 0, 1]⟩) ∧ Below w'.heap.size w' w1) := fun w' h => text_any ⟨#[97, 0, 98]⟩ w' (by decide) h
  have hT2 : Hid (∀ w', Max w' → Calls Tryz.prog 17 #[.string ⟨#[97]⟩] w' fun e w1 => e = .returned (.string ⟨#[97, 0, 1]⟩) ∧ Below w'.heap.size w' w1) := fun w' h => text_any ⟨#[97]⟩ w' (by decide) h
  have hN : Hid (∀ w', Calls Tryz.prog 19 #[.int .u64 7] w' fun e w1 => e = .returned (.string ⟨#[0, 0, 0, 0, 0, 0, 0, 7]⟩) ∧ Below w'.heap.size w' w1) := fun w' => by
    have := num_any 7 w' (by decide)
    rw [be7] at this
    exact this
  have hI1 : Hid (∀ w', Calls Tryz.prog 21 #[.int .i64 (-1)] w' fun e w1 => e = .returned (.string ⟨#[127, 255, 255, 255, 255, 255, 255, 255]⟩) ∧ Below w'.heap.size w' w1) := fun w' => by
    have := int_any (-1) w' (by decide) (by decide)
    rw [beM] at this
    exact this
  have hI2 : Hid (∀ w', Calls Tryz.prog 21 #[.int .i64 0] w' fun e w1 => e = .returned (.string ⟨#[128, 0, 0, 0, 0, 0, 0, 0]⟩) ∧ Below w'.heap.size w' w1) := fun w' => by
    have := int_any 0 w' (by decide) (by decide)
    rw [be0] at this
    exact this
  have hbel := Below.refl w.heap.size w
  go_enter Tryz.func5, Tryz.ntmps5
  go_wp2_with (first
    | (go_at_call 15; refine (hnx.out _).mono ?_; rintro e w1 ⟨rfl, hb⟩; replace hm := hm.next hb; replace hbel := hbel.trans (hb.mono hbel.size))
    | (go_at_call 17; refine (hT1.out _ hm).mono ?_; rintro e w1 ⟨rfl, hb⟩; replace hm := hm.next hb; replace hbel := hbel.trans (hb.mono hbel.size))
    | (go_at_call 19; refine (hN.out _).mono ?_; rintro e w1 ⟨rfl, hb⟩; replace hm := hm.next hb; replace hbel := hbel.trans (hb.mono hbel.size))
    | (go_at_call 10; refine (alive_get _ (by rfl) _ _ (hm.alloc _) (by simp) (by simp)).mono ?_; rintro e w1 ⟨g, cap, rfl, hb, hg, hg1, hg2⟩; replace hm := (hm.alloc _).next hb; replace hbel := (hbel.alloc hbel.size _).trans (hb.mono (hbel.alloc hbel.size _).size))
    | (go_at_call 17; refine (hT2.out _ hm).mono ?_; rintro e w1 ⟨rfl, hb⟩; rw [← hb.cell hg] at hg1 hg2; replace hg := Nat.lt_of_lt_of_le hg hb.size; replace hm := hm.next hb; replace hbel := hbel.trans (hb.mono hbel.size))
    | (go_at_call 21; (first | refine (hI1.out _).mono ?_ | refine (hI2.out _).mono ?_); rintro e w1 ⟨rfl, hb⟩; rw [← hb.cell hg] at hg1 hg2; replace hg := Nat.lt_of_lt_of_le hg hb.size; replace hbel := hbel.trans (hb.mono hbel.size)))
  go_ret
  exact ⟨rfl, hbel⟩
end Go.Proofs.YtgoehmmmajdenaaGreatDoor
