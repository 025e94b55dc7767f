/- Plain facts of slices.pdqsortOrdered: all but the numbers of [x, y) stand in order within [a, b). -/
import Derived.Test.YthaalhigmihijaaPD
namespace Go.Proofs.Ythaalhigmihijaa
open Go.RowKit

/-- Of [a, b) all stands in order, but what lies in [x, y) among itself. -/
def Rdy (e : List Int) (a b x y : Nat) : Prop := ∀ i j, a ≤ i → i < j → j < b → (i < x ∨ y ≤ j) → e.getD i 0 ≤ e.getD j 0
/-- What stands right ahead of [x, y) is at most what stands in it. -/
def Low (e : List Int) (x y : Nat) : Prop := x = 0 ∨ ∀ k, x ≤ k → k < y → e.getD (x - 1) 0 ≤ e.getD k 0
theorem rdy_start (e : List Int) (a b : Nat) : Rdy e a b a b := fun i j h1 h2 h3 h4 => by omega
theorem rdy_keep {e f : List Int} {a b x y : Nat} (h : Rdy e a b x y) (hs : Sw x y e f) (hx : a ≤ x) (hy : y ≤ b) (hb : b ≤ e.length) : Rdy f a b x y := by
  intro i j h1 h2 h3 h4
  have ho := hs.out (Nat.le_trans hy hb)
  rcases h4 with h4 | h4
  · rw [ho i (.inl h4)]
    by_cases hj : x ≤ j ∧ j < y
    · exact hs.all (Nat.le_trans hy hb) (p := fun v => e.getD i 0 ≤ v) (fun k hk1 hk2 => h i k h1 (by omega) (by omega) (.inl h4)) j hj.1 hj.2
    · rw [ho j (by omega)]; exact h i j h1 h2 h3 (.inl h4)
  · rw [ho j (.inr h4)]
    by_cases hi : x ≤ i ∧ i < y
    · exact hs.all (Nat.le_trans hy hb) (p := fun v => v ≤ e.getD j 0) (fun k hk1 hk2 => h k j (by omega) (by omega) h3 (.inr h4)) i hi.1 hi.2
    · rw [ho i (by omega)]; exact h i j h1 h2 h3 (.inr h4)
theorem rdy_done {f : List Int} {a b x y : Nat} (h : Rdy f a b x y) (hs : Srt f x y) : Srt f a b := by
  intro i h1 h2
  by_cases hx : i < x ∨ y ≤ i + 1
  · exact h i (i + 1) h1 (by omega) h2 hx
  · exact hs i (by omega) (by omega)
theorem low_of {d e : List Int} {a b x y : Nat} (h : Rdy e a b x y) (hl : Low d a b) (hs : Sw a b d e) (hb : b ≤ d.length) (hx : a ≤ x) (hy : y ≤ b) : Low e x y := by
  by_cases hxa : x = a
  · subst hxa
    rcases hl with hl | hl
    · exact .inl hl
    · by_cases h0 : x = 0
      · exact .inl h0
      · refine .inr fun k h1 h2 => ?_
        rw [hs.out hb (x - 1) (.inl (by omega))]
        exact hs.all hb (p := fun v => d.getD (x - 1) 0 ≤ v) hl k h1 (by omega)
  · exact .inr fun k h1 h2 => h (x - 1) k (by omega) (by omega) (by omega) (.inl (by omega))
theorem low_keep {e f : List Int} {x y : Nat} (h : Low e x y) (hs : Sw x y e f) (hb : y ≤ e.length) : Low f x y := by
  rcases h with h | h
  · exact .inl h
  · by_cases h0 : x = 0
    · exact .inl h0
    · refine .inr fun k h1 h2 => ?_
      rw [hs.out hb (x - 1) (.inl (by omega))]
      exact hs.all hb (p := fun v => e.getD (x - 1) 0 ≤ v) h k h1 h2
theorem rdy_eq {e f : List Int} {a b x y m : Nat} {P : Int} (h : Rdy e a b x y) (hs : Sw x y e f) (hx : a ≤ x) (hy : y ≤ b) (hb : b ≤ e.length) (hl : Low e x y) (h0 : x ≠ 0) (hp : P ≤ e.getD (x - 1) 0) (h1 : ∀ k, x ≤ k → k < m → f.getD k 0 ≤ P) (h2 : ∀ k, m ≤ k → k < y → P < f.getD k 0) : Rdy f a b m y := by
  intro i j k1 k2 k3 k4
  have hk := rdy_keep h hs hx hy hb
  by_cases hq : i < x ∨ y ≤ j
  · exact hk i j k1 k2 k3 hq
  · have q1 := h1 i (by omega) (by omega)
    by_cases hj : m ≤ j
    · have q2 := h2 j hj (by omega)
      omega
    · have hl2 : ∀ k, x ≤ k → k < y → e.getD (x - 1) 0 ≤ e.getD k 0 := by rcases hl with hl | hl; exact absurd hl h0; exact hl
      have q2 := hs.all (Nat.le_trans hy hb) (p := fun v => e.getD (x - 1) 0 ≤ v) hl2 j (by omega) (by omega)
      omega
theorem rdy_left {e f : List Int} {a b x y m : Nat} (h : Rdy e a b x y) (hx : a ≤ x) (hy : y ≤ b) (hb : b ≤ e.length) (hm : m < y) (h1 : ∀ k, x ≤ k → k < m → e.getD k 0 < e.getD m 0) (h2 : ∀ k, m < k → k < y → e.getD m 0 ≤ e.getD k 0) (hs : Sw x m e f) (hf : Srt f x m) : Rdy f a b (m + 1) y := by
  intro i j k1 k2 k3 k4
  have hk := rdy_keep h (hs.mono (Nat.le_refl _) (Nat.le_of_lt hm)) hx hy hb
  by_cases hq : i < x ∨ y ≤ j
  · exact hk i j k1 k2 k3 hq
  · have ho := hs.out (show m ≤ e.length by omega)
    by_cases hj : j < m
    · exact hf.le (by omega) (by omega) hj
    · rw [ho j (.inr (by omega))]
      by_cases hi : i < m
      · have q := hs.all (show m ≤ e.length by omega) (p := fun v => v < e.getD m 0) h1 i (by omega) hi
        by_cases hjm : j = m
        · subst hjm; omega
        · have := h2 j (by omega) (by omega); omega
      · obtain rfl : i = m := by omega
        rw [ho i (.inr (by omega))]
        exact h2 j (by omega) (by omega)
theorem rdy_right {e f : List Int} {a b x y m : Nat} (h : Rdy e a b x y) (hx : a ≤ x) (hy : y ≤ b) (hb : b ≤ e.length) (hxm : x ≤ m) (h1 : ∀ k, x ≤ k → k < m → e.getD k 0 < e.getD m 0) (h2 : ∀ k, m < k → k < y → e.getD m 0 ≤ e.getD k 0) (hs : Sw (m + 1) y e f) (hf : Srt f (m + 1) y) : Rdy f a b x m := by
  intro i j k1 k2 k3 k4
  have hk := rdy_keep h (hs.mono (by omega) (Nat.le_refl _)) hx hy hb
  by_cases hq : i < x ∨ y ≤ j
  · exact hk i j k1 k2 k3 hq
  · have ho := hs.out (show y ≤ e.length by omega)
    by_cases hi : m + 1 ≤ i
    · exact hf.le hi (by omega) (by omega)
    · rw [ho i (.inl (by omega))]
      by_cases hjm : j = m
      · subst hjm
        rw [ho j (.inl (by omega))]
        exact Int.le_of_lt (h1 i (by omega) (by omega))
      · have q := hs.all (show y ≤ e.length by omega) (p := fun v => e.getD m 0 ≤ v) (fun k hk1 hk2 => h2 k (by omega) hk2) j (by omega) (by omega)
        by_cases him : i = m
        · subst him; exact q
        · have := h1 i (by omega) (by omega); omega
end Go.Proofs.Ythaalhigmihijaa
