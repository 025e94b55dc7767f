/- Plain facts of the bytes of texts: a byte 255 behind each byte 0; no condition. -/
import Derived.Lib.ReplaceLaws
import Derived.Lib.CutLaws
import Derived.Lib.IndexBytes
namespace Go.Proofs.YtgoehmmmajdenaaGreatDoor
/-- A text's bytes as chapter 2 lays them, without the end: behind a byte 0 a byte 255. -/
def esc : List UInt8 → List UInt8
  | [] => []
  | c :: r => if c = 0 then 0 :: 255 :: esc r else c :: esc r
def key (s : List UInt8) : List UInt8 := esc s ++ [0, 1]

theorem esc_append (a b : List UInt8) : esc (a ++ b) = esc a ++ esc b := by
  induction a with
  | nil => rfl
  | cons c r ih => by_cases h : c = 0 <;> simp [esc, h, ih]

theorem esc_none (a : List UInt8) (h : (0 : UInt8) ∉ a) : esc a = a := by
  induction a with
  | nil => rfl
  | cons c r ih =>
    have h1 : c ≠ 0 := fun e => h (by simp [e])
    have h2 : (0 : UInt8) ∉ r := fun e => h (by simp [e])
    simp [esc, h1, ih h2]

theorem index0 (s : List UInt8) : ((0 : UInt8) ∉ s ∧ Lib.index s [0] = -1) ∨ ∃ a r, s = a ++ 0 :: r ∧ (0 : UInt8) ∉ a ∧ Lib.index s [0] = (a.length : Int) := by
  induction s with
  | nil => left; exact ⟨by simp, by decide⟩
  | cons c l ih =>
    by_cases hc : c = 0
    · subst hc
      right
      exact ⟨[], l, rfl, by simp, by simp [Lib.index]⟩
    · have hp : (List.isPrefixOf [(0 : UInt8)] (c :: l)) = false := by
        simp [List.isPrefixOf]; exact fun e => hc e.symm
      rcases ih with ⟨h1, h2⟩ | ⟨a, r, h1, h2, h3⟩
      · left
        refine ⟨by simp [h1]; exact fun e => hc e.symm, ?_⟩
        simp [Lib.index, hp, h2]
      · right
        refine ⟨c :: a, r, by simp [h1], by simp [h2]; exact fun e => hc e.symm, ?_⟩
        have h4 : ((a.length : Int) == -1) = false := by simp
        simp only [Lib.index, hp, h3, h4]
        simp

theorem replaceK_esc : ∀ (k : Nat) (s : List UInt8), Lib.countFrom [0] (s.length + 1) s ≤ k → Lib.replaceK [0] [0, 255] k s = esc s := by
  intro k
  induction k with
  | zero =>
    intro s hs
    rcases index0 s with ⟨h1, h2⟩ | ⟨a, r, rfl, h2, h3⟩
    · rw [esc_none s h1]; simp [Lib.replaceK]
    · have h4 : (Lib.index (a ++ 0 :: r) [0] == -1) = false := by rw [h3]; simp
      rw [Lib.countFrom, h4] at hs
      simp at hs
  | succ k ih =>
    intro s hs
    rcases index0 s with ⟨h1, h2⟩ | ⟨a, r, rfl, h2, h3⟩
    · rw [esc_none s h1, Lib.replaceK, h2]; simp
    · have h4 : (Lib.index (a ++ 0 :: r) [0] == -1) = false := by rw [h3]; simp
      have h5 : (a ++ 0 :: r).drop (a.length + 1) = r := by
        rw [← List.drop_drop]; simp
      have h6 : (a ++ 0 :: r).take a.length = a := by simp
      rw [Lib.replaceK_hit _ _ k _ a.length h3]
      rw [Lib.countFrom, h4] at hs
      simp only [h3, Int.toNat_natCast, List.length_singleton, h5, h6, Bool.false_eq_true, if_false] at hs ⊢
      have h7 : Lib.countFrom [0] (r.length + 1) r ≤ k := by
        have hmono : ∀ (f g : Nat) (t : List UInt8), t.length < f → t.length < g → Lib.countFrom [0] f t = Lib.countFrom [0] g t := by
          intro f
          induction f with
          | zero => intro g t h; omega
          | succ f ihf =>
            intro g t hf hg
            obtain ⟨g', rfl⟩ : ∃ g', g = g' + 1 := ⟨g - 1, by omega⟩
            rw [Lib.countFrom, Lib.countFrom]
            by_cases hm : (Lib.index t [0] == -1) = true
            · rw [if_pos hm, if_pos hm]
            · rw [if_neg hm, if_neg hm, ihf g' _ (by simp; rcases t with _ | ⟨x, t⟩; · exact absurd rfl hm
                                                     simp at *; omega) (by simp; rcases t with _ | ⟨x, t⟩; · exact absurd rfl hm
                                                                           simp at *; omega)]
        rw [hmono (r.length + 1) (a ++ 0 :: r).length r (by omega) (by simp; omega)]
        omega
      rw [ih r h7, esc_append]
      simp [esc, esc_none a h2]

theorem replaceAll_esc (s : List UInt8) : Lib.replaceAll s [0] [0, 255] = esc s := by
  unfold Lib.replaceAll Lib.replace Lib.replaceNum
  rw [if_neg (by decide), if_pos (by left; decide)]
  exact replaceK_esc _ _ (Nat.le_refl _)

/-- What Cut at a byte 0 answers. -/
theorem cut0 (s : List UInt8) : ((0 : UInt8) ∉ s ∧ Lib.cut s [0] = (s, [], false)) ∨ ∃ a r, s = a ++ 0 :: r ∧ (0 : UInt8) ∉ a ∧ Lib.cut s [0] = (a, r, true) := by
  rcases index0 s with ⟨h1, h2⟩ | ⟨a, r, rfl, h2, h3⟩
  · left; exact ⟨h1, by unfold Lib.cut; rw [h2]; simp⟩
  · right
    refine ⟨a, r, rfl, h2, ?_⟩
    have h5 : (a ++ 0 :: r).drop (a.length + 1) = r := by
      rw [← List.drop_drop]; simp
    unfold Lib.cut
    rw [if_pos (by rw [h3]; omega), h3]
    simp only [Int.toNat_natCast, List.length_singleton, h5]
    simp
theorem count0_le (s : List UInt8) : Lib.count s [0] ≤ s.length + 1 := by
  have h : ∀ (f : Nat) (t : List UInt8), Lib.countFrom [0] f t ≤ f := by
    intro f
    induction f with
    | zero => intro t; simp [Lib.countFrom]
    | succ f ih => intro t; rw [Lib.countFrom]; split; · omega
                   have := ih (t.drop ((Lib.index t [0]).toNat + [(0 : UInt8)].length)); omega
  exact h _ s
end Go.Proofs.YtgoehmmmajdenaaGreatDoor
