/- The statements' Book, lists of kind Ints: one more list is kept, and a copy of it. -/
import Derived.Test.YthaalhigmihijabGreatAmInts
import Derived.BigRegion
import Derived.Deep.RegionLaw
namespace Go.Proofs.YthaalhigmihijabGreat
open Go.RowKit

theorem bookAddInts {B : Nat} {w : World} {old rest : List Rw} {r1 r2 r3 r4 : Rw} {U : Value} {us : List Value} {x : Value}
    (h : Own B w (⟨22, 1, U, us.length + 1, us ++ [x], none⟩ :: (old ++ (r1 :: r2 :: r3 :: r4 :: rest)))) : Own B w (r2 :: (r1 :: r3 :: r4 :: outRInts U (us ++ [x]) :: rest)) := by
  have h1 : Own B w (⟨22, 1, U, us.length + 1, us ++ [x], none⟩ :: (r1 :: r2 :: r3 :: r4 :: rest)) := h.sub (List.Sublist.cons_cons _ (List.sublist_append_right _ _))
  have hr : (⟨22, 1, U, us.length + 1, us ++ [x], none⟩ : Rw) = outRInts U (us ++ [x]) := by simp [outRInts]
  rw [hr] at h1
  refine h1.perm ?_
  generalize outRInts U (us ++ [x]) = O
  have e1 : (O :: r1 :: r2 :: r3 :: r4 :: rest).Perm (r1 :: r2 :: r3 :: r4 :: O :: rest) := (List.perm_middle (l₁ := [r1, r2, r3, r4]) (l₂ := rest)).symm
  exact e1.trans (List.Perm.swap _ _ _)
end Go.Proofs.YthaalhigmihijabGreat
