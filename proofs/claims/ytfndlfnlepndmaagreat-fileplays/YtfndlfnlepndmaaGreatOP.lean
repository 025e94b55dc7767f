/- Rows in another order. -/
import Derived.Test.YtfndlfnlepndmaaGreatO3
namespace Go.Proofs.YtfndlfnlepndmaaGreat
open Go.RowKit

theorem perm_put (bk o1 o2 : Rw) (A C R : List Rw) : (bk :: ((A ++ (C ++ [o1, o2])) ++ R)).Perm (A ++ (bk :: o1 :: (C ++ (o2 :: R)))) := by
  classical
  rw [List.perm_iff_count]
  intro a
  simp only [List.count_append, List.count_cons, List.count_nil]
  omega
theorem perm_grew (bk g o1 o2 : Rw) (A C D R : List Rw) : (A ++ (C ++ (g :: (bk :: o1 :: (D ++ (o2 :: R)))))).Perm (bk :: ((A ++ (C ++ (D ++ [g, o1, o2]))) ++ R)) := by
  classical
  rw [List.perm_iff_count]
  intro a
  simp only [List.count_append, List.count_cons, List.count_nil]
  omega
theorem perm_add (r bk o1 o2 : Rw) (A C R : List Rw) : (r :: (bk :: ((A ++ (C ++ [o1, o2])) ++ R))).Perm (r :: o1 :: o2 :: bk :: (A ++ (C ++ R))) := by
  classical
  rw [List.perm_iff_count]
  intro a
  simp only [List.count_append, List.count_cons, List.count_nil]
  omega
theorem perm_added (r' r o1 o2 bk : Rw) (A C R : List Rw) : (r' :: r :: o1 :: o2 :: bk :: (A ++ (C ++ R))).Perm (bk :: (((A ++ [r]) ++ ((C ++ [r']) ++ [o1, o2])) ++ R)) := by
  classical
  rw [List.perm_iff_count]
  intro a
  simp only [List.count_append, List.count_cons, List.count_nil]
  omega
theorem perm_two (bk : Rw) (A C R : List Rw) : (bk :: (A ++ (C ++ R))).Perm (bk :: (C ++ (A ++ R))) := by
  classical
  rw [List.perm_iff_count]
  intro a
  simp only [List.count_append, List.count_cons]
  omega
theorem perm_third (bk : Rw) (A C D R : List Rw) : (bk :: (A ++ (C ++ (D ++ R)))).Perm (bk :: (D ++ (A ++ (C ++ R)))) := by
  classical
  rw [List.perm_iff_count]
  intro a
  simp only [List.count_append, List.count_cons]
  omega
end Go.Proofs.YtfndlfnlepndmaaGreat
