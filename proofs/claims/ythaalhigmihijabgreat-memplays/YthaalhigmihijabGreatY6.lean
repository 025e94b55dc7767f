/- skip's New, Height, Path; of a nil list. -/
import Derived.Test.YthaalhigmihijabGreatY5
namespace Go.Proofs.YthaalhigmihijabGreat
open Go.RowKit

theorem lst_new {p : Nat} {w : World} (h : w.heap[p]? = some (.cells #[.string ⟨#[]⟩, .int .u64 0, .int .i64 0, .string ⟨#[]⟩, .pointer none, .pointer none, .pointer none, .pointer none, .pointer none, .pointer none, .pointer none, .pointer none, .int .i64 0] 40)) : Lst p 0 [] w := by
  have hc : ∀ j v, (#[.string ⟨#[]⟩, .int .u64 0, .int .i64 0, .string ⟨#[]⟩, .pointer none, .pointer none, .pointer none, .pointer none, .pointer none, .pointer none, .pointer none, .pointer none, .int .i64 0] : Array Value)[j]? = some v → w.cell? ⟨p, j, none⟩ = some v := fun j v hv => by
    simp only [World.cell?, h]
    exact hv
  refine ⟨fun pre n r e => ?_, hc 12 _ rfl, by simp, by simp [foot]⟩
  cases pre with
  | cons a b => simp at e
  | nil =>
    simp only [List.nil_append, List.cons.injEq] at e
    obtain ⟨rfl, rfl⟩ := e
    refine ⟨fun j u hu => ?_, fun i hi => ?_, fun j => by simp [World.frozen?, hd, h]⟩
    · match j, hu with
      | 0, hu => exact (hc 0 _ rfl).trans hu
      | 1, hu => exact (hc 1 _ rfl).trans hu
      | 2, hu => exact (hc 2 _ rfl).trans hu
      | 3, hu => exact (hc 3 _ rfl).trans hu
    · rw [if_pos (show i < (hd p).l from hi)]
      match i, hi with
      | 0, _ => exact hc 4 _ rfl
      | 1, _ => exact hc 5 _ rfl
      | 2, _ => exact hc 6 _ rfl
      | 3, _ => exact hc 7 _ rfl
      | 4, _ => exact hc 8 _ rfl
      | 5, _ => exact hc 9 _ rfl
      | 6, _ => exact hc 10 _ rfl
      | 7, _ => exact hc 11 _ rfl
/-- The greatest level. -/
def hgt : List Nd → Nat
  | [] => 0
  | n :: r => max n.l (hgt r)
theorem hgt_le {h : Nat} : ∀ {ns : List Nd}, (∀ n ∈ ns, n.l ≤ h) → hgt ns ≤ h
  | [], _ => Nat.zero_le _
  | n :: r, hh => by
    have h1 := hh n (by simp)
    have h2 := hgt_le (ns := r) (fun x hx => hh x (List.mem_cons_of_mem _ hx))
    unfold hgt
    omega
theorem fol_hgt {i : Nat} : ∀ {ns : List Nd}, (fol i ns = .pointer none ↔ hgt ns ≤ i)
  | [] => by simp [fol, hgt]
  | n :: r => by
    have ih := fol_hgt (i := i) (ns := r)
    unfold fol hgt
    split
    · simp [pN]
      omega
    · rw [ih]
      omega
theorem fol_ptr {i : Nat} : ∀ {ns : List Nd}, i < hgt ns → ∃ m ∈ ns, fol i ns = pN m
  | [], h => by simp [hgt] at h
  | n :: r, h => by
    unfold fol
    split
    · exact ⟨n, by simp, rfl⟩
    · obtain ⟨m, h1, h2⟩ := fol_ptr (i := i) (ns := r) (by unfold hgt at h; omega)
      exact ⟨m, by simp [h1], h2⟩
end Go.Proofs.YthaalhigmihijabGreat
