/- skip's New, Height, Path; of a nil list. -/
import Derived.Test.YthaalhigmihijabY5
namespace Go.Proofs.Ythaalhigmihijab
open Go.RowKit

theorem lst_new {p : Nat} {w : World} (h : w.heap[p]? = some (.cells #[.string ⟨#[]⟩, .int .u64 0, .int .i64 0, .string ⟨#[]⟩, .pointer none, .pointer none, .pointer none, .pointer none, .pointer none, .pointer none, .pointer none, .pointer none, .int .i64 0] 65)) : Lst p 0 [] w := by
  have hc : ∀ j v, (#[.string ⟨#[]⟩, .int .u64 0, .int .i64 0, .string ⟨#[]⟩, .pointer none, .pointer none, .pointer none, .pointer none, .pointer none, .pointer none, .pointer none, .pointer none, .int .i64 0] : Array Value)[j]? = some v → w.cell? ⟨p, j, none⟩ = some v := fun j v hv => by
    simp only [World.cell?, h]
    exact hv
  refine ⟨fun pre n r e => ?_, hc 12 _ rfl, by simp, by simp [foot]⟩
  cases pre with
  | cons a b => simp at e
  | nil =>
    simp only [List.nil_append, List.cons.injEq] at e
    obtain ⟨rfl, rfl⟩ := e
    refine ⟨fun j u hu => ?_, fun i hi => ?_, fun j => by simp [World.frozen?, hd, h]⟩
    · match j, hu with
      | 0, hu => exact (hc 0 _ rfl).trans hu
      | 1, hu => exact (hc 1 _ rfl).trans hu
      | 2, hu => exact (hc 2 _ rfl).trans hu
      | 3, hu => exact (hc 3 _ rfl).trans hu
    · rw [if_pos (show i < (hd p).l from hi)]
      match i, hi with
      | 0, _ => exact hc 4 _ rfl
      | 1, _ => exact hc 5 _ rfl
      | 2, _ => exact hc 6 _ rfl
      | 3, _ => exact hc 7 _ rfl
      | 4, _ => exact hc 8 _ rfl
      | 5, _ => exact hc 9 _ rfl
      | 6, _ => exact hc 10 _ rfl
      | 7, _ => exact hc 11 _ rfl
set_option maxHeartbeats 1000000 in
set_option maxRecDepth 100000 in
theorem new_any (w : World) : Calls Try.prog 10 #[] w fun e w' => e = .returned (.pointer (some ⟨w.heap.size, 0, none⟩)) ∧ Lst w.heap.size 0 [] w' ∧ w'.heap.size = w.heap.size + 1 ∧ Below w.heap.size w w' := by
  go_enter Try.func10, Try.ntmps10
  go_wp2
  go_ret
  exact ⟨rfl, lst_new (new_block _ _ rfl), by simp, (Below.refl _ _).alloc (Nat.le_refl _) _⟩
/-- The greatest level. -/
def hgt : List Nd → Nat
  | [] => 0
  | n :: r => max n.l (hgt r)
theorem hgt_le {h : Nat} : ∀ {ns : List Nd}, (∀ n ∈ ns, n.l ≤ h) → hgt ns ≤ h
  | [], _ => Nat.zero_le _
  | n :: r, hh => by
    have h1 := hh n (by simp)
    have h2 := hgt_le (ns := r) (fun x hx => hh x (List.mem_cons_of_mem _ hx))
    unfold hgt
    omega
theorem fol_hgt {i : Nat} : ∀ {ns : List Nd}, (fol i ns = .pointer none ↔ hgt ns ≤ i)
  | [] => by simp [fol, hgt]
  | n :: r => by
    have ih := fol_hgt (i := i) (ns := r)
    unfold fol hgt
    split
    · simp [pN]
      omega
    · rw [ih]
      omega
theorem fol_ptr {i : Nat} : ∀ {ns : List Nd}, i < hgt ns → ∃ m ∈ ns, fol i ns = pN m
  | [], h => by simp [hgt] at h
  | n :: r, h => by
    unfold fol
    split
    · exact ⟨n, by simp, rfl⟩
    · obtain ⟨m, h1, h2⟩ := fol_ptr (i := i) (ns := r) (by unfold hgt at h; omega)
      exact ⟨m, by simp [h1], h2⟩
set_option maxHeartbeats 1000000 in
set_option maxRecDepth 100000 in
theorem height_any {p c : Nat} {ns : List Nd} {w : World} (h : Lst p c ns w) :
    Calls Try.prog 29 #[.pointer (some ⟨p, 0, none⟩)] w fun e w' => e = .returned (.int .i64 (hgt ns : Int)) ∧ w = w' := by
  have hle : hgt ns ≤ 8 := hgt_le h.lev
  have HN := Lib.hid (h.chain [] (hd p) ns rfl)
  clear h
  go_enter Try.func29, Try.ntmps29
  go_wp2
  go_loopw [3] (fun iv wr => ∃ i : Nat, i ≤ hgt ns ∧ iv = .int .i64 (i : Int) ∧ wr = w) (fun iv _ => 8 - (intOf iv).toNat)
  case atStart => exact ⟨0, Nat.zero_le _, rfl, rfl⟩
  case round =>
    obtain ⟨i, hi, rfl, rfl⟩ := hrel
    by_cases h8 : i < 8
    · have d8 : decide ((i : Int) < 8) = true := by simp; omega
      have c0 : wr.cell? ⟨p, 4 + i, none⟩ = some (fol i ns) := by
        have := HN.out.nxt i h8
        rw [if_pos (show i < (hd p).l from h8)] at this
        exact this
      by_cases hlt : i < hgt ns
      · obtain ⟨m, -, hm⟩ := fol_ptr hlt
        rw [hm] at c0
        unfold pN at c0
        clear hm
        go_wp2
        go_roundw
        case rel => exact ⟨i + 1, by omega, by go_num, (by first | rfl | trivial)⟩
        case measure => simp [intOf]; omega
      · rw [fol_hgt.2 (by omega)] at c0
        go_wp2
        go_ret
        exact ⟨by rw [show hgt ns = i by omega]; rfl, rfl⟩
    · have d8 : decide ((i : Int) < 8) = false := by simp; omega
      go_wp2
      go_ret
      exact ⟨by rw [show hgt ns = i by omega]; rfl, rfl⟩
end Go.Proofs.Ythaalhigmihijab
