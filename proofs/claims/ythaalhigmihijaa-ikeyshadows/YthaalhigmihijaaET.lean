/- For the walk of IkeyShadows: rows of versions and of numbers, as sources and as arguments. -/
import Derived.Test.YthaalhigmihijaaEI
import Derived.Test.YthaalhigmihijaaEO
import Derived.Test.YthaalhigmihijaaEC
namespace Go.Proofs.Ythaalhigmihijaa
open Go.RowKit Go.Lib

theorem cellsE_length : ∀ l : List Ent, (cellsE l).length = l.length * 4
  | [] => rfl
  | x :: l => by
    have := cellsE_length l
    simp only [cellsE, List.flatMap_cons, List.length_append, List.length_cons] at *
    rw [this]
    simp only [Ent.cells, List.length_cons, List.length_nil]
    omega
theorem cellsE_get : ∀ (l : List Ent) (i : Nat) (h : i < l.length) (j : Nat) (u : Value), l[i].cells[j]? = some u → (cellsE l)[i * 4 + j]? = some u
  | [], _, h, _, _, _ => by cases h
  | x :: l, i, h, j, u, hu => by
    have hc : cellsE (x :: l) = x.cells ++ cellsE l := by simp [cellsE]
    have hl : x.cells.length = 4 := rfl
    rw [hc]
    match i, h, hu with
    | 0, _, hu =>
      have hu' : x.cells[j]? = some u := hu
      have hj := (List.getElem?_eq_some_iff.1 hu').1
      rw [Nat.zero_mul, Nat.zero_add, List.getElem?_append_left hj]
      exact hu'
    | i + 1, h, hu =>
      have ih := cellsE_get l i (by simpa using h) j u hu
      rw [List.getElem?_append_right (by rw [hl, Nat.add_mul]; omega), hl, show (i + 1) * 4 + j - 4 = i * 4 + j by rw [Nat.add_mul]; omega]
      exact ih
/-- A row of versions of one's own is a slice of versions. -/
theorem row_ents {w : World} {v : Value} {l : List Ent} (h : Row w 29 4 v l.length (cellsE l)) : ∃ a cap, v = .slice a l.length cap ∧ EntsAt w.heap.size w a l.length l := by
  have hc := h.cell
  have hlt := h.lt
  obtain ⟨a, cap, hv, -, -⟩ := h.le
  refine ⟨a, cap, hv, rfl, ?_⟩
  rcases h.2 with ⟨h0, -⟩ | ⟨g, c, cur, hv', hg, -⟩
  · exact .inl h0
  · rw [hv] at hv'
    cases hv'
    refine .inr ⟨g, 0, rfl, (Array.getElem?_eq_some_iff.1 hg).1, fun i hi j u hu => ?_⟩
    have := hc g 0 _ hv (i * 4 + j) u (cellsE_get l i hi j u hu)
    rw [← Nat.add_assoc] at this
    exact this
theorem row_nums {w : World} {v : Value} {l : List Int} (h : Row w 24 1 v l.length (l.map (Value.int .u64))) : ∃ a cap, v = .slice a l.length cap ∧ NumsAt w.heap.size w a l.length l := by
  have hc := h.cell
  obtain ⟨a, cap, hv, -, -⟩ := h.le
  refine ⟨a, cap, hv, rfl, ?_⟩
  rcases h.2 with ⟨h0, -⟩ | ⟨g, c, cur, hv', hg, -⟩
  · exact .inl h0
  · rw [hv] at hv'
    cases hv'
    exact .inr ⟨g, 0, rfl, (Array.getElem?_eq_some_iff.1 hg).1, fun i hi => hc g 0 _ hv i _ (by simp [hi])⟩
/-- Numbers that came in, as what is appended. -/
theorem src_nums {w : World} {a : Option Addr} {len cap n₀ : Nat} {zs : List Int} (h : NumsAt n₀ w a len zs) : Src Try.prog 1 23 (.slice a len cap) len (zs.map (Value.int .u64)) w := by
  obtain ⟨hl, hh⟩ := h
  cases a with
  | none =>
    rcases hh with h0 | ⟨b, off, e, -⟩
    · subst h0
      obtain rfl : zs = [] := List.eq_nil_of_length_eq_zero hl
      exact Src.ofNil w Try.underlying23 cap
    · cases e
  | some ad =>
    refine Src.ofSlice w Try.underlying23 ad len cap _ (by simp [hl]) (fun j u hu => ?_) (fun u hu => by
      obtain ⟨z, -, rfl⟩ := List.mem_map.1 hu
      rfl)
    rcases hh with h0 | ⟨b, off, e, -, hc⟩
    · subst h0
      obtain rfl : zs = [] := List.eq_nil_of_length_eq_zero hl
      cases hu
    · cases e
      rw [List.getElem?_map] at hu
      by_cases hj : j < zs.length
      · rw [List.getElem?_eq_getElem hj] at hu
        cases hu
        have : (⟨b, off, none⟩ : Addr).add j = ⟨b, off + j, none⟩ := by unfold Addr.add; split <;> simp_all
        rw [this]
        exact hc j hj
      · rw [List.getElem?_eq_none (by omega)] at hu
        cases hu
theorem shad_mem {es : List Ent} {zs : List Int} : ∀ x ∈ shad es zs es.length, x ∈ es := by
  intro x hx
  obtain ⟨a, ha, e⟩ := List.mem_iff_getElem.1 hx
  obtain ⟨c, c1, -, c3, -⟩ := shad_get (es := es) (zs := zs) a ha
  rw [List.getD_eq_getElem?_getD, List.getElem?_eq_getElem ha, List.getD_eq_getElem?_getD, List.getElem?_eq_getElem c1] at c3
  have : x = es[c] := by rw [← e]; exact c3
  rw [this]
  exact List.getElem_mem _
theorem pickV_form (es : List Ent) (z : Int) : ∃ x : Ent, pickV es z = .agg #[.string x.k, .int .u64 x.s, .int .i64 x.n, .string x.v] := by
  unfold pickV
  split
  · exact ⟨es.getD z.toNat default, rfl⟩
  · exact ⟨⟨⟨#[]⟩, 0, 0, ⟨#[]⟩⟩, rfl⟩
end Go.Proofs.Ythaalhigmihijaa
