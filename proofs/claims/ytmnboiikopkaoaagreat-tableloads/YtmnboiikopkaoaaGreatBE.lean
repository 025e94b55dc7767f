/- Rows of versions -/
import Derived.Test.YtmnboiikopkaoaaGreatBB
import Derived.Test.YtmnboiikopkaoaaGreatBC
import Derived.Laws.Cover1
import Derived.Deep.RegionLaw
import Derived.BigRegion
namespace Go.Proofs.YtmnboiikopkaoaaGreat
open Go.RowKit

theorem infoE5 : (Tryz.prog.info? 48).map (fun i => (i.zero, i.size, i.bytes)) = some (some (.agg #[.string ⟨#[]⟩, .int .u64 0, .int .i64 0, .string ⟨#[]⟩]), 4, 48) := by kernel_rfl
def cellsE (l : List Ent) : List Value := l.flatMap Ent.cells
theorem cellsE_append (a b : List Ent) : cellsE (a ++ b) = cellsE a ++ cellsE b := by simp [cellsE]
theorem row_below {w w' : World} {e : TypeId} {size : Nat} {v : Value} {n : Nat} {xs : List Value} (h : Row w e size v n xs) (hb : Below w.heap.size w w') : Row w' e size v n xs := h.kept fun k hk => hb.block k (h.lt k hk)
theorem bt7 {a b c : World} (h : Below a.heap.size a b) (k : Below b.heap.size b c) : Below a.heap.size a c := h.trans (k.mono h.size)
theorem cellsE_length : ∀ l : List Ent, (cellsE l).length = l.length * 4
  | [] => rfl
  | x :: l => by
    have := cellsE_length l
    simp only [cellsE, List.flatMap_cons, List.length_append, List.length_cons] at *
    rw [this]
    simp only [Ent.cells, List.length_cons, List.length_nil]
    omega
theorem cellsE_get : ∀ (l : List Ent) (i : Nat) (h : i < l.length) (j : Nat) (u : Value), l[i].cells[j]? = some u → (cellsE l)[i * 4 + j]? = some u
  | [], _, h, _, _, _ => by cases h
  | x :: l, i, h, j, u, hu => by
    have hc : cellsE (x :: l) = x.cells ++ cellsE l := by simp [cellsE]
    have hl : x.cells.length = 4 := rfl
    rw [hc]
    match i, h, hu with
    | 0, _, hu =>
      have hu' : x.cells[j]? = some u := hu
      have hj := (List.getElem?_eq_some_iff.1 hu').1
      rw [Nat.zero_mul, Nat.zero_add, List.getElem?_append_left hj]
      exact hu'
    | i + 1, h, hu =>
      have ih := cellsE_get l i (by simpa using h) j u hu
      rw [List.getElem?_append_right (by rw [hl, Nat.add_mul]; omega), hl, show (i + 1) * 4 + j - 4 = i * 4 + j by rw [Nat.add_mul]; omega]
      exact ih
/-- A row of versions of one's own is a slice of versions. -/
theorem row_ents {w : World} {v : Value} {l : List Ent} (h : Row w 48 4 v l.length (cellsE l)) : ∃ a cap, v = .slice a l.length cap ∧ EntsAt w.heap.size w a l.length l := by
  have hc := h.cell
  have hlt := h.lt
  obtain ⟨a, cap, hv, -, -⟩ := h.le
  refine ⟨a, cap, hv, rfl, ?_⟩
  rcases h.2 with ⟨h0, -⟩ | ⟨g, c, cur, hv', hg, -⟩
  · exact .inl h0
  · rw [hv] at hv'
    cases hv'
    refine .inr ⟨g, 0, rfl, (Array.getElem?_eq_some_iff.1 hg).1, fun i hi j u hu => ?_⟩
    have := hc g 0 _ hv (i * 4 + j) u (cellsE_get l i hi j u hu)
    rw [← Nat.add_assoc] at this
    exact this
/-- A row of versions as a slice: nil, or an array of its own. -/
theorem row_own {w : World} {v : Value} {l : List Ent} (h : Row w 48 4 v l.length (cellsE l)) (h0 : l = [] → v = .slice none 0 0) : (v = .slice none 0 0 ∧ l = []) ∨ ∃ g cap, v = .slice (some ⟨g, 0, none⟩) l.length cap ∧ l.length ≤ cap ∧ cap ≤ maxLen ∧ g < w.heap.size ∧ ∀ j u, (cellsE l)[j]? = some u → w.cell? ⟨g, j, none⟩ = some u := by
  cases l with
  | nil => exact .inl ⟨h0 rfl, rfl⟩
  | cons y l =>
    right
    have hc := h.cell
    rcases h.2 with ⟨hn, -⟩ | ⟨g, cap, cur, rfl, hg, h1, h2, -⟩
    · cases hn
    · exact ⟨g, cap + 1, rfl, h1, h2, (Array.getElem?_eq_some_iff.1 hg).1, fun j u hu => by have := hc g 0 _ rfl j u hu; rwa [Nat.zero_add] at this⟩
theorem cellsE_one (l : List Ent) : ∀ u ∈ cellsE l, u.oneCell' = true := by
  intro u hu
  obtain ⟨x, -, hx⟩ := List.mem_flatMap.1 hu
  simp only [Ent.cells, List.mem_cons, List.not_mem_nil, or_false] at hx
  rcases hx with rfl | rfl | rfl | rfl <;> rfl
/-- Below, also where a row of new memory was written. -/
theorem below_row {B : Nat} {a b c : World} {row : Option Nat} (h : Below B a b) (hB : B ≤ a.heap.size) (hg : b.grownBy c row) (hr : ∀ k, row = some k → B ≤ k) : Below B a c := h.grown hg (Nat.le_trans hB h.size) hr
theorem ob_new {w w' : World} {v v' : Value} {B : Nat} (h : ob v' = ob v ∨ (ob v' = some w.heap.size ∧ w.grownBy w' none)) (hB : B ≤ w.heap.size) (hv : ∀ b, ob v = some b → B ≤ b) : ∀ b, ob v' = some b → B ≤ b := by
  intro b hb
  rcases h with e | ⟨e, -⟩
  · exact hv b (by rw [← e]; exact hb)
  · rw [e] at hb
    cases hb
    exact hB
theorem src_new (x : Ent) (w : World) : Src Tryz.prog 4 22 (.slice (some ⟨w.heap.size, 0, none⟩) 1 1) 1 [.string x.k, .int .u64 x.s, .int .i64 x.n, .string x.v] (w.alloc (.cells #[.string x.k, .int .u64 x.s, .int .i64 x.n, .string x.v] 48)) :=
  Src.ofSlice (P := Tryz.prog) _ (size := 4) Tryz.underlying22 ⟨w.heap.size, 0, none⟩ 1 1 _ rfl (fun j u hu => by
    match j, hu with
    | 0, hu => simpa [Addr.add] using hu
    | 1, hu => simpa [Addr.add] using hu
    | 2, hu => simpa [Addr.add] using hu
    | 3, hu => simpa [Addr.add] using hu) (by simp [Value.oneCell'])
theorem src_at (x : Ent) {w : World} {b : Nat} (h : w.heap[b]? = some (.cells #[.string x.k, .int .u64 x.s, .int .i64 x.n, .string x.v] 48)) : Src Tryz.prog 4 22 (.slice (some ⟨b, 0, none⟩) 1 1) 1 [.string x.k, .int .u64 x.s, .int .i64 x.n, .string x.v] w :=
  Src.ofSlice (P := Tryz.prog) _ (size := 4) Tryz.underlying22 ⟨b, 0, none⟩ 1 1 _ rfl (fun j u hu => by
    have hc : ∀ i v, (#[.string x.k, .int .u64 x.s, .int .i64 x.n, .string x.v] : Array Value)[i]? = some v → w.cell? ⟨b, i, none⟩ = some v := fun i v hv => by
      simp only [World.cell?, h]
      exact hv
    match j, hu with
    | 0, hu => exact (hc 0 _ rfl).trans hu
    | 1, hu => exact (hc 1 _ rfl).trans hu
    | 2, hu => exact (hc 2 _ rfl).trans hu
    | 3, hu => exact (hc 3 _ rfl).trans hu) (by simp [Value.oneCell'])
end Go.Proofs.YtmnboiikopkaoaaGreat
