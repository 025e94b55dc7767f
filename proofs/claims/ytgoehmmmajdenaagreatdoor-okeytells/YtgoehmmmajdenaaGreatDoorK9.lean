/- Calls of Put and Get whose lists the caller has just laid out. -/
import Derived.Test.YtgoehmmmajdenaaGreatDoorK8
namespace Go.Proofs.YtgoehmmmajdenaaGreatDoor
open Go.RowKit

theorem partsCells_cons (p : Prt) (ps : List Prt) : partsCells (p :: ps) = p.cells ++ partsCells ps := by simp [partsCells]
theorem partsCells_get : ∀ (ps : List Prt) (i : Nat) (h : i < ps.length) (j : Nat) (u : Value), (ps[i]).cells[j]? = some u → (partsCells ps)[i * 4 + j]? = some u
  | p :: ps, 0, _, j, u, hu => by
    rw [partsCells_cons, Nat.zero_mul, Nat.zero_add]
    have hj : j < p.cells.length := (List.getElem?_eq_some_iff.1 hu).1
    rw [List.getElem?_append_left hj]
    exact hu
  | p :: ps, i + 1, h, j, u, hu => by
    have ih := partsCells_get ps i (by simpa using h) j u (by simpa using hu)
    rw [partsCells_cons, List.getElem?_append_right (by simp [Prt.cells]; omega)]
    have e : (i + 1) * 4 + j - p.cells.length = i * 4 + j := by simp [Prt.cells]; omega
    rw [e]
    exact ih
theorem rowP_alloc (w : World) (ps : List Prt) (C : Array Value) (hC : C.toList = partsCells ps) : IsRowP (w.alloc (.cells C 66)) (some ⟨w.heap.size, 0, none⟩) ps := by
  refine .inr ⟨w.heap.size, 0, rfl, ?_⟩
  intro i h j u hu
  have := partsCells_get ps i h j u hu
  rw [← hC] at this
  rw [Nat.zero_add]
  simp [World.cell?, World.alloc, -World.alloc_eq]
  simpa using this
theorem put_lit (w : World) (hm : Max w) (ps : List Prt) (C : Array Value) (hC : C.toList = partsCells ps) (hlen : ps.length ≤ 1000000) (hfit : ∀ p ∈ ps, p.Fits) (hok : ∀ k ∈ ps.map Prt.kind, okKind k) :
    Calls Tryz.prog 6 #[.slice (some ⟨w.heap.size, 0, none⟩) ps.length ps.length] (w.alloc (.cells C 66)) fun e w' => e = .returned (.tuple #[.string ⟨(layAll ps).toArray⟩, .int .i64 0]) ∧ Below w.heap.size w w' := by
  refine (put_any _ _ ps _ (hm.alloc _) hlen hfit (rowP_alloc w ps C hC)).mono ?_
  rintro e w1 ⟨rfl, hb⟩
  rw [putVal, if_pos hok]
  exact ⟨rfl, ((Below.refl _ _).alloc (Nat.le_refl _) _).trans (hb.mono (by simp [World.alloc, -World.alloc_eq]))⟩

theorem own_len {w : World} {B n : Nat} {e : TypeId} {size : Nat} {v : Value} {xs : List Value} (h : w.ownsRow B e size v n xs) : ∃ a cap, v = .slice a n cap := by
  rcases h.2 with ⟨rfl, rfl⟩ | ⟨g, cap, cur, rfl, _⟩
  · exact ⟨_, _, rfl⟩
  · exact ⟨_, _, rfl⟩
theorem rowI_alloc (w : World) (ks : List Int) (C : Array Value) (hC : C.toList = ks.map (Value.int .i64)) : IsRowI (w.alloc (.cells C 3)) (some ⟨w.heap.size, 0, none⟩) ks := by
  refine .inr ⟨w.heap.size, 0, rfl, ?_⟩
  intro i h
  rw [Nat.zero_add]
  have : C.toList[i]? = some (.int .i64 ks[i]) := by rw [hC]; simp [h]
  simp [World.cell?, World.alloc, -World.alloc_eq]
  simpa using this
/-- An error of Get. -/
theorem get_err (w : World) (hm : Max w) (X : ByteArray) (ks : List Int) (C : Array Value) (hC : C.toList = ks.map (Value.int .i64)) (hX : X.size < 4294967281) (hlen : ks.length ≤ 1000000) (er : Int) (h : rdGet X.data.toList ks = ([], [], er)) :
    Calls Tryz.prog 10 #[.string X, .slice (some ⟨w.heap.size, 0, none⟩) ks.length ks.length] (w.alloc (.cells C 3)) fun e w' => (∃ a cap, e = .returned (.tuple #[.slice a 0 cap, .string ⟨#[]⟩, .int .i64 er])) ∧ Below w.heap.size w w' := by
  refine (get_any X _ _ ks _ hX (hm.alloc _) hlen (rowI_alloc w ks C hC)).mono ?_
  rw [h]
  rintro e w1 ⟨v, rfl, hown, hb⟩
  obtain ⟨a, cap, rfl⟩ := own_len hown
  exact ⟨⟨a, cap, rfl⟩, ((Below.refl _ _).alloc (Nat.le_refl _) _).trans (hb.mono (by simp [World.alloc, -World.alloc_eq]))⟩
end Go.Proofs.YtgoehmmmajdenaaGreatDoor
