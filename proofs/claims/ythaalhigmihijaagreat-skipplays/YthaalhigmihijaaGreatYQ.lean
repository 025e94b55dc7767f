/- SkipPlays' last loop: boxes beside the state, Path, Get. -/
import Derived.Test.YthaalhigmihijaaGreatYP
namespace Go.Proofs.YthaalhigmihijaaGreat
open Go.RowKit

theorem row_rd {w : World} {e : TypeId} {size : Nat} {v : Value} {n : Nat} {xs : List Value} (h : Row w e size v n xs) : Rd w v n xs := by
  obtain ⟨a, cap, rfl, -, -⟩ := h.le
  refine ⟨a, cap, rfl, ?_⟩
  have h2 := h.2
  rcases h2 with ⟨hn, -⟩ | ⟨g, cap', cur, hv, hg, h1, h2, h3, h4⟩
  · exact .inl hn
  · cases hv
    exact .inr ⟨g, 0, rfl, (Array.getElem?_eq_some_iff.1 hg).1, h.cell g 0 _ rfl⟩
section
variable {B p b : Nat} {ns : List Nd} {er : List Ent} {T : List Tw} {rv tv : Value} {ex : List Nat} {xs rd : List (Value × List ElEntries)} {w w' : World}
theorem St7.addX (h : St7 B p b ns er T rv tv ex xs rd w) (hb : Below w.heap.size w w') {k : Nat} (h1 : w.heap.size ≤ k) (h2 : k < w'.heap.size) : St7 B p b ns er T rv tv (k :: ex) xs rd w' := by
  have hs := h.below hb
  have hp : (ksOf p ns rv tv (k :: ex)).Perm (k :: ksOf p ns rv tv ex) := by
    unfold ksOf
    rw [List.perm_iff_count]
    intro a
    simp only [List.count_append, List.count_cons]
    omega
  have hk : ∀ q ∈ ksOf p ns rv tv (k :: ex), q = k ∨ q ∈ ksOf p ns rv tv ex := fun q hq => List.mem_cons.1 (hp.mem_iff.1 hq)
  refine ⟨hs.skp, hs.rrow, hs.rnil, hs.trow, ?_, fun q hq => ?_, ?_⟩
  · refine hp.nodup_iff.2 (List.nodup_cons.2 ⟨fun hm => ?_, h.nd⟩)
    have := (h.base k hm).2
    omega
  · rcases hk q hq with rfl | hq
    · exact ⟨Nat.le_trans h.size h1, h2⟩
    · exact hs.base q hq
  · refine (h.book.other (ls := ksOf p ns rv tv (k :: ex)) (fun q hq => ?_)).below hb
    rcases hk q hq with rfl | hq
    · exact .inr h1
    · exact .inl hq
theorem St7.addI2 {v : Value} {zi : List Int} {w0 : World} (h : St7 B p b ns er T rv tv ex xs rd w0) (hb0 : Below w0.heap.size w0 w) (hr0 : (rwInts (v, zi)).ok w0.heap.size w) (hz : zi.length ≤ 100000) :
    Calls Tryz.prog 20 #[.pointer (some ⟨b, 0, none⟩), v] w fun e w' => e = .returned (.tuple #[]) ∧ St7 B p b ns er T rv tv ex xs rd w' ∧ Rd w' v zi.length (cellsInts zi) ∧ (∀ k ∈ ex, w'.heap[k]? = w.heap[k]?) ∧ Below B w w' := by
  refine (h.book.addI hb0 hr0 hz h.size h.nd h.base).mono ?_
  rintro e w' ⟨rfl, h1, h2, h3, h4⟩
  exact ⟨rfl, (h.below hb0).keep h3 h4.size h1, h2, fun k hk => h3 k (by simp [ksOf, hk]), h4⟩
theorem St7.path5 {key : ByteArray} {P Q : List Nd} (h : St7 B p b ns er T rv tv ex xs rd w) (hT : Tws T ns) (hc : Cut key 18446744073709551615 ns P Q) (hl : ns.length ≤ 100000) (hkey : key.size ≤ maxLen) :
    Calls Tryz.prog 22 #[tv, .string key] w fun e w' => ∃ v, e = .returned v ∧ Rd w' v (pathZ P (hgt ns)).length (cellsInts (pathZ P (hgt ns))) ∧ Below w.heap.size w w' := by
  obtain ⟨a, cap, rfl, hE⟩ := row_tws h.trow
  have hk : key.size ≤ 9223372036854775807 := by unfold maxLen at hkey; omega
  refine (path5_any a _ cap T key w (Nat.le_refl _) hE (by rw [hT.len]; omega) (fun t ht => ?_) (fun t ht => ?_) hk).mono ?_
  · obtain ⟨n, hn, rfl⟩ := hT.mem ht
    exact h.skp.lst.lev n hn
  · obtain ⟨n, hn, rfl⟩ := hT.mem ht
    exact Nat.le_trans (h.skp.right.fit n hn).1 (by omega)
  · rintro e w' ⟨v, rfl, h1, -, h3⟩
    have h4 := row_rd h1
    rw [hT.path h.skp.right hc, hT.high] at h4
    exact ⟨v, rfl, by rw [show (pathZ P (hgt ns)).length = hgt ns by simp [pathZ]]; exact h4, h3⟩
end
end Go.Proofs.YthaalhigmihijaaGreat
