/- How SkipPlays begins; its calls beside the state. -/
import Derived.Test.YthaalhigmihijaaGreatYN
namespace Go.Proofs.YthaalhigmihijaaGreat
open Go.RowKit

theorem book_new7 (B : Nat) (w : World) (hB : B ≤ w.heap.size) : Own B (w.alloc (.cells #[.slice none 0 0, .slice none 0 0, .slice none 0 0, .slice none 0 0, .slice none 0 0, .slice none 0 0, .slice none 0 0, .slice none 0 0, .slice none 0 0, .slice none 0 0, .slice none 0 0, .slice none 0 0, .slice none 0 0, .slice none 0 0, .slice none 0 0, .slice none 0 0, .slice none 0 0, .slice none 0 0, .slice none 0 0, .slice none 0 0, .slice none 0 0, .slice none 0 0, .slice none 0 0, .slice none 0 0, .slice none 0 0, .slice none 0 0, .slice none 0 0, .slice none 0 0] 56)) [bookR w.heap.size (List.replicate 28 (.slice none 0 0))] := by
  have h0 : Own B w [] := Own.nil B w
  refine h0.new (r := bookR w.heap.size (List.replicate 28 (.slice none 0 0))) ((Below.refl _ _).alloc (Nat.le_refl _) _) ?_ hB
  refine ⟨rfl, .inr ⟨w.heap.size, 1, #[.slice none 0 0, .slice none 0 0, .slice none 0 0, .slice none 0 0, .slice none 0 0, .slice none 0 0, .slice none 0 0, .slice none 0 0, .slice none 0 0, .slice none 0 0, .slice none 0 0, .slice none 0 0, .slice none 0 0, .slice none 0 0, .slice none 0 0, .slice none 0 0, .slice none 0 0, .slice none 0 0, .slice none 0 0, .slice none 0 0, .slice none 0 0, .slice none 0 0, .slice none 0 0, .slice none 0 0, .slice none 0 0, .slice none 0 0, .slice none 0 0, .slice none 0 0], rfl, Nat.le_refl _, ?_, Nat.le_refl _, by unfold maxLen; omega, rfl, rfl⟩⟩
  simp [World.alloc, -World.alloc_eq, bookR]
theorem St7.start {B p b : Nat} {w w' : World} (h : Skp B p [] w) (hb : Below w.heap.size w w') (hbook : Own B w' [bookR b (List.replicate 28 (.slice none 0 0))]) (hpb : p ≠ b) : St7 B p b [] [] [] (.slice none 0 0) (.slice none 0 0) [] [] [] w' := by
  have h1 := h.below hb
  have hm : ∀ k ∈ ksOf p [] (.slice none 0 0) (.slice none 0 0) [], k = p := fun k hk => by simpa [ksOf, foot, hd, ob] using hk
  refine ⟨h1, row_nil _ _ _, fun _ => rfl, row_nil _ _ _, by simp [ksOf, foot, hd, ob], fun k hk => ?_, Book.start hbook (fun k hk => by rw [hm k hk]; exact hpb)⟩
  have e := hm k hk
  subst e
  exact ⟨h1.base k (by simp [foot, hd]), h1.lst.hdlt⟩
theorem cut_uniq {k : ByteArray} {s : Int} {ns P Q P' Q' : List Nd} (h : Cut k s ns P Q) (h' : Cut k s ns P' Q') : P = P' ∧ Q = Q' := by
  have e : P ++ Q = P' ++ Q' := h.all.symm.trans h'.all
  rcases List.append_eq_append_iff.1 e with ⟨a, h1, h2⟩ | ⟨a, h1, h2⟩
  · cases a with
    | nil => exact ⟨by simpa using h1.symm, by simpa using h2⟩
    | cons y r => exact absurd (h'.ahead y (by rw [h1]; simp)) (h.behind y (by rw [h2]; simp))
  · cases a with
    | nil => exact ⟨by simpa using h1, by simpa using h2.symm⟩
    | cons y r => exact absurd (h.ahead y (by rw [h1]; simp)) (h'.behind y (by rw [h2]; simp))
section
variable {B p b : Nat} {ns : List Nd} {T : List Tw} {rv tv : Value} {ex : List Nat} {xs rd : List (Value × List ElEntries)} {w w' : World}
theorem ents_len (ns : List Nd) : (entsOf ns).length = ns.length := by simp [entsOf]
theorem key9 {x : Ent} (h : x.k.size ≤ maxLen) : x.k.size ≤ 9223372036854775807 := by unfold maxLen at h; omega
/-- The document's Insert into the list, told in the words of what Put does. -/
theorem St7.ins (h : St7 B p b ns (entsOf ns) T rv tv [] xs rd w) (x : Ent) (hx : x.Nice) (hl : ns.length ≤ 100000) :
    Calls Tryz.prog 8 #[rv, .agg #[.string x.k, .int .u64 x.s, .int .i64 x.n, .string x.v]] w fun e w' => ∃ (v : Value) (t : Bool), e = .returned (.tuple #[v, .bool t]) ∧ (t = false ↔ ∃ y ∈ ns, same2 y.e x) ∧ Below w.heap.size w w' ∧
      (t = true → (∀ k, ob v = some k → w.heap.size ≤ k) ∧ (∀ k, ob v = some k → k < w'.heap.size) ∧ ∀ P Q, Cut x.k x.s ns P Q → Row w' 32 4 v (ns.length + 1) (cellsE (entsOf P ++ x :: entsOf Q))) := by
  obtain ⟨P, Q, hc⟩ := cut_of x.k x.s ns h.skp.right.ord
  have hk : ∀ y ∈ entsOf ns, y.k.size ≤ 9223372036854775807 := fun y hy => by
    obtain ⟨n, hn, rfl⟩ := mem_entsOf.1 hy
    exact Nat.le_trans (h.skp.right.fit n hn).1 (by omega)
  refine (insert_any rv (entsOf ns) (entsOf P) (entsOf Q) x w h.rrow h.rnil (by rw [ents_len]; omega) (cutE_ents hc) hk (key9 hx.1)).mono ?_
  rintro e w' ⟨hb, ⟨ht, rfl⟩ | ⟨ht, v, rfl, hr, ho⟩⟩
  · refine ⟨rv, false, rfl, ⟨fun _ => ?_, fun _ => rfl⟩, hb, fun h0 => by cases h0⟩
    rw [thereE_ents] at ht
    exact (there_iff h.skp.right.ord hc).1 ht
  · refine ⟨v, true, rfl, ⟨fun h0 => (by cases h0), fun h0 => ?_⟩, hb, fun _ => ⟨ho, fun k hk => hr.lt k hk, fun P' Q' hc' => ?_⟩⟩
    · rw [thereE_ents, (there_iff h.skp.right.ord hc).2 h0] at ht
      cases ht
    · have hcut := cut_uniq hc hc'
      rw [← hcut.1, ← hcut.2, ← ents_len ns]
      exact hr
end
end Go.Proofs.YthaalhigmihijaaGreat
