/- The Book of a statement that keeps versions and ints, beside blocks that stay. -/
import Derived.Test.YthaalhigmihijaaGreatYJ
namespace Go.Proofs.YthaalhigmihijaaGreat
open Go.RowKit

def bookL (b : Nat) (cs : List Value) (VI WI : Value) (rowsI wasI : List (Value × List Int)) (VE WE : Value) (rowsE wasE : List (Value × List ElEntries)) (xs : List (Value × List ElEntries)) (G : List Rw) : List Rw :=
  bookR b cs :: (keptInts VI WI rowsI wasI ++ (keptEntries VE WE rowsE wasE ++ (xs.map rwEntries ++ G)))
structure BookC (cs : List Value) (VI WI VE WE : Value) : Prop where
  i0 : cs[2]? = some VI
  i1 : cs[3]? = some WI
  e0 : cs[6]? = some VE
  e1 : cs[7]? = some WE
  rest : ∀ j, isNilAaIE j = true → cs[j]? = some (.slice none 0 0)
def Book (B b : Nat) (ks : List Nat) (xs rd : List (Value × List ElEntries)) (w : World) : Prop :=
  ∃ (cs : List Value) (VI WI : Value) (rowsI wasI : List (Value × List Int)) (VE WE : Value) (rowsE wasE : List (Value × List ElEntries)) (G : List Rw),
    Own B w (bookL b cs VI WI rowsI wasI VE WE rowsE wasE xs G) ∧ BookC cs VI WI VE WE ∧ FitsInts rowsI wasI ∧ FitsEntries rowsE wasE ∧
    (∀ k ∈ ks, ∀ r ∈ bookL b cs VI WI rowsI wasI VE WE rowsE wasE xs G, r.v.ownBlock ≠ some k) ∧
    (∀ r ∈ rd, rwEntries r ∈ rowsE.map rwEntries ++ (xs.map rwEntries ++ G))
section
variable {B b : Nat} {ks : List Nat} {xs rd : List (Value × List ElEntries)} {w w' : World}
theorem Book.below (h : Book B b ks xs rd w) (hb : Below w.heap.size w w') : Book B b ks xs rd w' := by
  obtain ⟨cs, VI, WI, rI, aI, VE, WE, rE, aE, G, h1, h2⟩ := h
  exact ⟨cs, VI, WI, rI, aI, VE, WE, rE, aE, G, h1.below hb, h2⟩
theorem Book.turned (h : Book B b ks xs rd w) (ht : Turn ks w w') : Book B b ks xs rd w' := by
  obtain ⟨cs, VI, WI, rI, aI, VE, WE, rE, aE, G, h1, h2, h3, h4, h5, h6⟩ := h
  refine ⟨cs, VI, WI, rI, aI, VE, WE, rE, aE, G, h1.keep (fun r hr k hk => ht.block k ((h1.1 r hr).lt k hk).2 (fun hm => h5 k hm r hr hk)), h2, h3, h4, h5, h6⟩
theorem Book.other (h : Book B b ks xs rd w) {ls : List Nat} (hl : ∀ k ∈ ls, k ∈ ks ∨ w.heap.size ≤ k) : Book B b ls xs rd w := by
  obtain ⟨cs, VI, WI, rI, aI, VE, WE, rE, aE, G, h1, h2, h3, h4, h5, h6⟩ := h
  refine ⟨cs, VI, WI, rI, aI, VE, WE, rE, aE, G, h1, h2, h3, h4, fun k hk r hr he => ?_, h6⟩
  rcases hl k hk with h | h
  · exact h5 k h r hr he
  · have := ((h1.1 r hr).lt k he).2
    omega
theorem Book.forget (h : Book B b ks xs rd w) : Book B b ks xs [] w := by
  obtain ⟨cs, VI, WI, rI, aI, VE, WE, rE, aE, G, h1, h2, h3, h4, h5, h6⟩ := h
  exact ⟨cs, VI, WI, rI, aI, VE, WE, rE, aE, G, h1, h2, h3, h4, h5, fun r hr => by cases hr⟩
theorem Book.read (h : Book B b ks xs rd w) {r : Value × List ElEntries} (hr : r ∈ rd) : Rd w r.1 r.2.length (cellsEntries r.2) := by
  obtain ⟨cs, VI, WI, rI, aI, VE, WE, rE, aE, G, h1, h2, h3, h4, h5, h6⟩ := h
  have hm := h6 r hr
  have : (rwEntries r).ok B w := h1.1 _ (by
    unfold bookL keptEntries
    simp only [List.mem_append, List.mem_cons] at hm ⊢
    rcases hm with hm | hm | hm
    · exact .inr (.inr (.inl (.inl hm)))
    · exact .inr (.inr (.inr (.inl hm)))
    · exact .inr (.inr (.inr (.inr hm))))
  exact this.rd
theorem Book.row (h : Book B b ks xs rd w) (hb : Below w.heap.size w w') {v : Value} {zs : List ElEntries} (hr : (rwEntries (v, zs)).ok w.heap.size w') (hB : B ≤ w.heap.size) (hks : ∀ k ∈ ks, k < w.heap.size) : Book B b ks ((v, zs) :: xs) rd w' := by
  obtain ⟨cs, VI, WI, rI, aI, VE, WE, rE, aE, G, h1, h2, h3, h4, h5, h6⟩ := h
  have hn := Own.new h1 hb hr hB
  have hp : (rwEntries (v, zs) :: bookL b cs VI WI rI aI VE WE rE aE xs G).Perm (bookL b cs VI WI rI aI VE WE rE aE ((v, zs) :: xs) G) := by
    unfold bookL
    rw [List.map_cons]
    classical
    rw [List.perm_iff_count]
    intro a
    simp only [List.count_append, List.count_cons]
    omega
  refine ⟨cs, VI, WI, rI, aI, VE, WE, rE, aE, G, hn.perm hp, h2, h3, h4, fun k hk r hm he => ?_, fun r hm => ?_⟩
  · rcases List.mem_cons.1 (hp.mem_iff.2 hm) with rfl | hm
    · have := (hr.lt k he).1
      have := hks k hk
      omega
    · exact h5 k hk r hm he
  · have := h6 r hm
    simp only [List.map_cons, List.mem_append, List.mem_cons] at this ⊢
    rcases this with h | h | h
    · exact .inl h
    · exact .inr (.inl (.inr h))
    · exact .inr (.inr h)
theorem Book.start (hown : Own B w (bookR b (List.replicate 28 (.slice none 0 0)) :: [])) (hks : ∀ k ∈ ks, k ≠ b) : Book B b ks [] [] w := by
  have hn : ∀ j, j < 28 → (List.replicate 28 (Value.slice none 0 0))[j]? = some (.slice none 0 0) := fun j hj => by rw [List.getElem?_replicate, if_pos hj]
  refine ⟨_, .slice none 0 0, .slice none 0 0, [], [], .slice none 0 0, .slice none 0 0, [], [], [], ?_, ⟨hn 2 (by omega), hn 3 (by omega), hn 6 (by omega), hn 7 (by omega), fun j hj => hn j (by simp [isNilAaIE] at hj; exact hj.1)⟩, FitsInts.nil, FitsEntries.nil, ?_, fun r hr => by cases hr⟩
  · have h1 := (((hown.addNil 23 1).addNil 23 1).addNil 22 1).addNil 22 1
    refine h1.perm ?_
    unfold bookL keptInts keptEntries outRInts outREntries
    classical
    rw [List.perm_iff_count]
    intro a
    simp only [List.map_nil, List.count_append, List.count_cons, List.count_nil, List.length_nil]
    omega
  · intro k hk r hr he
    simp only [bookL, keptInts, keptEntries, outRInts, outREntries, List.map_nil, List.nil_append, List.append_nil, List.mem_cons, List.mem_append, List.not_mem_nil, or_false] at hr
    rcases hr with rfl | (rfl | rfl) | (rfl | rfl)
    · exact hks k hk (by simpa [bookR, Value.ownBlock] using he.symm)
    all_goals (simp [Value.ownBlock] at he)
end
end Go.Proofs.YthaalhigmihijaaGreat
