/- The Book of a statement that keeps versions alone, beside blocks that stay. -/
import Derived.Test.YtopnbbchiglpoaaGreatAaE
import Derived.Test.YtopnbbchiglpoaaGreatBY
namespace Go.Proofs.YtopnbbchiglpoaaGreat
open Go.RowKit

theorem row_owns {w : World} {e : TypeId} {size B : Nat} {v : Value} {n : Nat} {xs : List Value} (h : Row w e size v n xs) (h0 : n = 0 → v = .slice none 0 0) (hb : ∀ b, ob v = some b → B ≤ b) : w.ownsRow B e size v n xs := by
  refine ⟨h.1, ?_⟩
  rcases h.2 with ⟨hn, -⟩ | ⟨g, cap, cur, rfl, hg, h1, h2, h3, h4⟩
  · exact .inl ⟨h0 hn, hn⟩
  · exact .inr ⟨g, cap + 1, cur, rfl, hb g rfl, hg, h1, h2, h3, h4⟩
theorem cells_el : ∀ (l : List Ent), (∀ x ∈ l, 0 ≤ x.s) → cellsEntries (l.map elOf) = cellsE l
  | [], _ => rfl
  | x :: l, h => by
    have ih := cells_el l (fun y hy => h y (List.mem_cons_of_mem _ hy))
    have hx := h x (by simp)
    have e : ((x.s.toNat : Nat) : Int) = x.s := by omega
    rw [List.map_cons]
    have h1 : cellsEntries (elOf x :: l.map elOf) = cellsEntries [elOf x] ++ cellsEntries (l.map elOf) := by rw [← cellsEntries_append]; rfl
    have h2 : cellsE (x :: l) = x.cells ++ cellsE l := by simp [cellsE]
    rw [h1, h2, ih]
    congr 1
    simp [cellsEntries, ElEntries.cells, elOf, Ent.cells, e]
def bookL (b : Nat) (cs : List Value) (VE WE : Value) (rowsE wasE : List (Value × List ElEntries)) (xs : List (Value × List ElEntries)) (G : List Rw) : List Rw :=
  bookR b cs :: (keptEntries VE WE rowsE wasE ++ (xs.map rwEntries ++ G))
structure BookC (cs : List Value) (VE WE : Value) : Prop where
  e0 : cs[6]? = some VE
  e1 : cs[7]? = some WE
  rest : ∀ j, isNilAaE j = true → cs[j]? = some (.slice none 0 0)
def Book (B b : Nat) (ks : List Nat) (xs rd : List (Value × List ElEntries)) (w : World) : Prop :=
  ∃ (cs : List Value) (VE WE : Value) (rowsE wasE : List (Value × List ElEntries)) (G : List Rw),
    Own B w (bookL b cs VE WE rowsE wasE xs G) ∧ BookC cs VE WE ∧ FitsEntries rowsE wasE ∧
    (∀ k ∈ ks, ∀ r ∈ bookL b cs VE WE rowsE wasE xs G, r.v.ownBlock ≠ some k) ∧
    (∀ r ∈ rd, rwEntries r ∈ rowsE.map rwEntries ++ (xs.map rwEntries ++ G))
section
variable {B b : Nat} {ks : List Nat} {xs rd : List (Value × List ElEntries)} {w w' : World}
theorem Book.below (h : Book B b ks xs rd w) (hb : Below w.heap.size w w') : Book B b ks xs rd w' := by
  obtain ⟨cs, VE, WE, rE, aE, G, h1, h2⟩ := h
  exact ⟨cs, VE, WE, rE, aE, G, h1.below hb, h2⟩
theorem Book.turned (h : Book B b ks xs rd w) (ht : Turn ks w w') : Book B b ks xs rd w' := by
  obtain ⟨cs, VE, WE, rE, aE, G, h1, h2, h4, h5, h6⟩ := h
  refine ⟨cs, VE, WE, rE, aE, G, h1.keep (fun r hr k hk => ht.block k ((h1.1 r hr).lt k hk).2 (fun hm => h5 k hm r hr hk)), h2, h4, h5, h6⟩
theorem Book.other (h : Book B b ks xs rd w) {ls : List Nat} (hl : ∀ k ∈ ls, k ∈ ks ∨ w.heap.size ≤ k) : Book B b ls xs rd w := by
  obtain ⟨cs, VE, WE, rE, aE, G, h1, h2, h4, h5, h6⟩ := h
  refine ⟨cs, VE, WE, rE, aE, G, h1, h2, h4, fun k hk r hr he => ?_, h6⟩
  rcases hl k hk with h | h
  · exact h5 k h r hr he
  · have := ((h1.1 r hr).lt k he).2
    omega
theorem Book.forget (h : Book B b ks xs rd w) : Book B b ks xs [] w := by
  obtain ⟨cs, VE, WE, rE, aE, G, h1, h2, h4, h5, h6⟩ := h
  exact ⟨cs, VE, WE, rE, aE, G, h1, h2, h4, h5, fun r hr => by cases hr⟩
theorem Book.read (h : Book B b ks xs rd w) {r : Value × List ElEntries} (hr : r ∈ rd) : Rd w r.1 r.2.length (cellsEntries r.2) := by
  obtain ⟨cs, VE, WE, rE, aE, G, h1, h2, h4, h5, h6⟩ := h
  have hm := h6 r hr
  have : (rwEntries r).ok B w := h1.1 _ (by
    unfold bookL keptEntries
    simp only [List.mem_append, List.mem_cons] at hm ⊢
    rcases hm with hm | hm | hm
    · exact .inr (.inl (.inl hm))
    · exact .inr (.inr (.inl hm))
    · exact .inr (.inr (.inr hm)))
  exact this.rd
theorem Book.row (h : Book B b ks xs rd w) (hb : Below w.heap.size w w') {v : Value} {zs : List ElEntries} (hr : (rwEntries (v, zs)).ok w.heap.size w') (hB : B ≤ w.heap.size) (hks : ∀ k ∈ ks, k < w.heap.size) : Book B b ks ((v, zs) :: xs) rd w' := by
  obtain ⟨cs, VE, WE, rE, aE, G, h1, h2, h4, h5, h6⟩ := h
  have hn := Own.new h1 hb hr hB
  have hp : (rwEntries (v, zs) :: bookL b cs VE WE rE aE xs G).Perm (bookL b cs VE WE rE aE ((v, zs) :: xs) G) := by
    unfold bookL
    rw [List.map_cons]
    classical
    rw [List.perm_iff_count]
    intro a
    simp only [List.count_append, List.count_cons]
    omega
  refine ⟨cs, VE, WE, rE, aE, G, hn.perm hp, h2, h4, fun k hk r hm he => ?_, fun r hm => ?_⟩
  · rcases List.mem_cons.1 (hp.mem_iff.2 hm) with rfl | hm
    · have := (hr.lt k he).1
      have := hks k hk
      omega
    · exact h5 k hk r hm he
  · have := h6 r hm
    simp only [List.map_cons, List.mem_append, List.mem_cons] at this ⊢
    rcases this with h | h | h
    · exact .inl h
    · exact .inr (.inl (.inr h))
    · exact .inr (.inr h)
theorem Book.start (hown : Own B w (bookR b (List.replicate 28 (.slice none 0 0)) :: [])) (hks : ∀ k ∈ ks, k ≠ b) : Book B b ks [] [] w := by
  have hn : ∀ j, j < 28 → (List.replicate 28 (Value.slice none 0 0))[j]? = some (.slice none 0 0) := fun j hj => by rw [List.getElem?_replicate, if_pos hj]
  refine ⟨_, .slice none 0 0, .slice none 0 0, [], [], [], ?_, ⟨hn 6 (by omega), hn 7 (by omega), fun j hj => hn j (by simp [isNilAaE] at hj; exact hj.1)⟩, FitsEntries.nil, ?_, fun r hr => by cases hr⟩
  · have h1 := (hown.addNil 22 1).addNil 22 1
    refine h1.perm ?_
    unfold bookL keptEntries outREntries
    classical
    rw [List.perm_iff_count]
    intro a
    simp only [List.map_nil, List.count_append, List.count_cons, List.count_nil, List.length_nil]
    omega
  · intro k hk r hr he
    simp only [bookL, keptEntries, outREntries, List.map_nil, List.nil_append, List.append_nil, List.mem_cons, List.not_mem_nil, or_false] at hr
    rcases hr with rfl | rfl | rfl
    · exact hks k hk (by simpa [bookR, Value.ownBlock] using he.symm)
    all_goals (simp [Value.ownBlock] at he)
end
theorem set_get {cs : List Value} {i j : Nat} {V : Value} (h : i ≠ j) : (cs.set i V)[j]? = cs[j]? := List.getElem?_set_ne h
theorem set_same {cs : List Value} {i : Nat} {V U : Value} (h : cs[i]? = some U) : (cs.set i V)[i]? = some V := by
  rw [List.getElem?_set_self (List.getElem?_eq_some_iff.1 h).1]
theorem isNil_ne {j : Nat} (h : isNilAaE j = true) : j ≠ 6 ∧ j ≠ 7 := by
  simp [isNilAaE] at h
  omega
theorem BookC.setE {cs : List Value} {VE WE : Value} (h : BookC cs VE WE) (V W : Value) : BookC ((cs.set 6 V).set 7 W) V W where
  e0 := by rw [set_get (by decide)]; exact set_same h.e0
  e1 := set_same (U := WE) (by rw [set_get (by decide)]; exact h.e1)
  rest := fun j hj => by
    obtain ⟨h6, h7⟩ := isNil_ne hj
    rw [set_get (fun e => h7 e.symm), set_get (fun e => h6 e.symm)]
    exact h.rest j hj
theorem photo_off {B : Nat} {w w' : World} {ks : List Nat} {rs : List Rw} (h : Own B w' (photo w ks ++ rs)) : ∀ k ∈ ks, ∀ r ∈ rs, r.v.ownBlock ≠ some k := by
  intro k hk r hr he
  have := (List.pairwise_append.1 h.2).2.2 _ (List.mem_map.2 ⟨k, hk, rfl⟩) r hr
  unfold Rw.off at this
  rcases this with h | h
  · cases h
  · exact h he.symm
section
variable {B b : Nat} {ks : List Nat} {A C xs rd : List (Value × List ElEntries)} {v : Value} {zs : List ElEntries} {w0 w : World}
theorem Book.addE (h : Book B b ks (A ++ (v, zs) :: C) rd w) (hz : zs.length ≤ 100000) (hB : B ≤ w.heap.size) (hnd : ks.Nodup) (hks : ∀ k ∈ ks, B ≤ k ∧ k < w.heap.size) :
    Calls Tryz.prog 13 #[.pointer (some ⟨b, 0, none⟩), v] w fun e w' => e = .returned (.tuple #[]) ∧ Book B b ks (A ++ C) ((v, zs) :: rd) w' ∧ (∀ k ∈ ks, w'.heap[k]? = w.heap[k]?) ∧ Below B w w' := by
  obtain ⟨cs, VE, WE, rE, aE, G, h1, h2, h4, h5, h6⟩ := h
  have hw := h1.withPhoto hnd hks h5
  by_cases hl : rE.length < 250
  · have hp : (photo w ks ++ bookL b cs VE WE rE aE (A ++ (v, zs) :: C) G).Perm (rwEntries (v, zs) :: (bookR b cs :: (keptEntries VE WE rE aE ++ (photo w ks ++ (A.map rwEntries ++ (C.map rwEntries ++ G)))))) := by
      unfold bookL
      rw [List.map_append, List.map_cons]
      classical
      rw [List.perm_iff_count]
      intro a
      simp only [List.count_append, List.count_cons]
      omega
    refine (addEntries_tot (hw.perm hp) h2.e0 h2.e1 h4 hl (by omega) hB).mono ?_
    rintro e w' ⟨rfl, hb, V', W', v', ho⟩
    have hq : (bookR b ((cs.set 6 V').set 7 W') :: (keptEntries V' W' (rE ++ [(v, zs)]) (aE ++ [(v', zs)]) ++ (photo w ks ++ (A.map rwEntries ++ (C.map rwEntries ++ G))))).Perm (photo w ks ++ bookL b ((cs.set 6 V').set 7 W') V' W' (rE ++ [(v, zs)]) (aE ++ [(v', zs)]) (A ++ C) G) := by
      unfold bookL
      rw [List.map_append (l₁ := A)]
      classical
      rw [List.perm_iff_count]
      intro a
      simp only [List.count_append, List.count_cons]
      omega
    have ho' := ho.perm hq
    refine ⟨rfl, ⟨_, V', W', _, _, G, ho'.sub (List.sublist_append_right _ _), h2.setE V' W', h4.add v v' zs hl hz, photo_off ho', fun r hr => ?_⟩, photo_back ho' (fun r hr => List.mem_append_left _ hr) (fun k hk => (hks k hk).2), hb⟩
    rcases List.mem_cons.1 hr with rfl | hr
    · simp
    · have := h6 r hr
      simp only [List.map_append, List.map_cons, List.map_nil, List.mem_append, List.mem_cons, List.not_mem_nil, or_false] at this ⊢
      rcases this with h | (h | h | h) | h
      · exact .inl (.inl h)
      · exact .inr (.inl (.inl h))
      · exact .inl (.inr h)
      · exact .inr (.inl (.inr h))
      · exact .inr (.inr h)
  · refine (fullEntries_tot (R := (A ++ (v, zs) :: C).map rwEntries ++ G) v h1 h2.e0 (by omega) (by have := h4.len; omega)).mono ?_
    rintro e w' ⟨rfl, rfl⟩
    have hp : (bookL b cs VE WE rE aE (A ++ (v, zs) :: C) G).Perm (bookL b cs VE WE rE aE (A ++ C) (rwEntries (v, zs) :: G)) := by
      unfold bookL
      rw [List.map_append, List.map_cons, List.map_append]
      classical
      rw [List.perm_iff_count]
      intro a
      simp only [List.count_append, List.count_cons]
      omega
    refine ⟨rfl, ⟨cs, VE, WE, rE, aE, rwEntries (v, zs) :: G, h1.perm hp, h2, h4, fun k hk r hr => h5 k hk r (hp.mem_iff.2 hr), fun r hr => ?_⟩, fun _ _ => rfl, Below.refl _ _⟩
    rcases List.mem_cons.1 hr with rfl | hr
    · simp
    · have := h6 r hr
      simp only [List.map_append, List.map_cons, List.mem_append, List.mem_cons] at this ⊢
      rcases this with h | (h | h | h) | h
      · exact .inl h
      · exact .inr (.inl (.inl h))
      · exact .inr (.inr (.inl h))
      · exact .inr (.inl (.inr h))
      · exact .inr (.inr (.inr h))
theorem Book.apart (h : Book B b ks xs rd w) (hB : B ≤ w.heap.size) :
    Calls Tryz.prog 19 #[.pointer (some ⟨b, 0, none⟩)] w fun e w' => e = .returned (.bool true) ∧ Below B w w' := by
  obtain ⟨cs, VE, WE, rE, aE, G, h1, h2, h4, h5, h6⟩ := h
  exact apartAaE_any B b cs VE WE rE aE _ w h1 h2.e0 h2.e1 h4 h2.rest hB
end
end Go.Proofs.YtopnbbchiglpoaaGreat
