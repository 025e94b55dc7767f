/- The Book of lists of versions and of pairs; rows beside it. -/
import Derived.Test.YtcbailiniigcnaaGreatOaEP
import Derived.Test.YtcbailiniigcnaaGreatV8
import Derived.Test.YtcbailiniigcnaaGreatVB14
namespace Go.Proofs.YtcbailiniigcnaaGreat
open Go.RowKit

def elT (q : ByteArray × ByteArray) : ElPairs := ⟨q.1, q.2⟩
theorem cells_elT (ts : List (ByteArray × ByteArray)) : cellsPairs (ts.map elT) = cellsQ ts := by
  unfold cellsPairs cellsQ
  rw [List.flatMap_def, List.map_map]
  rfl
theorem cells_elN {es : List Ent} (h : ∀ x ∈ es, 0 ≤ x.s) : cellsEntries (es.map elOf) = cellsE es := by
  unfold cellsEntries cellsE
  rw [List.flatMap_def, List.map_map]
  congr 1
  refine List.map_congr_left fun x hx => ?_
  exact elOf_cells (h x hx)
theorem okT_row {w : World} {v : Value} {ts : List (ByteArray × ByteArray)} {B : Nat} (h : Row w 58 2 v ts.length (cellsQ ts)) (hb : ∀ k, ob v = some k → B ≤ k) : (rwPairs (v, ts.map elT)).ok B w := by
  refine ⟨?_, hb⟩
  show Row w 58 2 v (ts.map elT).length (cellsPairs (ts.map elT))
  rw [cells_elT, List.length_map]
  exact h
theorem okN_row {w : World} {v : Value} {es : List Ent} {B : Nat} (h : Row w 56 4 v es.length (cellsE es)) (hp : ∀ x ∈ es, 0 ≤ x.s) (hb : ∀ k, ob v = some k → B ≤ k) : (rwEntries (v, es.map elOf)).ok B w := by
  refine ⟨?_, hb⟩
  show Row w 56 4 v (es.map elOf).length (cellsEntries (es.map elOf))
  rw [cells_elN hp, List.length_map]
  exact h
def bookL (b : Nat) (cs : List Value) (VI WI : Value) (rowsI wasI : List (Value × List ElEntries)) (VT WT : Value) (rowsT wasT : List (Value × List ElPairs)) (xs : List (Value × List ElPairs)) (ys : List (Value × List ElEntries)) (G : List Rw) : List Rw :=
  bookR b cs :: (keptEntries VI WI rowsI wasI ++ (keptPairs VT WT rowsT wasT ++ (xs.map rwPairs ++ (ys.map rwEntries ++ G))))
structure BookC (cs : List Value) (VI WI VT WT : Value) : Prop where
  i0 : cs[6]? = some VI
  i1 : cs[7]? = some WI
  e0 : cs[8]? = some VT
  e1 : cs[9]? = some WT
  rest : ∀ j, isNilOaEP j = true → cs[j]? = some (.slice none 0 0)
def Book (B b : Nat) (ks : List Nat) (xs : List (Value × List ElPairs)) (ys : List (Value × List ElEntries)) (rt : List (Value × List ElPairs)) (ri : List (Value × List ElEntries)) (w : World) : Prop :=
  ∃ (cs : List Value) (VI WI : Value) (rowsI wasI : List (Value × List ElEntries)) (VT WT : Value) (rowsT wasT : List (Value × List ElPairs)) (G : List Rw),
    Own B w (bookL b cs VI WI rowsI wasI VT WT rowsT wasT xs ys G) ∧ BookC cs VI WI VT WT ∧ FitsEntries rowsI wasI ∧ FitsPairs rowsT wasT ∧
    (∀ k ∈ ks, ∀ r ∈ bookL b cs VI WI rowsI wasI VT WT rowsT wasT xs ys G, vob r.v ≠ some k) ∧
    (∀ r ∈ rt, rwPairs r ∈ rowsT.map rwPairs ++ (xs.map rwPairs ++ (ys.map rwEntries ++ G))) ∧
    (∀ r ∈ ri, rwEntries r ∈ rowsI.map rwEntries ++ (xs.map rwPairs ++ (ys.map rwEntries ++ G)))
section
variable {B b : Nat} {ks : List Nat} {xs rt : List (Value × List ElPairs)} {ys ri : List (Value × List ElEntries)} {w w' : World}
theorem Book.below (h : Book B b ks xs ys rt ri w) (hb : Below w.heap.size w w') : Book B b ks xs ys rt ri w' := by
  obtain ⟨cs, VI, WI, rI, aI, VT, WT, rT, aT, G, h1, h2⟩ := h
  exact ⟨cs, VI, WI, rI, aI, VT, WT, rT, aT, G, h1.below hb, h2⟩
theorem Book.other (h : Book B b ks xs ys rt ri w) {ls : List Nat} (hl : ∀ k ∈ ls, k ∈ ks ∨ w.heap.size ≤ k) : Book B b ls xs ys rt ri w := by
  obtain ⟨cs, VI, WI, rI, aI, VT, WT, rT, aT, G, h1, h2, h3, h4, h5, h6⟩ := h
  refine ⟨cs, VI, WI, rI, aI, VT, WT, rT, aT, G, h1, h2, h3, h4, fun k hk r hr he => ?_, h6⟩
  rcases hl k hk with h | h
  · exact h5 k h r hr he
  · have := ((h1.1 r hr).lt k he).2
    omega
theorem Book.forget (h : Book B b ks xs ys rt ri w) : Book B b ks xs ys [] [] w := by
  obtain ⟨cs, VI, WI, rI, aI, VT, WT, rT, aT, G, h1, h2, h3, h4, h5, h6, h7⟩ := h
  exact ⟨cs, VI, WI, rI, aI, VT, WT, rT, aT, G, h1, h2, h3, h4, h5, (fun r hr => by cases hr), fun r hr => by cases hr⟩
theorem Book.readT (h : Book B b ks xs ys rt ri w) {r : Value × List ElPairs} (hr : r ∈ rt) : (rwPairs r).ok B w := by
  obtain ⟨cs, VI, WI, rI, aI, VT, WT, rT, aT, G, h1, h2, h3, h4, h5, h6, h7⟩ := h
  have hm := h6 r hr
  have : (rwPairs r).ok B w := h1.1 _ (by
    unfold bookL keptPairs
    simp only [List.mem_append, List.mem_cons] at hm ⊢
    rcases hm with hm | hm | hm | hm
    · exact .inr (.inr (.inl (.inl hm)))
    · exact .inr (.inr (.inr (.inl hm)))
    · exact .inr (.inr (.inr (.inr (.inl hm))))
    · exact .inr (.inr (.inr (.inr (.inr hm)))))
  exact this
theorem Book.readI (h : Book B b ks xs ys rt ri w) {r : Value × List ElEntries} (hr : r ∈ ri) : (rwEntries r).ok B w := by
  obtain ⟨cs, VI, WI, rI, aI, VT, WT, rT, aT, G, h1, h2, h3, h4, h5, h6, h7⟩ := h
  have hm := h7 r hr
  have : (rwEntries r).ok B w := h1.1 _ (by
    unfold bookL keptEntries
    simp only [List.mem_append, List.mem_cons] at hm ⊢
    rcases hm with hm | hm | hm | hm
    · exact .inr (.inl (.inl hm))
    · exact .inr (.inr (.inr (.inl hm)))
    · exact .inr (.inr (.inr (.inr (.inl hm))))
    · exact .inr (.inr (.inr (.inr (.inr hm)))))
  exact this
theorem Book.rowT (h : Book B b ks xs ys rt ri w) (hb : Below w.heap.size w w') {v : Value} {zs : List ElPairs} (hr : (rwPairs (v, zs)).ok w.heap.size w') (hB : B ≤ w.heap.size) (hks : ∀ k ∈ ks, k < w.heap.size) : Book B b ks ((v, zs) :: xs) ys rt ri w' := by
  obtain ⟨cs, VI, WI, rI, aI, VT, WT, rT, aT, G, h1, h2, h3, h4, h5, h6, h7⟩ := h
  have hn := Own.new h1 hb hr hB
  have hp : (rwPairs (v, zs) :: bookL b cs VI WI rI aI VT WT rT aT xs ys G).Perm (bookL b cs VI WI rI aI VT WT rT aT ((v, zs) :: xs) ys G) := by
    unfold bookL
    rw [List.map_cons]
    classical
    rw [List.perm_iff_count]
    intro a
    simp only [List.count_append, List.count_cons]
    omega
  refine ⟨cs, VI, WI, rI, aI, VT, WT, rT, aT, G, hn.perm hp, h2, h3, h4, fun k hk r hm he => ?_, fun r hm => ?_, fun r hm => ?_⟩
  · rcases List.mem_cons.1 (hp.mem_iff.2 hm) with rfl | hm
    · have := (hr.lt k he).1
      have := hks k hk
      omega
    · exact h5 k hk r hm he
  · have := h6 r hm
    simp only [List.map_cons, List.mem_append, List.mem_cons] at this ⊢
    rcases this with h | h | h
    · exact .inl h
    · exact .inr (.inl (.inr h))
    · exact .inr (.inr h)
  · have := h7 r hm
    simp only [List.map_cons, List.mem_append, List.mem_cons] at this ⊢
    rcases this with h | h | h
    · exact .inl h
    · exact .inr (.inl (.inr h))
    · exact .inr (.inr h)
theorem Book.rowI (h : Book B b ks xs ys rt ri w) (hb : Below w.heap.size w w') {v : Value} {zs : List ElEntries} (hr : (rwEntries (v, zs)).ok w.heap.size w') (hB : B ≤ w.heap.size) (hks : ∀ k ∈ ks, k < w.heap.size) : Book B b ks xs ((v, zs) :: ys) rt ri w' := by
  obtain ⟨cs, VI, WI, rI, aI, VT, WT, rT, aT, G, h1, h2, h3, h4, h5, h6, h7⟩ := h
  have hn := Own.new h1 hb hr hB
  have hp : (rwEntries (v, zs) :: bookL b cs VI WI rI aI VT WT rT aT xs ys G).Perm (bookL b cs VI WI rI aI VT WT rT aT xs ((v, zs) :: ys) G) := by
    unfold bookL
    rw [List.map_cons]
    classical
    rw [List.perm_iff_count]
    intro a
    simp only [List.count_append, List.count_cons]
    omega
  refine ⟨cs, VI, WI, rI, aI, VT, WT, rT, aT, G, hn.perm hp, h2, h3, h4, fun k hk r hm he => ?_, fun r hm => ?_, fun r hm => ?_⟩
  · rcases List.mem_cons.1 (hp.mem_iff.2 hm) with rfl | hm
    · have := (hr.lt k he).1
      have := hks k hk
      omega
    · exact h5 k hk r hm he
  · have := h6 r hm
    simp only [List.map_cons, List.mem_append, List.mem_cons] at this ⊢
    rcases this with h | h | h | h
    · exact .inl h
    · exact .inr (.inl h)
    · exact .inr (.inr (.inl (.inr h)))
    · exact .inr (.inr (.inr h))
  · have := h7 r hm
    simp only [List.map_cons, List.mem_append, List.mem_cons] at this ⊢
    rcases this with h | h | h | h
    · exact .inl h
    · exact .inr (.inl h)
    · exact .inr (.inr (.inl (.inr h)))
    · exact .inr (.inr (.inr h))
theorem Book.start (hown : Own B w (bookR b (List.replicate 28 (.slice none 0 0)) :: [])) : Book B b [] [] [] [] [] w := by
  have hn : ∀ j, j < 28 → (List.replicate 28 (Value.slice none 0 0))[j]? = some (.slice none 0 0) := fun j hj => by rw [List.getElem?_replicate, if_pos hj]
  refine ⟨_, .slice none 0 0, .slice none 0 0, [], [], .slice none 0 0, .slice none 0 0, [], [], [], ?_, ⟨hn 6 (by omega), hn 7 (by omega), hn 8 (by omega), hn 9 (by omega), fun j hj => hn j (by simp [isNilOaEP] at hj; exact hj.1)⟩, FitsEntries.nil, FitsPairs.nil, (fun k hk => by cases hk), (fun r hr => by cases hr), fun r hr => by cases hr⟩
  have h1 := (((hown.addNil 26 1).addNil 26 1).addNil 45 1).addNil 45 1
  refine h1.perm ?_
  unfold bookL keptEntries keptPairs outREntries outRPairs
  classical
  rw [List.perm_iff_count]
  intro a
  simp only [List.map_nil, List.count_append, List.count_cons, List.count_nil, List.length_nil]
  omega
end
theorem set_getB {cs : List Value} {i j : Nat} {V : Value} (h : i ≠ j) : (cs.set i V)[j]? = cs[j]? := List.getElem?_set_ne h
theorem set_sameB {cs : List Value} {i : Nat} {V U : Value} (h : cs[i]? = some U) : (cs.set i V)[i]? = some V := by
  rw [List.getElem?_set_self (List.getElem?_eq_some_iff.1 h).1]
theorem isNil_neB {j : Nat} (h : isNilOaEP j = true) : j ≠ 6 ∧ j ≠ 7 ∧ j ≠ 8 ∧ j ≠ 9 := by
  simp [isNilOaEP] at h
  omega
theorem BookC.setT {cs : List Value} {VI WI VT WT : Value} (h : BookC cs VI WI VT WT) (V W : Value) : BookC ((cs.set 8 V).set 9 W) VI WI V W where
  i0 := by rw [set_getB (by decide), set_getB (by decide)]; exact h.i0
  i1 := by rw [set_getB (by decide), set_getB (by decide)]; exact h.i1
  e0 := by rw [set_getB (by decide)]; exact set_sameB h.e0
  e1 := set_sameB (U := WT) (by rw [set_getB (by decide)]; exact h.e1)
  rest := fun j hj => by
    obtain ⟨h2, h3, h6, h7⟩ := isNil_neB hj
    rw [set_getB (fun e => h7 e.symm), set_getB (fun e => h6 e.symm)]
    exact h.rest j hj
theorem BookC.setI {cs : List Value} {VI WI VT WT : Value} (h : BookC cs VI WI VT WT) (V W : Value) : BookC ((cs.set 6 V).set 7 W) V W VT WT where
  i0 := by rw [set_getB (by decide)]; exact set_sameB h.i0
  i1 := set_sameB (U := WI) (by rw [set_getB (by decide)]; exact h.i1)
  e0 := by rw [set_getB (by decide), set_getB (by decide)]; exact h.e0
  e1 := by rw [set_getB (by decide), set_getB (by decide)]; exact h.e1
  rest := fun j hj => by
    obtain ⟨h2, h3, h6, h7⟩ := isNil_neB hj
    rw [set_getB (fun e => h3 e.symm), set_getB (fun e => h2 e.symm)]
    exact h.rest j hj
theorem photo_offB {B : Nat} {w w' : World} {ks : List Nat} {rs : List Rw} (h : Own B w' (photo w ks ++ rs)) : ∀ k ∈ ks, ∀ r ∈ rs, vob r.v ≠ some k := by
  intro k hk r hr he
  have := (List.pairwise_append.1 h.2).2.2 _ (List.mem_map.2 ⟨k, hk, rfl⟩) r hr
  unfold Rw.off at this
  rcases this with h | h
  · cases h
  · exact h he.symm
section
variable {B b : Nat} {ks : List Nat} {A C xs rt : List (Value × List ElPairs)} {A2 C2 ys ri : List (Value × List ElEntries)} {v : Value} {zs : List ElPairs} {zi : List ElEntries} {w : World}
theorem Book.addT (h : Book B b ks (A ++ (v, zs) :: C) ys rt ri w) (hz : zs.length ≤ 100000) (hB : B ≤ w.heap.size) (hnd : ks.Nodup) (hks : ∀ k ∈ ks, B ≤ k ∧ k < w.heap.size) :
    Calls Tryz.prog 12 #[.pointer (some ⟨b, 0, none⟩), v] w fun e w' => e = .returned (.tuple #[]) ∧ Book B b ks (A ++ C) ys ((v, zs) :: rt) ri w' ∧ (∀ k ∈ ks, w'.heap[k]? = w.heap[k]?) ∧ Below B w w' := by
  obtain ⟨cs, VI, WI, rI, aI, VT, WT, rT, aT, G, h1, h2, h3, h4, h5, h6, h7⟩ := h
  have hw := h1.withPhoto hnd hks h5
  by_cases hl : rT.length < 250
  · have hp : (photo w ks ++ bookL b cs VI WI rI aI VT WT rT aT (A ++ (v, zs) :: C) ys G).Perm (rwPairs (v, zs) :: (bookR b cs :: (keptPairs VT WT rT aT ++ (photo w ks ++ (keptEntries VI WI rI aI ++ (A.map rwPairs ++ (C.map rwPairs ++ (ys.map rwEntries ++ G)))))))) := by
      unfold bookL
      rw [List.map_append, List.map_cons]
      classical
      rw [List.perm_iff_count]
      intro a
      simp only [List.count_append, List.count_cons]
      omega
    refine (addPairs_tot (hw.perm hp) h2.e0 h2.e1 h4 hl (by omega) hB).mono ?_
    rintro e w' ⟨rfl, hb, V', W', v', ho⟩
    have hq : (bookR b ((cs.set 8 V').set 9 W') :: (keptPairs V' W' (rT ++ [(v, zs)]) (aT ++ [(v', zs)]) ++ (photo w ks ++ (keptEntries VI WI rI aI ++ (A.map rwPairs ++ (C.map rwPairs ++ (ys.map rwEntries ++ G))))))).Perm (photo w ks ++ bookL b ((cs.set 8 V').set 9 W') VI WI rI aI V' W' (rT ++ [(v, zs)]) (aT ++ [(v', zs)]) (A ++ C) ys G) := by
      unfold bookL
      rw [List.map_append (l₁ := A)]
      classical
      rw [List.perm_iff_count]
      intro a
      simp only [List.count_append, List.count_cons]
      omega
    have ho' := ho.perm hq
    refine ⟨rfl, ⟨_, VI, WI, rI, aI, V', W', _, _, G, ho'.sub (List.sublist_append_right _ _), h2.setT V' W', h3, h4.add v v' zs hl hz, photo_offB ho', fun r hr => ?_, fun r hr => ?_⟩, photo_back ho' (fun r hr => List.mem_append_left _ hr) (fun k hk => (hks k hk).2), hb⟩
    · rcases List.mem_cons.1 hr with rfl | hr
      · simp
      · have := h6 r hr
        simp only [List.map_append, List.map_cons, List.map_nil, List.mem_append, List.mem_cons, List.not_mem_nil, or_false] at this ⊢
        rcases this with h | (h | h | h) | h
        · exact .inl (.inl h)
        · exact .inr (.inl (.inl h))
        · exact .inl (.inr h)
        · exact .inr (.inl (.inr h))
        · exact .inr (.inr h)
    · have := h7 r hr
      simp only [List.map_append, List.map_cons, List.mem_append, List.mem_cons] at this ⊢
      rcases this with h | (h | h | h) | h
      · exact .inl h
      · exact .inr (.inl (.inl h))
      · exact absurd h (by intro e; have := congrArg Rw.size e; simp [rwEntries, rwPairs] at this)
      · exact .inr (.inl (.inr h))
      · exact .inr (.inr h)
  · refine (fullPairs_tot (R := keptEntries VI WI rI aI ++ ((A ++ (v, zs) :: C).map rwPairs ++ (ys.map rwEntries ++ G))) v (h1.perm (by unfold bookL; exact perm_two _ _ _ _)) h2.e0 (by omega) (by have := h4.len; omega)).mono ?_
    rintro e w' ⟨rfl, rfl⟩
    have hp : (bookL b cs VI WI rI aI VT WT rT aT (A ++ (v, zs) :: C) ys G).Perm (bookL b cs VI WI rI aI VT WT rT aT (A ++ C) ys (rwPairs (v, zs) :: G)) := by
      unfold bookL
      rw [List.map_append, List.map_cons, List.map_append]
      classical
      rw [List.perm_iff_count]
      intro a
      simp only [List.count_append, List.count_cons]
      omega
    refine ⟨rfl, ⟨cs, VI, WI, rI, aI, VT, WT, rT, aT, rwPairs (v, zs) :: G, h1.perm hp, h2, h3, h4, fun k hk r hr => h5 k hk r (hp.mem_iff.2 hr), fun r hr => ?_, fun r hr => ?_⟩, fun _ _ => rfl, Below.refl _ _⟩
    · rcases List.mem_cons.1 hr with rfl | hr
      · simp
      · have := h6 r hr
        simp only [List.map_append, List.map_cons, List.mem_append, List.mem_cons] at this ⊢
        rcases this with h | (h | h | h) | h | h
        · exact .inl h
        · exact .inr (.inl (.inl h))
        · exact .inr (.inr (.inr (.inl h)))
        · exact .inr (.inl (.inr h))
        · exact .inr (.inr (.inl h))
        · exact .inr (.inr (.inr (.inr h)))
    · have := h7 r hr
      simp only [List.map_append, List.map_cons, List.mem_append, List.mem_cons] at this ⊢
      rcases this with h | (h | h | h) | h | h
      · exact .inl h
      · exact .inr (.inl (.inl h))
      · exact .inr (.inr (.inr (.inl h)))
      · exact .inr (.inl (.inr h))
      · exact .inr (.inr (.inl h))
      · exact .inr (.inr (.inr (.inr h)))
theorem Book.addI (h : Book B b ks xs (A2 ++ (v, zi) :: C2) rt ri w) (hz : zi.length ≤ 100000) (hB : B ≤ w.heap.size) (hnd : ks.Nodup) (hks : ∀ k ∈ ks, B ≤ k ∧ k < w.heap.size) :
    Calls Tryz.prog 11 #[.pointer (some ⟨b, 0, none⟩), v] w fun e w' => e = .returned (.tuple #[]) ∧ Book B b ks xs (A2 ++ C2) rt ((v, zi) :: ri) w' ∧ (∀ k ∈ ks, w'.heap[k]? = w.heap[k]?) ∧ Below B w w' := by
  obtain ⟨cs, VI, WI, rI, aI, VT, WT, rT, aT, G, h1, h2, h3, h4, h5, h6, h7⟩ := h
  have hw := h1.withPhoto hnd hks h5
  by_cases hl : rI.length < 250
  · have hp : (photo w ks ++ bookL b cs VI WI rI aI VT WT rT aT xs (A2 ++ (v, zi) :: C2) G).Perm (rwEntries (v, zi) :: (bookR b cs :: (keptEntries VI WI rI aI ++ (photo w ks ++ (keptPairs VT WT rT aT ++ (xs.map rwPairs ++ (A2.map rwEntries ++ (C2.map rwEntries ++ G)))))))) := by
      unfold bookL
      rw [List.map_append, List.map_cons]
      classical
      rw [List.perm_iff_count]
      intro a
      simp only [List.count_append, List.count_cons]
      omega
    refine (addEntries_tot (hw.perm hp) h2.i0 h2.i1 h3 hl (by omega) hB).mono ?_
    rintro e w' ⟨rfl, hb, V', W', v', ho⟩
    have hq : (bookR b ((cs.set 6 V').set 7 W') :: (keptEntries V' W' (rI ++ [(v, zi)]) (aI ++ [(v', zi)]) ++ (photo w ks ++ (keptPairs VT WT rT aT ++ (xs.map rwPairs ++ (A2.map rwEntries ++ (C2.map rwEntries ++ G))))))).Perm (photo w ks ++ bookL b ((cs.set 6 V').set 7 W') V' W' (rI ++ [(v, zi)]) (aI ++ [(v', zi)]) VT WT rT aT xs (A2 ++ C2) G) := by
      unfold bookL
      rw [List.map_append (l₁ := A2)]
      classical
      rw [List.perm_iff_count]
      intro a
      simp only [List.count_append, List.count_cons]
      omega
    have ho' := ho.perm hq
    refine ⟨rfl, ⟨_, V', W', _, _, VT, WT, rT, aT, G, ho'.sub (List.sublist_append_right _ _), h2.setI V' W', h3.add v v' zi hl hz, h4, photo_offB ho', fun r hr => ?_, fun r hr => ?_⟩, photo_back ho' (fun r hr => List.mem_append_left _ hr) (fun k hk => (hks k hk).2), hb⟩
    · have := h6 r hr
      simp only [List.map_append, List.map_cons, List.mem_append, List.mem_cons] at this ⊢
      rcases this with h | h | (h | h | h) | h
      · exact .inl h
      · exact .inr (.inl h)
      · exact .inr (.inr (.inl (.inl h)))
      · exact absurd h (by intro e; have := congrArg Rw.size e; simp [rwEntries, rwPairs] at this)
      · exact .inr (.inr (.inl (.inr h)))
      · exact .inr (.inr (.inr h))
    · rcases List.mem_cons.1 hr with rfl | hr
      · simp
      · have := h7 r hr
        simp only [List.map_append, List.map_cons, List.map_nil, List.mem_append, List.mem_cons, List.not_mem_nil, or_false] at this ⊢
        rcases this with h | h | (h | h | h) | h
        · exact .inl (.inl h)
        · exact .inr (.inl h)
        · exact .inr (.inr (.inl (.inl h)))
        · exact .inl (.inr h)
        · exact .inr (.inr (.inl (.inr h)))
        · exact .inr (.inr (.inr h))
  · refine (fullEntries_tot (R := keptPairs VT WT rT aT ++ (xs.map rwPairs ++ ((A2 ++ (v, zi) :: C2).map rwEntries ++ G))) v h1 h2.i0 (by omega) (by have := h3.len; omega)).mono ?_
    rintro e w' ⟨rfl, rfl⟩
    have hp : (bookL b cs VI WI rI aI VT WT rT aT xs (A2 ++ (v, zi) :: C2) G).Perm (bookL b cs VI WI rI aI VT WT rT aT xs (A2 ++ C2) (rwEntries (v, zi) :: G)) := by
      unfold bookL
      rw [List.map_append, List.map_cons, List.map_append]
      classical
      rw [List.perm_iff_count]
      intro a
      simp only [List.count_append, List.count_cons]
      omega
    refine ⟨rfl, ⟨cs, VI, WI, rI, aI, VT, WT, rT, aT, rwEntries (v, zi) :: G, h1.perm hp, h2, h3, h4, fun k hk r hr => h5 k hk r (hp.mem_iff.2 hr), fun r hr => ?_, fun r hr => ?_⟩, fun _ _ => rfl, Below.refl _ _⟩
    · have := h6 r hr
      simp only [List.map_append, List.map_cons, List.mem_append, List.mem_cons] at this ⊢
      rcases this with h | h | (h | h | h) | h
      · exact .inl h
      · exact .inr (.inl h)
      · exact .inr (.inr (.inl (.inl h)))
      · exact .inr (.inr (.inr (.inl h)))
      · exact .inr (.inr (.inl (.inr h)))
      · exact .inr (.inr (.inr (.inr h)))
    · rcases List.mem_cons.1 hr with rfl | hr
      · simp
      · have := h7 r hr
        simp only [List.map_append, List.map_cons, List.mem_append, List.mem_cons] at this ⊢
        rcases this with h | h | (h | h | h) | h
        · exact .inl h
        · exact .inr (.inl h)
        · exact .inr (.inr (.inl (.inl h)))
        · exact .inr (.inr (.inr (.inl h)))
        · exact .inr (.inr (.inl (.inr h)))
        · exact .inr (.inr (.inr (.inr h)))
theorem Book.apart (h : Book B b ks xs ys rt ri w) (hB : B ≤ w.heap.size) :
    Calls Tryz.prog 19 #[.pointer (some ⟨b, 0, none⟩)] w fun e w' => e = .returned (.bool true) ∧ Below B w w' := by
  obtain ⟨cs, VI, WI, rI, aI, VT, WT, rT, aT, G, h1, h2, h3, h4, h5, h6, h7⟩ := h
  exact apartOaEP_any B b cs VI WI rI aI VT WT rT aT _ w h1 h2.i0 h2.i1 h3 h2.e0 h2.e1 h4 h2.rest hB
end
theorem book_newB (B : Nat) (w : World) (hB : B ≤ w.heap.size) : Own B (w.alloc (.cells #[.slice none 0 0, .slice none 0 0, .slice none 0 0, .slice none 0 0, .slice none 0 0, .slice none 0 0, .slice none 0 0, .slice none 0 0, .slice none 0 0, .slice none 0 0, .slice none 0 0, .slice none 0 0, .slice none 0 0, .slice none 0 0, .slice none 0 0, .slice none 0 0, .slice none 0 0, .slice none 0 0, .slice none 0 0, .slice none 0 0, .slice none 0 0, .slice none 0 0, .slice none 0 0, .slice none 0 0, .slice none 0 0, .slice none 0 0, .slice none 0 0, .slice none 0 0] 42)) [bookR w.heap.size (List.replicate 28 (.slice none 0 0))] := by
  have h0 : Own B w [] := Own.nil B w
  refine h0.new (r := bookR w.heap.size (List.replicate 28 (.slice none 0 0))) ((Below.refl _ _).alloc (Nat.le_refl _) _) ?_ hB
  refine ⟨⟨rfl, .inr ⟨w.heap.size, 0, #[.slice none 0 0, .slice none 0 0, .slice none 0 0, .slice none 0 0, .slice none 0 0, .slice none 0 0, .slice none 0 0, .slice none 0 0, .slice none 0 0, .slice none 0 0, .slice none 0 0, .slice none 0 0, .slice none 0 0, .slice none 0 0, .slice none 0 0, .slice none 0 0, .slice none 0 0, .slice none 0 0, .slice none 0 0, .slice none 0 0, .slice none 0 0, .slice none 0 0, .slice none 0 0, .slice none 0 0, .slice none 0 0, .slice none 0 0, .slice none 0 0, .slice none 0 0], rfl, ?_, Nat.le_refl _, by unfold maxLen; omega, rfl, rfl⟩⟩, fun k hk => by cases hk; exact Nat.le_refl _⟩
  simp [World.alloc, -World.alloc_eq, bookR]

/-- The Book, rows beside it, and blocks of which something is known. -/
structure St12 (B b : Nat) (ks : List Nat) (P : World → Prop) (xs : List (Value × List ElPairs)) (ys : List (Value × List ElEntries)) (rt : List (Value × List ElPairs)) (ri : List (Value × List ElEntries)) (w : World) : Prop where
  bk : Book B b ks xs ys rt ri w
  nd : ks.Nodup
  lo : ∀ k ∈ ks, B ≤ k ∧ k < w.heap.size
  p : P w
  kp : ∀ a c : World, (∀ k ∈ ks, c.heap[k]? = a.heap[k]?) → P a → P c
  sz : B ≤ w.heap.size
section
variable {B b : Nat} {ks : List Nat} {P : World → Prop} {xs rt : List (Value × List ElPairs)} {ys ri : List (Value × List ElEntries)} {w w' : World}
theorem St12.below (h : St12 B b ks P xs ys rt ri w) (hb : Below w.heap.size w w') : St12 B b ks P xs ys rt ri w' :=
  ⟨h.bk.below hb, h.nd, fun k hk => ⟨(h.lo k hk).1, Nat.lt_of_lt_of_le (h.lo k hk).2 hb.size⟩, h.kp w w' (fun k hk => hb.block k (h.lo k hk).2) h.p, h.kp, Nat.le_trans h.sz hb.size⟩
/-- New blocks of which something is known. -/
theorem St12.more (h : St12 B b ks P xs ys rt ri w) (hb : Below w.heap.size w w') (ls : List Nat) (Q : World → Prop) (hn : ls.Nodup) (hl : ∀ k ∈ ls, w.heap.size ≤ k ∧ k < w'.heap.size) (hq : Q w') (kq : ∀ a c : World, (∀ k ∈ ls, c.heap[k]? = a.heap[k]?) → Q a → Q c) : St12 B b (ls ++ ks) (fun W => P W ∧ Q W) xs ys rt ri w' := by
  have h1 := h.below hb
  refine ⟨(h.bk.other (ls := ls ++ ks) (fun k hk => ?_)).below hb, List.nodup_append.2 ⟨hn, h.nd, fun a ha c hc e => ?_⟩, fun k hk => ?_, ⟨h1.p, hq⟩, fun a c hk hp => ⟨h.kp a c (fun k q => hk k (List.mem_append_right _ q)) hp.1, kq a c (fun k q => hk k (List.mem_append_left _ q)) hp.2⟩, h1.sz⟩
  · rcases List.mem_append.1 hk with q | q
    · exact .inr (hl k q).1
    · exact .inl q
  · subst e
    have a1 := (hl _ ha).1
    have a2 := (h.lo _ hc).2
    omega
  · rcases List.mem_append.1 hk with q | q
    · exact ⟨Nat.le_trans h.sz (hl k q).1, (hl k q).2⟩
    · exact h1.lo k q
theorem St12.imp {Q : World → Prop} (h : St12 B b ks P xs ys rt ri w) (hq : ∀ W, P W → Q W) (hb : ∀ W, Q W → P W) : St12 B b ks Q xs ys rt ri w :=
  ⟨h.bk, h.nd, h.lo, hq w h.p, fun a c hk q => hq c (h.kp a c hk (hb a q)), h.sz⟩
theorem St12.rowT (h : St12 B b ks P xs ys rt ri w) (hb : Below w.heap.size w w') {v : Value} {ts : List (ByteArray × ByteArray)} (hr : NewR w.heap.size w' 58 2 v ts.length (cellsQ ts)) : St12 B b ks P ((v, ts.map elT) :: xs) ys rt ri w' := by
  have h1 := h.below hb
  exact ⟨h.bk.rowT hb (okT_row hr.row hr.new) h.sz (fun k hk => (h.lo k hk).2), h1.nd, h1.lo, h1.p, h1.kp, h1.sz⟩
theorem St12.rowI (h : St12 B b ks P xs ys rt ri w) (hb : Below w.heap.size w w') {v : Value} {es : List Ent} (hr : NewR w.heap.size w' 56 4 v es.length (cellsE es)) (hp : ∀ x ∈ es, 0 ≤ x.s) : St12 B b ks P xs ((v, es.map elOf) :: ys) rt ri w' := by
  have h1 := h.below hb
  exact ⟨h.bk.rowI hb (okN_row hr.row hp hr.new) h.sz (fun k hk => (h.lo k hk).2), h1.nd, h1.lo, h1.p, h1.kp, h1.sz⟩
theorem St12.addT {A C : List (Value × List ElPairs)} {v : Value} {zs : List ElPairs} (h : St12 B b ks P (A ++ (v, zs) :: C) ys rt ri w) (hz : zs.length ≤ 100000) :
    Calls Tryz.prog 12 #[.pointer (some ⟨b, 0, none⟩), v] w fun e w' => e = .returned (.tuple #[]) ∧ St12 B b ks P (A ++ C) ys ((v, zs) :: rt) ri w' ∧ Below B w w' := by
  refine (Book.addT h.bk hz h.sz h.nd h.lo).mono ?_
  rintro e w' ⟨rfl, h1, h2, h3⟩
  exact ⟨rfl, ⟨h1, h.nd, fun k hk => ⟨(h.lo k hk).1, Nat.lt_of_lt_of_le (h.lo k hk).2 h3.size⟩, h.kp w w' h2 h.p, h.kp, Nat.le_trans h.sz h3.size⟩, h3⟩
theorem St12.addI {A C : List (Value × List ElEntries)} {v : Value} {zs : List ElEntries} (h : St12 B b ks P xs (A ++ (v, zs) :: C) rt ri w) (hz : zs.length ≤ 100000) :
    Calls Tryz.prog 11 #[.pointer (some ⟨b, 0, none⟩), v] w fun e w' => e = .returned (.tuple #[]) ∧ St12 B b ks P xs (A ++ C) rt ((v, zs) :: ri) w' ∧ Below B w w' := by
  refine (Book.addI h.bk hz h.sz h.nd h.lo).mono ?_
  rintro e w' ⟨rfl, h1, h2, h3⟩
  exact ⟨rfl, ⟨h1, h.nd, fun k hk => ⟨(h.lo k hk).1, Nat.lt_of_lt_of_le (h.lo k hk).2 h3.size⟩, h.kp w w' h2 h.p, h.kp, Nat.le_trans h.sz h3.size⟩, h3⟩
end
theorem St12.pairs {B b : Nat} {ks : List Nat} {P : World → Prop} {xs rt : List (Value × List ElPairs)} {ys ri : List (Value × List ElEntries)} {w : World} {v : Value} {ts : List (ByteArray × ByteArray)} (h : St12 B b ks P xs ys rt ri w) (hr : (v, ts.map elT) ∈ rt) : Row w 58 2 v ts.length (cellsQ ts) := by
  have hk : Row w 58 2 v (ts.map elT).length (cellsPairs (ts.map elT)) := (h.bk.readT hr).row rfl
  rw [cells_elT, List.length_map] at hk
  exact hk
theorem St12.ents {B b : Nat} {ks : List Nat} {P : World → Prop} {xs rt : List (Value × List ElPairs)} {ys ri : List (Value × List ElEntries)} {w : World} {v : Value} {es : List Ent} (h : St12 B b ks P xs ys rt ri w) (hr : (v, es.map elOf) ∈ ri) (hp : ∀ x ∈ es, 0 ≤ x.s) : Row w 56 4 v es.length (cellsE es) := by
  have hk : Row w 56 4 v (es.map elOf).length (cellsEntries (es.map elOf)) := (h.bk.readI hr).row rfl
  rw [cells_elN hp, List.length_map] at hk
  exact hk
end Go.Proofs.YtcbailiniigcnaaGreat
