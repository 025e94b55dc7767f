/- The Book: one more list; Apart. -/
import Derived.Test.YthaalhigmihijaaGreatYK
namespace Go.Proofs.YthaalhigmihijaaGreat
open Go.RowKit

theorem set_get {cs : List Value} {i j : Nat} {V : Value} (h : i ≠ j) : (cs.set i V)[j]? = cs[j]? := List.getElem?_set_ne h
theorem set_same {cs : List Value} {i : Nat} {V U : Value} (h : cs[i]? = some U) : (cs.set i V)[i]? = some V := by
  rw [List.getElem?_set_self (List.getElem?_eq_some_iff.1 h).1]
theorem isNil_ne {j : Nat} (h : isNilAaIE j = true) : j ≠ 2 ∧ j ≠ 3 ∧ j ≠ 6 ∧ j ≠ 7 := by
  simp [isNilAaIE] at h
  omega
theorem BookC.setE {cs : List Value} {VI WI VE WE : Value} (h : BookC cs VI WI VE WE) (V W : Value) : BookC ((cs.set 6 V).set 7 W) VI WI V W where
  i0 := by rw [set_get (by decide), set_get (by decide)]; exact h.i0
  i1 := by rw [set_get (by decide), set_get (by decide)]; exact h.i1
  e0 := by rw [set_get (by decide)]; exact set_same h.e0
  e1 := set_same (U := WE) (by rw [set_get (by decide)]; exact h.e1)
  rest := fun j hj => by
    obtain ⟨h2, h3, h6, h7⟩ := isNil_ne hj
    rw [set_get (fun e => h7 e.symm), set_get (fun e => h6 e.symm)]
    exact h.rest j hj
theorem BookC.setI {cs : List Value} {VI WI VE WE : Value} (h : BookC cs VI WI VE WE) (V W : Value) : BookC ((cs.set 2 V).set 3 W) V W VE WE where
  i0 := by rw [set_get (by decide)]; exact set_same h.i0
  i1 := set_same (U := WI) (by rw [set_get (by decide)]; exact h.i1)
  e0 := by rw [set_get (by decide), set_get (by decide)]; exact h.e0
  e1 := by rw [set_get (by decide), set_get (by decide)]; exact h.e1
  rest := fun j hj => by
    obtain ⟨h2, h3, h6, h7⟩ := isNil_ne hj
    rw [set_get (fun e => h3 e.symm), set_get (fun e => h2 e.symm)]
    exact h.rest j hj
theorem photo_off {B : Nat} {w w' : World} {ks : List Nat} {rs : List Rw} (h : Own B w' (photo w ks ++ rs)) : ∀ k ∈ ks, ∀ r ∈ rs, r.v.ownBlock ≠ some k := by
  intro k hk r hr he
  have := (List.pairwise_append.1 h.2).2.2 _ (List.mem_map.2 ⟨k, hk, rfl⟩) r hr
  unfold Rw.off at this
  rcases this with h | h
  · cases h
  · exact h he.symm
section
variable {B b : Nat} {ks : List Nat} {A C xs rd : List (Value × List ElEntries)} {v : Value} {zs : List ElEntries} {zi : List Int} {w0 w : World}
theorem Book.addE (h : Book B b ks (A ++ (v, zs) :: C) rd w) (hz : zs.length ≤ 100000) (hB : B ≤ w.heap.size) (hnd : ks.Nodup) (hks : ∀ k ∈ ks, B ≤ k ∧ k < w.heap.size) :
    Calls Tryz.prog 13 #[.pointer (some ⟨b, 0, none⟩), v] w fun e w' => e = .returned (.tuple #[]) ∧ Book B b ks (A ++ C) ((v, zs) :: rd) w' ∧ (∀ k ∈ ks, w'.heap[k]? = w.heap[k]?) ∧ Below B w w' := by
  obtain ⟨cs, VI, WI, rI, aI, VE, WE, rE, aE, G, h1, h2, h3, h4, h5, h6⟩ := h
  have hw := h1.withPhoto hnd hks h5
  by_cases hl : rE.length < 250
  · have hp : (photo w ks ++ bookL b cs VI WI rI aI VE WE rE aE (A ++ (v, zs) :: C) G).Perm (rwEntries (v, zs) :: (bookR b cs :: (keptEntries VE WE rE aE ++ (photo w ks ++ (keptInts VI WI rI aI ++ (A.map rwEntries ++ (C.map rwEntries ++ G))))))) := by
      unfold bookL
      rw [List.map_append, List.map_cons]
      classical
      rw [List.perm_iff_count]
      intro a
      simp only [List.count_append, List.count_cons]
      omega
    refine (addEntries_tot (hw.perm hp) h2.e0 h2.e1 h4 hl (by omega) hB).mono ?_
    rintro e w' ⟨rfl, hb, V', W', v', ho⟩
    have hq : (bookR b ((cs.set 6 V').set 7 W') :: (keptEntries V' W' (rE ++ [(v, zs)]) (aE ++ [(v', zs)]) ++ (photo w ks ++ (keptInts VI WI rI aI ++ (A.map rwEntries ++ (C.map rwEntries ++ G)))))).Perm (photo w ks ++ bookL b ((cs.set 6 V').set 7 W') VI WI rI aI V' W' (rE ++ [(v, zs)]) (aE ++ [(v', zs)]) (A ++ C) G) := by
      unfold bookL
      rw [List.map_append (l₁ := A)]
      classical
      rw [List.perm_iff_count]
      intro a
      simp only [List.count_append, List.count_cons]
      omega
    have ho' := ho.perm hq
    refine ⟨rfl, ⟨_, VI, WI, rI, aI, V', W', _, _, G, ho'.sub (List.sublist_append_right _ _), h2.setE V' W', h3, h4.add v v' zs hl hz, photo_off ho', fun r hr => ?_⟩, photo_back ho' (fun r hr => List.mem_append_left _ hr) (fun k hk => (hks k hk).2), hb⟩
    rcases List.mem_cons.1 hr with rfl | hr
    · simp
    · have := h6 r hr
      simp only [List.map_append, List.map_cons, List.map_nil, List.mem_append, List.mem_cons, List.not_mem_nil, or_false] at this ⊢
      rcases this with h | (h | h | h) | h
      · exact .inl (.inl h)
      · exact .inr (.inl (.inl h))
      · exact .inl (.inr h)
      · exact .inr (.inl (.inr h))
      · exact .inr (.inr h)
  · refine (fullEntries_tot (R := keptInts VI WI rI aI ++ ((A ++ (v, zs) :: C).map rwEntries ++ G)) v (h1.perm (by unfold bookL; exact perm_two _ _ _ _)) h2.e0 (by omega) (by have := h4.len; omega)).mono ?_
    rintro e w' ⟨rfl, rfl⟩
    have hp : (bookL b cs VI WI rI aI VE WE rE aE (A ++ (v, zs) :: C) G).Perm (bookL b cs VI WI rI aI VE WE rE aE (A ++ C) (rwEntries (v, zs) :: G)) := by
      unfold bookL
      rw [List.map_append, List.map_cons, List.map_append]
      classical
      rw [List.perm_iff_count]
      intro a
      simp only [List.count_append, List.count_cons]
      omega
    refine ⟨rfl, ⟨cs, VI, WI, rI, aI, VE, WE, rE, aE, rwEntries (v, zs) :: G, h1.perm hp, h2, h3, h4, fun k hk r hr => h5 k hk r (hp.mem_iff.2 hr), fun r hr => ?_⟩, fun _ _ => rfl, Below.refl _ _⟩
    rcases List.mem_cons.1 hr with rfl | hr
    · simp
    · have := h6 r hr
      simp only [List.map_append, List.map_cons, List.mem_append, List.mem_cons] at this ⊢
      rcases this with h | (h | h | h) | h
      · exact .inl h
      · exact .inr (.inl (.inl h))
      · exact .inr (.inr (.inl h))
      · exact .inr (.inl (.inr h))
      · exact .inr (.inr (.inr h))
theorem Book.addI (h : Book B b ks xs rd w0) (hb0 : Below w0.heap.size w0 w) (hr0 : (rwInts (v, zi)).ok w0.heap.size w) (hz : zi.length ≤ 100000) (hB0 : B ≤ w0.heap.size) (hnd : ks.Nodup) (hks : ∀ k ∈ ks, B ≤ k ∧ k < w0.heap.size) :
    Calls Tryz.prog 20 #[.pointer (some ⟨b, 0, none⟩), v] w fun e w' => e = .returned (.tuple #[]) ∧ Book B b ks xs rd w' ∧ Rd w' v zi.length (cellsInts zi) ∧ (∀ k ∈ ks, w'.heap[k]? = w.heap[k]?) ∧ Below B w w' := by
  obtain ⟨cs, VI, WI, rI, aI, VE, WE, rE, aE, G, h1, h2, h3, h4, h5, h6⟩ := h
  have hB : B ≤ w.heap.size := Nat.le_trans hB0 hb0.size
  have hks' : ∀ k ∈ ks, B ≤ k ∧ k < w.heap.size := fun k hk => ⟨(hks k hk).1, Nat.lt_of_lt_of_le (hks k hk).2 hb0.size⟩
  have hn := Own.new h1 hb0 hr0 hB0
  have h5' : ∀ k ∈ ks, ∀ r ∈ rwInts (v, zi) :: bookL b cs VI WI rI aI VE WE rE aE xs G, r.v.ownBlock ≠ some k := fun k hk r hr he => by
    rcases List.mem_cons.1 hr with rfl | hr
    · have := (hr0.lt k he).1
      have := (hks k hk).2
      omega
    · exact h5 k hk r hr he
  have hw := hn.withPhoto hnd hks' h5'
  by_cases hl : rI.length < 250
  · have hp : (photo w ks ++ (rwInts (v, zi) :: bookL b cs VI WI rI aI VE WE rE aE xs G)).Perm (rwInts (v, zi) :: (bookR b cs :: (keptInts VI WI rI aI ++ (photo w ks ++ (keptEntries VE WE rE aE ++ (xs.map rwEntries ++ G)))))) := by
      unfold bookL
      classical
      rw [List.perm_iff_count]
      intro a
      simp only [List.count_append, List.count_cons]
      omega
    refine (addInts_tot (hw.perm hp) h2.i0 h2.i1 h3 hl (by omega) hB).mono ?_
    rintro e w' ⟨rfl, hb, V', W', v', ho⟩
    have hq : (bookR b ((cs.set 2 V').set 3 W') :: (keptInts V' W' (rI ++ [(v, zi)]) (aI ++ [(v', zi)]) ++ (photo w ks ++ (keptEntries VE WE rE aE ++ (xs.map rwEntries ++ G))))).Perm (photo w ks ++ bookL b ((cs.set 2 V').set 3 W') V' W' (rI ++ [(v, zi)]) (aI ++ [(v', zi)]) VE WE rE aE xs G) := by
      unfold bookL
      classical
      rw [List.perm_iff_count]
      intro a
      simp only [List.count_append, List.count_cons]
      omega
    have ho' := ho.perm hq
    refine ⟨rfl, ⟨_, V', W', _, _, VE, WE, rE, aE, G, ho'.sub (List.sublist_append_right _ _), h2.setI V' W', h3.add v v' zi hl hz, h4, photo_off ho', h6⟩, ?_, photo_back ho' (fun r hr => List.mem_append_left _ hr) (fun k hk => (hks' k hk).2), hb⟩
    exact (ho.1 (rwInts (v, zi)) (by simp [keptInts])).rd
  · refine (fullInts_tot (R := keptEntries VE WE rE aE ++ (xs.map rwEntries ++ G)) v hn.tail h2.i0 (by omega) (by have := h3.len; omega)).mono ?_
    rintro e w' ⟨rfl, rfl⟩
    refine ⟨rfl, ⟨cs, VI, WI, rI, aI, VE, WE, rE, aE, G, hn.tail, h2, h3, h4, h5, h6⟩, hn.head.rd, fun _ _ => rfl, Below.refl _ _⟩
theorem Book.apart (h : Book B b ks xs rd w) (hB : B ≤ w.heap.size) :
    Calls Tryz.prog 24 #[.pointer (some ⟨b, 0, none⟩)] w fun e w' => e = .returned (.bool true) ∧ Below B w w' := by
  obtain ⟨cs, VI, WI, rI, aI, VE, WE, rE, aE, G, h1, h2, h3, h4, h5, h6⟩ := h
  exact apartAaIE_any B b cs VI WI rI aI VE WE rE aE _ w h1 h2.i0 h2.i1 h3 h2.e0 h2.e1 h4 h2.rest hB
end
end Go.Proofs.YthaalhigmihijaaGreat
