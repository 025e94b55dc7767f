/- NB ND in one -/
import Derived.Test.YtmcgfafkggannaaGreatOaIT
import Derived.Test.YtmcgfafkggannaaGreatJJ
import Derived.Test.YtmcgfafkggannaaGreatT12B
import Derived.Test.YtmcgfafkggannaaGreatT12C
namespace Go.Proofs.YtmcgfafkggannaaGreat
open Go.RowKit

def elT (x : Tb) : ElTables := ⟨x.n, x.lv, x.sz, x.f, x.l⟩
theorem cells_elT (ts : List Tb) : cellsTables (ts.map elT) = cellsT ts := by
  unfold cellsTables cellsT
  rw [List.flatMap_def, List.map_map]
  rfl
theorem cells_elN (ks : List Int) : cellsInts ks = cellsN ks := rfl
theorem okT_row {w : World} {v : Value} {ts : List Tb} {B : Nat} (h : RowB w v ts) (hb : ∀ k, ob v = some k → B ≤ k) : (rwTables (v, ts.map elT)).ok B w := by
  refine ⟨?_, hb⟩
  show Row w 80 5 v (ts.map elT).length (cellsTables (ts.map elT))
  rw [cells_elT, List.length_map]
  exact h
theorem okN_row {w : World} {v : Value} {ks : List Int} {B : Nat} (h : RowN w v ks) (hb : ∀ k, ob v = some k → B ≤ k) : (rwInts (v, ks)).ok B w := ⟨h, hb⟩
def bookL (b : Nat) (cs : List Value) (VI WI : Value) (rowsI wasI : List (Value × List Int)) (VT WT : Value) (rowsT wasT : List (Value × List ElTables)) (xs : List (Value × List ElTables)) (ys : List (Value × List Int)) (G : List Rw) : List Rw :=
  bookR b cs :: (keptInts VI WI rowsI wasI ++ (keptTables VT WT rowsT wasT ++ (xs.map rwTables ++ (ys.map rwInts ++ G))))
structure BookC (cs : List Value) (VI WI VT WT : Value) : Prop where
  i0 : cs[2]? = some VI
  i1 : cs[3]? = some WI
  e0 : cs[12]? = some VT
  e1 : cs[13]? = some WT
  rest : ∀ j, isNilOaIT j = true → cs[j]? = some (.slice none 0 0)
def Book (B b : Nat) (ks : List Nat) (xs : List (Value × List ElTables)) (ys : List (Value × List Int)) (rt : List (Value × List ElTables)) (ri : List (Value × List Int)) (w : World) : Prop :=
  ∃ (cs : List Value) (VI WI : Value) (rowsI wasI : List (Value × List Int)) (VT WT : Value) (rowsT wasT : List (Value × List ElTables)) (G : List Rw),
    Own B w (bookL b cs VI WI rowsI wasI VT WT rowsT wasT xs ys G) ∧ BookC cs VI WI VT WT ∧ FitsInts rowsI wasI ∧ FitsTables rowsT wasT ∧
    (∀ k ∈ ks, ∀ r ∈ bookL b cs VI WI rowsI wasI VT WT rowsT wasT xs ys G, vob r.v ≠ some k) ∧
    (∀ r ∈ rt, rwTables r ∈ rowsT.map rwTables ++ (xs.map rwTables ++ (ys.map rwInts ++ G))) ∧
    (∀ r ∈ ri, rwInts r ∈ rowsI.map rwInts ++ (xs.map rwTables ++ (ys.map rwInts ++ G)))
section
variable {B b : Nat} {ks : List Nat} {xs rt : List (Value × List ElTables)} {ys ri : List (Value × List Int)} {w w' : World}
theorem Book.below (h : Book B b ks xs ys rt ri w) (hb : Below w.heap.size w w') : Book B b ks xs ys rt ri w' := by
  obtain ⟨cs, VI, WI, rI, aI, VT, WT, rT, aT, G, h1, h2⟩ := h
  exact ⟨cs, VI, WI, rI, aI, VT, WT, rT, aT, G, h1.below hb, h2⟩
theorem Book.other (h : Book B b ks xs ys rt ri w) {ls : List Nat} (hl : ∀ k ∈ ls, k ∈ ks ∨ w.heap.size ≤ k) : Book B b ls xs ys rt ri w := by
  obtain ⟨cs, VI, WI, rI, aI, VT, WT, rT, aT, G, h1, h2, h3, h4, h5, h6⟩ := h
  refine ⟨cs, VI, WI, rI, aI, VT, WT, rT, aT, G, h1, h2, h3, h4, fun k hk r hr he => ?_, h6⟩
  rcases hl k hk with h | h
  · exact h5 k h r hr he
  · have := ((h1.1 r hr).lt k he).2
    omega
theorem Book.forget (h : Book B b ks xs ys rt ri w) : Book B b ks xs ys [] [] w := by
  obtain ⟨cs, VI, WI, rI, aI, VT, WT, rT, aT, G, h1, h2, h3, h4, h5, h6, h7⟩ := h
  exact ⟨cs, VI, WI, rI, aI, VT, WT, rT, aT, G, h1, h2, h3, h4, h5, (fun r hr => by cases hr), fun r hr => by cases hr⟩
theorem Book.readT (h : Book B b ks xs ys rt ri w) {r : Value × List ElTables} (hr : r ∈ rt) : (rwTables r).ok B w := by
  obtain ⟨cs, VI, WI, rI, aI, VT, WT, rT, aT, G, h1, h2, h3, h4, h5, h6, h7⟩ := h
  have hm := h6 r hr
  have : (rwTables r).ok B w := h1.1 _ (by
    unfold bookL keptTables
    simp only [List.mem_append, List.mem_cons] at hm ⊢
    rcases hm with hm | hm | hm | hm
    · exact .inr (.inr (.inl (.inl hm)))
    · exact .inr (.inr (.inr (.inl hm)))
    · exact .inr (.inr (.inr (.inr (.inl hm))))
    · exact .inr (.inr (.inr (.inr (.inr hm)))))
  exact this
theorem Book.readI (h : Book B b ks xs ys rt ri w) {r : Value × List Int} (hr : r ∈ ri) : (rwInts r).ok B w := by
  obtain ⟨cs, VI, WI, rI, aI, VT, WT, rT, aT, G, h1, h2, h3, h4, h5, h6, h7⟩ := h
  have hm := h7 r hr
  have : (rwInts r).ok B w := h1.1 _ (by
    unfold bookL keptInts
    simp only [List.mem_append, List.mem_cons] at hm ⊢
    rcases hm with hm | hm | hm | hm
    · exact .inr (.inl (.inl hm))
    · exact .inr (.inr (.inr (.inl hm)))
    · exact .inr (.inr (.inr (.inr (.inl hm))))
    · exact .inr (.inr (.inr (.inr (.inr hm)))))
  exact this
theorem Book.rowT (h : Book B b ks xs ys rt ri w) (hb : Below w.heap.size w w') {v : Value} {zs : List ElTables} (hr : (rwTables (v, zs)).ok w.heap.size w') (hB : B ≤ w.heap.size) (hks : ∀ k ∈ ks, k < w.heap.size) : Book B b ks ((v, zs) :: xs) ys rt ri w' := by
  obtain ⟨cs, VI, WI, rI, aI, VT, WT, rT, aT, G, h1, h2, h3, h4, h5, h6, h7⟩ := h
  have hn := Own.new h1 hb hr hB
  have hp : (rwTables (v, zs) :: bookL b cs VI WI rI aI VT WT rT aT xs ys G).Perm (bookL b cs VI WI rI aI VT WT rT aT ((v, zs) :: xs) ys G) := by
    unfold bookL
    rw [List.map_cons]
    classical
    rw [List.perm_iff_count]
    intro a
    simp only [List.count_append, List.count_cons]
    omega
  refine ⟨cs, VI, WI, rI, aI, VT, WT, rT, aT, G, hn.perm hp, h2, h3, h4, fun k hk r hm he => ?_, fun r hm => ?_, fun r hm => ?_⟩
  · rcases List.mem_cons.1 (hp.mem_iff.2 hm) with rfl | hm
    · have := (hr.lt k he).1
      have := hks k hk
      omega
    · exact h5 k hk r hm he
  · have := h6 r hm
    simp only [List.map_cons, List.mem_append, List.mem_cons] at this ⊢
    rcases this with h | h | h
    · exact .inl h
    · exact .inr (.inl (.inr h))
    · exact .inr (.inr h)
  · have := h7 r hm
    simp only [List.map_cons, List.mem_append, List.mem_cons] at this ⊢
    rcases this with h | h | h
    · exact .inl h
    · exact .inr (.inl (.inr h))
    · exact .inr (.inr h)
theorem Book.rowTI (h : Book B b ks xs ys rt ri w) (hb : Below w.heap.size w w') {v u : Value} {zs : List ElTables} {zi : List Int} (hr : (rwTables (v, zs)).ok w.heap.size w') (hi : (rwInts (u, zi)).ok w.heap.size w') (hn : ∀ k, ob v = some k → ob u ≠ some k) (hB : B ≤ w.heap.size) (hks : ∀ k ∈ ks, k < w.heap.size) : Book B b ks ((v, zs) :: xs) ((u, zi) :: ys) rt ri w' := by
  obtain ⟨cs, VI, WI, rI, aI, VT, WT, rT, aT, G, h1, h2, h3, h4, h5, h6, h7⟩ := h
  have hn1 := Own.new h1 hb hi hB
  have hn2 : Own B w' (rwTables (v, zs) :: rwInts (u, zi) :: bookL b cs VI WI rI aI VT WT rT aT xs ys G) := by
    refine hn1.more (hr.mono hB) (fun s hs => ?_)
    unfold Rw.off
    rcases List.mem_cons.1 hs with rfl | hs
    · cases hq : vob (rwTables (v, zs)).v with
      | none => exact .inl rfl
      | some k => exact .inr (fun e => hn k hq e.symm)
    · cases hq : vob (rwTables (v, zs)).v with
      | none => exact .inl rfl
      | some k =>
        refine .inr (fun e => ?_)
        have a1 := (hr.lt k hq).1
        have a2 := ((h1.1 s hs).lt k e.symm).2
        omega
  have hp : (rwTables (v, zs) :: rwInts (u, zi) :: bookL b cs VI WI rI aI VT WT rT aT xs ys G).Perm (bookL b cs VI WI rI aI VT WT rT aT ((v, zs) :: xs) ((u, zi) :: ys) G) := by
    unfold bookL
    rw [List.map_cons, List.map_cons]
    classical
    rw [List.perm_iff_count]
    intro a
    simp only [List.count_append, List.count_cons]
    omega
  refine ⟨cs, VI, WI, rI, aI, VT, WT, rT, aT, G, hn2.perm hp, h2, h3, h4, fun k hk r hm he => ?_, fun r hm => ?_, fun r hm => ?_⟩
  · rcases List.mem_cons.1 (hp.mem_iff.2 hm) with rfl | hm
    · have := (hr.lt k he).1
      have := hks k hk
      omega
    · rcases List.mem_cons.1 hm with rfl | hm
      · have := (hi.lt k he).1
        have := hks k hk
        omega
      · exact h5 k hk r hm he
  · have := h6 r hm
    simp only [List.map_cons, List.mem_append, List.mem_cons] at this ⊢
    rcases this with h | h | h | h
    · exact .inl h
    · exact .inr (.inl (.inr h))
    · exact .inr (.inr (.inl (.inr h)))
    · exact .inr (.inr (.inr h))
  · have := h7 r hm
    simp only [List.map_cons, List.mem_append, List.mem_cons] at this ⊢
    rcases this with h | h | h | h
    · exact .inl h
    · exact .inr (.inl (.inr h))
    · exact .inr (.inr (.inl (.inr h)))
    · exact .inr (.inr (.inr h))
theorem Book.start (hown : Own B w (bookR b (List.replicate 28 (.slice none 0 0)) :: [])) : Book B b [] [] [] [] [] w := by
  have hn : ∀ j, j < 28 → (List.replicate 28 (Value.slice none 0 0))[j]? = some (.slice none 0 0) := fun j hj => by rw [List.getElem?_replicate, if_pos hj]
  refine ⟨_, .slice none 0 0, .slice none 0 0, [], [], .slice none 0 0, .slice none 0 0, [], [], [], ?_, ⟨hn 2 (by omega), hn 3 (by omega), hn 12 (by omega), hn 13 (by omega), fun j hj => hn j (by simp [isNilOaIT] at hj; exact hj.1)⟩, FitsInts.nil, FitsTables.nil, (fun k hk => by cases hk), (fun r hr => by cases hr), fun r hr => by cases hr⟩
  have h1 := (((hown.addNil 26 1).addNil 26 1).addNil 23 1).addNil 23 1
  refine h1.perm ?_
  unfold bookL keptInts keptTables outRInts outRTables
  classical
  rw [List.perm_iff_count]
  intro a
  simp only [List.map_nil, List.count_append, List.count_cons, List.count_nil, List.length_nil]
  omega
end
theorem set_getB {cs : List Value} {i j : Nat} {V : Value} (h : i ≠ j) : (cs.set i V)[j]? = cs[j]? := List.getElem?_set_ne h
theorem set_sameB {cs : List Value} {i : Nat} {V U : Value} (h : cs[i]? = some U) : (cs.set i V)[i]? = some V := by
  rw [List.getElem?_set_self (List.getElem?_eq_some_iff.1 h).1]
theorem isNil_neB {j : Nat} (h : isNilOaIT j = true) : j ≠ 2 ∧ j ≠ 3 ∧ j ≠ 12 ∧ j ≠ 13 := by
  simp [isNilOaIT] at h
  omega
theorem BookC.setT {cs : List Value} {VI WI VT WT : Value} (h : BookC cs VI WI VT WT) (V W : Value) : BookC ((cs.set 12 V).set 13 W) VI WI V W where
  i0 := by rw [set_getB (by decide), set_getB (by decide)]; exact h.i0
  i1 := by rw [set_getB (by decide), set_getB (by decide)]; exact h.i1
  e0 := by rw [set_getB (by decide)]; exact set_sameB h.e0
  e1 := set_sameB (U := WT) (by rw [set_getB (by decide)]; exact h.e1)
  rest := fun j hj => by
    obtain ⟨h2, h3, h6, h7⟩ := isNil_neB hj
    rw [set_getB (fun e => h7 e.symm), set_getB (fun e => h6 e.symm)]
    exact h.rest j hj
theorem BookC.setI {cs : List Value} {VI WI VT WT : Value} (h : BookC cs VI WI VT WT) (V W : Value) : BookC ((cs.set 2 V).set 3 W) V W VT WT where
  i0 := by rw [set_getB (by decide)]; exact set_sameB h.i0
  i1 := set_sameB (U := WI) (by rw [set_getB (by decide)]; exact h.i1)
  e0 := by rw [set_getB (by decide), set_getB (by decide)]; exact h.e0
  e1 := by rw [set_getB (by decide), set_getB (by decide)]; exact h.e1
  rest := fun j hj => by
    obtain ⟨h2, h3, h6, h7⟩ := isNil_neB hj
    rw [set_getB (fun e => h3 e.symm), set_getB (fun e => h2 e.symm)]
    exact h.rest j hj
theorem photo_offB {B : Nat} {w w' : World} {ks : List Nat} {rs : List Rw} (h : Own B w' (photo w ks ++ rs)) : ∀ k ∈ ks, ∀ r ∈ rs, vob r.v ≠ some k := by
  intro k hk r hr he
  have := (List.pairwise_append.1 h.2).2.2 _ (List.mem_map.2 ⟨k, hk, rfl⟩) r hr
  unfold Rw.off at this
  rcases this with h | h
  · cases h
  · exact h he.symm
section
variable {B b : Nat} {ks : List Nat} {A C xs rt : List (Value × List ElTables)} {A2 C2 ys ri : List (Value × List Int)} {v : Value} {zs : List ElTables} {zi : List Int} {w : World}
theorem Book.addT (h : Book B b ks (A ++ (v, zs) :: C) ys rt ri w) (hz : zs.length ≤ 100000) (hB : B ≤ w.heap.size) (hnd : ks.Nodup) (hks : ∀ k ∈ ks, B ≤ k ∧ k < w.heap.size) :
    Calls Tryz.prog 18 #[.pointer (some ⟨b, 0, none⟩), v] w fun e w' => e = .returned (.tuple #[]) ∧ Book B b ks (A ++ C) ys ((v, zs) :: rt) ri w' ∧ (∀ k ∈ ks, w'.heap[k]? = w.heap[k]?) ∧ Below B w w' := by
  obtain ⟨cs, VI, WI, rI, aI, VT, WT, rT, aT, G, h1, h2, h3, h4, h5, h6, h7⟩ := h
  have hw := h1.withPhoto hnd hks h5
  by_cases hl : rT.length < 250
  · have hp : (photo w ks ++ bookL b cs VI WI rI aI VT WT rT aT (A ++ (v, zs) :: C) ys G).Perm (rwTables (v, zs) :: (bookR b cs :: (keptTables VT WT rT aT ++ (photo w ks ++ (keptInts VI WI rI aI ++ (A.map rwTables ++ (C.map rwTables ++ (ys.map rwInts ++ G)))))))) := by
      unfold bookL
      rw [List.map_append, List.map_cons]
      classical
      rw [List.perm_iff_count]
      intro a
      simp only [List.count_append, List.count_cons]
      omega
    refine (addTables_tot (hw.perm hp) h2.e0 h2.e1 h4 hl (by omega) hB).mono ?_
    rintro e w' ⟨rfl, hb, V', W', v', ho⟩
    have hq : (bookR b ((cs.set 12 V').set 13 W') :: (keptTables V' W' (rT ++ [(v, zs)]) (aT ++ [(v', zs)]) ++ (photo w ks ++ (keptInts VI WI rI aI ++ (A.map rwTables ++ (C.map rwTables ++ (ys.map rwInts ++ G))))))).Perm (photo w ks ++ bookL b ((cs.set 12 V').set 13 W') VI WI rI aI V' W' (rT ++ [(v, zs)]) (aT ++ [(v', zs)]) (A ++ C) ys G) := by
      unfold bookL
      rw [List.map_append (l₁ := A)]
      classical
      rw [List.perm_iff_count]
      intro a
      simp only [List.count_append, List.count_cons]
      omega
    have ho' := ho.perm hq
    refine ⟨rfl, ⟨_, VI, WI, rI, aI, V', W', _, _, G, ho'.sub (List.sublist_append_right _ _), h2.setT V' W', h3, h4.add v v' zs hl hz, photo_offB ho', fun r hr => ?_, fun r hr => ?_⟩, photo_back ho' (fun r hr => List.mem_append_left _ hr) (fun k hk => (hks k hk).2), hb⟩
    · rcases List.mem_cons.1 hr with rfl | hr
      · simp
      · have := h6 r hr
        simp only [List.map_append, List.map_cons, List.map_nil, List.mem_append, List.mem_cons, List.not_mem_nil, or_false] at this ⊢
        rcases this with h | (h | h | h) | h
        · exact .inl (.inl h)
        · exact .inr (.inl (.inl h))
        · exact .inl (.inr h)
        · exact .inr (.inl (.inr h))
        · exact .inr (.inr h)
    · have := h7 r hr
      simp only [List.map_append, List.map_cons, List.mem_append, List.mem_cons] at this ⊢
      rcases this with h | (h | h | h) | h
      · exact .inl h
      · exact .inr (.inl (.inl h))
      · exact absurd h (by intro e; have := congrArg Rw.size e; simp [rwInts, rwTables] at this)
      · exact .inr (.inl (.inr h))
      · exact .inr (.inr h)
  · refine (fullTables_tot (R := keptInts VI WI rI aI ++ ((A ++ (v, zs) :: C).map rwTables ++ (ys.map rwInts ++ G))) v (h1.perm (by unfold bookL; exact perm_two _ _ _ _)) h2.e0 (by omega) (by have := h4.len; omega)).mono ?_
    rintro e w' ⟨rfl, rfl⟩
    have hp : (bookL b cs VI WI rI aI VT WT rT aT (A ++ (v, zs) :: C) ys G).Perm (bookL b cs VI WI rI aI VT WT rT aT (A ++ C) ys (rwTables (v, zs) :: G)) := by
      unfold bookL
      rw [List.map_append, List.map_cons, List.map_append]
      classical
      rw [List.perm_iff_count]
      intro a
      simp only [List.count_append, List.count_cons]
      omega
    refine ⟨rfl, ⟨cs, VI, WI, rI, aI, VT, WT, rT, aT, rwTables (v, zs) :: G, h1.perm hp, h2, h3, h4, fun k hk r hr => h5 k hk r (hp.mem_iff.2 hr), fun r hr => ?_, fun r hr => ?_⟩, fun _ _ => rfl, Below.refl _ _⟩
    · rcases List.mem_cons.1 hr with rfl | hr
      · simp
      · have := h6 r hr
        simp only [List.map_append, List.map_cons, List.mem_append, List.mem_cons] at this ⊢
        rcases this with h | (h | h | h) | h | h
        · exact .inl h
        · exact .inr (.inl (.inl h))
        · exact .inr (.inr (.inr (.inl h)))
        · exact .inr (.inl (.inr h))
        · exact .inr (.inr (.inl h))
        · exact .inr (.inr (.inr (.inr h)))
    · have := h7 r hr
      simp only [List.map_append, List.map_cons, List.mem_append, List.mem_cons] at this ⊢
      rcases this with h | (h | h | h) | h | h
      · exact .inl h
      · exact .inr (.inl (.inl h))
      · exact .inr (.inr (.inr (.inl h)))
      · exact .inr (.inl (.inr h))
      · exact .inr (.inr (.inl h))
      · exact .inr (.inr (.inr (.inr h)))
theorem Book.addI (h : Book B b ks xs (A2 ++ (v, zi) :: C2) rt ri w) (hz : zi.length ≤ 100000) (hB : B ≤ w.heap.size) (hnd : ks.Nodup) (hks : ∀ k ∈ ks, B ≤ k ∧ k < w.heap.size) :
    Calls Tryz.prog 19 #[.pointer (some ⟨b, 0, none⟩), v] w fun e w' => e = .returned (.tuple #[]) ∧ Book B b ks xs (A2 ++ C2) rt ((v, zi) :: ri) w' ∧ (∀ k ∈ ks, w'.heap[k]? = w.heap[k]?) ∧ Below B w w' := by
  obtain ⟨cs, VI, WI, rI, aI, VT, WT, rT, aT, G, h1, h2, h3, h4, h5, h6, h7⟩ := h
  have hw := h1.withPhoto hnd hks h5
  by_cases hl : rI.length < 250
  · have hp : (photo w ks ++ bookL b cs VI WI rI aI VT WT rT aT xs (A2 ++ (v, zi) :: C2) G).Perm (rwInts (v, zi) :: (bookR b cs :: (keptInts VI WI rI aI ++ (photo w ks ++ (keptTables VT WT rT aT ++ (xs.map rwTables ++ (A2.map rwInts ++ (C2.map rwInts ++ G)))))))) := by
      unfold bookL
      rw [List.map_append, List.map_cons]
      classical
      rw [List.perm_iff_count]
      intro a
      simp only [List.count_append, List.count_cons]
      omega
    refine (addInts_tot (hw.perm hp) h2.i0 h2.i1 h3 hl (by omega) hB).mono ?_
    rintro e w' ⟨rfl, hb, V', W', v', ho⟩
    have hq : (bookR b ((cs.set 2 V').set 3 W') :: (keptInts V' W' (rI ++ [(v, zi)]) (aI ++ [(v', zi)]) ++ (photo w ks ++ (keptTables VT WT rT aT ++ (xs.map rwTables ++ (A2.map rwInts ++ (C2.map rwInts ++ G))))))).Perm (photo w ks ++ bookL b ((cs.set 2 V').set 3 W') V' W' (rI ++ [(v, zi)]) (aI ++ [(v', zi)]) VT WT rT aT xs (A2 ++ C2) G) := by
      unfold bookL
      rw [List.map_append (l₁ := A2)]
      classical
      rw [List.perm_iff_count]
      intro a
      simp only [List.count_append, List.count_cons]
      omega
    have ho' := ho.perm hq
    refine ⟨rfl, ⟨_, V', W', _, _, VT, WT, rT, aT, G, ho'.sub (List.sublist_append_right _ _), h2.setI V' W', h3.add v v' zi hl hz, h4, photo_offB ho', fun r hr => ?_, fun r hr => ?_⟩, photo_back ho' (fun r hr => List.mem_append_left _ hr) (fun k hk => (hks k hk).2), hb⟩
    · have := h6 r hr
      simp only [List.map_append, List.map_cons, List.mem_append, List.mem_cons] at this ⊢
      rcases this with h | h | (h | h | h) | h
      · exact .inl h
      · exact .inr (.inl h)
      · exact .inr (.inr (.inl (.inl h)))
      · exact absurd h (by intro e; have := congrArg Rw.size e; simp [rwInts, rwTables] at this)
      · exact .inr (.inr (.inl (.inr h)))
      · exact .inr (.inr (.inr h))
    · rcases List.mem_cons.1 hr with rfl | hr
      · simp
      · have := h7 r hr
        simp only [List.map_append, List.map_cons, List.map_nil, List.mem_append, List.mem_cons, List.not_mem_nil, or_false] at this ⊢
        rcases this with h | h | (h | h | h) | h
        · exact .inl (.inl h)
        · exact .inr (.inl h)
        · exact .inr (.inr (.inl (.inl h)))
        · exact .inl (.inr h)
        · exact .inr (.inr (.inl (.inr h)))
        · exact .inr (.inr (.inr h))
  · refine (fullInts_tot (R := keptTables VT WT rT aT ++ (xs.map rwTables ++ ((A2 ++ (v, zi) :: C2).map rwInts ++ G))) v h1 h2.i0 (by omega) (by have := h3.len; omega)).mono ?_
    rintro e w' ⟨rfl, rfl⟩
    have hp : (bookL b cs VI WI rI aI VT WT rT aT xs (A2 ++ (v, zi) :: C2) G).Perm (bookL b cs VI WI rI aI VT WT rT aT xs (A2 ++ C2) (rwInts (v, zi) :: G)) := by
      unfold bookL
      rw [List.map_append, List.map_cons, List.map_append]
      classical
      rw [List.perm_iff_count]
      intro a
      simp only [List.count_append, List.count_cons]
      omega
    refine ⟨rfl, ⟨cs, VI, WI, rI, aI, VT, WT, rT, aT, rwInts (v, zi) :: G, h1.perm hp, h2, h3, h4, fun k hk r hr => h5 k hk r (hp.mem_iff.2 hr), fun r hr => ?_, fun r hr => ?_⟩, fun _ _ => rfl, Below.refl _ _⟩
    · have := h6 r hr
      simp only [List.map_append, List.map_cons, List.mem_append, List.mem_cons] at this ⊢
      rcases this with h | h | (h | h | h) | h
      · exact .inl h
      · exact .inr (.inl h)
      · exact .inr (.inr (.inl (.inl h)))
      · exact .inr (.inr (.inr (.inl h)))
      · exact .inr (.inr (.inl (.inr h)))
      · exact .inr (.inr (.inr (.inr h)))
    · rcases List.mem_cons.1 hr with rfl | hr
      · simp
      · have := h7 r hr
        simp only [List.map_append, List.map_cons, List.mem_append, List.mem_cons] at this ⊢
        rcases this with h | h | (h | h | h) | h
        · exact .inl h
        · exact .inr (.inl h)
        · exact .inr (.inr (.inl (.inl h)))
        · exact .inr (.inr (.inr (.inl h)))
        · exact .inr (.inr (.inl (.inr h)))
        · exact .inr (.inr (.inr (.inr h)))
theorem Book.apart (h : Book B b ks xs ys rt ri w) (hB : B ≤ w.heap.size) :
    Calls Tryz.prog 27 #[.pointer (some ⟨b, 0, none⟩)] w fun e w' => e = .returned (.bool true) ∧ Below B w w' := by
  obtain ⟨cs, VI, WI, rI, aI, VT, WT, rT, aT, G, h1, h2, h3, h4, h5, h6, h7⟩ := h
  exact apartOaIT_any B b cs VI WI rI aI VT WT rT aT _ w h1 h2.i0 h2.i1 h3 h2.e0 h2.e1 h4 h2.rest hB
end
theorem book_newB (B : Nat) (w : World) (hB : B ≤ w.heap.size) : Own B (w.alloc (.cells #[.slice none 0 0, .slice none 0 0, .slice none 0 0, .slice none 0 0, .slice none 0 0, .slice none 0 0, .slice none 0 0, .slice none 0 0, .slice none 0 0, .slice none 0 0, .slice none 0 0, .slice none 0 0, .slice none 0 0, .slice none 0 0, .slice none 0 0, .slice none 0 0, .slice none 0 0, .slice none 0 0, .slice none 0 0, .slice none 0 0, .slice none 0 0, .slice none 0 0, .slice none 0 0, .slice none 0 0, .slice none 0 0, .slice none 0 0, .slice none 0 0, .slice none 0 0] 48)) [bookR w.heap.size (List.replicate 28 (.slice none 0 0))] := by
  have h0 : Own B w [] := Own.nil B w
  refine h0.new (r := bookR w.heap.size (List.replicate 28 (.slice none 0 0))) ((Below.refl _ _).alloc (Nat.le_refl _) _) ?_ hB
  refine ⟨⟨rfl, .inr ⟨w.heap.size, 0, #[.slice none 0 0, .slice none 0 0, .slice none 0 0, .slice none 0 0, .slice none 0 0, .slice none 0 0, .slice none 0 0, .slice none 0 0, .slice none 0 0, .slice none 0 0, .slice none 0 0, .slice none 0 0, .slice none 0 0, .slice none 0 0, .slice none 0 0, .slice none 0 0, .slice none 0 0, .slice none 0 0, .slice none 0 0, .slice none 0 0, .slice none 0 0, .slice none 0 0, .slice none 0 0, .slice none 0 0, .slice none 0 0, .slice none 0 0, .slice none 0 0, .slice none 0 0], rfl, ?_, Nat.le_refl _, by unfold maxLen; omega, rfl, rfl⟩⟩, fun k hk => by cases hk; exact Nat.le_refl _⟩
  simp [World.alloc, -World.alloc_eq, bookR]
end Go.Proofs.YtmcgfafkggannaaGreat

namespace Go.Proofs.YtmcgfafkggannaaGreat
open Go.RowKit Go.Shelf

/-- What Get tells, whatever the bytes are: the edit, or none and an error. -/
def getQ (l : List UInt8) : Ed × Int := if (getP l).2 = 0 then ((getP l).1, 0) else (⟨0, 0, 0, [], []⟩, (getP l).2)
theorem getV_one {w w' : World} {x : Ending} {l : List UInt8} (h : GetV w w' x l) : ∃ a n c d m k, x = .returned (.tuple #[.agg #[.int .i64 (getQ l).1.log, .int .i64 (getQ l).1.next, .int .u64 ((getQ l).1.seq : Int), .slice a n c, .slice d m k], .int .i64 (getQ l).2]) ∧ RowB w' (.slice a n c) (getQ l).1.add ∧ RowN w' (.slice d m k) (getQ l).1.drop ∧ (∀ q, ob (.slice a n c) = some q → w.heap.size ≤ q) ∧ (∀ q, ob (.slice d m k) = some q → w.heap.size ≤ q) ∧ (∀ q, ob (.slice a n c) = some q → ob (.slice d m k) ≠ some q) := by
  rcases h with ⟨hn, rfl⟩ | ⟨h0, va, vd, rfl, h1, h2, h3, h4, h5⟩
  · have e : getQ l = (⟨0, 0, 0, [], []⟩, (getP l).2) := by unfold getQ; rw [if_neg hn]
    rw [e]
    exact ⟨none, 0, 0, none, 0, 0, rfl, row_nilB _, row_nilN _, fun q hq => by simp [ob] at hq, fun q hq => by simp [ob] at hq, fun q hq => by simp [ob] at hq⟩
  · have e : getQ l = ((getP l).1, 0) := by unfold getQ; rw [if_pos h0]
    rw [e]
    obtain ⟨a, c, rfl⟩ := h1.short
    obtain ⟨d, k, rfl⟩ := h2.short
    exact ⟨a, _, c, d, _, k, rfl, h1, h2, h3, h4, h5⟩
/-- What Apply tells is one, whoever is asked. -/
theorem appV_all (v : Vr) (e : Ed) : ∃ (R : Vr) (er : Int), R.ts.length ≤ v.ts.length + e.add.length ∧ ∀ (w w' : World) (x : Ending), ApplyV w w' x v e → ∃ a n c, x = .returned (.tuple #[.agg #[.int .i64 R.log, .int .i64 R.next, .int .u64 (R.seq : Int), .slice a n c], .int .i64 er]) ∧ RowB w' (.slice a n c) R.ts ∧ (∀ q, ob (.slice a n c) = some q → w.heap.size ≤ q) := by
  by_cases hap : Applies v e
  · refine ⟨nextV v e, 0, next_len v e, fun w w' x h => ?_⟩
    rcases h with ⟨hn, -⟩ | ⟨-, r, rfl, h1, h2⟩
    · exact absurd hap hn
    · obtain ⟨a, c, rfl⟩ := h1.short
      exact ⟨a, _, c, rfl, h1, h2⟩
  · refine ⟨Vr.zero, 4, Nat.zero_le _, fun w w' x h => ?_⟩
    rcases h with ⟨-, rfl⟩ | ⟨h0, -⟩
    · exact ⟨none, 0, 0, rfl, row_nilB _, fun q hq => by simp [ob] at hq⟩
    · exact absurd h0 hap
/-- The Book, rows beside it, and blocks of which something is known. -/
structure St12 (B b : Nat) (ks : List Nat) (P : World → Prop) (xs : List (Value × List ElTables)) (ys : List (Value × List Int)) (rt : List (Value × List ElTables)) (ri : List (Value × List Int)) (w : World) : Prop where
  bk : Book B b ks xs ys rt ri w
  nd : ks.Nodup
  lo : ∀ k ∈ ks, B ≤ k ∧ k < w.heap.size
  p : P w
  kp : ∀ a c : World, (∀ k ∈ ks, c.heap[k]? = a.heap[k]?) → P a → P c
  sz : B ≤ w.heap.size
section
variable {B b : Nat} {ks : List Nat} {P : World → Prop} {xs rt : List (Value × List ElTables)} {ys ri : List (Value × List Int)} {w w' : World}
theorem St12.below (h : St12 B b ks P xs ys rt ri w) (hb : Below w.heap.size w w') : St12 B b ks P xs ys rt ri w' :=
  ⟨h.bk.below hb, h.nd, fun k hk => ⟨(h.lo k hk).1, Nat.lt_of_lt_of_le (h.lo k hk).2 hb.size⟩, h.kp w w' (fun k hk => hb.block k (h.lo k hk).2) h.p, h.kp, Nat.le_trans h.sz hb.size⟩
/-- New blocks of which something is known. -/
theorem St12.more (h : St12 B b ks P xs ys rt ri w) (hb : Below w.heap.size w w') (ls : List Nat) (Q : World → Prop) (hn : ls.Nodup) (hl : ∀ k ∈ ls, w.heap.size ≤ k ∧ k < w'.heap.size) (hq : Q w') (kq : ∀ a c : World, (∀ k ∈ ls, c.heap[k]? = a.heap[k]?) → Q a → Q c) : St12 B b (ls ++ ks) (fun W => P W ∧ Q W) xs ys rt ri w' := by
  have h1 := h.below hb
  refine ⟨(h.bk.other (ls := ls ++ ks) (fun k hk => ?_)).below hb, List.nodup_append.2 ⟨hn, h.nd, fun a ha c hc e => ?_⟩, fun k hk => ?_, ⟨h1.p, hq⟩, fun a c hk hp => ⟨h.kp a c (fun k q => hk k (List.mem_append_right _ q)) hp.1, kq a c (fun k q => hk k (List.mem_append_left _ q)) hp.2⟩, h1.sz⟩
  · rcases List.mem_append.1 hk with q | q
    · exact .inr (hl k q).1
    · exact .inl q
  · subst e
    have a1 := (hl _ ha).1
    have a2 := (h.lo _ hc).2
    omega
  · rcases List.mem_append.1 hk with q | q
    · exact ⟨Nat.le_trans h.sz (hl k q).1, (hl k q).2⟩
    · exact h1.lo k q
theorem St12.imp {Q : World → Prop} (h : St12 B b ks P xs ys rt ri w) (hq : ∀ W, P W → Q W) (hb : ∀ W, Q W → P W) : St12 B b ks Q xs ys rt ri w :=
  ⟨h.bk, h.nd, h.lo, hq w h.p, fun a c hk q => hq c (h.kp a c hk (hb a q)), h.sz⟩
theorem St12.rowT (h : St12 B b ks P xs ys rt ri w) (hb : Below w.heap.size w w') {v : Value} {ts : List Tb} (hr : RowB w' v ts) (ho : ∀ k, ob v = some k → w.heap.size ≤ k) : St12 B b ks P ((v, ts.map elT) :: xs) ys rt ri w' := by
  have h1 := h.below hb
  exact ⟨h.bk.rowT hb (okT_row hr ho) h.sz (fun k hk => (h.lo k hk).2), h1.nd, h1.lo, h1.p, h1.kp, h1.sz⟩
theorem St12.rowTI (h : St12 B b ks P xs ys rt ri w) (hb : Below w.heap.size w w') {v u : Value} {ts : List Tb} {ns : List Int} (hr : RowB w' v ts) (hi : RowN w' u ns) (ho : ∀ k, ob v = some k → w.heap.size ≤ k) (hp : ∀ k, ob u = some k → w.heap.size ≤ k) (hn : ∀ k, ob v = some k → ob u ≠ some k) : St12 B b ks P ((v, ts.map elT) :: xs) ((u, ns) :: ys) rt ri w' := by
  have h1 := h.below hb
  exact ⟨h.bk.rowTI hb (okT_row hr ho) (okN_row hi hp) hn h.sz (fun k hk => (h.lo k hk).2), h1.nd, h1.lo, h1.p, h1.kp, h1.sz⟩
theorem St12.addT {A C : List (Value × List ElTables)} {v : Value} {zs : List ElTables} (h : St12 B b ks P (A ++ (v, zs) :: C) ys rt ri w) (hz : zs.length ≤ 100000) :
    Calls Tryz.prog 18 #[.pointer (some ⟨b, 0, none⟩), v] w fun e w' => e = .returned (.tuple #[]) ∧ St12 B b ks P (A ++ C) ys ((v, zs) :: rt) ri w' ∧ Below B w w' := by
  refine (Book.addT h.bk hz h.sz h.nd h.lo).mono ?_
  rintro e w' ⟨rfl, h1, h2, h3⟩
  exact ⟨rfl, ⟨h1, h.nd, fun k hk => ⟨(h.lo k hk).1, Nat.lt_of_lt_of_le (h.lo k hk).2 h3.size⟩, h.kp w w' h2 h.p, h.kp, Nat.le_trans h.sz h3.size⟩, h3⟩
theorem St12.addI {A C : List (Value × List Int)} {v : Value} {zs : List Int} (h : St12 B b ks P xs (A ++ (v, zs) :: C) rt ri w) (hz : zs.length ≤ 100000) :
    Calls Tryz.prog 19 #[.pointer (some ⟨b, 0, none⟩), v] w fun e w' => e = .returned (.tuple #[]) ∧ St12 B b ks P xs (A ++ C) rt ((v, zs) :: ri) w' ∧ Below B w w' := by
  refine (Book.addI h.bk hz h.sz h.nd h.lo).mono ?_
  rintro e w' ⟨rfl, h1, h2, h3⟩
  exact ⟨rfl, ⟨h1, h.nd, fun k hk => ⟨(h.lo k hk).1, Nat.lt_of_lt_of_le (h.lo k hk).2 h3.size⟩, h.kp w w' h2 h.p, h.kp, Nat.le_trans h.sz h3.size⟩, h3⟩
end
theorem St12.tbs {B b : Nat} {ks : List Nat} {P : World → Prop} {xs rt : List (Value × List ElTables)} {ys ri : List (Value × List Int)} {w : World} {v : Value} {ts : List Tb} (h : St12 B b ks P xs ys rt ri w) (hr : (v, ts.map elT) ∈ rt) : TbsV w v ts := by
  have hk := (h.bk.readT hr).row rfl
  have h2 : RowB w v ts := by
    have : Row w 80 5 v (ts.map elT).length (cellsTables (ts.map elT)) := hk
    rw [cells_elT, List.length_map] at this
    exact this
  exact h2.v
theorem St12.ints {B b : Nat} {ks : List Nat} {P : World → Prop} {xs rt : List (Value × List ElTables)} {ys ri : List (Value × List Int)} {w : World} {v : Value} {ns : List Int} (h : St12 B b ks P xs ys rt ri w) (hr : (v, ns) ∈ ri) : IntsV w v ns := by
  have hk : RowN w v ns := (h.bk.readI hr).row rfl
  exact hk.v
/-- A version that came in. -/
structure VrW (w : World) (v : Vr) (vv : Value) : Prop where
  l : -9223372036854775808 ≤ v.log ∧ v.log ≤ 9223372036854775807
  n : -9223372036854775808 ≤ v.next ∧ v.next ≤ 9223372036854775807
  s : v.seq < 18446744073709551616
  a : TbsV w vv v.ts
  la : v.ts.length ≤ maxLen
  ka : ∀ t ∈ v.ts, t.Ok
open Go.ChangeShapes Go.WideShapes Go.ChangeAt Go.Deep in
set_option maxRecDepth 100000 in
theorem ver_of {H : Type} {enc : TypeId × Value → H} {w : World} {base n : Nat} {held : Bool} {cs : Array Value} {y : DataW H × List MemPlace}
    (h : DataW.trod enc Tryz.prog w base (fun _ => true) held n 25 (Value.agg cs).cells.toList = some y) (hl : cs.size = Tryz.prog.cellsOf 25) : ∃ v vv, VrW w v vv ∧ Value.agg cs = verV v.log v.next v.seq vv := by
  have c4 : Tryz.prog.cellsOf 25 = 4 := by kernel_rfl
  obtain ⟨xs, k, hk, hxy, _, hxl, hf⟩ := DataW.trod_struct Tryz.underlying25 h
  have c3 : Tryz.prog.cellsOf 3 = 1 := by kernel_rfl
  have c9 : Tryz.prog.cellsOf 22 = 1 := by kernel_rfl
  have c7 : Tryz.prog.cellsOf 23 = 1 := by kernel_rfl
  have hls : cs.toList.length = 4 := by rw [Array.length_toList, hl, c4]
  rw [show (Value.agg cs).cells = cs from rfl] at hf
  obtain ⟨cl, hcl⟩ : ∃ cl, cs.toList = cl := ⟨_, rfl⟩
  have hcs : cs = cl.toArray := by rw [← hcl]
  subst hcs
  rw [hcl] at hls hf
  clear h hk hxy hcl hl
  match xs, hxl, cl, hls with
  | [y0, y1, y2, y3], _, [v0, v1, v2, v3], _ =>
    have g0 := hf 0 _ rfl
    have g1 := hf 1 _ rfl
    have g2 := hf 2 _ rfl
    have g3 := hf 3 _ rfl
    simp [c3, c9, c7] at g0 g1 g2 g3
    obtain ⟨z0, e0, -, b0⟩ := DataW.trod_int Tryz.underlying3 g0
    obtain ⟨z1, e1, -, b1⟩ := DataW.trod_int Tryz.underlying3 g1
    obtain ⟨z2, e2, -, b2⟩ := DataW.trod_int Tryz.underlying22 g2
    obtain ⟨ts, h1, h2, h3⟩ := rowTV_of g3
    simp only [List.cons.injEq, and_true] at e0 e1 e2
    subst e0 e1 e2
    have k0 := bounds_i64 b0
    have k1 := bounds_i64 b1
    have k2 := bounds_u64 b2
    obtain ⟨z2, rfl⟩ : ∃ m : Nat, z2 = (m : Int) := ⟨z2.toNat, by omega⟩
    exact ⟨⟨z0, z1, z2, ts⟩, v3, ⟨k0, k1, by show z2 < _; omega, h1, h2, h3⟩, rfl⟩
end Go.Proofs.YtmcgfafkggannaaGreat
