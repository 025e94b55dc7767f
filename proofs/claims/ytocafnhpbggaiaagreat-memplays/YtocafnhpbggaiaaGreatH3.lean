/- Parts of stage 8, joined: YK YL YM YN YO YP YQ. -/
import Derived.Test.YtocafnhpbggaiaaGreatYJ
namespace Go.Proofs.YtocafnhpbggaiaaGreat
open Go.RowKit

def bookL (b : Nat) (cs : List Value) (VI WI : Value) (rowsI wasI : List (Value × List Int)) (VE WE : Value) (rowsE wasE : List (Value × List ElEntries)) (xs : List (Value × List ElEntries)) (G : List Rw) : List Rw :=
  bookR b cs :: (keptInts VI WI rowsI wasI ++ (keptEntries VE WE rowsE wasE ++ (xs.map rwEntries ++ G)))
structure BookC (cs : List Value) (VI WI VE WE : Value) : Prop where
  i0 : cs[2]? = some VI
  i1 : cs[3]? = some WI
  e0 : cs[6]? = some VE
  e1 : cs[7]? = some WE
  rest : ∀ j, isNilAaIE j = true → cs[j]? = some (.slice none 0 0)
def Book (B b : Nat) (ks : List Nat) (xs rd : List (Value × List ElEntries)) (w : World) : Prop :=
  ∃ (cs : List Value) (VI WI : Value) (rowsI wasI : List (Value × List Int)) (VE WE : Value) (rowsE wasE : List (Value × List ElEntries)) (G : List Rw),
    Own B w (bookL b cs VI WI rowsI wasI VE WE rowsE wasE xs G) ∧ BookC cs VI WI VE WE ∧ FitsInts rowsI wasI ∧ FitsEntries rowsE wasE ∧
    (∀ k ∈ ks, ∀ r ∈ bookL b cs VI WI rowsI wasI VE WE rowsE wasE xs G, r.v.ownBlock ≠ some k) ∧
    (∀ r ∈ rd, rwEntries r ∈ rowsE.map rwEntries ++ (xs.map rwEntries ++ G))
section
variable {B b : Nat} {ks : List Nat} {xs rd : List (Value × List ElEntries)} {w w' : World}
theorem Book.below (h : Book B b ks xs rd w) (hb : Below w.heap.size w w') : Book B b ks xs rd w' := by
  obtain ⟨cs, VI, WI, rI, aI, VE, WE, rE, aE, G, h1, h2⟩ := h
  exact ⟨cs, VI, WI, rI, aI, VE, WE, rE, aE, G, h1.below hb, h2⟩
theorem Book.turned (h : Book B b ks xs rd w) (ht : Turn ks w w') : Book B b ks xs rd w' := by
  obtain ⟨cs, VI, WI, rI, aI, VE, WE, rE, aE, G, h1, h2, h3, h4, h5, h6⟩ := h
  refine ⟨cs, VI, WI, rI, aI, VE, WE, rE, aE, G, h1.keep (fun r hr k hk => ht.block k ((h1.1 r hr).lt k hk).2 (fun hm => h5 k hm r hr hk)), h2, h3, h4, h5, h6⟩
theorem Book.other (h : Book B b ks xs rd w) {ls : List Nat} (hl : ∀ k ∈ ls, k ∈ ks ∨ w.heap.size ≤ k) : Book B b ls xs rd w := by
  obtain ⟨cs, VI, WI, rI, aI, VE, WE, rE, aE, G, h1, h2, h3, h4, h5, h6⟩ := h
  refine ⟨cs, VI, WI, rI, aI, VE, WE, rE, aE, G, h1, h2, h3, h4, fun k hk r hr he => ?_, h6⟩
  rcases hl k hk with h | h
  · exact h5 k h r hr he
  · have := ((h1.1 r hr).lt k he).2
    omega
theorem Book.forget (h : Book B b ks xs rd w) : Book B b ks xs [] w := by
  obtain ⟨cs, VI, WI, rI, aI, VE, WE, rE, aE, G, h1, h2, h3, h4, h5, h6⟩ := h
  exact ⟨cs, VI, WI, rI, aI, VE, WE, rE, aE, G, h1, h2, h3, h4, h5, fun r hr => by cases hr⟩
theorem Book.read (h : Book B b ks xs rd w) {r : Value × List ElEntries} (hr : r ∈ rd) : Rd w r.1 r.2.length (cellsEntries r.2) := by
  obtain ⟨cs, VI, WI, rI, aI, VE, WE, rE, aE, G, h1, h2, h3, h4, h5, h6⟩ := h
  have hm := h6 r hr
  have : (rwEntries r).ok B w := h1.1 _ (by
    unfold bookL keptEntries
    simp only [List.mem_append, List.mem_cons] at hm ⊢
    rcases hm with hm | hm | hm
    · exact .inr (.inr (.inl (.inl hm)))
    · exact .inr (.inr (.inr (.inl hm)))
    · exact .inr (.inr (.inr (.inr hm))))
  exact this.rd
theorem Book.row (h : Book B b ks xs rd w) (hb : Below w.heap.size w w') {v : Value} {zs : List ElEntries} (hr : (rwEntries (v, zs)).ok w.heap.size w') (hB : B ≤ w.heap.size) (hks : ∀ k ∈ ks, k < w.heap.size) : Book B b ks ((v, zs) :: xs) rd w' := by
  obtain ⟨cs, VI, WI, rI, aI, VE, WE, rE, aE, G, h1, h2, h3, h4, h5, h6⟩ := h
  have hn := Own.new h1 hb hr hB
  have hp : (rwEntries (v, zs) :: bookL b cs VI WI rI aI VE WE rE aE xs G).Perm (bookL b cs VI WI rI aI VE WE rE aE ((v, zs) :: xs) G) := by
    unfold bookL
    rw [List.map_cons]
    classical
    rw [List.perm_iff_count]
    intro a
    simp only [List.count_append, List.count_cons]
    omega
  refine ⟨cs, VI, WI, rI, aI, VE, WE, rE, aE, G, hn.perm hp, h2, h3, h4, fun k hk r hm he => ?_, fun r hm => ?_⟩
  · rcases List.mem_cons.1 (hp.mem_iff.2 hm) with rfl | hm
    · have := (hr.lt k he).1
      have := hks k hk
      omega
    · exact h5 k hk r hm he
  · have := h6 r hm
    simp only [List.map_cons, List.mem_append, List.mem_cons] at this ⊢
    rcases this with h | h | h
    · exact .inl h
    · exact .inr (.inl (.inr h))
    · exact .inr (.inr h)
theorem Book.start (hown : Own B w (bookR b (List.replicate 28 (.slice none 0 0)) :: [])) (hks : ∀ k ∈ ks, k ≠ b) : Book B b ks [] [] w := by
  have hn : ∀ j, j < 28 → (List.replicate 28 (Value.slice none 0 0))[j]? = some (.slice none 0 0) := fun j hj => by rw [List.getElem?_replicate, if_pos hj]
  refine ⟨_, .slice none 0 0, .slice none 0 0, [], [], .slice none 0 0, .slice none 0 0, [], [], [], ?_, ⟨hn 2 (by omega), hn 3 (by omega), hn 6 (by omega), hn 7 (by omega), fun j hj => hn j (by simp [isNilAaIE] at hj; exact hj.1)⟩, FitsInts.nil, FitsEntries.nil, ?_, fun r hr => by cases hr⟩
  · have h1 := (((hown.addNil 22 1).addNil 22 1).addNil 29 1).addNil 29 1
    refine h1.perm ?_
    unfold bookL keptInts keptEntries outRInts outREntries
    classical
    rw [List.perm_iff_count]
    intro a
    simp only [List.map_nil, List.count_append, List.count_cons, List.count_nil, List.length_nil]
    omega
  · intro k hk r hr he
    simp only [bookL, keptInts, keptEntries, outRInts, outREntries, List.map_nil, List.nil_append, List.append_nil, List.mem_cons, List.mem_append, List.not_mem_nil, or_false] at hr
    rcases hr with rfl | (rfl | rfl) | (rfl | rfl)
    · exact hks k hk (by simpa [bookR, Value.ownBlock] using he.symm)
    all_goals (simp [Value.ownBlock] at he)
end
end Go.Proofs.YtocafnhpbggaiaaGreat

namespace Go.Proofs.YtocafnhpbggaiaaGreat
open Go.RowKit

theorem set_get {cs : List Value} {i j : Nat} {V : Value} (h : i ≠ j) : (cs.set i V)[j]? = cs[j]? := List.getElem?_set_ne h
theorem set_same {cs : List Value} {i : Nat} {V U : Value} (h : cs[i]? = some U) : (cs.set i V)[i]? = some V := by
  rw [List.getElem?_set_self (List.getElem?_eq_some_iff.1 h).1]
theorem isNil_ne {j : Nat} (h : isNilAaIE j = true) : j ≠ 2 ∧ j ≠ 3 ∧ j ≠ 6 ∧ j ≠ 7 := by
  simp [isNilAaIE] at h
  omega
theorem BookC.setE {cs : List Value} {VI WI VE WE : Value} (h : BookC cs VI WI VE WE) (V W : Value) : BookC ((cs.set 6 V).set 7 W) VI WI V W where
  i0 := by rw [set_get (by decide), set_get (by decide)]; exact h.i0
  i1 := by rw [set_get (by decide), set_get (by decide)]; exact h.i1
  e0 := by rw [set_get (by decide)]; exact set_same h.e0
  e1 := set_same (U := WE) (by rw [set_get (by decide)]; exact h.e1)
  rest := fun j hj => by
    obtain ⟨h2, h3, h6, h7⟩ := isNil_ne hj
    rw [set_get (fun e => h7 e.symm), set_get (fun e => h6 e.symm)]
    exact h.rest j hj
theorem BookC.setI {cs : List Value} {VI WI VE WE : Value} (h : BookC cs VI WI VE WE) (V W : Value) : BookC ((cs.set 2 V).set 3 W) V W VE WE where
  i0 := by rw [set_get (by decide)]; exact set_same h.i0
  i1 := set_same (U := WI) (by rw [set_get (by decide)]; exact h.i1)
  e0 := by rw [set_get (by decide), set_get (by decide)]; exact h.e0
  e1 := by rw [set_get (by decide), set_get (by decide)]; exact h.e1
  rest := fun j hj => by
    obtain ⟨h2, h3, h6, h7⟩ := isNil_ne hj
    rw [set_get (fun e => h3 e.symm), set_get (fun e => h2 e.symm)]
    exact h.rest j hj
theorem photo_off {B : Nat} {w w' : World} {ks : List Nat} {rs : List Rw} (h : Own B w' (photo w ks ++ rs)) : ∀ k ∈ ks, ∀ r ∈ rs, r.v.ownBlock ≠ some k := by
  intro k hk r hr he
  have := (List.pairwise_append.1 h.2).2.2 _ (List.mem_map.2 ⟨k, hk, rfl⟩) r hr
  unfold Rw.off at this
  rcases this with h | h
  · cases h
  · exact h he.symm
section
variable {B b : Nat} {ks : List Nat} {A C xs rd : List (Value × List ElEntries)} {v : Value} {zs : List ElEntries} {zi : List Int} {w0 w : World}
theorem Book.addE (h : Book B b ks (A ++ (v, zs) :: C) rd w) (hz : zs.length ≤ 100000) (hB : B ≤ w.heap.size) (hnd : ks.Nodup) (hks : ∀ k ∈ ks, B ≤ k ∧ k < w.heap.size) :
    Calls Tryz.prog 16 #[.pointer (some ⟨b, 0, none⟩), v] w fun e w' => e = .returned (.tuple #[]) ∧ Book B b ks (A ++ C) ((v, zs) :: rd) w' ∧ (∀ k ∈ ks, w'.heap[k]? = w.heap[k]?) ∧ Below B w w' := by
  obtain ⟨cs, VI, WI, rI, aI, VE, WE, rE, aE, G, h1, h2, h3, h4, h5, h6⟩ := h
  have hw := h1.withPhoto hnd hks h5
  by_cases hl : rE.length < 250
  · have hp : (photo w ks ++ bookL b cs VI WI rI aI VE WE rE aE (A ++ (v, zs) :: C) G).Perm (rwEntries (v, zs) :: (bookR b cs :: (keptEntries VE WE rE aE ++ (photo w ks ++ (keptInts VI WI rI aI ++ (A.map rwEntries ++ (C.map rwEntries ++ G))))))) := by
      unfold bookL
      rw [List.map_append, List.map_cons]
      classical
      rw [List.perm_iff_count]
      intro a
      simp only [List.count_append, List.count_cons]
      omega
    refine (addEntries_tot (hw.perm hp) h2.e0 h2.e1 h4 hl (by omega) hB).mono ?_
    rintro e w' ⟨rfl, hb, V', W', v', ho⟩
    have hq : (bookR b ((cs.set 6 V').set 7 W') :: (keptEntries V' W' (rE ++ [(v, zs)]) (aE ++ [(v', zs)]) ++ (photo w ks ++ (keptInts VI WI rI aI ++ (A.map rwEntries ++ (C.map rwEntries ++ G)))))).Perm (photo w ks ++ bookL b ((cs.set 6 V').set 7 W') VI WI rI aI V' W' (rE ++ [(v, zs)]) (aE ++ [(v', zs)]) (A ++ C) G) := by
      unfold bookL
      rw [List.map_append (l₁ := A)]
      classical
      rw [List.perm_iff_count]
      intro a
      simp only [List.count_append, List.count_cons]
      omega
    have ho' := ho.perm hq
    refine ⟨rfl, ⟨_, VI, WI, rI, aI, V', W', _, _, G, ho'.sub (List.sublist_append_right _ _), h2.setE V' W', h3, h4.add v v' zs hl hz, photo_off ho', fun r hr => ?_⟩, photo_back ho' (fun r hr => List.mem_append_left _ hr) (fun k hk => (hks k hk).2), hb⟩
    rcases List.mem_cons.1 hr with rfl | hr
    · simp
    · have := h6 r hr
      simp only [List.map_append, List.map_cons, List.map_nil, List.mem_append, List.mem_cons, List.not_mem_nil, or_false] at this ⊢
      rcases this with h | (h | h | h) | h
      · exact .inl (.inl h)
      · exact .inr (.inl (.inl h))
      · exact .inl (.inr h)
      · exact .inr (.inl (.inr h))
      · exact .inr (.inr h)
  · refine (fullEntries_tot (R := keptInts VI WI rI aI ++ ((A ++ (v, zs) :: C).map rwEntries ++ G)) v (h1.perm (by unfold bookL; exact perm_two _ _ _ _)) h2.e0 (by omega) (by have := h4.len; omega)).mono ?_
    rintro e w' ⟨rfl, rfl⟩
    have hp : (bookL b cs VI WI rI aI VE WE rE aE (A ++ (v, zs) :: C) G).Perm (bookL b cs VI WI rI aI VE WE rE aE (A ++ C) (rwEntries (v, zs) :: G)) := by
      unfold bookL
      rw [List.map_append, List.map_cons, List.map_append]
      classical
      rw [List.perm_iff_count]
      intro a
      simp only [List.count_append, List.count_cons]
      omega
    refine ⟨rfl, ⟨cs, VI, WI, rI, aI, VE, WE, rE, aE, rwEntries (v, zs) :: G, h1.perm hp, h2, h3, h4, fun k hk r hr => h5 k hk r (hp.mem_iff.2 hr), fun r hr => ?_⟩, fun _ _ => rfl, Below.refl _ _⟩
    rcases List.mem_cons.1 hr with rfl | hr
    · simp
    · have := h6 r hr
      simp only [List.map_append, List.map_cons, List.mem_append, List.mem_cons] at this ⊢
      rcases this with h | (h | h | h) | h
      · exact .inl h
      · exact .inr (.inl (.inl h))
      · exact .inr (.inr (.inl h))
      · exact .inr (.inl (.inr h))
      · exact .inr (.inr (.inr h))
theorem Book.addI (h : Book B b ks xs rd w0) (hb0 : Below w0.heap.size w0 w) (hr0 : (rwInts (v, zi)).ok w0.heap.size w) (hz : zi.length ≤ 100000) (hB0 : B ≤ w0.heap.size) (hnd : ks.Nodup) (hks : ∀ k ∈ ks, B ≤ k ∧ k < w0.heap.size) :
    Calls Tryz.prog 37 #[.pointer (some ⟨b, 0, none⟩), v] w fun e w' => e = .returned (.tuple #[]) ∧ Book B b ks xs rd w' ∧ Rd w' v zi.length (cellsInts zi) ∧ (∀ k ∈ ks, w'.heap[k]? = w.heap[k]?) ∧ Below B w w' := by
  obtain ⟨cs, VI, WI, rI, aI, VE, WE, rE, aE, G, h1, h2, h3, h4, h5, h6⟩ := h
  have hB : B ≤ w.heap.size := Nat.le_trans hB0 hb0.size
  have hks' : ∀ k ∈ ks, B ≤ k ∧ k < w.heap.size := fun k hk => ⟨(hks k hk).1, Nat.lt_of_lt_of_le (hks k hk).2 hb0.size⟩
  have hn := Own.new h1 hb0 hr0 hB0
  have h5' : ∀ k ∈ ks, ∀ r ∈ rwInts (v, zi) :: bookL b cs VI WI rI aI VE WE rE aE xs G, r.v.ownBlock ≠ some k := fun k hk r hr he => by
    rcases List.mem_cons.1 hr with rfl | hr
    · have := (hr0.lt k he).1
      have := (hks k hk).2
      omega
    · exact h5 k hk r hr he
  have hw := hn.withPhoto hnd hks' h5'
  by_cases hl : rI.length < 250
  · have hp : (photo w ks ++ (rwInts (v, zi) :: bookL b cs VI WI rI aI VE WE rE aE xs G)).Perm (rwInts (v, zi) :: (bookR b cs :: (keptInts VI WI rI aI ++ (photo w ks ++ (keptEntries VE WE rE aE ++ (xs.map rwEntries ++ G)))))) := by
      unfold bookL
      classical
      rw [List.perm_iff_count]
      intro a
      simp only [List.count_append, List.count_cons]
      omega
    refine (addInts_tot (hw.perm hp) h2.i0 h2.i1 h3 hl (by omega) hB).mono ?_
    rintro e w' ⟨rfl, hb, V', W', v', ho⟩
    have hq : (bookR b ((cs.set 2 V').set 3 W') :: (keptInts V' W' (rI ++ [(v, zi)]) (aI ++ [(v', zi)]) ++ (photo w ks ++ (keptEntries VE WE rE aE ++ (xs.map rwEntries ++ G))))).Perm (photo w ks ++ bookL b ((cs.set 2 V').set 3 W') V' W' (rI ++ [(v, zi)]) (aI ++ [(v', zi)]) VE WE rE aE xs G) := by
      unfold bookL
      classical
      rw [List.perm_iff_count]
      intro a
      simp only [List.count_append, List.count_cons]
      omega
    have ho' := ho.perm hq
    refine ⟨rfl, ⟨_, V', W', _, _, VE, WE, rE, aE, G, ho'.sub (List.sublist_append_right _ _), h2.setI V' W', h3.add v v' zi hl hz, h4, photo_off ho', h6⟩, ?_, photo_back ho' (fun r hr => List.mem_append_left _ hr) (fun k hk => (hks' k hk).2), hb⟩
    exact (ho.1 (rwInts (v, zi)) (by simp [keptInts])).rd
  · refine (fullInts_tot (R := keptEntries VE WE rE aE ++ (xs.map rwEntries ++ G)) v hn.tail h2.i0 (by omega) (by have := h3.len; omega)).mono ?_
    rintro e w' ⟨rfl, rfl⟩
    refine ⟨rfl, ⟨cs, VI, WI, rI, aI, VE, WE, rE, aE, G, hn.tail, h2, h3, h4, h5, h6⟩, hn.head.rd, fun _ _ => rfl, Below.refl _ _⟩
theorem Book.apart (h : Book B b ks xs rd w) (hB : B ≤ w.heap.size) :
    Calls Tryz.prog 24 #[.pointer (some ⟨b, 0, none⟩)] w fun e w' => e = .returned (.bool true) ∧ Below B w w' := by
  obtain ⟨cs, VI, WI, rI, aI, VE, WE, rE, aE, G, h1, h2, h3, h4, h5, h6⟩ := h
  exact apartAaIE_any B b cs VI WI rI aI VE WE rE aE _ w h1 h2.i0 h2.i1 h3 h2.e0 h2.e1 h4 h2.rest hB
end
end Go.Proofs.YtocafnhpbggaiaaGreat

namespace Go.Proofs.YtocafnhpbggaiaaGreat
open Go.RowKit

def ksOf (p : Nat) (ns : List Nd) (rv tv : Value) (ex : List Nat) : List Nat := foot p ns ++ ((ob rv).toList ++ ((ob tv).toList ++ ex))
structure St7 (B p b : Nat) (ns : List Nd) (er : List Ent) (T : List Tw) (rv tv : Value) (ex : List Nat) (xs rd : List (Value × List ElEntries)) (w : World) : Prop where
  skp : Skp B p ns w
  rrow : Row w 34 4 rv er.length (cellsE er)
  rnil : er = [] → rv = .slice none 0 0
  trow : Row w 92 5 tv T.length (cellsT T)
  nd : (ksOf p ns rv tv ex).Nodup
  base : ∀ k ∈ ksOf p ns rv tv ex, B ≤ k ∧ k < w.heap.size
  book : Book B b (ksOf p ns rv tv ex) xs rd w
section
variable {B p b : Nat} {ns : List Nd} {er : List Ent} {T : List Tw} {rv tv : Value} {ex : List Nat} {xs rd : List (Value × List ElEntries)} {w w' : World}
theorem ks_foot {k : Nat} (h : k ∈ foot p ns) : k ∈ ksOf p ns rv tv ex := List.mem_append_left _ h
theorem ks_r {k : Nat} (h : ob rv = some k) : k ∈ ksOf p ns rv tv ex := by simp [ksOf, h]
theorem ks_t {k : Nat} (h : ob tv = some k) : k ∈ ksOf p ns rv tv ex := by simp [ksOf, h]
theorem St7.size (h : St7 B p b ns er T rv tv ex xs rd w) : B ≤ w.heap.size := h.skp.size
theorem St7.keep (h : St7 B p b ns er T rv tv ex xs rd w) (hk : ∀ k ∈ ksOf p ns rv tv ex, w'.heap[k]? = w.heap[k]?) (hs : w.heap.size ≤ w'.heap.size) {xs' rd' : List (Value × List ElEntries)} (hb : Book B b (ksOf p ns rv tv ex) xs' rd' w') : St7 B p b ns er T rv tv ex xs' rd' w' where
  skp := ⟨h.skp.lst.kept (fun k hm => hk k (ks_foot hm)), h.skp.right, h.skp.base⟩
  rrow := h.rrow.kept (fun k e => hk k (ks_r e))
  rnil := h.rnil
  trow := h.trow.kept (fun k e => hk k (ks_t e))
  nd := h.nd
  base := fun k hm => ⟨(h.base k hm).1, Nat.lt_of_lt_of_le (h.base k hm).2 hs⟩
  book := hb
theorem St7.below (h : St7 B p b ns er T rv tv ex xs rd w) (hb : Below w.heap.size w w') : St7 B p b ns er T rv tv ex xs rd w' :=
  h.keep (fun k hm => hb.block k (h.base k hm).2) hb.size (h.book.below hb)
theorem St7.row (h : St7 B p b ns er T rv tv ex xs rd w) (hb : Below w.heap.size w w') {v : Value} {zs : List ElEntries} (hr : (rwEntries (v, zs)).ok w.heap.size w') : St7 B p b ns er T rv tv ex ((v, zs) :: xs) rd w' :=
  h.keep (fun k hm => hb.block k (h.base k hm).2) hb.size (h.book.row hb hr h.size (fun k hm => (h.base k hm).2))
theorem St7.addE {A C : List (Value × List ElEntries)} {v : Value} {zs : List ElEntries} (h : St7 B p b ns er T rv tv ex (A ++ (v, zs) :: C) rd w) (hz : zs.length ≤ 100000) :
    Calls Tryz.prog 16 #[.pointer (some ⟨b, 0, none⟩), v] w fun e w' => e = .returned (.tuple #[]) ∧ St7 B p b ns er T rv tv ex (A ++ C) ((v, zs) :: rd) w' ∧ Below B w w' := by
  refine (h.book.addE hz h.size h.nd h.base).mono ?_
  rintro e w' ⟨rfl, h1, h2, h3⟩
  exact ⟨rfl, h.keep h2 h3.size h1, h3⟩
theorem St7.addI {v : Value} {zi : List Int} {w0 : World} (h : St7 B p b ns er T rv tv ex xs rd w0) (hb0 : Below w0.heap.size w0 w) (hr0 : (rwInts (v, zi)).ok w0.heap.size w) (hz : zi.length ≤ 100000) :
    Calls Tryz.prog 37 #[.pointer (some ⟨b, 0, none⟩), v] w fun e w' => e = .returned (.tuple #[]) ∧ St7 B p b ns er T rv tv ex xs rd w' ∧ Rd w' v zi.length (cellsInts zi) ∧ Below B w w' := by
  refine (h.book.addI hb0 hr0 hz h.size h.nd h.base).mono ?_
  rintro e w' ⟨rfl, h1, h2, h3, h4⟩
  exact ⟨rfl, (h.below hb0).keep h3 h4.size h1, h2, h4⟩
/-- A row of new memory is kept beside. -/
theorem St7.take (h : St7 B p b ns er T rv tv [] xs rd w) (hb : Below w.heap.size w w') {v : Value} (hv : ∀ k, ob v = some k → w.heap.size ≤ k) (hl : ∀ k, ob v = some k → k < w'.heap.size) : St7 B p b ns er T rv tv (ob v).toList xs rd w' := by
  have h1 := h.below hb
  have hk : ∀ k ∈ ksOf p ns rv tv (ob v).toList, k ∈ ksOf p ns rv tv [] ∨ ob v = some k := fun k hm => by
    simp only [ksOf, List.mem_append, Option.mem_toList] at hm ⊢
    rcases hm with hm | hm | hm | hm
    · exact .inl (.inl hm)
    · exact .inl (.inr (.inl hm))
    · exact .inl (.inr (.inr (.inl hm)))
    · exact .inr hm
  refine ⟨h1.skp, h1.rrow, h1.rnil, h1.trow, ?_, fun k hm => ?_, ?_⟩
  · have hn := h.nd
    have e : ksOf p ns rv tv (ob v).toList = ksOf p ns rv tv [] ++ (ob v).toList := by simp [ksOf]
    rw [e, List.nodup_append]
    refine ⟨hn, by cases ob v <;> simp, fun x hx y hy he => ?_⟩
    have h2 := (h.base x hx).2
    have h3 := hv y (by simpa using hy)
    omega
  · rcases hk k hm with hm | hm
    · exact h1.base k hm
    · exact ⟨Nat.le_trans h.size (hv k hm), hl k hm⟩
  · refine (h.book.other (ls := ksOf p ns rv tv (ob v).toList) (fun k hm => ?_)).below hb
    rcases hk k hm with hm | hm
    · exact .inl hm
    · exact .inr (hv k hm)
/-- Behind Put. -/
theorem St7.put {x : Ent} {l : Nat} {t : Bool} {ns' : List Nd} (h : St7 B p b ns er T rv tv ex xs rd w) (hp : Puts w x l ns t ns') (hs : Skp B p ns' w') (ht : Turn (foot p ns) w w') : St7 B p b ns' er T rv tv ex xs rd w' := by
  have hsub : ∀ k ∈ foot p ns, k ∈ foot p ns' := by
    rcases hp with ⟨-, rfl, -⟩ | ⟨-, -, -, P, Q, a, hc, rfl, -⟩
    · exact fun k hk => hk
    · intro k hk
      rw [hc.all] at hk
      simp only [foot, List.map_cons, List.map_append, List.mem_cons, List.mem_append] at hk ⊢
      rcases hk with hk | hk | hk
      · exact .inl hk
      · exact .inr (.inl hk)
      · exact .inr (.inr (.inr hk))
  have hnd := h.nd
  unfold ksOf at hnd
  obtain ⟨n1, n2, n3⟩ := List.nodup_append.1 hnd
  have hrest : ∀ k ∈ (ob rv).toList ++ ((ob tv).toList ++ ex), k ∉ foot p ns := fun k hk hf => n3 k hf k hk rfl
  have hrb : ∀ k ∈ (ob rv).toList ++ ((ob tv).toList ++ ex), B ≤ k ∧ k < w.heap.size := fun k hk => h.base k (List.mem_append_right _ hk)
  have hks : ∀ k ∈ ksOf p ns' rv tv ex, k ∈ ksOf p ns rv tv ex ∨ w.heap.size ≤ k := fun k hm => by
    unfold ksOf at hm ⊢
    rcases List.mem_append.1 hm with hm | hm
    · rcases puts_foot hp k hm with h1 | h1
      · exact .inl (List.mem_append_left _ h1)
      · exact .inr h1
    · exact .inl (List.mem_append_right _ hm)
  refine ⟨hs, h.rrow.kept (fun k e => ht.block k (hrb k (by simp [e])).2 (hrest k (by simp [e]))), h.rnil, h.trow.kept (fun k e => ht.block k (hrb k (by simp [e])).2 (hrest k (by simp [e]))), ?_, fun k hm => ?_, ?_⟩
  · unfold ksOf
    refine List.nodup_append.2 ⟨hs.lst.nodup, n2, fun x hx y hy he => ?_⟩
    subst he
    rcases puts_foot hp x hx with h1 | h1
    · exact hrest x hy h1
    · have := (hrb x hy).2
      omega
  · unfold ksOf at hm
    rcases List.mem_append.1 hm with hm | hm
    · exact ⟨hs.base k hm, hs.lst.lt k hm⟩
    · exact ⟨(hrb k hm).1, Nat.lt_of_lt_of_le (hrb k hm).2 ht.size⟩
  · exact (h.book.other hks).turned (ht.mono (fun k hk => .inl (ks_foot (hsub k hk))))
/-- The row that was kept beside is the document's list now. -/
theorem St7.swap {v : Value} {er' : List Ent} (h : St7 B p b ns er T rv tv (ob v).toList xs rd w) (hr : Row w 34 4 v er'.length (cellsE er')) (h0 : er' = [] → v = .slice none 0 0) : St7 B p b ns er' T v tv [] xs rd w := by
  have hk : ∀ k ∈ ksOf p ns v tv [], k ∈ ksOf p ns rv tv (ob v).toList := fun k hm => by
    simp only [ksOf, List.mem_append, Option.mem_toList, List.not_mem_nil, or_false] at hm ⊢
    rcases hm with hm | hm | hm
    · exact .inl hm
    · exact .inr (.inr (.inr hm))
    · exact .inr (.inr (.inl hm))
  refine ⟨h.skp, hr, h0, h.trow, ?_, fun k hm => h.base k (hk k hm), h.book.other (fun k hm => .inl (hk k hm))⟩
  have hp : (ksOf p ns rv tv (ob v).toList).Perm ((ob rv).toList ++ ksOf p ns v tv []) := by
    unfold ksOf
    rw [List.perm_iff_count]
    intro a
    simp only [List.count_append, List.count_nil]
    omega
  exact (List.nodup_append.1 (hp.nodup_iff.1 h.nd)).2.1
theorem St7.drop (h : St7 B p b ns er T rv tv ex xs rd w) : St7 B p b ns er T rv tv [] xs rd w := by
  have hk : ∀ k ∈ ksOf p ns rv tv [], k ∈ ksOf p ns rv tv ex := fun k hm => by
    simp only [ksOf, List.mem_append, List.not_mem_nil, or_false] at hm ⊢
    rcases hm with hm | hm | hm
    · exact .inl hm
    · exact .inr (.inl hm)
    · exact .inr (.inr (.inl hm))
  refine ⟨h.skp, h.rrow, h.rnil, h.trow, ?_, fun k hm => h.base k (hk k hm), h.book.other (fun k hm => .inl (hk k hm))⟩
  have hn := h.nd
  unfold ksOf at hn ⊢
  rw [← List.append_assoc, ← List.append_assoc] at hn
  rw [← List.append_assoc, ← List.append_assoc, List.append_nil]
  exact (List.nodup_append.1 hn).1
/-- One tower more. -/
theorem St7.tower {t : Tw} {v : Value} (h : St7 B p b ns er T rv tv [] xs rd w) (hr : Row w' 92 5 v (T.length + 1) (cellsT T ++ t.cells)) (hg : w.grownBy w' (ob tv)) (ho : ob v = ob tv ∨ (ob v = some w.heap.size ∧ w.grownBy w' none)) : St7 B p b ns er (T ++ [t]) rv v [] xs rd w' := by
  have ht : Turn (ob tv).toList w w' := turn_of_grown hg (fun k hk => .inl (by simp [hk]))
  have hn := h.nd
  have hp : (ksOf p ns rv tv []).Perm ((ob tv).toList ++ (foot p ns ++ (ob rv).toList)) := by
    unfold ksOf
    rw [List.perm_iff_count]
    intro a
    simp only [List.count_append, List.count_nil]
    omega
  obtain ⟨n1, n2, n3⟩ := List.nodup_append.1 (hp.nodup_iff.1 hn)
  have hmem : ∀ k, k ∈ foot p ns ++ (ob rv).toList → k ∈ ksOf p ns rv tv [] := fun k hk => hp.mem_iff.2 (List.mem_append_right _ hk)
  have hoff : ∀ k, k ∈ foot p ns ++ (ob rv).toList → w'.heap[k]? = w.heap[k]? := fun k hk => ht.block k (h.base k (hmem k hk)).2 (fun hm => n3 k hm k hk rfl)
  have hv : ∀ k, ob v = some k → (k ∈ ksOf p ns rv tv [] ∧ ob tv = some k) ∨ (k = w.heap.size) := fun k hk => by
    rcases ho with e | ⟨e, -⟩
    · exact .inl ⟨ks_t (e ▸ hk), e ▸ hk⟩
    · rw [e] at hk
      cases hk
      exact .inr rfl
  have hks : ∀ k ∈ ksOf p ns rv v [], k ∈ foot p ns ++ (ob rv).toList ∨ ob v = some k := fun k hm => by
    simp only [ksOf, List.mem_append, Option.mem_toList, List.not_mem_nil, or_false] at hm ⊢
    rcases hm with hm | hm | hm
    · exact .inl (.inl hm)
    · exact .inl (.inr hm)
    · exact .inr hm
  refine ⟨⟨h.skp.lst.kept (fun k hk => hoff k (List.mem_append_left _ hk)), h.skp.right, h.skp.base⟩, h.rrow.kept (fun k e => hoff k (List.mem_append_right _ (by simp [e]))), h.rnil, ?_, ?_, fun k hm => ?_, ?_⟩
  · rw [List.length_append, cellsT_append]
    simpa [cellsT] using hr
  · have hp2 : (ksOf p ns rv v []).Perm ((ob v).toList ++ (foot p ns ++ (ob rv).toList)) := by
      unfold ksOf
      rw [List.perm_iff_count]
      intro a
      simp only [List.count_append, List.count_nil]
      omega
    refine hp2.nodup_iff.2 (List.nodup_append.2 ⟨by cases ob v <;> simp, n2, fun x hx y hy he => ?_⟩)
    subst he
    rcases hv x (by simpa using hx) with ⟨-, e⟩ | e
    · exact n3 x (by simp [e]) x hy rfl
    · have := (h.base x (hmem x hy)).2
      omega
  · rcases hks k hm with hm | hm
    · exact ⟨(h.base k (hmem k hm)).1, Nat.lt_of_lt_of_le (h.base k (hmem k hm)).2 hg.size⟩
    · refine ⟨?_, hr.lt k hm⟩
      rcases hv k hm with ⟨h1, -⟩ | e
      · exact (h.base k h1).1
      · have := h.size
        omega
  · have hb1 : Book B b (ksOf p ns rv tv []) xs rd w' := h.book.turned (ht.mono (fun k hk => .inl (ks_t (by simpa using hk))))
    have hb2 : Book B b (ksOf p ns rv v [] ++ ksOf p ns rv tv []) xs rd w := h.book.other (fun k hm => by
      rcases List.mem_append.1 hm with hm | hm
      · rcases hks k hm with hm | hm
        · exact .inl (hmem k hm)
        · rcases hv k hm with ⟨h1, -⟩ | e
          · exact .inl h1
          · exact .inr (by omega)
      · exact .inl hm)
    have hb3 := hb2.turned (ht.mono (fun k hk => .inl (List.mem_append_right _ (ks_t (by simpa using hk)))))
    exact hb3.other (fun k hm => .inl (List.mem_append_left _ hm))
end
end Go.Proofs.YtocafnhpbggaiaaGreat

namespace Go.Proofs.YtocafnhpbggaiaaGreat
open Go.RowKit

theorem cutE_ents {x : Ent} {ns P Q : List Nd} (h : Cut x.k x.s ns P Q) : CutE x (entsOf ns) (entsOf P) (entsOf Q) := by
  refine ⟨by rw [h.all]; simp [entsOf], fun y hy => ?_, fun y hy => ?_⟩
  · obtain ⟨n, hn, rfl⟩ := mem_entsOf.1 hy
    exact h.ahead n hn
  · obtain ⟨n, hn, rfl⟩ := mem_entsOf.1 hy
    exact h.behind n hn
theorem thereE_ents (x : Ent) (Q : List Nd) : thereE x (entsOf Q) = there x Q := by cases Q <;> rfl
theorem lessB_cmp (a k : ByteArray) (s : Int) (hs : s ≤ 18446744073709551615) : lessB a k = decide (cmpE a s k 18446744073709551615 = -1) := by
  rw [← key_less a k s hs, ByteArray.toList_eq, ByteArray.toList_eq, less_cb]
  rfl
theorem range_cut {k : ByteArray} {ns P Q : List Nd} (hr : Right ns) (hc : Cut k 18446744073709551615 ns P Q) : rangeE k ⟨#[]⟩ (entsOf ns) = entsOf Q := by
  rw [cut_filter hc]
  unfold rangeE
  refine List.filter_congr fun e he => ?_
  obtain ⟨n, hn, rfl⟩ := mem_entsOf.1 he
  unfold inRange
  rw [lessB_cmp _ _ n.e.s (hr.fit n hn).2.2.2]
  have h0 : (ByteArray.toList ⟨#[]⟩).isEmpty = true := by rw [ByteArray.toList_eq]; rfl
  rw [h0]
  simp
def fitsP (key : ByteArray) (seq : Int) (x : Ent) : Prop := x.k = key ∧ x.s ≤ seq
theorem picks_iff (key : ByteArray) (seq : Int) (o : Option Ent) (x : Ent) : picks key seq o x = true ↔ fitsP key seq x ∧ ∀ y, o = some y → y.s < x.s := by
  unfold picks fitsP
  have hk : (x.k.toList == key.toList) = true ↔ x.k = key := by
    rw [beq_iff_eq]
    constructor
    · intro h
      rw [ByteArray.toList_eq, ByteArray.toList_eq] at h
      exact ByteArray.ext (Array.ext' h)
    · rintro rfl
      rfl
  simp only [Bool.and_eq_true, hk, decide_eq_true_eq, Bool.or_eq_true, Bool.not_eq_true', and_assoc]
  cases o with
  | none => simp
  | some y => simp
theorem pickF_spec (key : ByteArray) (seq : Int) (es : List Ent) : ∀ i, i ≤ es.length → (pickF key seq (es.take i) = none → ∀ x ∈ es.take i, ¬ fitsP key seq x) ∧ (∀ y, pickF key seq (es.take i) = some y → y ∈ es.take i ∧ fitsP key seq y ∧ ∀ x ∈ es.take i, fitsP key seq x → x.s ≤ y.s)
  | 0, _ => by simp [pickF]
  | i + 1, h => by
    obtain ⟨h1, h2⟩ := pickF_spec key seq es i (by omega)
    have hm : ∀ x, x ∈ es.take (i + 1) ↔ x ∈ es.take i ∨ x = es[i] := fun x => by
      rw [List.take_succ_eq_append_getElem (show i < es.length by omega), List.mem_append, List.mem_singleton]
    rw [pickF_take key seq es i (by omega)]
    by_cases hp : picks key seq (pickF key seq (es.take i)) es[i] = true
    · rw [if_pos hp]
      obtain ⟨p1, p2⟩ := (picks_iff _ _ _ _).1 hp
      refine ⟨fun h0 => (by cases h0), fun y hy => ?_⟩
      obtain rfl : es[i] = y := by simpa using hy
      refine ⟨(hm _).2 (.inr rfl), p1, fun x hx hf => ?_⟩
      rcases (hm x).1 hx with hx | rfl
      · cases ho : pickF key seq (es.take i) with
        | none => exact absurd hf (h1 ho x hx)
        | some z =>
          have := p2 z ho
          have := (h2 z ho).2.2 x hx hf
          omega
      · omega
    · rw [if_neg hp]
      refine ⟨fun h0 x hx hf => ?_, fun y hy => ?_⟩
      · rcases (hm x).1 hx with hx | rfl
        · exact h1 h0 x hx hf
        · exact hp ((picks_iff _ _ _ _).2 ⟨hf, fun y hy => by rw [h0] at hy; cases hy⟩)
      · obtain ⟨q1, q2, q3⟩ := h2 y hy
        refine ⟨(hm y).2 (.inl q1), q2, fun x hx hf => ?_⟩
        rcases (hm x).1 hx with hx | rfl
        · exact q3 x hx hf
        · by_cases hlt : y.s < es[i].s
          · exact absurd ((picks_iff _ _ _ _).2 ⟨hf, fun z hz => by rw [hy] at hz; cases hz; exact hlt⟩) hp
          · omega
theorem ord_uniq {l : List Ent} (h : l.Pairwise ltE) {x y : Ent} (hx : x ∈ l) (hy : y ∈ l) (hk : x.k = y.k) (hs : x.s = y.s) : x = y := by
  induction l with
  | nil => cases hx
  | cons a l ih =>
    rw [List.pairwise_cons] at h
    have hne : ∀ {u v : Ent}, u.k = v.k → u.s = v.s → ¬ ltE u v := fun {u v} h1 h2 h3 => by
      unfold ltE at h3
      rw [h1, h2, cmpE_refl] at h3
      exact absurd h3 (by decide)
    rcases List.mem_cons.1 hx with rfl | hx'
    · rcases List.mem_cons.1 hy with rfl | hy'
      · rfl
      · exact absurd (h.1 y hy') (hne hk hs)
    · rcases List.mem_cons.1 hy with rfl | hy'
      · exact absurd (h.1 x hx') (hne hk.symm hs.symm)
      · exact ih h.2 hx' hy'
theorem pick_cut {key : ByteArray} {seq : Int} {ns P Q : List Nd} (ho : ns.Pairwise ltN) (hc : Cut key seq ns P Q) : pickF key seq (entsOf ns) = getR key Q := by
  obtain ⟨h1, h2⟩ := pickF_spec key seq (entsOf ns) _ (Nat.le_refl _)
  rw [List.take_length] at h1 h2
  cases hp : pickF key seq (entsOf ns) with
  | none =>
    cases hg : getR key Q with
    | none => rfl
    | some y =>
      obtain ⟨g1, g2, g3⟩ := getR_right hc hg
      exact absurd ⟨g1, g2⟩ (h1 hp y g3)
  | some z =>
    obtain ⟨q1, q2, q3⟩ := h2 z hp
    obtain ⟨y, hy, hle⟩ := getR_most ho hc q1 q2.1 q2.2
    obtain ⟨g1, g2, g3⟩ := getR_right hc hy
    have := q3 y g3 ⟨g1, g2⟩
    rw [hy, ord_uniq (ents_ord ho) q1 g3 (q2.1.trans g1.symm) (by omega)]
/-- The document's towers are the list's. -/
def Tws (T : List Tw) (ns : List Nd) : Prop := T.Perm (ns.map fun n => ⟨n.e, n.l⟩)
theorem hgtT_cons (a : Tw) (r : List Tw) : hgtT (a :: r) = max a.l (hgtT r) := by
  have : ∀ (r : List Tw) (h : Nat), r.foldl (fun h t => max h t.l) h = max h (r.foldl (fun h t => max h t.l) 0) := by
    intro r
    induction r with
    | nil => intro h; simp
    | cons b r ih =>
      intro h
      rw [List.foldl_cons, List.foldl_cons, ih, ih (max 0 b.l)]
      omega
  show List.foldl (fun h t => max h t.l) 0 (a :: r) = max a.l (List.foldl (fun h t => max h t.l) 0 r)
  rw [List.foldl_cons, this]
  omega
theorem hgtT_perm {S T : List Tw} (h : S.Perm T) : hgtT S = hgtT T := by
  have aux : ∀ {S T : List Tw}, (∀ t ∈ S, t ∈ T) → hgtT S ≤ hgtT T := fun {S T} hm => hgtT_le (fun t ht => by
    have := hm t ht
    clear hm ht
    induction T with
    | nil => cases this
    | cons a r ih =>
      have e : hgtT (a :: r) = max a.l (hgtT r) := hgtT_cons a r
      rw [e]
      rcases List.mem_cons.1 this with rfl | h1
      · exact Nat.le_max_left _ _
      · exact Nat.le_trans (ih h1) (Nat.le_max_right _ _))
  exact Nat.le_antisymm (aux fun t ht => h.mem_iff.1 ht) (aux fun t ht => h.mem_iff.2 ht)
theorem hgtT_map : ∀ ns : List Nd, hgtT (ns.map fun n => ⟨n.e, n.l⟩) = hgt ns
  | [] => rfl
  | n :: r => by
    rw [List.map_cons, hgtT_cons, hgtT_map r]
    rfl
theorem Tws.high {T : List Tw} {ns : List Nd} (h : Tws T ns) : hgtT T = hgt ns := (hgtT_perm h).trans (hgtT_map ns)
theorem Tws.len {T : List Tw} {ns : List Nd} (h : Tws T ns) : T.length = ns.length := by have := h.length_eq; simpa using this
theorem Tws.mem {T : List Tw} {ns : List Nd} (h : Tws T ns) {t : Tw} (ht : t ∈ T) : ∃ n ∈ ns, t = ⟨n.e, n.l⟩ := by
  obtain ⟨n, hn, rfl⟩ := List.mem_map.1 (h.mem_iff.1 ht)
  exact ⟨n, hn, rfl⟩
theorem Tws.cnt {T : List Tw} {ns P Q : List Nd} {key : ByteArray} (h : Tws T ns) (hr : Right ns) (hc : Cut key 18446744073709551615 ns P Q) (v : Nat) (hv : 1 ≤ v) : cntT key v T = pcnt (v - 1) P := by
  unfold cntT
  rw [(h.filter _).length_eq, List.filter_map, List.length_map, hc.all, List.filter_append, List.length_append]
  have e1 : (P.filter ((fun t : Tw => decide (v ≤ t.l) && lessB t.e.k key) ∘ fun n : Nd => ⟨n.e, n.l⟩)) = P.filter fun n => decide (v - 1 < n.l) := by
    refine List.filter_congr fun n hn => ?_
    show (decide (v ≤ n.l) && lessB n.e.k key) = decide (v - 1 < n.l)
    rw [lessB_cmp _ _ n.e.s (hr.fit n (by rw [hc.all]; simp [hn])).2.2.2, hc.ahead n hn]
    simp
    omega
  have e2 : (Q.filter ((fun t : Tw => decide (v ≤ t.l) && lessB t.e.k key) ∘ fun n : Nd => ⟨n.e, n.l⟩)) = [] := by
    rw [List.filter_eq_nil_iff]
    intro n hn
    show ¬ (decide (v ≤ n.l) && lessB n.e.k key) = true
    rw [lessB_cmp _ _ n.e.s (hr.fit n (by rw [hc.all]; simp [hn])).2.2.2]
    simp [hc.behind n hn]
  rw [e1, e2]
  rfl
theorem Tws.path {T : List Tw} {ns P Q : List Nd} {key : ByteArray} (h : Tws T ns) (hr : Right ns) (hc : Cut key 18446744073709551615 ns P Q) : pathT key T (hgtT T) (hgtT T) = cellsInts (pathZ P (hgt ns)) := by
  rw [pathZ_cells, h.high]
  unfold pathT pathL
  refine List.map_congr_left fun j hj => ?_
  have hj := List.mem_range.1 hj
  rw [h.cnt hr hc _ (by omega), show hgt ns - j - 1 = hgt ns - 1 - j by omega]
theorem Tws.put {W : World} {x : Ent} {l : Nat} {T : List Tw} {ns ns' : List Nd} (h : Tws T ns) (hp : Puts W x l ns true ns') : Tws (T ++ [⟨x, l⟩]) ns' := by
  rcases hp with ⟨h0, -⟩ | ⟨-, -, -, P, Q, a, hc, rfl, -⟩
  · cases h0
  · unfold Tws at *
    rw [hc.all, List.map_append] at h
    rw [List.map_append, List.map_cons]
    exact ((List.perm_append_comm).trans (h.cons _)).trans List.perm_middle.symm
end Go.Proofs.YtocafnhpbggaiaaGreat

namespace Go.Proofs.YtocafnhpbggaiaaGreat
open Go.RowKit

theorem book_new7 (B : Nat) (w : World) (hB : B ≤ w.heap.size) : Own B (w.alloc (.cells #[.slice none 0 0, .slice none 0 0, .slice none 0 0, .slice none 0 0, .slice none 0 0, .slice none 0 0, .slice none 0 0, .slice none 0 0, .slice none 0 0, .slice none 0 0, .slice none 0 0, .slice none 0 0, .slice none 0 0, .slice none 0 0, .slice none 0 0, .slice none 0 0, .slice none 0 0, .slice none 0 0, .slice none 0 0, .slice none 0 0, .slice none 0 0, .slice none 0 0, .slice none 0 0, .slice none 0 0, .slice none 0 0, .slice none 0 0, .slice none 0 0, .slice none 0 0] 60)) [bookR w.heap.size (List.replicate 28 (.slice none 0 0))] := by
  have h0 : Own B w [] := Own.nil B w
  refine h0.new (r := bookR w.heap.size (List.replicate 28 (.slice none 0 0))) ((Below.refl _ _).alloc (Nat.le_refl _) _) ?_ hB
  refine ⟨rfl, .inr ⟨w.heap.size, 1, #[.slice none 0 0, .slice none 0 0, .slice none 0 0, .slice none 0 0, .slice none 0 0, .slice none 0 0, .slice none 0 0, .slice none 0 0, .slice none 0 0, .slice none 0 0, .slice none 0 0, .slice none 0 0, .slice none 0 0, .slice none 0 0, .slice none 0 0, .slice none 0 0, .slice none 0 0, .slice none 0 0, .slice none 0 0, .slice none 0 0, .slice none 0 0, .slice none 0 0, .slice none 0 0, .slice none 0 0, .slice none 0 0, .slice none 0 0, .slice none 0 0, .slice none 0 0], rfl, Nat.le_refl _, ?_, Nat.le_refl _, by unfold maxLen; omega, rfl, rfl⟩⟩
  simp [World.alloc, -World.alloc_eq, bookR]
theorem St7.start {B p b : Nat} {w w' : World} (h : Skp B p [] w) (hb : Below w.heap.size w w') (hbook : Own B w' [bookR b (List.replicate 28 (.slice none 0 0))]) (hpb : p ≠ b) : St7 B p b [] [] [] (.slice none 0 0) (.slice none 0 0) [] [] [] w' := by
  have h1 := h.below hb
  have hm : ∀ k ∈ ksOf p [] (.slice none 0 0) (.slice none 0 0) [], k = p := fun k hk => by simpa [ksOf, foot, hd, ob] using hk
  refine ⟨h1, row_nil _ _ _, fun _ => rfl, row_nil _ _ _, by simp [ksOf, foot, hd, ob], fun k hk => ?_, Book.start hbook (fun k hk => by rw [hm k hk]; exact hpb)⟩
  have e := hm k hk
  subst e
  exact ⟨h1.base k (by simp [foot, hd]), h1.lst.hdlt⟩
theorem cut_uniq {k : ByteArray} {s : Int} {ns P Q P' Q' : List Nd} (h : Cut k s ns P Q) (h' : Cut k s ns P' Q') : P = P' ∧ Q = Q' := by
  have e : P ++ Q = P' ++ Q' := h.all.symm.trans h'.all
  rcases List.append_eq_append_iff.1 e with ⟨a, h1, h2⟩ | ⟨a, h1, h2⟩
  · cases a with
    | nil => exact ⟨by simpa using h1.symm, by simpa using h2⟩
    | cons y r => exact absurd (h'.ahead y (by rw [h1]; simp)) (h.behind y (by rw [h2]; simp))
  · cases a with
    | nil => exact ⟨by simpa using h1, by simpa using h2.symm⟩
    | cons y r => exact absurd (h.ahead y (by rw [h1]; simp)) (h'.behind y (by rw [h2]; simp))
section
variable {B p b : Nat} {ns : List Nd} {T : List Tw} {rv tv : Value} {ex : List Nat} {xs rd : List (Value × List ElEntries)} {w w' : World}
theorem ents_len (ns : List Nd) : (entsOf ns).length = ns.length := by simp [entsOf]
theorem key9 {x : Ent} (h : x.k.size ≤ maxLen) : x.k.size ≤ 9223372036854775807 := by unfold maxLen at h; omega
/-- The document's Insert into the list, told in the words of what Put does. -/
theorem St7.ins (h : St7 B p b ns (entsOf ns) T rv tv [] xs rd w) (x : Ent) (hx : x.Nice) (hl : ns.length ≤ 100000) :
    Calls Tryz.prog 29 #[rv, .agg #[.string x.k, .int .u64 x.s, .int .i64 x.n, .string x.v]] w fun e w' => ∃ (v : Value) (t : Bool), e = .returned (.tuple #[v, .bool t]) ∧ (t = false ↔ ∃ y ∈ ns, same2 y.e x) ∧ Below w.heap.size w w' ∧
      (t = true → (∀ k, ob v = some k → w.heap.size ≤ k) ∧ (∀ k, ob v = some k → k < w'.heap.size) ∧ ∀ P Q, Cut x.k x.s ns P Q → Row w' 34 4 v (ns.length + 1) (cellsE (entsOf P ++ x :: entsOf Q))) := by
  obtain ⟨P, Q, hc⟩ := cut_of x.k x.s ns h.skp.right.ord
  have hk : ∀ y ∈ entsOf ns, y.k.size ≤ 9223372036854775807 := fun y hy => by
    obtain ⟨n, hn, rfl⟩ := mem_entsOf.1 hy
    exact Nat.le_trans (h.skp.right.fit n hn).1 (by omega)
  refine (insert_any rv (entsOf ns) (entsOf P) (entsOf Q) x w h.rrow h.rnil (by rw [ents_len]; omega) (cutE_ents hc) hk (key9 hx.1)).mono ?_
  rintro e w' ⟨hb, ⟨ht, rfl⟩ | ⟨ht, v, rfl, hr, ho⟩⟩
  · refine ⟨rv, false, rfl, ⟨fun _ => ?_, fun _ => rfl⟩, hb, fun h0 => by cases h0⟩
    rw [thereE_ents] at ht
    exact (there_iff h.skp.right.ord hc).1 ht
  · refine ⟨v, true, rfl, ⟨fun h0 => (by cases h0), fun h0 => ?_⟩, hb, fun _ => ⟨ho, fun k hk => hr.lt k hk, fun P' Q' hc' => ?_⟩⟩
    · rw [thereE_ents, (there_iff h.skp.right.ord hc).2 h0] at ht
      cases ht
    · have hcut := cut_uniq hc hc'
      rw [← hcut.1, ← hcut.2, ← ents_len ns]
      exact hr
end
end Go.Proofs.YtocafnhpbggaiaaGreat

namespace Go.Proofs.YtocafnhpbggaiaaGreat
open Go.RowKit

section
variable {B p b : Nat} {ns : List Nd} {er : List Ent} {T : List Tw} {rv tv : Value} {ex : List Nat} {xs rd : List (Value × List ElEntries)} {w w' : World}
theorem St7.forget (h : St7 B p b ns er T rv tv ex xs rd w) : St7 B p b ns er T rv tv ex xs [] w := h.keep (fun _ _ => rfl) (Nat.le_refl _) h.book.forget
theorem nonneg_ents {ns : List Nd} (h : Right ns) : ∀ x ∈ entsOf ns, 0 ≤ x.s := fun x hx => by
  obtain ⟨n, hn, rfl⟩ := mem_entsOf.1 hx
  exact (h.fit n hn).2.2.1
theorem rd_of_row {w : World} {v : Value} {l : List Ent} {B : Nat} (h : Row w 34 4 v l.length (cellsE l)) (h0 : l = [] → v = .slice none 0 0) (hb : ∀ k, ob v = some k → B ≤ k) (hs : ∀ x ∈ l, 0 ≤ x.s) : Rd w v (l.map elOf).length (cellsEntries (l.map elOf)) := by
  have h1 : (rwEntries (v, l.map elOf)).ok B w := by
    have := row_owns (B := B) h (fun e => h0 (List.eq_nil_of_length_eq_zero e)) hb
    show World.ownsRow _ _ _ _ _ _ _
    simp only [rwEntries, List.length_map, cells_el _ hs]
    exact this
  exact h1.rd
theorem St7.rdr (h : St7 B p b ns (entsOf ns) T rv tv ex xs rd w) : Rd w rv ((entsOf ns).map elOf).length (cellsEntries ((entsOf ns).map elOf)) :=
  rd_of_row (B := 0) h.rrow h.rnil (fun _ _ => Nat.zero_le _) (nonneg_ents h.skp.right)
theorem St7.all (h : St7 B p b ns er T rv tv ex xs rd w) (hl : ns.length ≤ 100000) :
    Calls Tryz.prog 32 #[.pointer (some ⟨p, 0, none⟩)] w fun e w' => ∃ v, e = .returned v ∧ St7 B p b ns er T rv tv ex ((v, (entsOf ns).map elOf) :: xs) rd w' ∧ Below w.heap.size w w' := by
  refine (all_own h.skp.lst h.skp.right (by omega)).mono ?_
  rintro e w' ⟨v, rfl, h1, h2, h3⟩
  exact ⟨v, rfl, h.row h3 h2, h3⟩
theorem St7.fromK {k : ByteArray} {P Q : List Nd} (h : St7 B p b ns er T rv tv ex xs rd w) (hc : Cut k 18446744073709551615 ns P Q) (hl : ns.length ≤ 100000) :
    Calls Tryz.prog 33 #[.pointer (some ⟨p, 0, none⟩), .string k] w fun e w' => ∃ v, e = .returned v ∧ St7 B p b ns er T rv tv ex ((v, (entsOf Q).map elOf) :: xs) rd w' ∧ Below w.heap.size w w' := by
  refine (from_own h.skp.lst h.skp.right hc (by omega)).mono ?_
  rintro e w' ⟨v, rfl, h1, h2, h3⟩
  exact ⟨v, rfl, h.row h3 h2, h3⟩
theorem fit_keys {ns : List Nd} (h : Right ns) : ∀ y ∈ entsOf ns, y.k.size ≤ 9223372036854775807 := fun y hy => by
  obtain ⟨n, hn, rfl⟩ := mem_entsOf.1 hy
  exact Nat.le_trans (h.fit n hn).1 (by omega)
theorem St7.range {k : ByteArray} {P Q : List Nd} (h : St7 B p b ns (entsOf ns) T rv tv ex xs rd w) (hc : Cut k 18446744073709551615 ns P Q) (hl : ns.length ≤ 100000) (hk : k.size ≤ maxLen) :
    Calls Tryz.prog 18 #[rv, .string k, .string ⟨#[]⟩] w fun e w' => ∃ v, e = .returned v ∧ Rd w' v ((entsOf Q).map elOf).length (cellsEntries ((entsOf Q).map elOf)) ∧ Below w.heap.size w w' := by
  obtain ⟨a, cap, rfl, hE⟩ := row_ents h.rrow
  have hkk : k.size ≤ 9223372036854775807 := by unfold maxLen at hk; omega
  refine (range_any a _ cap (entsOf ns) k ⟨#[]⟩ w (Nat.le_refl _) hE (by rw [ents_len]; omega) (fit_keys h.skp.right) hkk (by decide)).mono ?_
  rw [range_cut h.skp.right hc]
  rintro e w' ⟨v, rfl, h1, h2, -, h4⟩
  refine ⟨v, rfl, rd_of_row (B := 0) h1 h2 (fun _ _ => Nat.zero_le _) (fun x hx => nonneg_ents h.skp.right x ?_), h4⟩
  obtain ⟨n, hn, rfl⟩ := mem_entsOf.1 hx
  exact mem_entsOf.2 ⟨n, by rw [hc.all]; simp [hn], rfl⟩
theorem St7.pick {k : ByteArray} {s : Int} {P Q : List Nd} (h : St7 B p b ns (entsOf ns) T rv tv ex xs rd w) (hc : Cut k s ns P Q) (hl : ns.length ≤ 100000) :
    Calls Tryz.prog 14 #[rv, .string k, .int .u64 s] w fun e w' => e = .returned (getV (getR k Q)) ∧ Below w.heap.size w w' := by
  obtain ⟨a, cap, rfl, hE⟩ := row_ents h.rrow
  have := pickF_any a _ cap (entsOf ns) k s w (Nat.le_refl _) hE (by rw [ents_len]; omega)
  rw [pick_cut h.skp.right.ord hc] at this
  exact this
theorem puts_eq {W : World} {x : Ent} {l : Nat} {ns ns' : List Nd} {t t5 : Bool} (ht : t = false ↔ ∃ y ∈ ns, same2 y.e x) (h : Puts W x l ns t5 ns') : t5 = (t && validB x.k x.n x.v) := by
  rcases h with ⟨rfl, -, hv | hs⟩ | ⟨rfl, hv, hn, -⟩
  · rw [hv, Bool.and_false]
  · rw [ht.2 hs]
    rfl
  · rw [hv, Bool.and_true]
    cases t with
    | true => rfl
    | false =>
      obtain ⟨y, hy, h2⟩ := ht.1 rfl
      exact absurd h2 (hn y hy)
theorem puts_no {W : World} {x : Ent} {l : Nat} {ns ns' : List Nd} (h : Puts W x l ns false ns') : ns' = ns := by
  rcases h with ⟨-, e, -⟩ | ⟨e, -⟩
  · exact e
  · cases e
/-- Behind an Insert and a Put that both took the version in. -/
theorem St7.both {x : Ent} {l : Nat} {ns' : List Nd} {v : Value} (h : St7 B p b ns (entsOf ns) T rv tv (ob v).toList xs rd w) (hrow : ∀ P Q, Cut x.k x.s ns P Q → Row w 34 4 v (ns.length + 1) (cellsE (entsOf P ++ x :: entsOf Q))) (hp : Puts w x l ns true ns') (hs : Skp B p ns' w') (ht : Turn (foot p ns) w w') : St7 B p b ns' (entsOf ns') T v tv [] xs rd w' := by
  have h1 := h.put hp hs ht
  rcases hp with ⟨e, -⟩ | ⟨-, -, -, P, Q, a, hc, rfl, -⟩
  · cases e
  · have e : entsOf (P ++ ⟨a, x, l⟩ :: Q) = entsOf P ++ x :: entsOf Q := by simp [entsOf]
    have hl : (entsOf P ++ x :: entsOf Q).length = ns.length + 1 := by
      rw [hc.all]
      simp [entsOf]
      omega
    rw [e]
    refine h1.swap ?_ (fun h0 => by rw [h0] at hl; simp at hl)
    rw [hl]
    refine (hrow P Q hc).kept (fun k hk => ht.block k ((hrow P Q hc).lt k hk) (fun hf => ?_))
    have hnd := h.nd
    unfold ksOf at hnd
    exact (List.nodup_append.1 hnd).2.2 k hf k (by simp [hk]) rfl
theorem St7.tow {x : Ent} {lv : Nat} {v : Value} {w0 : World} (h : St7 B p b ns er T rv tv [] xs rd w0) (hb : Below w0.heap.size w0 w) (hr : Row w' 92 5 v (T.length + 1) (cellsT T ++ [.string x.k, .int .u64 x.s, .int .i64 x.n, .string x.v, .int .i64 (lv : Int)])) (hg : w.grownBy w' (ob tv)) (ho : ob v = ob tv ∨ (ob v = some w.heap.size ∧ w.grownBy w' none)) : St7 B p b ns er (T ++ [⟨x, lv⟩]) rv v [] xs rd w' :=
  (h.below hb).tower (t := ⟨x, lv⟩) hr hg ho
theorem St7.towB {w0 : World} (h : St7 B p b ns er T rv tv [] xs rd w0) (hb : Below w0.heap.size w0 w) (hg : w.grownBy w' (ob tv)) : Below B w0 w' :=
  (hb.mono h.size).trans ((turn_of_grown (F := (ob tv).toList) hg (fun k hk => .inl (by simp [hk]))).below (Nat.le_trans h.size hb.size) (fun k hk => (h.base k (ks_t (by simpa using hk))).1))
theorem infoT7 : (Tryz.prog.info? 92).map (fun i => (i.zero, i.size, i.bytes)) = some (some (.agg #[.string ⟨#[]⟩, .int .u64 0, .int .i64 0, .string ⟨#[]⟩, .int .i64 0]), 5, 56) := by kernel_rfl
end
end Go.Proofs.YtocafnhpbggaiaaGreat

namespace Go.Proofs.YtocafnhpbggaiaaGreat
open Go.RowKit

theorem row_rd {w : World} {e : TypeId} {size : Nat} {v : Value} {n : Nat} {xs : List Value} (h : Row w e size v n xs) : Rd w v n xs := by
  obtain ⟨a, cap, rfl, -, -⟩ := h.le
  refine ⟨a, cap, rfl, ?_⟩
  have h2 := h.2
  rcases h2 with ⟨hn, -⟩ | ⟨g, cap', cur, hv, hg, h1, h2, h3, h4⟩
  · exact .inl hn
  · cases hv
    exact .inr ⟨g, 0, rfl, (Array.getElem?_eq_some_iff.1 hg).1, h.cell g 0 _ rfl⟩
section
variable {B p b : Nat} {ns : List Nd} {er : List Ent} {T : List Tw} {rv tv : Value} {ex : List Nat} {xs rd : List (Value × List ElEntries)} {w w' : World}
theorem St7.addX (h : St7 B p b ns er T rv tv ex xs rd w) (hb : Below w.heap.size w w') {k : Nat} (h1 : w.heap.size ≤ k) (h2 : k < w'.heap.size) : St7 B p b ns er T rv tv (k :: ex) xs rd w' := by
  have hs := h.below hb
  have hp : (ksOf p ns rv tv (k :: ex)).Perm (k :: ksOf p ns rv tv ex) := by
    unfold ksOf
    rw [List.perm_iff_count]
    intro a
    simp only [List.count_append, List.count_cons]
    omega
  have hk : ∀ q ∈ ksOf p ns rv tv (k :: ex), q = k ∨ q ∈ ksOf p ns rv tv ex := fun q hq => List.mem_cons.1 (hp.mem_iff.1 hq)
  refine ⟨hs.skp, hs.rrow, hs.rnil, hs.trow, ?_, fun q hq => ?_, ?_⟩
  · refine hp.nodup_iff.2 (List.nodup_cons.2 ⟨fun hm => ?_, h.nd⟩)
    have := (h.base k hm).2
    omega
  · rcases hk q hq with rfl | hq
    · exact ⟨Nat.le_trans h.size h1, h2⟩
    · exact hs.base q hq
  · refine (h.book.other (ls := ksOf p ns rv tv (k :: ex)) (fun q hq => ?_)).below hb
    rcases hk q hq with rfl | hq
    · exact .inr h1
    · exact .inl hq
theorem St7.addI2 {v : Value} {zi : List Int} {w0 : World} (h : St7 B p b ns er T rv tv ex xs rd w0) (hb0 : Below w0.heap.size w0 w) (hr0 : (rwInts (v, zi)).ok w0.heap.size w) (hz : zi.length ≤ 100000) :
    Calls Tryz.prog 37 #[.pointer (some ⟨b, 0, none⟩), v] w fun e w' => e = .returned (.tuple #[]) ∧ St7 B p b ns er T rv tv ex xs rd w' ∧ Rd w' v zi.length (cellsInts zi) ∧ (∀ k ∈ ex, w'.heap[k]? = w.heap[k]?) ∧ Below B w w' := by
  refine (h.book.addI hb0 hr0 hz h.size h.nd h.base).mono ?_
  rintro e w' ⟨rfl, h1, h2, h3, h4⟩
  exact ⟨rfl, (h.below hb0).keep h3 h4.size h1, h2, fun k hk => h3 k (by simp [ksOf, hk]), h4⟩
theorem St7.path5 {key : ByteArray} {P Q : List Nd} (h : St7 B p b ns er T rv tv ex xs rd w) (hT : Tws T ns) (hc : Cut key 18446744073709551615 ns P Q) (hl : ns.length ≤ 100000) (hkey : key.size ≤ maxLen) :
    Calls Tryz.prog 39 #[tv, .string key] w fun e w' => ∃ v, e = .returned v ∧ Rd w' v (pathZ P (hgt ns)).length (cellsInts (pathZ P (hgt ns))) ∧ Below w.heap.size w w' := by
  obtain ⟨a, cap, rfl, hE⟩ := row_tws h.trow
  have hk : key.size ≤ 9223372036854775807 := by unfold maxLen at hkey; omega
  refine (path5_any a _ cap T key w (Nat.le_refl _) hE (by rw [hT.len]; omega) (fun t ht => ?_) (fun t ht => ?_) hk).mono ?_
  · obtain ⟨n, hn, rfl⟩ := hT.mem ht
    exact h.skp.lst.lev n hn
  · obtain ⟨n, hn, rfl⟩ := hT.mem ht
    exact Nat.le_trans (h.skp.right.fit n hn).1 (by omega)
  · rintro e w' ⟨v, rfl, h1, -, h3⟩
    have h4 := row_rd h1
    rw [hT.path h.skp.right hc, hT.high] at h4
    exact ⟨v, rfl, by rw [show (pathZ P (hgt ns)).length = hgt ns by simp [pathZ]]; exact h4, h3⟩
end
end Go.Proofs.YtocafnhpbggaiaaGreat
