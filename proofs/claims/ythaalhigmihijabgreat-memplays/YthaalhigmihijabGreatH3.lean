/- Parts of stage 8, joined: YK YL YM YN YO YP YQ. -/
import Derived.Test.YthaalhigmihijabGreatYJ
namespace Go.Proofs.YthaalhigmihijabGreat
open Go.RowKit

def bookL (b : Nat) (cs : List Value) (VI WI : Value) (rowsI wasI : List (Value × List Int)) (VE WE : Value) (rowsE wasE : List (Value × List ElEntries)) (xs : List (Value × List ElEntries)) (G : List Rw) : List Rw :=
  bookR b cs :: (keptInts VI WI rowsI wasI ++ (keptEntries VE WE rowsE wasE ++ (xs.map rwEntries ++ G)))
structure BookC (cs : List Value) (VI WI VE WE : Value) : Prop where
  i0 : cs[2]? = some VI
  i1 : cs[3]? = some WI
  e0 : cs[6]? = some VE
  e1 : cs[7]? = some WE
  rest : ∀ j, isNilAaIE j = true → cs[j]? = some (.slice none 0 0)
def Book (B b : Nat) (ks : List Nat) (xs rd : List (Value × List ElEntries)) (w : World) : Prop :=
  ∃ (cs : List Value) (VI WI : Value) (rowsI wasI : List (Value × List Int)) (VE WE : Value) (rowsE wasE : List (Value × List ElEntries)) (G : List Rw),
    Own B w (bookL b cs VI WI rowsI wasI VE WE rowsE wasE xs G) ∧ BookC cs VI WI VE WE ∧ FitsInts rowsI wasI ∧ FitsEntries rowsE wasE ∧
    (∀ k ∈ ks, ∀ r ∈ bookL b cs VI WI rowsI wasI VE WE rowsE wasE xs G, r.v.ownBlock ≠ some k) ∧
    (∀ r ∈ rd, rwEntries r ∈ rowsE.map rwEntries ++ (xs.map rwEntries ++ G))
section
variable {B b : Nat} {ks : List Nat} {xs rd : List (Value × List ElEntries)} {w w' : World}
theorem Book.below (h : Book B b ks xs rd w) (hb : Below w.heap.size w w') : Book B b ks xs rd w' := by
  obtain ⟨cs, VI, WI, rI, aI, VE, WE, rE, aE, G, h1, h2⟩ := h
  exact ⟨cs, VI, WI, rI, aI, VE, WE, rE, aE, G, h1.below hb, h2⟩
theorem Book.turned (h : Book B b ks xs rd w) (ht : Turn ks w w') : Book B b ks xs rd w' := by
  obtain ⟨cs, VI, WI, rI, aI, VE, WE, rE, aE, G, h1, h2, h3, h4, h5, h6⟩ := h
  refine ⟨cs, VI, WI, rI, aI, VE, WE, rE, aE, G, h1.keep (fun r hr k hk => ht.block k ((h1.1 r hr).lt k hk).2 (fun hm => h5 k hm r hr hk)), h2, h3, h4, h5, h6⟩
theorem Book.other (h : Book B b ks xs rd w) {ls : List Nat} (hl : ∀ k ∈ ls, k ∈ ks ∨ w.heap.size ≤ k) : Book B b ls xs rd w := by
  obtain ⟨cs, VI, WI, rI, aI, VE, WE, rE, aE, G, h1, h2, h3, h4, h5, h6⟩ := h
  refine ⟨cs, VI, WI, rI, aI, VE, WE, rE, aE, G, h1, h2, h3, h4, fun k hk r hr he => ?_, h6⟩
  rcases hl k hk with h | h
  · exact h5 k h r hr he
  · have := ((h1.1 r hr).lt k he).2
    omega
theorem Book.forget (h : Book B b ks xs rd w) : Book B b ks xs [] w := by
  obtain ⟨cs, VI, WI, rI, aI, VE, WE, rE, aE, G, h1, h2, h3, h4, h5, h6⟩ := h
  exact ⟨cs, VI, WI, rI, aI, VE, WE, rE, aE, G, h1, h2, h3, h4, h5, fun r hr => by cases hr⟩
theorem Book.read (h : Book B b ks xs rd w) {r : Value × List ElEntries} (hr : r ∈ rd) : Rd w r.1 r.2.length (cellsEntries r.2) := by
  obtain ⟨cs, VI, WI, rI, aI, VE, WE, rE, aE, G, h1, h2, h3, h4, h5, h6⟩ := h
  have hm := h6 r hr
  have : (rwEntries r).ok B w := h1.1 _ (by
    unfold bookL keptEntries
    simp only [List.mem_append, List.mem_cons] at hm ⊢
    rcases hm with hm | hm | hm
    · exact .inr (.inr (.inl (.inl hm)))
    · exact .inr (.inr (.inr (.inl hm)))
    · exact .inr (.inr (.inr (.inr hm))))
  exact this.rd
theorem Book.row (h : Book B b ks xs rd w) (hb : Below w.heap.size w w') {v : Value} {zs : List ElEntries} (hr : (rwEntries (v, zs)).ok w.heap.size w') (hB : B ≤ w.heap.size) (hks : ∀ k ∈ ks, k < w.heap.size) : Book B b ks ((v, zs) :: xs) rd w' := by
  obtain ⟨cs, VI, WI, rI, aI, VE, WE, rE, aE, G, h1, h2, h3, h4, h5, h6⟩ := h
  have hn := Own.new h1 hb hr hB
  have hp : (rwEntries (v, zs) :: bookL b cs VI WI rI aI VE WE rE aE xs G).Perm (bookL b cs VI WI rI aI VE WE rE aE ((v, zs) :: xs) G) := by
    unfold bookL
    rw [List.map_cons]
    classical
    rw [List.perm_iff_count]
    intro a
    simp only [List.count_append, List.count_cons]
    omega
  refine ⟨cs, VI, WI, rI, aI, VE, WE, rE, aE, G, hn.perm hp, h2, h3, h4, fun k hk r hm he => ?_, fun r hm => ?_⟩
  · rcases List.mem_cons.1 (hp.mem_iff.2 hm) with rfl | hm
    · have := (hr.lt k he).1
      have := hks k hk
      omega
    · exact h5 k hk r hm he
  · have := h6 r hm
    simp only [List.map_cons, List.mem_append, List.mem_cons] at this ⊢
    rcases this with h | h | h
    · exact .inl h
    · exact .inr (.inl (.inr h))
    · exact .inr (.inr h)
theorem Book.start (hown : Own B w (bookR b (List.replicate 28 (.slice none 0 0)) :: [])) (hks : ∀ k ∈ ks, k ≠ b) : Book B b ks [] [] w := by
  have hn : ∀ j, j < 28 → (List.replicate 28 (Value.slice none 0 0))[j]? = some (.slice none 0 0) := fun j hj => by rw [List.getElem?_replicate, if_pos hj]
  refine ⟨_, .slice none 0 0, .slice none 0 0, [], [], .slice none 0 0, .slice none 0 0, [], [], [], ?_, ⟨hn 2 (by omega), hn 3 (by omega), hn 6 (by omega), hn 7 (by omega), fun j hj => hn j (by simp [isNilAaIE] at hj; exact hj.1)⟩, FitsInts.nil, FitsEntries.nil, ?_, fun r hr => by cases hr⟩
  · have h1 := (((hown.addNil 22 1).addNil 22 1).addNil 29 1).addNil 29 1
    refine h1.perm ?_
    unfold bookL keptInts keptEntries outRInts outREntries
    classical
    rw [List.perm_iff_count]
    intro a
    simp only [List.map_nil, List.count_append, List.count_cons, List.count_nil, List.length_nil]
    omega
  · intro k hk r hr he
    simp only [bookL, keptInts, keptEntries, outRInts, outREntries, List.map_nil, List.nil_append, List.append_nil, List.mem_cons, List.mem_append, List.not_mem_nil, or_false] at hr
    rcases hr with rfl | (rfl | rfl) | (rfl | rfl)
    · exact hks k hk (by simpa [bookR, Value.ownBlock] using he.symm)
    all_goals (simp [Value.ownBlock] at he)
end
end Go.Proofs.YthaalhigmihijabGreat

namespace Go.Proofs.YthaalhigmihijabGreat
open Go.RowKit

theorem set_get {cs : List Value} {i j : Nat} {V : Value} (h : i ≠ j) : (cs.set i V)[j]? = cs[j]? := List.getElem?_set_ne h
theorem set_same {cs : List Value} {i : Nat} {V U : Value} (h : cs[i]? = some U) : (cs.set i V)[i]? = some V := by
  rw [List.getElem?_set_self (List.getElem?_eq_some_iff.1 h).1]
theorem isNil_ne {j : Nat} (h : isNilAaIE j = true) : j ≠ 2 ∧ j ≠ 3 ∧ j ≠ 6 ∧ j ≠ 7 := by
  simp [isNilAaIE] at h
  omega
theorem BookC.setE {cs : List Value} {VI WI VE WE : Value} (h : BookC cs VI WI VE WE) (V W : Value) : BookC ((cs.set 6 V).set 7 W) VI WI V W where
  i0 := by rw [set_get (by decide), set_get (by decide)]; exact h.i0
  i1 := by rw [set_get (by decide), set_get (by decide)]; exact h.i1
  e0 := by rw [set_get (by decide)]; exact set_same h.e0
  e1 := set_same (U := WE) (by rw [set_get (by decide)]; exact h.e1)
  rest := fun j hj => by
    obtain ⟨h2, h3, h6, h7⟩ := isNil_ne hj
    rw [set_get (fun e => h7 e.symm), set_get (fun e => h6 e.symm)]
    exact h.rest j hj
theorem BookC.setI {cs : List Value} {VI WI VE WE : Value} (h : BookC cs VI WI VE WE) (V W : Value) : BookC ((cs.set 2 V).set 3 W) V W VE WE where
  i0 := by rw [set_get (by decide)]; exact set_same h.i0
  i1 := set_same (U := WI) (by rw [set_get (by decide)]; exact h.i1)
  e0 := by rw [set_get (by decide), set_get (by decide)]; exact h.e0
  e1 := by rw [set_get (by decide), set_get (by decide)]; exact h.e1
  rest := fun j hj => by
    obtain ⟨h2, h3, h6, h7⟩ := isNil_ne hj
    rw [set_get (fun e => h3 e.symm), set_get (fun e => h2 e.symm)]
    exact h.rest j hj
theorem photo_off {B : Nat} {w w' : World} {ks : List Nat} {rs : List Rw} (h : Own B w' (photo w ks ++ rs)) : ∀ k ∈ ks, ∀ r ∈ rs, r.v.ownBlock ≠ some k := by
  intro k hk r hr he
  have := (List.pairwise_append.1 h.2).2.2 _ (List.mem_map.2 ⟨k, hk, rfl⟩) r hr
  unfold Rw.off at this
  rcases this with h | h
  · cases h
  · exact h he.symm
section
variable {B b : Nat} {ks : List Nat} {A C xs rd : List (Value × List ElEntries)} {v : Value} {zs : List ElEntries} {zi : List Int} {w0 w : World}
theorem Book.addE (h : Book B b ks (A ++ (v, zs) :: C) rd w) (hz : zs.length ≤ 100000) (hB : B ≤ w.heap.size) (hnd : ks.Nodup) (hks : ∀ k ∈ ks, B ≤ k ∧ k < w.heap.size) :
    Calls Tryz.prog 15 #[.pointer (some ⟨b, 0, none⟩), v] w fun e w' => e = .returned (.tuple #[]) ∧ Book B b ks (A ++ C) ((v, zs) :: rd) w' ∧ (∀ k ∈ ks, w'.heap[k]? = w.heap[k]?) ∧ Below B w w' := by
  obtain ⟨cs, VI, WI, rI, aI, VE, WE, rE, aE, G, h1, h2, h3, h4, h5, h6⟩ := h
  have hw := h1.withPhoto hnd hks h5
  by_cases hl : rE.length < 250
  · have hp : (photo w ks ++ bookL b cs VI WI rI aI VE WE rE aE (A ++ (v, zs) :: C) G).Perm (rwEntries (v, zs) :: (bookR b cs :: (keptEntries VE WE rE aE ++ (photo w ks ++ (keptInts VI WI rI aI ++ (A.map rwEntries ++ (C.map rwEntries ++ G))))))) := by
      unfold bookL
      rw [List.map_append, List.map_cons]
      classical
      rw [List.perm_iff_count]
      intro a
      simp only [List.count_append, List.count_cons]
      omega
    refine (addEntries_tot (hw.perm hp) h2.e0 h2.e1 h4 hl (by omega) hB).mono ?_
    rintro e w' ⟨rfl, hb, V', W', v', ho⟩
    have hq : (bookR b ((cs.set 6 V').set 7 W') :: (keptEntries V' W' (rE ++ [(v, zs)]) (aE ++ [(v', zs)]) ++ (photo w ks ++ (keptInts VI WI rI aI ++ (A.map rwEntries ++ (C.map rwEntries ++ G)))))).Perm (photo w ks ++ bookL b ((cs.set 6 V').set 7 W') VI WI rI aI V' W' (rE ++ [(v, zs)]) (aE ++ [(v', zs)]) (A ++ C) G) := by
      unfold bookL
      rw [List.map_append (l₁ := A)]
      classical
      rw [List.perm_iff_count]
      intro a
      simp only [List.count_append, List.count_cons]
      omega
    have ho' := ho.perm hq
    refine ⟨rfl, ⟨_, VI, WI, rI, aI, V', W', _, _, G, ho'.sub (List.sublist_append_right _ _), h2.setE V' W', h3, h4.add v v' zs hl hz, photo_off ho', fun r hr => ?_⟩, photo_back ho' (fun r hr => List.mem_append_left _ hr) (fun k hk => (hks k hk).2), hb⟩
    rcases List.mem_cons.1 hr with rfl | hr
    · simp
    · have := h6 r hr
      simp only [List.map_append, List.map_cons, List.map_nil, List.mem_append, List.mem_cons, List.not_mem_nil, or_false] at this ⊢
      rcases this with h | (h | h | h) | h
      · exact .inl (.inl h)
      · exact .inr (.inl (.inl h))
      · exact .inl (.inr h)
      · exact .inr (.inl (.inr h))
      · exact .inr (.inr h)
  · refine (fullEntries_tot (R := keptInts VI WI rI aI ++ ((A ++ (v, zs) :: C).map rwEntries ++ G)) v (h1.perm (by unfold bookL; exact perm_two _ _ _ _)) h2.e0 (by omega) (by have := h4.len; omega)).mono ?_
    rintro e w' ⟨rfl, rfl⟩
    have hp : (bookL b cs VI WI rI aI VE WE rE aE (A ++ (v, zs) :: C) G).Perm (bookL b cs VI WI rI aI VE WE rE aE (A ++ C) (rwEntries (v, zs) :: G)) := by
      unfold bookL
      rw [List.map_append, List.map_cons, List.map_append]
      classical
      rw [List.perm_iff_count]
      intro a
      simp only [List.count_append, List.count_cons]
      omega
    refine ⟨rfl, ⟨cs, VI, WI, rI, aI, VE, WE, rE, aE, rwEntries (v, zs) :: G, h1.perm hp, h2, h3, h4, fun k hk r hr => h5 k hk r (hp.mem_iff.2 hr), fun r hr => ?_⟩, fun _ _ => rfl, Below.refl _ _⟩
    rcases List.mem_cons.1 hr with rfl | hr
    · simp
    · have := h6 r hr
      simp only [List.map_append, List.map_cons, List.mem_append, List.mem_cons] at this ⊢
      rcases this with h | (h | h | h) | h
      · exact .inl h
      · exact .inr (.inl (.inl h))
      · exact .inr (.inr (.inl h))
      · exact .inr (.inl (.inr h))
      · exact .inr (.inr (.inr h))
theorem Book.apart (h : Book B b ks xs rd w) (hB : B ≤ w.heap.size) :
    Calls Tryz.prog 23 #[.pointer (some ⟨b, 0, none⟩)] w fun e w' => e = .returned (.bool true) ∧ Below B w w' := by
  obtain ⟨cs, VI, WI, rI, aI, VE, WE, rE, aE, G, h1, h2, h3, h4, h5, h6⟩ := h
  exact apartAaIE_any B b cs VI WI rI aI VE WE rE aE _ w h1 h2.i0 h2.i1 h3 h2.e0 h2.e1 h4 h2.rest hB
end
end Go.Proofs.YthaalhigmihijabGreat

namespace Go.Proofs.YthaalhigmihijabGreat
open Go.RowKit

def ksOf (p : Nat) (ns : List Nd) (rv tv : Value) (ex : List Nat) : List Nat := foot p ns ++ ((ob rv).toList ++ ((ob tv).toList ++ ex))
section
variable {B p b : Nat} {ns : List Nd} {er : List Ent} {T : List Tw} {rv tv : Value} {ex : List Nat} {xs rd : List (Value × List ElEntries)} {w w' : World}
theorem ks_foot {k : Nat} (h : k ∈ foot p ns) : k ∈ ksOf p ns rv tv ex := List.mem_append_left _ h
theorem ks_r {k : Nat} (h : ob rv = some k) : k ∈ ksOf p ns rv tv ex := by simp [ksOf, h]
theorem ks_t {k : Nat} (h : ob tv = some k) : k ∈ ksOf p ns rv tv ex := by simp [ksOf, h]
end
end Go.Proofs.YthaalhigmihijabGreat

namespace Go.Proofs.YthaalhigmihijabGreat
open Go.RowKit

theorem cutE_ents {x : Ent} {ns P Q : List Nd} (h : Cut x.k x.s ns P Q) : CutE x (entsOf ns) (entsOf P) (entsOf Q) := by
  refine ⟨by rw [h.all]; simp [entsOf], fun y hy => ?_, fun y hy => ?_⟩
  · obtain ⟨n, hn, rfl⟩ := mem_entsOf.1 hy
    exact h.ahead n hn
  · obtain ⟨n, hn, rfl⟩ := mem_entsOf.1 hy
    exact h.behind n hn
theorem thereE_ents (x : Ent) (Q : List Nd) : thereE x (entsOf Q) = there x Q := by cases Q <;> rfl
theorem lessB_cmp (a k : ByteArray) (s : Int) (hs : s ≤ 18446744073709551615) : lessB a k = decide (cmpE a s k 18446744073709551615 = -1) := by
  rw [← key_less a k s hs, ByteArray.toList_eq, ByteArray.toList_eq, less_cb]
  rfl
theorem range_cut {k : ByteArray} {ns P Q : List Nd} (hr : Right ns) (hc : Cut k 18446744073709551615 ns P Q) : rangeE k ⟨#[]⟩ (entsOf ns) = entsOf Q := by
  rw [cut_filter hc]
  unfold rangeE
  refine List.filter_congr fun e he => ?_
  obtain ⟨n, hn, rfl⟩ := mem_entsOf.1 he
  unfold inRange
  rw [lessB_cmp _ _ n.e.s (hr.fit n hn).2.2.2]
  have h0 : (ByteArray.toList ⟨#[]⟩).isEmpty = true := by rw [ByteArray.toList_eq]; rfl
  rw [h0]
  simp
def fitsP (key : ByteArray) (seq : Int) (x : Ent) : Prop := x.k = key ∧ x.s ≤ seq
theorem picks_iff (key : ByteArray) (seq : Int) (o : Option Ent) (x : Ent) : picks key seq o x = true ↔ fitsP key seq x ∧ ∀ y, o = some y → y.s < x.s := by
  unfold picks fitsP
  have hk : (x.k.toList == key.toList) = true ↔ x.k = key := by
    rw [beq_iff_eq]
    constructor
    · intro h
      rw [ByteArray.toList_eq, ByteArray.toList_eq] at h
      exact ByteArray.ext (Array.ext' h)
    · rintro rfl
      rfl
  simp only [Bool.and_eq_true, hk, decide_eq_true_eq, Bool.or_eq_true, Bool.not_eq_true', and_assoc]
  cases o with
  | none => simp
  | some y => simp
theorem pickF_spec (key : ByteArray) (seq : Int) (es : List Ent) : ∀ i, i ≤ es.length → (pickF key seq (es.take i) = none → ∀ x ∈ es.take i, ¬ fitsP key seq x) ∧ (∀ y, pickF key seq (es.take i) = some y → y ∈ es.take i ∧ fitsP key seq y ∧ ∀ x ∈ es.take i, fitsP key seq x → x.s ≤ y.s)
  | 0, _ => by simp [pickF]
  | i + 1, h => by
    obtain ⟨h1, h2⟩ := pickF_spec key seq es i (by omega)
    have hm : ∀ x, x ∈ es.take (i + 1) ↔ x ∈ es.take i ∨ x = es[i] := fun x => by
      rw [List.take_succ_eq_append_getElem (show i < es.length by omega), List.mem_append, List.mem_singleton]
    rw [pickF_take key seq es i (by omega)]
    by_cases hp : picks key seq (pickF key seq (es.take i)) es[i] = true
    · rw [if_pos hp]
      obtain ⟨p1, p2⟩ := (picks_iff _ _ _ _).1 hp
      refine ⟨fun h0 => (by cases h0), fun y hy => ?_⟩
      obtain rfl : es[i] = y := by simpa using hy
      refine ⟨(hm _).2 (.inr rfl), p1, fun x hx hf => ?_⟩
      rcases (hm x).1 hx with hx | rfl
      · cases ho : pickF key seq (es.take i) with
        | none => exact absurd hf (h1 ho x hx)
        | some z =>
          have := p2 z ho
          have := (h2 z ho).2.2 x hx hf
          omega
      · omega
    · rw [if_neg hp]
      refine ⟨fun h0 x hx hf => ?_, fun y hy => ?_⟩
      · rcases (hm x).1 hx with hx | rfl
        · exact h1 h0 x hx hf
        · exact hp ((picks_iff _ _ _ _).2 ⟨hf, fun y hy => by rw [h0] at hy; cases hy⟩)
      · obtain ⟨q1, q2, q3⟩ := h2 y hy
        refine ⟨(hm y).2 (.inl q1), q2, fun x hx hf => ?_⟩
        rcases (hm x).1 hx with hx | rfl
        · exact q3 x hx hf
        · by_cases hlt : y.s < es[i].s
          · exact absurd ((picks_iff _ _ _ _).2 ⟨hf, fun z hz => by rw [hy] at hz; cases hz; exact hlt⟩) hp
          · omega
theorem ord_uniq {l : List Ent} (h : l.Pairwise ltE) {x y : Ent} (hx : x ∈ l) (hy : y ∈ l) (hk : x.k = y.k) (hs : x.s = y.s) : x = y := by
  induction l with
  | nil => cases hx
  | cons a l ih =>
    rw [List.pairwise_cons] at h
    have hne : ∀ {u v : Ent}, u.k = v.k → u.s = v.s → ¬ ltE u v := fun {u v} h1 h2 h3 => by
      unfold ltE at h3
      rw [h1, h2, cmpE_refl] at h3
      exact absurd h3 (by decide)
    rcases List.mem_cons.1 hx with rfl | hx'
    · rcases List.mem_cons.1 hy with rfl | hy'
      · rfl
      · exact absurd (h.1 y hy') (hne hk hs)
    · rcases List.mem_cons.1 hy with rfl | hy'
      · exact absurd (h.1 x hx') (hne hk.symm hs.symm)
      · exact ih h.2 hx' hy'
theorem pick_cut {key : ByteArray} {seq : Int} {ns P Q : List Nd} (ho : ns.Pairwise ltN) (hc : Cut key seq ns P Q) : pickF key seq (entsOf ns) = getR key Q := by
  obtain ⟨h1, h2⟩ := pickF_spec key seq (entsOf ns) _ (Nat.le_refl _)
  rw [List.take_length] at h1 h2
  cases hp : pickF key seq (entsOf ns) with
  | none =>
    cases hg : getR key Q with
    | none => rfl
    | some y =>
      obtain ⟨g1, g2, g3⟩ := getR_right hc hg
      exact absurd ⟨g1, g2⟩ (h1 hp y g3)
  | some z =>
    obtain ⟨q1, q2, q3⟩ := h2 z hp
    obtain ⟨y, hy, hle⟩ := getR_most ho hc q1 q2.1 q2.2
    obtain ⟨g1, g2, g3⟩ := getR_right hc hy
    have := q3 y g3 ⟨g1, g2⟩
    rw [hy, ord_uniq (ents_ord ho) q1 g3 (q2.1.trans g1.symm) (by omega)]
/-- The document's towers are the list's. -/
def Tws (T : List Tw) (ns : List Nd) : Prop := T.Perm (ns.map fun n => ⟨n.e, n.l⟩)
theorem hgtT_cons (a : Tw) (r : List Tw) : hgtT (a :: r) = max a.l (hgtT r) := by
  have : ∀ (r : List Tw) (h : Nat), r.foldl (fun h t => max h t.l) h = max h (r.foldl (fun h t => max h t.l) 0) := by
    intro r
    induction r with
    | nil => intro h; simp
    | cons b r ih =>
      intro h
      rw [List.foldl_cons, List.foldl_cons, ih, ih (max 0 b.l)]
      omega
  show List.foldl (fun h t => max h t.l) 0 (a :: r) = max a.l (List.foldl (fun h t => max h t.l) 0 r)
  rw [List.foldl_cons, this]
  omega
theorem hgtT_perm {S T : List Tw} (h : S.Perm T) : hgtT S = hgtT T := by
  have aux : ∀ {S T : List Tw}, (∀ t ∈ S, t ∈ T) → hgtT S ≤ hgtT T := fun {S T} hm => hgtT_le (fun t ht => by
    have := hm t ht
    clear hm ht
    induction T with
    | nil => cases this
    | cons a r ih =>
      have e : hgtT (a :: r) = max a.l (hgtT r) := hgtT_cons a r
      rw [e]
      rcases List.mem_cons.1 this with rfl | h1
      · exact Nat.le_max_left _ _
      · exact Nat.le_trans (ih h1) (Nat.le_max_right _ _))
  exact Nat.le_antisymm (aux fun t ht => h.mem_iff.1 ht) (aux fun t ht => h.mem_iff.2 ht)
theorem hgtT_map : ∀ ns : List Nd, hgtT (ns.map fun n => ⟨n.e, n.l⟩) = hgt ns
  | [] => rfl
  | n :: r => by
    rw [List.map_cons, hgtT_cons, hgtT_map r]
    rfl
theorem Tws.high {T : List Tw} {ns : List Nd} (h : Tws T ns) : hgtT T = hgt ns := (hgtT_perm h).trans (hgtT_map ns)
theorem Tws.len {T : List Tw} {ns : List Nd} (h : Tws T ns) : T.length = ns.length := by have := h.length_eq; simpa using this
theorem Tws.mem {T : List Tw} {ns : List Nd} (h : Tws T ns) {t : Tw} (ht : t ∈ T) : ∃ n ∈ ns, t = ⟨n.e, n.l⟩ := by
  obtain ⟨n, hn, rfl⟩ := List.mem_map.1 (h.mem_iff.1 ht)
  exact ⟨n, hn, rfl⟩
theorem Tws.cnt {T : List Tw} {ns P Q : List Nd} {key : ByteArray} (h : Tws T ns) (hr : Right ns) (hc : Cut key 18446744073709551615 ns P Q) (v : Nat) (hv : 1 ≤ v) : cntT key v T = pcnt (v - 1) P := by
  unfold cntT
  rw [(h.filter _).length_eq, List.filter_map, List.length_map, hc.all, List.filter_append, List.length_append]
  have e1 : (P.filter ((fun t : Tw => decide (v ≤ t.l) && lessB t.e.k key) ∘ fun n : Nd => ⟨n.e, n.l⟩)) = P.filter fun n => decide (v - 1 < n.l) := by
    refine List.filter_congr fun n hn => ?_
    show (decide (v ≤ n.l) && lessB n.e.k key) = decide (v - 1 < n.l)
    rw [lessB_cmp _ _ n.e.s (hr.fit n (by rw [hc.all]; simp [hn])).2.2.2, hc.ahead n hn]
    simp
    omega
  have e2 : (Q.filter ((fun t : Tw => decide (v ≤ t.l) && lessB t.e.k key) ∘ fun n : Nd => ⟨n.e, n.l⟩)) = [] := by
    rw [List.filter_eq_nil_iff]
    intro n hn
    show ¬ (decide (v ≤ n.l) && lessB n.e.k key) = true
    rw [lessB_cmp _ _ n.e.s (hr.fit n (by rw [hc.all]; simp [hn])).2.2.2]
    simp [hc.behind n hn]
  rw [e1, e2]
  rfl
theorem Tws.put {W : World} {x : Ent} {l : Nat} {T : List Tw} {ns ns' : List Nd} (h : Tws T ns) (hp : Puts W x l ns true ns') : Tws (T ++ [⟨x, l⟩]) ns' := by
  rcases hp with ⟨h0, -⟩ | ⟨-, -, -, P, Q, a, hc, rfl, -⟩
  · cases h0
  · unfold Tws at *
    rw [hc.all, List.map_append] at h
    rw [List.map_append, List.map_cons]
    exact ((List.perm_append_comm).trans (h.cons _)).trans List.perm_middle.symm
end Go.Proofs.YthaalhigmihijabGreat

namespace Go.Proofs.YthaalhigmihijabGreat
open Go.RowKit

theorem book_new7 (B : Nat) (w : World) (hB : B ≤ w.heap.size) : Own B (w.alloc (.cells #[.slice none 0 0, .slice none 0 0, .slice none 0 0, .slice none 0 0, .slice none 0 0, .slice none 0 0, .slice none 0 0, .slice none 0 0, .slice none 0 0, .slice none 0 0, .slice none 0 0, .slice none 0 0, .slice none 0 0, .slice none 0 0, .slice none 0 0, .slice none 0 0, .slice none 0 0, .slice none 0 0, .slice none 0 0, .slice none 0 0, .slice none 0 0, .slice none 0 0, .slice none 0 0, .slice none 0 0, .slice none 0 0, .slice none 0 0, .slice none 0 0, .slice none 0 0] 60)) [bookR w.heap.size (List.replicate 28 (.slice none 0 0))] := by
  have h0 : Own B w [] := Own.nil B w
  refine h0.new (r := bookR w.heap.size (List.replicate 28 (.slice none 0 0))) ((Below.refl _ _).alloc (Nat.le_refl _) _) ?_ hB
  refine ⟨rfl, .inr ⟨w.heap.size, 1, #[.slice none 0 0, .slice none 0 0, .slice none 0 0, .slice none 0 0, .slice none 0 0, .slice none 0 0, .slice none 0 0, .slice none 0 0, .slice none 0 0, .slice none 0 0, .slice none 0 0, .slice none 0 0, .slice none 0 0, .slice none 0 0, .slice none 0 0, .slice none 0 0, .slice none 0 0, .slice none 0 0, .slice none 0 0, .slice none 0 0, .slice none 0 0, .slice none 0 0, .slice none 0 0, .slice none 0 0, .slice none 0 0, .slice none 0 0, .slice none 0 0, .slice none 0 0], rfl, Nat.le_refl _, ?_, Nat.le_refl _, by unfold maxLen; omega, rfl, rfl⟩⟩
  simp [World.alloc, -World.alloc_eq, bookR]
theorem cut_uniq {k : ByteArray} {s : Int} {ns P Q P' Q' : List Nd} (h : Cut k s ns P Q) (h' : Cut k s ns P' Q') : P = P' ∧ Q = Q' := by
  have e : P ++ Q = P' ++ Q' := h.all.symm.trans h'.all
  rcases List.append_eq_append_iff.1 e with ⟨a, h1, h2⟩ | ⟨a, h1, h2⟩
  · cases a with
    | nil => exact ⟨by simpa using h1.symm, by simpa using h2⟩
    | cons y r => exact absurd (h'.ahead y (by rw [h1]; simp)) (h.behind y (by rw [h2]; simp))
  · cases a with
    | nil => exact ⟨by simpa using h1, by simpa using h2.symm⟩
    | cons y r => exact absurd (h.ahead y (by rw [h1]; simp)) (h'.behind y (by rw [h2]; simp))
section
variable {B p b : Nat} {ns : List Nd} {T : List Tw} {rv tv : Value} {ex : List Nat} {xs rd : List (Value × List ElEntries)} {w w' : World}
theorem ents_len (ns : List Nd) : (entsOf ns).length = ns.length := by simp [entsOf]
theorem key9 {x : Ent} (h : x.k.size ≤ maxLen) : x.k.size ≤ 9223372036854775807 := by unfold maxLen at h; omega
end
end Go.Proofs.YthaalhigmihijabGreat

namespace Go.Proofs.YthaalhigmihijabGreat
open Go.RowKit

section
variable {B p b : Nat} {ns : List Nd} {er : List Ent} {T : List Tw} {rv tv : Value} {ex : List Nat} {xs rd : List (Value × List ElEntries)} {w w' : World}
theorem nonneg_ents {ns : List Nd} (h : Right ns) : ∀ x ∈ entsOf ns, 0 ≤ x.s := fun x hx => by
  obtain ⟨n, hn, rfl⟩ := mem_entsOf.1 hx
  exact (h.fit n hn).2.2.1
theorem rd_of_row {w : World} {v : Value} {l : List Ent} {B : Nat} (h : Row w 34 4 v l.length (cellsE l)) (h0 : l = [] → v = .slice none 0 0) (hb : ∀ k, ob v = some k → B ≤ k) (hs : ∀ x ∈ l, 0 ≤ x.s) : Rd w v (l.map elOf).length (cellsEntries (l.map elOf)) := by
  have h1 : (rwEntries (v, l.map elOf)).ok B w := by
    have := row_owns (B := B) h (fun e => h0 (List.eq_nil_of_length_eq_zero e)) hb
    show World.ownsRow _ _ _ _ _ _ _
    simp only [rwEntries, List.length_map, cells_el _ hs]
    exact this
  exact h1.rd
theorem fit_keys {ns : List Nd} (h : Right ns) : ∀ y ∈ entsOf ns, y.k.size ≤ 9223372036854775807 := fun y hy => by
  obtain ⟨n, hn, rfl⟩ := mem_entsOf.1 hy
  exact Nat.le_trans (h.fit n hn).1 (by omega)
theorem puts_eq {W : World} {x : Ent} {l : Nat} {ns ns' : List Nd} {t t5 : Bool} (ht : t = false ↔ ∃ y ∈ ns, same2 y.e x) (h : Puts W x l ns t5 ns') : t5 = (t && validB x.k x.n x.v) := by
  rcases h with ⟨rfl, -, hv | hs⟩ | ⟨rfl, hv, hn, -⟩
  · rw [hv, Bool.and_false]
  · rw [ht.2 hs]
    rfl
  · rw [hv, Bool.and_true]
    cases t with
    | true => rfl
    | false =>
      obtain ⟨y, hy, h2⟩ := ht.1 rfl
      exact absurd h2 (hn y hy)
theorem puts_no {W : World} {x : Ent} {l : Nat} {ns ns' : List Nd} (h : Puts W x l ns false ns') : ns' = ns := by
  rcases h with ⟨-, e, -⟩ | ⟨e, -⟩
  · exact e
  · cases e
end
end Go.Proofs.YthaalhigmihijabGreat

namespace Go.Proofs.YthaalhigmihijabGreat
open Go.RowKit

theorem row_rd {w : World} {e : TypeId} {size : Nat} {v : Value} {n : Nat} {xs : List Value} (h : Row w e size v n xs) : Rd w v n xs := by
  obtain ⟨a, cap, rfl, -, -⟩ := h.le
  refine ⟨a, cap, rfl, ?_⟩
  have h2 := h.2
  rcases h2 with ⟨hn, -⟩ | ⟨g, cap', cur, hv, hg, h1, h2, h3, h4⟩
  · exact .inl hn
  · cases hv
    exact .inr ⟨g, 0, rfl, (Array.getElem?_eq_some_iff.1 hg).1, h.cell g 0 _ rfl⟩
section
variable {B p b : Nat} {ns : List Nd} {er : List Ent} {T : List Tw} {rv tv : Value} {ex : List Nat} {xs rd : List (Value × List ElEntries)} {w w' : World}
end
end Go.Proofs.YthaalhigmihijabGreat
