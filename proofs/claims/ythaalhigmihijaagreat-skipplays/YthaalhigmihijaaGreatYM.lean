/- The state of SkipPlays' loops: a skip list, the document's own list and towers, the Book. -/
import Derived.Test.YthaalhigmihijaaGreatYL
namespace Go.Proofs.YthaalhigmihijaaGreat
open Go.RowKit

def ksOf (p : Nat) (ns : List Nd) (rv tv : Value) (ex : List Nat) : List Nat := foot p ns ++ ((ob rv).toList ++ ((ob tv).toList ++ ex))
structure St7 (B p b : Nat) (ns : List Nd) (er : List Ent) (T : List Tw) (rv tv : Value) (ex : List Nat) (xs rd : List (Value × List ElEntries)) (w : World) : Prop where
  skp : Skp B p ns w
  rrow : Row w 32 4 rv er.length (cellsE er)
  rnil : er = [] → rv = .slice none 0 0
  trow : Row w 62 5 tv T.length (cellsT T)
  nd : (ksOf p ns rv tv ex).Nodup
  base : ∀ k ∈ ksOf p ns rv tv ex, B ≤ k ∧ k < w.heap.size
  book : Book B b (ksOf p ns rv tv ex) xs rd w
section
variable {B p b : Nat} {ns : List Nd} {er : List Ent} {T : List Tw} {rv tv : Value} {ex : List Nat} {xs rd : List (Value × List ElEntries)} {w w' : World}
theorem ks_foot {k : Nat} (h : k ∈ foot p ns) : k ∈ ksOf p ns rv tv ex := List.mem_append_left _ h
theorem ks_r {k : Nat} (h : ob rv = some k) : k ∈ ksOf p ns rv tv ex := by simp [ksOf, h]
theorem ks_t {k : Nat} (h : ob tv = some k) : k ∈ ksOf p ns rv tv ex := by simp [ksOf, h]
theorem St7.size (h : St7 B p b ns er T rv tv ex xs rd w) : B ≤ w.heap.size := h.skp.size
theorem St7.keep (h : St7 B p b ns er T rv tv ex xs rd w) (hk : ∀ k ∈ ksOf p ns rv tv ex, w'.heap[k]? = w.heap[k]?) (hs : w.heap.size ≤ w'.heap.size) {xs' rd' : List (Value × List ElEntries)} (hb : Book B b (ksOf p ns rv tv ex) xs' rd' w') : St7 B p b ns er T rv tv ex xs' rd' w' where
  skp := ⟨h.skp.lst.kept (fun k hm => hk k (ks_foot hm)), h.skp.right, h.skp.base⟩
  rrow := h.rrow.kept (fun k e => hk k (ks_r e))
  rnil := h.rnil
  trow := h.trow.kept (fun k e => hk k (ks_t e))
  nd := h.nd
  base := fun k hm => ⟨(h.base k hm).1, Nat.lt_of_lt_of_le (h.base k hm).2 hs⟩
  book := hb
theorem St7.below (h : St7 B p b ns er T rv tv ex xs rd w) (hb : Below w.heap.size w w') : St7 B p b ns er T rv tv ex xs rd w' :=
  h.keep (fun k hm => hb.block k (h.base k hm).2) hb.size (h.book.below hb)
theorem St7.row (h : St7 B p b ns er T rv tv ex xs rd w) (hb : Below w.heap.size w w') {v : Value} {zs : List ElEntries} (hr : (rwEntries (v, zs)).ok w.heap.size w') : St7 B p b ns er T rv tv ex ((v, zs) :: xs) rd w' :=
  h.keep (fun k hm => hb.block k (h.base k hm).2) hb.size (h.book.row hb hr h.size (fun k hm => (h.base k hm).2))
theorem St7.addE {A C : List (Value × List ElEntries)} {v : Value} {zs : List ElEntries} (h : St7 B p b ns er T rv tv ex (A ++ (v, zs) :: C) rd w) (hz : zs.length ≤ 100000) :
    Calls Tryz.prog 13 #[.pointer (some ⟨b, 0, none⟩), v] w fun e w' => e = .returned (.tuple #[]) ∧ St7 B p b ns er T rv tv ex (A ++ C) ((v, zs) :: rd) w' ∧ Below B w w' := by
  refine (h.book.addE hz h.size h.nd h.base).mono ?_
  rintro e w' ⟨rfl, h1, h2, h3⟩
  exact ⟨rfl, h.keep h2 h3.size h1, h3⟩
theorem St7.addI {v : Value} {zi : List Int} {w0 : World} (h : St7 B p b ns er T rv tv ex xs rd w0) (hb0 : Below w0.heap.size w0 w) (hr0 : (rwInts (v, zi)).ok w0.heap.size w) (hz : zi.length ≤ 100000) :
    Calls Tryz.prog 20 #[.pointer (some ⟨b, 0, none⟩), v] w fun e w' => e = .returned (.tuple #[]) ∧ St7 B p b ns er T rv tv ex xs rd w' ∧ Rd w' v zi.length (cellsInts zi) ∧ Below B w w' := by
  refine (h.book.addI hb0 hr0 hz h.size h.nd h.base).mono ?_
  rintro e w' ⟨rfl, h1, h2, h3, h4⟩
  exact ⟨rfl, (h.below hb0).keep h3 h4.size h1, h2, h4⟩
/-- A row of new memory is kept beside. -/
theorem St7.take (h : St7 B p b ns er T rv tv [] xs rd w) (hb : Below w.heap.size w w') {v : Value} (hv : ∀ k, ob v = some k → w.heap.size ≤ k) (hl : ∀ k, ob v = some k → k < w'.heap.size) : St7 B p b ns er T rv tv (ob v).toList xs rd w' := by
  have h1 := h.below hb
  have hk : ∀ k ∈ ksOf p ns rv tv (ob v).toList, k ∈ ksOf p ns rv tv [] ∨ ob v = some k := fun k hm => by
    simp only [ksOf, List.mem_append, Option.mem_toList] at hm ⊢
    rcases hm with hm | hm | hm | hm
    · exact .inl (.inl hm)
    · exact .inl (.inr (.inl hm))
    · exact .inl (.inr (.inr (.inl hm)))
    · exact .inr hm
  refine ⟨h1.skp, h1.rrow, h1.rnil, h1.trow, ?_, fun k hm => ?_, ?_⟩
  · have hn := h.nd
    have e : ksOf p ns rv tv (ob v).toList = ksOf p ns rv tv [] ++ (ob v).toList := by simp [ksOf]
    rw [e, List.nodup_append]
    refine ⟨hn, by cases ob v <;> simp, fun x hx y hy he => ?_⟩
    have h2 := (h.base x hx).2
    have h3 := hv y (by simpa using hy)
    omega
  · rcases hk k hm with hm | hm
    · exact h1.base k hm
    · exact ⟨Nat.le_trans h.size (hv k hm), hl k hm⟩
  · refine (h.book.other (ls := ksOf p ns rv tv (ob v).toList) (fun k hm => ?_)).below hb
    rcases hk k hm with hm | hm
    · exact .inl hm
    · exact .inr (hv k hm)
/-- Behind Put. -/
theorem St7.put {x : Ent} {l : Nat} {t : Bool} {ns' : List Nd} (h : St7 B p b ns er T rv tv ex xs rd w) (hp : Puts w x l ns t ns') (hs : Skp B p ns' w') (ht : Turn (foot p ns) w w') : St7 B p b ns' er T rv tv ex xs rd w' := by
  have hsub : ∀ k ∈ foot p ns, k ∈ foot p ns' := by
    rcases hp with ⟨-, rfl, -⟩ | ⟨-, -, -, P, Q, a, hc, rfl, -⟩
    · exact fun k hk => hk
    · intro k hk
      rw [hc.all] at hk
      simp only [foot, List.map_cons, List.map_append, List.mem_cons, List.mem_append] at hk ⊢
      rcases hk with hk | hk | hk
      · exact .inl hk
      · exact .inr (.inl hk)
      · exact .inr (.inr (.inr hk))
  have hnd := h.nd
  unfold ksOf at hnd
  obtain ⟨n1, n2, n3⟩ := List.nodup_append.1 hnd
  have hrest : ∀ k ∈ (ob rv).toList ++ ((ob tv).toList ++ ex), k ∉ foot p ns := fun k hk hf => n3 k hf k hk rfl
  have hrb : ∀ k ∈ (ob rv).toList ++ ((ob tv).toList ++ ex), B ≤ k ∧ k < w.heap.size := fun k hk => h.base k (List.mem_append_right _ hk)
  have hks : ∀ k ∈ ksOf p ns' rv tv ex, k ∈ ksOf p ns rv tv ex ∨ w.heap.size ≤ k := fun k hm => by
    unfold ksOf at hm ⊢
    rcases List.mem_append.1 hm with hm | hm
    · rcases puts_foot hp k hm with h1 | h1
      · exact .inl (List.mem_append_left _ h1)
      · exact .inr h1
    · exact .inl (List.mem_append_right _ hm)
  refine ⟨hs, h.rrow.kept (fun k e => ht.block k (hrb k (by simp [e])).2 (hrest k (by simp [e]))), h.rnil, h.trow.kept (fun k e => ht.block k (hrb k (by simp [e])).2 (hrest k (by simp [e]))), ?_, fun k hm => ?_, ?_⟩
  · unfold ksOf
    refine List.nodup_append.2 ⟨hs.lst.nodup, n2, fun x hx y hy he => ?_⟩
    subst he
    rcases puts_foot hp x hx with h1 | h1
    · exact hrest x hy h1
    · have := (hrb x hy).2
      omega
  · unfold ksOf at hm
    rcases List.mem_append.1 hm with hm | hm
    · exact ⟨hs.base k hm, hs.lst.lt k hm⟩
    · exact ⟨(hrb k hm).1, Nat.lt_of_lt_of_le (hrb k hm).2 ht.size⟩
  · exact (h.book.other hks).turned (ht.mono (fun k hk => .inl (ks_foot (hsub k hk))))
/-- The row that was kept beside is the document's list now. -/
theorem St7.swap {v : Value} {er' : List Ent} (h : St7 B p b ns er T rv tv (ob v).toList xs rd w) (hr : Row w 32 4 v er'.length (cellsE er')) (h0 : er' = [] → v = .slice none 0 0) : St7 B p b ns er' T v tv [] xs rd w := by
  have hk : ∀ k ∈ ksOf p ns v tv [], k ∈ ksOf p ns rv tv (ob v).toList := fun k hm => by
    simp only [ksOf, List.mem_append, Option.mem_toList, List.not_mem_nil, or_false] at hm ⊢
    rcases hm with hm | hm | hm
    · exact .inl hm
    · exact .inr (.inr (.inr hm))
    · exact .inr (.inr (.inl hm))
  refine ⟨h.skp, hr, h0, h.trow, ?_, fun k hm => h.base k (hk k hm), h.book.other (fun k hm => .inl (hk k hm))⟩
  have hp : (ksOf p ns rv tv (ob v).toList).Perm ((ob rv).toList ++ ksOf p ns v tv []) := by
    unfold ksOf
    rw [List.perm_iff_count]
    intro a
    simp only [List.count_append, List.count_nil]
    omega
  exact (List.nodup_append.1 (hp.nodup_iff.1 h.nd)).2.1
theorem St7.drop (h : St7 B p b ns er T rv tv ex xs rd w) : St7 B p b ns er T rv tv [] xs rd w := by
  have hk : ∀ k ∈ ksOf p ns rv tv [], k ∈ ksOf p ns rv tv ex := fun k hm => by
    simp only [ksOf, List.mem_append, List.not_mem_nil, or_false] at hm ⊢
    rcases hm with hm | hm | hm
    · exact .inl hm
    · exact .inr (.inl hm)
    · exact .inr (.inr (.inl hm))
  refine ⟨h.skp, h.rrow, h.rnil, h.trow, ?_, fun k hm => h.base k (hk k hm), h.book.other (fun k hm => .inl (hk k hm))⟩
  have hn := h.nd
  unfold ksOf at hn ⊢
  rw [← List.append_assoc, ← List.append_assoc] at hn
  rw [← List.append_assoc, ← List.append_assoc, List.append_nil]
  exact (List.nodup_append.1 hn).1
/-- One tower more. -/
theorem St7.tower {t : Tw} {v : Value} (h : St7 B p b ns er T rv tv [] xs rd w) (hr : Row w' 62 5 v (T.length + 1) (cellsT T ++ t.cells)) (hg : w.grownBy w' (ob tv)) (ho : ob v = ob tv ∨ (ob v = some w.heap.size ∧ w.grownBy w' none)) : St7 B p b ns er (T ++ [t]) rv v [] xs rd w' := by
  have ht : Turn (ob tv).toList w w' := turn_of_grown hg (fun k hk => .inl (by simp [hk]))
  have hn := h.nd
  have hp : (ksOf p ns rv tv []).Perm ((ob tv).toList ++ (foot p ns ++ (ob rv).toList)) := by
    unfold ksOf
    rw [List.perm_iff_count]
    intro a
    simp only [List.count_append, List.count_nil]
    omega
  obtain ⟨n1, n2, n3⟩ := List.nodup_append.1 (hp.nodup_iff.1 hn)
  have hmem : ∀ k, k ∈ foot p ns ++ (ob rv).toList → k ∈ ksOf p ns rv tv [] := fun k hk => hp.mem_iff.2 (List.mem_append_right _ hk)
  have hoff : ∀ k, k ∈ foot p ns ++ (ob rv).toList → w'.heap[k]? = w.heap[k]? := fun k hk => ht.block k (h.base k (hmem k hk)).2 (fun hm => n3 k hm k hk rfl)
  have hv : ∀ k, ob v = some k → (k ∈ ksOf p ns rv tv [] ∧ ob tv = some k) ∨ (k = w.heap.size) := fun k hk => by
    rcases ho with e | ⟨e, -⟩
    · exact .inl ⟨ks_t (e ▸ hk), e ▸ hk⟩
    · rw [e] at hk
      cases hk
      exact .inr rfl
  have hks : ∀ k ∈ ksOf p ns rv v [], k ∈ foot p ns ++ (ob rv).toList ∨ ob v = some k := fun k hm => by
    simp only [ksOf, List.mem_append, Option.mem_toList, List.not_mem_nil, or_false] at hm ⊢
    rcases hm with hm | hm | hm
    · exact .inl (.inl hm)
    · exact .inl (.inr hm)
    · exact .inr hm
  refine ⟨⟨h.skp.lst.kept (fun k hk => hoff k (List.mem_append_left _ hk)), h.skp.right, h.skp.base⟩, h.rrow.kept (fun k e => hoff k (List.mem_append_right _ (by simp [e]))), h.rnil, ?_, ?_, fun k hm => ?_, ?_⟩
  · rw [List.length_append, cellsT_append]
    simpa [cellsT] using hr
  · have hp2 : (ksOf p ns rv v []).Perm ((ob v).toList ++ (foot p ns ++ (ob rv).toList)) := by
      unfold ksOf
      rw [List.perm_iff_count]
      intro a
      simp only [List.count_append, List.count_nil]
      omega
    refine hp2.nodup_iff.2 (List.nodup_append.2 ⟨by cases ob v <;> simp, n2, fun x hx y hy he => ?_⟩)
    subst he
    rcases hv x (by simpa using hx) with ⟨-, e⟩ | e
    · exact n3 x (by simp [e]) x hy rfl
    · have := (h.base x (hmem x hy)).2
      omega
  · rcases hks k hm with hm | hm
    · exact ⟨(h.base k (hmem k hm)).1, Nat.lt_of_lt_of_le (h.base k (hmem k hm)).2 hg.size⟩
    · refine ⟨?_, hr.lt k hm⟩
      rcases hv k hm with ⟨h1, -⟩ | e
      · exact (h.base k h1).1
      · have := h.size
        omega
  · have hb1 : Book B b (ksOf p ns rv tv []) xs rd w' := h.book.turned (ht.mono (fun k hk => .inl (ks_t (by simpa using hk))))
    have hb2 : Book B b (ksOf p ns rv v [] ++ ksOf p ns rv tv []) xs rd w := h.book.other (fun k hm => by
      rcases List.mem_append.1 hm with hm | hm
      · rcases hks k hm with hm | hm
        · exact .inl (hmem k hm)
        · rcases hv k hm with ⟨h1, -⟩ | e
          · exact .inl h1
          · exact .inr (by omega)
      · exact .inl hm)
    have hb3 := hb2.turned (ht.mono (fun k hk => .inl (List.mem_append_right _ (ks_t (by simpa using hk)))))
    exact hb3.other (fun k hm => .inl (List.mem_append_left _ hm))
end
end Go.Proofs.YthaalhigmihijaaGreat
