/- The calls of SkipPlays beside its state. -/
import Derived.Test.YthaalhigmihijaaGreatYO
namespace Go.Proofs.YthaalhigmihijaaGreat
open Go.RowKit

section
variable {B p b : Nat} {ns : List Nd} {er : List Ent} {T : List Tw} {rv tv : Value} {ex : List Nat} {xs rd : List (Value × List ElEntries)} {w w' : World}
theorem St7.forget (h : St7 B p b ns er T rv tv ex xs rd w) : St7 B p b ns er T rv tv ex xs [] w := h.keep (fun _ _ => rfl) (Nat.le_refl _) h.book.forget
theorem nonneg_ents {ns : List Nd} (h : Right ns) : ∀ x ∈ entsOf ns, 0 ≤ x.s := fun x hx => by
  obtain ⟨n, hn, rfl⟩ := mem_entsOf.1 hx
  exact (h.fit n hn).2.2.1
theorem rd_of_row {w : World} {v : Value} {l : List Ent} {B : Nat} (h : Row w 32 4 v l.length (cellsE l)) (h0 : l = [] → v = .slice none 0 0) (hb : ∀ k, ob v = some k → B ≤ k) (hs : ∀ x ∈ l, 0 ≤ x.s) : Rd w v (l.map elOf).length (cellsEntries (l.map elOf)) := by
  have h1 : (rwEntries (v, l.map elOf)).ok B w := by
    have := row_owns (B := B) h (fun e => h0 (List.eq_nil_of_length_eq_zero e)) hb
    show World.ownsRow _ _ _ _ _ _ _
    simp only [rwEntries, List.length_map, cells_el _ hs]
    exact this
  exact h1.rd
theorem St7.rdr (h : St7 B p b ns (entsOf ns) T rv tv ex xs rd w) : Rd w rv ((entsOf ns).map elOf).length (cellsEntries ((entsOf ns).map elOf)) :=
  rd_of_row (B := 0) h.rrow h.rnil (fun _ _ => Nat.zero_le _) (nonneg_ents h.skp.right)
theorem St7.all (h : St7 B p b ns er T rv tv ex xs rd w) (hl : ns.length ≤ 100000) :
    Calls Tryz.prog 11 #[.pointer (some ⟨p, 0, none⟩)] w fun e w' => ∃ v, e = .returned v ∧ St7 B p b ns er T rv tv ex ((v, (entsOf ns).map elOf) :: xs) rd w' ∧ Below w.heap.size w w' := by
  refine (all_own h.skp.lst h.skp.right (by omega)).mono ?_
  rintro e w' ⟨v, rfl, h1, h2, h3⟩
  exact ⟨v, rfl, h.row h3 h2, h3⟩
theorem St7.fromK {k : ByteArray} {P Q : List Nd} (h : St7 B p b ns er T rv tv ex xs rd w) (hc : Cut k 18446744073709551615 ns P Q) (hl : ns.length ≤ 100000) :
    Calls Tryz.prog 12 #[.pointer (some ⟨p, 0, none⟩), .string k] w fun e w' => ∃ v, e = .returned v ∧ St7 B p b ns er T rv tv ex ((v, (entsOf Q).map elOf) :: xs) rd w' ∧ Below w.heap.size w w' := by
  refine (from_own h.skp.lst h.skp.right hc (by omega)).mono ?_
  rintro e w' ⟨v, rfl, h1, h2, h3⟩
  exact ⟨v, rfl, h.row h3 h2, h3⟩
theorem fit_keys {ns : List Nd} (h : Right ns) : ∀ y ∈ entsOf ns, y.k.size ≤ 9223372036854775807 := fun y hy => by
  obtain ⟨n, hn, rfl⟩ := mem_entsOf.1 hy
  exact Nat.le_trans (h.fit n hn).1 (by omega)
theorem St7.range {k : ByteArray} {P Q : List Nd} (h : St7 B p b ns (entsOf ns) T rv tv ex xs rd w) (hc : Cut k 18446744073709551615 ns P Q) (hl : ns.length ≤ 100000) (hk : k.size ≤ maxLen) :
    Calls Tryz.prog 15 #[rv, .string k, .string ⟨#[]⟩] w fun e w' => ∃ v, e = .returned v ∧ Rd w' v ((entsOf Q).map elOf).length (cellsEntries ((entsOf Q).map elOf)) ∧ Below w.heap.size w w' := by
  obtain ⟨a, cap, rfl, hE⟩ := row_ents h.rrow
  have hkk : k.size ≤ 9223372036854775807 := by unfold maxLen at hk; omega
  refine (range_any a _ cap (entsOf ns) k ⟨#[]⟩ w (Nat.le_refl _) hE (by rw [ents_len]; omega) (fit_keys h.skp.right) hkk (by decide)).mono ?_
  rw [range_cut h.skp.right hc]
  rintro e w' ⟨v, rfl, h1, h2, -, h4⟩
  refine ⟨v, rfl, rd_of_row (B := 0) h1 h2 (fun _ _ => Nat.zero_le _) (fun x hx => nonneg_ents h.skp.right x ?_), h4⟩
  obtain ⟨n, hn, rfl⟩ := mem_entsOf.1 hx
  exact mem_entsOf.2 ⟨n, by rw [hc.all]; simp [hn], rfl⟩
theorem St7.pick {k : ByteArray} {s : Int} {P Q : List Nd} (h : St7 B p b ns (entsOf ns) T rv tv ex xs rd w) (hc : Cut k s ns P Q) (hl : ns.length ≤ 100000) :
    Calls Tryz.prog 18 #[rv, .string k, .int .u64 s] w fun e w' => e = .returned (getV (getR k Q)) ∧ Below w.heap.size w w' := by
  obtain ⟨a, cap, rfl, hE⟩ := row_ents h.rrow
  have := pickF_any a _ cap (entsOf ns) k s w (Nat.le_refl _) hE (by rw [ents_len]; omega)
  rw [pick_cut h.skp.right.ord hc] at this
  exact this
theorem puts_eq {W : World} {x : Ent} {l : Nat} {ns ns' : List Nd} {t t5 : Bool} (ht : t = false ↔ ∃ y ∈ ns, same2 y.e x) (h : Puts W x l ns t5 ns') : t5 = (t && validB x.k x.n x.v) := by
  rcases h with ⟨rfl, -, hv | hs⟩ | ⟨rfl, hv, hn, -⟩
  · rw [hv, Bool.and_false]
  · rw [ht.2 hs]
    rfl
  · rw [hv, Bool.and_true]
    cases t with
    | true => rfl
    | false =>
      obtain ⟨y, hy, h2⟩ := ht.1 rfl
      exact absurd h2 (hn y hy)
theorem puts_no {W : World} {x : Ent} {l : Nat} {ns ns' : List Nd} (h : Puts W x l ns false ns') : ns' = ns := by
  rcases h with ⟨-, e, -⟩ | ⟨e, -⟩
  · exact e
  · cases e
/-- Behind an Insert and a Put that both took the version in. -/
theorem St7.both {x : Ent} {l : Nat} {ns' : List Nd} {v : Value} (h : St7 B p b ns (entsOf ns) T rv tv (ob v).toList xs rd w) (hrow : ∀ P Q, Cut x.k x.s ns P Q → Row w 32 4 v (ns.length + 1) (cellsE (entsOf P ++ x :: entsOf Q))) (hp : Puts w x l ns true ns') (hs : Skp B p ns' w') (ht : Turn (foot p ns) w w') : St7 B p b ns' (entsOf ns') T v tv [] xs rd w' := by
  have h1 := h.put hp hs ht
  rcases hp with ⟨e, -⟩ | ⟨-, -, -, P, Q, a, hc, rfl, -⟩
  · cases e
  · have e : entsOf (P ++ ⟨a, x, l⟩ :: Q) = entsOf P ++ x :: entsOf Q := by simp [entsOf]
    have hl : (entsOf P ++ x :: entsOf Q).length = ns.length + 1 := by
      rw [hc.all]
      simp [entsOf]
      omega
    rw [e]
    refine h1.swap ?_ (fun h0 => by rw [h0] at hl; simp at hl)
    rw [hl]
    refine (hrow P Q hc).kept (fun k hk => ht.block k ((hrow P Q hc).lt k hk) (fun hf => ?_))
    have hnd := h.nd
    unfold ksOf at hnd
    exact (List.nodup_append.1 hnd).2.2 k hf k (by simp [hk]) rfl
theorem St7.tow {x : Ent} {lv : Nat} {v : Value} {w0 : World} (h : St7 B p b ns er T rv tv [] xs rd w0) (hb : Below w0.heap.size w0 w) (hr : Row w' 62 5 v (T.length + 1) (cellsT T ++ [.string x.k, .int .u64 x.s, .int .i64 x.n, .string x.v, .int .i64 (lv : Int)])) (hg : w.grownBy w' (ob tv)) (ho : ob v = ob tv ∨ (ob v = some w.heap.size ∧ w.grownBy w' none)) : St7 B p b ns er (T ++ [⟨x, lv⟩]) rv v [] xs rd w' :=
  (h.below hb).tower (t := ⟨x, lv⟩) hr hg ho
theorem St7.towB {w0 : World} (h : St7 B p b ns er T rv tv [] xs rd w0) (hb : Below w0.heap.size w0 w) (hg : w.grownBy w' (ob tv)) : Below B w0 w' :=
  (hb.mono h.size).trans ((turn_of_grown (F := (ob tv).toList) hg (fun k hk => .inl (by simp [hk]))).below (Nat.le_trans h.size hb.size) (fun k hk => (h.base k (ks_t (by simpa using hk))).1))
theorem infoT7 : (Tryz.prog.info? 62).map (fun i => (i.zero, i.size, i.bytes)) = some (some (.agg #[.string ⟨#[]⟩, .int .u64 0, .int .i64 0, .string ⟨#[]⟩, .int .i64 0]), 5, 56) := by kernel_rfl
end
end Go.Proofs.YthaalhigmihijaaGreat
