/- Pairs compared; pieces as rows of the Book. -/
import Derived.Test.YtcbailiniigcnaaGreatV9
import Derived.Test.YtcbailiniigcnaaGreatV5
namespace Go.Proofs.YtcbailiniigcnaaGreat
open Go.RowKit

theorem sameQ_any (a0 a1 : Option Addr) (c0 c1 : Nat) (l : List (ByteArray × ByteArray)) (w : World) (h0 : QsAt w a0 l) (h1 : QsAt w a1 l) (hl : l.length ≤ 1000000) :
    Calls Tryz.prog 14 #[.slice a0 l.length c0, .slice a1 l.length c1] w fun e w' => e = .returned (.bool true) ∧ Below w.heap.size w w' := by
  have hm : (l.map elT).length = l.length := by simp
  have fin : ∀ x y : Option Addr, Calls Tryz.prog 14 #[.slice x 0 c0, .slice y 0 c1] w fun e w' => e = .returned (.bool true) ∧ Below w.heap.size w w' := fun x y => (samePairs_none x y c0 c1 w).mono fun e w' ⟨h, n, hn⟩ => ⟨h, by rw [hn]; exact belowN (Below.refl _ _) n⟩
  have cellOf : ∀ {g : Nat}, (∀ i (h : i < l.length), w.cell? ⟨g, i * 2, none⟩ = some (.string l[i].1) ∧ w.cell? ⟨g, i * 2 + 1, none⟩ = some (.string l[i].2)) → ∀ i (h : i < (l.map elT).length) j u, (l.map elT)[i].cells[j]? = some u → w.cell? ⟨g, 0 + i * 2 + j, none⟩ = some u := fun hc i h j u hu => by
    obtain ⟨k1, k2⟩ := hc i (by simpa using h)
    rw [List.getElem_map] at hu
    rw [Nat.zero_add]
    match j, hu with
    | 0, hu => cases hu; exact k1
    | 1, hu => cases hu; exact k2
  rcases h0 with rfl | ⟨g, rfl, -, hg⟩
  · exact fin _ _
  · rcases h1 with rfl | ⟨b, rfl, -, hb⟩
    · exact fin _ _
    · have := samePairs_some g 0 c0 b 0 c1 (l.map elT) w (by rw [hm]; exact hl) (cellOf hg) (cellOf hb)
      rw [hm] at this
      exact this.mono fun e w' ⟨h, n, hn⟩ => ⟨h, by rw [hn]; exact belowN (Below.refl _ _) n⟩
theorem Own.news {B : Nat} {w w' : World} {rs ns : List Rw} (h : Own B w rs) (hb : Below w.heap.size w w') (hr : ∀ r ∈ ns, r.ok w.heap.size w') (hd : ns.Pairwise Rw.off) (hB : B ≤ w.heap.size) : Own B w' (ns ++ rs) := by
  refine ⟨fun s hs => ?_, List.pairwise_append.2 ⟨hd, h.2, fun r hm s hs => ?_⟩⟩
  · rcases List.mem_append.1 hs with hs | hs
    · exact (hr s hs).mono hB
    · exact (h.1 s hs).below hb
  · unfold Rw.off
    cases hk : vob r.v with
    | none => exact .inl rfl
    | some k =>
      refine .inr fun e => ?_
      have h1 := (hr r hm).lt k hk
      have h2 := (h.1 s hs).lt k e.symm
      omega
section
variable {B b : Nat} {ks : List Nat} {P : World → Prop} {xs rt : List (Value × List ElPairs)} {ys ri : List (Value × List ElEntries)} {w w' : World}
theorem Book.rowsI (h : Book B b ks xs ys rt ri w) (hb : Below w.heap.size w w') {ns : List (Value × List ElEntries)} (hr : ∀ r ∈ ns, (rwEntries r).ok w.heap.size w') (hd : (ns.map rwEntries).Pairwise Rw.off) (hB : B ≤ w.heap.size) (hks : ∀ k ∈ ks, k < w.heap.size) : Book B b ks xs (ns ++ ys) rt ri w' := by
  obtain ⟨cs, VI, WI, rI, aI, VT, WT, rT, aT, G, h1, h2, h3, h4, h5, h6, h7⟩ := h
  have hn := h1.news hb (fun r hm => by obtain ⟨p, hp, rfl⟩ := List.mem_map.1 hm; exact hr p hp) hd hB
  have hp : (ns.map rwEntries ++ bookL b cs VI WI rI aI VT WT rT aT xs ys G).Perm (bookL b cs VI WI rI aI VT WT rT aT xs (ns ++ ys) G) := by
    unfold bookL
    rw [List.map_append]
    classical
    rw [List.perm_iff_count]
    intro a
    simp only [List.count_append, List.count_cons]
    omega
  refine ⟨cs, VI, WI, rI, aI, VT, WT, rT, aT, G, hn.perm hp, h2, h3, h4, fun k hk r hm he => ?_, fun r hm => ?_, fun r hm => ?_⟩
  · rcases List.mem_append.1 (hp.mem_iff.2 hm) with hm | hm
    · obtain ⟨p, hp, rfl⟩ := List.mem_map.1 hm
      have := ((hr p hp).lt k he).1
      have := hks k hk
      omega
    · exact h5 k hk r hm he
  · have := h6 r hm
    rw [List.map_append]
    simp only [List.mem_append] at this ⊢
    rcases this with h | h | h | h
    · exact .inl h
    · exact .inr (.inl h)
    · exact .inr (.inr (.inl (.inr h)))
    · exact .inr (.inr (.inr h))
  · have := h7 r hm
    rw [List.map_append]
    simp only [List.mem_append] at this ⊢
    rcases this with h | h | h | h
    · exact .inl h
    · exact .inr (.inl h)
    · exact .inr (.inr (.inl (.inr h)))
    · exact .inr (.inr (.inr h))
theorem St12.rowsI (h : St12 B b ks P xs ys rt ri w) (hb : Below w.heap.size w w') {O : Value} {vs : List Value} {D : List (List Ent)} (hr : PiecesR w.heap.size w' O vs D) (hp : ∀ d ∈ D, ∀ x ∈ d, 0 ≤ x.s) : St12 B b ks P xs (vs.zip (D.map (List.map elOf)) ++ ys) rt ri w' := by
  have h1 := h.below hb
  refine ⟨h.bk.rowsI hb (fun r hm => ?_) ?_ h.sz (fun k hk => (h.lo k hk).2), h1.nd, h1.lo, h1.p, h1.kp, h1.sz⟩
  · obtain ⟨j, hj, rfl⟩ := List.mem_iff_getElem.1 hm
    have hj1 : j < vs.length := by simp at hj; omega
    have hj2 : j < D.length := by rw [← hr.len]; exact hj1
    rw [List.getElem_zip, List.getElem_map]
    exact okN_row (hr.rows j _ _ (List.getElem?_eq_getElem hj1) (List.getElem?_eq_getElem hj2)) (hp _ (List.getElem_mem hj2)) (hr.newR _ (List.getElem_mem hj1))
  · rw [List.pairwise_map]
    have hz : (vs.zip (D.map (List.map elOf))).map Prod.fst = vs := by
      rw [List.map_fst_zip]
      rw [List.length_map, hr.len]
      exact Nat.le_refl _
    have hv := hr.apart
    rw [← hz, List.pairwise_map] at hv
    exact hv
end
end Go.Proofs.YtcbailiniigcnaaGreat
