/- Pieces as rows of the Book, and the list of them beside it. -/
import Derived.Test.YtcbailiniigcnaaGreatVD14
import Derived.Test.YtcbailiniigcnaaGreatLCuts14W
namespace Go.Proofs.YtcbailiniigcnaaGreat
open Go.RowKit

section
variable {B b : Nat} {ks : List Nat} {P : World → Prop} {xs rt : List (Value × List ElPairs)} {ys ri : List (Value × List ElEntries)} {w w' : World}
theorem Book.rowsO (h : Book B b ks xs ys rt ri w) (hb : Below w.heap.size w w') {ns : List (Value × List ElEntries)} (hr : ∀ r ∈ ns, (rwEntries r).ok w.heap.size w') (hd : (ns.map rwEntries).Pairwise Rw.off) (hB : B ≤ w.heap.size) (hks : ∀ k ∈ ks, ∀ r ∈ ns, ob r.1 ≠ some k) : Book B b ks xs (ns ++ ys) rt ri w' := by
  obtain ⟨cs, VI, WI, rI, aI, VT, WT, rT, aT, G, h1, h2, h3, h4, h5, h6, h7⟩ := h
  have hn := h1.news hb (fun r hm => by obtain ⟨p, hp, rfl⟩ := List.mem_map.1 hm; exact hr p hp) hd hB
  have hp : (ns.map rwEntries ++ bookL b cs VI WI rI aI VT WT rT aT xs ys G).Perm (bookL b cs VI WI rI aI VT WT rT aT xs (ns ++ ys) G) := by
    unfold bookL
    rw [List.map_append]
    classical
    rw [List.perm_iff_count]
    intro a
    simp only [List.count_append, List.count_cons]
    omega
  refine ⟨cs, VI, WI, rI, aI, VT, WT, rT, aT, G, hn.perm hp, h2, h3, h4, fun k hk r hm he => ?_, fun r hm => ?_, fun r hm => ?_⟩
  · rcases List.mem_append.1 (hp.mem_iff.2 hm) with hm | hm
    · obtain ⟨p, hp, rfl⟩ := List.mem_map.1 hm
      exact hks k hk p hp he
    · exact h5 k hk r hm he
  · have := h6 r hm
    rw [List.map_append]
    simp only [List.mem_append] at this ⊢
    rcases this with h | h | h | h
    · exact .inl h
    · exact .inr (.inl h)
    · exact .inr (.inr (.inl (.inr h)))
    · exact .inr (.inr (.inr h))
  · have := h7 r hm
    rw [List.map_append]
    simp only [List.mem_append] at this ⊢
    rcases this with h | h | h | h
    · exact .inl h
    · exact .inr (.inl h)
    · exact .inr (.inr (.inl (.inr h)))
    · exact .inr (.inr (.inr h))
theorem St12.rowsO (h : St12 B b ks P xs ys rt ri w) (hb : Below w.heap.size w w') {O : Value} {vs : List Value} {D : List (List Ent)} (hr : PiecesR w.heap.size w' O vs D) (hp : ∀ d ∈ D, ∀ x ∈ d, 0 ≤ x.s) :
    St12 B b ((ob O).toList ++ ks) (fun W => P W ∧ Row W 26 1 O vs.length vs) xs (vs.zip (D.map (List.map elOf)) ++ ys) rt ri w' := by
  have h1 := h.below hb
  have hO : ∀ k, k ∈ (ob O).toList ↔ ob O = some k := fun k => by
    cases ob O with
    | none => simp
    | some x => simp [eq_comm]
  have hin : ∀ r ∈ vs.zip (D.map (List.map elOf)), r.1 ∈ vs := fun r hm => (List.of_mem_zip (a := r.1) (b := r.2) hm).1
  have hok : ∀ r ∈ vs.zip (D.map (List.map elOf)), (rwEntries r).ok w.heap.size w' := fun r hm => by
    obtain ⟨j, hj, rfl⟩ := List.mem_iff_getElem.1 hm
    have hj1 : j < vs.length := by simp at hj; omega
    have hj2 : j < D.length := by rw [← hr.len]; exact hj1
    rw [List.getElem_zip, List.getElem_map]
    exact okN_row (hr.rows j _ _ (List.getElem?_eq_getElem hj1) (List.getElem?_eq_getElem hj2)) (hp _ (List.getElem_mem hj2)) (hr.newR _ (List.getElem_mem hj1))
  have hoff : ((vs.zip (D.map (List.map elOf))).map rwEntries).Pairwise Rw.off := by
    rw [List.pairwise_map]
    have hz : (vs.zip (D.map (List.map elOf))).map Prod.fst = vs := by
      rw [List.map_fst_zip]
      rw [List.length_map, hr.len]
      exact Nat.le_refl _
    have hv := hr.apart
    rw [← hz, List.pairwise_map] at hv
    exact hv
  have hbk := (h.bk.other (ls := (ob O).toList ++ ks) (fun k hk => by
    rcases List.mem_append.1 hk with hk | hk
    · exact .inr (hr.newO k ((hO k).1 hk))
    · exact .inl hk)).rowsO hb hok hoff h.sz (fun k hk r hm => by
    rcases List.mem_append.1 hk with hk | hk
    · exact hr.sepO k ((hO k).1 hk) r.1 (hin r hm)
    · intro e
      have h3 := hr.newR r.1 (hin r hm) k e
      have h4 := (h.lo k hk).2
      omega)
  refine ⟨hbk, List.nodup_append.2 ⟨?_, h.nd, fun a ha c hc e => ?_⟩, fun k hk => ?_, ⟨h1.p, hr.out⟩, fun a c hk hq => ⟨h.kp a c (fun k q => hk k (List.mem_append_right _ q)) hq.1, hq.2.kept fun k hv => hk k (List.mem_append_left _ ((hO k).2 hv))⟩, h1.sz⟩
  · cases ob O <;> simp
  · subst e
    have h3 := hr.newO a ((hO a).1 ha)
    have h4 := (h.lo a hc).2
    omega
  · rcases List.mem_append.1 hk with hk | hk
    · have h3 := hr.newO k ((hO k).1 hk)
      exact ⟨Nat.le_trans h.sz h3, hr.out.lt k ((hO k).1 hk)⟩
    · exact h1.lo k hk
/-- No blocks to stay any more. -/
theorem St12.free (h : St12 B b ks P xs ys rt ri w) : St12 B b [] (fun _ => True) xs ys rt ri w := ⟨h.bk.other (ls := []) (fun k hk => by cases hk), List.nodup_nil, (fun k hk => by cases hk), trivial, fun _ _ _ _ => trivial, h.sz⟩
end
theorem row_at {w : World} {e : TypeId} {a : Option Addr} {n c m : Nat} {vs : List Value} (h : Row w e 1 (.slice a n c) m vs) (hm : 0 < m) : ∃ g, a = some ⟨g, 0, none⟩ ∧ ∀ j u, vs[j]? = some u → w.cell? ⟨g, j, none⟩ = some u := by
  rcases h.2 with ⟨h0, -⟩ | ⟨g, cap, cur, hv, -⟩
  · omega
  · cases hv
    refine ⟨g, rfl, fun j u hu => ?_⟩
    have := h.cell g 0 _ rfl j u hu
    rwa [Nat.zero_add] at this
theorem len_in {l : List Ent} : ∀ {D : List (List Ent)}, l ∈ D → l.length ≤ D.flatten.length
  | x :: D, h => by
    rw [List.flatten_cons, List.length_append]
    rcases List.mem_cons.1 h with rfl | h
    · omega
    · have := len_in h
      omega
theorem cutS_in {most : Int} {l d : List Ent} (h : d ∈ cutS most [] l) : ∀ x ∈ d, x ∈ l := fun x hx => by
  have h1 := cutS_all most l
  rw [← h1]
  exact List.mem_flatten.2 ⟨d, h, hx⟩
end Go.Proofs.YtcbailiniigcnaaGreat
