/- The statements' Book of texts beside both files. -/
import Derived.Test.YtfndlfnlepndmaaGreatDFHI
import Derived.Test.YtfndlfnlepndmaaGreatOaT
import Derived.Test.YtfndlfnlepndmaaGreatOtTexts
import Derived.Test.YtfndlfnlepndmaaGreatSP
namespace Go.Proofs.YtfndlfnlepndmaaGreat
open Go.RowKit

/-- The same numbers, each once. -/
theorem once_of : ∀ l : List Nat, ∃ l' : List Nat, l'.Nodup ∧ ∀ x, x ∈ l' ↔ x ∈ l
  | [] => ⟨[], List.nodup_nil, fun _ => Iff.rfl⟩
  | a :: l => by
    obtain ⟨l', h1, h2⟩ := once_of l
    by_cases ha : a ∈ l'
    · refine ⟨l', h1, fun x => ?_⟩
      rw [h2, List.mem_cons]
      constructor
      · exact .inr
      · rintro (rfl | h)
        · exact (h2 _).1 ha
        · exact h
    · refine ⟨a :: l', List.nodup_cons.2 ⟨ha, h1⟩, fun x => ?_⟩
      rw [List.mem_cons, List.mem_cons, h2]
section
variable {F G : Nat → Prop} {B b p q n m n' m' : Nat} {s r s' r' : St} {w w' : World}
/-- The blocks of both from B on, in a list. -/
theorem Two.ks (h : Two F B p q n m s r w) : ∃ ks : List Nat, ks.Nodup ∧ (∀ k ∈ ks, B ≤ k ∧ k < w.heap.size) ∧ (∀ k ∈ ks, ¬ F k) ∧
    ∀ (G : Nat → Prop) (w' : World), Below B w w' → (∀ k ∈ ks, w'.heap[k]? = w.heap[k]?) → (∀ k, G k → k ∉ ks ∧ B ≤ k ∧ k < w'.heap.size) → Two G B p q n m s r w' := by
  obtain ⟨⟨x, ⟨rp, g1, g2, g3, g4, g5, g6⟩, h2, h8⟩, h3, h4, h5⟩ := h
  obtain ⟨ks, h6, h7⟩ := once_of ((rp.foot ++ q :: x.foot).filter fun k => decide (B ≤ k))
  have hmem : ∀ k, k ∈ ks ↔ (k ∈ rp.foot ∨ k = q ∨ k ∈ x.foot) ∧ B ≤ k := fun k => by
    rw [h7, List.mem_filter, List.mem_append, List.mem_cons]
    simp
  refine ⟨ks, h6, fun k hk => ?_, fun k hk hf => ?_, fun G w' hb hk hG => ?_⟩
  · obtain ⟨ha, hB⟩ := (hmem k).1 hk
    refine ⟨hB, ?_⟩
    rcases ha with ha | rfl | ha
    · exact g1.lt k ha
    · exact h2.lt
    · exact h2.foot_lt k ha
  · obtain ⟨ha, hB⟩ := (hmem k).1 hk
    rcases ha with ha | ha | ha
    · exact (g6 k (.inl hf)).1 ha
    · exact h5 k hf ha
    · exact h8 k hf ha
  · have hold : ∀ k, k < w.heap.size → (k ∈ rp.foot ∨ k = q ∨ k ∈ x.foot) → w'.heap[k]? = w.heap[k]? := fun k hlt ha => by
      by_cases hB : B ≤ k
      · exact hk k ((hmem k).2 ⟨ha, hB⟩)
      · exact hb.block k (by omega)
    have hoff : ∀ k, G k → k ∉ rp.foot ∧ k ≠ q := fun k hg => by
      obtain ⟨a1, a2, a3⟩ := hG k hg
      exact ⟨fun hm => a1 ((hmem k).2 ⟨.inl hm, a2⟩), fun e => a1 ((hmem k).2 ⟨.inr (.inl e), a2⟩)⟩
    refine ⟨⟨x, ⟨rp, g1.kept (fun k hm => hold k (g1.lt k hm) (.inl hm)), g2, g3, g4, g5, fun k hk' => ?_⟩, h2.kept (hold q h2.lt (.inr (.inl rfl))) (fun k hm => hold k (h2.foot_lt k hm) (.inr (.inr hm))), fun k hg hm => (hG k hg).1 ((hmem k).2 ⟨.inr (.inr hm), (hG k hg).2.1⟩)⟩, h3, h4, fun k hg => (hoff k hg).2⟩
    rcases hk' with hg | hg
    · exact ⟨(hoff k hg).1, (hG k hg).2.2⟩
    · obtain ⟨a1, a2⟩ := g6 k (.inr hg)
      exact ⟨a1, Nat.lt_of_lt_of_le a2 hb.size⟩
/-- The Book at b: its rows L. -/
def Book4 (B b : Nat) (L : List Rw) (w : World) : Prop := ∃ (cs : List Value) (VE WE : Value) (rows was : List (Value × List ByteArray)) (R : List Rw),
  L = bookR b cs :: (keptTexts VE WE rows was ++ R) ∧ Own B w L ∧ cs[0]? = some VE ∧ cs[1]? = some WE ∧ (∀ j, isNilOaT j = true → cs[j]? = some (.slice none 0 0)) ∧ FitsTexts rows was
def FL (L : List Rw) : Nat → Prop := fun k => ∃ r ∈ L, vob r.v = some k
/-- Both files, and the Book beside them. -/
structure St4 (B b p q n m : Nat) (s r : St) (L : List Rw) (w : World) : Prop where
  book : Book4 B b L w
  two : Two (FL L) B p q n m s r w
theorem Book4.own {L : List Rw} (h : Book4 B b L w) : Own B w L := by
  obtain ⟨cs, VE, WE, rows, was, R, h1, h2, -⟩ := h
  exact h2
theorem Book4.keep {L : List Rw} (h : Book4 B b L w) (hk : Kp (FL L) w w') : Book4 B b L w' := by
  obtain ⟨cs, VE, WE, rows, was, R, h1, h2, h3⟩ := h
  exact ⟨cs, VE, WE, rows, was, R, h1, h2.keep fun r hr k hk' => hk k ⟨r, hr, hk'⟩, h3⟩
theorem St4.below {L : List Rw} (h : St4 B b p q n m s r L w) (hb : Below w.heap.size w w') : St4 B b p q n m s r L w' :=
  ⟨h.book.keep fun k hk => hb.block k (h.two.lt k hk), h.two.same hb⟩
theorem St4.step {L : List Rw} (h : St4 B b p q n m s r L w) (ht : Two (FL L) B p q n' m' s' r' w') (hk : Kp (FL L) w w') : St4 B b p q n' m' s' r' L w' := ⟨h.book.keep hk, ht⟩
theorem hs_names4 (h : Hs F B p n m s w) (hN : n ≤ 1000000) :
    Calls Tryz.prog 15 #[.pointer (some ⟨p, 0, none⟩)] w fun e w' => ∃ v, e = .returned v ∧ Row w' 9 1 v s.names.length (nmVals s.names) ∧ (∀ k, ob v = some k → w.heap.size ≤ k) ∧ Below w.heap.size w w' := by
  obtain ⟨r, h1, rfl, -, h4, -⟩ := h
  refine (namesS_any h1 h4 hN).mono ?_
  rintro e w' ⟨v, rfl, hr, hb, hf⟩
  exact ⟨v, rfl, hr, hf, hb⟩
theorem cells_names (l : List Nm) : cellsTexts (l.map fun a => ⟨a.toArray⟩) = nmVals l := by
  unfold cellsTexts nmVals
  rw [List.map_map]
  rfl
theorem photo_off4 {B : Nat} {w w' : World} {ks : List Nat} {rs : List Rw} (h : Own B w' (photo w ks ++ rs)) : ∀ k ∈ ks, ∀ r ∈ rs, vob r.v ≠ some k := by
  intro k hk r hr he
  have := (List.pairwise_append.1 h.2).2.2 _ (List.mem_map.2 ⟨k, hk, rfl⟩) r hr
  unfold Rw.off at this
  rcases this with h | h
  · cases h
  · exact h he.symm
theorem set_get4 {cs : List Value} {i j : Nat} {V : Value} (h : i ≠ j) : (cs.set i V)[j]? = cs[j]? := List.getElem?_set_ne h
theorem set_same4 {cs : List Value} {i : Nat} {V U : Value} (h : cs[i]? = some U) : (cs.set i V)[i]? = some V := by
  rw [List.getElem?_set_self (List.getElem?_eq_some_iff.1 h).1]
/-- One more list of names is kept. -/
theorem St4.texts {L : List Rw} {w0 : World} (h : St4 B b p q n m s r L w0) (hb : Below w0.heap.size w0 w) (hB : B ≤ w0.heap.size) {v : Value} {l : List Nm} (hl : l.length ≤ 100000) (hr : Row w 9 1 v l.length (nmVals l)) (hf : ∀ k, ob v = some k → w0.heap.size ≤ k) {bx : Nat} (hx1 : B ≤ bx) (hx2 : bx < w0.heap.size) (hx3 : ¬ FL L bx) :
    Calls Tryz.prog 14 #[.pointer (some ⟨b, 0, none⟩), v] w fun e w' => e = .returned (.tuple #[]) ∧ Below B w w' ∧ w'.heap[bx]? = w.heap[bx]? ∧ ∃ L', St4 B b p q n m s r L' w' := by
  obtain ⟨zs, hzs⟩ : ∃ zs : List ByteArray, zs = l.map fun a => ⟨a.toArray⟩ := ⟨_, rfl⟩
  have hzl : zs.length = l.length := by rw [hzs, List.length_map]
  have hok : (rwTexts (v, zs)).ok w0.heap.size w := by
    refine ok_row ?_ hf
    show Row w 9 1 v zs.length (cellsTexts zs)
    rw [hzl, hzs, cells_names]
    exact hr
  have hown := Own.new h.book.own hb hok hB
  have htw : Two (FL (rwTexts (v, zs) :: L)) B p q n m s r w := h.two.below hb fun k hk => by
    obtain ⟨x, hx, hv⟩ := hk
    rcases List.mem_cons.1 hx with rfl | hx
    · exact .inr (hok.lt k hv)
    · exact .inl ⟨x, hx, hv⟩
  have hBw : B ≤ w.heap.size := Nat.le_trans hB hb.size
  obtain ⟨ks0, j1, j2, j3, j4⟩ := htw.ks
  obtain ⟨ks, k1, hmem⟩ := once_of (bx :: ks0)
  have k2 : ∀ k ∈ ks, B ≤ k ∧ k < w.heap.size := fun k hk => by
    rcases List.mem_cons.1 ((hmem k).1 hk) with rfl | hk
    · exact ⟨hx1, Nat.lt_of_lt_of_le hx2 hb.size⟩
    · exact j2 k hk
  have k3 : ∀ k ∈ ks, ¬ FL (rwTexts (v, zs) :: L) k := fun k hk => by
    rcases List.mem_cons.1 ((hmem k).1 hk) with rfl | hk
    · rintro ⟨x, hx, hv⟩
      rcases List.mem_cons.1 hx with rfl | hx
      · have := (hok.lt k hv).1
        omega
      · exact hx3 ⟨x, hx, hv⟩
    · exact j3 k hk
  have hbk : bx ∈ ks := (hmem bx).2 List.mem_cons_self
  obtain ⟨cs, VE, WE, rows, was, R, hL, -, c0, c1, c2, hfit⟩ := h.book
  have hw := hown.withPhoto k1 k2 fun k hk x hx he => k3 k hk ⟨x, hx, he⟩
  rw [hL] at hw hown
  by_cases hlen : rows.length < 250
  · have hp : (photo w ks ++ rwTexts (v, zs) :: (bookR b cs :: (keptTexts VE WE rows was ++ R))).Perm (rwTexts (v, zs) :: (bookR b cs :: (keptTexts VE WE rows was ++ (photo w ks ++ R)))) := by
      classical
      rw [List.perm_iff_count]
      intro a
      simp only [List.count_append, List.count_cons]
      omega
    refine (addTexts_tot (hw.perm hp) c0 c1 hfit hlen (by omega) hBw).mono ?_
    rintro e w' ⟨rfl, hb', V', W', v', ho⟩
    have hq : (bookR b ((cs.set 0 V').set 1 W') :: (keptTexts V' W' (rows ++ [(v, zs)]) (was ++ [(v', zs)]) ++ (photo w ks ++ R))).Perm (photo w ks ++ (bookR b ((cs.set 0 V').set 1 W') :: (keptTexts V' W' (rows ++ [(v, zs)]) (was ++ [(v', zs)]) ++ R))) := by
      classical
      rw [List.perm_iff_count]
      intro a
      simp only [List.count_append, List.count_cons]
      omega
    have ho' := ho.perm hq
    have ho2 := ho'.sub (List.sublist_append_right _ _)
    have hback := photo_back ho' (fun r hr => List.mem_append_left _ hr) (fun k hk => (k2 k hk).2)
    refine ⟨rfl, hb', hback bx hbk, _, ⟨_, V', W', _, _, R, rfl, ho2, ?_, ?_, fun j hj => ?_, hfit.add v v' zs hlen (by omega)⟩, j4 _ w' hb' (fun k hk => hback k ((hmem k).2 (List.mem_cons_of_mem _ hk))) fun k hk => ?_⟩
    · rw [set_get4 (by decide)]
      exact set_same4 c0
    · exact set_same4 (U := WE) (by rw [set_get4 (by decide)]; exact c1)
    · have hj2 : j ≠ 0 ∧ j ≠ 1 := by
        simp [isNilOaT] at hj
        omega
      rw [set_get4 (fun e => hj2.2 e.symm), set_get4 (fun e => hj2.1 e.symm)]
      exact c2 j hj
    · obtain ⟨x, hx, hv⟩ := hk
      obtain ⟨a1, a2⟩ := (ho2.1 x hx).lt k hv
      exact ⟨fun hm => photo_off4 ho' k ((hmem k).2 (List.mem_cons_of_mem _ hm)) x hx hv, a1, a2⟩
  · refine (fullTexts_tot (R := R) v hown.tail c0 (by omega) (by have := hfit.len; omega)).mono ?_
    rintro e w' ⟨rfl, rfl⟩
    refine ⟨rfl, Below.refl _ _, rfl, L, ⟨cs, VE, WE, rows, was, R, hL, by rw [hL]; exact hown.tail, c0, c1, c2, hfit⟩, htw.fewer fun k hk => ?_⟩
    obtain ⟨x, hx, hv⟩ := hk
    exact ⟨x, List.mem_cons_of_mem _ hx, hv⟩
theorem Book4.start (hown : Own B w (bookR b (List.replicate 28 (.slice none 0 0)) :: [])) : ∃ L, Book4 B b L w ∧ ∀ k, FL L k → k = b := by
  have hn : ∀ j, j < 28 → (List.replicate 28 (Value.slice none 0 0))[j]? = some (.slice none 0 0) := fun j hj => by rw [List.getElem?_replicate, if_pos hj]
  refine ⟨_, ⟨_, .slice none 0 0, .slice none 0 0, [], [], [], rfl, ?_, hn 0 (by omega), hn 1 (by omega), fun j hj => hn j (by simp [isNilOaT] at hj; exact hj.1), FitsTexts.nil⟩, ?_⟩
  · have h1 := (hown.addNil 56 1).addNil 56 1
    refine h1.perm ?_
    unfold keptTexts outRTexts
    classical
    rw [List.perm_iff_count]
    intro a
    simp only [List.map_nil, List.count_append, List.count_cons, List.count_nil, List.length_nil]
    omega
  · rintro k ⟨x, hx, hv⟩
    simp only [keptTexts, outRTexts, List.map_nil, List.nil_append, List.append_nil, List.mem_cons, List.not_mem_nil, or_false] at hx
    rcases hx with rfl | rfl | rfl
    · simpa [bookR, vob, ob] using hv.symm
    · cases hv
    · cases hv
theorem Book4.apart {L : List Rw} (h : Book4 B b L w) (hB : B ≤ w.heap.size) :
    Calls Tryz.prog 19 #[.pointer (some ⟨b, 0, none⟩)] w fun e w' => e = .returned (.bool true) ∧ Below B w w' := by
  obtain ⟨cs, VE, WE, rows, was, R, hL, h2, c0, c1, c2, hfit⟩ := h
  rw [hL] at h2
  exact apartOaT_any B b cs VE WE rows was R w h2 c0 c1 hfit c2 hB
/-- A twin of the program's: each of the two may go on alone. -/
theorem Two.twin (h : Two F B p q n m s r w) (hN : n ≤ 100000) (hM : m ≤ 1000000000) :
    Calls Tryz.prog 8 #[.pointer (some ⟨p, 0, none⟩)] w fun e w1 => ∃ p' s' FA, e = .returned (.pointer (some ⟨p', 0, none⟩)) ∧ Below w.heap.size w w1 ∧
      Hs (fun k => k < w.heap.size) w.heap.size p' n m s' w1 ∧ Hs FA B p n m s w1 ∧ (∀ k, F k → FA k) ∧ (∀ w2, Kp FA w1 w2 → w1.heap.size ≤ w2.heap.size → Two F B p' q n m s' r w2) := by
  have hB := h.size
  obtain ⟨⟨x, h1, h2, h6⟩, h3, h4, h5⟩ := h
  have hcoh := h1.coh
  have hlt := h1.lt
  refine (has_twin h1.has hN hM).mono ?_
  rintro e w1 ⟨p', s', f, rfl, ⟨rp, g1, g2, g3, g4, g5⟩, ht, -, hb, -, -⟩
  refine ⟨p', s', fun k => Fx F q x k ∨ (w.heap.size ≤ k ∧ k < w1.heap.size), rfl, hb, ⟨rp, g1, g2, g3, g4, g5, fun k hk => ⟨fun hm => by have := g3 k hm; omega, Nat.lt_of_lt_of_le hk hb.size⟩⟩, h1.below hb fun k hk => hk, fun k hk => .inl (.inl hk), fun w2 hk hs => ?_⟩
  have hq : q < w.heap.size := h2.lt
  refine ⟨⟨x, ⟨rp, g1.kept (fun k hm => hk k (.inr ⟨g3 k hm, g1.lt k hm⟩)), g2, fun k hm => Nat.le_trans hB (g3 k hm), g4, g5, fun k hk' => ?_⟩, ?_, h6⟩, h3.twin ht hcoh, h4, h5⟩
  · have := hlt k hk'
    exact ⟨fun hm => by have := g3 k hm; omega, Nat.lt_of_lt_of_le (Nat.lt_of_lt_of_le this hb.size) hs⟩
  · exact (h2.below hb).kept (hk q (.inl (.inr (.inl rfl)))) fun k hm => hk k (.inl (.inr (.inr hm)))
end
end Go.Proofs.YtfndlfnlepndmaaGreat
