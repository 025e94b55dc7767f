/- A node more in a skip list, level by level. -/
import Derived.Test.YthaalhigmihijabGreatY6
namespace Go.Proofs.YthaalhigmihijabGreat
open Go.RowKit

theorem fol_mid {t : Nat} {x y : Nd} {Q : List Nd} (ha : x.a = y.a) (hl : t < x.l ↔ t < y.l) : ∀ c : List Nd, fol t (c ++ x :: Q) = fol t (c ++ y :: Q)
  | [] => by
    show (if t < x.l then pN x else fol t Q) = (if t < y.l then pN y else fol t Q)
    by_cases h : t < x.l
    · rw [if_pos h, if_pos (hl.1 h)]
      unfold pN
      rw [ha]
    · rw [if_neg h, if_neg (fun h' => h (hl.2 h'))]
  | n :: c => by
    show (if t < n.l then pN n else fol t (c ++ x :: Q)) = (if t < n.l then pN n else fol t (c ++ y :: Q))
    rw [fol_mid ha hl c]
theorem fol_in {t : Nat} {X Y : List Nd} : ∀ {c : List Nd}, (∃ x ∈ c, t < x.l) → fol t (c ++ X) = fol t (c ++ Y)
  | [], h => by
    obtain ⟨x, hx, -⟩ := h
    cases hx
  | n :: c, h => by
    show (if t < n.l then pN n else fol t (c ++ X)) = (if t < n.l then pN n else fol t (c ++ Y))
    by_cases hn : t < n.l
    · rw [if_pos hn, if_pos hn]
    · rw [if_neg hn, if_neg hn]
      obtain ⟨x, hx, hl⟩ := h
      rcases List.mem_cons.1 hx with rfl | hx
      · exact absurd hl hn
      · exact fol_in ⟨x, hx, hl⟩
theorem fol_zero {t a : Nat} {e : Ent} {Q : List Nd} : ∀ c : List Nd, fol t (c ++ ⟨a, e, 0⟩ :: Q) = fol t (c ++ Q)
  | [] => if_neg (Nat.not_lt_zero _)
  | n :: c => by
    show (if t < n.l then pN n else fol t (c ++ _)) = (if t < n.l then pN n else fol t (c ++ Q))
    rw [fol_zero c]
theorem split_unique {L L1 L2 pre c : List Nd} {m n : Nd} (hn : (L.map Nd.a).Nodup) (h1 : L = L1 ++ m :: L2) (h2 : L = pre ++ n :: c) (ha : n.a = m.a) : pre = L1 ∧ n = m ∧ c = L2 := by
  have i1 := idx_at h1 hn
  have i2 := idx_at h2 hn
  rw [ha, i1] at i2
  have e := h2.symm.trans h1
  obtain ⟨e1, e2⟩ := List.append_inj e i2.symm
  simp only [List.cons.injEq] at e2
  exact ⟨e1, e2.1, e2.2⟩
/-- Where a node of a list with one node in its middle stands. -/
theorem mid_split {L Q pre r : List Nd} {x n : Nd} (h : L ++ x :: Q = pre ++ n :: r) : (n = x ∧ r = Q ∧ pre = L) ∨ (∃ c, pre = L ++ x :: c ∧ Q = c ++ n :: r) ∨ ∃ c, L = pre ++ n :: c ∧ r = c ++ x :: Q := by
  rcases List.append_eq_append_iff.1 h with ⟨a', h1, h2⟩ | ⟨c', h1, h2⟩
  · cases a' with
    | nil =>
      simp only [List.nil_append, List.cons.injEq] at h2
      exact .inl ⟨h2.1.symm, h2.2.symm, by simpa using h1⟩
    | cons z a' =>
      simp only [List.cons_append, List.cons.injEq] at h2
      obtain ⟨rfl, h3⟩ := h2
      exact .inr (.inl ⟨a', h1, h3⟩)
  · cases c' with
    | nil =>
      simp only [List.nil_append, List.cons.injEq] at h2
      exact .inl ⟨h2.1, h2.2, by simpa using h1.symm⟩
    | cons z c' =>
      simp only [List.cons_append, List.cons.injEq] at h2
      obtain ⟨rfl, h3⟩ := h2
      exact .inr (.inr ⟨c', h1, h3⟩)
section
variable {p c : Nat} {P Q : List Nd} {a : Nat} {e : Ent} {i : Nat} {w w' : World}
theorem ent_lt4 {e : Ent} {j : Nat} {u : Value} (h : e.cells[j]? = some u) : j < 4 := by
  have := (List.getElem?_eq_some_iff.1 h).1
  simpa [Ent.cells] using this
/-- A node that stands on no level yet. -/
theorem Lst.enter (h : Lst p c (P ++ Q) w) (ha : a ∉ foot p (P ++ Q)) (hn : NodeAt w ⟨a, e, 0⟩ Q) : Lst p c (P ++ ⟨a, e, 0⟩ :: Q) w := by
  refine ⟨fun pre n r he => ?_, h.cnt, ?_, ?_⟩
  · rw [← List.cons_append] at he
    rcases mid_split he with ⟨rfl, rfl, -⟩ | ⟨k, rfl, rfl⟩ | ⟨k, hk, rfl⟩
    · exact hn
    · exact h.chain (hd p :: P ++ k) n r (by simp)
    · have := h.chain pre n (k ++ Q) (by rw [← List.cons_append, hk]; simp)
      exact ⟨this.ent, fun t ht => by rw [fol_zero]; exact this.nxt t ht, this.warm⟩
  · intro n hm
    rcases List.mem_append.1 hm with hm | hm
    · exact h.lev n (by simp [hm])
    · rcases List.mem_cons.1 hm with rfl | hm
      · exact Nat.zero_le _
      · exact h.lev n (by simp [hm])
  · have h1 := h.nodup
    unfold foot at *
    rw [show hd p :: (P ++ ⟨a, e, 0⟩ :: Q) = (hd p :: P) ++ ⟨a, e, 0⟩ :: Q by simp, List.map_append, List.map_cons]
    rw [show hd p :: (P ++ Q) = (hd p :: P) ++ Q by simp, List.map_append] at h1 ha
    rw [List.nodup_append] at h1 ⊢
    refine ⟨h1.1, List.nodup_cons.2 ⟨fun hm => ha (by simp only [List.mem_append]; exact .inr hm), h1.2.1⟩, fun x hx y hy => ?_⟩
    rcases List.mem_cons.1 hy with rfl | hy
    · intro hxy
      exact ha (by simp only [List.mem_append]; exact .inl (hxy ▸ hx))
    · exact h1.2.2 x hx y hy
theorem foot_level (j : Nat) : foot p (P ++ ⟨a, e, j⟩ :: Q) = foot p (P ++ ⟨a, e, 0⟩ :: Q) := by simp [foot]
/-- One level more. -/
theorem Lst.climb (h : Lst p c (P ++ ⟨a, e, i⟩ :: Q) w) (hi : i < 8) {m : Nd} (hm : IsLast i (hd p :: P) m)
    (hcell : ∀ b j, (b, j) ≠ (a, 4 + i) → (b, j) ≠ (m.a, 4 + i) → w'.cell? ⟨b, j, none⟩ = w.cell? ⟨b, j, none⟩)
    (h1 : w'.cell? ⟨a, 4 + i, none⟩ = some (fol i Q)) (h2 : w'.cell? ⟨m.a, 4 + i, none⟩ = some (.pointer (some ⟨a, 0, none⟩)))
    (hf : ∀ b j, w'.frozen? ⟨b, j, none⟩ = w.frozen? ⟨b, j, none⟩) : Lst p c (P ++ ⟨a, e, i + 1⟩ :: Q) w' := by
  have hnd := h.nodup
  have hnd' : ((hd p :: P ++ ⟨a, e, i⟩ :: Q).map Nd.a).Nodup := hnd
  have hndL : ((hd p :: P).map Nd.a).Nodup := by
    rw [List.map_append] at hnd'
    exact (List.nodup_append.1 hnd').1
  have haL : ∀ n ∈ hd p :: P, n.a ≠ a := by
    intro n hn
    rw [List.map_append, List.map_cons] at hnd'
    exact (List.nodup_append.1 hnd').2.2 n.a (List.mem_map.2 ⟨n, hn, rfl⟩) a (by simp)
  have haQ : ∀ n ∈ Q, n.a ≠ a := by
    intro n hn he
    rw [List.map_append, List.map_cons] at hnd'
    exact (List.nodup_cons.1 (List.nodup_append.1 hnd').2.1).1 (he ▸ List.mem_map.2 ⟨n, hn, rfl⟩)
  obtain ⟨L1, L2, hL, hml, hL2⟩ := hm
  have hmL : m ∈ hd p :: P := by rw [hL]; simp
  have hmQ : ∀ n ∈ Q, n.a ≠ m.a := by
    intro n hn he
    rw [List.map_append, List.map_cons] at hnd'
    exact (List.nodup_append.1 hnd').2.2 m.a (List.mem_map.2 ⟨m, hmL, rfl⟩) n.a (by simp; exact .inr ⟨n, hn, rfl⟩) he.symm
  refine ⟨fun pre n r he => ?_, ?_, ?_, ?_⟩
  · rw [← List.cons_append] at he
    rcases mid_split he with ⟨rfl, rfl, -⟩ | ⟨k, rfl, hk⟩ | ⟨k, hk, rfl⟩
    · have ho := h.chain (hd p :: P) ⟨a, e, i⟩ r (by simp)
      refine ⟨fun j u hj => ?_, fun t ht => ?_, fun j => (hf _ _).trans (ho.warm j)⟩
      · have := ent_lt4 hj
        exact (hcell a j (by simp; omega) (by simp; omega)).trans (ho.ent j u hj)
      · by_cases hti : t = i
        · subst hti
          rw [if_pos (Nat.lt_succ_self t)]
          exact h1
        · refine ((hcell a (4 + t) (by simp; omega) (by simp; omega)).trans (ho.nxt t ht)).trans ?_
          show some (if t < i then _ else _) = some (if t < i + 1 then _ else _)
          by_cases hlt : t < i
          · rw [if_pos hlt, if_pos (by omega)]
          · rw [if_neg hlt, if_neg (by omega)]
    · have ho := h.chain (hd p :: P ++ ⟨a, e, i⟩ :: k) n r (by rw [hk]; simp)
      have hnQ : n ∈ Q := by rw [hk]; simp
      have n1 := haQ n hnQ
      have n2 := hmQ n hnQ
      exact ⟨fun j u hj => (hcell _ _ (by simp [n1]) (by simp [n2])).trans (ho.ent j u hj), fun t ht => (hcell _ _ (by simp [n1]) (by simp [n2])).trans (ho.nxt t ht), fun j => (hf _ _).trans (ho.warm j)⟩
    · have ho := h.chain pre n (k ++ ⟨a, e, i⟩ :: Q) (by rw [← List.cons_append, hk]; simp)
      have hnL : n ∈ hd p :: P := by rw [hk]; simp
      have n1 := haL n hnL
      refine ⟨fun j u hj => ?_, fun t ht => ?_, fun j => (hf _ _).trans (ho.warm j)⟩
      · have := ent_lt4 hj
        exact (hcell _ j (by simp [n1]) (by simp; omega)).trans (ho.ent j u hj)
      · by_cases hti : t = i
        · subst hti
          by_cases hnm : n.a = m.a
          · obtain ⟨-, rfl, rfl⟩ := split_unique hndL hL hk hnm
            rw [if_pos hml, fol_hit hL2 (show t < (⟨a, e, t + 1⟩ : Nd).l from Nat.lt_succ_self t)]
            exact h2
          · refine ((hcell _ _ (by simp [n1]) (by simp [hnm])).trans (ho.nxt t ht)).trans ?_
            by_cases hnl : t < n.l
            · rw [if_pos hnl, if_pos hnl]
              have hin : ∃ x ∈ k, t < x.l := by
                rcases mid_split (hL.symm.trans hk) with ⟨q, -, -⟩ | ⟨z, -, hz⟩ | ⟨z, -, hz⟩
                · exact absurd (by rw [q]) hnm
                · have := hL2 n (by rw [hz]; simp)
                  omega
                · exact ⟨m, by rw [hz]; simp, hml⟩
              rw [fol_in hin]
            · rw [if_neg hnl, if_neg hnl]
        · refine ((hcell _ _ (by simp [n1]) (by simp; omega)).trans (ho.nxt t ht)).trans ?_
          rw [fol_mid (x := ⟨a, e, i⟩) (y := ⟨a, e, i + 1⟩) rfl (by show t < i ↔ t < i + 1; omega)]
  · exact (hcell p 12 (by simp; omega) (by simp; omega)).trans h.cnt
  · intro n hn
    rcases List.mem_append.1 hn with hn | hn
    · exact h.lev n (by simp [hn])
    · rcases List.mem_cons.1 hn with rfl | hn
      · show i + 1 ≤ 8
        omega
      · exact h.lev n (by simp [hn])
  · rw [foot_level] at hnd ⊢
    exact hnd
/-- The number of versions told anew. -/
theorem Lst.counted {ns : List Nd} (h : Lst p c ns w) (d : Nat) : Lst p d ns (w.setCell ⟨p, 12, none⟩ (.int .i64 (d : Int))) := by
  refine ⟨fun pre n r he => ?_, World.cell?_setCell_same w _ _ h.cnt, h.lev, h.nodup⟩
  have ho := h.chain pre n r he
  refine ⟨fun j u hj => ?_, fun t ht => ?_, fun j => (World.frozen?_setCell _ _ _ _).trans (ho.warm j)⟩
  · have := ent_lt4 hj
    exact (World.cell?_setCell_other w _ _ _ (fun q => by cases q; omega)).trans (ho.ent j u hj)
  · exact (World.cell?_setCell_other w _ _ _ (fun q => by injection q with q1 q2; omega)).trans (ho.nxt t ht)
end
end Go.Proofs.YthaalhigmihijabGreat
