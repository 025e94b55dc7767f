/- A skip list in memory: its nodes, one behind the other, the head first. -/
import Derived.Test.YthaalhigmihijabGreatY1
namespace Go.Proofs.YthaalhigmihijabGreat
open Go.RowKit

/-- A node: its block, its version, its level. -/
structure Nd where
  a : Nat
  e : Ent
  l : Nat
def pN (n : Nd) : Value := .pointer (some ⟨n.a, 0, none⟩)
/-- Who follows on level i. -/
def fol (i : Nat) : List Nd → Value
  | [] => .pointer none
  | n :: r => if i < n.l then pN n else fol i r
theorem fol_skip {i : Nat} : ∀ {m r : List Nd}, (∀ x ∈ m, x.l ≤ i) → fol i (m ++ r) = fol i r
  | [], _, _ => rfl
  | n :: m, r, h => by
    have h1 := h n (by simp)
    show (if i < n.l then pN n else fol i (m ++ r)) = _
    rw [if_neg (by omega), fol_skip (fun x hx => h x (List.mem_cons_of_mem _ hx))]
theorem fol_hit {i : Nat} {m r : List Nd} {n : Nd} (h : ∀ x ∈ m, x.l ≤ i) (hn : i < n.l) : fol i (m ++ n :: r) = pN n := by
  rw [fol_skip h]
  exact if_pos hn
theorem fol_split (i : Nat) : ∀ m : List Nd, (∀ x ∈ m, x.l ≤ i) ∨ ∃ m1 x m2, m = m1 ++ x :: m2 ∧ (∀ y ∈ m1, y.l ≤ i) ∧ i < x.l
  | [] => .inl (by simp)
  | n :: m => by
    by_cases hn : i < n.l
    · exact .inr ⟨[], n, m, rfl, by simp, hn⟩
    · rcases fol_split i m with h | ⟨m1, x, m2, rfl, h1, h2⟩
      · refine .inl (fun x hx => ?_)
        rcases List.mem_cons.1 hx with rfl | hx
        · omega
        · exact h x hx
      · refine .inr ⟨n :: m1, x, m2, rfl, fun y hy => ?_, h2⟩
        rcases List.mem_cons.1 hy with rfl | hy
        · omega
        · exact h1 y hy
structure NodeAt (w : World) (n : Nd) (r : List Nd) : Prop where
  ent : ∀ j u, n.e.cells[j]? = some u → w.cell? ⟨n.a, j, none⟩ = some u
  nxt : ∀ i, i < 8 → w.cell? ⟨n.a, 4 + i, none⟩ = some (if i < n.l then fol i r else .pointer none)
  warm : ∀ j, w.frozen? ⟨n.a, j, none⟩ = false
theorem lt_of_cell {w : World} {b j : Nat} {v : Value} (h : w.cell? ⟨b, j, none⟩ = some v) : b < w.heap.size := by
  rcases Nat.lt_or_ge b w.heap.size with h1 | h1
  · exact h1
  · simp [World.cell?, Array.getElem?_eq_none h1] at h
theorem NodeAt.lt {w : World} {n : Nd} {r : List Nd} (h : NodeAt w n r) : n.a < w.heap.size := lt_of_cell (h.ent 0 _ rfl)
theorem NodeAt.kept {w w' : World} {n : Nd} {r : List Nd} (h : NodeAt w n r) (hk : w'.heap[n.a]? = w.heap[n.a]?) : NodeAt w' n r :=
  ⟨fun j u hj => (World.cell?_of_block hk).trans (h.ent j u hj), fun i hi => (World.cell?_of_block hk).trans (h.nxt i hi), fun j => (World.frozen?_of_block hk).trans (h.warm j)⟩
theorem NodeAt.c0 {w : World} {n : Nd} {r : List Nd} (h : NodeAt w n r) : w.cell? ⟨n.a, 0, none⟩ = some (.string n.e.k) := h.ent 0 _ rfl
theorem NodeAt.c1 {w : World} {n : Nd} {r : List Nd} (h : NodeAt w n r) : w.cell? ⟨n.a, 1, none⟩ = some (.int .u64 n.e.s) := h.ent 1 _ rfl
theorem NodeAt.c2 {w : World} {n : Nd} {r : List Nd} (h : NodeAt w n r) : w.cell? ⟨n.a, 2, none⟩ = some (.int .i64 n.e.n) := h.ent 2 _ rfl
theorem NodeAt.c3 {w : World} {n : Nd} {r : List Nd} (h : NodeAt w n r) : w.cell? ⟨n.a, 3, none⟩ = some (.string n.e.v) := h.ent 3 _ rfl
def Chain (w : World) (L : List Nd) : Prop := ∀ pre n r, L = pre ++ n :: r → NodeAt w n r
def hd (p : Nat) : Nd := ⟨p, Ent.zero, 8⟩
def foot (p : Nat) (ns : List Nd) : List Nat := (hd p :: ns).map Nd.a
structure Lst (p c : Nat) (ns : List Nd) (w : World) : Prop where
  chain : Chain w (hd p :: ns)
  cnt : w.cell? ⟨p, 12, none⟩ = some (.int .i64 (c : Int))
  lev : ∀ n ∈ ns, n.l ≤ 8
  nodup : (foot p ns).Nodup
section
variable {p c : Nat} {ns : List Nd} {w w' : World}
theorem Lst.node (h : Lst p c ns w) {n : Nd} (hn : n ∈ hd p :: ns) : ∃ r, NodeAt w n r := by
  obtain ⟨a, b, e⟩ := List.append_of_mem hn
  exact ⟨b, h.chain a n b e⟩
theorem Lst.lt (h : Lst p c ns w) : ∀ k ∈ foot p ns, k < w.heap.size := by
  intro k hk
  obtain ⟨n, hn, rfl⟩ := List.mem_map.1 hk
  obtain ⟨r, hr⟩ := h.node hn
  exact hr.lt
theorem Lst.kept (h : Lst p c ns w) (hk : ∀ k ∈ foot p ns, w'.heap[k]? = w.heap[k]?) : Lst p c ns w' :=
  ⟨fun a n b e => (h.chain a n b e).kept (hk _ (List.mem_map.2 ⟨n, by rw [e]; simp, rfl⟩)), (World.cell?_of_block (hk p (by simp [foot, hd]))).trans h.cnt, h.lev, h.nodup⟩
theorem Lst.below (h : Lst p c ns w) (hb : Below w.heap.size w w') : Lst p c ns w' := h.kept fun k hk => hb.block k (h.lt k hk)
theorem Lst.turned {F : List Nat} (h : Lst p c ns w) (ht : Turn F w w') (hF : ∀ k ∈ foot p ns, k ∉ F) : Lst p c ns w' := h.kept fun k hk => ht.block k (h.lt k hk) (hF k hk)
theorem Lst.drew (h : Lst p c ns w) : Lst p c ns w.drew := h.kept fun _ _ => rfl
theorem Lst.hdlt (h : Lst p c ns w) : p < w.heap.size := h.lt p (by simp [foot, hd])
end
/-- Versions that may stand in a list. -/
def Ent.Fit (e : Ent) : Prop := e.k.size ≤ 300 ∧ e.v.size ≤ 60000 ∧ 0 ≤ e.s ∧ e.s ≤ 18446744073709551615
def ltN (x y : Nd) : Prop := cmpE x.e.k x.e.s y.e.k y.e.s = -1
structure Right (ns : List Nd) : Prop where
  lev : ∀ n ∈ ns, 1 ≤ n.l
  ord : ns.Pairwise ltN
  fit : ∀ n ∈ ns, n.e.Fit
/-- P stands ahead of a place, Q doesn't. -/
structure Cut (k : ByteArray) (s : Int) (ns P Q : List Nd) : Prop where
  all : ns = P ++ Q
  ahead : ∀ x ∈ P, cmpE x.e.k x.e.s k s = -1
  behind : ∀ x ∈ Q, cmpE x.e.k x.e.s k s ≠ -1
theorem cut_of (k : ByteArray) (s : Int) : ∀ ns : List Nd, ns.Pairwise ltN → ∃ P Q, Cut k s ns P Q
  | [], _ => ⟨[], [], rfl, by simp, by simp⟩
  | n :: ns, h => by
    rw [List.pairwise_cons] at h
    by_cases hn : cmpE n.e.k n.e.s k s = -1
    · obtain ⟨P, Q, h1, h2, h3⟩ := cut_of k s ns h.2
      exact ⟨n :: P, Q, by rw [h1]; rfl, by simpa using ⟨hn, h2⟩, h3⟩
    · refine ⟨[], n :: ns, rfl, by simp, fun x hx => ?_⟩
      rcases List.mem_cons.1 hx with rfl | hx
      · exact hn
      · exact fun e => hn (cmpE_trans _ _ _ _ _ _ (h.1 x hx) e)
/-- The last one of L that reaches above level i. -/
def IsLast (i : Nat) (L : List Nd) (m : Nd) : Prop := ∃ L1 L2, L = L1 ++ m :: L2 ∧ i < m.l ∧ ∀ x ∈ L2, x.l ≤ i
theorem hd_cons {p : Nat} {P : List Nd} {L1 mid : List Nd} {A : Nd} (h : hd p :: P = L1 ++ A :: mid) : ∀ x ∈ mid, x ∈ P := by
  intro x hx
  cases L1 with
  | nil =>
    simp only [List.nil_append, List.cons.injEq] at h
    rw [h.2]
    exact hx
  | cons b L1 =>
    simp only [List.cons_append, List.cons.injEq] at h
    rw [h.2]
    simp [hx]
theorem idx_at {L L1 r : List Nd} {A : Nd} (h : L = L1 ++ A :: r) (hn : (L.map Nd.a).Nodup) : (L.map Nd.a).idxOf A.a = L1.length := by
  subst h
  rw [List.map_append, List.map_cons] at hn ⊢
  rw [List.idxOf_append, if_neg]
  · simp
  · intro hm
    exact (List.nodup_append.1 hn).2.2 A.a hm A.a (by simp) rfl
end Go.Proofs.YthaalhigmihijabGreat
