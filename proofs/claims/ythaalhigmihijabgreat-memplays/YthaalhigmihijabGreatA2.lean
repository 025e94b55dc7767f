/- append onto a row of the call's own, and a store into one, beside other rows: what they are then. -/
import Derived.Test.YthaalhigmihijabGreatA1
namespace Go.Proofs.YthaalhigmihijabGreat
open Go.RowKit

theorem grown_none {w w' : World} {row : Option Nat} (h : w.grownBy w' none) : w.grownBy w' row := ⟨h.os, h.tape, h.output, h.size, fun k hk _ => h.block k hk (by simp)⟩
theorem below_of_grown {B : Nat} {w w' : World} {row : Option Nat} (h : w.grownBy w' row) (hB : B ≤ w.heap.size) (hr : ∀ k, row = some k → B ≤ k) : Below B w w' := (Below.refl _ _).grown h hB hr

section
variable {P : Program} (w : World)
theorem run_append_rows (base : Nat) (t ty e : TypeId) (i : TypeInfo) (z : Value) (size bytes : Nat) (ht : P.underlying t = some (.slice e)) (hi : P.info? e = some i) (hz : i.zero = some z)
    (hsize : i.size = size) (hby : i.bytes = bytes) (hzs : z.cells.size = size) (hsz : 0 < size)
    (v : Value) (n : Nat) (xs : List Value) (rs : List Rw) (hown : Own base w (⟨e, size, v, n, xs, none⟩ :: rs))
    (a : Addr) (m c : Nat) (news : List Value) (hl : news.length = m * size) (hnews : ∀ j u, news[j]? = some u → w.cell? (a.add j) = some u) (h1 : ∀ u ∈ news, u.oneCell' = true)
    (hm : 0 < m) (h63 : n + m ≤ maxLen) (hbytes : (n + m) * bytes ≤ 140737488355328) (hbase : base ≤ w.heap.size) :
    ∃ g cap w' old, (Builtin.append_ #[t, t] ty #[v, .slice (some a) m c]).run P w = .ok (.slice (some ⟨g, 0, none⟩) (n + m) cap) w' ∧
      Own base w' (⟨e, size, .slice (some ⟨g, 0, none⟩) (n + m) cap, n + m, xs ++ news, none⟩ :: (old ++ rs)) ∧ Below base w w' ∧ n + m ≤ cap ∧ ((v.ownBlock = some g ∧ old = []) ∨ old = [⟨e, size, v, n, xs, none⟩]) := by
  have hrow : w.ownsRow base e size v n xs := hown.head
  obtain ⟨v', w', hr, h2, h3, h4, h5⟩ := run_append_own_at (P := P) w base t ty e i z size bytes ht hi hz hsize hby hzs hsz v n xs hrow a m c news hl hnews h1 h63 hbytes hbase
  have hbel : Below base w w' := below_of_grown h3 hbase (fun k hk => (hrow.lt k hk).1)
  have hr2 : Rw.ok base w' ⟨e, size, v', n + m, xs ++ news, none⟩ := h2
  rcases hr2.slice with ⟨hv, hn, -⟩ | ⟨g, cap, hv, hg, -, hgl, hcap⟩
  · exact absurd hn (by show ¬ n + m = 0; omega)
  · have hv' : v' = .slice (some ⟨g, 0, none⟩) (n + m) cap := hv
    subst hv'
    by_cases hin : v.ownBlock = some g
    · refine ⟨g, cap, w', [], hr, ?_, hbel, hcap, .inl ⟨hin, rfl⟩⟩
      exact hown.turn h3 hr2 (.inl hin.symm)
    · have hnew : g = w.heap.size := by
        rcases h5 with h5 | h5
        · exact absurd h5.symm hin
        · simpa [Value.ownBlock] using h5
      have hg0 : w.grownBy w' none := by
        rcases hrow.2 with ⟨rfl, -⟩ | ⟨g', cap', cur, rfl, hbg, hgg, hnc, hcm, hcs, htake⟩
        · exact h3
        · by_cases hroom : n + m ≤ cap'
          · subst hsize
            have hfit : n * i.size + news.length ≤ cur.size := by rw [hl, hcs, ← Nat.add_mul]; exact Nat.mul_le_mul_right _ hroom
            have hq := run_append_room (P := P) w t ty e i ht hi g' n cap' cur hgg a m c news hl hnews h1 hroom hfit
            rw [hr] at hq
            have hq1 := (Result.ok.inj hq).1
            simp only [Value.slice.injEq, Option.some.injEq, Addr.mk.injEq] at hq1
            exact absurd (by simp [Value.ownBlock, hq1.1.1]) hin
          · subst hsize
            subst hby
            have holds := hrow.cells (g := g') rfl
            have hq := run_append_grow (P := P) w t ty e i z ht hi hz ⟨g', 0, none⟩ n cap' xs hrow.1 holds a m c news hl hnews (by omega) (by simp only [maxLen] at h63; omega) (growslice_fits (by omega) hbytes)
            rw [hr] at hq
            have hq1 := (Result.ok.inj hq).2
            rw [hq1]
            exact ⟨rfl, rfl, rfl, by simp, fun k hk _ => Below.heap_alloc w.drew _ k hk⟩
      refine ⟨g, cap, w', [⟨e, size, v, n, xs, none⟩], hr, ?_, hbel, hcap, .inr rfl⟩
      have hb0 : Below w.heap.size w w' := ⟨hg0.os, hg0.tape, hg0.output, hg0.size, fun k hk => hg0.block k hk (by simp)⟩
      refine Own.new hown hb0 ?_ hbase
      refine ⟨h2.1, ?_⟩
      rcases h2.2 with hn | ⟨g2, cap2, cur2, hv2, -, rest⟩
      · exact .inl hn
      · refine .inr ⟨g2, cap2, cur2, hv2, ?_, rest⟩
        simp only [Value.slice.injEq, Option.some.injEq, Addr.mk.injEq] at hv2
        omega

theorem wpList_append_rows {ops : Array Oper} {rest : List Oper} {o : Oper} {a : Act} {Q : Exit → Act → World → Prop} (hgd : o.guard = none) (s x : Operand) (t : TypeId)
    (ho : o.op = .call { callee := .builtin .append, args := #[s, x], argTypes := #[t, t] })
    (base : Nat) (e : TypeId) (i : TypeInfo) (z : Value) (size bytes : Nat) (ht : P.underlying t = some (.slice e)) (hi : P.info? e = some i) (hz : i.zero = some z)
    (hsize : i.size = size) (hby : i.bytes = bytes) (hzs : z.cells.size = size) (hsz : 0 < size)
    (v : Value) (n : Nat) (xs : List Value) (rs : List Rw) (hs : a.eval s = v) (hown : Own base w (⟨e, size, v, n, xs, none⟩ :: rs))
    (ad : Addr) (m c : Nat) (news : List Value) (hx : a.eval x = .slice (some ad) m c) (hl : news.length = m * size) (hnews : ∀ j u, news[j]? = some u → w.cell? (ad.add j) = some u) (h1 : ∀ u ∈ news, u.oneCell' = true)
    (hm : 0 < m) (h63 : n + m ≤ maxLen) (hbytes : (n + m) * bytes ≤ 140737488355328) (hbase : base ≤ w.heap.size)
    (h : ∀ g cap w' old, Own base w' (⟨e, size, .slice (some ⟨g, 0, none⟩) (n + m) cap, n + m, xs ++ news, none⟩ :: (old ++ rs)) → Below base w w' → n + m ≤ cap → ((v.ownBlock = some g ∧ old = []) ∨ old = [⟨e, size, v, n, xs, none⟩]) → wpList P ops Q rest (a.put o.dst (.slice (some ⟨g, 0, none⟩) (n + m) cap)) w') :
    wpList P ops Q (o :: rest) a w := by
  refine wpList_plain hgd fun K hK => ?_
  obtain ⟨g, cap, w', old, hr, h2, h3, h4, h5⟩ := run_append_rows (P := P) w base t o.type e i z size bytes ht hi hz hsize hby hzs hsz v n xs rs hown ad m c news hl hnews h1 hm h63 hbytes hbase
  unfold Oper.wp execOp
  simp only [ho, resolve, invoke, builtin, Sem.run_bind, Sem.run_pure, Result.andThen_ok, List.map_toArray, List.map_cons, List.map_nil, hs, hx, hr]
  exact hK _ _ (h g cap w' old h2 h3 h4 h5)

theorem step_append_rows {ops : Array Oper} {o : Oper} {a : Act} {K : Act → World → Prop} {Q : Exit → Act → World → Prop} {E : Prop}
    (hg : o.guard = none) (s x : Operand) (t : TypeId) (ho : o.op = .call { callee := .builtin .append, args := #[s, x], argTypes := #[t, t] })
    (base : Nat) (e : TypeId) (i : TypeInfo) (z : Value) (size bytes : Nat) (ht : P.underlying t = some (.slice e)) (hi : P.info? e = some i) (hz : i.zero = some z)
    (hsize : i.size = size) (hby : i.bytes = bytes) (hzs : z.cells.size = size) (hsz : 0 < size)
    (v : Value) (n : Nat) (xs : List Value) (rs : List Rw) (hs : a.eval s = v) (hown : Own base w (⟨e, size, v, n, xs, none⟩ :: rs))
    (ad : Addr) (m c : Nat) (news : List Value) (hx : a.eval x = .slice (some ad) m c) (hl : news.length = m * size) (hnews : ∀ j u, news[j]? = some u → w.cell? (ad.add j) = some u) (h1 : ∀ u ∈ news, u.oneCell' = true)
    (hm : 0 < m) (h63 : n + m ≤ maxLen) (hbytes : (n + m) * bytes ≤ 140737488355328) (hbase : base ≤ w.heap.size)
    (h : ∀ g cap w' old, Own base w' (⟨e, size, .slice (some ⟨g, 0, none⟩) (n + m) cap, n + m, xs ++ news, none⟩ :: (old ++ rs)) → Below base w w' → n + m ≤ cap → ((v.ownBlock = some g ∧ old = []) ∨ old = [⟨e, size, v, n, xs, none⟩]) → K (a.put o.dst (.slice (some ⟨g, 0, none⟩) (n + m) cap)) w') :
    if Region.wanted o (yielded ops a.tmps) = true then Oper.wp P o a w K Q else E := by
  have hw : Region.wanted o (yielded ops a.tmps) = true := by simp [Region.wanted, hg]
  rw [if_pos hw]
  obtain ⟨g, cap, w', old, hr, h2, h3, h4, h5⟩ := run_append_rows (P := P) w base t o.type e i z size bytes ht hi hz hsize hby hzs hsz v n xs rs hown ad m c news hl hnews h1 hm h63 hbytes hbase
  unfold Oper.wp execOp
  simp only [ho, resolve, invoke, builtin, Sem.run_bind, Sem.run_pure, Result.andThen_ok, List.map_toArray, List.map_cons, List.map_nil, hs, hx, hr]
  exact h g cap w' old h2 h3 h4 h5
end

theorem Own.toFront {B : Nat} {w : World} {A C : List Rw} {r : Rw} (h : Own B w (A ++ r :: C)) : Own B w (r :: (A ++ C)) := h.perm List.perm_middle
theorem Own.fromFront {B : Nat} {w : World} {A C : List Rw} {r : Rw} (h : Own B w (r :: (A ++ C))) : Own B w (A ++ r :: C) := h.perm List.perm_middle.symm
/-- One cell of a row is stored. -/
theorem Own.store {B : Nat} {w : World} {rs : List Rw} {e : TypeId} {size g n cap : Nat} {xs : List Value} (h : Own B w (⟨e, size, .slice (some ⟨g, 0, none⟩) n cap, n, xs, none⟩ :: rs)) (j : Nat) (u : Value) :
    Own B (w.setCell ⟨g, j, none⟩ u) (⟨e, size, .slice (some ⟨g, 0, none⟩) n cap, n, xs.set j u, none⟩ :: rs) := by
  have hr : w.ownsRow B e size (.slice (some ⟨g, 0, none⟩) n cap) n xs := h.head
  have hst := hr.stored j u
  exact h.turn (r' := ⟨e, size, .slice (some ⟨g, 0, none⟩) n cap, n, xs.set j u, none⟩) hst.2 hst.1 (.inl rfl)
theorem Own.ne {B : Nat} {w : World} {rs : List Rw} {r s : Rw} {g k : Nat} (h : Own B w (r :: rs)) (hs : s ∈ rs) (hr : r.v.ownBlock = some g) (hk : s.v.ownBlock = some k) : g ≠ k := by
  have := (List.pairwise_cons.1 h.2).1 s hs
  unfold Rw.off at this
  rw [hr, hk] at this
  rcases this with h | h
  · cases h
  · exact fun e => h (by rw [e])
end Go.Proofs.YthaalhigmihijabGreat
