/- append onto a row of the call's own, and a store into one, beside other rows: what they are then. -/
import Derived.Test.YtfndlfnlepndmaaGreatO1
namespace Go.Proofs.YtfndlfnlepndmaaGreat
open Go.RowKit

theorem grown_none {w w' : World} {row : Option Nat} (h : w.grownBy w' none) : w.grownBy w' row := ⟨h.os, h.tape, h.output, h.size, fun k hk _ => h.block k hk (by simp)⟩
theorem below_of_grown {B : Nat} {w w' : World} {row : Option Nat} (h : w.grownBy w' row) (hB : B ≤ w.heap.size) (hr : ∀ k, row = some k → B ≤ k) : Below B w w' := (Below.refl _ _).grown h hB hr

section
variable {P : Program} (w : World)
theorem run_append_rows (base : Nat) (t ty e : TypeId) (i : TypeInfo) (z : Value) (size bytes : Nat) (ht : P.underlying t = some (.slice e)) (hi : P.info? e = some i) (hz : i.zero = some z)
    (hsize : i.size = size) (hby : i.bytes = bytes) (hzs : z.cells.size = size) (_ : 0 < size)
    (v : Value) (n : Nat) (xs : List Value) (rs : List Rw) (hown : Own base w (⟨e, size, v, n, xs, none⟩ :: rs))
    (a : Addr) (m c : Nat) (news : List Value) (hl : news.length = m * size) (hnews : ∀ j u, news[j]? = some u → w.cell? (a.add j) = some u) (h1 : ∀ u ∈ news, u.oneCell' = true)
    (hm : 0 < m) (h63 : n + m ≤ maxLen) (hbytes : (n + m) * bytes ≤ 140737488355328) (hbase : base ≤ w.heap.size) :
    ∃ g cap w' old, (Builtin.append_ #[t, t] ty #[v, .slice (some a) m c]).run P w = .ok (.slice (some ⟨g, 0, none⟩) (n + m) cap) w' ∧
      Own base w' (⟨e, size, .slice (some ⟨g, 0, none⟩) (n + m) cap, n + m, xs ++ news, none⟩ :: (old ++ rs)) ∧ Below base w w' ∧ n + m ≤ cap ∧ ((vob v = some g ∧ old = []) ∨ old = [⟨e, size, v, n, xs, none⟩]) := by
  have hrow : Row w e size v n xs := hown.head.row rfl
  obtain ⟨v', w', hr, h2, h3, h4⟩ := run_append_row (P := P) w t t ty e i z size bytes ht hi hz hsize hby hzs v n xs hrow (.slice (some a) m c) m news (Src.ofSlice (P := P) w (size := size) ht a m c news hl hnews h1) h63 hbytes
  have hbel : Below base w w' := below_of_grown h3 hbase (fun k hk => (hown.head.lt k hk).1)
  obtain ⟨g, cap, cur, hv', rest⟩ : ∃ g cap cur, v' = .slice (some ⟨g, 0, none⟩) (n + m) (cap + 1) ∧ w'.heap[g]? = some (.cells cur e (0, 0)) ∧ n + m ≤ cap + 1 ∧ cap + 1 ≤ maxLen ∧ cur.size = (cap + 1) * size ∧ cur.toList.take ((n + m) * size) = xs ++ news := by
    rcases h2.2 with ⟨h0, -⟩ | h
    · omega
    · exact h
  subst hv'
  have hg : vob (.slice (some ⟨g, 0, none⟩) (n + m) (cap + 1)) = some g := rfl
  rcases h4 with h5 | ⟨h5, hg0⟩
  · have hin : vob v = some g := h5.symm
    refine ⟨g, cap + 1, w', [], hr, ?_, hbel, rest.2.1, .inl ⟨hin, rfl⟩⟩
    exact hown.turn h3 (r' := ⟨e, size, .slice (some ⟨g, 0, none⟩) (n + m) (cap + 1), n + m, xs ++ news, none⟩) ⟨h2, fun k hk => by cases hk; exact (hown.head.lt g hin).1⟩ (.inl h5)
  · have hnew : g = w.heap.size := Option.some.inj h5
    refine ⟨g, cap + 1, w', [⟨e, size, v, n, xs, none⟩], hr, ?_, hbel, rest.2.1, .inr rfl⟩
    have hb0 : Below w.heap.size w w' := ⟨hg0.os, hg0.tape, hg0.output, hg0.size, fun k hk => hg0.block k hk (by simp)⟩
    exact Own.new hown hb0 (r := ⟨e, size, .slice (some ⟨g, 0, none⟩) (n + m) (cap + 1), n + m, xs ++ news, none⟩) ⟨h2, fun k hk => by cases hk; exact Nat.le_of_eq hnew.symm⟩ hbase

theorem wpList_append_rows {ops : Array Oper} {rest : List Oper} {o : Oper} {a : Act} {Q : Exit → Act → World → Prop} (hgd : o.guard = none) (s x : Operand) (t : TypeId)
    (ho : o.op = .call { callee := .builtin .append, args := #[s, x], argTypes := #[t, t] })
    (base : Nat) (e : TypeId) (i : TypeInfo) (z : Value) (size bytes : Nat) (ht : P.underlying t = some (.slice e)) (hi : P.info? e = some i) (hz : i.zero = some z)
    (hsize : i.size = size) (hby : i.bytes = bytes) (hzs : z.cells.size = size) (hsz : 0 < size)
    (v : Value) (n : Nat) (xs : List Value) (rs : List Rw) (hs : a.eval s = v) (hown : Own base w (⟨e, size, v, n, xs, none⟩ :: rs))
    (ad : Addr) (m c : Nat) (news : List Value) (hx : a.eval x = .slice (some ad) m c) (hl : news.length = m * size) (hnews : ∀ j u, news[j]? = some u → w.cell? (ad.add j) = some u) (h1 : ∀ u ∈ news, u.oneCell' = true)
    (hm : 0 < m) (h63 : n + m ≤ maxLen) (hbytes : (n + m) * bytes ≤ 140737488355328) (hbase : base ≤ w.heap.size)
    (h : ∀ g cap w' old, Own base w' (⟨e, size, .slice (some ⟨g, 0, none⟩) (n + m) cap, n + m, xs ++ news, none⟩ :: (old ++ rs)) → Below base w w' → n + m ≤ cap → ((vob v = some g ∧ old = []) ∨ old = [⟨e, size, v, n, xs, none⟩]) → wpList P ops Q rest (a.put o.dst (.slice (some ⟨g, 0, none⟩) (n + m) cap)) w') :
    wpList P ops Q (o :: rest) a w := by
  refine wpList_plain hgd fun K hK => ?_
  obtain ⟨g, cap, w', old, hr, h2, h3, h4, h5⟩ := run_append_rows (P := P) w base t o.type e i z size bytes ht hi hz hsize hby hzs hsz v n xs rs hown ad m c news hl hnews h1 hm h63 hbytes hbase
  unfold Oper.wp execOp
  simp only [ho, resolve, invoke, builtin, Sem.run_bind, Sem.run_pure, Result.andThen_ok, List.map_toArray, List.map_cons, List.map_nil, hs, hx, hr]
  exact hK _ _ (h g cap w' old h2 h3 h4 h5)

theorem step_append_rows {ops : Array Oper} {o : Oper} {a : Act} {K : Act → World → Prop} {Q : Exit → Act → World → Prop} {E : Prop}
    (hg : o.guard = none) (s x : Operand) (t : TypeId) (ho : o.op = .call { callee := .builtin .append, args := #[s, x], argTypes := #[t, t] })
    (base : Nat) (e : TypeId) (i : TypeInfo) (z : Value) (size bytes : Nat) (ht : P.underlying t = some (.slice e)) (hi : P.info? e = some i) (hz : i.zero = some z)
    (hsize : i.size = size) (hby : i.bytes = bytes) (hzs : z.cells.size = size) (hsz : 0 < size)
    (v : Value) (n : Nat) (xs : List Value) (rs : List Rw) (hs : a.eval s = v) (hown : Own base w (⟨e, size, v, n, xs, none⟩ :: rs))
    (ad : Addr) (m c : Nat) (news : List Value) (hx : a.eval x = .slice (some ad) m c) (hl : news.length = m * size) (hnews : ∀ j u, news[j]? = some u → w.cell? (ad.add j) = some u) (h1 : ∀ u ∈ news, u.oneCell' = true)
    (hm : 0 < m) (h63 : n + m ≤ maxLen) (hbytes : (n + m) * bytes ≤ 140737488355328) (hbase : base ≤ w.heap.size)
    (h : ∀ g cap w' old, Own base w' (⟨e, size, .slice (some ⟨g, 0, none⟩) (n + m) cap, n + m, xs ++ news, none⟩ :: (old ++ rs)) → Below base w w' → n + m ≤ cap → ((vob v = some g ∧ old = []) ∨ old = [⟨e, size, v, n, xs, none⟩]) → K (a.put o.dst (.slice (some ⟨g, 0, none⟩) (n + m) cap)) w') :
    if Region.wanted o (yielded ops a.tmps) = true then Oper.wp P o a w K Q else E := by
  have hw : Region.wanted o (yielded ops a.tmps) = true := by simp [Region.wanted, hg]
  rw [if_pos hw]
  obtain ⟨g, cap, w', old, hr, h2, h3, h4, h5⟩ := run_append_rows (P := P) w base t o.type e i z size bytes ht hi hz hsize hby hzs hsz v n xs rs hown ad m c news hl hnews h1 hm h63 hbytes hbase
  unfold Oper.wp execOp
  simp only [ho, resolve, invoke, builtin, Sem.run_bind, Sem.run_pure, Result.andThen_ok, List.map_toArray, List.map_cons, List.map_nil, hs, hx, hr]
  exact h g cap w' old h2 h3 h4 h5
end

theorem Own.toFront {B : Nat} {w : World} {A C : List Rw} {r : Rw} (h : Own B w (A ++ r :: C)) : Own B w (r :: (A ++ C)) := h.perm List.perm_middle
theorem Own.fromFront {B : Nat} {w : World} {A C : List Rw} {r : Rw} (h : Own B w (r :: (A ++ C))) : Own B w (A ++ r :: C) := h.perm List.perm_middle.symm
/-- One cell of a row is stored. -/
theorem Own.store {B : Nat} {w : World} {rs : List Rw} {e : TypeId} {size g n cap : Nat} {xs : List Value} (h : Own B w (⟨e, size, .slice (some ⟨g, 0, none⟩) n cap, n, xs, none⟩ :: rs)) (j : Nat) (u : Value) (hn0 : n ≠ 0 := by first | decide | assumption | omega) :
    Own B (w.setCell ⟨g, j, none⟩ u) (⟨e, size, .slice (some ⟨g, 0, none⟩) n cap, n, xs.set j u, none⟩ :: rs) := by
  have hr : Row w e size (.slice (some ⟨g, 0, none⟩) n cap) n xs := h.head.row rfl
  rcases hr.2 with ⟨h0, -⟩ | ⟨g', c, cur, hv, hg, h1, h2, h3, h4⟩
  · exact absurd h0 hn0
  simp only [Value.slice.injEq, Option.some.injEq, Addr.mk.injEq] at hv
  obtain ⟨⟨rfl, -, -⟩, -, rfl⟩ := hv
  refine h.turn (r' := ⟨e, size, .slice (some ⟨g, 0, none⟩) n (c + 1), n, xs.set j u, none⟩) ?_ ⟨⟨by simp [hr.1], .inr ⟨g, c, cur.setIfInBounds j u, rfl, heap_setCell_same w g j cur e u hg, h1, h2, by simp [h3], ?_⟩⟩, fun k hk => by cases hk; exact (h.head.lt g rfl).1⟩ (.inl rfl)
  · exact ⟨rfl, rfl, rfl, by simp, fun k _ hk => heap_setCell_other w ⟨g, j, none⟩ k u (fun e => hk (by rw [e]; rfl))⟩
  · rw [← h4, Array.toList_setIfInBounds, List.take_set]
theorem Rw.ok.full {B : Nat} {w : World} {r : Rw} {g : Nat} (h : r.ok B w) (hr : r.v.ownBlock = some g) (hn : r.n ≠ 0) (h0 : r.ob = none := by rfl) : vob r.v = some g := by
  rcases h.slice h0 with ⟨-, h1, -⟩ | ⟨g', cap, hv, hg, -⟩
  · exact absurd h1 hn
  · rw [hg]
    rw [hv] at hr
    simpa [Value.ownBlock] using hr
theorem Own.ne {B : Nat} {w : World} {rs : List Rw} {r s : Rw} {g k : Nat} (h : Own B w (r :: rs)) (hs : s ∈ rs) (hr : r.v.ownBlock = some g) (hk : s.v.ownBlock = some k) (hrn : r.n ≠ 0) (hsn : s.n ≠ 0) (h0 : r.ob = none := by rfl) (h1 : s.ob = none := by rfl) : g ≠ k := by
  have := (List.pairwise_cons.1 h.2).1 s hs
  unfold Rw.off at this
  rw [h.head.full hr hrn h0, (h.1 s (List.mem_cons_of_mem _ hs)).full hk hsn h1] at this
  rcases this with h | h
  · cases h
  · exact fun e => h (by rw [e])
end Go.Proofs.YtfndlfnlepndmaaGreat
