/- A row of a call's own (a slice's array), also one that has no room; append onto it, from whatever source. -/
import Derived.Test.YtfndlfnlepndmaaGreatFT
import Derived.Deep.AppendSrc
import Derived.Maps.AppendAt
import Derived.OwnWalk
namespace Go.Proofs.YtfndlfnlepndmaaGreat
open Go.RowKit

/-- The block that a slice may write: none, if it has no room. -/
def ob : Value → Option Nat
  | .slice (some a) _ (_ + 1) => some a.block
  | _ => none
def Row (w : World) (e : TypeId) (size : Nat) (v : Value) (n : Nat) (xs : List Value) : Prop :=
  xs.length = n * size ∧
  ((n = 0 ∧ (v = .slice none 0 0 ∨ ∃ b o, v = .slice (some ⟨b, o, none⟩) 0 0)) ∨
   ∃ g cap cur, v = .slice (some ⟨g, 0, none⟩) n (cap + 1) ∧ w.heap[g]? = some (.cells cur e (0, 0)) ∧ n ≤ cap + 1 ∧ cap + 1 ≤ maxLen ∧ cur.size = (cap + 1) * size ∧ cur.toList.take (n * size) = xs)

section
variable {w : World} {e : TypeId} {size : Nat} {v : Value} {n : Nat} {xs : List Value}
theorem row_nil (w : World) (e : TypeId) (size : Nat) : Row w e size (.slice none 0 0) 0 [] := ⟨by simp, .inl ⟨rfl, .inl rfl⟩⟩
theorem Row.lt (h : Row w e size v n xs) : ∀ k, ob v = some k → k < w.heap.size := by
  intro k hk
  rcases h.2 with ⟨-, rfl | ⟨b, o, rfl⟩⟩ | ⟨g, cap, cur, rfl, hg, -⟩
  · simp [ob] at hk
  · simp [ob] at hk
  · simp [ob] at hk
    subst hk
    exact (Array.getElem?_eq_some_iff.1 hg).1
theorem Row.kept {w' : World} (h : Row w e size v n xs) (hk : ∀ k, ob v = some k → w'.heap[k]? = w.heap[k]?) : Row w' e size v n xs := by
  refine ⟨h.1, ?_⟩
  rcases h.2 with hn | ⟨g, cap, cur, rfl, hgg, rest⟩
  · exact .inl hn
  · exact .inr ⟨g, cap, cur, rfl, (hk g rfl).trans hgg, rest⟩
theorem Row.le (h : Row w e size v n xs) : ∃ a cap, v = .slice a n cap ∧ n ≤ cap ∧ cap ≤ maxLen := by
  rcases h.2 with ⟨rfl, rfl | ⟨b, o, rfl⟩⟩ | ⟨g, cap, cur, rfl, -, h1, h2, -⟩
  · exact ⟨_, _, rfl, Nat.le_refl _, Nat.zero_le _⟩
  · exact ⟨_, _, rfl, Nat.le_refl _, Nat.zero_le _⟩
  · exact ⟨_, _, rfl, h1, h2⟩
/-- Its cells, read. -/
theorem Row.cell (h : Row w e size v n xs) : ∀ g o c, v = .slice (some ⟨g, o, none⟩) n c → ∀ j u, xs[j]? = some u → w.cell? ⟨g, o + j, none⟩ = some u := by
  intro g o c hv j u hu
  rcases h.2 with ⟨rfl, rfl | ⟨b, o', rfl⟩⟩ | ⟨g', cap, cur, rfl, hgg, h1, h2, h3, h4⟩
  · cases hv
  · have := h.1
    rw [Nat.zero_mul] at this
    rw [List.eq_nil_of_length_eq_zero this] at hu
    cases hu
  · simp only [Value.slice.injEq, Option.some.injEq, Addr.mk.injEq] at hv
    obtain ⟨⟨rfl, rfl, -⟩, -⟩ := hv
    rw [Nat.zero_add, cell_of_row w g' j cur e (0, 0) hgg]
    rw [← h4, List.getElem?_take] at hu
    split at hu
    · simpa using hu
    · cases hu
/-- Its first elements alone. -/
theorem Row.cut (h : Row w e size v n xs) (m : Nat) (hm : m ≤ n) {a : Option Addr} {c : Nat} (hv : v = .slice a n c) : Row w e size (.slice a m c) m (xs.take (m * size)) := by
  have hms : m * size ≤ n * size := Nat.mul_le_mul_right _ hm
  refine ⟨by rw [List.length_take, h.1]; omega, ?_⟩
  rcases h.2 with ⟨rfl, rfl | ⟨b, o', rfl⟩⟩ | ⟨g', cap, cur, rfl, hgg, h1, h2, h3, h4⟩
  · cases hv
    obtain rfl : m = 0 := by omega
    exact .inl ⟨rfl, .inl rfl⟩
  · cases hv
    obtain rfl : m = 0 := by omega
    exact .inl ⟨rfl, .inr ⟨_, _, rfl⟩⟩
  · cases hv
    refine .inr ⟨g', cap, cur, rfl, hgg, by omega, h2, h3, ?_⟩
    rw [← h4, List.take_take, Nat.min_eq_left hms]
/-- A new row. -/
theorem row_made (w : World) (cur : Array Value) (n cap : Nat) (hn : n ≤ cap + 1) (hm : cap + 1 ≤ maxLen) (hs : cur.size = (cap + 1) * size) :
    Row (w.alloc (.cells cur e)) e size (.slice (some ⟨w.heap.size, 0, none⟩) n (cap + 1)) n (cur.toList.take (n * size)) := by
  have : n * size ≤ (cap + 1) * size := Nat.mul_le_mul_right _ hn
  refine ⟨by rw [List.length_take, Array.length_toList, hs]; omega, .inr ⟨w.heap.size, cap, cur, rfl, heap_alloc_new w _, hn, hm, hs, rfl⟩⟩
end

section
variable {P : Program} (w : World)
theorem setCells_heap (b : Nat) : ∀ (vs : List Value) (o : Nat) (w : World) (cur : Array Value) (e : TypeId), w.heap[b]? = some (.cells cur e (0, 0)) → o + vs.length ≤ cur.size →
    (w.setCells b o vs).heap[b]? = some (.cells (cur.toList.take o ++ vs ++ cur.toList.drop (o + vs.length)).toArray e (0, 0)) := by
  intro vs o w cur e hb hl
  induction vs generalizing o w cur with
  | nil =>
    simp [World.setCells, hb]
  | cons v vs ih =>
    simp only [List.length_cons] at hl
    show ((w.setCell ⟨b, o, none⟩ v).setCells b (o + 1) vs).heap[b]? = _
    have h1 := heap_setCell_same w b o cur e v hb
    rw [ih (o + 1) _ _ h1 (by simp; omega)]
    congr 3
    rw [Array.setIfInBounds_def, dif_pos (by omega)]
    simp only [Array.toList_set]
    rw [List.take_succ_eq_append_getElem (by simp; omega)]
    simp only [List.take_set_of_le (Nat.le_refl o), List.getElem_set_self]
    rw [List.drop_set_of_lt (by omega)]
    simp [Nat.add_comm, Nat.add_left_comm]
theorem setCells_other (b : Nat) : ∀ (vs : List Value) (o : Nat) (w : World) (k : Nat), k ≠ b → (w.setCells b o vs).heap[k]? = w.heap[k]? := by
  intro vs
  induction vs with
  | nil => intro o w k _; rfl
  | cons v vs ih =>
    intro o w k hk
    show ((w.setCell ⟨b, o, none⟩ v).setCells b (o + 1) vs).heap[k]? = _
    rw [ih _ _ _ hk]
    exact heap_setCell_other w ⟨b, o, none⟩ k v hk
theorem setCells_grown (b : Nat) : ∀ (vs : List Value) (o : Nat) (w : World), w.grownBy (w.setCells b o vs) (some b) := by
  intro vs o w
  have h : ∀ (vs : List Value) (o : Nat) (w : World), (w.setCells b o vs).os = w.os ∧ (w.setCells b o vs).tape = w.tape ∧ (w.setCells b o vs).output = w.output ∧ (w.setCells b o vs).heap.size = w.heap.size := by
    intro vs
    induction vs with
    | nil => intro o w; exact ⟨rfl, rfl, rfl, rfl⟩
    | cons v vs ih =>
      intro o w
      obtain ⟨h1, h2, h3, h4⟩ := ih (o + 1) (w.setCell ⟨b, o, none⟩ v)
      exact ⟨h1, h2, h3, h4.trans (by simp)⟩
  obtain ⟨h1, h2, h3, h4⟩ := h vs o w
  exact ⟨h1, h2, h3, Nat.le_of_eq h4.symm, fun k _ hk => setCells_other b vs o w k (fun e => hk (by rw [e]))⟩

theorem run_append_row (t tx ty e : TypeId) (i : TypeInfo) (z : Value) (size bytes : Nat) (ht : P.underlying t = some (.slice e)) (hi : P.info? e = some i) (hz : i.zero = some z)
    (hsize : i.size = size) (hby : i.bytes = bytes) (hzs : z.cells.size = size)
    (v : Value) (n : Nat) (xs : List Value) (hown : Row w e size v n xs) (x : Value) (m : Nat) (news : List Value) (hs : Src P size tx x m news w)
    (h63 : n + m ≤ maxLen) (hbytes : (n + m) * bytes ≤ 140737488355328) :
    ∃ v' w', (Builtin.append_ #[t, tx] ty #[v, x]).run P w = .ok v' w' ∧ Row w' e size v' (n + m) (xs ++ news) ∧ w.grownBy w' (ob v) ∧ (ob v' = ob v ∨ (ob v' = some w.heap.size ∧ w.grownBy w' none)) := by
  subst hsize
  subst hby
  have hk := hs.kind
  obtain ⟨a, cap, hv, hnc, hcm⟩ := hown.le
  have hold : (Builtin.firstCells i.size n (.slice a n cap)).run P w.drew = .ok xs.toArray w.drew := by
    rcases hown.2 with ⟨rfl, rfl | ⟨b, o, rfl⟩⟩ | ⟨g, cap', cur, rfl, -⟩
    · cases hv
      have := hown.1
      rw [Nat.zero_mul] at this
      rw [List.eq_nil_of_length_eq_zero this]
      exact run_firstCells_none w.drew i.size 0 0 0
    · cases hv
      exact run_firstCells_some w.drew i.size 0 _ 0 0 xs hown.1 (fun j u hu => by
        have := hown.1
        rw [Nat.zero_mul] at this
        rw [List.eq_nil_of_length_eq_zero this] at hu
        cases hu)
    · cases hv
      refine run_firstCells_some w.drew i.size n _ n _ xs hown.1 (fun j u hu => ?_)
      have hadd : (⟨g, 0, none⟩ : Addr).add j = ⟨g, 0 + j, none⟩ := by unfold Addr.add; split <;> simp_all
      rw [hadd]
      exact hown.cell g 0 _ rfl j u hu
  by_cases hroom : n + m ≤ cap
  · rcases hown.2 with ⟨rfl, hd⟩ | ⟨g, cap', cur, rfl, hgg, h1, h2, h3, h4⟩
    · have hm0 : m = 0 := by
        rcases hd with rfl | ⟨b, o, rfl⟩ <;> (cases hv; omega)
      subst hm0
      have hn0 : news = [] := List.eq_nil_of_length_eq_zero (by have := hs.newsLen; rwa [Nat.zero_mul] at this)
      subst hn0
      refine ⟨v, w, ?_, by simpa using hown, ⟨rfl, rfl, rfl, Nat.le_refl _, fun _ _ _ => rfl⟩, .inl rfl⟩
      rcases hd with rfl | ⟨b, o, rfl⟩
      · rcases hk with ⟨e', hk⟩ | hk <;> simp [Builtin.append_, run_underlying ht, run_underlying hk, sizeOf, typeInfo, hi, hs.len, hs.cells]
      · have hr := run_append_room_src (P := P) w t tx ty e i ht hi b o 0 0 x 0 [] hs (Nat.le_refl _) (by simp) (by simp)
        simpa [World.setCells] using hr
    · cases hv
      have hfit : n * i.size + news.length ≤ cur.size := by rw [hs.newsLen, h3, ← Nat.add_mul]; exact Nat.mul_le_mul_right _ hroom
      have hr := run_append_room_src (P := P) w t tx ty e i ht hi g 0 n (cap' + 1) x m news hs hroom
        (fun j hj => by
          rw [cell_of_row w g _ cur e (0, 0) hgg]
          simp
          omega)
        (fun j hj => by simp [World.frozen?, hgg])
      rw [Nat.zero_add] at hr
      have hset := setCells_heap g news (n * i.size) w cur e hgg hfit
      refine ⟨_, _, hr, ⟨by rw [List.length_append, hown.1, hs.newsLen, ← Nat.add_mul], .inr ⟨g, cap', _, rfl, hset, hroom, h2, ?_, ?_⟩⟩, setCells_grown g news _ w, .inl rfl⟩
      · simp
        omega
      · rw [List.toList_toArray, ← h4]
        rw [Nat.add_mul, ← hs.newsLen]
        exact List.take_left' (by simp; omega)
  · have hr := run_append_grow_src (P := P) w t tx ty e i z ht hi hz a n cap xs hold x m news hs (by omega) (by simp only [maxLen] at h63; omega) (growslice_fits (by omega) hbytes)
    have hge := grownCap_ge w (n + m) cap e
    have hle := grownCap_le_maxLen w (n + m) cap e h63
    generalize grownCap w (n + m) cap e = gc at hr hge hle
    obtain ⟨c', rfl⟩ : ∃ c', gc = c' + 1 := ⟨gc - 1, by omega⟩
    have hlen : (xs ++ news).length = (n + m) * i.size := by rw [List.length_append, hown.1, hs.newsLen, ← Nat.add_mul]
    have hrow := row_made (e := e) (size := i.size) w.drew ((xs ++ news).toArray ++ Builtin.zeroCells z.cells (c' + 1 - (n + m))) (n + m) c' hge hle (by
      rw [Array.size_append, size_zeroCells, hzs, List.size_toArray, hlen, ← Nat.add_mul]
      congr 1
      omega)
    have hg0 : w.grownBy (w.drew.alloc (.cells ((xs ++ news).toArray ++ Builtin.zeroCells z.cells (c' + 1 - (n + m))) e)) none :=
      ⟨rfl, rfl, rfl, by simp, fun k hk _ => Below.heap_alloc w.drew _ k hk⟩
    rw [hv]
    refine ⟨_, _, hr, ?_, ⟨hg0.os, hg0.tape, hg0.output, hg0.size, fun k hk _ => hg0.block k hk (by simp)⟩, .inr ⟨rfl, hg0⟩⟩
    have he : (((xs ++ news).toArray ++ Builtin.zeroCells z.cells (c' + 1 - (n + m))).toList.take ((n + m) * i.size)) = xs ++ news := by
      rw [Array.toList_append, List.toList_toArray]
      exact List.take_left' hlen
    rw [he] at hrow
    exact hrow

theorem wpList_append_row {ops : Array Oper} {rest : List Oper} {o : Oper} {a : Act} {Q : Exit → Act → World → Prop} (hgd : o.guard = none) (s x : Operand) (t tx : TypeId)
    (ho : o.op = .call { callee := .builtin .append, args := #[s, x], argTypes := #[t, tx] })
    (e : TypeId) (i : TypeInfo) (z : Value) (size bytes : Nat) (ht : P.underlying t = some (.slice e)) (hi : P.info? e = some i) (hz : i.zero = some z)
    (hsize : i.size = size) (hby : i.bytes = bytes) (hzs : z.cells.size = size)
    (v : Value) (n : Nat) (xs : List Value) (hv : a.eval s = v) (hown : Row w e size v n xs) (xv : Value) (hx : a.eval x = xv) (m : Nat) (news : List Value) (hs : Src P size tx xv m news w)
    (h63 : n + m ≤ maxLen) (hbytes : (n + m) * bytes ≤ 140737488355328)
    (h : ∀ v' w', Row w' e size v' (n + m) (xs ++ news) → w.grownBy w' (ob v) → (ob v' = ob v ∨ (ob v' = some w.heap.size ∧ w.grownBy w' none)) → wpList P ops Q rest (a.put o.dst v') w') :
    wpList P ops Q (o :: rest) a w := by
  refine wpList_plain hgd fun K hK => ?_
  obtain ⟨v', w', hr, h2, h3, h4⟩ := run_append_row (P := P) w t tx o.type e i z size bytes ht hi hz hsize hby hzs v n xs hown xv m news hs h63 hbytes
  unfold Oper.wp execOp
  simp only [ho, resolve, invoke, builtin, Sem.run_bind, Sem.run_pure, Result.andThen_ok, List.map_toArray, List.map_cons, List.map_nil, hv, hx, hr]
  exact hK _ _ (h v' w' h2 h3 h4)
theorem step_append_row {ops : Array Oper} {o : Oper} {a : Act} {K : Act → World → Prop} {Q : Exit → Act → World → Prop} {E : Prop}
    (hg : o.guard = none) (s x : Operand) (t tx : TypeId) (ho : o.op = .call { callee := .builtin .append, args := #[s, x], argTypes := #[t, tx] })
    (e : TypeId) (i : TypeInfo) (z : Value) (size bytes : Nat) (ht : P.underlying t = some (.slice e)) (hi : P.info? e = some i) (hz : i.zero = some z)
    (hsize : i.size = size) (hby : i.bytes = bytes) (hzs : z.cells.size = size)
    (v : Value) (n : Nat) (xs : List Value) (hv : a.eval s = v) (hown : Row w e size v n xs) (xv : Value) (hx : a.eval x = xv) (m : Nat) (news : List Value) (hs : Src P size tx xv m news w)
    (h63 : n + m ≤ maxLen) (hbytes : (n + m) * bytes ≤ 140737488355328)
    (h : ∀ v' w', Row w' e size v' (n + m) (xs ++ news) → w.grownBy w' (ob v) → (ob v' = ob v ∨ (ob v' = some w.heap.size ∧ w.grownBy w' none)) → K (a.put o.dst v') w') :
    if Region.wanted o (yielded ops a.tmps) = true then Oper.wp P o a w K Q else E := by
  have hw : Region.wanted o (yielded ops a.tmps) = true := by simp [Region.wanted, hg]
  rw [if_pos hw]
  obtain ⟨v', w', hr, h2, h3, h4⟩ := run_append_row (P := P) w t tx o.type e i z size bytes ht hi hz hsize hby hzs v n xs hown xv m news hs h63 hbytes
  unfold Oper.wp execOp
  simp only [ho, resolve, invoke, builtin, Sem.run_bind, Sem.run_pure, Result.andThen_ok, List.map_toArray, List.map_cons, List.map_nil, hv, hx, hr]
  exact h v' w' h2 h3 h4
end
end Go.Proofs.YtfndlfnlepndmaaGreat
