/- merge.Latest. -/
import Derived.Test.YtcbailiniigcnaaGreatHT4
namespace Go.Proofs.YtcbailiniigcnaaGreat
open Go.RowKit Go.Shelf Go.Lib

attribute [local go_sem] Oper.semAt_some

theorem latS_snoc14 (seq : Int) (e : Ent) : ∀ (l : List Ent) (p : Option Ent), latS seq p (l ++ [e]) = latS seq p l ++ (if hideB seq (l.getLast?.or p) e = true then [] else [(e.k, e.v)])
  | [], p => by
    rw [List.nil_append, latS_cons, show latS seq (some e) [] = [] from rfl, show latS seq p [] = [] from rfl, List.append_nil, List.nil_append]
    rfl
  | x :: r, p => by
    rw [List.cons_append, latS_cons, latS_cons, latS_snoc14 seq e r (some x), List.append_assoc]
    congr 2
    cases r with
    | nil => rfl
    | cons y r =>
      rw [show (x :: y :: r).getLast? = (y :: r).getLast? by simp]
      have : ∃ z, (y :: r).getLast? = some z := ⟨_, List.getLast?_eq_some_getLast (by simp)⟩
      obtain ⟨z, hz⟩ := this
      rw [hz]
      rfl
theorem latE_snoc14 (seq : Int) (e : Ent) (l : List Ent) : latE seq (l ++ [e]) = latE seq l ++ (if hideB seq l.getLast? e = true then [] else [(e.k, e.v)]) := by
  unfold latE
  rw [latS_snoc14]
  simp
/-- Of which key it is known what is there. -/
def KnI (seq : Int) (pre : List Ent) (ik : Bool) (kk : ByteArray) : Prop := (ik = true → ∃ z ∈ pre, z.k = kk ∧ z.s ≤ seq) ∧ ∀ y, pre.getLast? = some y → y.s ≤ seq → ik = true ∧ kk = y.k
theorem knI_nil (seq : Int) : KnI seq [] false ⟨#[]⟩ := ⟨fun h => (by cases h), fun y h => (by simp at h)⟩
theorem KnI.hide {seq : Int} {pre : List Ent} {ik : Bool} {kk : ByteArray} (h : KnI seq pre ik kk) {e : Ent} (hs : (pre ++ [e]).Pairwise ltE) (he : e.s ≤ seq) : hideB seq pre.getLast? e = ((ik && decide (e.k = kk)) || decide (e.n = 2)) := by
  have h0 : decide (seq < e.s) = false := by simp; omega
  unfold hideB
  rw [h0, Bool.false_or]
  congr 1
  have hlt := (List.pairwise_append.1 hs).2.2
  cases hl : pre.getLast? with
  | none =>
    have : pre = [] := by simpa using hl
    subst this
    cases ik with
    | false => rfl
    | true =>
      obtain ⟨z, hz, -⟩ := h.1 rfl
      cases hz
  | some y =>
    have hy : y ∈ pre := List.mem_of_getLast? hl
    by_cases c : y.k = e.k ∧ y.s ≤ seq
    · obtain ⟨h1, h2⟩ := h.2 y hl c.2
      rw [h1, h2]
      simp [c.1, c.2]
    · have hr : ¬ (ik = true ∧ e.k = kk) := by
        rintro ⟨h1, h2⟩
        obtain ⟨z, hz, hzk, hzs⟩ := h.1 h1
        apply c
        have hzk2 : z.k = e.k := hzk.trans h2.symm
        by_cases hzy : z = y
        · subst hzy
          exact ⟨hzk2, hzs⟩
        · have hzl : ltE z y := by
            obtain ⟨q, rfl⟩ : ∃ q, pre = q ++ [y] := ⟨pre.dropLast, by
              have h3 := List.dropLast_concat_getLast (l := pre) (by intro e0; subst e0; cases hy)
              have h4 : pre.getLast (by intro e0; subst e0; cases hy) = y := by
                rw [List.getLast?_eq_some_getLast (by intro e0; subst e0; cases hy)] at hl
                exact Option.some.inj hl
              rw [h4] at h3
              exact h3.symm⟩
            rcases List.mem_append.1 hz with hz | hz
            · exact (List.pairwise_append.1 (List.pairwise_append.1 hs).1).2.2 z hz y (by simp)
            · simp at hz
              exact absurd hz hzy
          have hyk := ltE_near hzl (hlt y hy e (by simp)) hzk2
          exact ⟨hyk, by have := ltE_fall hzl (hzk2.trans hyk.symm); omega⟩
      have e1 : (decide (y.k = e.k) && decide (y.s ≤ seq)) = false := by
        rw [Bool.eq_false_iff]
        intro e1
        simp only [Bool.and_eq_true, decide_eq_true_eq] at e1
        exact c e1
      have e2 : (ik && decide (e.k = kk)) = false := by
        rw [Bool.eq_false_iff]
        intro e2
        simp only [Bool.and_eq_true, decide_eq_true_eq] at e2
        exact hr e2
      rw [e2]
      exact e1
theorem infoQ14L : (Tryz.prog.info? 58).map (fun i => (i.zero, i.size, i.bytes)) = some (some (.agg #[.string ⟨#[]⟩, .string ⟨#[]⟩]), 2, 32) := by kernel_rfl
theorem toList_no {x y : ByteArray} (h : ¬ x = y) : (x.toList == y.toList) = false := by
  rw [beq_eq_false_iff_ne]
  intro e
  rw [ByteArray.toList_eq, ByteArray.toList_eq] at e
  exact h (bytes_ext e)
theorem hideB_over {seq : Int} {p : Option Ent} {e : Ent} (h : seq < e.s) : hideB seq p e = true := by
  unfold hideB
  rw [show decide (seq < e.s) = true by simpa using h, Bool.true_or, Bool.true_or]
theorem KnI.over {seq : Int} {pre : List Ent} {ik : Bool} {kk : ByteArray} (h : KnI seq pre ik kk) {e : Ent} (he : seq < e.s) : KnI seq (pre ++ [e]) ik kk :=
  ⟨fun h1 => (let ⟨z, hz, r⟩ := h.1 h1; ⟨z, List.mem_append_left _ hz, r⟩), fun y hy hs => (by simp at hy; subst hy; omega)⟩
theorem KnI.again {seq : Int} {pre : List Ent} {ik : Bool} {kk : ByteArray} (h : KnI seq pre ik kk) {e : Ent} (h1 : ik = true) (h2 : e.k = kk) : KnI seq (pre ++ [e]) ik kk :=
  ⟨fun h1 => (let ⟨z, hz, r⟩ := h.1 h1; ⟨z, List.mem_append_left _ hz, r⟩), fun y hy _ => (by simp at hy; subst hy; exact ⟨h1, h2.symm⟩)⟩
theorem knI_new {seq : Int} {pre : List Ent} {e : Ent} (he : e.s ≤ seq) : KnI seq (pre ++ [e]) true e.k :=
  ⟨fun _ => ⟨e, by simp, rfl, he⟩, fun y hy _ => (by simp at hy; subst hy; exact ⟨rfl, rfl⟩)⟩
theorem cellsQ_app14 (a b : List (ByteArray × ByteArray)) : cellsQ (a ++ b) = cellsQ a ++ cellsQ b := by simp [cellsQ]
def latS5 (q : Nat) (v : Value) : List Nat := q :: (q + 1) :: (q + 2) :: (q + 3) :: (ob v).toList
theorem mem_latS5 {q : Nat} {v : Value} {k : Nat} : k ∈ latS5 q v ↔ (k = q ∨ k = q + 1 ∨ k = q + 2 ∨ k = q + 3) ∨ ob v = some k := by
  unfold latS5
  cases ob v with
  | none => simp
  | some x => simp [eq_comm, or_assoc]
/-- Latest's own memory: the number, the row, the key, and whether there is one. -/
structure LatB (q : Nat) (seq : Int) (v : Value) (kk : ByteArray) (ik : Bool) (W : World) : Prop where
  b0 : W.heap[q]? = some (.cells #[.int .u64 seq] 23 (0, 0))
  b1 : W.heap[q + 1]? = some (.cells #[v] 45 (0, 0))
  b2 : W.heap[q + 2]? = some (.cells #[.string kk] 9 (0, 0))
  b3 : W.heap[q + 3]? = some (.cells #[.bool ik] 4 (0, 0))
theorem LatB.kept {q : Nat} {seq : Int} {v : Value} {kk : ByteArray} {ik : Bool} {W W' : World} (h : LatB q seq v kk ik W) (hk : ∀ k, k = q ∨ k = q + 1 ∨ k = q + 2 ∨ k = q + 3 → W'.heap[k]? = W.heap[k]?) : LatB q seq v kk ik W' :=
  ⟨(hk _ (by simp)).trans h.b0, (hk _ (by simp)).trans h.b1, (hk _ (by simp)).trans h.b2, (hk _ (by simp)).trans h.b3⟩
theorem LatB.lt {q : Nat} {seq : Int} {v : Value} {kk : ByteArray} {ik : Bool} {W : World} (h : LatB q seq v kk ik W) : q + 3 < W.heap.size := (Array.getElem?_eq_some_iff.1 h.b3).1
def LatI (w : World) (seq : Int) (pre : List Ent) (S : List Nat) (W : World) : Prop :=
  ∃ v kk ik, LatB w.heap.size seq v kk ik W ∧ Row W 58 2 v (latE seq pre).length (cellsQ (latE seq pre)) ∧ (∀ b, ob v = some b → w.heap.size + 4 ≤ b) ∧ S = latS5 w.heap.size v ∧ Below w.heap.size w W ∧ KnI seq pre ik kk
theorem latI_ok (w : World) (seq : Int) : JOk w.heap.size (LatI w seq) := by
  refine ⟨?_, ?_⟩
  · rintro pre S W ⟨v, kk, ik, h1, h2, h3, rfl, h4, -⟩ k hk
    have := h1.lt
    rcases mem_latS5.1 hk with hk | hk
    · omega
    · exact ⟨by have := h3 k hk; omega, h2.lt k hk⟩
  · rintro pre S W W' T ⟨v, kk, ik, h1, h2, h3, rfl, h4, h5⟩ ht hT
    have hx := h1.lt
    have hno : ∀ k, k < W.heap.size → k ∈ latS5 w.heap.size v → k ∉ T := fun k hk hm he => by
      rcases hT k he with ⟨-, h⟩ | h
      · exact h hm
      · omega
    refine ⟨v, kk, ik, h1.kept fun k hk => ht.block k (by omega) (hno k (by omega) (mem_latS5.2 (.inl hk))), h2.kept fun k hk => ht.block k (h2.lt k hk) (hno k (h2.lt k hk) (mem_latS5.2 (.inr hk))), h3, rfl, h4.trans (ht.below h4.size (fun k hk => ?_)), h5⟩
    rcases hT k hk with ⟨h, -⟩ | h
    · exact h
    · have := h4.size; omega
theorem lat_mark {q : Nat} {seq : Int} {v : Value} {kk : ByteArray} {ik : Bool} {A B C : World} (hb : LatB q seq v kk ik A) (xk : ByteArray) (hB : A.setCell ⟨q + 2, 0, none⟩ (.string xk) = B) (hC : B.setCell ⟨q + 3, 0, none⟩ (.bool true) = C) :
    LatB q seq v xk true C ∧ Turn [q + 2, q + 3] A C ∧ B.cell? ⟨q + 3, 0, none⟩ = some (.bool ik) ∧ B.frozen? ⟨q + 3, 0, none⟩ = false := by
  have hl := hb.lt
  have t1 : Turn [q + 2] A B := by rw [← hB]; exact (Turn.refl _ _).setCell (.inl (by simp)) _
  have t2 : Turn [q + 3] B C := by rw [← hC]; exact (Turn.refl _ _).setCell (.inl (by simp)) _
  have s1 := t1.size
  have b3 : B.heap[q + 3]? = some (.cells #[.bool ik] 4 (0, 0)) := (t1.block _ (by omega) (by simp)).trans hb.b3
  refine ⟨⟨((t2.block _ (by omega) (by simp)).trans (t1.block _ (by omega) (by simp))).trans hb.b0, ((t2.block _ (by omega) (by simp)).trans (t1.block _ (by omega) (by simp))).trans hb.b1, (t2.block _ (by omega) (by simp)).trans ?_, ?_⟩, (t1.mono (G := [q + 2, q + 3]) (by simp)).trans t2 (by simp), by simp only [World.cell?, b3]; rfl, by simp [World.frozen?, b3]⟩
  · rw [← hB]
    have := heap_setCell_same A (q + 2) 0 _ _ (.string xk) hb.b2
    simpa using this
  · rw [← hC]
    have := heap_setCell_same B (q + 3) 0 _ _ (.bool true) b3
    simpa using this
theorem lat_fresh {q E : Nat} {seq : Int} {v : Value} {kk : ByteArray} {ik : Bool} {C w6 w7 : World} {xk xv : ByteArray} {xs xn : Int} (hb : LatB q seq v kk ik C) (he : C.heap[E]? = some (.cells #[.string xk, .int .u64 xs, .int .i64 xn, .string xv] 56 (0, 0))) (hE : q + 3 < E) (hF : Below C.heap.size C w6)
    (hw7 : (((w6.setCell ⟨E, 0, none⟩ (.string xk)).setCell ⟨E, 1, none⟩ (.int .u64 xs)).setCell ⟨E, 2, none⟩ (.int .i64 xn)).setCell ⟨E, 3, none⟩ (.string xv) = w7) :
    ((w6.cell? ⟨E, 0, none⟩ = some (.string xk) ∧ w6.cell? ⟨E, 1, none⟩ = some (.int .u64 xs) ∧ w6.cell? ⟨E, 2, none⟩ = some (.int .i64 xn) ∧ w6.cell? ⟨E, 3, none⟩ = some (.string xv)) ∧ ∀ j, w6.frozen? ⟨E, j, none⟩ = false) ∧ LatB q seq v kk ik w7 ∧ (w7.cell? ⟨E, 0, none⟩ = some (.string xk) ∧ w7.cell? ⟨E, 3, none⟩ = some (.string xv)) ∧ Turn [E] C w7 := by
  have hl := (Array.getElem?_eq_some_iff.1 he).1
  have h6 := (hF.block E hl).trans he
  have t7 : Turn [E] C w7 := by
    rw [← hw7]
    exact (((((turn_of_below (F := [E]) hF).setCell (.inl (by simp)) _).setCell (.inl (by simp)) _).setCell (.inl (by simp)) _).setCell (.inl (by simp)) _)
  have h7 : w7.heap[E]? = some (.cells #[.string xk, .int .u64 xs, .int .i64 xn, .string xv] 56 (0, 0)) := by
    rw [← hw7]
    have a1 := heap_setCell_same w6 E 0 _ _ (.string xk) h6
    have a2 := heap_setCell_same _ E 1 _ _ (.int .u64 xs) a1
    have a3 := heap_setCell_same _ E 2 _ _ (.int .i64 xn) a2
    have a4 := heap_setCell_same _ E 3 _ _ (.string xv) a3
    simpa using a4
  have c1 : ∀ i u, (#[.string xk, .int .u64 xs, .int .i64 xn, .string xv] : Array Value)[i]? = some u → w6.cell? ⟨E, i, none⟩ = some u := fun i u hu => by simp only [World.cell?, h6]; exact hu
  have c2 : ∀ i u, (#[.string xk, .int .u64 xs, .int .i64 xn, .string xv] : Array Value)[i]? = some u → w7.cell? ⟨E, i, none⟩ = some u := fun i u hu => by simp only [World.cell?, h7]; exact hu
  exact ⟨⟨⟨c1 0 _ rfl, c1 1 _ rfl, c1 2 _ rfl, c1 3 _ rfl⟩, fun j => by simp [World.frozen?, h6]⟩, hb.kept fun k hk => t7.block k (by have := hb.lt; omega) (by simp; omega), ⟨c2 0 _ rfl, c2 3 _ rfl⟩, t7⟩
theorem src_q14 (xk xv : ByteArray) (w : World) : Src Tryz.prog 2 45 (.slice (some ⟨w.heap.size, 0, none⟩) 1 1) 1 [.string xk, .string xv] (w.alloc (.cells #[.string xk, .string xv] 58)) :=
  Src.ofSlice (P := Tryz.prog) _ (size := 2) Tryz.underlying45 ⟨w.heap.size, 0, none⟩ 1 1 _ rfl (fun j u hu => by
    match j, hu with
    | 0, hu => simpa [Addr.add] using hu
    | 1, hu => simpa [Addr.add] using hu) (by simp [Value.oneCell'])
/-- One pair more, and the box bears the row. -/
theorem lat_push {w W A C W6 w5 : World} {seq : Int} {v v' : Value} {kk : ByteArray} {ik : Bool} {pre : List Ent} {F : List Nat}
    (hb : LatB w.heap.size seq v kk ik C) (h3 : ∀ b, ob v = some b → w.heap.size + 4 ≤ b) (h4 : Below w.heap.size w A) (hW : W.heap.size ≤ A.heap.size) (hFF : ∀ k ∈ F, k ∈ latS5 w.heap.size v ∨ W.heap.size ≤ k) (hWq : w.heap.size ≤ W.heap.size) (h3W : ∀ b, ob v = some b → w.heap.size ≤ b)
    (hAC : Turn F A C) (ht : Turn [] C W6) (hr : Row w5 58 2 v' (latE seq pre).length (cellsQ (latE seq pre))) (hg : W6.grownBy w5 (ob v)) (ho : ob v' = ob v ∨ (ob v' = some W6.heap.size ∧ W6.grownBy w5 none)) (hk : KnI seq pre ik kk) :
    ∃ S' T, LatI w seq pre S' (w5.setCell ⟨w.heap.size + 1, 0, none⟩ v') ∧ Turn T A (w5.setCell ⟨w.heap.size + 1, 0, none⟩ v') ∧ (∀ k ∈ T, k ∈ latS5 w.heap.size v ∨ W.heap.size ≤ k) ∧ ∀ k ∈ S', k ∈ latS5 w.heap.size v ∨ W.heap.size ≤ k := by
  have hl := hb.lt
  have s6 := ht.size
  have sC := hAC.size
  have sg := hg.size
  have hob : ∀ k, k = w.heap.size ∨ k = w.heap.size + 1 ∨ k = w.heap.size + 2 ∨ k = w.heap.size + 3 → some k ≠ ob v := fun k hk e => by have := h3 k e.symm; omega
  have hb5 : LatB w.heap.size seq v kk ik w5 := hb.kept fun k hk => (hg.block k (by omega) (hob k hk)).trans (ht.block k (by omega) (by simp))
  have hnew : ∀ b, ob v' = some b → w.heap.size + 4 ≤ b := fun b hb => by
    rcases ho with h | ⟨h, -⟩
    · exact h3 b (h ▸ hb)
    · rw [hb] at h
      cases h
      omega
  have t5 : Turn (F ++ latS5 w.heap.size v) A w5 := ((hAC.mono (G := F ++ latS5 w.heap.size v) (fun x hx => .inl (by simp [hx]))).trans ht (by simp)).trans (turn_of_grown (F := F ++ latS5 w.heap.size v) hg (fun k hk => .inl (List.mem_append_right _ (mem_latS5.2 (.inr hk))))) (fun k hk => .inl hk)
  have t6 : Turn (F ++ latS5 w.heap.size v) A (w5.setCell ⟨w.heap.size + 1, 0, none⟩ v') := t5.setCell (.inl (List.mem_append_right _ (mem_latS5.2 (.inl (by simp))))) _
  have tT : ∀ k ∈ F ++ latS5 w.heap.size v, k ∈ latS5 w.heap.size v ∨ W.heap.size ≤ k := fun k hk => by
    rcases List.mem_append.1 hk with hk | hk
    · exact hFF k hk
    · exact .inl hk
  have hs1 : ∀ k, k ≠ w.heap.size + 1 → (w5.setCell ⟨w.heap.size + 1, 0, none⟩ v').heap[k]? = w5.heap[k]? := fun k hk => heap_setCell_other _ _ _ _ hk
  refine ⟨_, _, ⟨v', kk, ik, ⟨(hs1 _ (by omega)).trans hb5.b0, ?_, (hs1 _ (by omega)).trans hb5.b2, (hs1 _ (by omega)).trans hb5.b3⟩, hr.kept fun k hk => hs1 k (by have := hnew k hk; omega), hnew, rfl, h4.trans (t6.below h4.size (fun k hk => ?_)), hk⟩, t6, tT, fun k hk => ?_⟩
  · have := heap_setCell_same w5 (w.heap.size + 1) 0 _ _ v' hb5.b1
    simpa using this
  · rcases tT k hk with h | h
    · rcases mem_latS5.1 h with h | h
      · omega
      · exact h3W k h
    · omega
  · rcases mem_latS5.1 hk with hk | hk
    · exact .inl (mem_latS5.2 (.inl hk))
    · rcases ho with h | ⟨h, -⟩
      · exact .inl (mem_latS5.2 (.inr (h ▸ hk)))
      · rw [hk] at h
        cases h
        exact .inr (by omega)
set_option maxHeartbeats 8000000 in
set_option maxRecDepth 100000 in
theorem latestC : LatestC := by
  intro seq a n cap ls w hL hn hl hs
  refine (callsIn_wide (n := 0)).1 ?_
  refine callsIn_of_wp_marks Tryz.func9 rfl trivial ?_ rfl
  simp only [Tryz.ntmps9, List.size_toArray, List.length_cons, List.length_nil, Nat.reduceAdd, Nat.reduceSub, Array.replicate_succ, Array.replicate_zero, List.push_toArray, List.append_toArray, List.nil_append, List.cons_append]
  obtain ⟨W1, hW1⟩ : ∃ W, w.alloc (.cells #[.int .u64 seq] 23) = W := ⟨_, rfl⟩
  obtain ⟨W2, hW2⟩ : ∃ W, W1.alloc (.cells #[.slice none 0 0] 45) = W := ⟨_, rfl⟩
  obtain ⟨W3, hW3⟩ : ∃ W, W2.alloc (.cells #[.string ⟨#[]⟩] 9) = W := ⟨_, rfl⟩
  obtain ⟨W4, hW4⟩ : ∃ W, W3.alloc (.cells #[.bool false] 4) = W := ⟨_, rfl⟩
  obtain ⟨W5, hW5⟩ : ∃ W, W4.setCell ⟨W2.heap.size, 0, none⟩ (.string ⟨#[]⟩) = W := ⟨_, rfl⟩
  obtain ⟨W6, hW6⟩ : ∃ W, W5.setCell ⟨W3.heap.size, 0, none⟩ (.bool false) = W := ⟨_, rfl⟩
  have s1 : W1.heap.size = w.heap.size + 1 := by rw [← hW1]; simp
  have s2 : W2.heap.size = w.heap.size + 2 := by rw [← hW2]; simp; omega
  have s3 : W3.heap.size = w.heap.size + 3 := by rw [← hW3]; simp; omega
  have s4 : W4.heap.size = w.heap.size + 4 := by rw [← hW4]; simp; omega
  have s5 : W5.heap.size = w.heap.size + 4 := by rw [← hW5]; simp; omega
  have s6 : W6.heap.size = w.heap.size + 4 := by rw [← hW6]; simp; omega
  have g0 : W1.heap[w.heap.size]? = some (.cells #[.int .u64 seq] 23 (0, 0)) := by rw [← hW1]; exact heap_alloc_new w _
  have g1 : W2.heap[w.heap.size + 1]? = some (.cells #[.slice none 0 0] 45 (0, 0)) := by rw [← s1, ← hW2]; exact heap_alloc_new W1 _
  have g2 : W3.heap[w.heap.size + 2]? = some (.cells #[.string ⟨#[]⟩] 9 (0, 0)) := by rw [← s2, ← hW3]; exact heap_alloc_new W2 _
  have g3 : W4.heap[w.heap.size + 3]? = some (.cells #[.bool false] 4 (0, 0)) := by rw [← s3, ← hW4]; exact heap_alloc_new W3 _
  have b12 : Below W1.heap.size W1 W2 := by rw [← hW2]; exact (Below.refl _ _).alloc (Nat.le_refl _) _
  have b23 : Below W2.heap.size W2 W3 := by rw [← hW3]; exact (Below.refl _ _).alloc (Nat.le_refl _) _
  have b34 : Below W3.heap.size W3 W4 := by rw [← hW4]; exact (Below.refl _ _).alloc (Nat.le_refl _) _
  have b01 : Below w.heap.size w W1 := by rw [← hW1]; exact (Below.refl _ _).alloc (Nat.le_refl _) _
  have t45 : Turn [w.heap.size + 2] W4 W5 := by rw [← hW5, s2]; exact (Turn.refl _ _).setCell (.inl (by simp)) _
  have t56 : Turn [w.heap.size + 3] W5 W6 := by rw [← hW6, s3]; exact (Turn.refl _ _).setCell (.inl (by simp)) _
  have L4 : LatB w.heap.size seq (.slice none 0 0) ⟨#[]⟩ false W4 := ⟨((b34.block _ (by omega)).trans ((b23.block _ (by omega)).trans (b12.block _ (by omega)))).trans g0, ((b34.block _ (by omega)).trans (b23.block _ (by omega))).trans g1, (b34.block _ (by omega)).trans g2, g3⟩
  have L5 : LatB w.heap.size seq (.slice none 0 0) ⟨#[]⟩ false W5 := ⟨(t45.block _ (by omega) (by simp)).trans L4.b0, (t45.block _ (by omega) (by simp)).trans L4.b1, by
    rw [← hW5, s2]
    have := heap_setCell_same W4 (w.heap.size + 2) 0 _ _ (.string ⟨#[]⟩) L4.b2
    simpa using this, (t45.block _ (by omega) (by simp)).trans L4.b3⟩
  have L6 : LatB w.heap.size seq (.slice none 0 0) ⟨#[]⟩ false W6 := ⟨(t56.block _ (by omega) (by simp)).trans L5.b0, (t56.block _ (by omega) (by simp)).trans L5.b1, (t56.block _ (by omega) (by simp)).trans L5.b2, by
    rw [← hW6, s3]
    have := heap_setCell_same W5 (w.heap.size + 3) 0 _ _ (.bool false) L5.b3
    simpa using this⟩
  have hb6 : Below w.heap.size w W6 := ((((b01.trans (b12.mono (by omega))).trans (b23.mono (by omega))).trans (b34.mono (by omega))).trans (t45.below (by omega) (by simp))).trans (t56.below (by omega) (by simp))
  have c2 : W4.cell? ⟨W2.heap.size, 0, none⟩ = some (.string ⟨#[]⟩) := by rw [s2]; simp only [World.cell?, L4.b2]; rfl
  have f2 : W4.frozen? ⟨W2.heap.size, 0, none⟩ = false := by rw [s2]; simp [World.frozen?, L4.b2]
  have c3 : W5.cell? ⟨W3.heap.size, 0, none⟩ = some (.bool false) := by rw [s3]; simp only [World.cell?, L5.b3]; rfl
  have f3 : W5.frozen? ⟨W3.heap.size, 0, none⟩ = false := by rw [s3]; simp [World.frozen?, L5.b3]
  have HSZ := Lib.hid (show W1.heap.size = w.heap.size + 1 ∧ W2.heap.size = w.heap.size + 2 ∧ W3.heap.size = w.heap.size + 3 ∧ W6.heap.size = w.heap.size + 4 from ⟨s1, s2, s3, s6⟩)
  have HL6 := Lib.hid L6
  have HB6 := Lib.hid hb6
  clear s1 s2 s3 s4 s5 s6 g0 g1 g2 g3 b12 b23 b34 b01 t45 t56 L4 L5 L6 hb6
  gi_wp2_with (refine ⟨trivial, rfl, ?_⟩; gi_at_call 22; refine (inOrder_in _ a n cap _).mono ?_; rintro e w1 ⟨rfl, rfl⟩)
  rw [HSZ.out.1, HSZ.out.2.1, HSZ.out.2.2.1, HSZ.out.2.2.2]
  clear c2 f2 c3 f3 hW5 hW6 hW1 hW2 hW3 hW4
  obtain ⟨W7, hW7⟩ : ∃ W, W6.alloc (.cells #[.slice a n cap] 22) = W := ⟨_, rfl⟩
  rw [hW7]
  have hb7 : Below w.heap.size w W7 := by rw [← hW7]; exact HB6.out.alloc HB6.out.size _
  have L7 : LatB w.heap.size seq (.slice none 0 0) ⟨#[]⟩ false W7 := HL6.out.kept fun k hk => by
    rw [← hW7]
    exact Below.heap_alloc _ _ _ (by have := HL6.out.lt; omega)
  have hcB : W7.cell? ⟨w.heap.size + 4, 0, none⟩ = some (.slice a n cap) := by rw [← hW7, ← HSZ.out.2.2.2]; exact nce rfl rfl
  clear hW7
  refine wpIn_rangeOrd (Bs := w.heap.size + 4) (sa := a) (n := n) (cap := cap) (ls := ls) (by rfl) hcB rfl w.heap.size hb7.size (hL.lsIn.below hb7) hn hl hs
    (LatI w seq) (latI_ok w seq) (latS5 w.heap.size (.slice none 0 0)) ⟨_, _, _, L7, row_nil _ _ _, fun b hb => none_ne hb, rfl, hb7, knI_nil seq⟩
    (fun x W => { tmps := #[.int .u64 seq, .slice a n cap, .pointer (some ⟨w.heap.size, 0, none⟩), undef, .slice none 0 0, .pointer (some ⟨w.heap.size + 1, 0, none⟩), .pointer (some ⟨w.heap.size + 2, 0, none⟩), .pointer (some ⟨w.heap.size + 3, 0, none⟩), .pointer (some ⟨W.heap.size, 0, none⟩), .slice a n cap, .func (.func 84) #[] #[.pointer (some ⟨w.heap.size + 4, 0, none⟩)], x.val, undef, undef, undef, undef, undef, undef, undef, undef, undef, undef, undef, undef, undef, undef, undef, undef, undef, undef, undef, undef, undef, undef, undef, undef, undef, undef, undef, undef, undef], defers := [] })
    (fun x W => W.alloc (.cells x.cells.toArray 56)) (fun x W => turn_of_below ((Below.refl _ _).alloc (Nat.le_refl _) _)) ?assign ?body ?done
  case assign =>
    intro l x W K hK
    obtain ⟨xk, xs, xn, xv⟩ := x
    simp only [Ent.val, ev, Ent.cells] at hK ⊢
    gi_wp2
    exact hK
  case done =>
    rintro D S W hD hDS ⟨v, kk, ik, h1, h2, h3, rfl, h4, -⟩ hK
    have hc : W.cell? ⟨w.heap.size + 1, 0, none⟩ = some v := by simp only [World.cell?, h1.b1]; rfl
    gi_wp2
    refine ⟨by simp, .inl ⟨_, _, rfl, run_takeDeferred hK, ?_⟩⟩
    have tp := turn_put W D (.deferred none)
    refine ⟨_, results_tmp rfl _ _ _, v, rfl, ⟨h2.kept fun k hk => tp.block k (h2.lt k hk) (fun e => hDS ?_), fun b hb => by have := h3 b hb; omega⟩, h4.trans (tp.below h4.size (fun k hk => ?_))⟩
    · simp at e
      subst e
      exact mem_latS5.2 (.inr hk)
    · simp at hk
      subst hk
      have := hb7.size
      omega
  case body =>
    rintro l pre x S W A L ⟨v, kk, ik, hb, h2, h3, rfl, h4, h5⟩ ht hL2 hSW hok hsort hlen
    obtain ⟨xk, xs, xn, xv⟩ := x
    have hsz := ht.size
    rw [World.size_alloc] at hsz
    have hq3 : w.heap.size + 3 < W.heap.size := hSW _ (mem_latS5.2 (.inl (by simp)))
    have hne : W.heap.size ≠ L := by omega
    have he3 : A.heap[W.heap.size]? = some (.cells #[.string xk, .int .u64 xs, .int .i64 xn, .string xv] 56 (0, 0)) := (ht.block _ (by rw [World.size_alloc]; omega) (by simp; exact hne)).trans (heap_alloc_new W _)
    obtain ⟨y0, y1, y2, y3⟩ := round_cells (M := A.heap.size) he3 (Turn.refl _ _) (by omega)
    have c0 : A.cell? ⟨w.heap.size, 0, none⟩ = some (.int .u64 seq) := by simp only [World.cell?, hb.b0]; rfl
    have c2 : A.cell? ⟨w.heap.size + 2, 0, none⟩ = some (.string kk) := by simp only [World.cell?, hb.b2]; rfl
    have c3 : A.cell? ⟨w.heap.size + 3, 0, none⟩ = some (.bool ik) := by simp only [World.cell?, hb.b3]; rfl
    have f2 : A.frozen? ⟨w.heap.size + 2, 0, none⟩ = false := by simp [World.frozen?, hb.b2]
    have HSTAY := Lib.hid (show latE seq (pre ++ [(⟨xk, xs, xn, xv⟩ : Ent)]) = latE seq pre → ∀ C kk' ik', LatB w.heap.size seq v kk' ik' C → Turn [w.heap.size + 2, w.heap.size + 3] A C → KnI seq (pre ++ [(⟨xk, xs, xn, xv⟩ : Ent)]) ik' kk' →
        ∃ S' T, LatI w seq (pre ++ [(⟨xk, xs, xn, xv⟩ : Ent)]) S' C ∧ Turn T A C ∧ (∀ k ∈ T, k ∈ latS5 w.heap.size v ∨ W.heap.size ≤ k) ∧ ∀ k ∈ S', k ∈ latS5 w.heap.size v ∨ W.heap.size ≤ k from fun he C kk' ik' hbC htC hkC =>
      ⟨_, _, ⟨v, kk', ik', hbC, by rw [he]; exact h2.kept fun k hk => htC.block k (h2.lt k hk) (fun e => by have := h3 k hk; simp at e; omega), h3, rfl, h4.trans (htC.below h4.size (fun k hk => by simp at hk; omega)), hkC⟩, htC, fun k hk => .inl (mem_latS5.2 (.inl (by simp at hk; rcases hk with rfl | rfl <;> simp))), fun k hk => .inl hk⟩)
    have HSN := Lib.hid (latE_snoc14 seq (⟨xk, xs, xn, xv⟩ : Ent) pre)
    have HHI := Lib.hid (fun he => h5.hide hsort he)
    have H5 := Lib.hid h5
    have HBB := Lib.hid hb
    have H2 := Lib.hid h2
    have H3 := Lib.hid h3
    have H4 := Lib.hid h4
    have HE3 := Lib.hid he3
    have HAZ := Lib.hid (show W.heap.size ≤ A.heap.size ∧ w.heap.size + 3 < W.heap.size from ⟨by omega, hq3⟩)
    have HLT := Lib.hid (latE_length seq pre)
    have HVE := Lib.hid (show ∀ b, ob v = some b → b < W.heap.size from fun b hb => hSW b (mem_latS5.2 (.inr hb)))
    simp only [Ent.val, ev]
    clear h2 h3 h4 h5 hb he3 hsz hne ht hL2 hSW hq3 hsort hL hb7 L7 hcB
    by_cases hA : seq < xs
    · have d1 : decide (seq < xs) = true := by simp; exact hA
      have HP := Lib.hid (HSTAY.out (by rw [HSN.out, if_pos (hideB_over hA), List.append_nil]) A kk ik HBB.out ((Turn.refl [] A).mono (by simp)) (H5.out.over hA))
      gi_wp2
      first | exact ⟨rfl, HP.out⟩ | (obtain ⟨S', T, p1, p2, p3, p4⟩ := HP.out; exact ⟨S', p1, T, p2, p3, p4⟩)
    · have d1 : decide (seq < xs) = false := by simp; omega
      by_cases hB : ik = true ∧ xk = kk
      · obtain ⟨rfl, rfl⟩ := hB
        have HP := Lib.hid (HSTAY.out (by rw [HSN.out, if_pos (by rw [HHI.out (by show xs ≤ seq; omega)]; simp), List.append_nil]) A xk true HBB.out ((Turn.refl [] A).mono (by simp)) (H5.out.again rfl rfl))
        gi_wp2
        first | exact ⟨rfl, HP.out⟩ | (obtain ⟨S', T, p1, p2, p3, p4⟩ := HP.out; exact ⟨S', p1, T, p2, p3, p4⟩)
      · have hA2 : xs ≤ seq := by omega
        obtain ⟨B, hB1⟩ : ∃ B, A.setCell ⟨w.heap.size + 2, 0, none⟩ (.string xk) = B := ⟨_, rfl⟩
        obtain ⟨C, hC1⟩ : ∃ C, B.setCell ⟨w.heap.size + 3, 0, none⟩ (.bool true) = C := ⟨_, rfl⟩
        obtain ⟨bC, tC, k3, f3⟩ := lat_mark HBB.out xk hB1 hC1
        have heC : C.heap[W.heap.size]? = some (.cells #[.string xk, .int .u64 xs, .int .i64 xn, .string xv] 56 (0, 0)) := (tC.block _ (by have := (Array.getElem?_eq_some_iff.1 HE3.out).1; omega) (by have := HAZ.out.2; simp; omega)).trans HE3.out
        obtain ⟨z0, z1, z2, z3⟩ := round_cells (M := C.heap.size) heC (Turn.refl _ _) (by have := (Array.getElem?_eq_some_iff.1 heC).1; omega)
        have hh := HHI.out (show (⟨xk, xs, xn, xv⟩ : Ent).s ≤ seq from hA2)
        have hb0 : (ik && decide (xk = kk)) = false := by
          rw [Bool.eq_false_iff]
          intro e2
          simp only [Bool.and_eq_true, decide_eq_true_eq] at e2
          exact hB e2
        have hh2 : hideB seq pre.getLast? (⟨xk, xs, xn, xv⟩ : Ent) = decide (xn = 2) := by rw [hh]; show ((ik && decide (xk = kk)) || decide (xn = 2)) = _; rw [hb0, Bool.false_or]
        have HBC := Lib.hid bC
        have HTC := Lib.hid tC
        have HEC := Lib.hid heC
        have HKN := Lib.hid (knI_new (seq := seq) (pre := pre) (e := ⟨xk, xs, xn, xv⟩) hA2)
        have HHD := Lib.hid hh2
        have HIK := Lib.hid (show ik = true → ¬ xk = kk from fun h1 h2 => hB ⟨h1, h2⟩)
        clear hB bC tC heC hh hb0 hh2
        by_cases hn2 : xn = 2
        · subst hn2
          have HP := Lib.hid (HSTAY.out (by rw [HSN.out, if_pos (by rw [HHD.out]; rfl), List.append_nil]) C xk true HBC.out HTC.out HKN.out)
          cases ik with
          | false =>
            gi_wp2
            first | exact ⟨rfl, HP.out⟩ | (obtain ⟨S', T, p1, p2, p3, p4⟩ := HP.out; exact ⟨S', p1, T, p2, p3, p4⟩)
          | true =>
            have hxk := toList_no (HIK.out rfl)
            gi_wp2
            first | exact ⟨rfl, HP.out⟩ | (obtain ⟨S', T, p1, p2, p3, p4⟩ := HP.out; exact ⟨S', p1, T, p2, p3, p4⟩)
        · have CF := Lib.hid (fun W' => freshU_any xk xs xn xv W' (by have := hok.2.1; simp only at this; omega) (by have := hok.2.2; simp only at this; omega))
          unfold ev at CF
          have hn3 : (xn != 2) = true := by simpa using hn2
          have HEQ := Lib.hid (show cellsQ (latE seq (pre ++ [(⟨xk, xs, xn, xv⟩ : Ent)])) = cellsQ (latE seq pre) ++ [.string xk, .string xv] ∧ (latE seq (pre ++ [(⟨xk, xs, xn, xv⟩ : Ent)])).length = (latE seq pre).length + 1 from by
            rw [HSN.out, if_neg (by rw [HHD.out]; simpa using hn2)]
            exact ⟨by rw [cellsQ_app14]; rfl, by rw [List.length_append]; rfl⟩)
          have HBa := Lib.hid (show (latE seq pre).length + 1 ≤ maxLen by have := HLT.out; unfold maxLen; omega)
          have HBb := Lib.hid (show ((latE seq pre).length + 1) * 32 ≤ 140737488355328 by have := HLT.out; omega)
          have HRC := Lib.hid (H2.out.kept (w' := C) fun k hk => HTC.out.block k (H2.out.lt k hk) (fun e => by have := H3.out k hk; simp at e; omega))
          obtain ⟨j0, hj0, hy0, hy1, hy2⟩ := info_parts infoQ14L
          have hxk : ik = true → (xk.toList == kk.toList) = false := fun h => toList_no (HIK.out h)
          cases ik with
          | false =>
            clear hxk
            gi_wp2_with (first
              | (refine ⟨trivial, rfl, ?_⟩; gi_at_call 23; refine ((callsIn_wide.2 (CF.out _)).inRound l).mono ?_; rintro e w6 ⟨rfl, hbF⟩; obtain ⟨w7, hw7⟩ : ∃ W', (((w6.setCell ⟨W.heap.size, 0, none⟩ (.string xk)).setCell ⟨W.heap.size, 1, none⟩ (.int .u64 xs)).setCell ⟨W.heap.size, 2, none⟩ (.int .i64 xn)).setCell ⟨W.heap.size, 3, none⟩ (.string xv) = W' := ⟨_, rfl⟩; obtain ⟨⟨⟨x0, x1, x2, x3⟩, xf⟩, b7, ⟨e0, e3⟩, t7⟩ := lat_fresh HBC.out HEC.out HAZ.out.2 hbF hw7; have g0 := xf 0; have g1 := xf 1; have g2 := xf 2; have g3 := xf 3; have m7 : w7.cell? ⟨w.heap.size + 1, 0, none⟩ = some v := (by simp only [World.cell?, b7.b1]; rfl); have HB7 := Lib.hid b7; have HT7 := Lib.hid t7; have HR7 := Lib.hid (HRC.out.kept (w' := w7) fun k hk => t7.block k (HRC.out.lt k hk) (fun e => by have := HVE.out k hk; simp at e; omega)); clear xf hbF b7 t7)
              | (gi_at_builtin; refine wpListIn_append_row rfl (.tmp 32) (.tmp 38) 45 45 rfl 58 j0 _ 2 32 Tryz.underlying45 hj0 hy0 hy1 hy2 rfl v _ _ rfl (row_below HR7.out ((Below.refl w7.heap.size w7).alloc (Nat.le_refl _) _)) _ rfl 1 _ (src_q14 xk xv w7) HBa.out HBb.out ?_; intro v9 w9 hrow9 hgrow9 hob9; obtain ⟨a9, c9, rfl, -, -⟩ := hrow9.le; have HB9 := Lib.hid (HB7.out.kept (W' := w9) fun k hk => (hgrow9.block k (by have := HB7.out.lt; simp; omega) (fun e => by have := H3.out k e.symm; omega)).trans (Below.heap_alloc _ _ _ (by have := HB7.out.lt; omega))); have k9 : w9.cell? ⟨w.heap.size + 1, 0, none⟩ = some v := (by simp only [World.cell?, HB9.out.b1]; rfl); have f9 : w9.frozen? ⟨w.heap.size + 1, 0, none⟩ = false := (by simp [World.frozen?, HB9.out.b1]); have HG9 := Lib.hid hgrow9; have HO9 := Lib.hid hob9; have HW9 := Lib.hid hrow9; clear hgrow9 hob9 hrow9)
              | fail)
            have HP := lat_push (W := W) (A := A) (C := w7) (pre := pre ++ [(⟨xk, xs, xn, xv⟩ : Ent)]) (F := [w.heap.size + 2, w.heap.size + 3, W.heap.size]) HB7.out H3.out H4.out HAZ.out.1 (fun k hk => by
              simp at hk
              rcases hk with rfl | rfl | rfl
              · exact .inl (mem_latS5.2 (.inl (by simp)))
              · exact .inl (mem_latS5.2 (.inl (by simp)))
              · exact .inr (Nat.le_refl _)) (by have := HAZ.out.2; omega) (fun b hb => by have := H3.out b hb; omega) ((HTC.out.mono (G := [w.heap.size + 2, w.heap.size + 3, W.heap.size]) (fun y hy => .inl (by simp at hy; rcases hy with rfl | rfl <;> simp))).trans HT7.out (fun y hy => .inl (by simp at hy; subst hy; simp))) (turn_of_below (F := []) ((Below.refl w7.heap.size w7).alloc (Nat.le_refl _) _)) (by rw [HEQ.out.1, HEQ.out.2]; exact HW9.out) HG9.out HO9.out HKN.out
            first | exact ⟨rfl, HP⟩ | (obtain ⟨S', T, p1, p2, p3, p4⟩ := HP; exact ⟨S', p1, T, p2, p3, p4⟩)
          | true =>
            have hxk2 := hxk rfl
            clear hxk
            gi_wp2_with (first
              | (refine ⟨trivial, rfl, ?_⟩; gi_at_call 23; refine ((callsIn_wide.2 (CF.out _)).inRound l).mono ?_; rintro e w6 ⟨rfl, hbF⟩; obtain ⟨w7, hw7⟩ : ∃ W', (((w6.setCell ⟨W.heap.size, 0, none⟩ (.string xk)).setCell ⟨W.heap.size, 1, none⟩ (.int .u64 xs)).setCell ⟨W.heap.size, 2, none⟩ (.int .i64 xn)).setCell ⟨W.heap.size, 3, none⟩ (.string xv) = W' := ⟨_, rfl⟩; obtain ⟨⟨⟨x0, x1, x2, x3⟩, xf⟩, b7, ⟨e0, e3⟩, t7⟩ := lat_fresh HBC.out HEC.out HAZ.out.2 hbF hw7; have g0 := xf 0; have g1 := xf 1; have g2 := xf 2; have g3 := xf 3; have m7 : w7.cell? ⟨w.heap.size + 1, 0, none⟩ = some v := (by simp only [World.cell?, b7.b1]; rfl); have HB7 := Lib.hid b7; have HT7 := Lib.hid t7; have HR7 := Lib.hid (HRC.out.kept (w' := w7) fun k hk => t7.block k (HRC.out.lt k hk) (fun e => by have := HVE.out k hk; simp at e; omega)); clear xf hbF b7 t7)
              | (gi_at_builtin; refine wpListIn_append_row rfl (.tmp 32) (.tmp 38) 45 45 rfl 58 j0 _ 2 32 Tryz.underlying45 hj0 hy0 hy1 hy2 rfl v _ _ rfl (row_below HR7.out ((Below.refl w7.heap.size w7).alloc (Nat.le_refl _) _)) _ rfl 1 _ (src_q14 xk xv w7) HBa.out HBb.out ?_; intro v9 w9 hrow9 hgrow9 hob9; obtain ⟨a9, c9, rfl, -, -⟩ := hrow9.le; have HB9 := Lib.hid (HB7.out.kept (W' := w9) fun k hk => (hgrow9.block k (by have := HB7.out.lt; simp; omega) (fun e => by have := H3.out k e.symm; omega)).trans (Below.heap_alloc _ _ _ (by have := HB7.out.lt; omega))); have k9 : w9.cell? ⟨w.heap.size + 1, 0, none⟩ = some v := (by simp only [World.cell?, HB9.out.b1]; rfl); have f9 : w9.frozen? ⟨w.heap.size + 1, 0, none⟩ = false := (by simp [World.frozen?, HB9.out.b1]); have HG9 := Lib.hid hgrow9; have HO9 := Lib.hid hob9; have HW9 := Lib.hid hrow9; clear hgrow9 hob9 hrow9)
              | fail)
            have HP := lat_push (W := W) (A := A) (C := w7) (pre := pre ++ [(⟨xk, xs, xn, xv⟩ : Ent)]) (F := [w.heap.size + 2, w.heap.size + 3, W.heap.size]) HB7.out H3.out H4.out HAZ.out.1 (fun k hk => by
              simp at hk
              rcases hk with rfl | rfl | rfl
              · exact .inl (mem_latS5.2 (.inl (by simp)))
              · exact .inl (mem_latS5.2 (.inl (by simp)))
              · exact .inr (Nat.le_refl _)) (by have := HAZ.out.2; omega) (fun b hb => by have := H3.out b hb; omega) ((HTC.out.mono (G := [w.heap.size + 2, w.heap.size + 3, W.heap.size]) (fun y hy => .inl (by simp at hy; rcases hy with rfl | rfl <;> simp))).trans HT7.out (fun y hy => .inl (by simp at hy; subst hy; simp))) (turn_of_below (F := []) ((Below.refl w7.heap.size w7).alloc (Nat.le_refl _) _)) (by rw [HEQ.out.1, HEQ.out.2]; exact HW9.out) HG9.out HO9.out HKN.out
            first | exact ⟨rfl, HP⟩ | (obtain ⟨S', T, p1, p2, p3, p4⟩ := HP; exact ⟨S', p1, T, p2, p3, p4⟩)
end Go.Proofs.YtcbailiniigcnaaGreat
