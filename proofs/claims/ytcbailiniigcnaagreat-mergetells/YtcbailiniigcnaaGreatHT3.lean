/- merge: a range over inOrder. -/
import Derived.Test.YtcbailiniigcnaaGreatHT2
import Derived.RangeFuncWrites
namespace Go.Proofs.YtcbailiniigcnaaGreat
open Go.RowKit Go.Shelf Go.Lib

attribute [local go_sem] Oper.semAt_some

theorem stepIn_append_row {F : Fence} {nF : Nat} {P : Program} {w : World} {ops : Array Oper} {o : Oper} {a : Act} {K : Act → World → Prop} {Q : Exit → Act → World → Prop} {E : Prop}
    (hg : o.guard = none) (s x : Operand) (t tx : TypeId) (ho : o.op = .call { callee := .builtin .append, args := #[s, x], argTypes := #[t, tx] })
    (e : TypeId) (i : TypeInfo) (z : Value) (size bytes : Nat) (ht : P.underlying t = some (.slice e)) (hi : P.info? e = some i) (hz : i.zero = some z)
    (hsize : i.size = size) (hby : i.bytes = bytes) (hzs : z.cells.size = size)
    (v : Value) (n : Nat) (xs : List Value) (hv : a.eval s = v) (hown : Row w e size v n xs) (xv : Value) (hx : a.eval x = xv) (m : Nat) (news : List Value) (hs : Src P size tx xv m news w)
    (h63 : n + m ≤ maxLen) (hbytes : (n + m) * bytes ≤ 140737488355328)
    (h : ∀ v' w', Row w' e size v' (n + m) (xs ++ news) → w.grownBy w' (ob v) → (ob v' = ob v ∨ (ob v' = some w.heap.size ∧ w.grownBy w' none)) → K (a.put o.dst v') w') :
    if Region.wanted o (yielded ops a.tmps) = true then Oper.wpIn F nF P o a w K Q else E := by
  have hw : Region.wanted o (yielded ops a.tmps) = true := by simp [Region.wanted, hg]
  rw [if_pos hw]
  obtain ⟨v', w', hr, h2, h3, h4⟩ := run_append_row (P := P) w t tx o.type e i z size bytes ht hi hz hsize hby hzs v n xs hown xv m news hs h63 hbytes
  unfold Oper.wpIn
  refine ⟨by simp [Oper.about, ho, resolve, Target.leads, Sem.run_pure], ?_⟩
  rw [Oper.semAt_plain F _ _ (by rw [ho]; intro c hc'; cases hc')]
  simp [execOp, ho, resolve, invoke, builtin, hv, hx, hr, Result.andThen]
  exact h v' w' h2 h3 h4
theorem wpListIn_append_row {F : Fence} {nF : Nat} {P : Program} {w : World} {ops : Array Oper} {rest : List Oper} {o : Oper} {a : Act} {Q : Exit → Act → World → Prop}
    (hg : o.guard = none) (s x : Operand) (t tx : TypeId) (ho : o.op = .call { callee := .builtin .append, args := #[s, x], argTypes := #[t, tx] })
    (e : TypeId) (i : TypeInfo) (z : Value) (size bytes : Nat) (ht : P.underlying t = some (.slice e)) (hi : P.info? e = some i) (hz : i.zero = some z)
    (hsize : i.size = size) (hby : i.bytes = bytes) (hzs : z.cells.size = size)
    (v : Value) (n : Nat) (xs : List Value) (hv : a.eval s = v) (hown : Row w e size v n xs) (xv : Value) (hx : a.eval x = xv) (m : Nat) (news : List Value) (hs : Src P size tx xv m news w)
    (h63 : n + m ≤ maxLen) (hbytes : (n + m) * bytes ≤ 140737488355328)
    (h : ∀ v' w', Row w' e size v' (n + m) (xs ++ news) → w.grownBy w' (ob v) → (ob v' = ob v ∨ (ob v' = some w.heap.size ∧ w.grownBy w' none)) → wpListIn F nF P ops Q rest (a.put o.dst v') w') :
    wpListIn F nF P ops Q (o :: rest) a w := by
  refine wpListIn_plain hg fun K hK => ?_
  obtain ⟨v', w', hr, h2, h3, h4⟩ := run_append_row (P := P) w t tx o.type e i z size bytes ht hi hz hsize hby hzs v n xs hown xv m news hs h63 hbytes
  unfold Oper.wpIn
  refine ⟨by simp [Oper.about, ho, resolve, Target.leads, Sem.run_pure], ?_⟩
  rw [Oper.semAt_plain F _ _ (by rw [ho]; intro c hc'; cases hc')]
  simp [execOp, ho, resolve, invoke, builtin, hv, hx, hr, Result.andThen]
  exact hK _ _ (h v' w' h2 h3 h4)
theorem turn_put (W : World) (L : Nat) (o : Obj) : Turn [L] W (W.putObj L o) :=
  ⟨rfl, rfl, rfl, by simp [World.putObj], fun k hk hn => World.putObj_heap_other (by simp at hn; exact hn)⟩
set_option maxHeartbeats 1000000 in
theorem inOrder_in (m : Nat) (a : Option Addr) (len cap : Nat) (w : World) :
    CallsIn Fence.wide m Tryz.prog 22 #[.slice a len cap] w fun e w' => e = .returned (.func (.func 84) #[] #[.pointer (some ⟨w.heap.size, 0, none⟩)]) ∧ w' = w.alloc (.cells #[.slice a len cap] 22) := by
  refine callsIn_of_wp Tryz.func22 rfl trivial ?_ rfl
  simp only [Tryz.ntmps22, List.size_toArray, List.length_cons, List.length_nil, Nat.reduceAdd, Nat.reduceSub, Array.replicate_succ, Array.replicate_zero, List.push_toArray, List.append_toArray, List.nil_append, List.cons_append]
  gi_wp2
  go_ret
  exact ⟨rfl, rfl⟩
theorem wpIn_rangeOrd {m Bs : Nat} {g : Operand} {ps : Array Tmp} {assign body : Code} {Q : Exit → Act → World → Prop} {a : Act} {w : World} {sa : Option Addr} {n cap : Nat} {ls : List (List Ent)}
    (hg : a.eval g = .func (.func 84) #[] #[.pointer (some ⟨Bs, 0, none⟩)]) (hBs : w.cell? ⟨Bs, 0, none⟩ = some (.slice sa n cap)) (hps : ps.size = 1) (n₀ : Nat) (hn₀ : n₀ ≤ w.heap.size)
    (hL : LsIn n₀ w sa n ls) (hn : n ≤ 8) (hl : ls.flatten.length ≤ 50000) (hs : SortedL ls)
    (I : List Ent → List Nat → World → Prop) (hI : JOk n₀ I) (S0 : List Nat) (h0 : I [] S0 w) (a₁ : Ent → World → Act) (w₁ : Ent → World → World)
    (hw₁ : ∀ x W, Turn [] W (w₁ x W))
    (hassign : ∀ (l : Nat) (x : Ent) (W : World) (K : Act → World → Prop), K (a₁ x W) (w₁ x W) →
      assign.wpIn (Fence.wide.inRound l) (m - 1 - 1) Tryz.prog (Exit.then K (fun _ _ _ => False)) { tmps := (ps.zip #[x.val]).foldl (fun t (p, v) => t.setIfInBounds p v) a.tmps, defers := [] } W)
    (hbody : ∀ (l : Nat) (pre : List Ent) (x : Ent) (S : List Nat) (W W2 : World) (L : Nat), I pre S W2 → Turn [L] (w₁ x W) W2 → L < W.heap.size → (∀ k ∈ S, k < W.heap.size) → x.Fine → (pre ++ [x]).Pairwise ltE → pre.length < 50000 →
      body.wpIn (Fence.wide.inRound l) (m - 1 - 1) Tryz.prog (fun e _ W' => e = .normal ∧ ∃ S' T, I (pre ++ [x]) S' W' ∧ Turn T W2 W' ∧ (∀ k ∈ T, k ∈ S ∨ W.heap.size ≤ k) ∧ ∀ k ∈ S', k ∈ S ∨ W.heap.size ≤ k) (a₁ x W) W2)
    (hdone : ∀ (D : Nat) (S : List Nat) (W : World), w.heap.size ≤ D → D ∉ S → I (allE ls.flatten) S W → W.heap[D]? = some (.deferred (some [])) → Q .normal { a with defers := { target := .collected D, args := #[] } :: a.defers } W) :
    (Code.rangeFunc g ps assign body).wpIn Fence.wide m Tryz.prog Q a w := by
  refine wpIn_rangeFunc ?_
  intro fn hfn
  rw [show Fence.wide.round = none from rfl]
  obtain ⟨rec, hrec⟩ : ∃ rec : LoopState → Option Code → Loop, rec = fun st pe => { state := st, pending := pe, fn, tmps := a.tmps, params := ps, assign, body, defers := w.heap.size } := ⟨_, rfl⟩
  obtain ⟨W1, hW1⟩ : ∃ W1, (w.alloc (.deferred (some []))).alloc (.loop (rec .ready none)) = W1 := ⟨_, rfl⟩
  have hL1 : W1.heap[w.heap.size + 1]? = some (.loop (rec .ready none)) := by
    rw [← hW1]; have := World.alloc_heap_new (w.alloc (.deferred (some []))) (.loop (rec .ready none)); rwa [World.size_alloc] at this
  have hK1 : W1.heap[w.heap.size]? = some (.deferred (some [])) := by
    rw [← hW1]; exact (Below.heap_alloc _ _ _ (by simp)).trans (World.alloc_heap_new w _)
  have hb1 : Below w.heap.size w W1 := by rw [← hW1]; exact ((Below.refl _ _).alloc (Nat.le_refl _) _).alloc (by simp) _
  have hS0 := hI.own _ _ _ h0
  have hI1 : I [] S0 W1 := hI.stay _ _ _ _ _ h0 (turn_of_below (F := []) hb1) (by simp)
  let J : List Ent → List Nat → World → Prop := fun pre S W => ∃ S₁, S = w.heap.size :: (w.heap.size + 1) :: S₁ ∧ I pre S₁ W ∧ W.heap[w.heap.size + 1]? = some (.loop (rec .ready none)) ∧ W.heap[w.heap.size]? = some (.deferred (some [])) ∧ w.heap.size ∉ S₁ ∧ (w.heap.size + 1) ∉ S₁
  have hJ : JOk n₀ J := by
    refine ⟨?_, ?_⟩
    · rintro pre S W ⟨S₁, rfl, h1, h2, h3, -⟩ k hk
      have l2 := (Array.getElem?_eq_some_iff.1 h2).1
      rcases List.mem_cons.1 hk with rfl | hk
      · exact ⟨hn₀, by omega⟩
      · rcases List.mem_cons.1 hk with rfl | hk
        · exact ⟨by omega, l2⟩
        · exact hI.own _ _ _ h1 k hk
    · rintro pre S W W' T ⟨S₁, rfl, h1, h2, h3, h4, h5⟩ ht hT
      have l2 := (Array.getElem?_eq_some_iff.1 h2).1
      have hno : ∀ x ∈ T, x ≠ w.heap.size ∧ x ≠ w.heap.size + 1 := fun x hx => by
        rcases hT x hx with ⟨-, h⟩ | h
        · simp only [List.mem_cons, not_or] at h
          exact ⟨h.1, h.2.1⟩
        · omega
      refine ⟨S₁, rfl, hI.stay _ _ _ _ _ h1 ht (fun x hx => ?_), (ht.block _ l2 (fun e => (hno _ e).2 rfl)).trans h2, (ht.block _ (by omega) (fun e => (hno _ e).1 rfl)).trans h3, h4, h5⟩
      rcases hT x hx with ⟨h6, h⟩ | h
      · simp only [List.mem_cons, not_or] at h
        exact .inl ⟨h6, h.2.2⟩
      · exact .inr h
  have hcB : W1.cell? ⟨Bs, 0, none⟩ = some (.slice sa n cap) := (hb1.cell (p := ⟨Bs, 0, none⟩) (lt_of_cell hBs)).trans hBs
  refine ⟨w.heap.size + 1, [{ target := .collected w.heap.size, args := #[] }], W1, { target := .fn (.func 84) #[.pointer (some ⟨Bs, 0, none⟩)], args := #[.func (.yield (w.heap.size + 1)) #[] #[]] }, W1, 84,
    #[.func (.yield (w.heap.size + 1)) #[] #[]] ++ #[.pointer (some ⟨Bs, 0, none⟩)], W1, ?_, ?_, ?_, ?_, fun h => (by cases h), ?_⟩
  · rw [← hW1, hrec]; exact run_enterLoop_outer _ _ _ _ _
  · simp only [resolve, hg]
    simp [go_sem]
  · intro f' _; trivial
  · simp [invoke, go_sem]
  · have hY : YieldsE (m - 1) (w.heap.size + 1) J := by
      rintro pre x S W ⟨S₁, rfl, hi, hl2, hk, hD, hLn⟩ hok hsort hlen
      have hlt : w.heap.size + 1 < W.heap.size := (Array.getElem?_eq_some_iff.1 hl2).1
      have hy := run_yield (P := Tryz.prog) (args := #[x.val]) hl2 (by rw [hrec]; exact hps.symm)
      rw [hrec] at hy
      obtain ⟨W0, hW0⟩ : ∃ W0, w₁ x W = W0 := ⟨_, rfl⟩
      have t00 : Turn [] W W0 := by rw [← hW0]; exact hw₁ x W
      have s00 := t00.size
      have hl20 := (t00.block _ hlt (by simp)).trans hl2
      have hk0 := (t00.block _ (by omega) (by simp)).trans hk
      refine ⟨fn, _, assign, body, hy, roundIn_of_wpIn hfn (hassign _ x W _ ⟨_, run_beginRound (by rw [hW0]; exact hl20) (by rw [hrec]), ?_⟩)⟩
      rw [hW0]
      obtain ⟨W2, hW2⟩ : ∃ W2, W0.putObj (w.heap.size + 1) (.loop { rec .ready none with state := .busy }) = W2 := ⟨_, rfl⟩
      have t12 : Turn [w.heap.size + 1] W0 W2 := by rw [← hW2]; exact turn_put _ _ _
      have hl22 : W2.heap[w.heap.size + 1]? = some (.loop { rec .ready none with state := .busy }) := by rw [← hW2]; exact World.putObj_heap_same (by omega)
      have hs2 : W2.heap.size = W0.heap.size := by rw [← hW2]; simp
      have hi0 : I pre S₁ W0 := hI.stay _ _ _ _ _ hi t00 (by simp)
      have hi2 : I pre S₁ W2 := hI.stay _ _ _ _ _ hi0 t12 (fun y hy => by simp at hy; subst hy; exact .inl ⟨by omega, hLn⟩)
      rw [hW2]
      have hSW := fun k hk => (hI.own _ _ _ hi k hk).2
      refine wpIn_mono (hbody _ pre x S₁ W W2 (w.heap.size + 1) hi2 (by rw [hW0]; exact t12) hlt hSW hok hsort hlen) ?_
      rintro e a3 W3 ⟨rfl, S', T, hi3, ht3, hT, hS'⟩
      have hno : ∀ y ∈ T, y ≠ w.heap.size ∧ y ≠ w.heap.size + 1 := fun y hy => by
        rcases hT y hy with h | h
        · exact ⟨fun e => hD (e ▸ h), fun e => hLn (e ▸ h)⟩
        · omega
      have hl3 : W3.heap[w.heap.size + 1]? = some (.loop { rec .ready none with state := .busy }) := (ht3.block _ (by omega) (fun e => (hno _ e).2 rfl)).trans hl22
      have hk3 : W3.heap[w.heap.size]? = some (.deferred (some [])) := ((ht3.block _ (by omega) (fun e => (hno _ e).1 rfl)).trans (t12.block _ (by omega) (by simp))).trans hk0
      have hr := run_endRound (P := Tryz.prog) none hl3
      rw [hrec] at hr
      refine ⟨_, _, hr, rfl, _, ⟨S', rfl, hI.stay _ _ _ _ _ hi3 (turn_put W3 (w.heap.size + 1) _) (fun y hy => ?_), ?_, ?_, fun e => ?_, fun e => ?_⟩, ?_, fun k hk => ?_⟩
      · simp at hy
        subst hy
        refine .inl ⟨by omega, fun e => ?_⟩
        rcases hS' _ e with e | e
        · exact hLn e
        · omega
      · rw [hrec]; exact World.putObj_heap_same (Array.getElem?_eq_some_iff.1 hl3).1
      · exact (World.putObj_heap_other (by omega)).trans hk3
      · rcases hS' _ e with e | e
        · exact hD e
        · omega
      · rcases hS' _ e with e | e
        · exact hLn e
        · omega
      · refine (((t00.mono (G := w.heap.size :: (w.heap.size + 1) :: S₁) (by simp)).trans t12 (fun y hy => .inl (by simp at hy; subst hy; simp))).trans ht3 (fun y hy => ?_)).trans (turn_put W3 (w.heap.size + 1) _) (fun y hy => .inl (by simp at hy; subst hy; simp))
        rcases hT y hy with h | h
        · exact .inl (by simp [h])
        · exact .inr h
      · simp only [List.mem_cons] at hk
        rcases hk with rfl | rfl | hk
        · exact .inl (by simp)
        · exact .inl (by simp)
        · rcases hS' _ hk with e | e
          · exact .inl (by simp [e])
          · exact .inr (by omega)
    have hr := ord_run n₀ (m - 1) (w.heap.size + 1) Bs sa n cap ls J hJ hY W1 (w.heap.size :: (w.heap.size + 1) :: S0) hcB (Nat.le_trans hn₀ hb1.size) (hL.below (hb1.mono hn₀)) hn hl hs
      ⟨S0, rfl, hI1, hL1, hK1, fun e => by have := (hS0 _ e).2; omega, fun e => by have := (hS0 _ e).2; omega⟩
    refine hr.mono ?_
    rintro e W2 ⟨⟨v, rfl⟩, S', S₁, rfl, hi, hl2, hk, hD, hLn⟩
    have he := run_endLoop (P := Tryz.prog) hl2 (by rw [hrec]; simp)
    have hlt : w.heap.size + 1 < W2.heap.size := (Array.getElem?_eq_some_iff.1 hl2).1
    rw [hrec] at he
    exact ⟨none, _, he, hdone _ S₁ _ (Nat.le_refl _) hD (hI.stay _ _ _ _ _ hi (turn_put W2 (w.heap.size + 1) _) (fun y hy => by simp at hy; subst hy; exact .inl ⟨by omega, hLn⟩)) ((World.putObj_heap_other (by omega)).trans hk)⟩
end Go.Proofs.YtcbailiniigcnaaGreat
