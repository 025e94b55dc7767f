/- A manifest on its files, beside blocks that a walk keeps. -/
import Derived.Test.YtlecffpjcjlabaaGreatIM3
namespace Go.Proofs.YtlecffpjcjlabaaGreat
open Go.RowKit

/-- A manifest at M on the files at p, all from w's end on; beside it the blocks Fx. -/
structure MSt (w : World) (p M n m : Nat) (s : St) (mf : Mf) (brk : Bool) (Fx : Nat → Prop) (wr : World) : Prop where
  ex : ∃ a c Q, Hs (fun j => (j < w.heap.size ∨ j = M ∨ Q j) ∨ Fx j) w.heap.size p n m s wr ∧ ManAt wr M p mf (.slice a mf.v.ts.length c) brk ∧ RowQ Q wr (.slice a mf.v.ts.length c) mf.v.ts ∧ ∀ j, Q j → w.heap.size ≤ j ∧ j ≠ M ∧ ¬ Fx j
  bel : Below w.heap.size w wr
  geM : w.heap.size ≤ M
  fxM : ¬ Fx M
  fx : ∀ j, Fx j → w.heap.size ≤ j
section
variable {w wr w' : World} {p M n m : Nat} {s : St} {mf : Mf} {brk : Bool} {Fx Gx : Nat → Prop}
theorem MSt.lt (h : MSt w p M n m s mf brk Fx wr) : ∀ j, Fx j → j < wr.heap.size := by
  obtain ⟨a, c, Q, h1, -⟩ := h.ex
  exact fun j hj => h1.lt j (.inr hj)
theorem MSt.ltM (h : MSt w p M n m s mf brk Fx wr) : M < wr.heap.size := by
  obtain ⟨a, c, Q, h1, -⟩ := h.ex
  exact h1.lt M (.inl (.inr (.inl rfl)))
theorem MSt.size (h : MSt w p M n m s mf brk Fx wr) : w.heap.size ≤ wr.heap.size := h.bel.size
theorem MSt.up {n' m' : Nat} (h : MSt w p M n m s mf brk Fx wr) (hn : n ≤ n') (hm : m ≤ m') : MSt w p M n' m' s mf brk Fx wr := by
  obtain ⟨a, c, Q, h1, h2⟩ := h.ex
  exact ⟨⟨a, c, Q, h1.up hn hm, h2⟩, h.bel, h.geM, h.fxM, h.fx⟩
/-- Blocks were made besides. -/
theorem MSt.made (h : MSt w p M n m s mf brk Fx wr) (b : Below wr.heap.size wr w') (hG : ∀ j, Gx j → Fx j ∨ (wr.heap.size ≤ j ∧ j < w'.heap.size)) : MSt w p M n m s mf brk Gx w' := by
  have hlM := h.ltM
  have hsz := h.size
  obtain ⟨a, c, Q, h1, h2, h3, h4⟩ := h.ex
  have hlt := h1.lt
  refine ⟨⟨a, c, Q, h1.below b fun j hj => ?_, h2.kept (b.block M hlM), h3.kept fun j hj => b.block j (hlt j (.inl (.inr (.inr hj)))), fun j hj => ?_⟩, h.bel.trans (b.mono hsz), h.geM, fun hM => ?_, fun j hj => ?_⟩
  · rcases hj with hj | hj
    · exact .inl (.inl hj)
    · rcases hG j hj with hj | hj
      · exact .inl (.inr hj)
      · exact .inr hj
  · have q := h4 j hj
    refine ⟨q.1, q.2.1, fun hx => ?_⟩
    rcases hG j hx with hx | hx
    · exact q.2.2 hx
    · have := hlt j (.inl (.inr (.inr hj))); omega
  · rcases hG M hM with hx | hx
    · exact h.fxM hx
    · omega
  · rcases hG j hj with hx | hx
    · exact h.fx j hx
    · omega
theorem MSt.same (h : MSt w p M n m s mf brk Fx wr) (b : Below wr.heap.size wr w') : MSt w p M n m s mf brk Fx w' := h.made b fun _ hj => .inl hj
theorem MSt.fewer (h : MSt w p M n m s mf brk Fx wr) (hG : ∀ j, Gx j → Fx j) : MSt w p M n m s mf brk Gx wr := h.made (Below.refl _ _) fun j hj => .inl (hG j hj)
/-- Blocks of Fx were written. -/
theorem MSt.wrote (h : MSt w p M n m s mf brk Fx wr) (hs : w'.heap.size = wr.heap.size) (hb : Below w.heap.size w w') (hk : ∀ j, ¬ Fx j → w'.heap[j]? = wr.heap[j]?) : MSt w p M n m s mf brk Fx w' := by
  obtain ⟨a, c, Q, h1, h2, h3, h4⟩ := h.ex
  exact ⟨⟨a, c, Q, h1.wrote (Nat.le_of_eq hs.symm) fun j _ hj => hk j fun hf => hj (.inr hf), h2.kept (hk M h.fxM), h3.kept fun j hj => hk j (h4 j hj).2.2, h4⟩, hb, h.geM, h.fxM, h.fx⟩
/-- A call of the files. -/
theorem MSt.call (h : MSt w p M n m s mf brk Fx wr) : ∃ F, Hs F w.heap.size p n m s wr ∧ ∀ n' m' s' w', Hs F w.heap.size p n' m' s' w' → Below w.heap.size wr w' → Kp F wr w' → MSt w p M n' m' s' mf brk Fx w' ∧ ∀ j, Fx j → w'.heap[j]? = wr.heap[j]? := by
  obtain ⟨a, c, Q, h1, h2, h3, h4⟩ := h.ex
  exact ⟨_, h1, fun n' m' s' w' k1 k2 k3 => ⟨⟨⟨a, c, Q, k1, h2.kept (k3 M (.inl (.inr (.inl rfl)))), h3.kept fun j hj => k3 j (.inl (.inr (.inr hj))), h4⟩, h.bel.trans k2, h.geM, h.fxM, h.fx⟩, fun j hj => k3 j (.inr hj)⟩⟩
theorem mst_version (h : MSt w p M n m s mf brk Fx wr) (b : Below wr.heap.size wr w') (hl : mf.v.ts.length ≤ 10000) :
    Calls Tryz.prog 20 #[.pointer (some ⟨M, 0, none⟩)] w' fun e w2 => ∃ ra rc, e = .returned (.agg #[.int .i64 mf.v.log, .int .i64 mf.v.next, .int .u64 (mf.v.seq : Int), .slice ra mf.v.ts.length rc]) ∧ RowB w2 (.slice ra mf.v.ts.length rc) mf.v.ts ∧ (∀ k, ob (.slice ra mf.v.ts.length rc) = some k → w'.heap.size ≤ k) ∧ Below w'.heap.size w' w2 := by
  obtain ⟨a, c, Q, -, h2, h3, -⟩ := (h.same b).ex
  exact mversion_any a c h2 h3.row.v hl
theorem mst_broken (h : MSt w p M n m s mf brk Fx wr) : Calls Tryz.prog 23 #[.pointer (some ⟨M, 0, none⟩)] wr fun e w' => e = .returned (.bool brk) ∧ wr = w' := by
  obtain ⟨a, c, Q, -, h2, -, -⟩ := h.ex
  exact mbroken_any h2
theorem mst_name (h : MSt w p M n m s mf brk Fx wr) (b : Below wr.heap.size wr w') (hn : mf.num < 100000000) : Calls Tryz.prog 22 #[.pointer (some ⟨M, 0, none⟩)] w' fun e w2 => e = .returned (.string ⟨(nmM mf.num).toArray⟩) ∧ Below w'.heap.size w' w2 := by
  obtain ⟨a, c, Q, -, h2, -, -⟩ := (h.same b).ex
  exact mnameof_any h2 hn
theorem mst_add (h : MSt w p M n m s mf false Fx wr) (hN : n ≤ 50000) (hM : m ≤ 600000000) (hmn : mf.num < 100000000) (hv0 : WayV mf.v) (hl0 : mf.v.ts.length ≤ 10000)
    (e : Ed) (aa : Option Addr) (ac : Nat) (da : Option Addr) (dc : Nat) (hEA : TbsV wr (.slice aa e.add.length ac) e.add) (hED : IntsV wr (.slice da e.drop.length dc) e.drop) (he : e.Ok) (L : Nat) (hL : canB e = true → (putE e).length ≤ L) (hL2 : L ≤ 10000000) (hl : (nextV mf.v e).ts.length ≤ 10000) (K : Nat) (hK : (wholeB (nextV mf.v e).up).length ≤ K)
    (sr : St) (er : Int) (mr : Mf) (br : Bool) (hr : addM s mf false e = (sr, er, mr, br)) :
    Calls Tryz.prog 12 #[.pointer (some ⟨M, 0, none⟩), .agg #[.int .i64 e.log, .int .i64 e.next, .int .u64 (e.seq : Int), .slice aa e.add.length ac, .slice da e.drop.length dc]] wr fun x w' => x = .returned (.int .i64 er) ∧
      MSt w p M (n + 24) (m + (8 + L) + K + 9) sr mr br Fx w' ∧ Below w.heap.size wr w' ∧ ∀ j, Fx j → w'.heap[j]? = wr.heap[j]? := by
  have hsz := h.size
  have hltM := h.ltM
  have hlt := h.lt
  obtain ⟨a, c, Q, h1, h2, h3, h4⟩ := h.ex
  refine (mAdd_any h1 hN hM M mf hmn a c h2 (.inl (.inr (.inl rfl))) h.geM h3.row.v hv0 hl0 e aa ac da dc hEA hED he L hL hL2 hl K hK sr er mr br hr).mono ?_
  rintro x w' ⟨rfl, a', c', Q', q⟩
  refine ⟨rfl, ⟨?_, h.bel.trans q.bel, h.geM, h.fxM, h.fx⟩, q.bel, fun j hj => q.kp j (.inr hj) (fun e => h.fxM (e ▸ hj))⟩
  rcases q.row with ⟨e1, e2, e3⟩ | hq
  · subst e1 e2 e3
    exact ⟨_, _, Q, q.hs.fewer fun j hj => .inl hj, q.man, h3.kept fun j hj => q.kp j (.inl (.inr (.inr hj))) (h4 j hj).2.1, h4⟩
  · refine ⟨a', c', Q', q.hs.fewer fun j hj => ?_, q.man, hq, fun j hj => ?_⟩
    · rcases hj with (hj | hj | hj) | hj
      · exact .inl (.inl (.inl hj))
      · exact .inl (.inl (.inr (.inl hj)))
      · exact .inr hj
      · exact .inl (.inr hj)
    · have := q.new j hj
      exact ⟨by omega, by omega, fun hx => by have := hlt j hx; omega⟩
/-- What an Open answers that was asked beside a manifest. -/
def OpenS (w : World) (p n m : Nat) (sr : St) (er : Int) (mr : Mf) (Fx : Nat → Prop) (wr : World) (e : Ending) (w' : World) : Prop :=
  (er ≠ 0 ∧ e = .returned (.tuple #[.pointer none, .agg #[.int .i64 0, .int .i64 0, .int .u64 0, .slice none 0 0], .int .i64 er])) ∨
  (er = 0 ∧ ∃ M' ra rc Q2, e = .returned (.tuple #[.pointer (some ⟨M', 0, none⟩), .agg #[.int .i64 mr.v.log, .int .i64 mr.v.next, .int .u64 (mr.v.seq : Int), .slice ra mr.v.ts.length rc], .int .i64 0]) ∧ MSt w p M' n m sr mr false (fun j => Fx j ∨ Q2 j) w' ∧ RowQ Q2 w' (.slice ra mr.v.ts.length rc) mr.v.ts ∧ ∀ j, Q2 j → wr.heap.size ≤ j)
theorem mst_open (h : MSt w p M n m s mf brk Fx wr) (hN : n ≤ 50000) (hM : m ≤ 700000000) (K : Nat) (hG : GoodO K s) (sr : St) (er : Int) (mr : Mf) (hr : openM s = (sr, er, mr)) (hl : er = 0 → mr.v.ts.length ≤ 10000) :
    Calls Tryz.prog 15 #[.pointer (some ⟨p, 0, none⟩)] wr fun e w' => Below w.heap.size wr w' ∧ (∀ j, Fx j → w'.heap[j]? = wr.heap[j]?) ∧ MSt w p M (n + 24) (m + K + 9) sr mf brk Fx w' ∧ OpenS w p (n + 24) (m + K + 9) sr er mr Fx wr e w' := by
  have hsz := h.size
  have hlt := h.lt
  obtain ⟨a, c, Q, h1, h2, h3, h4⟩ := h.ex
  refine (mopen_any h1 hN hM K hG sr er mr hr hl).mono ?_
  rintro e w' (⟨hz, rfl, q1, q2, q3⟩ | ⟨hz, M', a', c', Q', ra, rc, Q2, rfl, q⟩)
  · exact ⟨q2, fun j hj => q3 j (.inr hj), ⟨⟨a, c, Q, q1, h2.kept (q3 M (.inl (.inr (.inl rfl)))), h3.kept fun j hj => q3 j (.inl (.inr (.inr hj))), h4⟩, h.bel.trans q2, h.geM, h.fxM, h.fx⟩, .inl ⟨hz, rfl⟩⟩
  · have hM' := q.newM
    refine ⟨q.bel, fun j hj => q.kp j (.inr hj), ⟨⟨a, c, Q, q.hs.fewer fun j hj => .inl hj, h2.kept (q.kp M (.inl (.inr (.inl rfl)))), h3.kept fun j hj => q.kp j (.inl (.inr (.inr hj))), h4⟩, h.bel.trans q.bel, h.geM, h.fxM, h.fx⟩, .inr ⟨hz, M', ra, rc, Q2, rfl, ⟨⟨a', c', Q', q.hs.fewer fun j hj => ?_, q.man, q.row, fun j hj => ?_⟩, h.bel.trans q.bel, by omega, fun hx => ?_, fun j hj => ?_⟩, q.row2, fun j hj => (q.newQ2 j hj).1⟩⟩
    · rcases hj with (hj | hj | hj) | hj | hj
      · exact .inl (.inl (.inl hj))
      · exact .inr (.inl hj)
      · exact .inr (.inr (.inl hj))
      · exact .inl (.inr hj)
      · exact .inr (.inr (.inr hj))
    · have g := q.newQ j hj
      refine ⟨by omega, g.2, fun hx => ?_⟩
      rcases hx with hx | hx
      · have := hlt j hx; omega
      · exact (q.newQ2 j hx).2.2 hj
    · rcases hx with hx | hx
      · have := hlt M' hx; omega
      · exact (q.newQ2 M' hx).2.1 rfl
    · rcases hj with hj | hj
      · exact h.fx j hj
      · have := (q.newQ2 j hj).1; omega
/-- The first Open of files that were just made. -/
theorem mst_start {w1 : World} (hb : Below w.heap.size w w1) (h : Hs (fun k => k < w.heap.size) w.heap.size p n m s w1) (hN : n ≤ 50000) (hM : m ≤ 700000000) (K : Nat) (hG : GoodO K s) (sr : St) (er : Int) (mr : Mf) (hr : openM s = (sr, er, mr)) (hl : er = 0 → mr.v.ts.length ≤ 10000) :
    Calls Tryz.prog 15 #[.pointer (some ⟨p, 0, none⟩)] w1 fun e w' => Below w.heap.size w w' ∧ ((er ≠ 0 ∧ e = .returned (.tuple #[.pointer none, .agg #[.int .i64 0, .int .i64 0, .int .u64 0, .slice none 0 0], .int .i64 er]) ∧ Hs (fun k => k < w.heap.size) w.heap.size p (n + 24) (m + K + 9) sr w') ∨
      (er = 0 ∧ ∃ M ra rc Q2, e = .returned (.tuple #[.pointer (some ⟨M, 0, none⟩), .agg #[.int .i64 mr.v.log, .int .i64 mr.v.next, .int .u64 (mr.v.seq : Int), .slice ra mr.v.ts.length rc], .int .i64 0]) ∧ MSt w p M (n + 24) (m + K + 9) sr mr false Q2 w' ∧ RowQ Q2 w' (.slice ra mr.v.ts.length rc) mr.v.ts)) := by
  have hsz := hb.size
  refine (mopen_any h hN hM K hG sr er mr hr hl).mono ?_
  rintro e w' (⟨hz, rfl, q1, q2, q3⟩ | ⟨hz, M', a', c', Q', ra, rc, Q2, rfl, q⟩)
  · exact ⟨hb.trans q2, .inl ⟨hz, rfl, q1⟩⟩
  · have hM' := q.newM
    refine ⟨hb.trans q.bel, .inr ⟨hz, M', ra, rc, Q2, rfl, ⟨⟨a', c', Q', q.hs.fewer fun j hj => ?_, q.man, q.row, fun j hj => ?_⟩, hb.trans q.bel, by omega, fun hx => (q.newQ2 M' hx).2.1 rfl, fun j hj => ?_⟩, q.row2⟩⟩
    · rcases hj with (hj | hj | hj) | hj
      · exact .inl hj
      · exact .inr (.inl hj)
      · exact .inr (.inr (.inl hj))
      · exact .inr (.inr (.inr hj))
    · have g := q.newQ j hj
      exact ⟨by omega, g.2, fun hx => (q.newQ2 j hx).2.2 hj⟩
    · have := (q.newQ2 j hj).1; omega
end
/-- A version that was told, in a box of its own. -/
def AppS (W : World) (v : Vr) (X : Nat) (w' : World) : Prop := ∃ ra rc Q, BoxV X v.log v.next v.seq (.slice ra v.ts.length rc) w' ∧ RowQ Q w' (.slice ra v.ts.length rc) v.ts ∧ (∀ j, Q j → W.heap.size ≤ j ∧ j < w'.heap.size ∧ j ≠ X) ∧ W.heap.size ≤ X ∧ Below W.heap.size W w'
section
variable {W w7 : World} {v : Vr} {ra : Option Addr} {rc X : Nat}
theorem appS_new (hb : Below W.heap.size W w7) (hr : RowB w7 (.slice ra v.ts.length rc) v.ts) (ho : ∀ k, ob (.slice ra v.ts.length rc) = some k → W.heap.size ≤ k) :
    AppS W v w7.heap.size (w7.alloc (.cells #[.int .i64 v.log, .int .i64 v.next, .int .u64 (v.seq : Int), .slice ra v.ts.length rc] 63)) := by
  refine ⟨ra, rc, _, new_block _ _ rfl, (rowQ_of hr).kept fun j hj => Below.heap_alloc _ _ _ hj.2, fun j hj => ⟨ho j hj.1, ?_, ?_⟩, hb.size, hb.alloc hb.size _⟩
  · have := hj.2
    simp
    omega
  · have := hj.2
    omega
theorem appS_set (zb : BoxV X 0 0 0 (.slice none 0 0) w7) (hX : W.heap.size ≤ X) (hb : Below W.heap.size W w7) (hr : RowB w7 (.slice ra v.ts.length rc) v.ts) (ho : ∀ k, ob (.slice ra v.ts.length rc) = some k → W.heap.size ≤ k ∧ k ≠ X) :
    AppS W v X (set4V w7 X v.log v.next (v.seq : Int) (.slice ra v.ts.length rc)) :=
  ⟨ra, rc, _, zb.set4 _ _ _ _, (rowQ_of hr).kept fun j hj => set4V_block _ _ _ _ _ _ _ (ho j hj.1).2, fun j hj => ⟨(ho j hj.1).1, by rw [set4V_size]; exact hj.2, (ho j hj.1).2⟩, hX, set4V_below hb X hX _ _ _ _⟩
end
theorem apply_told (v : Vr) (e : Ed) (a aa da : Option Addr) (c ac dc : Nat) (W : World) (hT : TbsV W (.slice a v.ts.length c) v.ts) (hA : TbsV W (.slice aa e.add.length ac) e.add) (hD : IntsV W (.slice da e.drop.length dc) e.drop) (hl : v.ts.length ≤ 10000) (hv : WayV v) (he : e.Ok) (ha : Applies v e) :
    Calls Tryz.prog 28 #[.agg #[.int .i64 v.log, .int .i64 v.next, .int .u64 (v.seq : Int), .slice a v.ts.length c], .agg #[.int .i64 e.log, .int .i64 e.next, .int .u64 (e.seq : Int), .slice aa e.add.length ac, .slice da e.drop.length dc]] W fun x w' => ∃ ra rc, x = .returned (.tuple #[.agg #[.int .i64 (nextV v e).log, .int .i64 (nextV v e).next, .int .u64 ((nextV v e).seq : Int), .slice ra (nextV v e).ts.length rc], .int .i64 0]) ∧
      RowB w' (.slice ra (nextV v e).ts.length rc) (nextV v e).ts ∧ (∀ k, ob (.slice ra (nextV v e).ts.length rc) = some k → W.heap.size ≤ k) ∧ Below W.heap.size W w' := by
  obtain ⟨-, -, -, h4, h5, h6, h7⟩ := he
  refine (apply_any v e _ _ _ W hT hA hD hl h4 h5 hv.ok h6 h7).mono fun x w' h => ?_
  obtain ⟨h1, h2⟩ := h
  rcases h1 with ⟨h1, -⟩ | ⟨-, r', h1, h3, h4⟩
  · exact absurd ha h1
  · obtain ⟨ra, rc, rfl⟩ := h3.short
    exact ⟨ra, rc, h1, h3, h4, h2⟩
theorem apply_no (v : Vr) (e : Ed) (a aa da : Option Addr) (c ac dc : Nat) (W : World) (hT : TbsV W (.slice a v.ts.length c) v.ts) (hA : TbsV W (.slice aa e.add.length ac) e.add) (hD : IntsV W (.slice da e.drop.length dc) e.drop) (hl : v.ts.length ≤ 10000) (hv : WayV v) (he : e.Ok) (ha : ¬ Applies v e) :
    Calls Tryz.prog 28 #[.agg #[.int .i64 v.log, .int .i64 v.next, .int .u64 (v.seq : Int), .slice a v.ts.length c], .agg #[.int .i64 e.log, .int .i64 e.next, .int .u64 (e.seq : Int), .slice aa e.add.length ac, .slice da e.drop.length dc]] W fun x w' => x = .returned (.tuple #[.agg #[.int .i64 0, .int .i64 0, .int .u64 0, .slice none 0 0], .int .i64 4]) ∧ Below W.heap.size W w' := by
  obtain ⟨-, -, -, h4, h5, h6, h7⟩ := he
  refine (apply_any v e _ _ _ W hT hA hD hl h4 h5 hv.ok h6 h7).mono fun x w' h => ?_
  obtain ⟨h1, h2⟩ := h
  rcases h1 with ⟨-, h1⟩ | ⟨h1, -⟩
  · exact ⟨h1, h2⟩
  · exact absurd h1 ha
section
variable {w wr : World} {p M n m : Nat} {s s' : St} {er : Int} {mf : Mf} {brk : Bool} {Fx : Nat → Prop}
theorem mst_create (h : MSt w p M n m s mf brk Fx wr) (hN : n ≤ 100000) (name : ByteArray) (hn : name.size ≤ maxLen) (hr : s.create name.data.toList = (s', er)) :
    Calls Tryz.prog 36 #[.pointer (some ⟨p, 0, none⟩), .string name] wr fun e w' => e = .returned (.int .i64 er) ∧ MSt w p M (n + 2) m s' mf brk Fx w' ∧ Below w.heap.size wr w' ∧ ∀ j, Fx j → w'.heap[j]? = wr.heap[j]? := by
  obtain ⟨F, h1, h2⟩ := h.call
  refine (hs_create h1 hN name hn).mono ?_
  rintro e w' ⟨rfl, q1, q2, q3⟩
  rw [hr] at q1 ⊢
  exact ⟨rfl, (h2 _ _ _ _ q1 q2 q3).1, q2, (h2 _ _ _ _ q1 q2 q3).2⟩
theorem mst_append (h : MSt w p M n m s mf brk Fx wr) (hN : n ≤ 100000) (name : ByteArray) (hn : name.size ≤ maxLen) (data : ByteArray) (hM : m ≤ 1000000000) (hD : data.size ≤ 1000000000) (hr : s.append name.data.toList data.data.toList = (s', er)) :
    Calls Tryz.prog 34 #[.pointer (some ⟨p, 0, none⟩), .string name, .string data] wr fun e w' => e = .returned (.int .i64 er) ∧ MSt w p M (n + 1) (m + data.size) s' mf brk Fx w' ∧ Below w.heap.size wr w' ∧ ∀ j, Fx j → w'.heap[j]? = wr.heap[j]? := by
  obtain ⟨F, h1, h2⟩ := h.call
  refine (hs_append h1 hN name hn data hM hD).mono ?_
  rintro e w' ⟨rfl, q1, q2, q3⟩
  rw [hr] at q1 ⊢
  exact ⟨rfl, (h2 _ _ _ _ q1 q2 q3).1, q2, (h2 _ _ _ _ q1 q2 q3).2⟩
theorem mst_remove (h : MSt w p M n m s mf brk Fx wr) (hN : n ≤ 100000) (name : ByteArray) (hn : name.size ≤ maxLen) (hr : s.remove name.data.toList = (s', er)) :
    Calls Tryz.prog 35 #[.pointer (some ⟨p, 0, none⟩), .string name] wr fun e w' => e = .returned (.int .i64 er) ∧ MSt w p M (n + 2) m s' mf brk Fx w' ∧ Below w.heap.size wr w' ∧ ∀ j, Fx j → w'.heap[j]? = wr.heap[j]? := by
  obtain ⟨F, h1, h2⟩ := h.call
  refine (hs_remove h1 hN name hn).mono ?_
  rintro e w' ⟨rfl, q1, q2, q3⟩
  rw [hr] at q1 ⊢
  exact ⟨rfl, (h2 _ _ _ _ q1 q2 q3).1, q2, (h2 _ _ _ _ q1 q2 q3).2⟩
theorem mst_read (h : MSt w p M n m s mf brk Fx wr) (name : ByteArray) (hn : name.size ≤ maxLen) :
    Calls Tryz.prog 32 #[.pointer (some ⟨p, 0, none⟩), .string name] wr fun e w' => e = .returned (readV (s.read name.data.toList)) ∧ wr = w' := by
  obtain ⟨F, h1, -⟩ := h.call
  exact hs_read h1 name hn
theorem mst_names (h : MSt w p M n m s mf brk Fx wr) (hN : n ≤ 1000000) :
    Calls Tryz.prog 33 #[.pointer (some ⟨p, 0, none⟩)] wr fun e w' => ∃ v, e = .returned v ∧ Row w' 9 1 v s.names.length (nmVals s.names) ∧ Below wr.heap.size wr w' := by
  obtain ⟨F, h1, -⟩ := h.call
  exact (hs_names h1 hN).mono fun e w' ⟨v, h1, h2, _, h3⟩ => ⟨v, h1, h2, h3⟩
/-- An Open whose manifest and version are passed by. -/
theorem mst_open_weak (h : MSt w p M n m s mf brk Fx wr) (hN : n ≤ 50000) (hM : m ≤ 700000000) (K : Nat) (hG : GoodO K s) (er : Int) (mr : Mf) (hr : openM s = (s', er, mr)) (hl : er = 0 → mr.v.ts.length ≤ 10000) :
    Calls Tryz.prog 15 #[.pointer (some ⟨p, 0, none⟩)] wr fun e w' => ∃ (pv : Value) (x0 x1 x2 : Int) (xa : Option Addr) (xn xc : Nat), e = .returned (.tuple #[pv, .agg #[.int .i64 x0, .int .i64 x1, .int .u64 x2, .slice xa xn xc], .int .i64 er]) ∧ MSt w p M (n + 24) (m + K + 9) s' mf brk Fx w' ∧ Below w.heap.size wr w' ∧ ∀ j, Fx j → w'.heap[j]? = wr.heap[j]? := by
  refine (mst_open h hN hM K hG s' er mr hr hl).mono ?_
  rintro e w' ⟨h1, h2, h3, ⟨-, rfl⟩ | ⟨rfl, M', ra, rc, Q2, rfl, -⟩⟩
  · exact ⟨_, _, _, _, _, _, _, rfl, h3, h1, h2⟩
  · exact ⟨_, _, _, _, _, _, _, rfl, h3, h1, h2⟩
end
theorem start_lit {w w' : World} {p n m : Nat} {sr : St} {e : Ending} (h : Below w.heap.size w w' ∧ (((0 : Int) ≠ 0 ∧ e = .returned (.tuple #[.pointer none, .agg #[.int .i64 0, .int .i64 0, .int .u64 0, .slice none 0 0], .int .i64 0]) ∧ Hs (fun k => k < w.heap.size) w.heap.size p n m sr w') ∨
      ((0 : Int) = 0 ∧ ∃ M ra rc Q2, e = .returned (.tuple #[.pointer (some ⟨M, 0, none⟩), .agg #[.int .i64 vStart.log, .int .i64 vStart.next, .int .u64 (vStart.seq : Int), .slice ra vStart.ts.length rc], .int .i64 0]) ∧ MSt w p M n m sr ⟨1, vStart⟩ false Q2 w' ∧ RowQ Q2 w' (.slice ra vStart.ts.length rc) vStart.ts))) :
    ∃ M ra rc Q2, e = .returned (.tuple #[.pointer (some ⟨M, 0, none⟩), .agg #[.int .i64 2, .int .i64 2, .int .u64 0, .slice ra 0 rc], .int .i64 0]) ∧ MSt w p M n m sr ⟨1, vStart⟩ false Q2 w' ∧ RowQ Q2 w' (.slice ra 0 rc) [] := by
  rcases h with ⟨-, ⟨h0, -⟩ | ⟨-, h⟩⟩
  · exact absurd rfl h0
  · exact h
theorem opens_ok {w wr w' : World} {p n m : Nat} {sr : St} {mr : Mf} {Fx : Nat → Prop} {e : Ending} (h : OpenS w p n m sr 0 mr Fx wr e w') :
    ∃ M' ra rc Q2, e = .returned (.tuple #[.pointer (some ⟨M', 0, none⟩), .agg #[.int .i64 mr.v.log, .int .i64 mr.v.next, .int .u64 (mr.v.seq : Int), .slice ra mr.v.ts.length rc], .int .i64 0]) ∧ MSt w p M' n m sr mr false (fun j => Fx j ∨ Q2 j) w' ∧ RowQ Q2 w' (.slice ra mr.v.ts.length rc) mr.v.ts ∧ ∀ j, Q2 j → wr.heap.size ≤ j := by
  rcases h with ⟨h0, -⟩ | ⟨-, h⟩
  · exact absurd rfl h0
  · exact h
end Go.Proofs.YtlecffpjcjlabaaGreat
