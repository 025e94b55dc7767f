/- ManiWhole: what holds as a round begins, and behind the loop. -/
import Derived.Test.YtlecffpjcjlabaaGreatP13X
import Derived.Test.YtlecffpjcjlabaaGreatPVE13
import Derived.Test.YtlecffpjcjlabaaGreatP13N
namespace Go.Proofs.YtlecffpjcjlabaaGreat
open Go.RowKit

/-- The last version that was OK, the one under way, and what the files hold. -/
structure WSt (now nx : Vr) (N : Int) (T : Nat) (s : St) (m : Mf) (br : Bool) : Prop where
  snd : Sound (ConM (MayV now nx N) False) s
  right : RightV now
  few : now.ts.length ≤ T
  few2 : nx.ts.length ≤ T
  on : s.on = true → br = false ∧ ∃ rs z, WholeI now N T s m rs z
section
variable {now nx : Vr} {N : Int} {T : Nat} {s : St} {m : Mf} {br : Bool}
theorem WSt.more {N' : Int} {T' : Nat} (h : WSt now nx N T s m br) (hN : N ≤ N') (hT : T ≤ T') : WSt now nx N' T' s m br :=
  ⟨h.snd.mono fun f hf => conM_mono hf (fun _ _ q => q.more hN) (fun x => x), h.right, Nat.le_trans h.few hT, Nat.le_trans h.few2 hT, fun ho => ⟨(h.on ho).1, by
    obtain ⟨-, rs, z, k⟩ := h.on ho
    exact ⟨rs, z, k.held, k.like, k.low, Int.le_trans k.high hN, Nat.le_trans k.few hT, k.size⟩⟩⟩
theorem WSt.step (h : WSt now nx N T s m br) (ho : s.on = true) {e : Ed} (ha : Applies now e) (h1 : e.add.length ≤ 40) (h2 : e.drop.length ≤ 10000) (hT : T ≤ 9000) (hN0 : 1000000 ≤ N) (hN : N ≤ 50000000) (he : e.next ≤ 1000000) {sr : St} {er : Int} {mr : Mf} {br' : Bool} (hr : addM s m false e = (sr, er, mr, br')) :
    (er = 0 → WSt (nextV now e) (nextV now e) (N + 1) (T + 40) sr mr br') ∧ (er ≠ 0 → WSt now (nextV now e) (N + 1) (T + 40) sr mr br') := by
  obtain ⟨-, rs, z, k⟩ := h.on ho
  have hnl := next_len now e
  have hfew := h.few
  by_cases hc : canB e = true
  · have hst := k.step ho hc ha h1 h2 hT hN0 hN he
    rw [hr] at hst
    simp only at hst
    obtain ⟨a1, a2, a3⟩ := hst
    refine ⟨fun hz => ?_, fun hz => ⟨a1, h.right, by omega, by omega, fun hon => absurd hon (by rw [a3 hz]; simp)⟩⟩
    obtain ⟨b1, rs', z', b2⟩ := a2 hz
    exact ⟨b2.sound _ False, ha.2, by omega, by omega, fun _ => ⟨b1, rs', z', b2⟩⟩
  · rw [addM_1 (by simpa using hc)] at hr
    have e1 := (Prod.mk.inj hr).1
    have e2 := (Prod.mk.inj (Prod.mk.inj hr).2).1
    have e3 := (Prod.mk.inj (Prod.mk.inj (Prod.mk.inj hr).2).2).1
    have e4 := (Prod.mk.inj (Prod.mk.inj (Prod.mk.inj hr).2).2).2
    subst e1 e2 e3 e4
    refine ⟨fun x => absurd x (by decide), fun _ => ⟨(k.sound (nextV now e) False).mono fun f hf => conM_mono hf (fun _ _ q => q.more (by omega)) (fun x => x), h.right, by omega, by omega, fun _ => ⟨rfl, rs, z, k.held, k.like, k.low, by have := k.high; omega, by have := k.few; omega, k.size⟩⟩⟩
end
/-- A version in a box at X, its tables in blocks R. -/
def VerAt (R : Nat → Prop) (X : Nat) (v : Vr) (w : World) : Prop := ∃ ra rc, BoxV X v.log v.next v.seq (.slice ra v.ts.length rc) w ∧ RowQ R w (.slice ra v.ts.length rc) v.ts
theorem VerAt.kept {R R' : Nat → Prop} {X : Nat} {v : Vr} {w w' : World} (h : VerAt R X v w) (hX : w'.heap[X]? = w.heap[X]?) (hR : ∀ j, R j → w'.heap[j]? = w.heap[j]?) (hRR : ∀ j, R j → R' j) : VerAt R' X v w' := by
  obtain ⟨ra, rc, h1, h2⟩ := h
  exact ⟨ra, rc, hX.trans h1, fun w'' hw => h2 w'' fun j hj => (hw j (hRR j hj)).trans (hR j hj)⟩
/-- What holds as the i-th round begins. -/
def SW (p M X Z i : Nat) (w wr : World) : Prop := ∃ (now nx : Vr) (s : St) (m : Mf) (br : Bool) (R : Nat → Prop), WSt now nx (1000000 + (i : Int)) (40 * i) s m br ∧ MSt w p M (24 + 24 * i) (5000 + 2300000 * i) s m br (fun j => (j = X ∨ j = Z) ∨ R j) wr ∧ VerAt R X now wr ∧ VerAt R Z nx wr ∧ (∀ j, R j → j ≠ X ∧ j ≠ Z) ∧ X ≠ Z
/-- Behind the loop. -/
def WEnd (p X Z : Nat) (er : Int) (w wx : World) : Prop := ∃ (s : St) (now nx : Vr) (R : Nat → Prop), Hs (fun j => j < w.heap.size ∨ (j = X ∨ j = Z) ∨ R j) w.heap.size p 1000 100000000 s wx ∧ VerAt R X now wx ∧ VerAt R Z nx wx ∧ (∀ j, R j → j ≠ X ∧ j ≠ Z) ∧ X ≠ Z ∧ Below w.heap.size w wx ∧ now.ts.length ≤ 2000 ∧ nx.ts.length ≤ 2000 ∧ w.heap.size ≤ X ∧ w.heap.size ≤ Z ∧
  (er = 0 → Sound (ConM (MayV now nx 1000030) False) s) ∧ (er ≠ 0 → ∃ C, Sound (ConM C True) s ∧ ∀ j v, C j v → v = vStart ∧ FitV j v)
section
variable {p M X Z i : Nat} {w wr w' : World} {now nx nv : Vr} {s : St} {m : Mf} {br : Bool} {R : Nat → Prop}
theorem sw_no (hW : WSt now nx (1000000 + (i : Int)) (40 * i) s m br) (hM : MSt w p M (24 + 24 * i) (5000 + 2300000 * i) s m br (fun j => (j = X ∨ j = Z) ∨ R j) wr) (hX : VerAt R X now wr) (hZ : VerAt R Z nx wr) (hR : ∀ j, R j → j ≠ X ∧ j ≠ Z) (hXZ : X ≠ Z) (b : Below wr.heap.size wr w') : SW p M X Z (i + 1) w w' := by
  have hlt := hM.lt
  exact ⟨now, nx, s, m, br, R, hW.more (by omega) (by omega), (hM.same b).up (by omega) (by omega), hX.kept (b.block X (hlt X (.inl (.inl rfl)))) (fun j hj => b.block j (hlt j (.inr hj))) fun _ x => x, hZ.kept (b.block Z (hlt Z (.inl (.inr rfl)))) (fun j hj => b.block j (hlt j (.inr hj))) fun _ x => x, hR, hXZ⟩
theorem sw_end (hi : i ≤ 30) (h : SW p M X Z i w wr) : WEnd p X Z 0 w wr := by
  obtain ⟨now, nx, s, m, br, R, hW, hM, hX, hZ, hR, hXZ⟩ := h
  obtain ⟨a, c, Q, h1, -⟩ := (hM.up (n' := 1000) (m' := 100000000) (by omega) (by omega)).ex
  refine ⟨s, now, nx, R, h1.fewer fun j hj => ?_, hX, hZ, hR, hXZ, hM.bel, by have := hW.few; omega, by have := hW.few2; omega, hM.fx X (.inl (.inl rfl)), hM.fx Z (.inl (.inr rfl)), fun _ => hW.snd.mono fun f hf => conM_mono hf (fun _ _ q => q.more (by omega)) (fun x => x), fun x => absurd rfl x⟩
  rcases hj with hj | hj
  · exact .inl (.inl hj)
  · exact .inr hj
/-- An edit that applies: the version in its box X6, stored into Z. -/
theorem sw_stored {n m' X6 : Nat} {W6 : World} {ra : Option Addr} {rc : Nat} {Q6 : Nat → Prop} (hM : MSt w p M n m' s m br (fun j => (j = X ∨ j = Z) ∨ R j) wr) (hX : VerAt R X now wr) (hR : ∀ j, R j → j ≠ X ∧ j ≠ Z) (hXZ : X ≠ Z) (zl zn : Int) (zq : Nat) (zv : Value) (hZ : BoxV Z zl zn zq zv W6)
    (h1 : BoxV X6 nv.log nv.next nv.seq (.slice ra nv.ts.length rc) W6) (h2 : RowQ Q6 W6 (.slice ra nv.ts.length rc) nv.ts) (h3 : ∀ j, Q6 j → wr.heap.size ≤ j ∧ j < W6.heap.size ∧ j ≠ X6) (h4 : wr.heap.size ≤ X6) (h5 : Below wr.heap.size wr W6) :
    MSt w p M n m' s m br (fun j => (j = X ∨ j = Z) ∨ (R j ∨ j = X6 ∨ Q6 j)) (set4V W6 Z nv.log nv.next (nv.seq : Int) (.slice ra nv.ts.length rc)) ∧ VerAt (fun j => R j ∨ j = X6 ∨ Q6 j) X now (set4V W6 Z nv.log nv.next (nv.seq : Int) (.slice ra nv.ts.length rc)) ∧
      VerAt (fun j => R j ∨ j = X6 ∨ Q6 j) Z nv (set4V W6 Z nv.log nv.next (nv.seq : Int) (.slice ra nv.ts.length rc)) ∧ (∀ j, R j ∨ j = X6 ∨ Q6 j → j ≠ X ∧ j ≠ Z) ∧ BoxV X6 nv.log nv.next nv.seq (.slice ra nv.ts.length rc) (set4V W6 Z nv.log nv.next (nv.seq : Int) (.slice ra nv.ts.length rc)) ∧ Below w.heap.size w (set4V W6 Z nv.log nv.next (nv.seq : Int) (.slice ra nv.ts.length rc)) := by
  have hlt := hM.lt
  have hsz := hM.size
  have hXl := hlt X (.inl (.inl rfl))
  have hZl := hlt Z (.inl (.inr rfl))
  have hZw := hM.fx Z (.inl (.inr rfl))
  have hk : ∀ j, j ≠ Z → (set4V W6 Z nv.log nv.next (nv.seq : Int) (.slice ra nv.ts.length rc)).heap[j]? = W6.heap[j]? := fun j hj => set4V_block _ _ _ _ _ _ _ hj
  have hM6 : MSt w p M n m' s m br (fun j => (j = X ∨ j = Z) ∨ (R j ∨ j = X6 ∨ Q6 j)) W6 := hM.made h5 fun j hj => by
    rcases hj with hj | hj | hj | hj
    · exact .inl (.inl hj)
    · exact .inl (.inr hj)
    · exact .inr ⟨by omega, by rw [hj]; exact h1.lt⟩
    · exact .inr ⟨(h3 j hj).1, (h3 j hj).2.1⟩
  have hne : ∀ j, R j ∨ j = X6 ∨ Q6 j → j ≠ X ∧ j ≠ Z := fun j hj => by
    rcases hj with hj | hj | hj
    · exact hR j hj
    · omega
    · have := h3 j hj; omega
  refine ⟨hM6.wrote (set4V_size _ _ _ _ _ _) (set4V_below hM6.bel Z hZw _ _ _ _) fun j hj => hk j fun e => hj (.inl (.inr e)), ?_, ?_, hne, (hk X6 (by omega)).trans h1, set4V_below hM6.bel Z hZw _ _ _ _⟩
  · exact hX.kept ((hk X hXZ).trans (h5.block X hXl)) (fun j hj => (hk j (hR j hj).2).trans (h5.block j (hlt j (.inr hj)))) fun j hj => .inl hj
  · exact ⟨ra, rc, hZ.set4 _ _ _ _, fun w'' hw => h2 w'' fun j hj => (hw j (.inr (.inr hj))).trans (hk j (hne j (.inr (.inr hj))).2)⟩
/-- Add was OK: the version is stored into X, too. -/
theorem sw_ok {n m' X6 : Nat} {W8 : World} {ra : Option Addr} {rc : Nat} {xl xn : Int} {xq : Nat} {xv : Value} (hW : WSt nv nv (1000000 + (i : Int) + 1) (40 * i + 40) s m br) (hM : MSt w p M n m' s m br (fun j => (j = X ∨ j = Z) ∨ R j) W8) (hn : n ≤ 24 + 24 * (i + 1)) (hm : m' ≤ 5000 + 2300000 * (i + 1)) (hX : BoxV X xl xn xq xv W8) (hZ : VerAt R Z nv W8) (hR : ∀ j, R j → j ≠ X ∧ j ≠ Z) (hXZ : X ≠ Z)
    (h2 : RowQ R W8 (.slice ra nv.ts.length rc) nv.ts) (_ : BoxV X6 nv.log nv.next nv.seq (.slice ra nv.ts.length rc) W8) : SW p M X Z (i + 1) w (set4V W8 X nv.log nv.next (nv.seq : Int) (.slice ra nv.ts.length rc)) := by
  have hXw := hM.fx X (.inl (.inl rfl))
  have hk : ∀ j, j ≠ X → (set4V W8 X nv.log nv.next (nv.seq : Int) (.slice ra nv.ts.length rc)).heap[j]? = W8.heap[j]? := fun j hj => set4V_block _ _ _ _ _ _ _ hj
  refine ⟨nv, nv, s, m, br, R, hW.more (by omega) (by omega), (hM.wrote (set4V_size _ _ _ _ _ _) (set4V_below hM.bel X hXw _ _ _ _) fun j hj => hk j fun e => hj (.inl (.inl e))).up hn hm, ?_, ?_, hR, hXZ⟩
  · exact ⟨ra, rc, hX.set4 _ _ _ _, h2.kept fun j hj => hk j (hR j hj).1⟩
  · exact hZ.kept (hk Z (Ne.symm hXZ)) (fun j hj => hk j (hR j hj).1) fun _ x => x
theorem mst_on {n m' : Nat} {Fx : Nat → Prop} {b : Bool} (h : MSt w p M n m' s m br Fx wr) (hb : s.on = b) : Calls Tryz.prog 27 #[.pointer (some ⟨p, 0, none⟩)] wr fun e w' => e = .returned (.bool b) ∧ wr = w' := by
  obtain ⟨F, h1, -⟩ := h.call
  rw [← hb]
  exact hs_on h1
end
theorem hs_fuse13 {F : Nat → Prop} {B p n m : Nat} {s : St} {w : World} (h : Hs F B p n m s w) (k : Int) (hk : k ≤ 9223372036854775807) : Calls Tryz.prog 26 #[.pointer (some ⟨p, 0, none⟩), .int .i64 k] w fun e w' => e = .returned (.tuple #[]) ∧ Hs F B p n m { s with fuse := k } w' ∧ Below B w w' ∧ Kp F w w' := by
  have hB := h.size
  obtain ⟨r, h1, rfl, h3, h4, h5, h6⟩ := h
  refine (fuse_any h1 k).mono ?_
  rintro e w' ⟨rfl, hn'⟩
  exact ⟨rfl, Hs.next hB h3 rfl hn' ⟨h4.s0, h4.s1, h4.dirs, h4.nowl, h4.files, h4.bytes, hk, h4.bad, h4.room⟩ (h5.of rfl rfl rfl) h6⟩
/-- The first Open, whatever it answers. -/
theorem start_any {w w1 : World} {p n m K : Nat} {s sr : St} {er : Int} {mr : Mf} (hb : Below w.heap.size w w1) (h : Hs (fun k => k < w.heap.size) w.heap.size p n m s w1) (hN : n ≤ 50000) (hM : m ≤ 700000000) (hG : GoodO K s) (hr : openM s = (sr, er, mr)) (hl : er = 0 → mr.v.ts.length ≤ 10000) :
    Calls Tryz.prog 15 #[.pointer (some ⟨p, 0, none⟩)] w1 fun e w' => ∃ (pv : Value) (v0 : Vr) (ra : Option Addr) (rc : Nat) (Qr : Nat → Prop), e = .returned (.tuple #[pv, .agg #[.int .i64 v0.log, .int .i64 v0.next, .int .u64 (v0.seq : Int), .slice ra v0.ts.length rc], .int .i64 er]) ∧ Below w.heap.size w w' ∧ Hs (fun j => j < w.heap.size ∨ Qr j) w.heap.size p (n + 24) (m + K + 9) sr w' ∧ RowQ Qr w' (.slice ra v0.ts.length rc) v0.ts ∧ (∀ j, Qr j → w.heap.size ≤ j) ∧
      (er = 0 → v0 = mr.v ∧ ∃ M, pv = .pointer (some ⟨M, 0, none⟩) ∧ MSt w p M (n + 24) (m + K + 9) sr mr false Qr w') ∧ (er ≠ 0 → v0 = Vr.zero) := by
  refine (mst_start hb h hN hM K hG sr er mr hr hl).mono ?_
  rintro e w' ⟨hbw, ⟨hz, rfl, h1⟩ | ⟨hz, M, ra, rc, Q2, rfl, h1, h2⟩⟩
  · exact ⟨_, Vr.zero, none, 0, fun _ => False, rfl, hbw, h1.fewer fun j hj => hj.elim id False.elim, fun w'' _ => row_nilB w'', fun _ x => x.elim, fun x => absurd x hz, fun _ => rfl⟩
  · subst hz
    obtain ⟨a, c, Q, g1, -⟩ := h1.ex
    refine ⟨_, mr.v, ra, rc, Q2, rfl, hbw, g1.fewer fun j hj => ?_, h2, h1.fx, fun _ => ⟨rfl, M, rfl, h1⟩, fun x => absurd rfl x⟩
    rcases hj with hj | hj
    · exact .inl (.inl hj)
    · exact .inr hj
/-- An Open of which nothing is kept. -/
theorem openV_fs {F : Nat → Prop} {B p n m K : Nat} {sr : St} {er : Int} {mr : Mf} {w w' : World} {e : Ending} (h : OpenV F B p n m K sr er mr w e w') : ∃ v, e = .returned v ∧ FsV F B p (n + 24) (m + K + 9) sr w w' := by
  rcases h with ⟨-, rfl, h⟩ | ⟨-, M, a, c, Q, ra, rc, Q2, rfl, q⟩
  · exact ⟨_, rfl, h⟩
  · exact ⟨_, rfl, q.hs.fewer fun j hj => .inl hj, q.bel, q.kp⟩
/-- The last Open: the version, its tables in new blocks. -/
theorem openV_last {F : Nat → Prop} {B p n m K : Nat} {sr : St} {mr : Mf} {w w' : World} {e : Ending} (h : OpenV F B p n m K sr 0 mr w e w') :
    ∃ M ra rc Q2, e = .returned (.tuple #[.pointer (some ⟨M, 0, none⟩), .agg #[.int .i64 mr.v.log, .int .i64 mr.v.next, .int .u64 (mr.v.seq : Int), .slice ra mr.v.ts.length rc], .int .i64 0]) ∧ RowQ Q2 w' (.slice ra mr.v.ts.length rc) mr.v.ts ∧ (∀ j, Q2 j → j < w'.heap.size) ∧ Below B w w' ∧ Kp F w w' ∧ ∀ j, F j → j < w'.heap.size := by
  rcases h with ⟨h0, -⟩ | ⟨-, M, a, c, Q, ra, rc, Q2, rfl, q⟩
  · exact absurd rfl h0
  · exact ⟨M, ra, rc, Q2, rfl, q.row2, fun j hj => q.hs.lt j (.inr (.inr (.inr hj))), q.bel, q.kp, fun j hj => q.hs.lt j (.inl hj)⟩
theorem tail_facts {s : St} {now nx : Vr} {er : Int} (h0 : er = 0 → Sound (ConM (MayV now nx 1000030) False) s) (h1 : er ≠ 0 → ∃ C, Sound (ConM C True) s ∧ ∀ j v, C j v → v = vStart ∧ FitV j v) (dir dir2 agn : Int) (ks ks2 : List Int) :
    ∃ sA eA mA sB mB, openM { again s dir ks with fuse := agn } = (sA, eA, mA) ∧ GoodO 7000000 { again s dir ks with fuse := agn } ∧ (eA = 0 → mA.v.ts.length ≤ 10000) ∧ openM (again sA dir2 ks2) = (sB, 0, mB) ∧ GoodO 7000000 (again sA dir2 ks2) ∧ mB.v.ts.length ≤ 10000 ∧ (er = 0 → (Like mB.v now ∨ Like mB.v nx) ∧ now.next ≤ mB.v.next) ∧ (er ≠ 0 → mB.v.ts = [] ∧ 2 ≤ mB.v.next ∧ mB.v.next ≤ 4) := by
  by_cases he : er = 0
  · obtain ⟨g1, g2, g3, g4, g5⟩ := whole_found (by omega) (h0 he) dir dir2 agn ks ks2
    exact ⟨_, _, _, _, _, rfl, g1, g2, Prod.ext rfl (Prod.ext g4 rfl), g3, g5.1.few, fun _ => ⟨g5.2.1, g5.2.2.1⟩, fun x => absurd he x⟩
  · obtain ⟨C, q1, q2⟩ := h1 he
    obtain ⟨g1, g2, g3, g4, g5⟩ := first_found q1 q2 dir dir2 agn ks ks2
    exact ⟨_, _, _, _, _, rfl, g1, g2, Prod.ext rfl (Prod.ext g4 rfl), g3, g5.1.few, fun x => absurd x he, fun _ => ⟨g5.2.1, g5.2.2.1, g5.2.2.2⟩⟩
end Go.Proofs.YtlecffpjcjlabaaGreat
