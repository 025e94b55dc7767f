/- mani: whole, a manifest in memory, lay, replay, layAnew (I3 I4 I5 I6). -/
import Derived.Test.YtlecffpjcjlabaaGreatIM1
import Derived.Test.YtlecffpjcjlabaaGreatXSM
import Derived.Test.YtlecffpjcjlabaaGreatPM1
import Derived.Deep.DeepCutAuto
namespace Go.Proofs.YtlecffpjcjlabaaGreat
open Go.RowKit Go.Shelf

theorem ints_nil (w : World) : IntsV w (.slice none 0 0) [] := .inl ⟨rfl, rfl⟩
theorem right_short {v : Vr} (h : RightV v) : ∀ t ∈ v.ts, t.Ok ∧ t.Short := fun t ht => by
  have h1 := h.1
  have := h.2.1 t ht
  unfold TabOk at this
  unfold Tb.Ok Tb.Short maxLen
  omega
theorem whole_ok {v : Vr} (h : RightV v) (hl : v.ts.length ≤ 10000) : (wholeE v).Ok := by
  have h1 := h.1
  exact ⟨by show v.log ≤ _; omega, by show v.next ≤ _; omega, by show v.seq < _; omega, hl, by show (0 : Nat) ≤ _; omega, right_short h, fun k hk => by cases hk⟩
theorem whole_putV {v : Vr} (h : RightV v) (hl : v.ts.length ≤ 10000) : PutV (wholeE v) = .tuple #[.string ⟨(putE (wholeE v)).toArray⟩, .int .i64 0] := by
  unfold PutV
  rw [canB_fits (whole_fits h hl)]
  rfl
theorem wholeB_len {v : Vr} (h : RightV v) (hl : v.ts.length ≤ 10000) : (putE (wholeE v)).length ≤ 6700000 ∧ (wholeB v).length = 8 + (putE (wholeE v)).length := by
  have h1 := putE_len3 _ (whole_fits h hl)
  have e1 : (wholeE v).add.length = v.ts.length := rfl
  have e2 : (wholeE v).drop.length = 0 := rfl
  rw [e1, e2] at h1
  refine ⟨by omega, ?_⟩
  unfold wholeB
  rw [show frames [putE (wholeE v)] = frm (putE (wholeE v)) by simp [frames], frm_length]
set_option maxHeartbeats 4000000 in
set_option maxRecDepth 100000 in
theorem mwhole_any (v : Vr) (vv : Value) (w : World) (hT : TbsV w vv v.ts) (hv : RightV v) (hl : v.ts.length ≤ 10000) :
    Calls Tryz.prog 234 #[verV v.log v.next v.seq vv] w fun e w' => e = .returned (.string ⟨(wholeB v).toArray⟩) ∧ Below w.heap.size w w' := by
  obtain ⟨i0, hi, hz0, hz1, hz2⟩ := info_parts infoStr
  obtain ⟨W1, hW1⟩ : ∃ W1, w.alloc (.cells #[.int .i64 v.log, .int .i64 v.next, .int .u64 (v.seq : Int), vv] 63) = W1 := ⟨_, rfl⟩
  have b1 : Below w.heap.size w W1 := by rw [← hW1]; exact (Below.refl _ _).alloc (Nat.le_refl _) _
  have x1 : BoxV w.heap.size v.log v.next v.seq vv W1 := by rw [← hW1]; exact new_block _ _ rfl
  have CW := Lib.hid (whole_any v vv W1 (hT.below b1) hl (fun t ht => (right_short hv t ht).2))
  have CP := Lib.hid (show ∀ (W : World) (a : Option Addr) (c : Nat), TbsV W (.slice a v.ts.length c) v.ts → Calls Tryz.prog 40 #[.agg #[.int .i64 v.log, .int .i64 v.next, .int .u64 (v.seq : Int), .slice a v.ts.length c, .slice none 0 0]] W fun x w' => x = .returned (.tuple #[.string ⟨(putE (wholeE v)).toArray⟩, .int .i64 0]) ∧ Below W.heap.size W w' from fun W a c hA => by
    rw [← whole_putV hv hl]
    exact put_any (wholeE v) _ _ W hA (ints_nil W) (whole_ok hv hl))
  have hlen := (wholeB_len hv hl).1
  obtain ⟨PB, hPB⟩ : ∃ PB : ByteArray, (⟨(putE (wholeE v)).toArray⟩ : ByteArray) = PB := ⟨_, rfl⟩
  have hPs : PB.size ≤ 6700000 := by rw [← hPB, show (⟨(putE (wholeE v)).toArray⟩ : ByteArray).size = (putE (wholeE v)).length by simp [ByteArray.size]]; exact hlen
  have hPl : PB.data.toList = putE (wholeE v) := by rw [← hPB]
  rw [hPB] at CP
  have CF := Lib.hid (show ∀ (W : World) (g cap : Nat), W.cell? ⟨g, 0, none⟩ = some (.string PB) → Calls Tryz.prog 157 #[.slice (some ⟨g, 0, none⟩) 1 cap] W fun e w' => e = .returned (.string ⟨(wholeB v).toArray⟩) ∧ Below W.heap.size W w' from fun W g cap hc => by
    have := frame_rows g 0 cap [PB] W (World.block_lt_of_cell? W _ hc) (by simp) (by simp [total]; omega) (fun i hi => by
      obtain rfl : i = 0 := by simp at hi; omega
      exact hc)
    rw [show frames (texts [PB]) = wholeB v by unfold wholeB; rw [← hPl]; rfl] at this
    exact this)
  unfold verV at CW
  unfold verV ediV at *
  have c0 := x1.c0
  have c1 := x1.c1
  have c2 := x1.c2
  have c3 := x1.c3
  clear hT hPB hPl hlen
  go_enter Tryz.func234, Tryz.ntmps234
  go_wp2_with fail
  try rw [hW1]
  clear hW1
  go_at_call 271
  (with_reducible refine CW.out.mono ?_)
  rintro _ w2 ⟨r, rfl, hr, ho, hb2⟩
  obtain ⟨a, c, rfl⟩ := hr.short
  obtain ⟨a', c', e', hle, -⟩ := Row.le hr
  cases e'
  obtain ⟨L, hL⟩ : ∃ L, v.ts.length = L := ⟨_, rfl⟩
  rw [hL] at CP hr ho hle hl
  obtain ⟨W2, hW2⟩ : ∃ W2, w2.alloc (.cells #[.int .i64 v.log, .int .i64 v.next, .int .u64 (v.seq : Int), .slice a L c, .slice none 0 0] 52) = W2 := ⟨_, rfl⟩
  have b2 : Below w2.heap.size w2 W2 := by rw [← hW2]; exact (Below.refl _ _).alloc (Nat.le_refl _) _
  have z2 : BoxEd w2.heap.size v.log v.next v.seq (.slice a L c) (.slice none 0 0) W2 := by rw [← hW2]; exact new_block _ _ rfl
  have hT2 : ∀ W, Below w2.heap.size w2 W → TbsV W (.slice a L c) v.ts := fun W hb => (by rw [← hL] at hr ⊢; exact hr.v : TbsV w2 (.slice a L c) v.ts).below hb
  have hmin : ∀ (ts : Array TypeId) (t : TypeId) (w : World), (Builtin.min_ ts t #[.int .i64 (L : Int), .int .i64 10000]).run Tryz.prog w = .ok (.int .i64 (L : Int)) w := fun ts t w => by
    rw [run_min_int2]; congr 2; split <;> omega
  have q0 := z2.c0
  have q1 := z2.c1
  have q2 := z2.c2
  have q3 := z2.c3
  have q4 := z2.c4
  have qf := z2.f 3
  have HZ := Lib.hid z2
  have HT2 := Lib.hid hT2
  have HB2 := Lib.hid b2
  have HBB := Lib.hid hb2
  have HB1 := Lib.hid b1
  have HW2 := Lib.hid hW2
  clear b1 x1 b2 z2 hT2 hr ho hb2 CW hv hW2
  go_wp2_with fail
  rw [HW2.out]
  refine wp_loop_rounds 1 ?_
  rw [rounds_succ]
  go_upto_region 5 with fail
  have k1 : (L : Int) ≤ (c : Int) := by omega
  have k2 : (0 : Int) ≤ (L : Int) := by omega
  obtain ⟨W3, hW3⟩ : ∃ W3, W2.setCell ⟨w2.heap.size, 3, none⟩ (.slice a L c) = W3 := ⟨_, rfl⟩
  have z3 : BoxEd w2.heap.size v.log v.next v.seq (.slice a L c) (.slice none 0 0) W3 := by rw [← hW3]; exact HZ.out.set 3 _ _ _ _ _ _ rfl
  have b3 : Below w2.heap.size w2 W3 := by rw [← hW3]; exact HB2.out.setCell (p := ⟨w2.heap.size, 3, none⟩) (Nat.le_refl _) _
  have HW3 := Lib.hid hW3
  have HC3 := Lib.hid (CP.out W3.drew a c (HT2.out _ b3.drew))
  have HB3 := Lib.hid b3.drew
  have r0 := z3.c0
  have r1 := z3.c1
  have r2 := z3.c2
  have r3 := z3.c3
  have r4 := z3.c4
  clear hW3 z3 b3 CP
  go_region_with fail
  rw [HW3.out]
  generalize (if c = L then a else Option.map (fun x : Addr => x.add (L * 5)) a) = A'
  obtain ⟨C', hC'⟩ : ∃ C', c - L = C' := ⟨_, rfl⟩
  rw [hC']
  clear HW3 hC' q0 q1 q2 q3 q4 qf HZ
  go_wp2_with fail
  go_at_call 40
  (with_reducible refine HC3.out.mono ?_)
  rintro _ w5 ⟨rfl, b5⟩
  have hown : w5.ownsRow w5.heap.size 9 1 (.slice none 0 0) 0 [] := World.ownsRow_nil _ _ _ _
  have HB5 := Lib.hid (HB3.out.trans (b5.mono HB3.out.size))
  clear b5 HC3
  go_wp2_with (at_builtin; refine wpList_append_own _ rfl _ _ 92 rfl w5.heap.size 9 i0 (.string ⟨#[]⟩) 1 16 Tryz.underlying92 hi hz0 hz1 hz2 rfl (by decide) _ _ _ rfl (hown.alloc _) ⟨w5.heap.size, 0, none⟩ 1 1 [.string PB] rfl rfl ?c1 ?c2 ?c3 ?c4 ?c5 ?_)
  case c1 =>
    intro j u hj
    match j, hj with
    | 0, hj => simp at hj; subst hj; simp [Addr.add]
  case c2 => intro u hu; simp at hu; subst hu; rfl
  case c3 => unfold maxLen; omega
  case c4 => omega
  case c5 => simp
  intro v' w6 hown' hgrow _
  have hb6 : Below w5.heap.size w5 w6 := ((Below.refl _ _).alloc (Nat.le_refl _) _).grown hgrow (by simp) (fun k hk => (hown.lt k hk).1)
  have HB6 := Lib.hid (HB5.out.trans (hb6.mono HB5.out.size))
  obtain ⟨g, cap, rfl, hg⟩ : ∃ g cap, v' = .slice (some ⟨g, 0, none⟩) 1 cap ∧ w6.cell? ⟨g, 0, none⟩ = some (.string PB) := by
    have hok : (⟨9, 1, v', 1, [.string PB]⟩ : Rw).ok w5.heap.size w6 := hown'
    rcases hok.slice with ⟨-, h0, -⟩ | ⟨g, cap, e, ho, -⟩
    · cases h0
    · exact ⟨g, cap, e, hok.cell ho 0 _ rfl⟩
  have HC6 := Lib.hid (CF.out w6 g cap hg)
  clear hown hown' hgrow hb6 hg CF
  go_wp2_with fail
  go_at_call 157
  (with_reducible refine HC6.out.mono ?_)
  rintro _ w7 ⟨rfl, b7⟩
  have HB7 := Lib.hid (HB6.out.trans (b7.mono HB6.out.size))
  clear b7 HC6
  go_wp2_with fail
  go_ret
  refine ⟨rfl, HB1.out.trans ((HBB.out.trans (HB7.out.mono HBB.out.size)).mono HB1.out.size)⟩
end Go.Proofs.YtlecffpjcjlabaaGreat

namespace Go.Proofs.YtlecffpjcjlabaaGreat
open Go.RowKit Go.Shelf

section
variable {F : Nat → Prop} {B p n m : Nat} {s : St} {w w' : World}
theorem Hs.heqM (h : Hs F B p n m s w) (e : w'.heap = w.heap) : Hs F B p n m s w' := by
  obtain ⟨r, h1, h2, h3, h4, h5, h6⟩ := h
  exact ⟨r, h1.kept (fun k _ => by rw [e]), h2, h3, h4, h5, fun k hk => ⟨(h6 k hk).1, by rw [e]; exact (h6 k hk).2⟩⟩
end
/-- A manifest at M. -/
def ManAt (w : World) (M p : Nat) (m : Mf) (vv : Value) (brk : Bool) : Prop :=
  w.heap[M]? = some (.cells #[.pointer (some ⟨p, 0, none⟩), .int .i64 (m.num : Int), .int .i64 m.v.log, .int .i64 m.v.next, .int .u64 (m.v.seq : Int), vv, .bool brk] 80)
section
variable {w w' : World} {M p : Nat} {m : Mf} {vv : Value} {brk : Bool}
theorem ManAt.lt (h : ManAt w M p m vv brk) : M < w.heap.size := (Array.getElem?_eq_some_iff.1 h).1
theorem ManAt.kept (h : ManAt w M p m vv brk) (hk : w'.heap[M]? = w.heap[M]?) : ManAt w' M p m vv brk := hk.trans h
theorem ManAt.c0 (h : ManAt w M p m vv brk) : w.cell? ⟨M, 0, none⟩ = some (.pointer (some ⟨p, 0, none⟩)) := by unfold World.cell?; rw [show w.heap[M]? = _ from h]; rfl
theorem ManAt.c1 (h : ManAt w M p m vv brk) : w.cell? ⟨M, 1, none⟩ = some (.int .i64 (m.num : Int)) := by unfold World.cell?; rw [show w.heap[M]? = _ from h]; rfl
theorem ManAt.c2 (h : ManAt w M p m vv brk) : w.cell? ⟨M, 2, none⟩ = some (.int .i64 m.v.log) := by unfold World.cell?; rw [show w.heap[M]? = _ from h]; rfl
theorem ManAt.c3 (h : ManAt w M p m vv brk) : w.cell? ⟨M, 3, none⟩ = some (.int .i64 m.v.next) := by unfold World.cell?; rw [show w.heap[M]? = _ from h]; rfl
theorem ManAt.c4 (h : ManAt w M p m vv brk) : w.cell? ⟨M, 4, none⟩ = some (.int .u64 (m.v.seq : Int)) := by unfold World.cell?; rw [show w.heap[M]? = _ from h]; rfl
theorem ManAt.c5 (h : ManAt w M p m vv brk) : w.cell? ⟨M, 5, none⟩ = some vv := by unfold World.cell?; rw [show w.heap[M]? = _ from h]; rfl
theorem ManAt.c6 (h : ManAt w M p m vv brk) : w.cell? ⟨M, 6, none⟩ = some (.bool brk) := by unfold World.cell?; rw [show w.heap[M]? = _ from h]; rfl
theorem ManAt.f (h : ManAt w M p m vv brk) (j : Nat) : w.frozen? ⟨M, j, none⟩ = false := by unfold World.frozen?; rw [show w.heap[M]? = _ from h]; simp
/-- The number and the version are written. -/
def numW (w : World) (M : Nat) (num : Int) : World := w.setCell ⟨M, 1, none⟩ (.int .i64 num)
def verW (w : World) (M : Nat) (log next : Int) (seq : Nat) (vv : Value) : World := (((w.setCell ⟨M, 2, none⟩ (.int .i64 log)).setCell ⟨M, 3, none⟩ (.int .i64 next)).setCell ⟨M, 4, none⟩ (.int .u64 (seq : Int))).setCell ⟨M, 5, none⟩ vv
theorem set_block (w : World) (M j : Nat) (v : Value) (k : Nat) (hk : k ≠ M) : (w.setCell ⟨M, j, none⟩ v).heap[k]? = w.heap[k]? := Below.heap_setCell w ⟨M, j, none⟩ v k hk
theorem ManAt.setNum (h : ManAt w M p m vv brk) (num : Nat) : ManAt (numW w M (num : Int)) M p ⟨num, m.v⟩ vv brk := heap_setCell_same w M 1 _ _ _ h
theorem ManAt.setVer (h : ManAt w M p m vv brk) (v : Vr) (vv' : Value) : ManAt (verW w M v.log v.next v.seq vv') M p ⟨m.num, v⟩ vv' brk :=
  heap_setCell_same _ M 5 _ _ _ (heap_setCell_same _ M 4 _ _ _ (heap_setCell_same _ M 3 _ _ _ (heap_setCell_same w M 2 _ _ _ h)))
theorem ManAt.setBrk (h : ManAt w M p m vv brk) (b : Bool) : ManAt (w.setCell ⟨M, 6, none⟩ (.bool b)) M p m vv b := heap_setCell_same w M 6 _ _ _ h
theorem verW_block (w : World) (M : Nat) (log next : Int) (seq : Nat) (vv : Value) (k : Nat) (hk : k ≠ M) : (verW w M log next seq vv).heap[k]? = w.heap[k]? := by
  unfold Go.Proofs.YtlecffpjcjlabaaGreat.verW
  rw [set_block _ _ _ _ _ hk, set_block _ _ _ _ _ hk, set_block _ _ _ _ _ hk, set_block _ _ _ _ _ hk]
theorem verW_size (w : World) (M : Nat) (log next : Int) (seq : Nat) (vv : Value) : (verW w M log next seq vv).heap.size = w.heap.size := by unfold Go.Proofs.YtlecffpjcjlabaaGreat.verW; simp [World.setCell]
end
/-- What is known behind a call of a manifest's. -/
structure ManR (F : Nat → Prop) (B p n m M : Nat) (s' : St) (mf : Mf) (vv : Value) (brk : Bool) (w w' : World) : Prop where
  hs : Hs F B p n m s' w'
  man : ManAt w' M p mf vv brk
  bel : Below B w w'
  kp : ∀ k, F k → k ≠ M → w'.heap[k]? = w.heap[k]?
section
variable {F : Nat → Prop} {B p n m M : Nat} {s s' : St} {mf : Mf} {vv : Value} {brk : Bool} {w w1 w2 w' : World}
theorem ManR.up {n' m' : Nat} (h : ManR F B p n m M s mf vv brk w w') (hn : n ≤ n') (hm : m ≤ m') : ManR F B p n' m' M s mf vv brk w w' := ⟨h.hs.up hn hm, h.man, h.bel, h.kp⟩
theorem manR_of (h : FsV F B p n m s w w') (hM : ManAt w M p mf vv brk) (hF : F M) : ManR F B p n m M s mf vv brk w w' := ⟨h.1, hM.kept (h.2.2 M hF), h.2.1, fun k hk _ => h.2.2 k hk⟩
theorem ManR.then {n' m' : Nat} (h : ManR F B p n m M s mf vv brk w w1) (h2 : FsV F B p n' m' s' w1 w2) (hF : F M) : ManR F B p n' m' M s' mf vv brk w w2 := ⟨h2.1, h.man.kept (h2.2.2 M hF), h.bel.trans h2.2.1, fun k hk hne => (h2.2.2 k hk).trans (h.kp k hk hne)⟩
theorem ManR.trans {n' m' : Nat} {mf' : Mf} {vv' : Value} {brk' : Bool} (h : ManR F B p n m M s mf vv brk w w1) (h2 : ManR F B p n' m' M s' mf' vv' brk' w1 w2) : ManR F B p n' m' M s' mf' vv' brk' w w2 := ⟨h2.hs, h2.man, h.bel.trans h2.bel, fun k hk hne => (h2.kp k hk hne).trans (h.kp k hk hne)⟩
theorem ManR.made (h : ManR F B p n m M s mf vv brk w w1) (b : Below w1.heap.size w1 w2) : ManR F B p n m M s mf vv brk w w2 :=
  ⟨h.hs.same b, h.man.kept (b.block M h.man.lt), h.bel.trans (b.mono h.hs.size), fun k hk hne => (b.block k (h.hs.lt k hk)).trans (h.kp k hk hne)⟩
theorem ManR.setNum (h : ManR F B p n m M s mf vv brk w w1) (hF : F M) (hB : B ≤ M) (num : Nat) : ManR F B p n m M s ⟨num, mf.v⟩ vv brk w (numW w1 M (num : Int)) := by
  have st : ∀ k, k ≠ M → (numW w1 M (num : Int)).heap[k]? = w1.heap[k]? := fun k hk => set_block _ _ _ _ _ hk
  exact ⟨h.hs.wrote (by simp [Go.Proofs.YtlecffpjcjlabaaGreat.numW]) (fun k _ hk => st k (fun e => hk (e ▸ hF))), h.man.setNum num, h.bel.setCell (p := ⟨M, 1, none⟩) hB _, fun k hk hne => (st k hne).trans (h.kp k hk hne)⟩
theorem ManR.setVer (h : ManR F B p n m M s mf vv brk w w1) (hF : F M) (hB : B ≤ M) (v : Vr) (vv' : Value) : ManR F B p n m M s ⟨mf.num, v⟩ vv' brk w (verW w1 M v.log v.next v.seq vv') := by
  have st : ∀ k, k ≠ M → (verW w1 M v.log v.next v.seq vv').heap[k]? = w1.heap[k]? := fun k hk => verW_block _ _ _ _ _ _ _ hk
  exact ⟨h.hs.wrote (Nat.le_of_eq (verW_size _ _ _ _ _ _).symm) (fun k _ hk => st k (fun e => hk (e ▸ hF))), h.man.setVer v vv', (((h.bel.setCell (p := ⟨M, 2, none⟩) hB _).setCell (p := ⟨M, 3, none⟩) hB _).setCell (p := ⟨M, 4, none⟩) hB _).setCell (p := ⟨M, 5, none⟩) hB _, fun k hk hne => (st k hne).trans (h.kp k hk hne)⟩
theorem ManR.setBrk (h : ManR F B p n m M s mf vv brk w w1) (hF : F M) (hB : B ≤ M) (b : Bool) : ManR F B p n m M s mf vv b w (w1.setCell ⟨M, 6, none⟩ (.bool b)) := by
  have st : ∀ k, k ≠ M → (w1.setCell ⟨M, 6, none⟩ (.bool b)).heap[k]? = w1.heap[k]? := fun k hk => set_block _ _ _ _ _ hk
  exact ⟨h.hs.wrote (by simp) (fun k _ hk => st k (fun e => hk (e ▸ hF))), h.man.setBrk b, h.bel.setCell (p := ⟨M, 6, none⟩) hB _, fun k hk hne => (st k hne).trans (h.kp k hk hne)⟩
end
/-- The same, beside one box more. -/
structure MidR (F : Nat → Prop) (X B p n m M : Nat) (s' : St) (mf : Mf) (vv : Value) (brk : Bool) (w w' : World) : Prop where
  hs : Hs (fun k => F k ∨ k = X) B p n m s' w'
  man : ManAt w' M p mf vv brk
  bel : Below B w w'
  kp : ∀ k, F k → k ≠ M → w'.heap[k]? = w.heap[k]?
section
variable {F : Nat → Prop} {X B p n m M : Nat} {s s' : St} {mf : Mf} {vv : Value} {brk : Bool} {w w1 w2 w' : World}
theorem MidR.r (h : MidR F X B p n m M s mf vv brk w w') : ManR F B p n m M s mf vv brk w w' := ⟨h.hs.fewer fun _ hk => .inl hk, h.man, h.bel, h.kp⟩
theorem MidR.then {n' m' : Nat} (h : MidR F X B p n m M s mf vv brk w w1) (h2 : Hs (fun k => F k ∨ k = X) B p n' m' s' w2) (b2 : Below B w1 w2) (k2 : Kp (fun k => F k ∨ k = X) w1 w2) (hF : F M) : MidR F X B p n' m' M s' mf vv brk w w2 := ⟨h2, h.man.kept (k2 M (.inl hF)), h.bel.trans b2, fun k hk hne => (k2 k (.inl hk)).trans (h.kp k hk hne)⟩
end
section
variable {s s1 s2 : St} {nm : Nm} {d : List UInt8}
theorem layM_1 (h : (replaceM s nm d).2 ≠ 0) : layM s nm d = replaceM s nm d := by
  unfold layM
  rw [seqS_no h]
theorem layM_2 (e : replaceM s nm d = (s1, 0)) (h : s1.syncDir.2 ≠ 0) : layM s nm d = s1.syncDir := by
  unfold layM
  rw [e, seqS_ok, seqS_no h]
theorem layM_3 (e : replaceM s nm d = (s1, 0)) (c : s1.syncDir = (s2, 0)) : layM s nm d = switchM s2 nm := by
  unfold layM
  rw [e, seqS_ok, c, seqS_ok]
end
theorem nmM_size (m : Nat) : (⟨(nmM m).toArray⟩ : ByteArray).size = 9 := rfl
section
variable {F : Nat → Prop} {B p n m : Nat} {s : St} {w : World}
set_option maxHeartbeats 8000000 in
set_option maxRecDepth 100000 in
theorem mlay_any (h : Hs F B p n m s w) (hN : n ≤ 70000) (hM : m ≤ 800000000) (M : Nat) (mf : Mf) (vv0 : Value) (brk : Bool) (hA : ManAt w M p mf vv0 brk) (hFM : F M) (hBM : B ≤ M) (num : Nat) (hnum : num < 100000000) (v : Vr) (a : Option Addr) (c : Nat) (hT : TbsV w (.slice a v.ts.length c) v.ts) (hv : RightV v) (hl : v.ts.length ≤ 10000) (sr : St) (er : Int) (hr : layM s (nmM num) (wholeB v) = (sr, er)) :
    Calls Tryz.prog 158 #[.pointer (some ⟨M, 0, none⟩), .int .i64 (num : Int), .agg #[.int .i64 v.log, .int .i64 v.next, .int .u64 (v.seq : Int), .slice a v.ts.length c]] w fun e w' => e = .returned (.int .i64 er) ∧
      ((er ≠ 0 ∧ ManR F B p (n + 16) (m + (wholeB v).length + 9) M sr mf vv0 brk w w') ∨ (er = 0 ∧ ManR F B p (n + 16) (m + (wholeB v).length + 9) M sr ⟨num, v⟩ (.slice a v.ts.length c) brk w w')) := by
  obtain ⟨L, hL⟩ : ∃ L, v.ts.length = L := ⟨_, rfl⟩
  rw [hL] at hT ⊢
  obtain ⟨W1, hW1⟩ : ∃ W1, w.alloc (.cells #[.int .i64 v.log, .int .i64 v.next, .int .u64 (v.seq : Int), .slice a L c] 63) = W1 := ⟨_, rfl⟩
  have b1 : Below w.heap.size w W1 := by rw [← hW1]; exact (Below.refl _ _).alloc (Nat.le_refl _) _
  have x1 : BoxV w.heap.size v.log v.next v.seq (.slice a L c) W1 := by rw [← hW1]; exact new_block _ _ rfl
  have CN := Lib.hid (mname_any (num : Int) W1 (by omega) (by omega))
  rw [show ((num : Int) % 100000000).toNat = num by omega] at CN
  obtain ⟨NM, hNM⟩ : ∃ NM : ByteArray, ⟨(nmM num).toArray⟩ = NM := ⟨_, rfl⟩
  have hNs : NM.size = 9 := by rw [← hNM]; rfl
  have hNl : NM.data.toList = nmM num := by rw [← hNM]
  rw [hNM] at CN
  have hwl := wholeB_len hv hl
  obtain ⟨D, hD⟩ : ∃ D : ByteArray, ⟨(wholeB v).toArray⟩ = D := ⟨_, rfl⟩
  have hDl : D.data.toList = wholeB v := by rw [← hD]
  have hDs : D.size = (wholeB v).length := by rw [← hD]; simp [ByteArray.size]
  have CW := Lib.hid (show ∀ W, TbsV W (.slice a L c) v.ts → Calls Tryz.prog 234 #[.agg #[.int .i64 v.log, .int .i64 v.next, .int .u64 (v.seq : Int), .slice a L c]] W fun e w' => e = .returned (.string D) ∧ Below W.heap.size W w' from fun W hT => by rw [← hD]; exact mwhole_any v _ W hT hv hl)
  obtain ⟨X, hX⟩ : ∃ X, w.heap.size = X := ⟨_, rfl⟩
  have CR := Lib.hid (fun (W : World) (h : Hs (fun k => F k ∨ k = X) B p n m s W) => replace_any h (by omega) (by omega) NM D (by omega) (by omega))
  rw [hNl, hDl, hDs] at CR
  have CD := Lib.hid (fun (W : World) (s : St) (h : Hs (fun k => F k ∨ k = X) B p (n + 6) (m + (wholeB v).length) s W) => hs_syncDir h (by omega))
  have CS := Lib.hid (fun (W : World) (s : St) (h : Hs (fun k => F k ∨ k = X) B p (n + 7) (m + (wholeB v).length) s W) => switch_any h (by omega) (by omega) NM (by omega))
  rw [hNl, hNs] at CS
  obtain ⟨WB, hWB⟩ : ∃ WB, wholeB v = WB := ⟨_, rfl⟩
  rw [hWB] at CR CD CS hr hwl ⊢
  obtain ⟨nm, hnm⟩ : ∃ nm, nmM num = nm := ⟨_, rfl⟩
  rw [hnm] at CR CS hr
  have HR := Lib.hid hr
  have hs1 : Hs (fun k => F k ∨ k = X) B p n m s W1 := h.below b1 (fun k hk => hk.elim .inl (fun e => .inr ⟨by omega, by rw [e, ← hX]; exact x1.lt⟩))
  have hMX : M ≠ X := by have := hA.lt; omega
  have HH := Lib.hid (And.intro hs1 (hA.kept (b1.block M hA.lt)))
  have HB1 := Lib.hid b1
  have HX1 := Lib.hid x1
  have HXE := Lib.hid hX
  have HT := Lib.hid (hT.below b1)
  have HBS := Lib.hid h.size
  have HLT := Lib.hid h.lt
  clear h hA hT b1 x1 hr hNM hNl hD hDl hDs hWB hnm hwl hv hX hs1
  go_enter Tryz.func158, Tryz.ntmps158
  go_wp2_with fail
  try rw [hW1]
  try rw [HXE.out]
  clear hW1
  go_at_call 38
  (with_reducible refine CN.out.mono ?_)
  rintro _ w2 ⟨rfl, b2⟩
  have mn2 := HH.out.2.kept (b2.block M HH.out.2.lt)
  have hs2 := HH.out.1.same b2
  have x2 := HX1.out.below b2
  rw [HXE.out] at x2
  have t2 := HT.out.below b2
  have HTD := Lib.hid (t2.below (Below.refl _ _).drew)
  have HB2 := Lib.hid (HB1.out.trans (b2.mono HB1.out.size))
  have c0 := mn2.c0
  have g0 := x2.c0
  have g1 := x2.c1
  have g2 := x2.c2
  have g3 := x2.c3
  have hm2 := mn2.lt
  have hx2 := x2.lt
  have HK := Lib.hid (fun (W w3 : World) (b3 : Below W.heap.size W w3) (hW : Below w2.heap.size w2 W) => (show Hs (fun k => F k ∨ k = X) B p n m s w3 ∧ ManAt w3 M p mf vv0 brk ∧ Below w2.heap.size w2 w3 by
    have hb := hW.trans (b3.mono hW.size)
    exact ⟨hs2.same hb, mn2.kept (hb.block M hm2), hb⟩))
  have HX2 := Lib.hid x2
  rcases hrp : replaceM s nm WB with ⟨s1, e1⟩
  rw [hrp] at CR
  have HRP := Lib.hid hrp
  clear hrp
  simp only at CR
  have HF := Lib.hid (fun (w3 w3' w4 : World) (q : Hs (fun k => F k ∨ k = X) B p n m s w3 ∧ ManAt w3 M p mf vv0 brk ∧ Below w2.heap.size w2 w3) (hq : w3'.heap = w3.heap ∧ w3'.os = w3.os ∧ w3'.tape = w3.tape ∧ w3'.output = w3.output) (f : FsV (fun k => F k ∨ k = X) B p (n + 6) (m + WB.length) s1 w3' w4) => (show Hid (MidR F X B p (n + 6) (m + WB.length) M s1 mf vv0 brk w w4 ∧ BoxV X v.log v.next v.seq (.slice a L c) w4) from Lib.hid (by
    have hb3 : Below w.heap.size w w3 := HB2.out.trans (q.2.2.mono HB2.out.size)
    have f0 : Below B w3 w4 := ⟨f.2.1.os.trans hq.2.1, f.2.1.tape.trans hq.2.2.1, f.2.1.output.trans hq.2.2.2, by rw [← hq.1]; exact f.2.1.size, fun k hk => by rw [← hq.1]; exact f.2.1.block k hk⟩
    have f2 : ∀ k, (F k ∨ k = X) → w4.heap[k]? = w3.heap[k]? := fun k hk => by rw [← hq.1]; exact f.2.2 k hk
    refine ⟨⟨f.1, q.2.1.kept (f2 M (.inl hFM)), (hb3.mono HBS.out).trans f0, fun k hk _ => (f2 k (.inl hk)).trans (hb3.block k (HLT.out k hk))⟩, (f2 X (.inr rfl)).trans ((q.2.2.block X hx2).trans HX2.out)⟩)))
  clear CN hs2 mn2 x2 t2 b2 HH HX1 HT
  go_upto_region 2 with fail
  go_cut [8] (fun v' wx => v' = .int .i64 e1 ∧ Hid (MidR F X B p (n + 6) (m + WB.length) M s1 mf vv0 brk w wx ∧ BoxV X v.log v.next v.seq (.slice a L c) wx))
  case first =>
    go_region_with (first
      | (go_at_call 234; (with_reducible refine (CW.out _ HTD.out).mono ?_); rintro _ w3 ⟨rfl, b3⟩; have q3 := HK.out _ _ b3 ⟨rfl, rfl, rfl, Nat.le_refl _, fun _ _ => rfl⟩; have c3 := q3.2.1.c0)
      | (go_at_call 233; (with_reducible refine (CR.out _ q3.1).mono ?_); rintro _ w4 ⟨rfl, f4⟩)
      | fail)
    all_goals (go_wp2_with fail; go_meet; exact ⟨rfl, HF.out w3 _ w4 q3 ⟨rfl, rfl, rfl, rfl⟩ f4⟩)
  case rest =>
    obtain ⟨rfl, HC⟩ := hcut
    have HM1 := Lib.hid HC.out.1
    have HV1 := Lib.hid HC.out.2
    clear HC HF HK HTD HX2 g0 g1 g2 g3 c0 CW CR
    rename_i wx _
    by_cases he : e1 = 0
    rotate_left
    · have heb : (e1 != 0) = true := by simpa using he
      have hq : (s1, e1) = (sr, er) := by rw [← HRP.out, ← HR.out]; exact (layM_1 (by rw [HRP.out]; exact he)).symm
      obtain ⟨rfl, rfl⟩ := Prod.mk.inj hq
      clear CD CS
      go_wp2_with fail
      go_ret
      exact ⟨rfl, HM1.out.r.up (by omega) (by omega)⟩
    subst he
    have c0 := HM1.out.man.c0
    go_wp2_with fail
    go_at_call 62
    (with_reducible refine (CD.out _ _ HM1.out.hs).mono ?_)
    rintro _ w5 ⟨rfl, h5, b5, k5⟩
    have HM2 := Lib.hid (HM1.out.then h5 b5 k5 hFM)
    have HV2 := Lib.hid (show BoxV X v.log v.next v.seq (.slice a L c) w5 from (k5 X (.inr rfl)).trans HV1.out)
    clear h5 b5 k5 CD HV1 c0
    rcases hsd : s1.syncDir with ⟨s2, e2⟩
    rw [hsd] at HM2
    simp only at HM2 ⊢
    have HSD := Lib.hid hsd
    clear hsd
    by_cases he : e2 = 0
    rotate_left
    · have heb : (e2 != 0) = true := by simpa using he
      have hq : (s2, e2) = (sr, er) := by rw [← HSD.out, ← HR.out]; exact (layM_2 HRP.out (by rw [HSD.out]; exact he)).symm
      obtain ⟨rfl, rfl⟩ := Prod.mk.inj hq
      clear CS
      go_wp2_with fail
      go_ret
      exact ⟨rfl, HM2.out.r.up (by omega) (by omega)⟩
    subst he
    have c0 := HM2.out.man.c0
    go_wp2_with fail
    go_at_call 235
    (with_reducible refine (CS.out _ _ HM2.out.hs).mono ?_)
    rintro _ w6 ⟨rfl, f6⟩
    have HM3 := Lib.hid (HM2.out.then f6.1 f6.2.1 f6.2.2 hFM)
    have HV3 := Lib.hid (show BoxV X v.log v.next v.seq (.slice a L c) w6 from (f6.2.2 X (.inr rfl)).trans HV2.out)
    clear f6 CS HV2 c0 HM1
    have hq : switchM s2 nm = (sr, er) := by rw [← HR.out]; exact (layM_3 HRP.out HSD.out).symm
    rw [hq] at HM3 ⊢
    simp only at HM3 ⊢
    clear hq
    by_cases he : er = 0
    rotate_left
    · have heb : (er != 0) = true := by simpa using he
      go_wp2_with fail
      go_ret
      exact ⟨rfl, .inl ⟨he, HM3.out.r.up (by omega) (by omega)⟩⟩
    subst he
    have mn := HM3.out.man
    have c1 := mn.c1
    have c2 := mn.c2
    have c3 := mn.c3
    have c4 := mn.c4
    have c5 := mn.c5
    have mf1 := mn.f 1
    have mf2 := mn.f 2
    have mf3 := mn.f 3
    have mf4 := mn.f 4
    have mf5 := mn.f 5
    have x0 := HV3.out.c0
    have x1 := HV3.out.c1
    have x2 := HV3.out.c2
    have x3 := HV3.out.c3
    have hXM : X ≠ M := fun e => hMX e.symm
    clear mn
    go_upto_region 11 with fail
    have hA0 := ((HM3.out.r.setNum hFM hBM num).setVer hFM hBM v (.slice a L c)).made (Below.refl _ _).drew
    unfold verW numW at hA0
    have HA := Lib.hid hA0
    clear HM3 HV3 hA0
    go_region_with fail
    all_goals (go_wp2_with fail; go_ret; refine ⟨rfl, ?_⟩; with_reducible exact HA.out.up (by omega) (by omega))
end
end Go.Proofs.YtlecffpjcjlabaaGreat

namespace Go.Proofs.YtlecffpjcjlabaaGreat
open Go.RowKit Go.Shelf

/-- The texts that were scanned, read. -/
theorem rowT_cellsM {B : Nat} {w : World} {v : Value} {ts : List (List UInt8)} (h : (rowT v ts).ok B w) : ∃ a cap, v = .slice a ts.length cap ∧ (ts.length = 0 ∨ ∃ g, a = some ⟨g, 0, none⟩ ∧ g < w.heap.size ∧ ∀ j (hj : j < ts.length), w.cell? ⟨g, j, none⟩ = some (.string ⟨ts[j].toArray⟩)) := by
  rcases h.slice with ⟨e, h0, -⟩ | ⟨g, cap, e, ho, -, hlt, -⟩
  · have h0' : ts.length = 0 := h0
    exact ⟨none, 0, by rw [h0']; exact e, .inl h0'⟩
  · refine ⟨_, cap, e, .inr ⟨g, rfl, hlt, fun j hj => h.cell ho j _ ?_⟩⟩
    show (ts.map fun t => Value.string ⟨t.toArray⟩)[j]? = _
    rw [List.getElem?_map, List.getElem?_eq_getElem hj]
    rfl
theorem replayN_cons (v : Vr) (x : List UInt8) (rs : List (List UInt8)) : replayN v (x :: rs) = if (getP x).2 = 0 ∧ appliesB v (getP x).1 = true then replayN (nextV v (getP x).1) rs else none := by rw [replayN]
theorem replayN_append : ∀ (rs qs : List (List UInt8)) (v : Vr), replayN v (rs ++ qs) = match replayN v rs with | some u => replayN u qs | none => none
  | [], qs, v => rfl
  | x :: rs, qs, v => by
    have ih := replayN_append rs qs (nextV v (getP x).1)
    rw [List.cons_append, replayN_cons, replayN_cons]
    split
    · exact ih
    · rfl
theorem replayN_take {rs : List (List UInt8)} {i : Nat} (hi : i < rs.length) {v u : Vr} (h : replayN v (rs.take i) = some u) : replayN v rs = replayN u (rs.drop i) ∧ replayN v (rs.take (i + 1)) = replayN u [rs[i]] := by
  constructor
  · conv => lhs; rw [← List.take_append_drop i rs]
    rw [replayN_append, h]
  · rw [List.take_succ_eq_append_getElem hi, replayN_append, h]
theorem replayN_no {rs : List (List UInt8)} {i : Nat} (hi : i < rs.length) {v u : Vr} (h : replayN v (rs.take i) = some u) (hb : ¬ ((getP rs[i]).2 = 0 ∧ appliesB u (getP rs[i]).1 = true)) : replayN v rs = none := by
  rw [(replayN_take hi h).1, List.drop_eq_getElem_cons hi, replayN_cons, if_neg hb]
theorem replayN_yes {rs : List (List UInt8)} {i : Nat} (hi : i < rs.length) {v u : Vr} (h : replayN v (rs.take i) = some u) (hb : (getP rs[i]).2 = 0 ∧ appliesB u (getP rs[i]).1 = true) : replayN v (rs.take (i + 1)) = some (nextV u (getP rs[i]).1) := by
  rw [(replayN_take hi h).2, replayN_cons, if_pos hb]
  rfl
/-- The four cells of a version's box, written. -/
def set4V (w : World) (B : Nat) (log next seq : Int) (v : Value) : World := (((w.setCell ⟨B, 0, none⟩ (.int .i64 log)).setCell ⟨B, 1, none⟩ (.int .i64 next)).setCell ⟨B, 2, none⟩ (.int .u64 seq)).setCell ⟨B, 3, none⟩ v
theorem BoxV.set4 {B : Nat} {log next : Int} {seq : Nat} {v : Value} {w : World} (h : BoxV B log next seq v w) (log' next' : Int) (seq' : Nat) (v' : Value) : BoxV B log' next' seq' v' (set4V w B log' next' (seq' : Int) v') :=
  heap_setCell_same _ B 3 _ _ _ (heap_setCell_same _ B 2 _ _ _ (heap_setCell_same _ B 1 _ _ _ (heap_setCell_same w B 0 _ _ _ h)))
theorem set4V_block (w : World) (B : Nat) (log next seq : Int) (v : Value) (k : Nat) (hk : k ≠ B) : (set4V w B log next seq v).heap[k]? = w.heap[k]? := block_set4 w B _ _ _ _ k hk
theorem set4V_below {B0 : Nat} {w0 w : World} (h : Below B0 w0 w) (B : Nat) (hB : B0 ≤ B) (log next seq : Int) (v : Value) : Below B0 w0 (set4V w B log next seq v) := below_set4 h B hB _ _ _ _
theorem set4V_size (w : World) (B : Nat) (log next seq : Int) (v : Value) : (set4V w B log next seq v).heap.size = w.heap.size := by unfold set4V; simp [World.setCell]
/-- What is on the way: nothing yet, or a right version. -/
def WayV (u : Vr) : Prop := u = Vr.zero ∨ RightV u
theorem WayV.ok {u : Vr} (h : WayV u) : ∀ t ∈ u.ts, t.Ok ∧ t.Short := by
  rcases h with rfl | h
  · exact fun t ht => by cases ht
  · exact right_ok h
theorem fits_tabs {e : Ed} (h : e.Fits) : (∀ t ∈ e.add, t.Ok ∧ t.Short) ∧ ∀ k ∈ e.drop, -9223372036854775808 ≤ k ∧ k ≤ 9223372036854775807 := by
  obtain ⟨h1, h2, h3, h4, h5, h6, h7, h8, h9⟩ := h
  refine ⟨fun t ht => ?_, fun k hk => ?_⟩
  · have := h8 t ht
    unfold Tb.Fits at this
    unfold Tb.Ok Tb.Short maxLen
    omega
  · have := h9 k hk; omega
/-- What replay is asked of: each edit that is read may be, and on the way there are not too many tables. -/
structure FineR (rs : List (List UInt8)) : Prop where
  fit : ∀ r ∈ rs, (getP r).2 = 0 → (getP r).1.Fits
  few : ∀ i u, replayN Vr.zero (rs.take i) = some u → u.ts.length ≤ 10000
  len : ∀ r ∈ rs, r.length ≤ 100000000
  num : rs.length ≤ 100000000
set_option maxHeartbeats 4000000 in
set_option maxRecDepth 100000 in
theorem mreplay_any (rs : List (List UInt8)) (v : Value) (B : Nat) (w : World) (hR : (rowT v rs).ok B w) (hF : FineR rs) :
    Calls Tryz.prog 241 #[v] w fun e w' => ∃ (b : Bool) (u : Vr) (ra : Option Addr) (rc : Nat), e = .returned (.tuple #[verV u.log u.next u.seq (.slice ra u.ts.length rc), .bool b]) ∧ Below w.heap.size w w' ∧ (b = true → replayM rs = some u ∧ RowB w' (.slice ra u.ts.length rc) u.ts ∧ ∀ k, ob (.slice ra u.ts.length rc) = some k → w.heap.size ≤ k) ∧ (b = false → replayM rs = none) := by
  obtain ⟨av, cv, rfl, hcs⟩ := rowT_cellsM hR
  obtain ⟨W1, hW1⟩ : ∃ W1, (w.alloc (.cells #[.int .i64 0, .int .i64 0, .int .u64 0, .slice none 0 0] 63)).alloc (.cells #[.int .i64 0, .int .i64 0, .int .u64 0, .slice none 0 0] 63) = W1 := ⟨_, rfl⟩
  have b1 : Below w.heap.size w W1 := by rw [← hW1]; exact ((Below.refl _ _).alloc (Nat.le_refl _) _).alloc (by simp) _
  have x1 : BoxV w.heap.size 0 0 0 (.slice none 0 0) W1 := by rw [← hW1]; exact (Below.heap_alloc _ _ _ (by simp)).trans (new_block _ _ rfl)
  have y1 : BoxV (w.heap.size + 1) 0 0 0 (.slice none 0 0) W1 := by rw [← hW1]; exact new_block _ _ (by simp)
  have HCS := Lib.hid hcs
  have HF := Lib.hid hF
  have hnum := hF.num
  have HB1 := Lib.hid b1
  have HX1 := Lib.hid x1
  have HY1 := Lib.hid y1
  clear hR hcs hF b1 x1 y1
  go_enter Tryz.func241, Tryz.ntmps241
  go_upto_region 2 with fail
  try rw [hW1]
  clear hW1
  go_wp2_with fail
  go_loopw [11] (fun iv wr => ∃ (i : Nat) (u : Vr) (r : Value), iv = .int .i64 (i : Int) ∧ i ≤ rs.length ∧ BoxV w.heap.size 0 0 0 (.slice none 0 0) wr ∧ BoxV (w.heap.size + 1) u.log u.next u.seq r wr ∧ RowB wr r u.ts ∧ (∀ k, ob r = some k → w.heap.size + 2 ≤ k) ∧ Below w.heap.size w wr ∧ Hid (replayN Vr.zero (rs.take i) = some u ∧ WayV u)) (fun iv _ => rs.length - (intOf iv).toNat)
  case atStart => exact ⟨0, Vr.zero, .slice none 0 0, rfl, Nat.zero_le _, HX1.out, HY1.out, row_nilB _, fun k hk => by simp [ob] at hk, HB1.out, Lib.hid ⟨rfl, .inl rfl⟩⟩
  case round =>
    obtain ⟨i, u, r, rfl, hi, hx, hy, hrow, hro, hbel, HU⟩ := hrel
    have hus : ∀ t ∈ u.ts, t.Ok ∧ t.Short := HU.out.2.ok
    have hul : u.ts.length ≤ 10000 := HF.out.few i u HU.out.1
    obtain ⟨X0, hX0⟩ : ∃ X0, w.heap.size = X0 := ⟨_, rfl⟩
    obtain ⟨X1, hX1⟩ : ∃ X1, w.heap.size + 1 = X1 := ⟨_, rfl⟩
    have hxlt := hx.lt
    have hylt := hy.lt
    have h01 : X0 ≠ X1 := by omega
    have HX01 := Lib.hid (And.intro hX0 hX1)
    rw [hX0] at hx hxlt
    rw [hX1] at hy hylt
    rw [hX1, hX0]
    obtain ⟨ra, rc, hrv⟩ := hrow.short
    subst hrv
    by_cases hlt : i < rs.length
    · obtain ⟨g, rfl, hgl, hq⟩ : ∃ g, av = some ⟨g, 0, none⟩ ∧ g < w.heap.size ∧ ∀ j (hj : j < rs.length), w.cell? ⟨g, j, none⟩ = some (.string ⟨rs[j].toArray⟩) := by
        rcases HCS.out with h0 | h0
        · omega
        · exact h0
      have q0 := (hbel.cell (p := ⟨g, i, none⟩) hgl).trans (hq i hlt)
      obtain ⟨S, hS⟩ : ∃ S : ByteArray, (⟨rs[i].toArray⟩ : ByteArray) = S := ⟨_, rfl⟩
      have hSd : S.data.toList = rs[i] := by rw [← hS]
      have hSs : S.size ≤ 100000000 := by rw [← hS, show (⟨rs[i].toArray⟩ : ByteArray).size = rs[i].length by simp [ByteArray.size]]; exact HF.out.len _ (List.getElem_mem hlt)
      rw [hS] at q0
      have CG := Lib.hid (fun W => get_any S W hSs)
      rw [hSd] at CG
      obtain ⟨l, hl⟩ : ∃ l, rs[i] = l := ⟨_, rfl⟩
      have hfit : (getP l).2 = 0 → (getP l).1.Fits := by rw [← hl]; exact HF.out.fit _ (List.getElem_mem hlt)
      have HNO := Lib.hid (show ¬ ((getP l).2 = 0 ∧ appliesB u (getP l).1 = true) → replayN Vr.zero rs = none from fun h => replayN_no hlt HU.out.1 (by rw [hl]; exact h))
      have HYES := Lib.hid (show (getP l).2 = 0 ∧ appliesB u (getP l).1 = true → replayN Vr.zero (rs.take (i + 1)) = some (nextV u (getP l).1) from fun h => by have := replayN_yes hlt HU.out.1 (by rw [hl]; exact h); rw [hl] at this; exact this)
      have HRN := Lib.hid (show replayN Vr.zero rs = none → replayM rs = none from fun h => by unfold replayM; rw [h]; split <;> rfl)
      rw [hl] at CG
      unfold GetV at CG
      clear hS hSd hq hl HCS
      obtain ⟨pe, hpe⟩ : ∃ pe, getP l = pe := ⟨_, rfl⟩
      rw [hpe] at CG hfit HNO HYES
      clear hpe
      obtain ⟨e, er⟩ := pe
      simp only at CG hfit HNO HYES
      have x0 := hx.c0
      have x1 := hx.c1
      have x2 := hx.c2
      have x3 := hx.c3
      have xf := hx.f
      have y0 := hy.c0
      have y1 := hy.c1
      have y2 := hy.c2
      have y3 := hy.c3
      have HX := Lib.hid hx
      have HY := Lib.hid hy
      have HROW := Lib.hid hrow
      have HRO := Lib.hid hro
      have HB := Lib.hid hbel
      have hil : (i : Int) < (rs.length : Int) := by omega
      clear hx hy hrow hro hbel
      by_cases hz : er = 0
      · subst hz
        have hef := hfit rfl
        obtain ⟨hA1, hD1⟩ := fits_tabs hef
        have hla := hef.2.2.2.2.2.1
        have hld := hef.2.2.2.2.2.2.1
        have CG' := Lib.hid (show ∀ W, Calls Tryz.prog 273 #[.string S] W fun x w' => ∃ aa ac da dc, x = .returned (.tuple #[.agg #[.int .i64 e.log, .int .i64 e.next, .int .u64 (e.seq : Int), .slice aa e.add.length ac, .slice da e.drop.length dc], .int .i64 0]) ∧ TbsV w' (.slice aa e.add.length ac) e.add ∧ IntsV w' (.slice da e.drop.length dc) e.drop ∧ Below W.heap.size W w' from fun W => (CG.out W).mono fun x w' h => by
          obtain ⟨h1, h2⟩ := h
          rcases h1 with ⟨h1, -⟩ | ⟨-, va, vd, h1, h3, h4, -⟩
          · exact absurd rfl h1
          · obtain ⟨aa, ac, rfl⟩ := h3.short
            obtain ⟨da, dc, rfl⟩ := h4.short
            exact ⟨aa, ac, da, dc, h1, h3.v, h4.v, h2⟩)
        clear CG hfit
        go_wp2_with fail
        go_at_call 273
        (with_reducible refine (CG'.out _).mono ?_)
        rintro _ w1 ⟨aa, ac, da, dc, rfl, ta, td, b1⟩
        obtain ⟨W2, hW2⟩ : ∃ W2, w1.alloc (.cells #[.int .i64 e.log, .int .i64 e.next, .int .u64 (e.seq : Int), .slice aa e.add.length ac, .slice da e.drop.length dc] 52) = W2 := ⟨_, rfl⟩
        have b2 : Below w1.heap.size w1 W2 := by rw [← hW2]; exact (Below.refl _ _).alloc (Nat.le_refl _) _
        have E2 : BoxEd w1.heap.size e.log e.next e.seq (.slice aa e.add.length ac) (.slice da e.drop.length dc) W2 := by rw [← hW2]; exact new_block _ _ rfl
        have b12 := b1.trans (b2.mono b1.size)
        have HX2 := Lib.hid (HX.out.below b12)
        have hy2 := HY.out.below b12
        have HY2 := Lib.hid hy2
        have HB2 := Lib.hid (HB.out.trans (b12.mono HB.out.size))
        have CA := Lib.hid (apply_any u e (.slice ra u.ts.length rc) (.slice aa e.add.length ac) (.slice da e.drop.length dc) W2 (HROW.out.v.below b12) (ta.below b2) (td.below b2) hul hla hld hus hA1 hD1)
        unfold verV ediV at CA
        have hsz2 : W2.heap.size = w1.heap.size + 1 := by rw [← hW2]; simp
        have hw1 : wr.heap.size ≤ w1.heap.size := b1.size
        have HW2 := Lib.hid hW2
        clear hW2 ta td b1 b2 b12 CG'
        go_upto_region 8 with fail
        rw [HW2.out]
        have y0 := hy2.c0
        have y1 := hy2.c1
        have y2 := hy2.c2
        have y3 := hy2.c3
        have e0 := E2.c0
        have e1 := E2.c1
        have e2 := E2.c2
        have e3 := E2.c3
        have e4 := E2.c4
        clear E2 hy2 HW2
        by_cases ha : appliesB u e = true
        · have HU2 := Lib.hid (HYES.out (by first | exact ⟨rfl, ha⟩ | exact ⟨trivial, ha⟩ | exact ha))
          have hap := appliesB_iff.1 ha
          have CA' := Lib.hid (show Calls Tryz.prog 28 _ W2 fun x w' => ∃ r', x = .returned (.tuple #[.agg #[.int .i64 (nextV u e).log, .int .i64 (nextV u e).next, .int .u64 ((nextV u e).seq : Int), r'], .int .i64 0]) ∧ RowB w' r' (nextV u e).ts ∧ (∀ k, ob r' = some k → W2.heap.size ≤ k) ∧ Below W2.heap.size W2 w' from CA.out.mono fun x w' h => by
            obtain ⟨h1, h2⟩ := h
            rcases h1 with ⟨h1, -⟩ | ⟨-, r', h1, h3, h4⟩
            · exact absurd hap h1
            · exact ⟨r', h1, h3, h4, h2⟩)
          have HWY := Lib.hid hap.2
          obtain ⟨nv, hnv⟩ : ∃ nv, nextV u e = nv := ⟨_, rfl⟩
          rw [hnv] at HU2 CA' HWY
          clear hnv hap ha CA HYES HNO HRN hef hA1 hD1 hus
          go_wp2_with fail
          go_at_call 28
          (with_reducible refine CA'.out.mono ?_)
          rintro _ w3 ⟨r', rfl, hr3, ho3, b3⟩
          obtain ⟨ra', rc', rfl⟩ := hr3.short
          have hy3 := HY2.out.below b3
          have HX3 := Lib.hid (HX2.out.below b3)
          have HB3 := Lib.hid (HB2.out.trans (b3.mono HB2.out.size))
          have g0 := hy3.c0
          have g1 := hy3.c1
          have g2 := hy3.c2
          have g3 := hy3.c3
          have f0 := hy3.f 0
          have f1 := hy3.f 1
          have f2 := hy3.f 2
          have f3 := hy3.f 3
          have HY3 := Lib.hid hy3
          have HR3 := Lib.hid (And.intro hr3 ho3)
          have h23 := b3.size
          clear hy3 hr3 ho3 b3 CA' y0 y1 y2 y3 x0 x1 x2 x3 xf
          go_wp2_with fail
          go_roundw
          case rel =>
            have hX0 := HX01.out.1
            have hX1 := HX01.out.2
            refine ⟨i + 1, nv, .slice ra' nv.ts.length rc', by go_num, by omega, ?_, ?_, ?_, fun k hk => ?_, ?_, Lib.hid ⟨HU2.out, .inr HWY.out⟩⟩
            · exact (block_set4 _ X1 _ _ _ _ X0 h01).trans HX3.out
            · exact HY3.out.set4 _ _ _ _
            · exact Row.kept HR3.out.1 (fun k hk => block_set4 _ X1 _ _ _ _ k (fun e => by have := HR3.out.2 k hk; omega))
            · have := HR3.out.2 k hk; omega
            · have q := below_set4 HB3.out X1 (by omega) (.int .i64 nv.log) (.int .i64 nv.next) (.int .u64 (nv.seq : Int)) (.slice ra' nv.ts.length rc')
              rw [hX0] at q
              exact q
          case measure => simp [intOf]; omega
        · have HN := Lib.hid (HRN.out (HNO.out (fun h => ha h.2)))
          have CA' := Lib.hid (show Calls Tryz.prog 28 _ W2 fun x w' => x = .returned (.tuple #[.agg #[.int .i64 0, .int .i64 0, .int .u64 0, .slice none 0 0], .int .i64 4]) ∧ Below W2.heap.size W2 w' from CA.out.mono fun x w' h => by
            obtain ⟨h1, h2⟩ := h
            rcases h1 with ⟨-, h1⟩ | ⟨h1, -⟩
            · exact ⟨h1, h2⟩
            · exact absurd (appliesB_iff.2 h1) ha)
          clear ha CA HYES HNO HRN hef hA1 hD1 hus
          go_wp2_with fail
          go_at_call 28
          (with_reducible refine CA'.out.mono ?_)
          rintro _ w3 ⟨rfl, b3⟩
          have hy3 := HY2.out.below b3
          have hx3 := HX2.out.below b3
          have HB3 := Lib.hid (HB2.out.trans (b3.mono HB2.out.size))
          have f0 := hy3.f 0
          have f1 := hy3.f 1
          have f2 := hy3.f 2
          have f3 := hy3.f 3
          have p0 := hx3.f 0
          have p1 := hx3.f 1
          have p2 := hx3.f 2
          have p3 := hx3.f 3
          have g0 := hy3.c0
          have g1 := hy3.c1
          have g2 := hy3.c2
          have g3 := hy3.c3
          have q0 := hx3.c0
          have q1 := hx3.c1
          have q2 := hx3.c2
          have q3 := hx3.c3
          have HX3 := Lib.hid hx3
          have h10 : X1 ≠ X0 := fun e => h01 e.symm
          clear hy3 hx3 b3 CA' y0 y1 y2 y3 x0 x1 x2 x3 xf
          go_wp2_with fail
          obtain ⟨WF, hWF⟩ : ∃ WF, set4V (set4V w3 X1 0 0 0 (.slice none 0 0)) X0 0 0 0 (.slice none 0 0) = WF := ⟨_, rfl⟩
          have hF1 : BoxV X0 0 0 0 (.slice none 0 0) WF := by
            rw [← hWF]
            exact (show BoxV X0 0 0 0 (.slice none 0 0) (set4V w3 X1 0 0 0 (.slice none 0 0)) from (set4V_block _ X1 _ _ _ _ X0 h01).trans HX3.out).set4 0 0 0 _
          have hF2 : Below w.heap.size w WF := by
            have hX0 := HX01.out.1
            have hX1 := HX01.out.2
            rw [← hWF]; exact set4V_below (set4V_below HB3.out X1 (by omega) _ _ _ _) X0 (by omega) _ _ _ _
          unfold set4V at hWF
          rw [hWF]
          have z0 := hF1.c0
          have z1 := hF1.c1
          have z2 := hF1.c2
          have z3 := hF1.c3
          refine bodyPost_ret (by simp [results, Tryz.results241, go_sem, z0, z1, z2, z3]; try rfl) rfl ?_
          exact ⟨false, Vr.zero, none, 0, rfl, hF2, (fun h => by cases h), fun _ => HN.out⟩
      · have heb : (er != 0) = true := by simpa using hz
        have CG' := Lib.hid (show ∀ W, Calls Tryz.prog 273 #[.string S] W fun x w' => x = .returned (.tuple #[.agg #[.int .i64 0, .int .i64 0, .int .u64 0, .slice none 0 0, .slice none 0 0], .int .i64 er]) ∧ Below W.heap.size W w' from fun W => (CG.out W).mono fun x w' h => by
          obtain ⟨h1, h2⟩ := h
          rcases h1 with ⟨-, h1⟩ | ⟨h1, -⟩
          · exact ⟨h1, h2⟩
          · exact absurd h1 hz)
        have HN := Lib.hid (HRN.out (HNO.out (fun h => hz h.1)))
        clear CG HNO HYES hfit HRN
        go_wp2_with fail
        go_at_call 273
        (with_reducible refine (CG'.out _).mono ?_)
        rintro _ w1 ⟨rfl, b1⟩
        have hx1 := HX.out.below b1
        have x0 := hx1.c0
        have x1 := hx1.c1
        have x2 := hx1.c2
        have x3 := hx1.c3
        have f0 := hx1.f 0
        have f1 := hx1.f 1
        have f2 := hx1.f 2
        have f3 := hx1.f 3
        have hw1 := hx1.lt
        have hne : X0 ≠ w1.heap.size := by omega
        have HB1' := Lib.hid (HB.out.trans (b1.mono HB.out.size))
        have HX1' := Lib.hid hx1
        clear hx1 b1 CG'
        go_wp2_with fail
        obtain ⟨WF, hWF⟩ : ∃ WF, (set4V w1 X0 0 0 0 (.slice none 0 0)).alloc (.cells #[.int .i64 0, .int .i64 0, .int .u64 0, .slice none 0 0, .slice none 0 0] 52) = WF := ⟨_, rfl⟩
        have hF1 : BoxV X0 0 0 0 (.slice none 0 0) WF := by rw [← hWF]; exact (Below.heap_alloc _ _ _ (by rw [set4V_size]; exact hw1)).trans (HX1'.out.set4 0 0 0 _)
        have hF2 : Below w.heap.size w WF := by rw [← hWF]; exact (set4V_below HB1'.out X0 (by have := HX01.out.1; omega) _ _ _ _).alloc (by rw [set4V_size]; have := HX01.out.1; omega) _
        unfold set4V at hWF
        rw [hWF]
        have z0 := hF1.c0
        have z1 := hF1.c1
        have z2 := hF1.c2
        have z3 := hF1.c3
        refine bodyPost_ret (by simp [results, Tryz.results241, go_sem, z0, z1, z2, z3]; try rfl) rfl ?_
        exact ⟨false, Vr.zero, none, 0, rfl, hF2, (fun h => by cases h), fun _ => HN.out⟩
    · obtain rfl : i = rs.length := by omega
      have hU := HU.out.1
      rw [List.take_length] at hU
      have HRY := Lib.hid (show rs.length ≠ 0 → replayM rs = some u from fun h => replayM_of (fun e => h (by rw [e]; rfl)) hU)
      have HRZ := Lib.hid (show rs.length = 0 → replayM rs = none from fun h => by
        obtain rfl := List.eq_nil_of_length_eq_zero h
        rfl)
      have x0 := hx.c0
      have x1 := hx.c1
      have x2 := hx.c2
      have x3 := hx.c3
      have f0 := hx.f 0
      have f1 := hx.f 1
      have f2 := hx.f 2
      have f3 := hx.f 3
      have y0 := hy.c0
      have y1 := hy.c1
      have y2 := hy.c2
      have y3 := hy.c3
      have h10 : X1 ≠ X0 := fun e => h01 e.symm
      have HX := Lib.hid hx
      have HROW := Lib.hid (And.intro hrow hro)
      have HB := Lib.hid hbel
      clear hx hy hrow hro hbel hU HCS hus hul
      obtain ⟨bb, hbb⟩ : ∃ bb, decide (0 < (rs.length : Int)) = bb := ⟨_, rfl⟩
      have hbb2 : decide (0 < rs.length) = bb := by rw [← hbb]; simp
      have HBB := Lib.hid hbb2
      go_wp2_with fail
      try rw [hbb]
      try rw [hbb2]
      obtain ⟨WF, hWF⟩ : ∃ WF, set4V wr X0 u.log u.next (u.seq : Int) (.slice ra u.ts.length rc) = WF := ⟨_, rfl⟩
      have hF1 : BoxV X0 u.log u.next u.seq (.slice ra u.ts.length rc) WF := by rw [← hWF]; exact HX.out.set4 _ _ _ _
      have hF2 : Below w.heap.size w WF := by
        have hX0 := HX01.out.1
        rw [← hWF]; exact set4V_below HB.out X0 (by omega) _ _ _ _
      have hF3 : RowB WF (.slice ra u.ts.length rc) u.ts := by
        have hX0 := HX01.out.1
        rw [← hWF]; exact Row.kept HROW.out.1 (fun k hk => set4V_block _ X0 _ _ _ _ k (fun e => by have := HROW.out.2 k hk; omega))
      unfold set4V at hWF
      rw [hWF]
      have z0 := hF1.c0
      have z1 := hF1.c1
      have z2 := hF1.c2
      have z3 := hF1.c3
      refine bodyPost_ret (by simp [results, Tryz.results241, go_sem, z0, z1, z2, z3]; try rfl) rfl ?_
      have hb := HBB.out
      refine ⟨bb, u, _, _, rfl, hF2, fun h => ⟨HRY.out (fun e => ?_), hF3, fun k hk => ?_⟩, fun h => HRZ.out ?_⟩
      · rw [h, e] at hb; cases hb
      · have := HROW.out.2 k hk; omega
      · rw [h] at hb; simpa using hb
end Go.Proofs.YtlecffpjcjlabaaGreat

namespace Go.Proofs.YtlecffpjcjlabaaGreat
open Go.RowKit Go.Shelf

section
variable {F : Nat → Prop} {B p n m : Nat} {s : St} {w : World}
set_option maxHeartbeats 8000000 in
set_option maxRecDepth 100000 in
theorem manew_any (h : Hs F B p n m s w) (hN : n ≤ 60000) (hM : m ≤ 800000000) (M : Nat) (mf : Mf) (hmn : mf.num < 100000000) (vv0 : Value) (brk : Bool) (hA : ManAt w M p mf vv0 brk) (hFM : F M) (hBM : B ≤ M) (v : Vr) (a : Option Addr) (c : Nat) (hT : TbsV w (.slice a v.ts.length c) v.ts) (hv : RightV v) (hl : v.ts.length ≤ 10000) (K : Nat) (hK : (wholeB v.up).length ≤ K) (sr : St) (er : Int) (mr : Mf) (hr : anewM s mf v = (sr, er, mr)) :
    Calls Tryz.prog 43 #[.pointer (some ⟨M, 0, none⟩), .agg #[.int .i64 v.log, .int .i64 v.next, .int .u64 (v.seq : Int), .slice a v.ts.length c]] w fun e w' => e = .returned (.int .i64 er) ∧
      ((er ≠ 0 ∧ mr = mf ∧ ManR F B p (n + 20) (m + K + 9) M sr mf vv0 brk w w') ∨ (er = 0 ∧ ManR F B p (n + 20) (m + K + 9) M sr mr (.slice a v.ts.length c) brk w w')) := by
  have h0 := hv.1
  obtain ⟨W1, hW1⟩ : ∃ W1, w.alloc (.cells #[.int .i64 v.log, .int .i64 v.next, .int .u64 (v.seq : Int), .slice a v.ts.length c] 63) = W1 := ⟨_, rfl⟩
  have b1 : Below w.heap.size w W1 := by rw [← hW1]; exact (Below.refl _ _).alloc (Nat.le_refl _) _
  have x1 : BoxV w.heap.size v.log v.next v.seq (.slice a v.ts.length c) W1 := by rw [← hW1]; exact new_block _ _ rfl
  have mn1 := hA.kept (b1.block M hA.lt)
  have c1 := mn1.c1
  have x0 := x1.c0
  have x1' := x1.c1
  have x2 := x1.c2
  have x3 := x1.c3
  have xf := x1.f 1
  have hXM : w.heap.size ≠ M := by have := hA.lt; omega
  by_cases hmost : 100000000 ≤ v.next
  · have d1 : decide (100000000 ≤ v.next) = true := decide_eq_true hmost
    have hq : (s, (21 : Int), mf) = (sr, er, mr) := by rw [← hr]; unfold anewM; rw [if_pos hmost]
    have HQ := Lib.hid hq
    have HR := Lib.hid (show ManR F B p (n + 20) (m + K + 9) M s mf vv0 brk w W1 from (manR_of ((FsV.refl h).made b1) hA hFM).up (by omega) (by omega))
    clear hT hr h hA mn1 x1 b1 hq
    go_enter Tryz.func43, Tryz.ntmps43
    go_upto_region 1 with fail
    try rw [hW1]
    clear hW1
    go_quiet (fail)
    all_goals
      obtain ⟨rfl, hq2⟩ := Prod.mk.inj HQ.out
      obtain ⟨rfl, rfl⟩ := Prod.mk.inj hq2
      go_wp2_with fail
      go_ret
      first | exact ⟨rfl, HR.out.made (belowN (Below.refl _ _) _)⟩ | exact ⟨rfl, rfl, HR.out.made (belowN (Below.refl _ _) _)⟩
  · obtain ⟨k, hk⟩ : ∃ k : Nat, v.next = (k : Int) := ⟨v.next.toNat, by omega⟩
    obtain ⟨X, hX⟩ : ∃ X, w.heap.size = X := ⟨_, rfl⟩
    have d1 : decide (100000000 ≤ (k : Int)) = false := by simp; omega
    have d2 : decide (100000000 ≤ k) = false := by simp; omega
    have hwr : IntKind.i64.wrap ((k : Int) + 1) = (k : Int) + 1 := by rw [IntKind.wrap_i64]; omega
    rw [hX] at x1 x0 x1' x2 x3 xf hXM
    rw [hk] at x1 x1' hW1 ⊢
    have hs1 : Hs (fun k => F k ∨ k = X) B p n m s W1 := h.below b1 (fun k hk => hk.elim .inl (fun e => .inr ⟨by omega, by rw [e]; exact x1.lt⟩))
    have hup : RightV v.up := up_right hv (by omega)
    have KEY := Lib.hid (fun (q : Nat) => (show ∃ W2, (W1.drewN q).setCell ⟨X, 1, none⟩ (.int .i64 ((k : Int) + 1)) = W2 ∧ BoxV X v.log ((k : Int) + 1) v.seq (.slice a v.ts.length c) W2 ∧ Below w.heap.size w W2 ∧ Hs (fun k => F k ∨ k = X) B p n m s W2 ∧ ManAt W2 M p mf vv0 brk from by
      obtain ⟨W2, hW2⟩ : ∃ W2, (W1.drewN q).setCell ⟨X, 1, none⟩ (.int .i64 ((k : Int) + 1)) = W2 := ⟨_, rfl⟩
      have st2 : ∀ j, j ≠ X → W2.heap[j]? = W1.heap[j]? := fun j hj => by rw [← hW2]; exact Below.heap_setCell (W1.drewN q) ⟨X, 1, none⟩ _ j hj
      have hsz2 : W2.heap.size = W1.heap.size := by rw [← hW2]; simp [World.setCell]
      refine ⟨W2, hW2, by rw [← hW2]; exact heap_setCell_same (W1.drewN q) X 1 _ _ _ x1, ?_, hs1.wrote (Nat.le_of_eq hsz2.symm) (fun j _ hj => st2 j (fun e => hj (.inr e))), mn1.kept (st2 M (fun e => hXM e.symm))⟩
      rw [← hW2]; exact (belowN b1 q).setCell (p := ⟨X, 1, none⟩) (by rw [hX]; exact Nat.le_refl _) _))
    have hB := h.size
    rcases hlay : layM s (nmM k) (wholeB v.up) with ⟨s1, e1⟩
    have HL := Lib.hid (fun (W2 : World) (hs2 : Hs (fun k => F k ∨ k = X) B p n m s W2) (mn2 : ManAt W2 M p mf vv0 brk) (hb2 : Below w.heap.size w W2) => mlay_any hs2 (by omega) (by omega) M mf vv0 brk mn2 (.inl hFM) hBM k (by omega) v.up a c (hT.below hb2) hup hl s1 e1 hlay)
    rw [show v.up.log = v.log from rfl, show v.up.next = (k : Int) + 1 by show v.next + 1 = _; rw [hk], show v.up.seq = v.seq from rfl, show v.up.ts = v.ts from rfl] at HL
    have hlt := h.lt
    have HMR := Lib.hid (fun (W2 : World) (hb2 : Below w.heap.size w W2) (n' m' : Nat) (s' : St) (mf' : Mf) (vv' : Value) (w' : World) (q : ManR (fun k => F k ∨ k = X) B p n' m' M s' mf' vv' brk W2 w') => (show ManR F B p n' m' M s' mf' vv' brk w w' from ⟨q.hs.fewer fun _ hk => .inl hk, q.man, (hb2.mono hB).trans q.bel, fun j hj hne => (q.kp j (.inl hj) hne).trans (hb2.block j (hlt j hj))⟩))
    have han : anewM s mf v = if e1 = 0 then ((if (mf.num : Int) = (k : Int) then s1 else (s1.remove (nmM mf.num)).1), 0, ⟨k, v.up⟩) else (s1, e1, mf) := by
      unfold anewM layV
      rw [if_neg hmost, hk, Int.toNat_natCast, hlay]
      simp only
      split <;> rfl
    rw [hr] at han
    have HAN := Lib.hid han
    clear hT hr h hA mn1 x1 b1 hs1 hlay han hv hmost hup h0 hlt
    go_enter Tryz.func43, Tryz.ntmps43
    go_upto_region 1 with fail
    try rw [hW1]
    try rw [hX]
    clear hW1
    go_quiet (fail)
    go_upto_region 5 with fail
    obtain ⟨W2, hW2, x12, hb2, hs2, mn2⟩ := KEY.out nq
    have z0 := x12.c0
    have z1 := x12.c1
    have z2 := x12.c2
    have z3 := x12.c3
    have CL := Lib.hid (HL.out W2 hs2 mn2 hb2)
    have HM2 := Lib.hid (HMR.out W2 hb2)
    rw [hW2]
    clear hW2 x12 hb2 hs2 mn2 x0 x1' x2 x3 xf c1 KEY HL HMR
    go_wp2_with fail
    go_at_call 158
    (with_reducible refine CL.out.mono ?_)
    rintro _ w3 ⟨rfl, hc⟩
    by_cases he : e1 = 0
    rotate_left
    · have heb : (e1 != 0) = true := by simpa using he
      have hm : ManR F B p (n + 20) (m + K + 9) M s1 mf vv0 brk w w3 := by
        rcases hc with ⟨-, hc⟩ | ⟨hc, -⟩
        · exact (HM2.out _ _ _ _ _ _ hc).up (by omega) (by omega)
        · exact absurd hc he
      have hq := HAN.out
      rw [if_neg he] at hq
      obtain ⟨rfl, hq2⟩ := Prod.mk.inj hq
      obtain ⟨rfl, rfl⟩ := Prod.mk.inj hq2
      have HM := Lib.hid hm
      clear hm hc hq hq2 CL HM2 HAN
      go_wp2_with fail
      go_ret
      first | exact ⟨rfl, .inl ⟨he, rfl, HM.out⟩⟩ | exact ⟨rfl, rfl, HM.out⟩ | exact ⟨rfl, HM.out⟩
    subst he
    have hm : ManR F B p (n + 16) (m + (wholeB v.up).length + 9) M s1 ⟨k, v.up⟩ (.slice a v.ts.length c) brk w w3 := by
      rcases hc with ⟨hc, -⟩ | ⟨-, hc⟩
      · exact absurd rfl hc
      · exact HM2.out _ _ _ _ _ _ hc
    have hq := HAN.out
    rw [if_pos rfl] at hq
    obtain ⟨hq1, hq2⟩ := Prod.mk.inj hq
    obtain ⟨rfl, rfl⟩ := Prod.mk.inj hq2
    have HQ := Lib.hid hq1
    have HM := Lib.hid hm
    clear hm hc hq hq1 hq2 CL HM2 HAN
    by_cases hnk : mf.num = k
    · have dn : ((mf.num : Int) != (k : Int)) = false := by simp [hnk]
      have hs := HQ.out
      rw [if_pos (by omega)] at hs
      subst hs
      clear HQ
      go_wp2_with fail
      go_ret
      first | exact ⟨rfl, .inr ⟨rfl, HM.out.up (by omega) (by omega)⟩⟩ | exact ⟨rfl, HM.out.up (by omega) (by omega)⟩
    · have dn : ((mf.num : Int) != (k : Int)) = true := by simp; omega
      have hs := HQ.out
      rw [if_neg (by omega)] at hs
      subst hs
      clear HQ
      have CN := Lib.hid (fun W => mname_any (mf.num : Int) W (by omega) (by omega))
      rw [show ((mf.num : Int) % 100000000).toNat = mf.num by omega] at CN
      obtain ⟨NM, hNM⟩ : ∃ NM : ByteArray, ⟨(nmM mf.num).toArray⟩ = NM := ⟨_, rfl⟩
      have hNs : NM.size ≤ maxLen := by rw [← hNM]; exact (show (9 : Nat) ≤ maxLen by unfold maxLen; omega)
      have hNl : NM.data.toList = nmM mf.num := by rw [← hNM]
      rw [hNM] at CN
      have CR := Lib.hid (fun (W : World) (h : Hs F B p (n + 16) (m + (wholeB v.up).length + 9) s1 W) => hs_remove h (by omega) NM hNs)
      rw [hNl] at CR
      have c0 := HM.out.man.c0
      have HK := Lib.hid (fun (W w4 : World) (b3 : Below W.heap.size W w4) (hW : Below w3.heap.size w3 W) => (show ManR F B p (n + 16) (m + (wholeB v.up).length + 9) M s1 ⟨k, v.up⟩ (.slice a v.ts.length c) brk w w4 from HM.out.made (hW.trans (b3.mono hW.size))))
      clear hNM hNl
      go_upto_region 9 with fail
      go_region_with (first
        | (go_at_call 38; (with_reducible refine (CN.out _).mono ?_); rintro _ w4 ⟨rfl, b4⟩; have q4 := HK.out _ _ b4 ⟨rfl, rfl, rfl, Nat.le_refl _, fun _ _ => rfl⟩; have c4 := q4.man.c0)
        | (go_at_call 35; (with_reducible refine (CR.out _ q4.hs).mono ?_); rintro _ w5 ⟨rfl, h5, b5, k5⟩)
        | fail)
      all_goals
        have HZ := Lib.hid (q4.then ⟨h5, b5, k5⟩ hFM)
        clear q4 h5 b5 k5 b4
        go_wp2_with fail
        go_ret
        first | exact ⟨rfl, .inr ⟨rfl, HZ.out.up (by omega) (by omega)⟩⟩ | exact ⟨rfl, HZ.out.up (by omega) (by omega)⟩
end
end Go.Proofs.YtlecffpjcjlabaaGreat
