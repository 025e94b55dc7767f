/- Edits that came in; plain: an edit of all makes it again, adding and dropping again leaves it. -/
import Derived.Test.YtmcgfafkggannaaJO
namespace Go.Proofs.Ytmcgfafkggannaa
open Go.ChangeShapes Go.WideShapes Go.ChangeAt Go.Deep
open Go.RowKit Go.Shelf

theorem leftT_none (ts : List Tb) : leftT ts [] = ts := by
  unfold leftT
  refine List.filter_eq_self.2 fun t _ => ?_
  rfl
theorem next_zero_ts (e : Ed) : (nextV Vr.zero e).ts = ordT e.add := by
  unfold nextV
  rw [show leftT Vr.zero.ts e.drop ++ e.add = e.add from rfl]
theorem next_len (v : Vr) (e : Ed) : (nextV v e).ts.length ≤ v.ts.length + e.add.length := by
  unfold nextV
  simp only
  rw [(ordT_both _).1.length_eq, List.length_append]
  have := leftT_len v.ts e.drop
  omega
theorem next_stands (v : Vr) (e : Ed) : Stands (nextV v e).ts := (ordT_both _).2
/-- The edit of all makes a right version that stands in order again. -/
theorem next_whole {v : Vr} (h : RightV v) (hs : Stands v.ts) : nextV Vr.zero (wholeE v) = v := by
  obtain ⟨log, next, seq, ts⟩ := v
  have h1 := h.1
  simp only at h1 hs
  unfold nextV wholeE
  simp only
  rw [show leftT Vr.zero.ts [] ++ ts = ts from rfl]
  have e1 : max Vr.zero.log log = log := by show max 0 log = log; omega
  have e2 : max Vr.zero.next next = next := by show max 0 next = next; omega
  have e3 : max Vr.zero.seq seq = seq := by show max 0 seq = seq; omega
  rw [e1, e2, e3]
  have := stands_one h hs (ordT_both ts).1 (ordT_both ts).2
  rw [this]
theorem applies_whole {v : Vr} (h : RightV v) (hs : Stands v.ts) : Applies Vr.zero (wholeE v) := ⟨(fun n hn => by cases hn), by rw [next_whole h hs]; exact h⟩
def addE (t : Tb) : Ed := ⟨0, 0, 0, [t], []⟩
def dropE (n : Int) : Ed := ⟨0, 0, 0, [], [n]⟩
theorem next_add {v : Vr} (t : Tb) (h : RightV v) : nextV v (addE t) = ⟨v.log, v.next, v.seq, ordT (v.ts ++ [t])⟩ := by
  have h1 := h.1
  unfold nextV addE
  simp only
  rw [leftT_none]
  have e1 : max v.log 0 = v.log := by omega
  have e2 : max v.next 0 = v.next := by omega
  have e3 : max v.seq 0 = v.seq := by omega
  rw [e1, e2, e3]
theorem next_add_len {v : Vr} (t : Tb) (h : RightV v) : (nextV v (addE t)).ts.length = v.ts.length + 1 := by
  rw [next_add t h]
  simp only
  rw [(ordT_both _).1.length_eq, List.length_append]
  rfl
/-- Adding a table and dropping it again leaves a version as it was. -/
theorem next_back {v : Vr} (t : Tb) (h : RightV v) (hs : Stands v.ts) (ha : RightV (nextV v (addE t))) : Applies (nextV v (addE t)) (dropE t.n) ∧ nextV (nextV v (addE t)) (dropE t.n) = v := by
  have hn := next_add t h
  rw [hn] at ha ⊢
  have hp := (ordT_both (v.ts ++ [t])).1
  have h1 := h.1
  have htw : (v.ts ++ [t]).Pairwise TwoOk := (hp.pairwise_iff (fun h => TwoOk.symm h)).1 ha.2.2
  have hne : ∀ u ∈ v.ts, u.n ≠ t.n := fun u hu => ((List.pairwise_append.1 htw).2.2 u hu t (by simp)).1
  have hl : (leftT (ordT (v.ts ++ [t])) [t.n]).Perm v.ts := by
    have := hp.filter (fun x : Tb => !([t.n] : List Int).contains x.n)
    refine (show (leftT (ordT (v.ts ++ [t])) [t.n]).Perm (leftT (v.ts ++ [t]) [t.n]) from this).trans ?_
    have e : leftT (v.ts ++ [t]) [t.n] = v.ts := by
      unfold leftT
      rw [List.filter_append, List.filter_eq_self.2 (fun u hu => by simpa using hne u hu)]
      simp
    rw [e]
  have e0 : nextV ⟨v.log, v.next, v.seq, ordT (v.ts ++ [t])⟩ (dropE t.n) = v := by
    unfold nextV dropE
    simp only
    rw [List.append_nil]
    have e1 : max v.log 0 = v.log := by omega
    have e2 : max v.next 0 = v.next := by omega
    have e3 : max v.seq 0 = v.seq := by omega
    rw [e1, e2, e3]
    have := stands_one h hs ((ordT_both _).1.trans hl) (ordT_both _).2
    rw [this]
  refine ⟨⟨fun n hn => ?_, by rw [e0]; exact h⟩, e0⟩
  have : n = t.n := by simpa [dropE] using hn
  subst this
  exact there_iff.2 ⟨t, hp.mem_iff.2 (by simp), rfl⟩
/-- An edit that came in: what it has, and where its lists lie. -/
structure EdW (w : World) (e : Ed) (va vd : Value) : Prop where
  l : -9223372036854775808 ≤ e.log ∧ e.log ≤ 9223372036854775807
  n : -9223372036854775808 ≤ e.next ∧ e.next ≤ 9223372036854775807
  s : e.seq < 18446744073709551616
  a : TbsV w va e.add
  d : IntsV w vd e.drop
  la : e.add.length ≤ maxLen
  ld : e.drop.length ≤ maxLen
  ka : ∀ t ∈ e.add, t.Ok
  kd : ∀ k ∈ e.drop, -9223372036854775808 ≤ k ∧ k ≤ 9223372036854775807
theorem rowTV_of {H : Type} {enc : TypeId × Value → H} {w : World} {base fuel : Nat} {held : Bool} {v : Value} {x : DataW H × List MemPlace}
    (h : DataW.trod enc Try.prog w base (fun _ => true) held fuel 23 [v] = some x) : ∃ ts, TbsV w v ts ∧ ts.length ≤ maxLen ∧ ∀ t ∈ ts, t.Ok := by
  obtain ⟨a, len, cap, rfl⟩ : ∃ a len cap, v = .slice a len cap := by
    rcases open_slice Try.underlying23 h with ⟨hcs, _⟩ | ⟨y, l, c, m, n, D, Pl, hcs, _, hl, hm, hmm, _, hx⟩
    · simp at hcs
      exact ⟨_, _, _, hcs⟩
    · simp at hcs
      exact ⟨_, _, _, hcs⟩
  obtain ⟨⟨l, h1, h2, h3⟩, hn, -, -⟩ := rowT_of (cap := cap) (a := a) (len := len) h
  exact ⟨l, h3.v hn, by rw [h3.1]; exact h1, h2⟩
theorem rowIV_of {H : Type} {enc : TypeId × Value → H} {w : World} {base fuel : Nat} {held : Bool} {v : Value} {x : DataW H × List MemPlace}
    (h : DataW.trod enc Try.prog w base (fun _ => true) held fuel 24 [v] = some x) : ∃ ks, IntsV w v ks ∧ ks.length ≤ maxLen ∧ ∀ k ∈ ks, -9223372036854775808 ≤ k ∧ k ≤ 9223372036854775807 := by
  have c1 : Try.prog.cellsOf 3 = 1 := by kernel_rfl
  rcases open_ints Try.underlying24 Try.underlying3 c1 h with ⟨hcs, _⟩ | ⟨y, l, c, zs, hcs, _, hl, hm, hz, _, hcell, hwz⟩
  · simp at hcs
    subst hcs
    exact ⟨[], .inl ⟨rfl, rfl⟩, Nat.zero_le _, fun k hk => by cases hk⟩
  · simp at hcs
    subst hcs
    have hz' : zs.length = c := by simpa using hz
    have htl : (zs.take l).length = l := by simp; omega
    refine ⟨zs.take l, .inr ⟨y, c, by rw [htl], fun j hj => ?_⟩, by rw [htl]; omega, fun k hk => bounds_i64 (hwz k (List.mem_of_mem_take hk))⟩
    rw [htl] at hj
    have := hcell j (by omega)
    rw [this, List.getD_eq_getElem?_getD, List.getElem?_eq_getElem (by omega)]
    simp
set_option maxRecDepth 100000 in
theorem edit_of {H : Type} {enc : TypeId × Value → H} {w : World} {base n : Nat} {held : Bool} {cs : Array Value} {y : DataW H × List MemPlace}
    (h : DataW.trod enc Try.prog w base (fun _ => true) held n 26 (Value.agg cs).cells.toList = some y) (hl : cs.size = Try.prog.cellsOf 26) : ∃ e va vd, EdW w e va vd ∧ Value.agg cs = ediV e.log e.next e.seq va vd := by
  have c4 : Try.prog.cellsOf 26 = 5 := by kernel_rfl
  obtain ⟨xs, k, hk, hxy, _, hxl, hf⟩ := DataW.trod_struct Try.underlying26 h
  have c3 : Try.prog.cellsOf 3 = 1 := by kernel_rfl
  have c9 : Try.prog.cellsOf 22 = 1 := by kernel_rfl
  have c7 : Try.prog.cellsOf 23 = 1 := by kernel_rfl
  have c8 : Try.prog.cellsOf 24 = 1 := by kernel_rfl
  have hls : cs.toList.length = 5 := by rw [Array.length_toList, hl, c4]
  rw [show (Value.agg cs).cells = cs from rfl] at hf
  obtain ⟨cl, hcl⟩ : ∃ cl, cs.toList = cl := ⟨_, rfl⟩
  have hcs : cs = cl.toArray := by rw [← hcl]
  subst hcs
  rw [hcl] at hls hf
  clear h hk hxy hcl hl
  match xs, hxl, cl, hls with
  | [y0, y1, y2, y3, y4], _, [v0, v1, v2, v3, v4], _ =>
    have g0 := hf 0 _ rfl
    have g1 := hf 1 _ rfl
    have g2 := hf 2 _ rfl
    have g3 := hf 3 _ rfl
    have g4 := hf 4 _ rfl
    simp [c3, c9, c7, c8] at g0 g1 g2 g3 g4
    obtain ⟨z0, e0, -, b0⟩ := DataW.trod_int Try.underlying3 g0
    obtain ⟨z1, e1, -, b1⟩ := DataW.trod_int Try.underlying3 g1
    obtain ⟨z2, e2, -, b2⟩ := DataW.trod_int Try.underlying22 g2
    obtain ⟨ts, h1, h2, h3⟩ := rowTV_of g3
    obtain ⟨ks, h4, h5, h6⟩ := rowIV_of g4
    simp only [List.cons.injEq, and_true] at e0 e1 e2
    subst e0 e1 e2
    have k0 := bounds_i64 b0
    have k1 := bounds_i64 b1
    have k2 := bounds_u64 b2
    obtain ⟨z2, rfl⟩ : ∃ m : Nat, z2 = (m : Int) := ⟨z2.toNat, by omega⟩
    exact ⟨⟨z0, z1, z2, ts, ks⟩, v3, v4, ⟨k0, k1, by show z2 < _; omega, h1, h4, h2, h5, h3, h6⟩, rfl⟩
end Go.Proofs.Ytmcgfafkggannaa
