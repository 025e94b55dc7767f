/- edit: alive, Small, SameTables, edits that came in, Light (JL JO JE JF). -/
import Derived.Test.YtlecffpjcjlabaaGreatJM
import Derived.Test.YtlecffpjcjlabaaGreatJB
namespace Go.Proofs.YtlecffpjcjlabaaGreat
open Go.RowKit Go.Shelf

def tA : Tb := ⟨1, 0, 9, ⟨#[97]⟩, ⟨#[99]⟩⟩
def tB : Tb := ⟨2, 0, 9, ⟨#[98]⟩, ⟨#[100]⟩⟩
def eAB : Ed := ⟨0, 3, 0, [tA, tB], []⟩
theorem nextAB : nextV Vr.zero eAB = ⟨0, 3, 0, [tB, tA]⟩ := by
  have h : ordT [tA, tB] = [tB, tA] := by
    have h1 : insT [] tA = [tA] := rfl
    have h2 : lessT tB tA = true := by decide
    show insT (insT [] tA) tB = _
    rw [h1]
    unfold insT
    have : posT tB [tA] [tA].length = 0 := by
      show (if lessT tB (tabAt [tA] 0) then posT tB [tA] 0 else 1) = 0
      rw [if_pos (show lessT tB (tabAt [tA] 0) = true from h2)]
      rfl
    rw [this]
    rfl
  unfold nextV
  have e : leftT Vr.zero.ts eAB.drop ++ eAB.add = [tA, tB] := rfl
  rw [e, h]
  rfl
theorem rightAB : RightV (nextV Vr.zero eAB) := by
  rw [nextAB]
  have h1 : TabOk 3 tA := by unfold TabOk tA; refine ⟨by decide, by decide, by decide, by decide, by decide, by decide, by decide, by decide, by decide⟩
  have h2 : TabOk 3 tB := by unfold TabOk tB; refine ⟨by decide, by decide, by decide, by decide, by decide, by decide, by decide, by decide, by decide⟩
  refine ⟨by simp, fun t ht => ?_, ?_⟩
  · simp at ht
    rcases ht with rfl | rfl
    · exact h2
    · exact h1
  · simp only [List.pairwise_cons, List.mem_cons, List.not_mem_nil, or_false, forall_eq, false_implies, implies_true, List.Pairwise.nil, and_true]
    exact ⟨by decide, fun _ h => by cases h⟩
theorem appAB : Applies Vr.zero eAB := ⟨(fun n hn => by cases hn), rightAB⟩
theorem tbs_two (w : World) (x y : Tb) : TbsV (w.alloc (.cells #[.int .i64 x.n, .int .i64 x.lv, .int .i64 x.sz, .string x.f, .string x.l, .int .i64 y.n, .int .i64 y.lv, .int .i64 y.sz, .string y.f, .string y.l] 89)) (.slice (some ⟨w.heap.size, 0, none⟩) 2 2) [x, y] :=
  .inr ⟨_, _, rfl, fun j u hu => by
    rw [add_plainT, Nat.zero_add]
    refine nce rfl ?_
    simpa [cellsT, Tb.cells] using hu⟩
theorem intsV_nil (w : World) : IntsV w (.slice none 0 0) [] := .inl ⟨rfl, rfl⟩
theorem tbsV_nil (w : World) : TbsV w (.slice none 0 0) [] := .inl ⟨rfl, rfl⟩
theorem putE_len {e : Ed} (h : e.Ok) (hl : 0 ≤ e.log) (hn : 0 ≤ e.next) : (putE e).length ≤ 50 + e.add.length * 18050 + e.drop.length * 10 := by
  obtain ⟨h1, h2, h3, h4, h5, h6, h7⟩ := h
  unfold putE
  rw [List.length_append, List.length_append, List.length_append, List.length_append]
  have a1 := three_vars e.log.toNat e.next.toNat e.seq (by omega) (by omega) h3
  have a2 := one_vars e.add.length (by omega)
  have a3 := putTs_len e.add h6
  have a4 := one_vars e.drop.length (by omega)
  have a5 := putI_len e.drop (fun k hk => (h7 k hk).2)
  omega
theorem right_ok {v : Vr} (h : RightV v) : ∀ t ∈ v.ts, t.Ok ∧ t.Short := fun t ht => by
  have a := h.2.1 t ht
  have b := h.1
  unfold TabOk at a
  unfold Tb.Ok Tb.Short maxLen
  omega
end Go.Proofs.YtlecffpjcjlabaaGreat

namespace Go.Proofs.YtlecffpjcjlabaaGreat
open Go.RowKit Go.Shelf

set_option maxHeartbeats 4000000 in
set_option maxRecDepth 100000 in
theorem small12_any (v : Value) (ts : List Tb) (w : World) (hT : TbsV w v ts) (hlm : ts.length ≤ 9223372036854775807) (hok : ∀ x ∈ ts, x.Ok) :
    Calls Tryz.prog 133 #[v] w fun e w' => ∃ t : Bool, e = .returned (.bool t) ∧ (t = true → ts.length ≤ 40 ∧ ∀ x ∈ ts, x.Short) ∧ Below w.heap.size w w' := by
  obtain ⟨a, cap, rfl⟩ := hT.len
  have HO := Lib.hid hT
  have HOK := Lib.hid hok
  clear hT hok
  obtain ⟨len, hlen⟩ : ∃ n, ts.length = n := ⟨_, rfl⟩
  have HLN := Lib.hid hlen
  rw [hlen] at hlm HO ⊢
  clear hlen
  go_enter Tryz.func133, Tryz.ntmps133
  go_wp2
  go_loopw [3, 4] (fun rv iv wr => ∃ (i : Nat) (q : Int), i ≤ len ∧ i ≤ 100 ∧ rv = .int .i64 q ∧ iv = .int .i64 (i : Int) ∧ -1 ≤ q ∧ q ≤ 9000 ∧ Hid (0 ≤ q → ∀ x ∈ ts.take i, x.Short) ∧ Hid (Below w.heap.size w wr)) (fun _ iv _ => len - (intOf iv).toNat)
  case atStart => exact ⟨0, 9000, Nat.zero_le _, Nat.zero_le _, rfl, rfl, by omega, by omega, Lib.hid (fun _ x hx => by simp at hx), Lib.hid (Below.refl _ _)⟩
  case round =>
    obtain ⟨i, q, hi, hi4, rfl, rfl, hq1, hq2, HSM, HBL⟩ := hrel
    by_cases hgo : i < len ∧ i < 100 ∧ 0 ≤ q
    · obtain ⟨g1, g2, g3⟩ := hgo
      have hlt : i < ts.length := by rw [HLN.out]; exact g1
      obtain ⟨b, off, rfl, hblt, hcell⟩ := (HO.out.below HBL.out).at hlt
      have HTK := Lib.hid (take_snocT hlt)
      have hmem : tabAt ts i ∈ ts := by rw [tabAt_get hlt]; exact List.getElem_mem _
      have hkx := HOK.out _ hmem
      generalize tabAt ts i = st at *
      unfold Tb.Ok maxLen at hkx
      have hf1 : st.f.size ≤ 9223372036854775807 := by omega
      have hl1 : st.l.size ≤ 9223372036854775807 := by omega
      have q3 : wr.cell? ⟨b, off + i * 5 + 3, none⟩ = some (.string st.f) := hcell 3 _ rfl
      have q4 : wr.cell? ⟨b, off + i * 5 + 4, none⟩ = some (.string st.l) := hcell 4 _ rfl
      clear hcell hkx hmem hlt
      have hil : (i : Int) < (len : Int) := by omega
      have d1 : decide ((i : Int) < 100) = true := by simp; omega
      have d2 : decide (0 ≤ q) = true := decide_eq_true g3
      have hR := room_list wr.heap.size 2 (lensT st) q (wr.alloc (.cells #[.int .i64 (st.f.size : Int), .int .i64 (st.l.size : Int)] 3)).drew hq1 (by omega) (by simp [lensT]) (by simp [lensT]; omega) (fun j hj => by
        match j, hj with
        | 0, _ => exact nce rfl rfl
        | 1, _ => exact nce rfl rfl)
      have hlen4 : (lensT st).length = 2 := rfl
      rw [hlen4] at hR
      obtain ⟨r1, r2, -⟩ := roomL_le (lensT st) q hq1 (by simp [lensT])
      have HS4 := Lib.hid (lensT_small (x := st) hq1 hq2)
      generalize roomL q (lensT st) = q' at hR r1 r2 HS4
      have HR := Lib.hid hR
      clear hR hlen4
      go_wp2
      go_region_held3 (fun w' => w'.cell? ⟨b, off + i * 5 + 3, none⟩ = some (.string st.f) ∧ w'.cell? ⟨b, off + i * 5 + 4, none⟩ = some (.string st.l)) (first | go_keep | exact ⟨oce hblt q3, oce hblt q4⟩) (first | (go_at_call 150; refine HR.out.mono ?_; rintro e w1 ⟨rfl, rfl⟩) | fail)
      all_goals go_wp2
      all_goals
        have hnx : 0 ≤ q' → ∀ x ∈ ts.take (i + 1), x.Short := by
          intro h0 x hx
          rw [HTK.out] at hx
          rcases List.mem_append.1 hx with hx | hx
          · exact HSM.out g3 x hx
          · simp at hx
            rw [hx]
            exact HS4.out h0
        have hbn : Below w.heap.size w (wr.alloc (.cells #[.int .i64 (st.f.size : Int), .int .i64 (st.l.size : Int)] 3)).drew := (HBL.out.alloc HBL.out.size _).drew
      all_goals go_roundw
      all_goals first
        | exact ⟨i + 1, q', by omega, by omega, rfl, by go_num, r1, by omega, Lib.hid hnx, Lib.hid hbn⟩
        | (simp [intOf]; omega)
    · by_cases hl2 : len ≤ 40 ∧ 0 ≤ q
      · obtain ⟨m1, m2⟩ := hl2
        obtain rfl : i = len := by omega
        have d0 : decide ((i : Int) < (i : Int)) = false := by simp
        have d1 : decide ((i : Int) ≤ 40) = true := by simp; omega
        have d2 : decide (0 ≤ q) = true := decide_eq_true m2
        go_wp2
        go_ret
        refine ⟨true, rfl, fun _ => ⟨m1, fun x hx => HSM.out m2 x ?_⟩, HBL.out⟩
        rw [List.take_of_length_le (by rw [HLN.out]; omega)]
        exact hx
      · by_cases e1 : i < len
        · have hil : (i : Int) < (len : Int) := by omega
          by_cases e2 : i < 100
          · have hq : q < 0 := by omega
            have d1 : decide ((i : Int) < 100) = true := by simp; omega
            have d2 : decide (0 ≤ q) = false := decide_eq_false (by omega)
            by_cases e3 : len ≤ 40
            · have d3 : decide ((len : Int) ≤ 40) = true := by simp; omega
              go_wp2
              go_ret
              exact ⟨false, rfl, fun h => (by cases h), HBL.out⟩
            · have d3 : decide ((len : Int) ≤ 40) = false := by simp; omega
              go_wp2
              go_ret
              exact ⟨false, rfl, fun h => (by cases h), HBL.out⟩
          · have d1 : decide ((i : Int) < 100) = false := by simp; omega
            have d3 : decide ((len : Int) ≤ 40) = false := by simp; omega
            go_wp2
            go_ret
            exact ⟨false, rfl, fun h => (by cases h), HBL.out⟩
        · obtain rfl : i = len := by omega
          have d0 : decide ((i : Int) < (i : Int)) = false := by simp
          by_cases e3 : i ≤ 40
          · have d3 : decide ((i : Int) ≤ 40) = true := by simp; omega
            have d2 : decide (0 ≤ q) = false := decide_eq_false (by omega)
            go_wp2
            go_ret
            exact ⟨false, rfl, fun h => (by cases h), HBL.out⟩
          · have d3 : decide ((i : Int) ≤ 40) = false := by simp; omega
            go_wp2
            go_ret
            exact ⟨false, rfl, fun h => (by cases h), HBL.out⟩
theorem tb_eq {x y : Tb} (h0 : x.n = y.n) (h1 : x.lv = y.lv) (h2 : x.sz = y.sz) (h3 : x.f = y.f) (h4 : x.l = y.l) : x = y := by
  cases x; cases y; simp_all
set_option maxHeartbeats 4000000 in
set_option maxRecDepth 100000 in
/-- Two lists of the same tables are told to be the same. -/
theorem sameT_yes (u v : Value) (ts : List Tb) (w : World) (hU : TbsV w u ts) (hV : TbsV w v ts) (hl : ts.length ≤ 100000) :
    Calls Tryz.prog 59 #[u, v] w fun e w' => e = .returned (.bool true) ∧ Below w.heap.size w w' := by
  obtain ⟨a, c, rfl⟩ := hU.len
  obtain ⟨a2, c2, rfl⟩ := hV.len
  have HU := Lib.hid hU
  have HV := Lib.hid hV
  clear hU hV
  go_enter Tryz.func59, Tryz.ntmps59
  go_wp2
  go_loopw [5] (fun iv wr => ∃ (i : Nat), iv = .int .i64 (i : Int) ∧ i ≤ ts.length ∧ Hid (Below w.heap.size w wr)) (fun iv _ => ts.length - (intOf iv).toNat)
  case atStart => exact ⟨0, rfl, Nat.zero_le _, Lib.hid (Below.refl _ _)⟩
  case round =>
    obtain ⟨i, rfl, hi, HB⟩ := hrel
    by_cases hlt : i < ts.length
    · obtain ⟨b, off, rfl, hblt, hcell⟩ := (HU.out.below HB.out).at hlt
      obtain ⟨b2, off2, rfl, hblt2, hcell2⟩ := (HV.out.below HB.out).at hlt
      generalize tabAt ts i = x at *
      obtain ⟨n1, l1, z1, f1, g1⟩ := x
      have q0 : wr.cell? ⟨b, off + i * 5, none⟩ = some (.int .i64 n1) := hcell 0 _ rfl
      have q1 : wr.cell? ⟨b, off + i * 5 + 1, none⟩ = some (.int .i64 l1) := hcell 1 _ rfl
      have q2 : wr.cell? ⟨b, off + i * 5 + 2, none⟩ = some (.int .i64 z1) := hcell 2 _ rfl
      have q3 : wr.cell? ⟨b, off + i * 5 + 3, none⟩ = some (.string f1) := hcell 3 _ rfl
      have q4 : wr.cell? ⟨b, off + i * 5 + 4, none⟩ = some (.string g1) := hcell 4 _ rfl
      have p0 : wr.cell? ⟨b2, off2 + i * 5, none⟩ = some (.int .i64 n1) := hcell2 0 _ rfl
      have p1 : wr.cell? ⟨b2, off2 + i * 5 + 1, none⟩ = some (.int .i64 l1) := hcell2 1 _ rfl
      have p2 : wr.cell? ⟨b2, off2 + i * 5 + 2, none⟩ = some (.int .i64 z1) := hcell2 2 _ rfl
      have p3 : wr.cell? ⟨b2, off2 + i * 5 + 3, none⟩ = some (.string f1) := hcell2 3 _ rfl
      have p4 : wr.cell? ⟨b2, off2 + i * 5 + 4, none⟩ = some (.string g1) := hcell2 4 _ rfl
      have hiI : (i : Int) < (ts.length : Int) := by omega
      clear hcell hcell2
      go_wp2
      go_quiet (fail)
      go_wp2
      go_roundw
      case rel => exact ⟨i + 1, by go_num, by omega, Lib.hid (belowN HB.out _)⟩
      case measure => simp [intOf]; omega
    · obtain rfl : i = ts.length := by omega
      have d3 : decide ((ts.length : Int) < (ts.length : Int)) = false := by simp
      go_wp2
      go_ret
      exact ⟨rfl, HB.out⟩
end Go.Proofs.YtlecffpjcjlabaaGreat

namespace Go.Proofs.YtlecffpjcjlabaaGreat
open Go.ChangeShapes Go.WideShapes Go.ChangeAt Go.Deep
open Go.RowKit Go.Shelf

theorem leftT_none (ts : List Tb) : leftT ts [] = ts := by
  unfold leftT
  refine List.filter_eq_self.2 fun t _ => ?_
  rfl
theorem next_zero_ts (e : Ed) : (nextV Vr.zero e).ts = ordT e.add := by
  unfold nextV
  rw [show leftT Vr.zero.ts e.drop ++ e.add = e.add from rfl]
theorem next_len (v : Vr) (e : Ed) : (nextV v e).ts.length ≤ v.ts.length + e.add.length := by
  unfold nextV
  simp only
  rw [(ordT_both _).1.length_eq, List.length_append]
  have := leftT_len v.ts e.drop
  omega
theorem next_stands (v : Vr) (e : Ed) : Stands (nextV v e).ts := (ordT_both _).2
/-- The edit of all makes a right version that stands in order again. -/
theorem next_whole {v : Vr} (h : RightV v) (hs : Stands v.ts) : nextV Vr.zero (wholeE v) = v := by
  obtain ⟨log, next, seq, ts⟩ := v
  have h1 := h.1
  simp only at h1 hs
  unfold nextV wholeE
  simp only
  rw [show leftT Vr.zero.ts [] ++ ts = ts from rfl]
  have e1 : max Vr.zero.log log = log := by show max 0 log = log; omega
  have e2 : max Vr.zero.next next = next := by show max 0 next = next; omega
  have e3 : max Vr.zero.seq seq = seq := by show max 0 seq = seq; omega
  rw [e1, e2, e3]
  have := stands_one h hs (ordT_both ts).1 (ordT_both ts).2
  rw [this]
theorem applies_whole {v : Vr} (h : RightV v) (hs : Stands v.ts) : Applies Vr.zero (wholeE v) := ⟨(fun n hn => by cases hn), by rw [next_whole h hs]; exact h⟩
def addE (t : Tb) : Ed := ⟨0, 0, 0, [t], []⟩
def dropE (n : Int) : Ed := ⟨0, 0, 0, [], [n]⟩
theorem next_add {v : Vr} (t : Tb) (h : RightV v) : nextV v (addE t) = ⟨v.log, v.next, v.seq, ordT (v.ts ++ [t])⟩ := by
  have h1 := h.1
  unfold nextV addE
  simp only
  rw [leftT_none]
  have e1 : max v.log 0 = v.log := by omega
  have e2 : max v.next 0 = v.next := by omega
  have e3 : max v.seq 0 = v.seq := by omega
  rw [e1, e2, e3]
theorem next_add_len {v : Vr} (t : Tb) (h : RightV v) : (nextV v (addE t)).ts.length = v.ts.length + 1 := by
  rw [next_add t h]
  simp only
  rw [(ordT_both _).1.length_eq, List.length_append]
  rfl
/-- Adding a table and dropping it again leaves a version as it was. -/
theorem next_back {v : Vr} (t : Tb) (h : RightV v) (hs : Stands v.ts) (ha : RightV (nextV v (addE t))) : Applies (nextV v (addE t)) (dropE t.n) ∧ nextV (nextV v (addE t)) (dropE t.n) = v := by
  have hn := next_add t h
  rw [hn] at ha ⊢
  have hp := (ordT_both (v.ts ++ [t])).1
  have h1 := h.1
  have htw : (v.ts ++ [t]).Pairwise TwoOk := (hp.pairwise_iff (fun h => TwoOk.symm h)).1 ha.2.2
  have hne : ∀ u ∈ v.ts, u.n ≠ t.n := fun u hu => ((List.pairwise_append.1 htw).2.2 u hu t (by simp)).1
  have hl : (leftT (ordT (v.ts ++ [t])) [t.n]).Perm v.ts := by
    have := hp.filter (fun x : Tb => !([t.n] : List Int).contains x.n)
    refine (show (leftT (ordT (v.ts ++ [t])) [t.n]).Perm (leftT (v.ts ++ [t]) [t.n]) from this).trans ?_
    have e : leftT (v.ts ++ [t]) [t.n] = v.ts := by
      unfold leftT
      rw [List.filter_append, List.filter_eq_self.2 (fun u hu => by simpa using hne u hu)]
      simp
    rw [e]
  have e0 : nextV ⟨v.log, v.next, v.seq, ordT (v.ts ++ [t])⟩ (dropE t.n) = v := by
    unfold nextV dropE
    simp only
    rw [List.append_nil]
    have e1 : max v.log 0 = v.log := by omega
    have e2 : max v.next 0 = v.next := by omega
    have e3 : max v.seq 0 = v.seq := by omega
    rw [e1, e2, e3]
    have := stands_one h hs ((ordT_both _).1.trans hl) (ordT_both _).2
    rw [this]
  refine ⟨⟨fun n hn => ?_, by rw [e0]; exact h⟩, e0⟩
  have : n = t.n := by simpa [dropE] using hn
  subst this
  exact there_iff.2 ⟨t, hp.mem_iff.2 (by simp), rfl⟩
/-- An edit that came in: what it has, and where its lists lie. -/
structure EdW (w : World) (e : Ed) (va vd : Value) : Prop where
  l : -9223372036854775808 ≤ e.log ∧ e.log ≤ 9223372036854775807
  n : -9223372036854775808 ≤ e.next ∧ e.next ≤ 9223372036854775807
  s : e.seq < 18446744073709551616
  a : TbsV w va e.add
  d : IntsV w vd e.drop
  la : e.add.length ≤ maxLen
  ld : e.drop.length ≤ maxLen
  ka : ∀ t ∈ e.add, t.Ok
  kd : ∀ k ∈ e.drop, -9223372036854775808 ≤ k ∧ k ≤ 9223372036854775807
theorem rowTV_of {H : Type} {enc : TypeId × Value → H} {w : World} {base fuel : Nat} {held : Bool} {v : Value} {x : DataW H × List MemPlace}
    (h : DataW.trod enc Tryz.prog w base (fun _ => true) held fuel 49 [v] = some x) : ∃ ts, TbsV w v ts ∧ ts.length ≤ maxLen ∧ ∀ t ∈ ts, t.Ok := by
  obtain ⟨a, len, cap, rfl⟩ : ∃ a len cap, v = .slice a len cap := by
    rcases open_slice Tryz.underlying49 h with ⟨hcs, _⟩ | ⟨y, l, c, m, n, D, Pl, hcs, _, hl, hm, hmm, _, hx⟩
    · simp at hcs
      exact ⟨_, _, _, hcs⟩
    · simp at hcs
      exact ⟨_, _, _, hcs⟩
  obtain ⟨⟨l, h1, h2, h3⟩, hn, -, -⟩ := rowT_of (cap := cap) (a := a) (len := len) h
  exact ⟨l, h3.v hn, by rw [h3.1]; exact h1, h2⟩
theorem rowIV_of {H : Type} {enc : TypeId × Value → H} {w : World} {base fuel : Nat} {held : Bool} {v : Value} {x : DataW H × List MemPlace}
    (h : DataW.trod enc Tryz.prog w base (fun _ => true) held fuel 50 [v] = some x) : ∃ ks, IntsV w v ks ∧ ks.length ≤ maxLen ∧ ∀ k ∈ ks, -9223372036854775808 ≤ k ∧ k ≤ 9223372036854775807 := by
  have c1 : Tryz.prog.cellsOf 3 = 1 := by kernel_rfl
  rcases open_ints Tryz.underlying50 Tryz.underlying3 c1 h with ⟨hcs, _⟩ | ⟨y, l, c, zs, hcs, _, hl, hm, hz, _, hcell, hwz⟩
  · simp at hcs
    subst hcs
    exact ⟨[], .inl ⟨rfl, rfl⟩, Nat.zero_le _, fun k hk => by cases hk⟩
  · simp at hcs
    subst hcs
    have hz' : zs.length = c := by simpa using hz
    have htl : (zs.take l).length = l := by simp; omega
    refine ⟨zs.take l, .inr ⟨y, c, by rw [htl], fun j hj => ?_⟩, by rw [htl]; omega, fun k hk => bounds_i64 (hwz k (List.mem_of_mem_take hk))⟩
    rw [htl] at hj
    have := hcell j (by omega)
    rw [this, List.getD_eq_getElem?_getD, List.getElem?_eq_getElem (by omega)]
    simp
set_option maxRecDepth 100000 in
theorem edit_of {H : Type} {enc : TypeId × Value → H} {w : World} {base n : Nat} {held : Bool} {cs : Array Value} {y : DataW H × List MemPlace}
    (h : DataW.trod enc Tryz.prog w base (fun _ => true) held n 52 (Value.agg cs).cells.toList = some y) (hl : cs.size = Tryz.prog.cellsOf 52) : ∃ e va vd, EdW w e va vd ∧ Value.agg cs = ediV e.log e.next e.seq va vd := by
  have c4 : Tryz.prog.cellsOf 52 = 5 := by kernel_rfl
  obtain ⟨xs, k, hk, hxy, _, hxl, hf⟩ := DataW.trod_struct Tryz.underlying52 h
  have c3 : Tryz.prog.cellsOf 3 = 1 := by kernel_rfl
  have c9 : Tryz.prog.cellsOf 48 = 1 := by kernel_rfl
  have c7 : Tryz.prog.cellsOf 49 = 1 := by kernel_rfl
  have c8 : Tryz.prog.cellsOf 50 = 1 := by kernel_rfl
  have hls : cs.toList.length = 5 := by rw [Array.length_toList, hl, c4]
  rw [show (Value.agg cs).cells = cs from rfl] at hf
  obtain ⟨cl, hcl⟩ : ∃ cl, cs.toList = cl := ⟨_, rfl⟩
  have hcs : cs = cl.toArray := by rw [← hcl]
  subst hcs
  rw [hcl] at hls hf
  clear h hk hxy hcl hl
  match xs, hxl, cl, hls with
  | [y0, y1, y2, y3, y4], _, [v0, v1, v2, v3, v4], _ =>
    have g0 := hf 0 _ rfl
    have g1 := hf 1 _ rfl
    have g2 := hf 2 _ rfl
    have g3 := hf 3 _ rfl
    have g4 := hf 4 _ rfl
    simp [c3, c9, c7, c8] at g0 g1 g2 g3 g4
    obtain ⟨z0, e0, -, b0⟩ := DataW.trod_int Tryz.underlying3 g0
    obtain ⟨z1, e1, -, b1⟩ := DataW.trod_int Tryz.underlying3 g1
    obtain ⟨z2, e2, -, b2⟩ := DataW.trod_int Tryz.underlying48 g2
    obtain ⟨ts, h1, h2, h3⟩ := rowTV_of g3
    obtain ⟨ks, h4, h5, h6⟩ := rowIV_of g4
    simp only [List.cons.injEq, and_true] at e0 e1 e2
    subst e0 e1 e2
    have k0 := bounds_i64 b0
    have k1 := bounds_i64 b1
    have k2 := bounds_u64 b2
    obtain ⟨z2, rfl⟩ : ∃ m : Nat, z2 = (m : Int) := ⟨z2.toNat, by omega⟩
    exact ⟨⟨z0, z1, z2, ts, ks⟩, v3, v4, ⟨k0, k1, by show z2 < _; omega, h1, h4, h2, h5, h3, h6⟩, rfl⟩
end Go.Proofs.YtlecffpjcjlabaaGreat

namespace Go.Proofs.YtlecffpjcjlabaaGreat
open Go.RowKit Go.Shelf

set_option maxHeartbeats 4000000 in
set_option maxRecDepth 100000 in
theorem light_any (e : Ed) (va vd : Value) (w : World) (h : EdW w e va vd) :
    Calls Tryz.prog 25 #[ediV e.log e.next e.seq va vd] w fun x w' => ∃ t : Bool, x = .returned (.bool t) ∧ (t = true → e.add.length ≤ 40 ∧ (∀ t ∈ e.add, t.Short) ∧ e.drop.length ≤ 60) ∧ Below w.heap.size w w' := by
  obtain ⟨log, next, seq, add, drop⟩ := e
  have HE := Lib.hid h
  obtain ⟨-, -, -, ha, hd, hla, hld, hka, -⟩ := h
  simp only at ha hd hla hld hka ⊢
  obtain ⟨aa, ac, rfl⟩ := ha.len
  obtain ⟨da, dc, rfl⟩ := hd.len
  unfold ediV
  obtain ⟨W1, hW1⟩ : ∃ W1, w.alloc (.cells #[.int .i64 log, .int .i64 next, .int .u64 (seq : Int), .slice aa add.length ac, .slice da drop.length dc] 52) = W1 := ⟨_, rfl⟩
  have b1 : Below w.heap.size w W1 := by rw [← hW1]; exact (Below.refl _ _).alloc (Nat.le_refl _) _
  have y1 : BoxEd w.heap.size log next seq (.slice aa add.length ac) (.slice da drop.length dc) W1 := by rw [← hW1]; exact new_block _ _ rfl
  have C1 := Lib.hid (small12_any _ add W1 (ha.below b1) (by unfold maxLen at hla; omega) hka)
  have q3 := y1.c3
  have HY1 := Lib.hid y1
  have HB1 := Lib.hid b1
  have hdm : drop.length ≤ 9223372036854775807 := by unfold maxLen at hld; omega
  clear ha hd hla hld hka b1 y1
  go_enter Tryz.func25, Tryz.ntmps25
  go_wp2_with fail
  try rw [hW1]
  clear hW1
  go_at_call 133
  (with_reducible refine C1.out.mono ?_)
  rintro _ w2 ⟨t, rfl, ht, hb2⟩
  have q4 := (HY1.out.below hb2).c4
  have HB2 := Lib.hid (HB1.out.trans (hb2.mono HB1.out.size))
  have HT := Lib.hid ht
  clear hb2 ht C1 q3
  cases t with
  | false =>
    go_wp2_with fail
    go_ret
    exact ⟨false, rfl, fun h => (by cases h), HB2.out⟩
  | true =>
    by_cases h6 : drop.length ≤ 60
    · have d6 : decide ((drop.length : Int) ≤ 60) = true := by simp; omega
      go_wp2_with fail
      go_ret
      exact ⟨true, rfl, fun _ => ⟨(HT.out (by first | rfl | trivial)).1, (HT.out (by first | rfl | trivial)).2, h6⟩, HB2.out⟩
    · have d6 : decide ((drop.length : Int) ≤ 60) = false := by simp; omega
      go_wp2_with fail
      go_ret
      exact ⟨false, rfl, fun h => (by cases h), HB2.out⟩
/-- A version of the document's own. -/
def BoxR (B : Nat) (log next : Int) (seq : Nat) (v : Value) (w : World) : Prop := w.heap[B]? = some (.cells #[.int .i64 log, .int .i64 next, .int .u64 (seq : Int), v] 69)
section
variable {B : Nat} {log next : Int} {seq : Nat} {v : Value} {w w' : World}
theorem BoxR.lt (h : BoxR B log next seq v w) : B < w.heap.size := (Array.getElem?_eq_some_iff.1 h).1
theorem BoxR.c0 (h : BoxR B log next seq v w) : w.cell? ⟨B, 0, none⟩ = some (.int .i64 log) := by unfold World.cell?; rw [show w.heap[B]? = _ from h]; rfl
theorem BoxR.c1 (h : BoxR B log next seq v w) : w.cell? ⟨B, 1, none⟩ = some (.int .i64 next) := by unfold World.cell?; rw [show w.heap[B]? = _ from h]; rfl
theorem BoxR.c2 (h : BoxR B log next seq v w) : w.cell? ⟨B, 2, none⟩ = some (.int .u64 (seq : Int)) := by unfold World.cell?; rw [show w.heap[B]? = _ from h]; rfl
theorem BoxR.c3 (h : BoxR B log next seq v w) : w.cell? ⟨B, 3, none⟩ = some v := by unfold World.cell?; rw [show w.heap[B]? = _ from h]; rfl
theorem BoxR.f (h : BoxR B log next seq v w) (j : Nat) : w.frozen? ⟨B, j, none⟩ = false := by unfold World.frozen?; rw [show w.heap[B]? = _ from h]; simp
theorem BoxR.below (h : BoxR B log next seq v w) (hb : Below w.heap.size w w') : BoxR B log next seq v w' := (hb.block B h.lt).trans h
end
set_option maxHeartbeats 4000000 in
set_option maxRecDepth 100000 in
theorem plainV_any (log next : Int) (seq : Nat) (a : Option Addr) (n c : Nat) (w : World) :
    Calls Tryz.prog 31 #[.agg #[.int .i64 log, .int .i64 next, .int .u64 (seq : Int), .slice a n c]] w fun x w' => x = .returned (.agg #[.int .i64 log, .int .i64 next, .int .u64 (seq : Int), .slice a n c]) ∧ Below w.heap.size w w' := by
  obtain ⟨W1, hW1⟩ : ∃ W1, (w.alloc (.cells #[.int .i64 log, .int .i64 next, .int .u64 (seq : Int), .slice a n c] 63)).alloc (.cells #[.int .i64 0, .int .i64 0, .int .u64 0, .slice none 0 0] 69) = W1 := ⟨_, rfl⟩
  have b1 : Below w.heap.size w W1 := by rw [← hW1]; exact ((Below.refl _ _).alloc (Nat.le_refl _) _).alloc (by simp) _
  have x1 : BoxV w.heap.size log next seq (.slice a n c) W1 := by rw [← hW1]; exact (Below.heap_alloc _ _ _ (by simp)).trans (new_block _ _ rfl)
  have z1 : BoxR (w.heap.size + 1) 0 0 0 (.slice none 0 0) W1 := by rw [← hW1]; exact new_block _ _ (by simp)
  have p0 := x1.c0
  have p1 := x1.c1
  have p2 := x1.c2
  have p3 := x1.c3
  have g0 := z1.c0
  have g1 := z1.c1
  have g2 := z1.c2
  have g3 := z1.c3
  have f0 := z1.f 0
  have f1 := z1.f 1
  have f2 := z1.f 2
  have f3 := z1.f 3
  have HB := Lib.hid b1
  clear b1 x1 z1
  go_enter Tryz.func31, Tryz.ntmps31
  go_upto_region 1 with fail
  try rw [hW1]
  clear hW1
  go_wp2_with fail
  refine bodyPost_ret (by simp [results, Tryz.results31, go_sem, g0, g1, g2, g3]; try rfl) rfl ?_
  exact ⟨rfl, below_set4 HB.out _ (by omega) _ _ _ _⟩
set_option maxHeartbeats 4000000 in
set_option maxRecDepth 100000 in
theorem sameV_yes (log next : Int) (seq : Nat) (u v : Value) (ts : List Tb) (w : World) (hU : TbsV w u ts) (hV : TbsV w v ts) (hl : ts.length ≤ 100000) :
    Calls Tryz.prog 17 #[.agg #[.int .i64 log, .int .i64 next, .int .u64 (seq : Int), u], .agg #[.int .i64 log, .int .i64 next, .int .u64 (seq : Int), v]] w fun x w' => x = .returned (.bool true) ∧ Below w.heap.size w w' := by
  obtain ⟨W1, hW1⟩ : ∃ W1, (w.alloc (.cells #[.int .i64 log, .int .i64 next, .int .u64 (seq : Int), u] 63)).alloc (.cells #[.int .i64 log, .int .i64 next, .int .u64 (seq : Int), v] 69) = W1 := ⟨_, rfl⟩
  have b1 : Below w.heap.size w W1 := by rw [← hW1]; exact ((Below.refl _ _).alloc (Nat.le_refl _) _).alloc (by simp) _
  have x1 : BoxV w.heap.size log next seq u W1 := by rw [← hW1]; exact (Below.heap_alloc _ _ _ (by simp)).trans (new_block _ _ rfl)
  have z1 : BoxR (w.heap.size + 1) log next seq v W1 := by rw [← hW1]; exact new_block _ _ (by simp)
  have C1 := Lib.hid (sameT_yes u v ts W1 (hU.below b1) (hV.below b1) hl)
  obtain ⟨a, c, rfl⟩ := hU.len
  obtain ⟨a2, c2, rfl⟩ := hV.len
  have p0 := x1.c0
  have p1 := x1.c1
  have p2 := x1.c2
  have p3 := x1.c3
  have g0 := z1.c0
  have g1 := z1.c1
  have g2 := z1.c2
  have g3 := z1.c3
  have HB := Lib.hid b1
  clear b1 x1 z1 hU hV
  go_enter Tryz.func17, Tryz.ntmps17
  go_upto_region 1 with fail
  try rw [hW1]
  clear hW1
  go_wp2_with (go_at_call 59; (with_reducible refine C1.out.mono ?_); rintro _ w2 ⟨rfl, hb2⟩)
  go_ret
  exact ⟨rfl, HB.out.trans (hb2.mono HB.out.size)⟩
end Go.Proofs.YtlecffpjcjlabaaGreat
