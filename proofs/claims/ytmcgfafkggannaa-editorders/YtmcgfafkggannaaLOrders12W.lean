/- EditOrders, walked. -/
import Derived.Test.YtmcgfafkggannaaJO
import Derived.Test.YtmcgfafkggannaaLRefuses12W
import Derived.BigRegion
import Derived.Shelf.RegionOpenPlain
namespace Go.Proofs.Ytmcgfafkggannaa
open Go.RowKit Go.Shelf

/-- A block of cells of a call's own, so great. -/
def Blk (g N : Nat) (w : World) : Prop := ∃ cur, w.heap[g]? = some (.cells cur 28 (0, 0)) ∧ cur.size = N
theorem Blk.cell {g N o : Nat} {w : World} (h : Blk g N w) (ho : o < N) : ∃ u, w.cell? ⟨g, o, none⟩ = some u := by
  obtain ⟨cur, hg, hs⟩ := h
  exact ⟨cur[o], by rw [cell_of_row w g o cur _ (0, 0) hg]; exact Array.getElem?_eq_getElem (by omega)⟩
theorem Blk.fz {g N : Nat} {w : World} (h : Blk g N w) (o : Nat) : w.frozen? ⟨g, o, none⟩ = false := by
  obtain ⟨cur, hg, -⟩ := h
  unfold World.frozen?
  rw [hg]
  simp
theorem Blk.set {g N : Nat} {w : World} (h : Blk g N w) (o : Nat) (u : Value) : Blk g N (w.setCell ⟨g, o, none⟩ u) := by
  obtain ⟨cur, hg, hs⟩ := h
  exact ⟨_, heap_setCell_same w g o cur _ u hg, by simpa using hs⟩
/-- Two of a list changed about. -/
def swapT (ts : List Tb) (a b : Nat) : List Tb := (ts.set a (tabAt ts b)).set b (tabAt ts a)
theorem swapT_len (ts : List Tb) (a b : Nat) : (swapT ts a b).length = ts.length := by simp [swapT]
theorem swapT_perm (ts : List Tb) (a b : Nat) (ha : a < ts.length) (hb : b < ts.length) : (swapT ts a b).Perm ts := by
  unfold swapT
  rw [tabAt_get ha, tabAt_get hb]
  exact List.set_set_perm ha hb
theorem applies_swap (ts : List Tb) (i j : Nat) (hi : i < ts.length) (hj : j < ts.length) : Applies Vr.zero ⟨0, 1000, 0, swapT ts i j, []⟩ ↔ Applies Vr.zero ⟨0, 1000, 0, ts, []⟩ := by
  rw [applies_new _ _ _ _ (by omega) (by omega), applies_new _ _ _ _ (by omega) (by omega)]
  have hp := swapT_perm ts i j hi hj
  exact ⟨fun h => h.perm (ts := ts) hp.symm, fun h => h.perm (ts := swapT ts i j) hp⟩
theorem next_of (ts : List Tb) : nextV Vr.zero ⟨0, 1000, 0, ts, []⟩ = ⟨0, 1000, 0, ordT ts⟩ := by
  unfold nextV
  have h4 : leftT Vr.zero.ts [] ++ ts = ts := rfl
  simp only
  rw [h4]
  rfl
theorem ordT_swap (ts : List Tb) (i j : Nat) (hi : i < ts.length) (hj : j < ts.length) (h : Applies Vr.zero ⟨0, 1000, 0, ts, []⟩) : ordT (swapT ts i j) = ordT ts := by
  have hr := h.2
  rw [next_of] at hr
  exact stands_one hr (ordT_both ts).2 ((ordT_both _).1.trans ((swapT_perm ts i j hi hj).trans (ordT_both ts).1.symm)) (ordT_both _).2
theorem row_putK [Inhabited Tb] {ts : List Tb} {w : World} {g c : Nat} (h : RowB w (.slice (some ⟨g, 0, none⟩) ts.length (c + 1)) ts) (d' : Array Tb) (hp1 : d'.size = ts.length) (n : Nat) (os : Array Obj) (hne : ts.length ≠ 0) :
    RowB (sortWorldK Tb.cells 5 w g 0 n d' os) (.slice (some ⟨g, 0, none⟩) ts.length (c + 1)) d'.toList ∧ Turn [g] w (sortWorldK Tb.cells 5 w g 0 n d' os) := by
  rcases h.2 with ⟨h1, -⟩ | ⟨g', c', cur, e, hg, h1, h2, h3, h4⟩
  · exact absurd h1 hne
  cases e
  have hlt : g < w.heap.size := (Array.getElem?_eq_some_iff.1 hg).1
  have hdl : d'.toList.length = ts.length := by simpa using hp1
  have hda : d'.toList.toArray = d' := by simp
  constructor
  · have hb : (sortWorldK Tb.cells 5 w g 0 n d' os).heap[g]? = some (.cells (Go.Sort.putCells id 0 (Go.Sort.flatK Tb.cells 5 d') cur) 28 (0, 0)) := by
      unfold sortWorldK Go.Sort.putRowK Go.Sort.putRow Go.Sort.mapBlock
      rw [Go.Sort.heap_grow_old _ _ (by simp [Go.Sort.ahead]; exact hlt)]
      simp only [Array.getElem?_modify, Go.Sort.ahead, if_true, hg, Option.map_some, Go.Sort.onCells]
    refine ⟨cellsT_len _, .inr ⟨g, c, _, by rw [hdl], hb, by rw [hdl]; exact h1, h2, by simp [Go.Sort.putCells, h3], ?_⟩⟩
    apply List.ext_getElem?
    intro j
    rw [List.getElem?_take, hdl]
    split
    · rename_i hj
      rw [flat_cell d'.toList j (by rw [hdl]; exact hj), hda]
      have hjc : j < cur.size := by rw [h3]; have := Nat.mul_le_mul_right 5 h1; omega
      have hjf : j < (Go.Sort.flatK Tb.cells 5 d').size := by rw [Go.Sort.size_flatK, hp1]; exact hj
      simp only [Go.Sort.putCells, Array.getElem?_toList, Array.getElem?_mapIdx]
      rw [Array.getElem?_eq_getElem hjc, Option.map_some, if_pos ⟨Nat.zero_le _, by omega⟩]
      rfl
    · rename_i hj
      rw [List.getElem?_eq_none (by rw [cellsT_len, hdl]; omega)]
  · refine ⟨rfl, rfl, rfl, ?_, fun k hk hn => ?_⟩
    · unfold sortWorldK
      rw [Go.Sort.size_grow]
      unfold Go.Sort.putRowK Go.Sort.putRow Go.Sort.mapBlock
      simp [Go.Sort.ahead]
    · have hkg : ¬ g = k := fun e => hn (by simp [e])
      unfold sortWorldK Go.Sort.putRowK Go.Sort.putRow Go.Sort.mapBlock
      rw [Go.Sort.heap_grow_old _ _ (by simp [Go.Sort.ahead]; exact hk)]
      simp only [Array.getElem?_modify, Go.Sort.ahead, if_neg hkg]
theorem holdsB [Inhabited Tb] {ts : List Tb} {w : World} {g c : Nat} (h : RowB w (.slice (some ⟨g, 0, none⟩) ts.length (c + 1)) ts) (hg : ∃ cur, w.heap[g]? = some (.cells cur 28 (0, 0))) : Go.Sort.HoldsK Tb.cells 5 w g 0 ts.toArray := by
  intro j hj
  rw [Go.Sort.size_flatK] at hj
  obtain ⟨cur, hg⟩ := hg
  refine ⟨?_, by unfold World.frozen?; rw [hg]; simp⟩
  exact Row.cell h g 0 _ rfl j _ (flat_cell ts j (by simpa using hj))
set_option maxHeartbeats 8000000 in
set_option maxRecDepth 100000 in
theorem editOrders_walk (ad : Option Addr) (len cap : Nat) (ts : List Tb) (hn : ad = none → cap = 0) (a : Int) (ha1 : -9223372036854775808 ≤ a) (ha2 : a ≤ 9223372036854775807) (b : Int) (hb1 : -9223372036854775808 ≤ b) (hb2 : b ≤ 9223372036854775807) (w : World) (hI : IsTs w ad len ts) :
    Calls Try.prog 4 #[.slice ad len cap, .int .i64 a, .int .i64 b] w fun e w' => e = .returned (.bool true) ∧ Below w.heap.size w w' := by
  obtain ⟨hlm, hok, hat⟩ := hI
  have hT := hat.v (cap := cap) hn
  have hel := hat.1
  have CA := Lib.hid (fun W => alive12_any W)
  have C1 := Lib.hid (small12_any _ ts w hT (by rw [hel]; unfold maxLen at hlm; omega) hok)
  have HT := Lib.hid hT
  have HOK := Lib.hid hok
  have HEL := Lib.hid hel
  clear hT hok hat hel hn
  go_enter Try.func4, Try.ntmps4
  go_wp2_with fail
  go_at_call 7
  (with_reducible refine C1.out.mono ?_)
  rintro _ w1 ⟨t1, rfl, hsm, hbl1⟩
  have HB1 := Lib.hid hbl1
  have HSM := Lib.hid hsm
  clear hsm hbl1 C1
  cases t1 with
  | false =>
    go_wp2_with (go_at_call 8; (with_reducible refine (CA.out _).mono ?_); rintro _ w2 ⟨rfl, hb2⟩)
    go_ret
    exact ⟨rfl, HB1.out.trans (hb2.mono HB1.out.size)⟩
  | true =>
    obtain ⟨hl40, hsh⟩ := HSM.out rfl
    have HSH := Lib.hid hsh
    rw [HEL.out] at hl40
    clear hsh HSM
    by_cases g0 : len = 0
    · have d0 : ((len : Int) == 0) = true := by simp; omega
      have d0n : (len == 0) = true := by simpa using g0
      clear g0
      go_wp2_with (go_at_call 8; (with_reducible refine (CA.out _).mono ?_); rintro _ w2 ⟨rfl, hb2⟩)
      go_ret
      exact ⟨rfl, HB1.out.trans (hb2.mono HB1.out.size)⟩
    have d0 : ((len : Int) == 0) = false := by simp; omega
    have d0n : (len == 0) = false := by simpa using g0
    by_cases g1 : a < 0
    · have d1 : decide (a < 0) = true := decide_eq_true g1
      clear g1 g0
      go_wp2_with (go_at_call 8; (with_reducible refine (CA.out _).mono ?_); rintro _ w2 ⟨rfl, hb2⟩)
      go_ret
      exact ⟨rfl, HB1.out.trans (hb2.mono HB1.out.size)⟩
    have d1 : decide (a < 0) = false := decide_eq_false g1
    by_cases g2 : b < 0
    · have d2 : decide (b < 0) = true := decide_eq_true g2
      clear g1 g0 g2
      go_wp2_with (go_at_call 8; (with_reducible refine (CA.out _).mono ?_); rintro _ w2 ⟨rfl, hb2⟩)
      go_ret
      exact ⟨rfl, HB1.out.trans (hb2.mono HB1.out.size)⟩
    have d2 : decide (b < 0) = false := decide_eq_false g2
    by_cases g3 : (len : Int) ≤ a
    · have d3 : decide ((len : Int) ≤ a) = true := decide_eq_true g3
      clear g1 g0 g2 g3
      go_wp2_with (go_at_call 8; (with_reducible refine (CA.out _).mono ?_); rintro _ w2 ⟨rfl, hb2⟩)
      go_ret
      exact ⟨rfl, HB1.out.trans (hb2.mono HB1.out.size)⟩
    have d3 : decide ((len : Int) ≤ a) = false := decide_eq_false g3
    by_cases g4 : (len : Int) ≤ b
    · have d4 : decide ((len : Int) ≤ b) = true := decide_eq_true g4
      clear g1 g0 g2 g3 g4
      go_wp2_with (go_at_call 8; (with_reducible refine (CA.out _).mono ?_); rintro _ w2 ⟨rfl, hb2⟩)
      go_ret
      exact ⟨rfl, HB1.out.trans (hb2.mono HB1.out.size)⟩
    have d4 : decide ((len : Int) ≤ b) = false := decide_eq_false g4
    obtain ⟨i, rfl⟩ : ∃ i : Nat, a = (i : Int) := ⟨a.toNat, by omega⟩
    obtain ⟨j, rfl⟩ : ∃ j : Nat, b = (j : Int) := ⟨b.toNat, by omega⟩
    have hi : i < len := by omega
    have hj : j < len := by omega
    have hiI : (i : Int) < (len : Int) := by omega
    have hjI : (j : Int) < (len : Int) := by omega
    obtain ⟨i0, hi0, hz0, hzs, hzb⟩ := info_partsT infoTab
    have HT1 := Lib.hid (HT.out.below HB1.out)
    have HSR := Lib.hid (show Src Try.prog 5 23 (.slice ad len cap) len (cellsT ts) w1 by have h := HT1.out.src; rwa [HEL.out] at h)
    have H1 := Lib.hid (show 0 + len ≤ maxLen by unfold maxLen; omega)
    have H2 := Lib.hid (show (0 + len) * 56 ≤ 140737488355328 by omega)
    clear g0 g1 g2 g3 g4
    go_wp2_with (at_builtin; refine wpList_append_row _ rfl _ _ 23 23 rfl 28 i0 _ 5 56 Try.underlying23 hi0 hz0 hzs hzb rfl (.slice none 0 0) 0 [] rfl (row_nil _ _ _) _ rfl len _ HSR.out H1.out H2.out ?_; intro v2 w2 hrow2 hgrow2 hob2)
    have hr2 : RowB w2 v2 ts := by
      unfold RowB
      rw [HEL.out]
      simpa using hrow2
    have hne : ts.length ≠ 0 := by rw [HEL.out]; omega
    have ho2 : ∀ k, ob v2 = some k → w1.heap.size ≤ k := fun k hk => by
      rcases hob2 with q | ⟨q, -⟩
      · rw [q] at hk; simp [ob] at hk
      · rw [q] at hk; cases hk; exact Nat.le_refl _
    have hb2' : Below w.heap.size w w2 := HB1.out.trans ⟨hgrow2.os, hgrow2.tape, hgrow2.output, hgrow2.size, fun k hk => hgrow2.block k (Nat.lt_of_lt_of_le hk HB1.out.size) (by simp [ob])⟩
    obtain ⟨g, c, rfl, hgc⟩ : ∃ g c, v2 = .slice (some ⟨g, 0, none⟩) ts.length (c + 1) ∧ ∃ cur, w2.heap[g]? = some (.cells cur 28 (0, 0)) := by
      rcases hr2.2 with ⟨h1, -⟩ | ⟨g, c, cur, e, hg, -⟩
      · exact absurd h1 hne
      · exact ⟨g, c, e, cur, hg⟩
    rw [HEL.out]
    haveI inst : Inhabited Tb := ⟨Tb.zero⟩
    have hH := holdsB hr2 hgc
    have hHd : Go.Sort.HoldsK Tb.cells 5 w2.drew g 0 ts.toArray := hH
    have hsz : ts.toArray.size = len := by simp [HEL.out]
    have hgl : g < w2.heap.size := by obtain ⟨cur, hg⟩ := hgc; exact (Array.getElem?_eq_some_iff.1 hg).1
    obtain ⟨xi, hxi⟩ : ∃ x, x = ts.toArray[i]! := ⟨_, rfl⟩
    obtain ⟨xj, hxj⟩ : ∃ x, x = ts.toArray[j]! := ⟨_, rfl⟩
    have li : Sem.run Try.prog (loadCellsFrom ⟨g, i * 5, none⟩ 0 5 #[]) w2.drew = .ok xi.cells.toArray w2.drew := by
      rw [hxi]; have h := run_loadCellsFrom_list Try.prog _ _ _ 5 (cells_len _) (Go.Proofs.HoldsK.cells hHd cells_len (i := i) (by omega)); rwa [Nat.zero_add] at h
    have lj : Sem.run Try.prog (loadCellsFrom ⟨g, j * 5, none⟩ 0 5 #[]) w2.drew = .ok xj.cells.toArray w2.drew := by
      rw [hxj]; have h := run_loadCellsFrom_list Try.prog _ _ _ 5 (cells_len _) (Go.Proofs.HoldsK.cells hHd cells_len (i := j) (by omega)); rwa [Nat.zero_add] at h
    have bnd : ∀ x, x < len → x * 5 + 5 ≤ ts.toArray.size * 5 := fun x hx => by rw [hsz]; omega
    have one1 : ∀ x : Tb, ∀ v ∈ x.cells, v.oneCell' = true := fun x u hu => by simp [Tb.cells] at hu; rcases hu with rfl | rfl | rfl | rfl | rfl <;> rfl
    have s1 : Sem.run Try.prog (storeCells ⟨g, i * 5, none⟩ xj.cells 0) w2.drew = .ok () (w2.drew.setCells g (i * 5) xj.cells) := by
      have h := stores_of_holds Try.prog hHd (i * 5) xj.cells (by rw [cells_len, Go.Sort.size_flatK]; exact bnd i hi) (one1 xj); rwa [Nat.zero_add] at h
    have s2 : Sem.run Try.prog (storeCells ⟨g, j * 5, none⟩ xi.cells 0) (w2.drew.setCells g (i * 5) xj.cells) = .ok () ((w2.drew.setCells g (i * 5) xj.cells).setCells g (j * 5) xi.cells) := by
      have h0 := holds_setCells_c hHd (i * 5) xj.cells (by rw [cells_len, Go.Sort.size_flatK]; exact bnd i hi)
      rw [Nat.zero_add] at h0
      have h := stores_of_holds Try.prog h0 (j * 5) xi.cells (by rw [cells_len, Go.Sort.size_setMany, Go.Sort.size_flatK]; exact bnd j hj) (one1 xi); rwa [Nat.zero_add] at h
    have hEQ : (w2.drew.setCells g (i * 5) xj.cells).setCells g (j * 5) xi.cells = sortWorldK Tb.cells 5 w2 g 0 1 (Go.Sort.swp ts.toArray i j) #[] := by
      have h := sortWorldK_swp_c Tb.cells 5 w2 g 0 cells_len 0 ts.toArray #[] hgl i j (by rw [hsz]; exact hi) (by rw [hsz]; exact hj)
      rw [sortWorldK_start Tb.cells 5 w2 g 0 ts.toArray hH, Nat.zero_add, Nat.zero_add, ← hxi, ← hxj] at h
      exact h
    have hsw : (Go.Sort.swp ts.toArray i j).toList = swapT ts i j := by
      have hi' : i < ts.length := by rw [HEL.out]; exact hi
      have hj' : j < ts.length := by rw [HEL.out]; exact hj
      unfold Go.Sort.swp swapT
      rw [getElem!_pos ts.toArray i (by simpa using hi'), getElem!_pos ts.toArray j (by simpa using hj'), tabAt_get hi', tabAt_get hj']
      simp
    have hrk := row_putK hr2 (Go.Sort.swp ts.toArray i j) (by rw [Go.Sort.size_swp]; simp) 1 #[] hne
    rw [← hEQ, hsw] at hrk
    have HRK := Lib.hid hrk
    have HO2 := Lib.hid ho2
    have HB2 := Lib.hid hb2'
    have hci : ∀ k u, xi.cells[k]? = some u → w2.drew.cell? ⟨g, i * 5 + k, none⟩ = some u := fun k u hu => by
      have hk := cells_lt hu
      have h := (Go.Sort.HoldsK.cell hHd (i := i) (c := k) (by rw [hsz]; exact hi) hk).1
      rw [Nat.zero_add, ← hxi] at h
      rw [h, getElem!_pos xi.cells k (by rw [cells_len]; exact hk)]
      exact (List.getElem?_eq_getElem _).symm.trans hu
    have hcj : ∀ k u, xj.cells[k]? = some u → w2.drew.cell? ⟨g, j * 5 + k, none⟩ = some u := fun k u hu => by
      have hk := cells_lt hu
      have h := (Go.Sort.HoldsK.cell hHd (i := j) (c := k) (by rw [hsz]; exact hj) hk).1
      rw [Nat.zero_add, ← hxj] at h
      rw [h, getElem!_pos xj.cells k (by rw [cells_len]; exact hk)]
      exact (List.getElem?_eq_getElem _).symm.trans hu
    have hfz : ∀ k, w2.drew.frozen? ⟨g, k, none⟩ = false := fun k => by obtain ⟨cur, hg⟩ := hgc; show w2.frozen? _ = false; unfold World.frozen?; rw [hg]; simp
    clear hxi hxj li lj
    obtain ⟨n1, l1, z1, f1, g1⟩ := xi
    obtain ⟨n2, l2, z2, f2, g2⟩ := xj
    have p0 : w2.drew.cell? ⟨g, i * 5, none⟩ = some (.int .i64 n1) := hci 0 _ rfl
    have q0 : w2.drew.cell? ⟨g, j * 5, none⟩ = some (.int .i64 n2) := hcj 0 _ rfl
    have fp0 := hfz (i * 5)
    have fq0 := hfz (j * 5)
    have p1 : w2.drew.cell? ⟨g, i * 5 + 1, none⟩ = some (.int .i64 l1) := hci 1 _ rfl
    have q1 : w2.drew.cell? ⟨g, j * 5 + 1, none⟩ = some (.int .i64 l2) := hcj 1 _ rfl
    have fp1 := hfz (i * 5 + 1)
    have fq1 := hfz (j * 5 + 1)
    have p2 : w2.drew.cell? ⟨g, i * 5 + 2, none⟩ = some (.int .i64 z1) := hci 2 _ rfl
    have q2 : w2.drew.cell? ⟨g, j * 5 + 2, none⟩ = some (.int .i64 z2) := hcj 2 _ rfl
    have fp2 := hfz (i * 5 + 2)
    have fq2 := hfz (j * 5 + 2)
    have p3 : w2.drew.cell? ⟨g, i * 5 + 3, none⟩ = some (.string f1) := hci 3 _ rfl
    have q3 : w2.drew.cell? ⟨g, j * 5 + 3, none⟩ = some (.string f2) := hcj 3 _ rfl
    have fp3 := hfz (i * 5 + 3)
    have fq3 := hfz (j * 5 + 3)
    have p4 : w2.drew.cell? ⟨g, i * 5 + 4, none⟩ = some (.string g1) := hci 4 _ rfl
    have q4 : w2.drew.cell? ⟨g, j * 5 + 4, none⟩ = some (.string g2) := hcj 4 _ rfl
    have fp4 := hfz (i * 5 + 4)
    have fq4 := hfz (j * 5 + 4)
    obtain ⟨N, hBK, hNi, hNj⟩ : ∃ N, Blk g N w2.drew ∧ i * 5 + 5 ≤ N ∧ j * 5 + 5 ≤ N := by
      rcases hr2.2 with ⟨h1, -⟩ | ⟨g', c', cur, e, hg, h1, h2, h3, h4⟩
      · exact absurd h1 hne
      · cases e
        exact ⟨_, ⟨cur, hg, rfl⟩, by rw [h3]; have := HEL.out; omega, by rw [h3]; have := HEL.out; omega⟩
    unfold Tb.cells at HRK
    simp only at HRK
    clear s1 s2
    have mixed : Try.prog.follows .mixedOrders = true := by kernel_rfl
    clear hci hcj hfz hH hHd hEQ hsw hrk hr2 hrow2 hgrow2 hob2 ho2 hb2' bnd one1 hgc hsz HSR
    obtain ⟨uX1, cX1⟩ := hBK.cell (o := i * 5) (by omega)
    have fX1 := hBK.fz (i * 5)
    obtain ⟨X1, hX1⟩ : ∃ W, w2.drew.setCell ⟨g, i * 5, none⟩ (.int .i64 n2) = W := ⟨_, rfl⟩
    have bX1 : Blk g N X1 := hX1 ▸ hBK.set (i * 5) (.int .i64 n2)
    obtain ⟨uX2, cX2⟩ := bX1.cell (o := i * 5 + 1) (by omega)
    have fX2 := bX1.fz (i * 5 + 1)
    obtain ⟨X2, hX2⟩ : ∃ W, X1.setCell ⟨g, i * 5 + 1, none⟩ (.int .i64 l2) = W := ⟨_, rfl⟩
    have bX2 : Blk g N X2 := hX2 ▸ bX1.set (i * 5 + 1) (.int .i64 l2)
    obtain ⟨uX3, cX3⟩ := bX2.cell (o := i * 5 + 2) (by omega)
    have fX3 := bX2.fz (i * 5 + 2)
    obtain ⟨X3, hX3⟩ : ∃ W, X2.setCell ⟨g, i * 5 + 2, none⟩ (.int .i64 z2) = W := ⟨_, rfl⟩
    have bX3 : Blk g N X3 := hX3 ▸ bX2.set (i * 5 + 2) (.int .i64 z2)
    obtain ⟨uX4, cX4⟩ := bX3.cell (o := i * 5 + 3) (by omega)
    have fX4 := bX3.fz (i * 5 + 3)
    obtain ⟨X4, hX4⟩ : ∃ W, X3.setCell ⟨g, i * 5 + 3, none⟩ (.string f2) = W := ⟨_, rfl⟩
    have bX4 : Blk g N X4 := hX4 ▸ bX3.set (i * 5 + 3) (.string f2)
    obtain ⟨uX5, cX5⟩ := bX4.cell (o := i * 5 + 4) (by omega)
    have fX5 := bX4.fz (i * 5 + 4)
    obtain ⟨X5, hX5⟩ : ∃ W, X4.setCell ⟨g, i * 5 + 4, none⟩ (.string g2) = W := ⟨_, rfl⟩
    have bX5 : Blk g N X5 := hX5 ▸ bX4.set (i * 5 + 4) (.string g2)
    obtain ⟨uY1, cY1⟩ := bX5.cell (o := j * 5) (by omega)
    have fY1 := bX5.fz (j * 5)
    obtain ⟨Y1, hY1⟩ : ∃ W, X5.setCell ⟨g, j * 5, none⟩ (.int .i64 n1) = W := ⟨_, rfl⟩
    have bY1 : Blk g N Y1 := hY1 ▸ bX5.set (j * 5) (.int .i64 n1)
    obtain ⟨uY2, cY2⟩ := bY1.cell (o := j * 5 + 1) (by omega)
    have fY2 := bY1.fz (j * 5 + 1)
    obtain ⟨Y2, hY2⟩ : ∃ W, Y1.setCell ⟨g, j * 5 + 1, none⟩ (.int .i64 l1) = W := ⟨_, rfl⟩
    have bY2 : Blk g N Y2 := hY2 ▸ bY1.set (j * 5 + 1) (.int .i64 l1)
    obtain ⟨uY3, cY3⟩ := bY2.cell (o := j * 5 + 2) (by omega)
    have fY3 := bY2.fz (j * 5 + 2)
    obtain ⟨Y3, hY3⟩ : ∃ W, Y2.setCell ⟨g, j * 5 + 2, none⟩ (.int .i64 z1) = W := ⟨_, rfl⟩
    have bY3 : Blk g N Y3 := hY3 ▸ bY2.set (j * 5 + 2) (.int .i64 z1)
    obtain ⟨uY4, cY4⟩ := bY3.cell (o := j * 5 + 3) (by omega)
    have fY4 := bY3.fz (j * 5 + 3)
    obtain ⟨Y4, hY4⟩ : ∃ W, Y3.setCell ⟨g, j * 5 + 3, none⟩ (.string f1) = W := ⟨_, rfl⟩
    have bY4 : Blk g N Y4 := hY4 ▸ bY3.set (j * 5 + 3) (.string f1)
    obtain ⟨uY5, cY5⟩ := bY4.cell (o := j * 5 + 4) (by omega)
    have fY5 := bY4.fz (j * 5 + 4)
    obtain ⟨Y5, hY5⟩ : ∃ W, Y4.setCell ⟨g, j * 5 + 4, none⟩ (.string g1) = W := ⟨_, rfl⟩
    have bY5 : Blk g N Y5 := hY5 ▸ bY4.set (j * 5 + 4) (.string g1)
    have hfin : (w2.drew.setCells g (i * 5) [.int .i64 n2, .int .i64 l2, .int .i64 z2, .string f2, .string g2]).setCells g (j * 5) [.int .i64 n1, .int .i64 l1, .int .i64 z1, .string f1, .string g1] = Y5 := by
      rw [← hY5, ← hY4, ← hY3, ← hY2, ← hY1, ← hX5, ← hX4, ← hX3, ← hX2, ← hX1]
      rfl
    rw [hfin] at HRK
    clear hfin hBK bX1 bX2 bX3 bX4 bX5 bY1 bY2 bY3 bY4 bY5
    clear fp0 fp1 fp2 fp3 fp4 fq0 fq1 fq2 fq3 fq4
    go_big_region_o
    have hob : ob (.slice (some ⟨g, 0, none⟩) len (c + 1)) = some g := rfl
    have hB5 : Below w.heap.size w Y5 := HB2.out.trans (HRK.out.2.below HB2.out.size (fun k hk => by simp at hk; have h1 := HO2.out g rfl; have h2 := HB1.out.size; omega))
    have HB5 := Lib.hid hB5
    have hT5 : TbsV Y5 (.slice ad len cap) ts := HT.out.below hB5
    have hlt_i : i < ts.length := by rw [HEL.out]; exact hi
    have hlt_j : j < ts.length := by rw [HEL.out]; exact hj
    have HAS := Lib.hid (applies_swap ts i j hlt_i hlt_j)
    have hM5 : TbsV Y5 (.slice (some ⟨g, 0, none⟩) len (c + 1)) (swapT ts i j) := by have h := RowB.v HRK.out.1; rwa [HEL.out] at h
    have HOS := Lib.hid (show ∀ t ∈ swapT ts i j, t.Ok ∧ t.Short from fun t ht => ⟨HOK.out t ((swapT_perm ts i j hlt_i hlt_j).mem_iff.1 ht), HSH.out t ((swapT_perm ts i j hlt_i hlt_j).mem_iff.1 ht)⟩)
    have hlS : (swapT ts i j).length ≤ 10000 := by rw [swapT_len, HEL.out]; omega
    have hlT : ts.length ≤ 10000 := by rw [HEL.out]; omega
    by_cases hap : Applies Vr.zero ⟨0, 1000, 0, ts, []⟩
    · have hord := ordT_swap ts i j hlt_i hlt_j hap
      have hrv := hap.2
      rw [next_of] at hrv
      have C2 := Lib.hid (apply_any Vr.zero ⟨0, 1000, 0, ts, []⟩ (.slice none 0 0) _ _ Y5 (tbsV_nil _) hT5 (intsV_nil _) (by decide) hlT (by simp) (fun t ht => by cases ht) (fun t ht => ⟨HOK.out t ht, HSH.out t ht⟩) (fun k hk => by cases hk))
      have C3 := Lib.hid (fun (W : World) (h : Below Y5.heap.size Y5 W) => apply_any Vr.zero ⟨0, 1000, 0, swapT ts i j, []⟩ (.slice none 0 0) _ _ W (tbsV_nil _) (hM5.below h) (intsV_nil _) (by decide) hlS (by simp) (fun t ht => by cases ht) HOS.out (fun k hk => by cases hk))
      have HN1 := Lib.hid (next_of ts)
      have HN2 := Lib.hid ((next_of (swapT ts i j)).trans (by rw [hord]))
      have HAP := Lib.hid hap
      have HAP2 := Lib.hid (HAS.out.2 hap)
      have hSl : (ordT ts).length = len := by rw [(ordT_both ts).1.length_eq, HEL.out]
      have HLK := Lib.hid ((look_iff _ (ordT_both ts).2).2 hrv)
      have HLS := Lib.hid (stands_less hrv (ordT_both ts).2)
      generalize ordT ts = S at *
      unfold verV ediV Vr.zero at C2 C3
      simp only at C2 C3
      rw [show ((0 : Nat) : Int) = 0 from rfl] at C2 C3
      have HSL := Lib.hid hSl
      clear hap hT5 hM5 HRK hob hrv hord hSl
      go_wp2_with fail
      go_at_call 9
      (with_reducible refine C2.out.mono ?_)
      rintro _ w6 ⟨hap6, hb6⟩
      rcases hap6 with ⟨hno, -⟩ | ⟨-, r1, rfl, hr1, -⟩
      · exact absurd HAP.out hno
      have hn1 : nextV { log := 0, next := 0, seq := 0, ts := [] } { log := 0, next := 1000, seq := 0, add := ts, drop := [] } = ⟨0, 1000, 0, S⟩ := HN1.out
      rw [hn1] at hr1 ⊢
      unfold verV
      simp only at hr1 ⊢
      try rw [show ((0 : Nat) : Int) = 0 from rfl]
      obtain ⟨a1, c1, hs1⟩ := hr1.short
      rw [HSL.out] at hs1
      subst hs1
      obtain ⟨W6, hW6⟩ : ∃ W, w6.alloc (.cells #[.int .i64 0, .int .i64 1000, .int .u64 0, .slice a1 len c1] 33) = W := ⟨_, rfl⟩
      have bw6 : Below w6.heap.size w6 W6 := by rw [← hW6]; exact (Below.refl _ _).alloc (Nat.le_refl _) _
      have b6 : Below Y5.heap.size Y5 W6 := hb6.trans (bw6.mono hb6.size)
      have x6 : BoxV w6.heap.size 0 1000 0 (.slice a1 len c1) W6 := by rw [← hW6]; exact new_block _ _ rfl
      have C4 := Lib.hid (C3.out _ b6)
      have HX6 := Lib.hid x6
      have HB6 := Lib.hid (HB5.out.trans (b6.mono HB5.out.size))
      have HR6 := Lib.hid (show RowB W6 (.slice a1 len c1) S from Row.kept hr1 (fun k hk => bw6.block k (Row.lt hr1 k hk)))
      clear b6 x6 hb6 C2 C3 hn1 hr1 bw6
      go_wp2_with fail
      try rw [hW6]
      clear hW6
      go_at_call 9
      (with_reducible refine C4.out.mono ?_)
      rintro _ w7 ⟨hap7, hb7⟩
      rcases hap7 with ⟨hno, -⟩ | ⟨-, r2, rfl, hr2, -⟩
      · exact absurd HAP2.out hno
      have hn2 : nextV { log := 0, next := 0, seq := 0, ts := [] } { log := 0, next := 1000, seq := 0, add := swapT ts i j, drop := [] } = ⟨0, 1000, 0, S⟩ := HN2.out
      rw [hn2] at hr2 ⊢
      unfold verV
      simp only at hr2 ⊢
      try rw [show ((0 : Nat) : Int) = 0 from rfl]
      obtain ⟨a2, c2, hs2⟩ := hr2.short
      rw [HSL.out] at hs2
      subst hs2
      obtain ⟨W8, hW8⟩ : ∃ W, w7.alloc (.cells #[.int .i64 0, .int .i64 1000, .int .u64 0, .slice a2 len c2] 33) = W := ⟨_, rfl⟩
      have b8 : Below w7.heap.size w7 W8 := by rw [← hW8]; exact (Below.refl _ _).alloc (Nat.le_refl _) _
      have HX8 := Lib.hid ((HX6.out.below hb7).below b8)
      have HY8 := Lib.hid (show BoxV w7.heap.size 0 1000 0 (.slice a2 len c2) W8 by rw [← hW8]; exact new_block _ _ rfl)
      have HB8 := Lib.hid ((HB6.out.trans (hb7.mono HB6.out.size)).trans (b8.mono (HB6.out.trans (hb7.mono HB6.out.size)).size))
      have HR8 := Lib.hid (show TbsV W8 (.slice a1 len c1) S from ((RowB.v HR6.out).below hb7).below b8)
      have HQ8 := Lib.hid (show TbsV W8 (.slice a2 len c2) S from (RowB.v hr2).below b8)
      clear hb7 C4 hn2 hr2 b8
      go_wp2_with fail
      try rw [hW8]
      clear hW8
      go_loopw [12] (fun iv wr => ∃ (k : Nat), iv = .int .i64 (k : Int) ∧ 1 ≤ k ∧ k ≤ len ∧ Hid (Below W8.heap.size W8 wr)) (fun iv _ => len - (intOf iv).toNat)
      case atStart => exact ⟨1, rfl, Nat.le_refl _, by omega, Lib.hid (Below.refl _ _)⟩
      case round =>
        obtain ⟨k, rfl, hk1, hkl, HB⟩ := hrel
        have c3 := (HX8.out.below HB.out).c3
        by_cases hlt : k < len
        · obtain ⟨m, rfl⟩ : ∃ m, k = m + 1 := ⟨k - 1, by omega⟩
          have hkS : m + 1 < S.length := by rw [HSL.out]; exact hlt
          obtain ⟨b, off, rfl, hblt, hcell⟩ := (HR8.out.below HB.out).at hkS
          obtain ⟨b', off', e', -, hcell'⟩ := (HR8.out.below HB.out).at (show m < S.length by omega)
          cases e'
          have HLA := Lib.hid (HLK.out.2 (m + 1) hkS)
          have HLE := Lib.hid (show lessT (tabAt S m) (tabAt S (m + 1)) = true by rw [tabAt_get hkS, tabAt_get (show m < S.length by omega)]; exact List.pairwise_iff_getElem.1 HLS.out m (m + 1) (by omega) hkS (by omega))
          unfold LookAt at HLA
          simp only [Nat.add_sub_cancel] at HLA
          generalize tabAt S (m + 1) = y at *
          generalize tabAt S m = x at *
          obtain ⟨n1, l1, z1, f1, g1⟩ := x
          obtain ⟨n2, l2, z2, f2, g2⟩ := y
          have hbz : ∀ o1 o2 : Obj, Below wr.heap.size wr ((wr.alloc o1).alloc o2).drew := fun o1 o2 => (((Below.refl _ _).alloc (Nat.le_refl _) _).alloc (by simp) _).drew
          have hby : ∀ o1 : Obj, Below wr.heap.size wr (wr.alloc o1).drew := fun o1 => ((Below.refl _ _).alloc (Nat.le_refl _) _).drew
          have p0 : wr.drew.cell? ⟨b, off + m * 5, none⟩ = some (.int .i64 n1) := hcell' 0 _ rfl
          have pz0 : ∀ o1 o2 : Obj, ((wr.alloc o1).alloc o2).drew.cell? ⟨b, off + m * 5, none⟩ = some (.int .i64 n1) := fun o1 o2 => ((hbz o1 o2).cell (p := ⟨b, off + m * 5, none⟩) hblt).trans p0
          have py0 : ∀ o1 : Obj, (wr.alloc o1).drew.cell? ⟨b, off + m * 5, none⟩ = some (.int .i64 n1) := fun o1 => ((hby o1).cell (p := ⟨b, off + m * 5, none⟩) hblt).trans p0
          have q0 : wr.drew.cell? ⟨b, off + (m + 1) * 5, none⟩ = some (.int .i64 n2) := hcell 0 _ rfl
          have qz0 : ∀ o1 o2 : Obj, ((wr.alloc o1).alloc o2).drew.cell? ⟨b, off + (m + 1) * 5, none⟩ = some (.int .i64 n2) := fun o1 o2 => ((hbz o1 o2).cell (p := ⟨b, off + (m + 1) * 5, none⟩) hblt).trans q0
          have qy0 : ∀ o1 : Obj, (wr.alloc o1).drew.cell? ⟨b, off + (m + 1) * 5, none⟩ = some (.int .i64 n2) := fun o1 => ((hby o1).cell (p := ⟨b, off + (m + 1) * 5, none⟩) hblt).trans q0
          have p1 : wr.drew.cell? ⟨b, off + m * 5 + 1, none⟩ = some (.int .i64 l1) := hcell' 1 _ rfl
          have pz1 : ∀ o1 o2 : Obj, ((wr.alloc o1).alloc o2).drew.cell? ⟨b, off + m * 5 + 1, none⟩ = some (.int .i64 l1) := fun o1 o2 => ((hbz o1 o2).cell (p := ⟨b, off + m * 5 + 1, none⟩) hblt).trans p1
          have py1 : ∀ o1 : Obj, (wr.alloc o1).drew.cell? ⟨b, off + m * 5 + 1, none⟩ = some (.int .i64 l1) := fun o1 => ((hby o1).cell (p := ⟨b, off + m * 5 + 1, none⟩) hblt).trans p1
          have q1 : wr.drew.cell? ⟨b, off + (m + 1) * 5 + 1, none⟩ = some (.int .i64 l2) := hcell 1 _ rfl
          have qz1 : ∀ o1 o2 : Obj, ((wr.alloc o1).alloc o2).drew.cell? ⟨b, off + (m + 1) * 5 + 1, none⟩ = some (.int .i64 l2) := fun o1 o2 => ((hbz o1 o2).cell (p := ⟨b, off + (m + 1) * 5 + 1, none⟩) hblt).trans q1
          have qy1 : ∀ o1 : Obj, (wr.alloc o1).drew.cell? ⟨b, off + (m + 1) * 5 + 1, none⟩ = some (.int .i64 l2) := fun o1 => ((hby o1).cell (p := ⟨b, off + (m + 1) * 5 + 1, none⟩) hblt).trans q1
          have p2 : wr.drew.cell? ⟨b, off + m * 5 + 2, none⟩ = some (.int .i64 z1) := hcell' 2 _ rfl
          have pz2 : ∀ o1 o2 : Obj, ((wr.alloc o1).alloc o2).drew.cell? ⟨b, off + m * 5 + 2, none⟩ = some (.int .i64 z1) := fun o1 o2 => ((hbz o1 o2).cell (p := ⟨b, off + m * 5 + 2, none⟩) hblt).trans p2
          have py2 : ∀ o1 : Obj, (wr.alloc o1).drew.cell? ⟨b, off + m * 5 + 2, none⟩ = some (.int .i64 z1) := fun o1 => ((hby o1).cell (p := ⟨b, off + m * 5 + 2, none⟩) hblt).trans p2
          have q2 : wr.drew.cell? ⟨b, off + (m + 1) * 5 + 2, none⟩ = some (.int .i64 z2) := hcell 2 _ rfl
          have qz2 : ∀ o1 o2 : Obj, ((wr.alloc o1).alloc o2).drew.cell? ⟨b, off + (m + 1) * 5 + 2, none⟩ = some (.int .i64 z2) := fun o1 o2 => ((hbz o1 o2).cell (p := ⟨b, off + (m + 1) * 5 + 2, none⟩) hblt).trans q2
          have qy2 : ∀ o1 : Obj, (wr.alloc o1).drew.cell? ⟨b, off + (m + 1) * 5 + 2, none⟩ = some (.int .i64 z2) := fun o1 => ((hby o1).cell (p := ⟨b, off + (m + 1) * 5 + 2, none⟩) hblt).trans q2
          have p3 : wr.drew.cell? ⟨b, off + m * 5 + 3, none⟩ = some (.string f1) := hcell' 3 _ rfl
          have pz3 : ∀ o1 o2 : Obj, ((wr.alloc o1).alloc o2).drew.cell? ⟨b, off + m * 5 + 3, none⟩ = some (.string f1) := fun o1 o2 => ((hbz o1 o2).cell (p := ⟨b, off + m * 5 + 3, none⟩) hblt).trans p3
          have py3 : ∀ o1 : Obj, (wr.alloc o1).drew.cell? ⟨b, off + m * 5 + 3, none⟩ = some (.string f1) := fun o1 => ((hby o1).cell (p := ⟨b, off + m * 5 + 3, none⟩) hblt).trans p3
          have q3 : wr.drew.cell? ⟨b, off + (m + 1) * 5 + 3, none⟩ = some (.string f2) := hcell 3 _ rfl
          have qz3 : ∀ o1 o2 : Obj, ((wr.alloc o1).alloc o2).drew.cell? ⟨b, off + (m + 1) * 5 + 3, none⟩ = some (.string f2) := fun o1 o2 => ((hbz o1 o2).cell (p := ⟨b, off + (m + 1) * 5 + 3, none⟩) hblt).trans q3
          have qy3 : ∀ o1 : Obj, (wr.alloc o1).drew.cell? ⟨b, off + (m + 1) * 5 + 3, none⟩ = some (.string f2) := fun o1 => ((hby o1).cell (p := ⟨b, off + (m + 1) * 5 + 3, none⟩) hblt).trans q3
          have p4 : wr.drew.cell? ⟨b, off + m * 5 + 4, none⟩ = some (.string g1) := hcell' 4 _ rfl
          have pz4 : ∀ o1 o2 : Obj, ((wr.alloc o1).alloc o2).drew.cell? ⟨b, off + m * 5 + 4, none⟩ = some (.string g1) := fun o1 o2 => ((hbz o1 o2).cell (p := ⟨b, off + m * 5 + 4, none⟩) hblt).trans p4
          have py4 : ∀ o1 : Obj, (wr.alloc o1).drew.cell? ⟨b, off + m * 5 + 4, none⟩ = some (.string g1) := fun o1 => ((hby o1).cell (p := ⟨b, off + m * 5 + 4, none⟩) hblt).trans p4
          have q4 : wr.drew.cell? ⟨b, off + (m + 1) * 5 + 4, none⟩ = some (.string g2) := hcell 4 _ rfl
          have qz4 : ∀ o1 o2 : Obj, ((wr.alloc o1).alloc o2).drew.cell? ⟨b, off + (m + 1) * 5 + 4, none⟩ = some (.string g2) := fun o1 o2 => ((hbz o1 o2).cell (p := ⟨b, off + (m + 1) * 5 + 4, none⟩) hblt).trans q4
          have qy4 : ∀ o1 : Obj, (wr.alloc o1).drew.cell? ⟨b, off + (m + 1) * 5 + 4, none⟩ = some (.string g2) := fun o1 => ((hby o1).cell (p := ⟨b, off + (m + 1) * 5 + 4, none⟩) hblt).trans q4
          have hw6 : w6.heap.size < wr.heap.size := (HX8.out.below HB.out).lt
          have c3d : wr.drew.cell? ⟨w6.heap.size, 3, none⟩ = some (.slice (some ⟨b, off, none⟩) len c1) := c3
          have c3z : ∀ o1 o2 : Obj, ((wr.alloc o1).alloc o2).drew.cell? ⟨w6.heap.size, 3, none⟩ = some (.slice (some ⟨b, off, none⟩) len c1) := fun o1 o2 => ((hbz o1 o2).cell (p := ⟨w6.heap.size, 3, none⟩) hw6).trans c3
          have c3y : ∀ o1 : Obj, (wr.alloc o1).drew.cell? ⟨w6.heap.size, 3, none⟩ = some (.slice (some ⟨b, off, none⟩) len c1) := fun o1 => ((hby o1).cell (p := ⟨w6.heap.size, 3, none⟩) hw6).trans c3
          have HBZ := Lib.hid hbz
          have hmI : ((m + 1 : Nat) : Int) - 1 = (m : Int) := by omega
          have hmL : (m : Int) < (len : Int) := by omega
          have hkI : ((m + 1 : Nat) : Int) < (len : Int) := by omega
          have hwm : IntKind.i64.wrap (m : Int) = (m : Int) := by rw [IntKind.wrap_i64]; omega
          have mixed : Try.prog.follows .mixedOrders = true := by kernel_rfl
          have HBA := Lib.hid (show ∀ o1 o2 : Obj, Below W8.heap.size W8 ((wr.alloc o1).alloc o2).drew from fun o1 o2 => HB.out.trans ((hbz o1 o2).mono HB.out.size))
          have HCS := Lib.hid (show (l1 < l2) ∨ (l1 = 0 ∧ l2 = 0 ∧ n2 < n1) ∨ (l1 = l2 ∧ 0 < l1 ∧ Op.bytesLess g1.toList f2.toList = true) by
            have h1 := lessT_iff.1 HLE.out
            have h2 := HLA.out.1.2.2.1
            have h3 := HLA.out.2.1 (by omega)
            unfold Apart at h3
            simp only at h1 h2 h3
            rcases h1 with h1 | ⟨heq, h1 | h1⟩
            · exact .inl h1
            · exact .inr (.inl ⟨h1.1, by omega, h1.2⟩)
            · refine .inr (.inr ⟨heq, by omega, ?_⟩)
              rcases h3 with h3 | h3 | h3
              · exact absurd h3 h1.1
              · exact absurd heq h3
              · rw [bl_cmp]; exact decide_eq_true h3)
          clear hcell hcell' hbz hby HLE HLA
          go_upto_region 12 with fail
          go_big_region_o
          all_goals clear p0 p1 p2 p3 p4 q0 q1 q2 q3 q4 pz0 pz1 pz2 pz3 pz4 qz0 qz1 qz2 qz3 qz4 py0 py1 py2 py3 py4 qy0 qy1 qy2 qy3 qy4 c3d c3z c3y
          all_goals rcases HCS.out with h1 | ⟨h1, h2, h3⟩ | ⟨h1, h2, h3⟩
          all_goals first
            | (have e1 : decide (l2 < l1) = false := decide_eq_false (by omega)
               have e2 : (l1 == l2) = false := by simpa using (show ¬ l1 = l2 by omega)
               clear h1
               go_wp2_with fail
               go_roundw
               case rel => exact ⟨m + 1 + 1, by go_num, by omega, by omega, Lib.hid (HBA.out _ _)⟩
               case measure => simp [intOf]; omega)
            | (subst h1 h2
               have e1 : decide (n1 < n2) = false := decide_eq_false (by omega)
               clear h3
               go_wp2_with fail
               go_roundw
               case rel => exact ⟨m + 1 + 1, by go_num, by omega, by omega, Lib.hid (HBA.out _ _)⟩
               case measure => simp [intOf]; omega)
            | (subst h1
               have e1 : (l1 == 0) = false := by simpa using (show ¬ l1 = 0 by omega)
               have e2 : decide (0 < l1) = true := decide_eq_true h2
               clear h2
               go_wp2_with fail
               go_roundw
               case rel => exact ⟨m + 1 + 1, by go_num, by omega, by omega, Lib.hid (HBA.out _ _)⟩
               case measure => simp [intOf]; omega)
        · obtain rfl : k = len := by omega
          have d9 : decide ((k : Int) < (k : Int)) = false := by simp
          go_wp2_with fail
          go_at_call 8
          (with_reducible refine (CA.out _).mono ?_)
          rintro _ w9 ⟨rfl, hb9⟩
          have b9 : Below W8.heap.size W8 w9 := HB.out.trans (hb9.mono HB.out.size)
          have k3 := (HX8.out.below b9).c3
          have l3 := (HY8.out.below b9).c3
          have CS := Lib.hid (sameT_yes _ _ S w9 (HR8.out.below b9) (HQ8.out.below b9) (by rw [HSL.out]; omega))
          have HB9 := Lib.hid (HB8.out.trans (b9.mono HB8.out.size))
          clear hb9 b9
          go_wp2_with (go_at_call 16; (with_reducible refine CS.out.mono ?_); rintro _ w10 ⟨rfl, hb10⟩)
          go_ret
          exact ⟨rfl, HB9.out.trans (hb10.mono HB9.out.size)⟩
    · have C2 := Lib.hid (apply_no ⟨0, 1000, 0, ts, []⟩ _ _ Y5 hT5 (intsV_nil _) hlT (by simp) (fun t ht => ⟨HOK.out t ht, HSH.out t ht⟩) (fun k hk => by cases hk) hap)
      have C3 := Lib.hid (fun (W : World) (h : Below Y5.heap.size Y5 W) => apply_no ⟨0, 1000, 0, swapT ts i j, []⟩ _ _ W (hM5.below h) (intsV_nil _) hlS (by simp) HOS.out (fun k hk => by cases hk) (fun h => hap (HAS.out.1 h)))
      unfold ediV at C2 C3
      simp only at C2 C3
      rw [show ((0 : Nat) : Int) = 0 from rfl] at C2 C3
      clear hap hT5 hM5 HRK hob
      go_wp2_with fail
      go_at_call 9
      (with_reducible refine C2.out.mono ?_)
      rintro _ w6 ⟨rfl, hb6⟩
      have b6 : Below Y5.heap.size Y5 (w6.alloc (.cells #[.int .i64 0, .int .i64 0, .int .u64 0, .slice none 0 0] 33)) := hb6.alloc hb6.size _
      have x6 : BoxV w6.heap.size 0 0 0 (.slice none 0 0) (w6.alloc (.cells #[.int .i64 0, .int .i64 0, .int .u64 0, .slice none 0 0] 33)) := new_block _ _ rfl
      have C4 := Lib.hid (C3.out _ b6)
      have HX6 := Lib.hid x6
      have HB6 := Lib.hid (HB5.out.trans (b6.mono HB5.out.size))
      clear b6 x6 hb6 C2
      go_wp2_with fail
      go_at_call 9
      (with_reducible refine C4.out.mono ?_)
      rintro _ w7 ⟨rfl, hb7⟩
      have x7 := HX6.out.below hb7
      have HB7 := Lib.hid (HB6.out.trans (hb7.mono HB6.out.size))
      obtain ⟨W8, hW8⟩ : ∃ W, w7.alloc (.cells #[.int .i64 0, .int .i64 0, .int .u64 0, .slice none 0 0] 33) = W := ⟨_, rfl⟩
      have b8 : Below w7.heap.size w7 W8 := by rw [← hW8]; exact (Below.refl _ _).alloc (Nat.le_refl _) _
      have x8 := x7.below b8
      have y8 : BoxV w7.heap.size 0 0 0 (.slice none 0 0) W8 := by rw [← hW8]; exact new_block _ _ rfl
      have HB8 := Lib.hid (HB7.out.trans (b8.mono HB7.out.size))
      have HX8 := Lib.hid x8
      have HY8 := Lib.hid y8
      have c3 := x8.c3
      have HW8 := Lib.hid hW8
      clear x7 hb7 C4 C3 hW8 b8 x8 y8
      go_upto_region 9 with fail
      rw [HW8.out]
      go_wp2_with fail
      refine wp_loop_rounds 1 ?_
      rw [rounds_succ]
      go_wp2_with fail
      go_at_call 8
      (with_reducible refine (CA.out _).mono ?_)
      rintro _ w9 ⟨rfl, hb9⟩
      have k3 := (HX8.out.below hb9).c3
      have l3 := (HY8.out.below hb9).c3
      have CS := Lib.hid (sameT_yes (.slice none 0 0) (.slice none 0 0) [] w9 (tbsV_nil _) (tbsV_nil _) (by simp))
      have HB9 := Lib.hid (HB8.out.trans (hb9.mono HB8.out.size))
      clear hb9
      go_wp2_with (go_at_call 16; (with_reducible refine CS.out.mono ?_); rintro _ w10 ⟨rfl, hb10⟩)
      go_ret
      exact ⟨rfl, HB9.out.trans (hb10.mono HB9.out.size)⟩
end Go.Proofs.Ytmcgfafkggannaa
