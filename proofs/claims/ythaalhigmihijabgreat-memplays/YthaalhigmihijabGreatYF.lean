/- The document's own list of versions: Insert. -/
import Derived.Test.YthaalhigmihijabGreatYE
import Derived.Deep.RegionLaw
import Derived.BigRegion
namespace Go.Proofs.YthaalhigmihijabGreat
open Go.RowKit

/-- P stands ahead of x, Q doesn't. -/
structure CutE (x : Ent) (es P Q : List Ent) : Prop where
  all : es = P ++ Q
  ahead : ∀ y ∈ P, ltE y x
  behind : ∀ y ∈ Q, ¬ ltE y x
theorem cutE_of (x : Ent) : ∀ es : List Ent, es.Pairwise ltE → ∃ P Q, CutE x es P Q
  | [], _ => ⟨[], [], rfl, by simp, by simp⟩
  | n :: es, h => by
    rw [List.pairwise_cons] at h
    by_cases hn : ltE n x
    · obtain ⟨P, Q, h1, h2, h3⟩ := cutE_of x es h.2
      exact ⟨n :: P, Q, by rw [h1]; rfl, by simpa using ⟨hn, h2⟩, h3⟩
    · refine ⟨[], n :: es, rfl, by simp, fun y hy => ?_⟩
      rcases List.mem_cons.1 hy with rfl | hy
      · exact hn
      · exact fun e => hn (cmpE_trans _ _ _ _ _ _ (h.1 y hy) e)
def thereE (x : Ent) : List Ent → Bool
  | [] => false
  | y :: _ => cmpE y.k y.s x.k x.s == 0
/-- A row of versions as a slice: nil, or an array of its own. -/
theorem row_own {w : World} {v : Value} {l : List Ent} (h : Row w 34 4 v l.length (cellsE l)) (h0 : l = [] → v = .slice none 0 0) : (v = .slice none 0 0 ∧ l = []) ∨ ∃ g cap, v = .slice (some ⟨g, 0, none⟩) l.length cap ∧ l.length ≤ cap ∧ cap ≤ maxLen ∧ g < w.heap.size ∧ ∀ j u, (cellsE l)[j]? = some u → w.cell? ⟨g, j, none⟩ = some u := by
  cases l with
  | nil => exact .inl ⟨h0 rfl, rfl⟩
  | cons y l =>
    right
    have hc := h.cell
    rcases h.2 with ⟨hn, -⟩ | ⟨g, cap, cur, rfl, hg, h1, h2, -⟩
    · cases hn
    · exact ⟨g, cap + 1, rfl, h1, h2, (Array.getElem?_eq_some_iff.1 hg).1, fun j u hu => by have := hc g 0 _ rfl j u hu; rwa [Nat.zero_add] at this⟩
theorem cellsE_take (l : List Ent) (k : Nat) (hk : k ≤ l.length) : cellsE (l.take k) = (cellsE l).take (k * 4) := by
  have h1 : cellsE l = cellsE (l.take k) ++ cellsE (l.drop k) := by rw [← cellsE_append, List.take_append_drop]
  rw [h1, List.take_left']
  rw [cellsE_length, List.length_take]
  omega
theorem cellsE_drop (l : List Ent) (k : Nat) (hk : k ≤ l.length) : cellsE (l.drop k) = (cellsE l).drop (k * 4) := by
  have h1 : cellsE l = cellsE (l.take k) ++ cellsE (l.drop k) := by rw [← cellsE_append, List.take_append_drop]
  rw [h1, List.drop_left']
  rw [cellsE_length, List.length_take]
  omega
theorem cellsE_one (l : List Ent) : ∀ u ∈ cellsE l, u.oneCell' = true := by
  intro u hu
  obtain ⟨x, -, hx⟩ := List.mem_flatMap.1 hu
  simp only [Ent.cells, List.mem_cons, List.not_mem_nil, or_false] at hx
  rcases hx with rfl | rfl | rfl | rfl <;> rfl
/-- A part of a row as what is appended. -/
theorem src_part {w : World} {g : Nat} {l m : List Ent} (o c : Nat) (hc : ∀ j u, (cellsE l)[j]? = some u → w.cell? ⟨g, o + j, none⟩ = some u) (hm : cellsE m = (cellsE l).take (m.length * 4)) : Src Tryz.prog 4 29 (.slice (some ⟨g, o, none⟩) m.length c) m.length (cellsE m) w :=
  Src.ofSlice (P := Tryz.prog) _ (size := 4) Tryz.underlying29 ⟨g, o, none⟩ m.length c _ (cellsE_length m) (fun j u hu => by
    have hadd : (⟨g, o, none⟩ : Addr).add j = ⟨g, o + j, none⟩ := by unfold Addr.add; split <;> simp_all
    rw [hadd]
    refine hc j u ?_
    rw [hm, List.getElem?_take] at hu
    split at hu
    · exact hu
    · cases hu) (cellsE_one m)
/-- Below, also where a row of new memory was written. -/
theorem below_row {B : Nat} {a b c : World} {row : Option Nat} (h : Below B a b) (hB : B ≤ a.heap.size) (hg : b.grownBy c row) (hr : ∀ k, row = some k → B ≤ k) : Below B a c := h.grown hg (Nat.le_trans hB h.size) hr
theorem none_ne {b : Nat} (h : ob (.slice none 0 0) = some b) {p : Prop} : p := by simp [ob] at h
theorem ob_new {w w' : World} {v v' : Value} {B : Nat} (h : ob v' = ob v ∨ (ob v' = some w.heap.size ∧ w.grownBy w' none)) (hB : B ≤ w.heap.size) (hv : ∀ b, ob v = some b → B ≤ b) : ∀ b, ob v' = some b → B ≤ b := by
  intro b hb
  rcases h with e | ⟨e, -⟩
  · exact hv b (by rw [← e]; exact hb)
  · rw [e] at hb
    cases hb
    exact hB
theorem src_new (x : Ent) (w : World) : Src Tryz.prog 4 29 (.slice (some ⟨w.heap.size, 0, none⟩) 1 1) 1 [.string x.k, .int .u64 x.s, .int .i64 x.n, .string x.v] (w.alloc (.cells #[.string x.k, .int .u64 x.s, .int .i64 x.n, .string x.v] 34)) :=
  Src.ofSlice (P := Tryz.prog) _ (size := 4) Tryz.underlying29 ⟨w.heap.size, 0, none⟩ 1 1 _ rfl (fun j u hu => by
    match j, hu with
    | 0, hu => simpa [Addr.add] using hu
    | 1, hu => simpa [Addr.add] using hu
    | 2, hu => simpa [Addr.add] using hu
    | 3, hu => simpa [Addr.add] using hu) (by simp [Value.oneCell'])
theorem src_at (x : Ent) {w : World} {b : Nat} (h : w.heap[b]? = some (.cells #[.string x.k, .int .u64 x.s, .int .i64 x.n, .string x.v] 34)) : Src Tryz.prog 4 29 (.slice (some ⟨b, 0, none⟩) 1 1) 1 [.string x.k, .int .u64 x.s, .int .i64 x.n, .string x.v] w :=
  Src.ofSlice (P := Tryz.prog) _ (size := 4) Tryz.underlying29 ⟨b, 0, none⟩ 1 1 _ rfl (fun j u hu => by
    have hc : ∀ i v, (#[.string x.k, .int .u64 x.s, .int .i64 x.n, .string x.v] : Array Value)[i]? = some v → w.cell? ⟨b, i, none⟩ = some v := fun i v hv => by
      simp only [World.cell?, h]
      exact hv
    match j, hu with
    | 0, hu => exact (hc 0 _ rfl).trans hu
    | 1, hu => exact (hc 1 _ rfl).trans hu
    | 2, hu => exact (hc 2 _ rfl).trans hu
    | 3, hu => exact (hc 3 _ rfl).trans hu) (by simp [Value.oneCell'])
set_option maxHeartbeats 8000000 in
set_option maxRecDepth 100000 in
theorem insert_any (v : Value) (es P Q : List Ent) (x : Ent) (w : World) (hR : Row w 34 4 v es.length (cellsE es)) (hv0 : es = [] → v = .slice none 0 0) (hl : es.length ≤ 100000) (hc : CutE x es P Q) (hk : ∀ y ∈ es, y.k.size ≤ 9223372036854775807) (hx : x.k.size ≤ 9223372036854775807) :
    Calls Tryz.prog 31 #[v, .agg #[.string x.k, .int .u64 x.s, .int .i64 x.n, .string x.v]] w fun e w' => Below w.heap.size w w' ∧ ((thereE x Q = true ∧ e = .returned (.tuple #[v, .bool false])) ∨ (thereE x Q = false ∧ ∃ v', e = .returned (.tuple #[v', .bool true]) ∧ Row w' 34 4 v' (es.length + 1) (cellsE (P ++ x :: Q)) ∧ (∀ b, ob v' = some b → w.heap.size ≤ b))) := by
  have HR := Lib.hid hR
  have HC := Lib.hid hc
  have HK := Lib.hid hk
  obtain ⟨a, cap, rfl, hlc, hcm⟩ := hR.le
  have HEL := Lib.hid (show es.length = P.length + Q.length by rw [hc.all]; simp)
  have hpl : P.length ≤ es.length := by rw [HEL.out]; omega
  have HEN := Lib.hid (row_ents hR)
  have HV0 := Lib.hid hv0
  have hcap : cap ≤ 9223372036854775807 := by unfold maxLen at hcm; omega
  obtain ⟨W, hW⟩ : ∃ W, w.alloc (.cells #[.string x.k, .int .u64 x.s, .int .i64 x.n, .string x.v] 34) = W := ⟨_, rfl⟩
  have HB := Lib.hid (show Below w.heap.size w W by rw [← hW]; exact (Below.refl _ _).alloc (Nat.le_refl _) _)
  have HX := Lib.hid (show Boxe w.heap.size x.k x.s x.n x.v W by rw [← hW]; exact new_block _ _ rfl)
  have HRC := Lib.hid (show ∀ W', Below w.heap.size w W' → ∀ g, a = some ⟨g, 0, none⟩ → ∀ j u, (cellsE es)[j]? = some u → W'.cell? ⟨g, j, none⟩ = some u from fun W' hb g ha j u hu => by
    rcases row_own hR hv0 with ⟨-, h0⟩ | ⟨g', c', hv, -, -, hg, hcc⟩
    · rw [h0] at hu
      cases hu
    · rw [ha] at hv
      cases hv
      exact (hb.cell (p := ⟨g, j, none⟩) hg).trans (hcc j u hu))
  have HCE := Lib.hid (show ∀ W', Below w.heap.size w W' → ∀ i (h : i < es.length), ∃ g, a = some ⟨g, 0, none⟩ ∧ g < W'.heap.size ∧ ∀ j u, es[i].cells[j]? = some u → W'.cell? ⟨g, i * 4 + j, none⟩ = some u from fun W' hb i h => by
    rcases row_own hR hv0 with ⟨-, h0⟩ | ⟨g, c', hv, -, -, hg, hcc⟩
    · rw [h0] at h
      cases h
    · cases hv
      refine ⟨g, rfl, Nat.lt_of_lt_of_le hg hb.size, fun j u hu => ?_⟩
      exact (hb.cell (p := ⟨g, i * 4 + j, none⟩) hg).trans (hcc _ u (cellsE_get es i h j u hu)))
  clear hR hc hk
  go_enter Tryz.func31, Tryz.ntmps31
  go_wp2
  go_loopw [6] (fun kv wr => ∃ k : Nat, kv = .int .i64 (k : Int) ∧ k ≤ P.length ∧ Below W.heap.size W wr) (fun kv _ => es.length - (intOf kv).toNat)
  case atStart => exact ⟨0, rfl, Nat.zero_le _, Below.refl _ _⟩
  case round =>
    obtain ⟨k, rfl, hkP, hbl⟩ := hrel
    have hxr := HX.out.below hbl
    have hbw := HB.out.trans (hbl.mono HB.out.size)
    have b0 := hxr.c0
    have b1 := hxr.c1
    have b2 := hxr.c2
    have b3 := hxr.c3
    have hblt := hxr.lt
    have HXR := Lib.hid hxr
    have HBL := Lib.hid hbl
    have HBW := Lib.hid hbw
    clear hxr hbl hbw
    by_cases hlt : k < es.length
    · have hkI : (k : Int) < (es.length : Int) := by omega
      have dk : decide ((k : Int) < (es.length : Int)) = true := by simp; omega
      have dk2 : decide (k < es.length) = true := by simp; omega
      obtain ⟨g, rfl, hgl, hcell⟩ := HCE.out wr HBW.out k hlt
      have hyk := HK.out es[k] (List.getElem_mem _)
      have q0 : wr.cell? ⟨g, k * 4, none⟩ = some (.string es[k].k) := hcell 0 _ rfl
      have q1 : wr.cell? ⟨g, k * 4 + 1, none⟩ = some (.int .u64 es[k].s) := hcell 1 _ rfl
      have q2 : wr.cell? ⟨g, k * 4 + 2, none⟩ = some (.int .i64 es[k].n) := hcell 2 _ rfl
      have q3 : wr.cell? ⟨g, k * 4 + 3, none⟩ = some (.string es[k].v) := hcell 3 _ rfl
      have CC := Lib.hid (fun W' => cmp5_any es[k].k es[k].s es[k].n es[k].v x.k x.s x.n x.v W' hyk hx)
      clear hcell
      generalize hyy : es[k] = y at *
      have HYY := Lib.hid hyy
      clear hyy
      by_cases hkp : k < P.length
      · have hlt2 : cmpE y.k y.s x.k x.s = -1 := by
          have e1 : es[k]? = some y := by rw [List.getElem?_eq_getElem hlt, HYY.out]
          rw [HC.out.all, List.getElem?_append_left hkp] at e1
          exact HC.out.ahead y (List.mem_of_getElem? e1)
        rw [hlt2] at CC
        clear hlt2
        go_wp2
        go_region_held3 (fun w' => w'.cell? ⟨g, k * 4, none⟩ = some (.string y.k) ∧ w'.cell? ⟨g, k * 4 + 1, none⟩ = some (.int .u64 y.s) ∧ w'.cell? ⟨g, k * 4 + 2, none⟩ = some (.int .i64 y.n) ∧ w'.cell? ⟨g, k * 4 + 3, none⟩ = some (.string y.v) ∧ w'.cell? ⟨w.heap.size, 0, none⟩ = some (.string x.k) ∧ w'.cell? ⟨w.heap.size, 1, none⟩ = some (.int .u64 x.s) ∧ w'.cell? ⟨w.heap.size, 2, none⟩ = some (.int .i64 x.n) ∧ w'.cell? ⟨w.heap.size, 3, none⟩ = some (.string x.v)) (first | go_keep | exact ⟨z0, z1, z2, z3, z4, z5, z6, z7⟩) (first | (go_at_call 106; (with_reducible refine (CC.out _).mono ?_); rintro e wy ⟨rfl, hby⟩; have z0 := (hby.cell (p := ⟨g, k * 4, none⟩) hgl).trans q0; have z1 := (hby.cell (p := ⟨g, k * 4 + 1, none⟩) hgl).trans q1; have z2 := (hby.cell (p := ⟨g, k * 4 + 2, none⟩) hgl).trans q2; have z3 := (hby.cell (p := ⟨g, k * 4 + 3, none⟩) hgl).trans q3; have z4 := (hby.cell (p := ⟨w.heap.size, 0, none⟩) hblt).trans b0; have z5 := (hby.cell (p := ⟨w.heap.size, 1, none⟩) hblt).trans b1; have z6 := (hby.cell (p := ⟨w.heap.size, 2, none⟩) hblt).trans b2; have z7 := (hby.cell (p := ⟨w.heap.size, 3, none⟩) hblt).trans b3) | fail)
        all_goals go_wp2
        all_goals go_roundw
        all_goals first
          | exact ⟨k + 1, by go_num, by omega, HBL.out.drew.trans (hby.mono HBL.out.size)⟩
          | (simp [intOf]; omega)
      · have HKK := Lib.hid (show k = P.length by omega)
        obtain ⟨r, hQ⟩ : ∃ r, Q = y :: r := by
          have e1 : es[k]? = some y := by rw [List.getElem?_eq_getElem hlt, HYY.out]
          rw [HC.out.all, List.getElem?_append_right (by rw [HKK.out]; exact Nat.le_refl _), show k - P.length = 0 by rw [HKK.out]; omega] at e1
          cases hq : Q with
          | nil => rw [hq] at e1; cases e1
          | cons a r =>
            rw [hq] at e1
            cases e1
            exact ⟨r, rfl⟩
        have hge := HC.out.behind y (by rw [hQ]; simp)
        have hval := cmpE_vals y.k y.s x.k x.s
        have HTH := Lib.hid (show thereE x Q = (cmpE y.k y.s x.k x.s == 0) by rw [hQ]; rfl)
        unfold ltE at hge
        obtain ⟨z, hz⟩ : ∃ z, z = cmpE y.k y.s x.k x.s := ⟨_, rfl⟩
        rw [← hz] at CC hge hval HTH
        have dz : decide (z < 0) = false := by simp; omega
        have HQ := Lib.hid hQ
        clear hz hQ
        go_wp2
        go_region_held3 (fun w' => w'.cell? ⟨g, k * 4, none⟩ = some (.string y.k) ∧ w'.cell? ⟨g, k * 4 + 1, none⟩ = some (.int .u64 y.s) ∧ w'.cell? ⟨g, k * 4 + 2, none⟩ = some (.int .i64 y.n) ∧ w'.cell? ⟨g, k * 4 + 3, none⟩ = some (.string y.v) ∧ w'.cell? ⟨w.heap.size, 0, none⟩ = some (.string x.k) ∧ w'.cell? ⟨w.heap.size, 1, none⟩ = some (.int .u64 x.s) ∧ w'.cell? ⟨w.heap.size, 2, none⟩ = some (.int .i64 x.n) ∧ w'.cell? ⟨w.heap.size, 3, none⟩ = some (.string x.v)) (first | go_keep | exact ⟨z0, z1, z2, z3, z4, z5, z6, z7⟩) (first | (go_at_call 106; (with_reducible refine (CC.out _).mono ?_); rintro e wy ⟨rfl, hby⟩; have z0 := (hby.cell (p := ⟨g, k * 4, none⟩) hgl).trans q0; have z1 := (hby.cell (p := ⟨g, k * 4 + 1, none⟩) hgl).trans q1; have z2 := (hby.cell (p := ⟨g, k * 4 + 2, none⟩) hgl).trans q2; have z3 := (hby.cell (p := ⟨g, k * 4 + 3, none⟩) hgl).trans q3; have z4 := (hby.cell (p := ⟨w.heap.size, 0, none⟩) hblt).trans b0; have z5 := (hby.cell (p := ⟨w.heap.size, 1, none⟩) hblt).trans b1; have z6 := (hby.cell (p := ⟨w.heap.size, 2, none⟩) hblt).trans b2; have z7 := (hby.cell (p := ⟨w.heap.size, 3, none⟩) hblt).trans b3) | fail)
        all_goals go_wp2_with fail
        have hby0 := HBL.out.drew.trans (hby.mono HBL.out.size)
        have hbwy := HB.out.trans (hby0.mono HB.out.size)
        have HBY := Lib.hid hbwy
        have hgy : g < wy.heap.size := lt_of_cell z0
        have hby1 : w.heap.size < wy.heap.size := lt_of_cell z4
        clear hbwy hby hby0 q0 q1 q2 q3 b0 b1 b2 b3
        cases hz0 : (z == 0) with
        | true =>
          rw [hz0] at HTH
          go_region_held3 (fun w' => w'.cell? ⟨g, k * 4, none⟩ = some (.string y.k) ∧ w'.cell? ⟨g, k * 4 + 1, none⟩ = some (.int .u64 y.s) ∧ w'.cell? ⟨g, k * 4 + 2, none⟩ = some (.int .i64 y.n) ∧ w'.cell? ⟨g, k * 4 + 3, none⟩ = some (.string y.v) ∧ w'.cell? ⟨w.heap.size, 0, none⟩ = some (.string x.k) ∧ w'.cell? ⟨w.heap.size, 1, none⟩ = some (.int .u64 x.s) ∧ w'.cell? ⟨w.heap.size, 2, none⟩ = some (.int .i64 x.n) ∧ w'.cell? ⟨w.heap.size, 3, none⟩ = some (.string x.v)) (first | go_keep | exact ⟨y0, y1, y2, y3, y4, y5, y6, y7⟩) (first | (go_at_call 106; (with_reducible refine (CC.out _).mono ?_); rintro e wt ⟨rfl, hbt⟩; have y0 := (hbt.cell (p := ⟨g, k * 4, none⟩) hgy).trans z0; have y1 := (hbt.cell (p := ⟨g, k * 4 + 1, none⟩) hgy).trans z1; have y2 := (hbt.cell (p := ⟨g, k * 4 + 2, none⟩) hgy).trans z2; have y3 := (hbt.cell (p := ⟨g, k * 4 + 3, none⟩) hgy).trans z3; have y4 := (hbt.cell (p := ⟨w.heap.size, 0, none⟩) hby1).trans z4; have y5 := (hbt.cell (p := ⟨w.heap.size, 1, none⟩) hby1).trans z5; have y6 := (hbt.cell (p := ⟨w.heap.size, 2, none⟩) hby1).trans z6; have y7 := (hbt.cell (p := ⟨w.heap.size, 3, none⟩) hby1).trans z7) | fail)
          all_goals go_wp2
          all_goals go_ret2
          all_goals exact ⟨HBY.out.drew.trans (hbt.mono HBY.out.size), .inl ⟨HTH.out, rfl⟩⟩
        | false =>
          rw [hz0] at HTH
          go_region_held3 (fun w' => w'.cell? ⟨g, k * 4, none⟩ = some (.string y.k) ∧ w'.cell? ⟨g, k * 4 + 1, none⟩ = some (.int .u64 y.s) ∧ w'.cell? ⟨g, k * 4 + 2, none⟩ = some (.int .i64 y.n) ∧ w'.cell? ⟨g, k * 4 + 3, none⟩ = some (.string y.v) ∧ w'.cell? ⟨w.heap.size, 0, none⟩ = some (.string x.k) ∧ w'.cell? ⟨w.heap.size, 1, none⟩ = some (.int .u64 x.s) ∧ w'.cell? ⟨w.heap.size, 2, none⟩ = some (.int .i64 x.n) ∧ w'.cell? ⟨w.heap.size, 3, none⟩ = some (.string x.v)) (first | go_keep | exact ⟨y0, y1, y2, y3, y4, y5, y6, y7⟩) (first | (go_at_call 106; (with_reducible refine (CC.out _).mono ?_); rintro e wt ⟨rfl, hbt⟩; have y0 := (hbt.cell (p := ⟨g, k * 4, none⟩) hgy).trans z0; have y1 := (hbt.cell (p := ⟨g, k * 4 + 1, none⟩) hgy).trans z1; have y2 := (hbt.cell (p := ⟨g, k * 4 + 2, none⟩) hgy).trans z2; have y3 := (hbt.cell (p := ⟨g, k * 4 + 3, none⟩) hgy).trans z3; have y4 := (hbt.cell (p := ⟨w.heap.size, 0, none⟩) hby1).trans z4; have y5 := (hbt.cell (p := ⟨w.heap.size, 1, none⟩) hby1).trans z5; have y6 := (hbt.cell (p := ⟨w.heap.size, 2, none⟩) hby1).trans z6; have y7 := (hbt.cell (p := ⟨w.heap.size, 3, none⟩) hby1).trans z7) | fail)
          all_goals go_wp2_with fail
          have HBT := Lib.hid (HBY.out.drew.trans (hbt.mono HBY.out.size))
          have hgt : g < wt.heap.size := lt_of_cell y0
          have hxt : w.heap.size < wt.heap.size := lt_of_cell y4
          clear hbt y0 y1 y2 y3
          have hkc : (k : Int) ≤ (cap : Int) := by omega
          have hkc2 : k ≤ cap := by omega
          have hkl : (k : Int) ≤ (es.length : Int) := by omega
          obtain ⟨i0, hi, hz0', hzs, hzb⟩ := info_parts infoE5
          have hck : ¬ cap = k := by omega
          have HS1 := Lib.hid (show ∀ W', Below wt.heap.size wt W' → Src Tryz.prog 4 29 (.slice (some ⟨g, 0, none⟩) k cap) k (cellsE P) W' from fun W' hb => by
            have := src_part (w := W') (g := g) (l := es) (m := P) 0 cap (fun j u hu => by
              rw [Nat.zero_add]
              exact ((hb.cell (p := ⟨g, j, none⟩) hgt).trans (HRC.out wt HBT.out g rfl j u hu))) (by rw [← cellsE_take es P.length hpl, HC.out.all, List.take_left])
            rw [← HKK.out] at this
            exact this)
          have HS3 := Lib.hid (show ∀ W', Below wt.heap.size wt W' → Src Tryz.prog 4 29 (.slice (some ⟨g, k * 4, none⟩) (es.length - k) (cap - k)) (es.length - k) (cellsE Q) W' from fun W' hb => by
            have hq : es.length - k = Q.length := by rw [HKK.out, HEL.out]; omega
            have := src_part (w := W') (g := g) (l := Q) (m := Q) (k * 4) (cap - k) (fun j u hu => by
              refine (hb.cell (p := ⟨g, k * 4 + j, none⟩) hgt).trans (HRC.out wt HBT.out g rfl (k * 4 + j) u ?_)
              rw [HC.out.all, cellsE_append, List.getElem?_append_right (by rw [cellsE_length, HKK.out]; omega), cellsE_length, HKK.out]
              rw [show P.length * 4 + j - P.length * 4 = j by omega]
              exact hu) (by rw [← cellsE_length, List.take_length])
            rw [hq]
            exact this)
          have HBa := Lib.hid (show 0 + k ≤ maxLen by unfold maxLen; omega)
          have HBb := Lib.hid (show (0 + k) * 48 ≤ 140737488355328 by omega)
          have HBc := Lib.hid (show k + 1 ≤ maxLen by unfold maxLen; omega)
          have HBd := Lib.hid (show (k + 1) * 48 ≤ 140737488355328 by omega)
          have HBe := Lib.hid (show k + 1 + (es.length - k) ≤ maxLen by unfold maxLen; omega)
          have HBf := Lib.hid (show (k + 1 + (es.length - k)) * 48 ≤ 140737488355328 by omega)
          go_region_law (first | (refine step_append_row _ rfl (.const (.slice none 0 0)) (.tmp 38) 29 29 rfl 34 i0 _ 4 48 Tryz.underlying29 hi hz0' hzs hzb rfl (.slice none 0 0) 0 [] rfl (row_nil _ _ _) _ (by simp [Act.eval, Act.put]) k (cellsE P) (HS1.out _ ((Below.refl _ _).drew)) HBa.out HBb.out ?_; intro v1 w1 hrow1 hgrow1 hob1; have hB1 : Below wt.heap.size wt w1 := below_row ((Below.refl _ _).drew) (Nat.le_refl _) hgrow1 (fun b hb => none_ne hb); have hv1 : ∀ b, ob v1 = some b → wt.heap.size ≤ b := fun b hb => ob_new hob1 (Nat.le_refl _) (fun b hb => none_ne hb) b hb; rw [Nat.zero_add, List.nil_append] at hrow1; have f0 := (hB1.cell (p := ⟨w.heap.size, 0, none⟩) hxt).trans y4; have f1 := (hB1.cell (p := ⟨w.heap.size, 1, none⟩) hxt).trans y5; have f2 := (hB1.cell (p := ⟨w.heap.size, 2, none⟩) hxt).trans y6; have f3 := (hB1.cell (p := ⟨w.heap.size, 3, none⟩) hxt).trans y7) | (refine step_append_row _ rfl (.const (.slice none 0 0)) (.tmp 38) 29 29 rfl 34 i0 _ 4 48 Tryz.underlying29 hi hz0' hzs hzb rfl (.slice none 0 0) 0 [] rfl (row_nil _ _ _) _ (by simp [Act.eval]) k (cellsE P) (HS1.out _ (((Below.refl _ _).drew).alloc (Nat.le_refl _) _)) HBa.out HBb.out ?_; intro v1 w1 hrow1 hgrow1 hob1; have hB1 : Below wt.heap.size wt w1 := below_row (((Below.refl _ _).drew).alloc (Nat.le_refl _) _) (Nat.le_refl _) hgrow1 (fun b hb => none_ne hb); have hv1 : ∀ b, ob v1 = some b → wt.heap.size ≤ b := fun b hb => ob_new hob1 (by simp) (fun b hb => none_ne hb) b hb; rw [Nat.zero_add, List.nil_append] at hrow1; have hsx := (hgrow1.block wt.heap.size (by simp) (fun e => none_ne e.symm)).trans (new_block _ _ (by simp))) | (refine step_append_row _ rfl (.tmp 39) (.tmp 41) 29 29 rfl 34 i0 _ 4 48 Tryz.underlying29 hi hz0' hzs hzb rfl v1 k (cellsE P) (by simp [Act.eval]) (row_below hrow1 ((Below.refl _ _).alloc (Nat.le_refl _) _)) _ (by simp [Act.eval]) 1 [.string x.k, .int .u64 x.s, .int .i64 x.n, .string x.v] (src_new x _) HBc.out HBd.out ?_; intro v2 w2 hrow2 hgrow2 hob2; have hB2 : Below wt.heap.size wt w2 := below_row (hB1.alloc hB1.size _) (Nat.le_refl _) hgrow2 hv1; have hv2 : ∀ b, ob v2 = some b → wt.heap.size ≤ b := fun b hb => ob_new hob2 (by have := hB1.size; simp; omega) hv1 b hb) | (refine step_append_row _ rfl (.tmp 39) (.tmp 41) 29 29 rfl 34 i0 _ 4 48 Tryz.underlying29 hi hz0' hzs hzb rfl v1 k (cellsE P) (by simp [Act.eval]) hrow1 _ (by simp [Act.eval]) 1 [.string x.k, .int .u64 x.s, .int .i64 x.n, .string x.v] (src_at x hsx) HBc.out HBd.out ?_; intro v2 w2 hrow2 hgrow2 hob2; have hB2 : Below wt.heap.size wt w2 := below_row hB1 (Nat.le_refl _) hgrow2 hv1; have hv2 : ∀ b, ob v2 = some b → wt.heap.size ≤ b := fun b hb => ob_new hob2 hB1.size hv1 b hb) | (refine step_append_row _ rfl (.tmp 42) (.tmp 45) 29 29 rfl 34 i0 _ 4 48 Tryz.underlying29 hi hz0' hzs hzb rfl v2 (k + 1) (cellsE P ++ [.string x.k, .int .u64 x.s, .int .i64 x.n, .string x.v]) (by simp [Act.eval]) hrow2 _ (by simp [Act.eval]) (es.length - k) (cellsE Q) (HS3.out _ hB2) HBe.out HBf.out ?_; intro v3 w3 hrow3 hgrow3 hob3; have hB3 : Below wt.heap.size wt w3 := below_row hB2 (Nat.le_refl _) hgrow3 hv2; have hv3 : ∀ b, ob v3 = some b → wt.heap.size ≤ b := fun b hb => ob_new hob3 hB2.size hv2 b hb) | fail)
          all_goals go_wp2
          all_goals go_ret2
          all_goals
            refine ⟨HBT.out.trans (hB3.mono HBT.out.size), .inr ⟨HTH.out, v3, rfl, ?_, fun b hb => Nat.le_trans HBT.out.size (hv3 b hb)⟩⟩
            rw [show k + 1 + (es.length - k) = es.length + 1 by omega] at hrow3
            rw [show cellsE (P ++ x :: Q) = cellsE P ++ [.string x.k, .int .u64 x.s, .int .i64 x.n, .string x.v] ++ cellsE Q by rw [cellsE_append]; simp [cellsE, Ent.cells]]
            exact hrow3
    · have HKK2 := Lib.hid (show k = es.length by omega)
      have HKK := Lib.hid (show k = P.length by omega)
      have HQ := Lib.hid (show Q = [] from List.eq_nil_of_length_eq_zero (by have := HEL.out; omega))
      have HTH := Lib.hid (show thereE x Q = false by rw [HQ.out]; rfl)
      have dk : decide ((k : Int) < (es.length : Int)) = false := by simp; omega
      have dk2 : decide (k < es.length) = false := by simp; omega
      have HBW2 := Lib.hid hpl
      go_wp2
      go_quiet (fail)
      obtain ⟨wa, hwa⟩ : ∃ wa, wr.drewN nq = wa := ⟨_, rfl⟩
      have hba : Below w.heap.size w wa := by rw [← hwa]; exact belowN HBW.out _
      have hxa : Boxe w.heap.size x.k x.s x.n x.v wa := by rw [← hwa]; exact HXR.out
      rw [hwa]
      clear hwa b0 b1 b2 b3
      go_wp2_with fail
      go_quiet (fail)
      obtain ⟨wt, hwt⟩ : ∃ wt, wa.drewN nq = wt := ⟨_, rfl⟩
      have HBT := Lib.hid (show Below w.heap.size w wt by rw [← hwt]; exact belowN hba _)
      have hxt' : Boxe w.heap.size x.k x.s x.n x.v wt := by rw [← hwt]; exact hxa
      rw [hwt]
      clear hwt hba hxa
      have y4 := hxt'.c0
      have y5 := hxt'.c1
      have y6 := hxt'.c2
      have y7 := hxt'.c3
      have hxt : w.heap.size < wt.heap.size := hxt'.lt
      clear hxt'
      have hkc : (k : Int) ≤ (cap : Int) := by omega
      have hkc2 : k ≤ cap := by omega
      have hkl : (k : Int) ≤ (es.length : Int) := by omega
      obtain ⟨i0, hi, hz0', hzs, hzb⟩ := info_parts infoE5
      go_wp2_with fail
      rcases row_own HR.out HV0.out with ⟨hnil, hes⟩ | ⟨g, c', hsome, -, -, hg0, -⟩
      · have HE0 := Lib.hid hes
        have HP0 := Lib.hid (show P = [] from List.eq_nil_of_length_eq_zero (by have := HEL.out; rw [hes] at this; simp at this; omega))
        have hk0 : k = 0 := by rw [HKK2.out, hes]; rfl
        subst hk0
        rw [hes] at hnil
        rw [hes]
        simp only [Value.slice.injEq] at hnil
        obtain ⟨rfl, -, rfl⟩ := hnil
        clear hes
        have HS1 := Lib.hid (show ∀ W', Below wt.heap.size wt W' → Src Tryz.prog 4 29 (.slice none 0 0) 0 (cellsE P) W' from fun W' _ => by rw [HP0.out]; exact Src.ofNil _ Tryz.underlying29 0)
        have HS3 := Lib.hid (show ∀ W', Below wt.heap.size wt W' → Src Tryz.prog 4 29 (.slice none 0 0) 0 (cellsE Q) W' from fun W' _ => by rw [HQ.out]; exact Src.ofNil _ Tryz.underlying29 0)
        have HBa := Lib.hid (show 0 + 0 ≤ maxLen by unfold maxLen; omega)
        have HBb := Lib.hid (show (0 + 0) * 48 ≤ 140737488355328 by omega)
        have HBc := Lib.hid (show 0 + 1 ≤ maxLen by unfold maxLen; omega)
        have HBd := Lib.hid (show (0 + 1) * 48 ≤ 140737488355328 by omega)
        have HBe := Lib.hid (show 0 + 1 + 0 ≤ maxLen by unfold maxLen; omega)
        have HBf := Lib.hid (show (0 + 1 + 0) * 48 ≤ 140737488355328 by omega)
        go_region_law (first | (refine step_append_row _ rfl (.const (.slice none 0 0)) (.tmp 38) 29 29 rfl 34 i0 _ 4 48 Tryz.underlying29 hi hz0' hzs hzb rfl (.slice none 0 0) 0 [] rfl (row_nil _ _ _) _ (by simp [Act.eval, Act.put]) 0 (cellsE P) (HS1.out _ ((Below.refl _ _).drew)) HBa.out HBb.out ?_; intro v1 w1 hrow1 hgrow1 hob1; have hB1 : Below wt.heap.size wt w1 := below_row ((Below.refl _ _).drew) (Nat.le_refl _) hgrow1 (fun b hb => none_ne hb); have hv1 : ∀ b, ob v1 = some b → wt.heap.size ≤ b := fun b hb => ob_new hob1 (Nat.le_refl _) (fun b hb => none_ne hb) b hb; rw [Nat.zero_add, List.nil_append] at hrow1; have f0 := (hB1.cell (p := ⟨w.heap.size, 0, none⟩) hxt).trans y4; have f1 := (hB1.cell (p := ⟨w.heap.size, 1, none⟩) hxt).trans y5; have f2 := (hB1.cell (p := ⟨w.heap.size, 2, none⟩) hxt).trans y6; have f3 := (hB1.cell (p := ⟨w.heap.size, 3, none⟩) hxt).trans y7) | (refine step_append_row _ rfl (.const (.slice none 0 0)) (.tmp 38) 29 29 rfl 34 i0 _ 4 48 Tryz.underlying29 hi hz0' hzs hzb rfl (.slice none 0 0) 0 [] rfl (row_nil _ _ _) _ (by simp [Act.eval]) 0 (cellsE P) (HS1.out _ (((Below.refl _ _).drew).alloc (Nat.le_refl _) _)) HBa.out HBb.out ?_; intro v1 w1 hrow1 hgrow1 hob1; have hB1 : Below wt.heap.size wt w1 := below_row (((Below.refl _ _).drew).alloc (Nat.le_refl _) _) (Nat.le_refl _) hgrow1 (fun b hb => none_ne hb); have hv1 : ∀ b, ob v1 = some b → wt.heap.size ≤ b := fun b hb => ob_new hob1 (by simp) (fun b hb => none_ne hb) b hb; rw [Nat.zero_add, List.nil_append] at hrow1; have hsx := (hgrow1.block wt.heap.size (by simp) (fun e => none_ne e.symm)).trans (new_block _ _ (by simp))) | (refine step_append_row _ rfl (.tmp 39) (.tmp 41) 29 29 rfl 34 i0 _ 4 48 Tryz.underlying29 hi hz0' hzs hzb rfl v1 0 (cellsE P) (by simp [Act.eval]) (row_below hrow1 ((Below.refl _ _).alloc (Nat.le_refl _) _)) _ (by simp [Act.eval]) 1 [.string x.k, .int .u64 x.s, .int .i64 x.n, .string x.v] (src_new x _) HBc.out HBd.out ?_; intro v2 w2 hrow2 hgrow2 hob2; have hB2 : Below wt.heap.size wt w2 := below_row (hB1.alloc hB1.size _) (Nat.le_refl _) hgrow2 hv1; have hv2 : ∀ b, ob v2 = some b → wt.heap.size ≤ b := fun b hb => ob_new hob2 (by have := hB1.size; simp; omega) hv1 b hb) | (refine step_append_row _ rfl (.tmp 39) (.tmp 41) 29 29 rfl 34 i0 _ 4 48 Tryz.underlying29 hi hz0' hzs hzb rfl v1 0 (cellsE P) (by simp [Act.eval]) hrow1 _ (by simp [Act.eval]) 1 [.string x.k, .int .u64 x.s, .int .i64 x.n, .string x.v] (src_at x hsx) HBc.out HBd.out ?_; intro v2 w2 hrow2 hgrow2 hob2; have hB2 : Below wt.heap.size wt w2 := below_row hB1 (Nat.le_refl _) hgrow2 hv1; have hv2 : ∀ b, ob v2 = some b → wt.heap.size ≤ b := fun b hb => ob_new hob2 hB1.size hv1 b hb) | (refine step_append_row _ rfl (.tmp 42) (.tmp 45) 29 29 rfl 34 i0 _ 4 48 Tryz.underlying29 hi hz0' hzs hzb rfl v2 (0 + 1) (cellsE P ++ [.string x.k, .int .u64 x.s, .int .i64 x.n, .string x.v]) (by simp [Act.eval]) hrow2 _ (by simp [Act.eval]) 0 (cellsE Q) (HS3.out _ hB2) HBe.out HBf.out ?_; intro v3 w3 hrow3 hgrow3 hob3; have hB3 : Below wt.heap.size wt w3 := below_row hB2 (Nat.le_refl _) hgrow3 hv2; have hv3 : ∀ b, ob v3 = some b → wt.heap.size ≤ b := fun b hb => ob_new hob3 hB2.size hv2 b hb) | fail)
        all_goals go_wp2
        all_goals go_ret2
        all_goals
          refine ⟨HBT.out.trans (hB3.mono HBT.out.size), .inr ⟨HTH.out, v3, rfl, ?_, fun b hb => Nat.le_trans HBT.out.size (hv3 b hb)⟩⟩
          rw [show 0 + 1 + 0 = es.length + 1 by rw [HE0.out]; rfl] at hrow3
          rw [show cellsE (P ++ x :: Q) = cellsE P ++ [.string x.k, .int .u64 x.s, .int .i64 x.n, .string x.v] ++ cellsE Q by rw [cellsE_append]; simp [cellsE, Ent.cells]]
          exact hrow3
      · cases hsome
        have hgt : g < wt.heap.size := Nat.lt_of_lt_of_le hg0 HBT.out.size
        by_cases hck : cap = k
        · have hif : (if cap = k then (some ⟨g, 0, none⟩ : Option Addr) else some ⟨g, k * 4, none⟩) = some ⟨g, 0, none⟩ := if_pos hck
          clear hck
          have HS1 := Lib.hid (show ∀ W', Below wt.heap.size wt W' → Src Tryz.prog 4 29 (.slice (some ⟨g, 0, none⟩) k cap) k (cellsE P) W' from fun W' hb => by
            have := src_part (w := W') (g := g) (l := es) (m := P) 0 cap (fun j u hu => by
              rw [Nat.zero_add]
              exact ((hb.cell (p := ⟨g, j, none⟩) hgt).trans (HRC.out wt HBT.out g rfl j u hu))) (by rw [← cellsE_take es P.length hpl, HC.out.all, List.take_left])
            rw [← HKK.out] at this
            exact this)
          have HS3 := Lib.hid (show ∀ (oo : Nat) W', Below wt.heap.size wt W' → Src Tryz.prog 4 29 (.slice (some ⟨g, oo, none⟩) (es.length - k) (cap - k)) (es.length - k) (cellsE Q) W' from fun oo W' _ => by
            have hq : es.length - k = 0 := by rw [HKK2.out]; omega
            rw [hq, HQ.out]
            exact Src.ofSlice (P := Tryz.prog) _ (size := 4) Tryz.underlying29 ⟨g, oo, none⟩ 0 _ _ rfl (fun j u hu => by cases hu) (by simp [cellsE]))
          have HBa := Lib.hid (show 0 + k ≤ maxLen by unfold maxLen; omega)
          have HBb := Lib.hid (show (0 + k) * 48 ≤ 140737488355328 by omega)
          have HBc := Lib.hid (show k + 1 ≤ maxLen by unfold maxLen; omega)
          have HBd := Lib.hid (show (k + 1) * 48 ≤ 140737488355328 by omega)
          have HBe := Lib.hid (show k + 1 + (es.length - k) ≤ maxLen by unfold maxLen; omega)
          have HBf := Lib.hid (show (k + 1 + (es.length - k)) * 48 ≤ 140737488355328 by omega)
          go_region_law (first | (refine step_append_row _ rfl (.const (.slice none 0 0)) (.tmp 38) 29 29 rfl 34 i0 _ 4 48 Tryz.underlying29 hi hz0' hzs hzb rfl (.slice none 0 0) 0 [] rfl (row_nil _ _ _) _ (by simp [Act.eval, Act.put]) k (cellsE P) (HS1.out _ ((Below.refl _ _).drew)) HBa.out HBb.out ?_; intro v1 w1 hrow1 hgrow1 hob1; have hB1 : Below wt.heap.size wt w1 := below_row ((Below.refl _ _).drew) (Nat.le_refl _) hgrow1 (fun b hb => none_ne hb); have hv1 : ∀ b, ob v1 = some b → wt.heap.size ≤ b := fun b hb => ob_new hob1 (Nat.le_refl _) (fun b hb => none_ne hb) b hb; rw [Nat.zero_add, List.nil_append] at hrow1; have f0 := (hB1.cell (p := ⟨w.heap.size, 0, none⟩) hxt).trans y4; have f1 := (hB1.cell (p := ⟨w.heap.size, 1, none⟩) hxt).trans y5; have f2 := (hB1.cell (p := ⟨w.heap.size, 2, none⟩) hxt).trans y6; have f3 := (hB1.cell (p := ⟨w.heap.size, 3, none⟩) hxt).trans y7) | (refine step_append_row _ rfl (.const (.slice none 0 0)) (.tmp 38) 29 29 rfl 34 i0 _ 4 48 Tryz.underlying29 hi hz0' hzs hzb rfl (.slice none 0 0) 0 [] rfl (row_nil _ _ _) _ (by simp [Act.eval]) k (cellsE P) (HS1.out _ (((Below.refl _ _).drew).alloc (Nat.le_refl _) _)) HBa.out HBb.out ?_; intro v1 w1 hrow1 hgrow1 hob1; have hB1 : Below wt.heap.size wt w1 := below_row (((Below.refl _ _).drew).alloc (Nat.le_refl _) _) (Nat.le_refl _) hgrow1 (fun b hb => none_ne hb); have hv1 : ∀ b, ob v1 = some b → wt.heap.size ≤ b := fun b hb => ob_new hob1 (by simp) (fun b hb => none_ne hb) b hb; rw [Nat.zero_add, List.nil_append] at hrow1; have hsx := (hgrow1.block wt.heap.size (by simp) (fun e => none_ne e.symm)).trans (new_block _ _ (by simp))) | (refine step_append_row _ rfl (.tmp 39) (.tmp 41) 29 29 rfl 34 i0 _ 4 48 Tryz.underlying29 hi hz0' hzs hzb rfl v1 k (cellsE P) (by simp [Act.eval]) (row_below hrow1 ((Below.refl _ _).alloc (Nat.le_refl _) _)) _ (by simp [Act.eval]) 1 [.string x.k, .int .u64 x.s, .int .i64 x.n, .string x.v] (src_new x _) HBc.out HBd.out ?_; intro v2 w2 hrow2 hgrow2 hob2; have hB2 : Below wt.heap.size wt w2 := below_row (hB1.alloc hB1.size _) (Nat.le_refl _) hgrow2 hv1; have hv2 : ∀ b, ob v2 = some b → wt.heap.size ≤ b := fun b hb => ob_new hob2 (by have := hB1.size; simp; omega) hv1 b hb) | (refine step_append_row _ rfl (.tmp 39) (.tmp 41) 29 29 rfl 34 i0 _ 4 48 Tryz.underlying29 hi hz0' hzs hzb rfl v1 k (cellsE P) (by simp [Act.eval]) hrow1 _ (by simp [Act.eval]) 1 [.string x.k, .int .u64 x.s, .int .i64 x.n, .string x.v] (src_at x hsx) HBc.out HBd.out ?_; intro v2 w2 hrow2 hgrow2 hob2; have hB2 : Below wt.heap.size wt w2 := below_row hB1 (Nat.le_refl _) hgrow2 hv1; have hv2 : ∀ b, ob v2 = some b → wt.heap.size ≤ b := fun b hb => ob_new hob2 hB1.size hv1 b hb) | (refine step_append_row _ rfl (.tmp 42) (.tmp 45) 29 29 rfl 34 i0 _ 4 48 Tryz.underlying29 hi hz0' hzs hzb rfl v2 (k + 1) (cellsE P ++ [.string x.k, .int .u64 x.s, .int .i64 x.n, .string x.v]) (by simp [Act.eval]) hrow2 _ (by simp [Act.eval]) (es.length - k) (cellsE Q) (HS3.out 0 _ hB2) HBe.out HBf.out ?_; intro v3 w3 hrow3 hgrow3 hob3; have hB3 : Below wt.heap.size wt w3 := below_row hB2 (Nat.le_refl _) hgrow3 hv2; have hv3 : ∀ b, ob v3 = some b → wt.heap.size ≤ b := fun b hb => ob_new hob3 hB2.size hv2 b hb) | fail)
          all_goals go_wp2
          all_goals go_ret2
          all_goals
            refine ⟨HBT.out.trans (hB3.mono HBT.out.size), .inr ⟨HTH.out, v3, rfl, ?_, fun b hb => Nat.le_trans HBT.out.size (hv3 b hb)⟩⟩
            rw [show k + 1 + (es.length - k) = es.length + 1 by omega] at hrow3
            rw [show cellsE (P ++ x :: Q) = cellsE P ++ [.string x.k, .int .u64 x.s, .int .i64 x.n, .string x.v] ++ cellsE Q by rw [cellsE_append]; simp [cellsE, Ent.cells]]
            exact hrow3
        · skip
          have HS1 := Lib.hid (show ∀ W', Below wt.heap.size wt W' → Src Tryz.prog 4 29 (.slice (some ⟨g, 0, none⟩) k cap) k (cellsE P) W' from fun W' hb => by
            have := src_part (w := W') (g := g) (l := es) (m := P) 0 cap (fun j u hu => by
              rw [Nat.zero_add]
              exact ((hb.cell (p := ⟨g, j, none⟩) hgt).trans (HRC.out wt HBT.out g rfl j u hu))) (by rw [← cellsE_take es P.length hpl, HC.out.all, List.take_left])
            rw [← HKK.out] at this
            exact this)
          have HS3 := Lib.hid (show ∀ (oo : Nat) W', Below wt.heap.size wt W' → Src Tryz.prog 4 29 (.slice (some ⟨g, oo, none⟩) (es.length - k) (cap - k)) (es.length - k) (cellsE Q) W' from fun oo W' _ => by
            have hq : es.length - k = 0 := by rw [HKK2.out]; omega
            rw [hq, HQ.out]
            exact Src.ofSlice (P := Tryz.prog) _ (size := 4) Tryz.underlying29 ⟨g, oo, none⟩ 0 _ _ rfl (fun j u hu => by cases hu) (by simp [cellsE]))
          have HBa := Lib.hid (show 0 + k ≤ maxLen by unfold maxLen; omega)
          have HBb := Lib.hid (show (0 + k) * 48 ≤ 140737488355328 by omega)
          have HBc := Lib.hid (show k + 1 ≤ maxLen by unfold maxLen; omega)
          have HBd := Lib.hid (show (k + 1) * 48 ≤ 140737488355328 by omega)
          have HBe := Lib.hid (show k + 1 + (es.length - k) ≤ maxLen by unfold maxLen; omega)
          have HBf := Lib.hid (show (k + 1 + (es.length - k)) * 48 ≤ 140737488355328 by omega)
          go_region_law (first | (refine step_append_row _ rfl (.const (.slice none 0 0)) (.tmp 38) 29 29 rfl 34 i0 _ 4 48 Tryz.underlying29 hi hz0' hzs hzb rfl (.slice none 0 0) 0 [] rfl (row_nil _ _ _) _ (by simp [Act.eval, Act.put]) k (cellsE P) (HS1.out _ ((Below.refl _ _).drew)) HBa.out HBb.out ?_; intro v1 w1 hrow1 hgrow1 hob1; have hB1 : Below wt.heap.size wt w1 := below_row ((Below.refl _ _).drew) (Nat.le_refl _) hgrow1 (fun b hb => none_ne hb); have hv1 : ∀ b, ob v1 = some b → wt.heap.size ≤ b := fun b hb => ob_new hob1 (Nat.le_refl _) (fun b hb => none_ne hb) b hb; rw [Nat.zero_add, List.nil_append] at hrow1; have f0 := (hB1.cell (p := ⟨w.heap.size, 0, none⟩) hxt).trans y4; have f1 := (hB1.cell (p := ⟨w.heap.size, 1, none⟩) hxt).trans y5; have f2 := (hB1.cell (p := ⟨w.heap.size, 2, none⟩) hxt).trans y6; have f3 := (hB1.cell (p := ⟨w.heap.size, 3, none⟩) hxt).trans y7) | (refine step_append_row _ rfl (.const (.slice none 0 0)) (.tmp 38) 29 29 rfl 34 i0 _ 4 48 Tryz.underlying29 hi hz0' hzs hzb rfl (.slice none 0 0) 0 [] rfl (row_nil _ _ _) _ (by simp [Act.eval]) k (cellsE P) (HS1.out _ (((Below.refl _ _).drew).alloc (Nat.le_refl _) _)) HBa.out HBb.out ?_; intro v1 w1 hrow1 hgrow1 hob1; have hB1 : Below wt.heap.size wt w1 := below_row (((Below.refl _ _).drew).alloc (Nat.le_refl _) _) (Nat.le_refl _) hgrow1 (fun b hb => none_ne hb); have hv1 : ∀ b, ob v1 = some b → wt.heap.size ≤ b := fun b hb => ob_new hob1 (by simp) (fun b hb => none_ne hb) b hb; rw [Nat.zero_add, List.nil_append] at hrow1; have hsx := (hgrow1.block wt.heap.size (by simp) (fun e => none_ne e.symm)).trans (new_block _ _ (by simp))) | (refine step_append_row _ rfl (.tmp 39) (.tmp 41) 29 29 rfl 34 i0 _ 4 48 Tryz.underlying29 hi hz0' hzs hzb rfl v1 k (cellsE P) (by simp [Act.eval]) (row_below hrow1 ((Below.refl _ _).alloc (Nat.le_refl _) _)) _ (by simp [Act.eval]) 1 [.string x.k, .int .u64 x.s, .int .i64 x.n, .string x.v] (src_new x _) HBc.out HBd.out ?_; intro v2 w2 hrow2 hgrow2 hob2; have hB2 : Below wt.heap.size wt w2 := below_row (hB1.alloc hB1.size _) (Nat.le_refl _) hgrow2 hv1; have hv2 : ∀ b, ob v2 = some b → wt.heap.size ≤ b := fun b hb => ob_new hob2 (by have := hB1.size; simp; omega) hv1 b hb) | (refine step_append_row _ rfl (.tmp 39) (.tmp 41) 29 29 rfl 34 i0 _ 4 48 Tryz.underlying29 hi hz0' hzs hzb rfl v1 k (cellsE P) (by simp [Act.eval]) hrow1 _ (by simp [Act.eval]) 1 [.string x.k, .int .u64 x.s, .int .i64 x.n, .string x.v] (src_at x hsx) HBc.out HBd.out ?_; intro v2 w2 hrow2 hgrow2 hob2; have hB2 : Below wt.heap.size wt w2 := below_row hB1 (Nat.le_refl _) hgrow2 hv1; have hv2 : ∀ b, ob v2 = some b → wt.heap.size ≤ b := fun b hb => ob_new hob2 hB1.size hv1 b hb) | (refine step_append_row _ rfl (.tmp 42) (.tmp 45) 29 29 rfl 34 i0 _ 4 48 Tryz.underlying29 hi hz0' hzs hzb rfl v2 (k + 1) (cellsE P ++ [.string x.k, .int .u64 x.s, .int .i64 x.n, .string x.v]) (by simp [Act.eval]) hrow2 _ (by simp [Act.eval]) (es.length - k) (cellsE Q) (HS3.out (k * 4) _ hB2) HBe.out HBf.out ?_; intro v3 w3 hrow3 hgrow3 hob3; have hB3 : Below wt.heap.size wt w3 := below_row hB2 (Nat.le_refl _) hgrow3 hv2; have hv3 : ∀ b, ob v3 = some b → wt.heap.size ≤ b := fun b hb => ob_new hob3 hB2.size hv2 b hb) | fail)
          all_goals go_wp2
          all_goals go_ret2
          all_goals
            refine ⟨HBT.out.trans (hB3.mono HBT.out.size), .inr ⟨HTH.out, v3, rfl, ?_, fun b hb => Nat.le_trans HBT.out.size (hv3 b hb)⟩⟩
            rw [show k + 1 + (es.length - k) = es.length + 1 by omega] at hrow3
            rw [show cellsE (P ++ x :: Q) = cellsE P ++ [.string x.k, .int .u64 x.s, .int .i64 x.n, .string x.v] ++ cellsE Q by rw [cellsE_append]; simp [cellsE, Ent.cells]]
            exact hrow3
end Go.Proofs.YthaalhigmihijabGreat
