/- Rows of versions, their order, the document's own Insert, the statements' Ordered and SameEntries (of BE, YD, YF, EO). -/
import Derived.Test.YtcbailiniigcnaaGreatV1
import Derived.Laws.Cover1
import Derived.Deep.RegionLaw
import Derived.BigRegion
import Derived.BigQuiet
import Derived.Deep.QuietTactic
namespace Go.Proofs.YtcbailiniigcnaaGreat
open Go.RowKit

theorem infoE5 : (Tryz.prog.info? 56).map (fun i => (i.zero, i.size, i.bytes)) = some (some (.agg #[.string ⟨#[]⟩, .int .u64 0, .int .i64 0, .string ⟨#[]⟩]), 4, 48) := by kernel_rfl
def cellsE (l : List Ent) : List Value := l.flatMap Ent.cells
theorem cellsE_append (a b : List Ent) : cellsE (a ++ b) = cellsE a ++ cellsE b := by simp [cellsE]
theorem row_below {w w' : World} {e : TypeId} {size : Nat} {v : Value} {n : Nat} {xs : List Value} (h : Row w e size v n xs) (hb : Below w.heap.size w w') : Row w' e size v n xs := h.kept fun k hk => hb.block k (h.lt k hk)
theorem bt7 {a b c : World} (h : Below a.heap.size a b) (k : Below b.heap.size b c) : Below a.heap.size a c := h.trans (k.mono h.size)
theorem cellsE_length : ∀ l : List Ent, (cellsE l).length = l.length * 4
  | [] => rfl
  | x :: l => by
    have := cellsE_length l
    simp only [cellsE, List.flatMap_cons, List.length_append, List.length_cons] at *
    rw [this]
    simp only [Ent.cells, List.length_cons, List.length_nil]
    omega
theorem cellsE_get : ∀ (l : List Ent) (i : Nat) (h : i < l.length) (j : Nat) (u : Value), l[i].cells[j]? = some u → (cellsE l)[i * 4 + j]? = some u
  | [], _, h, _, _, _ => by cases h
  | x :: l, i, h, j, u, hu => by
    have hc : cellsE (x :: l) = x.cells ++ cellsE l := by simp [cellsE]
    have hl : x.cells.length = 4 := rfl
    rw [hc]
    match i, h, hu with
    | 0, _, hu =>
      have hu' : x.cells[j]? = some u := hu
      have hj := (List.getElem?_eq_some_iff.1 hu').1
      rw [Nat.zero_mul, Nat.zero_add, List.getElem?_append_left hj]
      exact hu'
    | i + 1, h, hu =>
      have ih := cellsE_get l i (by simpa using h) j u hu
      rw [List.getElem?_append_right (by rw [hl, Nat.add_mul]; omega), hl, show (i + 1) * 4 + j - 4 = i * 4 + j by rw [Nat.add_mul]; omega]
      exact ih
/-- A row of versions of one's own is a slice of versions. -/
theorem row_ents {w : World} {v : Value} {l : List Ent} (h : Row w 56 4 v l.length (cellsE l)) : ∃ a cap, v = .slice a l.length cap ∧ EntsAt w.heap.size w a l.length l := by
  have hc := h.cell
  have hlt := h.lt
  obtain ⟨a, cap, hv, -, -⟩ := h.le
  refine ⟨a, cap, hv, rfl, ?_⟩
  rcases h.2 with ⟨h0, -⟩ | ⟨g, c, cur, hv', hg, -⟩
  · exact .inl h0
  · rw [hv] at hv'
    cases hv'
    refine .inr ⟨g, 0, rfl, (Array.getElem?_eq_some_iff.1 hg).1, fun i hi j u hu => ?_⟩
    have := hc g 0 _ hv (i * 4 + j) u (cellsE_get l i hi j u hu)
    rw [← Nat.add_assoc] at this
    exact this
theorem row_ents2 {w : World} {v : Value} {l : List Ent} (h : Row w 56 4 v l.length (cellsE l)) : ∃ a cap, v = .slice a l.length cap ∧ EntsAt w.heap.size w a l.length l ∧ l.length ≤ cap := by
  obtain ⟨a, cap, hv, hE⟩ := row_ents h
  obtain ⟨a2, cap2, hv2, hle, -⟩ := h.le
  rw [hv] at hv2
  cases hv2
  exact ⟨a, cap, hv, hE, hle⟩
/-- A row of versions as a slice: nil, or an array of its own. -/
theorem row_own {w : World} {v : Value} {l : List Ent} (h : Row w 56 4 v l.length (cellsE l)) (h0 : l = [] → v = .slice none 0 0) : (v = .slice none 0 0 ∧ l = []) ∨ ∃ g cap, v = .slice (some ⟨g, 0, none⟩) l.length cap ∧ l.length ≤ cap ∧ cap ≤ maxLen ∧ g < w.heap.size ∧ ∀ j u, (cellsE l)[j]? = some u → w.cell? ⟨g, j, none⟩ = some u := by
  cases l with
  | nil => exact .inl ⟨h0 rfl, rfl⟩
  | cons y l =>
    right
    have hc := h.cell
    rcases h.2 with ⟨hn, -⟩ | ⟨g, cap, cur, rfl, hg, h1, h2, -⟩
    · cases hn
    · exact ⟨g, cap + 1, rfl, h1, h2, (Array.getElem?_eq_some_iff.1 hg).1, fun j u hu => by have := hc g 0 _ rfl j u hu; rwa [Nat.zero_add] at this⟩
theorem cellsE_one (l : List Ent) : ∀ u ∈ cellsE l, u.oneCell' = true := by
  intro u hu
  obtain ⟨x, -, hx⟩ := List.mem_flatMap.1 hu
  simp only [Ent.cells, List.mem_cons, List.not_mem_nil, or_false] at hx
  rcases hx with rfl | rfl | rfl | rfl <;> rfl
/-- Below, also where a row of new memory was written. -/
theorem below_row {B : Nat} {a b c : World} {row : Option Nat} (h : Below B a b) (hB : B ≤ a.heap.size) (hg : b.grownBy c row) (hr : ∀ k, row = some k → B ≤ k) : Below B a c := h.grown hg (Nat.le_trans hB h.size) hr
theorem ob_new {w w' : World} {v v' : Value} {B : Nat} (h : ob v' = ob v ∨ (ob v' = some w.heap.size ∧ w.grownBy w' none)) (hB : B ≤ w.heap.size) (hv : ∀ b, ob v = some b → B ≤ b) : ∀ b, ob v' = some b → B ≤ b := by
  intro b hb
  rcases h with e | ⟨e, -⟩
  · exact hv b (by rw [← e]; exact hb)
  · rw [e] at hb
    cases hb
    exact hB
theorem src_new (x : Ent) (w : World) : Src Tryz.prog 4 26 (.slice (some ⟨w.heap.size, 0, none⟩) 1 1) 1 [.string x.k, .int .u64 x.s, .int .i64 x.n, .string x.v] (w.alloc (.cells #[.string x.k, .int .u64 x.s, .int .i64 x.n, .string x.v] 56)) :=
  Src.ofSlice (P := Tryz.prog) _ (size := 4) Tryz.underlying26 ⟨w.heap.size, 0, none⟩ 1 1 _ rfl (fun j u hu => by
    match j, hu with
    | 0, hu => simpa [Addr.add] using hu
    | 1, hu => simpa [Addr.add] using hu
    | 2, hu => simpa [Addr.add] using hu
    | 3, hu => simpa [Addr.add] using hu) (by simp [Value.oneCell'])
theorem src_at (x : Ent) {w : World} {b : Nat} (h : w.heap[b]? = some (.cells #[.string x.k, .int .u64 x.s, .int .i64 x.n, .string x.v] 56)) : Src Tryz.prog 4 26 (.slice (some ⟨b, 0, none⟩) 1 1) 1 [.string x.k, .int .u64 x.s, .int .i64 x.n, .string x.v] w :=
  Src.ofSlice (P := Tryz.prog) _ (size := 4) Tryz.underlying26 ⟨b, 0, none⟩ 1 1 _ rfl (fun j u hu => by
    have hc : ∀ i v, (#[.string x.k, .int .u64 x.s, .int .i64 x.n, .string x.v] : Array Value)[i]? = some v → w.cell? ⟨b, i, none⟩ = some v := fun i v hv => by
      simp only [World.cell?, h]
      exact hv
    match j, hu with
    | 0, hu => exact (hc 0 _ rfl).trans hu
    | 1, hu => exact (hc 1 _ rfl).trans hu
    | 2, hu => exact (hc 2 _ rfl).trans hu
    | 3, hu => exact (hc 3 _ rfl).trans hu) (by simp [Value.oneCell'])
theorem lt_of_cell {w : World} {b j : Nat} {v : Value} (h : w.cell? ⟨b, j, none⟩ = some v) : b < w.heap.size := by
  rcases Nat.lt_or_ge b w.heap.size with h1 | h1
  · exact h1
  · simp [World.cell?, Array.getElem?_eq_none h1] at h
def ltE (x y : Ent) : Prop := cmpE x.k x.s y.k y.s = -1
theorem ltE_irr (x : Ent) : ¬ ltE x x := by
  unfold ltE
  rw [cmpE_refl]
  decide
theorem ltE_asym {x y : Ent} (h : ltE x y) : ¬ ltE y x := by
  unfold ltE at *
  rw [cmpE_swap, h]
  decide
theorem sorted_ext : ∀ xs ys : List Ent, xs.Pairwise ltE → ys.Pairwise ltE → (∀ e, e ∈ xs ↔ e ∈ ys) → xs = ys
  | [], [], _, _, _ => rfl
  | [], y :: ys, _, _, h => by
    have := (h y).2 (by simp)
    cases this
  | x :: xs, [], _, _, h => by
    have := (h x).1 (by simp)
    cases this
  | x :: xs, y :: ys, hx, hy, h => by
    rw [List.pairwise_cons] at hx hy
    have e : x = y := by
      rcases List.mem_cons.1 ((h x).1 (by simp)) with e | h1
      · exact e
      · rcases List.mem_cons.1 ((h y).2 (by simp)) with e | h2
        · exact e.symm
        · exact absurd (hx.1 y h2) (ltE_asym (hy.1 x h1))
    subst e
    rw [sorted_ext xs ys hx.2 hy.2 (fun e => ?_)]
    constructor
    · intro he
      rcases List.mem_cons.1 ((h e).1 (List.mem_cons_of_mem _ he)) with q | q
      · subst q
        exact absurd (hx.1 e he) (ltE_irr e)
      · exact q
    · intro he
      rcases List.mem_cons.1 ((h e).2 (List.mem_cons_of_mem _ he)) with q | q
      · subst q
        exact absurd (hy.1 e he) (ltE_irr e)
      · exact q
theorem drewN_add7 (w : World) (m n : Nat) : (w.drewN m).drewN n = w.drewN (m + n) := by
  simp [World.drewN, Nat.add_assoc]
set_option maxHeartbeats 1000000 in
set_option maxRecDepth 100000 in
theorem same_some (g off0 cap0 b off cap : Nat) (zs : List Ent) (w : World) (hl : zs.length ≤ 1000000) (h0 : ∀ i (h : i < zs.length) j u, zs[i].cells[j]? = some u → w.cell? ⟨g, off0 + i * 4 + j, none⟩ = some u) (h1 : ∀ i (h : i < zs.length) j u, zs[i].cells[j]? = some u → w.cell? ⟨b, off + i * 4 + j, none⟩ = some u) :
    Calls Tryz.prog 13 #[.slice (some ⟨g, off0, none⟩) zs.length cap0, .slice (some ⟨b, off, none⟩) zs.length cap] w fun e w' => e = .returned (.bool true) ∧ Below w.heap.size w w' := by
  have H0 := Lib.hid h0
  have H1 := Lib.hid h1
  clear h0 h1
  go_enter Tryz.func13, Tryz.ntmps13
  go_wp2
  go_loopw [5] (fun i wr => ∃ k : Nat, k ≤ zs.length ∧ i = .int .i64 k ∧ Below w.heap.size w wr) (fun i _ => zs.length - (intOf i).toNat)
  case atStart => exact ⟨0, Nat.zero_le _, rfl, Below.refl _ _⟩
  case round =>
    obtain ⟨k, hk, rfl, hb⟩ := hrel
    have HB := Lib.hid hb
    clear hb
    by_cases hlt : k < zs.length
    · have lift : ∀ (q j : Nat) (u : Value), w.cell? ⟨q, j, none⟩ = some u → wr.cell? ⟨q, j, none⟩ = some u := fun q j u hu => (HB.out.cell (p := ⟨q, j, none⟩) (lt_of_cell hu)).trans hu
      have hx0 := lift _ _ _ (H0.out k hlt 0 _ rfl)
      have hy0 := lift _ _ _ (H1.out k hlt 0 _ rfl)
      have hx1 := lift _ _ _ (H0.out k hlt 1 _ rfl)
      have hy1 := lift _ _ _ (H1.out k hlt 1 _ rfl)
      have hx2 := lift _ _ _ (H0.out k hlt 2 _ rfl)
      have hy2 := lift _ _ _ (H1.out k hlt 2 _ rfl)
      have hx3 := lift _ _ _ (H0.out k hlt 3 _ rfl)
      have hy3 := lift _ _ _ (H1.out k hlt 3 _ rfl)
      clear lift
      generalize zs[k] = z at hx0 hy0 hx1 hy1 hx2 hy2 hx3 hy3
      obtain ⟨f0, f1, f2, f3⟩ := z
      simp only [Nat.add_zero] at hx0 hy0 hx1 hy1 hx2 hy2 hx3 hy3
      have hk0 : (k : Int) < (zs.length : Int) := by omega
      go_wp2
      go_quiet (fail)
      go_wp2
      go_roundw
      case rel => exact ⟨k + 1, by omega, by go_num, belowN HB.out _⟩
      case measure => simp [intOf]; omega
    · go_wp2
      go_ret
      exact ⟨rfl, HB.out⟩
set_option maxHeartbeats 1000000 in
theorem same_none (a0 a1 : Option Addr) (cap0 cap : Nat) (w : World) :
    Calls Tryz.prog 13 #[.slice a0 0 cap0, .slice a1 0 cap] w fun e w' => e = .returned (.bool true) ∧ Below w.heap.size w w' := by
  go_enter Tryz.func13, Tryz.ntmps13
  go_wp2
  refine wp_loop_rounds 1 ?_
  rw [rounds_succ]
  go_wp2
  go_ret
  exact ⟨rfl, Below.refl _ _⟩
theorem same_ents {n1 n2 : Nat} (a1 a2 : Option Addr) (c1 c2 : Nat) (es : List Ent) (w : World) (h1 : EntsAt n1 w a1 es.length es) (h2 : EntsAt n2 w a2 es.length es) (hl : es.length ≤ 1000000) :
    Calls Tryz.prog 13 #[.slice a1 es.length c1, .slice a2 es.length c2] w fun e w' => e = .returned (.bool true) ∧ Below w.heap.size w w' := by
  rcases h1.2 with h0 | ⟨b, off, rfl, -, hc⟩
  · rw [h0]
    exact same_none _ _ _ _ _
  · rcases h2.2 with h0 | ⟨b', off', rfl, -, hc'⟩
    · rw [h0]
      exact same_none _ _ _ _ _
    · exact same_some b off c1 b' off' c2 es w hl hc hc'
/-- P stands ahead of x, Q doesn't. -/
structure CutE (x : Ent) (es P Q : List Ent) : Prop where
  all : es = P ++ Q
  ahead : ∀ y ∈ P, ltE y x
  behind : ∀ y ∈ Q, ¬ ltE y x
theorem cutE_of (x : Ent) : ∀ es : List Ent, es.Pairwise ltE → ∃ P Q, CutE x es P Q
  | [], _ => ⟨[], [], rfl, by simp, by simp⟩
  | n :: es, h => by
    rw [List.pairwise_cons] at h
    by_cases hn : ltE n x
    · obtain ⟨P, Q, h1, h2, h3⟩ := cutE_of x es h.2
      exact ⟨n :: P, Q, by rw [h1]; rfl, by simpa using ⟨hn, h2⟩, h3⟩
    · refine ⟨[], n :: es, rfl, by simp, fun y hy => ?_⟩
      rcases List.mem_cons.1 hy with rfl | hy
      · exact hn
      · exact fun e => hn (cmpE_trans _ _ _ _ _ _ (h.1 y hy) e)
def thereE (x : Ent) : List Ent → Bool
  | [] => false
  | y :: _ => cmpE y.k y.s x.k x.s == 0
theorem cellsE_take (l : List Ent) (k : Nat) (hk : k ≤ l.length) : cellsE (l.take k) = (cellsE l).take (k * 4) := by
  have h1 : cellsE l = cellsE (l.take k) ++ cellsE (l.drop k) := by rw [← cellsE_append, List.take_append_drop]
  rw [h1, List.take_left']
  rw [cellsE_length, List.length_take]
  omega
theorem cellsE_drop (l : List Ent) (k : Nat) (hk : k ≤ l.length) : cellsE (l.drop k) = (cellsE l).drop (k * 4) := by
  have h1 : cellsE l = cellsE (l.take k) ++ cellsE (l.drop k) := by rw [← cellsE_append, List.take_append_drop]
  rw [h1, List.drop_left']
  rw [cellsE_length, List.length_take]
  omega
/-- A part of a row as what is appended. -/
theorem src_part {w : World} {g : Nat} {l m : List Ent} (o c : Nat) (hc : ∀ j u, (cellsE l)[j]? = some u → w.cell? ⟨g, o + j, none⟩ = some u) (hm : cellsE m = (cellsE l).take (m.length * 4)) : Src Tryz.prog 4 26 (.slice (some ⟨g, o, none⟩) m.length c) m.length (cellsE m) w :=
  Src.ofSlice (P := Tryz.prog) _ (size := 4) Tryz.underlying26 ⟨g, o, none⟩ m.length c _ (cellsE_length m) (fun j u hu => by
    have hadd : (⟨g, o, none⟩ : Addr).add j = ⟨g, o + j, none⟩ := by unfold Addr.add; split <;> simp_all
    rw [hadd]
    refine hc j u ?_
    rw [hm, List.getElem?_take] at hu
    split at hu
    · exact hu
    · cases hu) (cellsE_one m)
theorem none_ne {b : Nat} (h : ob (.slice none 0 0) = some b) {p : Prop} : p := by simp [ob] at h
set_option maxHeartbeats 8000000 in
set_option maxRecDepth 100000 in
theorem insert_any (v : Value) (es P Q : List Ent) (x : Ent) (w : World) (hR : Row w 56 4 v es.length (cellsE es)) (hv0 : es = [] → v = .slice none 0 0) (hl : es.length ≤ 100000) (hc : CutE x es P Q) (hk : ∀ y ∈ es, y.k.size ≤ 9223372036854775807) (hx : x.k.size ≤ 9223372036854775807) :
    Calls Tryz.prog 24 #[v, .agg #[.string x.k, .int .u64 x.s, .int .i64 x.n, .string x.v]] w fun e w' => Below w.heap.size w w' ∧ ((thereE x Q = true ∧ e = .returned (.tuple #[v, .bool false])) ∨ (thereE x Q = false ∧ ∃ v', e = .returned (.tuple #[v', .bool true]) ∧ Row w' 56 4 v' (es.length + 1) (cellsE (P ++ x :: Q)) ∧ (∀ b, ob v' = some b → w.heap.size ≤ b))) := by
  have HR := Lib.hid hR
  have HC := Lib.hid hc
  have HK := Lib.hid hk
  obtain ⟨a, cap, rfl, hlc, hcm⟩ := hR.le
  have HEL := Lib.hid (show es.length = P.length + Q.length by rw [hc.all]; simp)
  have hpl : P.length ≤ es.length := by rw [HEL.out]; omega
  have HEN := Lib.hid (row_ents hR)
  have HV0 := Lib.hid hv0
  have hcap : cap ≤ 9223372036854775807 := by unfold maxLen at hcm; omega
  obtain ⟨W, hW⟩ : ∃ W, w.alloc (.cells #[.string x.k, .int .u64 x.s, .int .i64 x.n, .string x.v] 56) = W := ⟨_, rfl⟩
  have HB := Lib.hid (show Below w.heap.size w W by rw [← hW]; exact (Below.refl _ _).alloc (Nat.le_refl _) _)
  have HX := Lib.hid (show Boxe w.heap.size x.k x.s x.n x.v W by rw [← hW]; exact new_block _ _ rfl)
  have HRC := Lib.hid (show ∀ W', Below w.heap.size w W' → ∀ g, a = some ⟨g, 0, none⟩ → ∀ j u, (cellsE es)[j]? = some u → W'.cell? ⟨g, j, none⟩ = some u from fun W' hb g ha j u hu => by
    rcases row_own hR hv0 with ⟨-, h0⟩ | ⟨g', c', hv, -, -, hg, hcc⟩
    · rw [h0] at hu
      cases hu
    · rw [ha] at hv
      cases hv
      exact (hb.cell (p := ⟨g, j, none⟩) hg).trans (hcc j u hu))
  have HCE := Lib.hid (show ∀ W', Below w.heap.size w W' → ∀ i (h : i < es.length), ∃ g, a = some ⟨g, 0, none⟩ ∧ g < W'.heap.size ∧ ∀ j u, es[i].cells[j]? = some u → W'.cell? ⟨g, i * 4 + j, none⟩ = some u from fun W' hb i h => by
    rcases row_own hR hv0 with ⟨-, h0⟩ | ⟨g, c', hv, -, -, hg, hcc⟩
    · rw [h0] at h
      cases h
    · cases hv
      refine ⟨g, rfl, Nat.lt_of_lt_of_le hg hb.size, fun j u hu => ?_⟩
      exact (hb.cell (p := ⟨g, i * 4 + j, none⟩) hg).trans (hcc _ u (cellsE_get es i h j u hu)))
  clear hR hc hk
  go_enter Tryz.func24, Tryz.ntmps24
  go_wp2
  go_loopw [6] (fun kv wr => ∃ k : Nat, kv = .int .i64 (k : Int) ∧ k ≤ P.length ∧ Below W.heap.size W wr) (fun kv _ => es.length - (intOf kv).toNat)
  case atStart => exact ⟨0, rfl, Nat.zero_le _, Below.refl _ _⟩
  case round =>
    obtain ⟨k, rfl, hkP, hbl⟩ := hrel
    have hxr := HX.out.below hbl
    have hbw := HB.out.trans (hbl.mono HB.out.size)
    have b0 := hxr.c0
    have b1 := hxr.c1
    have b2 := hxr.c2
    have b3 := hxr.c3
    have hblt := hxr.lt
    have HXR := Lib.hid hxr
    have HBL := Lib.hid hbl
    have HBW := Lib.hid hbw
    clear hxr hbl hbw
    by_cases hlt : k < es.length
    · have hkI : (k : Int) < (es.length : Int) := by omega
      have dk : decide ((k : Int) < (es.length : Int)) = true := by simp; omega
      have dk2 : decide (k < es.length) = true := by simp; omega
      obtain ⟨g, rfl, hgl, hcell⟩ := HCE.out wr HBW.out k hlt
      have hyk := HK.out es[k] (List.getElem_mem _)
      have q0 : wr.cell? ⟨g, k * 4, none⟩ = some (.string es[k].k) := hcell 0 _ rfl
      have q1 : wr.cell? ⟨g, k * 4 + 1, none⟩ = some (.int .u64 es[k].s) := hcell 1 _ rfl
      have q2 : wr.cell? ⟨g, k * 4 + 2, none⟩ = some (.int .i64 es[k].n) := hcell 2 _ rfl
      have q3 : wr.cell? ⟨g, k * 4 + 3, none⟩ = some (.string es[k].v) := hcell 3 _ rfl
      have CC := Lib.hid (fun W' => cmp5_any es[k].k es[k].s es[k].n es[k].v x.k x.s x.n x.v W' hyk hx)
      clear hcell
      generalize hyy : es[k] = y at *
      have HYY := Lib.hid hyy
      clear hyy
      by_cases hkp : k < P.length
      · have hlt2 : cmpE y.k y.s x.k x.s = -1 := by
          have e1 : es[k]? = some y := by rw [List.getElem?_eq_getElem hlt, HYY.out]
          rw [HC.out.all, List.getElem?_append_left hkp] at e1
          exact HC.out.ahead y (List.mem_of_getElem? e1)
        rw [hlt2] at CC
        clear hlt2
        go_wp2
        go_region_held3 (fun w' => w'.cell? ⟨g, k * 4, none⟩ = some (.string y.k) ∧ w'.cell? ⟨g, k * 4 + 1, none⟩ = some (.int .u64 y.s) ∧ w'.cell? ⟨g, k * 4 + 2, none⟩ = some (.int .i64 y.n) ∧ w'.cell? ⟨g, k * 4 + 3, none⟩ = some (.string y.v) ∧ w'.cell? ⟨w.heap.size, 0, none⟩ = some (.string x.k) ∧ w'.cell? ⟨w.heap.size, 1, none⟩ = some (.int .u64 x.s) ∧ w'.cell? ⟨w.heap.size, 2, none⟩ = some (.int .i64 x.n) ∧ w'.cell? ⟨w.heap.size, 3, none⟩ = some (.string x.v)) (first | go_keep | exact ⟨z0, z1, z2, z3, z4, z5, z6, z7⟩) (first | (go_at_call 21; (with_reducible refine (CC.out _).mono ?_); rintro e wy ⟨rfl, hby⟩; have z0 := (hby.cell (p := ⟨g, k * 4, none⟩) hgl).trans q0; have z1 := (hby.cell (p := ⟨g, k * 4 + 1, none⟩) hgl).trans q1; have z2 := (hby.cell (p := ⟨g, k * 4 + 2, none⟩) hgl).trans q2; have z3 := (hby.cell (p := ⟨g, k * 4 + 3, none⟩) hgl).trans q3; have z4 := (hby.cell (p := ⟨w.heap.size, 0, none⟩) hblt).trans b0; have z5 := (hby.cell (p := ⟨w.heap.size, 1, none⟩) hblt).trans b1; have z6 := (hby.cell (p := ⟨w.heap.size, 2, none⟩) hblt).trans b2; have z7 := (hby.cell (p := ⟨w.heap.size, 3, none⟩) hblt).trans b3) | fail)
        all_goals go_wp2
        all_goals go_roundw
        all_goals first
          | exact ⟨k + 1, by go_num, by omega, HBL.out.drew.trans (hby.mono HBL.out.size)⟩
          | (simp [intOf]; omega)
      · have HKK := Lib.hid (show k = P.length by omega)
        obtain ⟨r, hQ⟩ : ∃ r, Q = y :: r := by
          have e1 : es[k]? = some y := by rw [List.getElem?_eq_getElem hlt, HYY.out]
          rw [HC.out.all, List.getElem?_append_right (by rw [HKK.out]; exact Nat.le_refl _), show k - P.length = 0 by rw [HKK.out]; omega] at e1
          cases hq : Q with
          | nil => rw [hq] at e1; cases e1
          | cons a r =>
            rw [hq] at e1
            cases e1
            exact ⟨r, rfl⟩
        have hge := HC.out.behind y (by rw [hQ]; simp)
        have hval := cmpE_vals y.k y.s x.k x.s
        have HTH := Lib.hid (show thereE x Q = (cmpE y.k y.s x.k x.s == 0) by rw [hQ]; rfl)
        unfold ltE at hge
        obtain ⟨z, hz⟩ : ∃ z, z = cmpE y.k y.s x.k x.s := ⟨_, rfl⟩
        rw [← hz] at CC hge hval HTH
        have dz : decide (z < 0) = false := by simp; omega
        have HQ := Lib.hid hQ
        clear hz hQ
        go_wp2
        go_region_held3 (fun w' => w'.cell? ⟨g, k * 4, none⟩ = some (.string y.k) ∧ w'.cell? ⟨g, k * 4 + 1, none⟩ = some (.int .u64 y.s) ∧ w'.cell? ⟨g, k * 4 + 2, none⟩ = some (.int .i64 y.n) ∧ w'.cell? ⟨g, k * 4 + 3, none⟩ = some (.string y.v) ∧ w'.cell? ⟨w.heap.size, 0, none⟩ = some (.string x.k) ∧ w'.cell? ⟨w.heap.size, 1, none⟩ = some (.int .u64 x.s) ∧ w'.cell? ⟨w.heap.size, 2, none⟩ = some (.int .i64 x.n) ∧ w'.cell? ⟨w.heap.size, 3, none⟩ = some (.string x.v)) (first | go_keep | exact ⟨z0, z1, z2, z3, z4, z5, z6, z7⟩) (first | (go_at_call 21; (with_reducible refine (CC.out _).mono ?_); rintro e wy ⟨rfl, hby⟩; have z0 := (hby.cell (p := ⟨g, k * 4, none⟩) hgl).trans q0; have z1 := (hby.cell (p := ⟨g, k * 4 + 1, none⟩) hgl).trans q1; have z2 := (hby.cell (p := ⟨g, k * 4 + 2, none⟩) hgl).trans q2; have z3 := (hby.cell (p := ⟨g, k * 4 + 3, none⟩) hgl).trans q3; have z4 := (hby.cell (p := ⟨w.heap.size, 0, none⟩) hblt).trans b0; have z5 := (hby.cell (p := ⟨w.heap.size, 1, none⟩) hblt).trans b1; have z6 := (hby.cell (p := ⟨w.heap.size, 2, none⟩) hblt).trans b2; have z7 := (hby.cell (p := ⟨w.heap.size, 3, none⟩) hblt).trans b3) | fail)
        all_goals go_wp2_with fail
        have hby0 := HBL.out.drew.trans (hby.mono HBL.out.size)
        have hbwy := HB.out.trans (hby0.mono HB.out.size)
        have HBY := Lib.hid hbwy
        have hgy : g < wy.heap.size := lt_of_cell z0
        have hby1 : w.heap.size < wy.heap.size := lt_of_cell z4
        clear hbwy hby hby0 q0 q1 q2 q3 b0 b1 b2 b3
        cases hz0 : (z == 0) with
        | true =>
          rw [hz0] at HTH
          go_region_held3 (fun w' => w'.cell? ⟨g, k * 4, none⟩ = some (.string y.k) ∧ w'.cell? ⟨g, k * 4 + 1, none⟩ = some (.int .u64 y.s) ∧ w'.cell? ⟨g, k * 4 + 2, none⟩ = some (.int .i64 y.n) ∧ w'.cell? ⟨g, k * 4 + 3, none⟩ = some (.string y.v) ∧ w'.cell? ⟨w.heap.size, 0, none⟩ = some (.string x.k) ∧ w'.cell? ⟨w.heap.size, 1, none⟩ = some (.int .u64 x.s) ∧ w'.cell? ⟨w.heap.size, 2, none⟩ = some (.int .i64 x.n) ∧ w'.cell? ⟨w.heap.size, 3, none⟩ = some (.string x.v)) (first | go_keep | exact ⟨y0, y1, y2, y3, y4, y5, y6, y7⟩) (first | (go_at_call 21; (with_reducible refine (CC.out _).mono ?_); rintro e wt ⟨rfl, hbt⟩; have y0 := (hbt.cell (p := ⟨g, k * 4, none⟩) hgy).trans z0; have y1 := (hbt.cell (p := ⟨g, k * 4 + 1, none⟩) hgy).trans z1; have y2 := (hbt.cell (p := ⟨g, k * 4 + 2, none⟩) hgy).trans z2; have y3 := (hbt.cell (p := ⟨g, k * 4 + 3, none⟩) hgy).trans z3; have y4 := (hbt.cell (p := ⟨w.heap.size, 0, none⟩) hby1).trans z4; have y5 := (hbt.cell (p := ⟨w.heap.size, 1, none⟩) hby1).trans z5; have y6 := (hbt.cell (p := ⟨w.heap.size, 2, none⟩) hby1).trans z6; have y7 := (hbt.cell (p := ⟨w.heap.size, 3, none⟩) hby1).trans z7) | fail)
          all_goals go_wp2
          all_goals go_ret2
          all_goals exact ⟨HBY.out.drew.trans (hbt.mono HBY.out.size), .inl ⟨HTH.out, rfl⟩⟩
        | false =>
          rw [hz0] at HTH
          go_region_held3 (fun w' => w'.cell? ⟨g, k * 4, none⟩ = some (.string y.k) ∧ w'.cell? ⟨g, k * 4 + 1, none⟩ = some (.int .u64 y.s) ∧ w'.cell? ⟨g, k * 4 + 2, none⟩ = some (.int .i64 y.n) ∧ w'.cell? ⟨g, k * 4 + 3, none⟩ = some (.string y.v) ∧ w'.cell? ⟨w.heap.size, 0, none⟩ = some (.string x.k) ∧ w'.cell? ⟨w.heap.size, 1, none⟩ = some (.int .u64 x.s) ∧ w'.cell? ⟨w.heap.size, 2, none⟩ = some (.int .i64 x.n) ∧ w'.cell? ⟨w.heap.size, 3, none⟩ = some (.string x.v)) (first | go_keep | exact ⟨y0, y1, y2, y3, y4, y5, y6, y7⟩) (first | (go_at_call 21; (with_reducible refine (CC.out _).mono ?_); rintro e wt ⟨rfl, hbt⟩; have y0 := (hbt.cell (p := ⟨g, k * 4, none⟩) hgy).trans z0; have y1 := (hbt.cell (p := ⟨g, k * 4 + 1, none⟩) hgy).trans z1; have y2 := (hbt.cell (p := ⟨g, k * 4 + 2, none⟩) hgy).trans z2; have y3 := (hbt.cell (p := ⟨g, k * 4 + 3, none⟩) hgy).trans z3; have y4 := (hbt.cell (p := ⟨w.heap.size, 0, none⟩) hby1).trans z4; have y5 := (hbt.cell (p := ⟨w.heap.size, 1, none⟩) hby1).trans z5; have y6 := (hbt.cell (p := ⟨w.heap.size, 2, none⟩) hby1).trans z6; have y7 := (hbt.cell (p := ⟨w.heap.size, 3, none⟩) hby1).trans z7) | fail)
          all_goals go_wp2_with fail
          have HBT := Lib.hid (HBY.out.drew.trans (hbt.mono HBY.out.size))
          have hgt : g < wt.heap.size := lt_of_cell y0
          have hxt : w.heap.size < wt.heap.size := lt_of_cell y4
          clear hbt y0 y1 y2 y3
          have hkc : (k : Int) ≤ (cap : Int) := by omega
          have hkc2 : k ≤ cap := by omega
          have hkl : (k : Int) ≤ (es.length : Int) := by omega
          obtain ⟨i0, hi, hz0', hzs, hzb⟩ := info_parts infoE5
          have hck : ¬ cap = k := by omega
          have HS1 := Lib.hid (show ∀ W', Below wt.heap.size wt W' → Src Tryz.prog 4 26 (.slice (some ⟨g, 0, none⟩) k cap) k (cellsE P) W' from fun W' hb => by
            have := src_part (w := W') (g := g) (l := es) (m := P) 0 cap (fun j u hu => by
              rw [Nat.zero_add]
              exact ((hb.cell (p := ⟨g, j, none⟩) hgt).trans (HRC.out wt HBT.out g rfl j u hu))) (by rw [← cellsE_take es P.length hpl, HC.out.all, List.take_left])
            rw [← HKK.out] at this
            exact this)
          have HS3 := Lib.hid (show ∀ W', Below wt.heap.size wt W' → Src Tryz.prog 4 26 (.slice (some ⟨g, k * 4, none⟩) (es.length - k) (cap - k)) (es.length - k) (cellsE Q) W' from fun W' hb => by
            have hq : es.length - k = Q.length := by rw [HKK.out, HEL.out]; omega
            have := src_part (w := W') (g := g) (l := Q) (m := Q) (k * 4) (cap - k) (fun j u hu => by
              refine (hb.cell (p := ⟨g, k * 4 + j, none⟩) hgt).trans (HRC.out wt HBT.out g rfl (k * 4 + j) u ?_)
              rw [HC.out.all, cellsE_append, List.getElem?_append_right (by rw [cellsE_length, HKK.out]; omega), cellsE_length, HKK.out]
              rw [show P.length * 4 + j - P.length * 4 = j by omega]
              exact hu) (by rw [← cellsE_length, List.take_length])
            rw [hq]
            exact this)
          have HBa := Lib.hid (show 0 + k ≤ maxLen by unfold maxLen; omega)
          have HBb := Lib.hid (show (0 + k) * 48 ≤ 140737488355328 by omega)
          have HBc := Lib.hid (show k + 1 ≤ maxLen by unfold maxLen; omega)
          have HBd := Lib.hid (show (k + 1) * 48 ≤ 140737488355328 by omega)
          have HBe := Lib.hid (show k + 1 + (es.length - k) ≤ maxLen by unfold maxLen; omega)
          have HBf := Lib.hid (show (k + 1 + (es.length - k)) * 48 ≤ 140737488355328 by omega)
          go_region_law (first | (refine step_append_row _ rfl (.const (.slice none 0 0)) (.tmp 38) 26 26 rfl 56 i0 _ 4 48 Tryz.underlying26 hi hz0' hzs hzb rfl (.slice none 0 0) 0 [] rfl (row_nil _ _ _) _ (by simp [Act.eval, Act.put]) k (cellsE P) (HS1.out _ ((Below.refl _ _).drew)) HBa.out HBb.out ?_; intro v1 w1 hrow1 hgrow1 hob1; have hB1 : Below wt.heap.size wt w1 := below_row ((Below.refl _ _).drew) (Nat.le_refl _) hgrow1 (fun b hb => none_ne hb); have hv1 : ∀ b, ob v1 = some b → wt.heap.size ≤ b := fun b hb => ob_new hob1 (Nat.le_refl _) (fun b hb => none_ne hb) b hb; rw [Nat.zero_add, List.nil_append] at hrow1; have f0 := (hB1.cell (p := ⟨w.heap.size, 0, none⟩) hxt).trans y4; have f1 := (hB1.cell (p := ⟨w.heap.size, 1, none⟩) hxt).trans y5; have f2 := (hB1.cell (p := ⟨w.heap.size, 2, none⟩) hxt).trans y6; have f3 := (hB1.cell (p := ⟨w.heap.size, 3, none⟩) hxt).trans y7) | (refine step_append_row _ rfl (.const (.slice none 0 0)) (.tmp 38) 26 26 rfl 56 i0 _ 4 48 Tryz.underlying26 hi hz0' hzs hzb rfl (.slice none 0 0) 0 [] rfl (row_nil _ _ _) _ (by simp [Act.eval]) k (cellsE P) (HS1.out _ (((Below.refl _ _).drew).alloc (Nat.le_refl _) _)) HBa.out HBb.out ?_; intro v1 w1 hrow1 hgrow1 hob1; have hB1 : Below wt.heap.size wt w1 := below_row (((Below.refl _ _).drew).alloc (Nat.le_refl _) _) (Nat.le_refl _) hgrow1 (fun b hb => none_ne hb); have hv1 : ∀ b, ob v1 = some b → wt.heap.size ≤ b := fun b hb => ob_new hob1 (by simp) (fun b hb => none_ne hb) b hb; rw [Nat.zero_add, List.nil_append] at hrow1; have hsx := (hgrow1.block wt.heap.size (by simp) (fun e => none_ne e.symm)).trans (new_block _ _ (by simp))) | (refine step_append_row _ rfl (.tmp 39) (.tmp 41) 26 26 rfl 56 i0 _ 4 48 Tryz.underlying26 hi hz0' hzs hzb rfl v1 k (cellsE P) (by simp [Act.eval]) (row_below hrow1 ((Below.refl _ _).alloc (Nat.le_refl _) _)) _ (by simp [Act.eval]) 1 [.string x.k, .int .u64 x.s, .int .i64 x.n, .string x.v] (src_new x _) HBc.out HBd.out ?_; intro v2 w2 hrow2 hgrow2 hob2; have hB2 : Below wt.heap.size wt w2 := below_row (hB1.alloc hB1.size _) (Nat.le_refl _) hgrow2 hv1; have hv2 : ∀ b, ob v2 = some b → wt.heap.size ≤ b := fun b hb => ob_new hob2 (by have := hB1.size; simp; omega) hv1 b hb) | (refine step_append_row _ rfl (.tmp 39) (.tmp 41) 26 26 rfl 56 i0 _ 4 48 Tryz.underlying26 hi hz0' hzs hzb rfl v1 k (cellsE P) (by simp [Act.eval]) hrow1 _ (by simp [Act.eval]) 1 [.string x.k, .int .u64 x.s, .int .i64 x.n, .string x.v] (src_at x hsx) HBc.out HBd.out ?_; intro v2 w2 hrow2 hgrow2 hob2; have hB2 : Below wt.heap.size wt w2 := below_row hB1 (Nat.le_refl _) hgrow2 hv1; have hv2 : ∀ b, ob v2 = some b → wt.heap.size ≤ b := fun b hb => ob_new hob2 hB1.size hv1 b hb) | (refine step_append_row _ rfl (.tmp 42) (.tmp 45) 26 26 rfl 56 i0 _ 4 48 Tryz.underlying26 hi hz0' hzs hzb rfl v2 (k + 1) (cellsE P ++ [.string x.k, .int .u64 x.s, .int .i64 x.n, .string x.v]) (by simp [Act.eval]) hrow2 _ (by simp [Act.eval]) (es.length - k) (cellsE Q) (HS3.out _ hB2) HBe.out HBf.out ?_; intro v3 w3 hrow3 hgrow3 hob3; have hB3 : Below wt.heap.size wt w3 := below_row hB2 (Nat.le_refl _) hgrow3 hv2; have hv3 : ∀ b, ob v3 = some b → wt.heap.size ≤ b := fun b hb => ob_new hob3 hB2.size hv2 b hb) | fail)
          all_goals go_wp2
          all_goals go_ret2
          all_goals
            refine ⟨HBT.out.trans (hB3.mono HBT.out.size), .inr ⟨HTH.out, v3, rfl, ?_, fun b hb => Nat.le_trans HBT.out.size (hv3 b hb)⟩⟩
            rw [show k + 1 + (es.length - k) = es.length + 1 by omega] at hrow3
            rw [show cellsE (P ++ x :: Q) = cellsE P ++ [.string x.k, .int .u64 x.s, .int .i64 x.n, .string x.v] ++ cellsE Q by rw [cellsE_append]; simp [cellsE, Ent.cells]]
            exact hrow3
    · have HKK2 := Lib.hid (show k = es.length by omega)
      have HKK := Lib.hid (show k = P.length by omega)
      have HQ := Lib.hid (show Q = [] from List.eq_nil_of_length_eq_zero (by have := HEL.out; omega))
      have HTH := Lib.hid (show thereE x Q = false by rw [HQ.out]; rfl)
      have dk : decide ((k : Int) < (es.length : Int)) = false := by simp; omega
      have dk2 : decide (k < es.length) = false := by simp; omega
      have HBW2 := Lib.hid hpl
      go_wp2
      go_quiet (fail)
      obtain ⟨wa, hwa⟩ : ∃ wa, wr.drewN nq = wa := ⟨_, rfl⟩
      have hba : Below w.heap.size w wa := by rw [← hwa]; exact belowN HBW.out _
      have hxa : Boxe w.heap.size x.k x.s x.n x.v wa := by rw [← hwa]; exact HXR.out
      rw [hwa]
      clear hwa b0 b1 b2 b3
      go_wp2_with fail
      go_quiet (fail)
      obtain ⟨wt, hwt⟩ : ∃ wt, wa.drewN nq = wt := ⟨_, rfl⟩
      have HBT := Lib.hid (show Below w.heap.size w wt by rw [← hwt]; exact belowN hba _)
      have hxt' : Boxe w.heap.size x.k x.s x.n x.v wt := by rw [← hwt]; exact hxa
      rw [hwt]
      clear hwt hba hxa
      have y4 := hxt'.c0
      have y5 := hxt'.c1
      have y6 := hxt'.c2
      have y7 := hxt'.c3
      have hxt : w.heap.size < wt.heap.size := hxt'.lt
      clear hxt'
      have hkc : (k : Int) ≤ (cap : Int) := by omega
      have hkc2 : k ≤ cap := by omega
      have hkl : (k : Int) ≤ (es.length : Int) := by omega
      obtain ⟨i0, hi, hz0', hzs, hzb⟩ := info_parts infoE5
      go_wp2_with fail
      rcases row_own HR.out HV0.out with ⟨hnil, hes⟩ | ⟨g, c', hsome, -, -, hg0, -⟩
      · have HE0 := Lib.hid hes
        have HP0 := Lib.hid (show P = [] from List.eq_nil_of_length_eq_zero (by have := HEL.out; rw [hes] at this; simp at this; omega))
        have hk0 : k = 0 := by rw [HKK2.out, hes]; rfl
        subst hk0
        rw [hes] at hnil
        rw [hes]
        simp only [Value.slice.injEq] at hnil
        obtain ⟨rfl, -, rfl⟩ := hnil
        clear hes
        have HS1 := Lib.hid (show ∀ W', Below wt.heap.size wt W' → Src Tryz.prog 4 26 (.slice none 0 0) 0 (cellsE P) W' from fun W' _ => by rw [HP0.out]; exact Src.ofNil _ Tryz.underlying26 0)
        have HS3 := Lib.hid (show ∀ W', Below wt.heap.size wt W' → Src Tryz.prog 4 26 (.slice none 0 0) 0 (cellsE Q) W' from fun W' _ => by rw [HQ.out]; exact Src.ofNil _ Tryz.underlying26 0)
        have HBa := Lib.hid (show 0 + 0 ≤ maxLen by unfold maxLen; omega)
        have HBb := Lib.hid (show (0 + 0) * 48 ≤ 140737488355328 by omega)
        have HBc := Lib.hid (show 0 + 1 ≤ maxLen by unfold maxLen; omega)
        have HBd := Lib.hid (show (0 + 1) * 48 ≤ 140737488355328 by omega)
        have HBe := Lib.hid (show 0 + 1 + 0 ≤ maxLen by unfold maxLen; omega)
        have HBf := Lib.hid (show (0 + 1 + 0) * 48 ≤ 140737488355328 by omega)
        go_region_law (first | (refine step_append_row _ rfl (.const (.slice none 0 0)) (.tmp 38) 26 26 rfl 56 i0 _ 4 48 Tryz.underlying26 hi hz0' hzs hzb rfl (.slice none 0 0) 0 [] rfl (row_nil _ _ _) _ (by simp [Act.eval, Act.put]) 0 (cellsE P) (HS1.out _ ((Below.refl _ _).drew)) HBa.out HBb.out ?_; intro v1 w1 hrow1 hgrow1 hob1; have hB1 : Below wt.heap.size wt w1 := below_row ((Below.refl _ _).drew) (Nat.le_refl _) hgrow1 (fun b hb => none_ne hb); have hv1 : ∀ b, ob v1 = some b → wt.heap.size ≤ b := fun b hb => ob_new hob1 (Nat.le_refl _) (fun b hb => none_ne hb) b hb; rw [Nat.zero_add, List.nil_append] at hrow1; have f0 := (hB1.cell (p := ⟨w.heap.size, 0, none⟩) hxt).trans y4; have f1 := (hB1.cell (p := ⟨w.heap.size, 1, none⟩) hxt).trans y5; have f2 := (hB1.cell (p := ⟨w.heap.size, 2, none⟩) hxt).trans y6; have f3 := (hB1.cell (p := ⟨w.heap.size, 3, none⟩) hxt).trans y7) | (refine step_append_row _ rfl (.const (.slice none 0 0)) (.tmp 38) 26 26 rfl 56 i0 _ 4 48 Tryz.underlying26 hi hz0' hzs hzb rfl (.slice none 0 0) 0 [] rfl (row_nil _ _ _) _ (by simp [Act.eval]) 0 (cellsE P) (HS1.out _ (((Below.refl _ _).drew).alloc (Nat.le_refl _) _)) HBa.out HBb.out ?_; intro v1 w1 hrow1 hgrow1 hob1; have hB1 : Below wt.heap.size wt w1 := below_row (((Below.refl _ _).drew).alloc (Nat.le_refl _) _) (Nat.le_refl _) hgrow1 (fun b hb => none_ne hb); have hv1 : ∀ b, ob v1 = some b → wt.heap.size ≤ b := fun b hb => ob_new hob1 (by simp) (fun b hb => none_ne hb) b hb; rw [Nat.zero_add, List.nil_append] at hrow1; have hsx := (hgrow1.block wt.heap.size (by simp) (fun e => none_ne e.symm)).trans (new_block _ _ (by simp))) | (refine step_append_row _ rfl (.tmp 39) (.tmp 41) 26 26 rfl 56 i0 _ 4 48 Tryz.underlying26 hi hz0' hzs hzb rfl v1 0 (cellsE P) (by simp [Act.eval]) (row_below hrow1 ((Below.refl _ _).alloc (Nat.le_refl _) _)) _ (by simp [Act.eval]) 1 [.string x.k, .int .u64 x.s, .int .i64 x.n, .string x.v] (src_new x _) HBc.out HBd.out ?_; intro v2 w2 hrow2 hgrow2 hob2; have hB2 : Below wt.heap.size wt w2 := below_row (hB1.alloc hB1.size _) (Nat.le_refl _) hgrow2 hv1; have hv2 : ∀ b, ob v2 = some b → wt.heap.size ≤ b := fun b hb => ob_new hob2 (by have := hB1.size; simp; omega) hv1 b hb) | (refine step_append_row _ rfl (.tmp 39) (.tmp 41) 26 26 rfl 56 i0 _ 4 48 Tryz.underlying26 hi hz0' hzs hzb rfl v1 0 (cellsE P) (by simp [Act.eval]) hrow1 _ (by simp [Act.eval]) 1 [.string x.k, .int .u64 x.s, .int .i64 x.n, .string x.v] (src_at x hsx) HBc.out HBd.out ?_; intro v2 w2 hrow2 hgrow2 hob2; have hB2 : Below wt.heap.size wt w2 := below_row hB1 (Nat.le_refl _) hgrow2 hv1; have hv2 : ∀ b, ob v2 = some b → wt.heap.size ≤ b := fun b hb => ob_new hob2 hB1.size hv1 b hb) | (refine step_append_row _ rfl (.tmp 42) (.tmp 45) 26 26 rfl 56 i0 _ 4 48 Tryz.underlying26 hi hz0' hzs hzb rfl v2 (0 + 1) (cellsE P ++ [.string x.k, .int .u64 x.s, .int .i64 x.n, .string x.v]) (by simp [Act.eval]) hrow2 _ (by simp [Act.eval]) 0 (cellsE Q) (HS3.out _ hB2) HBe.out HBf.out ?_; intro v3 w3 hrow3 hgrow3 hob3; have hB3 : Below wt.heap.size wt w3 := below_row hB2 (Nat.le_refl _) hgrow3 hv2; have hv3 : ∀ b, ob v3 = some b → wt.heap.size ≤ b := fun b hb => ob_new hob3 hB2.size hv2 b hb) | fail)
        all_goals go_wp2
        all_goals go_ret2
        all_goals
          refine ⟨HBT.out.trans (hB3.mono HBT.out.size), .inr ⟨HTH.out, v3, rfl, ?_, fun b hb => Nat.le_trans HBT.out.size (hv3 b hb)⟩⟩
          rw [show 0 + 1 + 0 = es.length + 1 by rw [HE0.out]; rfl] at hrow3
          rw [show cellsE (P ++ x :: Q) = cellsE P ++ [.string x.k, .int .u64 x.s, .int .i64 x.n, .string x.v] ++ cellsE Q by rw [cellsE_append]; simp [cellsE, Ent.cells]]
          exact hrow3
      · cases hsome
        have hgt : g < wt.heap.size := Nat.lt_of_lt_of_le hg0 HBT.out.size
        by_cases hck : cap = k
        · have hif : (if cap = k then (some ⟨g, 0, none⟩ : Option Addr) else some ⟨g, k * 4, none⟩) = some ⟨g, 0, none⟩ := if_pos hck
          clear hck
          have HS1 := Lib.hid (show ∀ W', Below wt.heap.size wt W' → Src Tryz.prog 4 26 (.slice (some ⟨g, 0, none⟩) k cap) k (cellsE P) W' from fun W' hb => by
            have := src_part (w := W') (g := g) (l := es) (m := P) 0 cap (fun j u hu => by
              rw [Nat.zero_add]
              exact ((hb.cell (p := ⟨g, j, none⟩) hgt).trans (HRC.out wt HBT.out g rfl j u hu))) (by rw [← cellsE_take es P.length hpl, HC.out.all, List.take_left])
            rw [← HKK.out] at this
            exact this)
          have HS3 := Lib.hid (show ∀ (oo : Nat) W', Below wt.heap.size wt W' → Src Tryz.prog 4 26 (.slice (some ⟨g, oo, none⟩) (es.length - k) (cap - k)) (es.length - k) (cellsE Q) W' from fun oo W' _ => by
            have hq : es.length - k = 0 := by rw [HKK2.out]; omega
            rw [hq, HQ.out]
            exact Src.ofSlice (P := Tryz.prog) _ (size := 4) Tryz.underlying26 ⟨g, oo, none⟩ 0 _ _ rfl (fun j u hu => by cases hu) (by simp [cellsE]))
          have HBa := Lib.hid (show 0 + k ≤ maxLen by unfold maxLen; omega)
          have HBb := Lib.hid (show (0 + k) * 48 ≤ 140737488355328 by omega)
          have HBc := Lib.hid (show k + 1 ≤ maxLen by unfold maxLen; omega)
          have HBd := Lib.hid (show (k + 1) * 48 ≤ 140737488355328 by omega)
          have HBe := Lib.hid (show k + 1 + (es.length - k) ≤ maxLen by unfold maxLen; omega)
          have HBf := Lib.hid (show (k + 1 + (es.length - k)) * 48 ≤ 140737488355328 by omega)
          go_region_law (first | (refine step_append_row _ rfl (.const (.slice none 0 0)) (.tmp 38) 26 26 rfl 56 i0 _ 4 48 Tryz.underlying26 hi hz0' hzs hzb rfl (.slice none 0 0) 0 [] rfl (row_nil _ _ _) _ (by simp [Act.eval, Act.put]) k (cellsE P) (HS1.out _ ((Below.refl _ _).drew)) HBa.out HBb.out ?_; intro v1 w1 hrow1 hgrow1 hob1; have hB1 : Below wt.heap.size wt w1 := below_row ((Below.refl _ _).drew) (Nat.le_refl _) hgrow1 (fun b hb => none_ne hb); have hv1 : ∀ b, ob v1 = some b → wt.heap.size ≤ b := fun b hb => ob_new hob1 (Nat.le_refl _) (fun b hb => none_ne hb) b hb; rw [Nat.zero_add, List.nil_append] at hrow1; have f0 := (hB1.cell (p := ⟨w.heap.size, 0, none⟩) hxt).trans y4; have f1 := (hB1.cell (p := ⟨w.heap.size, 1, none⟩) hxt).trans y5; have f2 := (hB1.cell (p := ⟨w.heap.size, 2, none⟩) hxt).trans y6; have f3 := (hB1.cell (p := ⟨w.heap.size, 3, none⟩) hxt).trans y7) | (refine step_append_row _ rfl (.const (.slice none 0 0)) (.tmp 38) 26 26 rfl 56 i0 _ 4 48 Tryz.underlying26 hi hz0' hzs hzb rfl (.slice none 0 0) 0 [] rfl (row_nil _ _ _) _ (by simp [Act.eval]) k (cellsE P) (HS1.out _ (((Below.refl _ _).drew).alloc (Nat.le_refl _) _)) HBa.out HBb.out ?_; intro v1 w1 hrow1 hgrow1 hob1; have hB1 : Below wt.heap.size wt w1 := below_row (((Below.refl _ _).drew).alloc (Nat.le_refl _) _) (Nat.le_refl _) hgrow1 (fun b hb => none_ne hb); have hv1 : ∀ b, ob v1 = some b → wt.heap.size ≤ b := fun b hb => ob_new hob1 (by simp) (fun b hb => none_ne hb) b hb; rw [Nat.zero_add, List.nil_append] at hrow1; have hsx := (hgrow1.block wt.heap.size (by simp) (fun e => none_ne e.symm)).trans (new_block _ _ (by simp))) | (refine step_append_row _ rfl (.tmp 39) (.tmp 41) 26 26 rfl 56 i0 _ 4 48 Tryz.underlying26 hi hz0' hzs hzb rfl v1 k (cellsE P) (by simp [Act.eval]) (row_below hrow1 ((Below.refl _ _).alloc (Nat.le_refl _) _)) _ (by simp [Act.eval]) 1 [.string x.k, .int .u64 x.s, .int .i64 x.n, .string x.v] (src_new x _) HBc.out HBd.out ?_; intro v2 w2 hrow2 hgrow2 hob2; have hB2 : Below wt.heap.size wt w2 := below_row (hB1.alloc hB1.size _) (Nat.le_refl _) hgrow2 hv1; have hv2 : ∀ b, ob v2 = some b → wt.heap.size ≤ b := fun b hb => ob_new hob2 (by have := hB1.size; simp; omega) hv1 b hb) | (refine step_append_row _ rfl (.tmp 39) (.tmp 41) 26 26 rfl 56 i0 _ 4 48 Tryz.underlying26 hi hz0' hzs hzb rfl v1 k (cellsE P) (by simp [Act.eval]) hrow1 _ (by simp [Act.eval]) 1 [.string x.k, .int .u64 x.s, .int .i64 x.n, .string x.v] (src_at x hsx) HBc.out HBd.out ?_; intro v2 w2 hrow2 hgrow2 hob2; have hB2 : Below wt.heap.size wt w2 := below_row hB1 (Nat.le_refl _) hgrow2 hv1; have hv2 : ∀ b, ob v2 = some b → wt.heap.size ≤ b := fun b hb => ob_new hob2 hB1.size hv1 b hb) | (refine step_append_row _ rfl (.tmp 42) (.tmp 45) 26 26 rfl 56 i0 _ 4 48 Tryz.underlying26 hi hz0' hzs hzb rfl v2 (k + 1) (cellsE P ++ [.string x.k, .int .u64 x.s, .int .i64 x.n, .string x.v]) (by simp [Act.eval]) hrow2 _ (by simp [Act.eval]) (es.length - k) (cellsE Q) (HS3.out 0 _ hB2) HBe.out HBf.out ?_; intro v3 w3 hrow3 hgrow3 hob3; have hB3 : Below wt.heap.size wt w3 := below_row hB2 (Nat.le_refl _) hgrow3 hv2; have hv3 : ∀ b, ob v3 = some b → wt.heap.size ≤ b := fun b hb => ob_new hob3 hB2.size hv2 b hb) | fail)
          all_goals go_wp2
          all_goals go_ret2
          all_goals
            refine ⟨HBT.out.trans (hB3.mono HBT.out.size), .inr ⟨HTH.out, v3, rfl, ?_, fun b hb => Nat.le_trans HBT.out.size (hv3 b hb)⟩⟩
            rw [show k + 1 + (es.length - k) = es.length + 1 by omega] at hrow3
            rw [show cellsE (P ++ x :: Q) = cellsE P ++ [.string x.k, .int .u64 x.s, .int .i64 x.n, .string x.v] ++ cellsE Q by rw [cellsE_append]; simp [cellsE, Ent.cells]]
            exact hrow3
        · skip
          have HS1 := Lib.hid (show ∀ W', Below wt.heap.size wt W' → Src Tryz.prog 4 26 (.slice (some ⟨g, 0, none⟩) k cap) k (cellsE P) W' from fun W' hb => by
            have := src_part (w := W') (g := g) (l := es) (m := P) 0 cap (fun j u hu => by
              rw [Nat.zero_add]
              exact ((hb.cell (p := ⟨g, j, none⟩) hgt).trans (HRC.out wt HBT.out g rfl j u hu))) (by rw [← cellsE_take es P.length hpl, HC.out.all, List.take_left])
            rw [← HKK.out] at this
            exact this)
          have HS3 := Lib.hid (show ∀ (oo : Nat) W', Below wt.heap.size wt W' → Src Tryz.prog 4 26 (.slice (some ⟨g, oo, none⟩) (es.length - k) (cap - k)) (es.length - k) (cellsE Q) W' from fun oo W' _ => by
            have hq : es.length - k = 0 := by rw [HKK2.out]; omega
            rw [hq, HQ.out]
            exact Src.ofSlice (P := Tryz.prog) _ (size := 4) Tryz.underlying26 ⟨g, oo, none⟩ 0 _ _ rfl (fun j u hu => by cases hu) (by simp [cellsE]))
          have HBa := Lib.hid (show 0 + k ≤ maxLen by unfold maxLen; omega)
          have HBb := Lib.hid (show (0 + k) * 48 ≤ 140737488355328 by omega)
          have HBc := Lib.hid (show k + 1 ≤ maxLen by unfold maxLen; omega)
          have HBd := Lib.hid (show (k + 1) * 48 ≤ 140737488355328 by omega)
          have HBe := Lib.hid (show k + 1 + (es.length - k) ≤ maxLen by unfold maxLen; omega)
          have HBf := Lib.hid (show (k + 1 + (es.length - k)) * 48 ≤ 140737488355328 by omega)
          go_region_law (first | (refine step_append_row _ rfl (.const (.slice none 0 0)) (.tmp 38) 26 26 rfl 56 i0 _ 4 48 Tryz.underlying26 hi hz0' hzs hzb rfl (.slice none 0 0) 0 [] rfl (row_nil _ _ _) _ (by simp [Act.eval, Act.put]) k (cellsE P) (HS1.out _ ((Below.refl _ _).drew)) HBa.out HBb.out ?_; intro v1 w1 hrow1 hgrow1 hob1; have hB1 : Below wt.heap.size wt w1 := below_row ((Below.refl _ _).drew) (Nat.le_refl _) hgrow1 (fun b hb => none_ne hb); have hv1 : ∀ b, ob v1 = some b → wt.heap.size ≤ b := fun b hb => ob_new hob1 (Nat.le_refl _) (fun b hb => none_ne hb) b hb; rw [Nat.zero_add, List.nil_append] at hrow1; have f0 := (hB1.cell (p := ⟨w.heap.size, 0, none⟩) hxt).trans y4; have f1 := (hB1.cell (p := ⟨w.heap.size, 1, none⟩) hxt).trans y5; have f2 := (hB1.cell (p := ⟨w.heap.size, 2, none⟩) hxt).trans y6; have f3 := (hB1.cell (p := ⟨w.heap.size, 3, none⟩) hxt).trans y7) | (refine step_append_row _ rfl (.const (.slice none 0 0)) (.tmp 38) 26 26 rfl 56 i0 _ 4 48 Tryz.underlying26 hi hz0' hzs hzb rfl (.slice none 0 0) 0 [] rfl (row_nil _ _ _) _ (by simp [Act.eval]) k (cellsE P) (HS1.out _ (((Below.refl _ _).drew).alloc (Nat.le_refl _) _)) HBa.out HBb.out ?_; intro v1 w1 hrow1 hgrow1 hob1; have hB1 : Below wt.heap.size wt w1 := below_row (((Below.refl _ _).drew).alloc (Nat.le_refl _) _) (Nat.le_refl _) hgrow1 (fun b hb => none_ne hb); have hv1 : ∀ b, ob v1 = some b → wt.heap.size ≤ b := fun b hb => ob_new hob1 (by simp) (fun b hb => none_ne hb) b hb; rw [Nat.zero_add, List.nil_append] at hrow1; have hsx := (hgrow1.block wt.heap.size (by simp) (fun e => none_ne e.symm)).trans (new_block _ _ (by simp))) | (refine step_append_row _ rfl (.tmp 39) (.tmp 41) 26 26 rfl 56 i0 _ 4 48 Tryz.underlying26 hi hz0' hzs hzb rfl v1 k (cellsE P) (by simp [Act.eval]) (row_below hrow1 ((Below.refl _ _).alloc (Nat.le_refl _) _)) _ (by simp [Act.eval]) 1 [.string x.k, .int .u64 x.s, .int .i64 x.n, .string x.v] (src_new x _) HBc.out HBd.out ?_; intro v2 w2 hrow2 hgrow2 hob2; have hB2 : Below wt.heap.size wt w2 := below_row (hB1.alloc hB1.size _) (Nat.le_refl _) hgrow2 hv1; have hv2 : ∀ b, ob v2 = some b → wt.heap.size ≤ b := fun b hb => ob_new hob2 (by have := hB1.size; simp; omega) hv1 b hb) | (refine step_append_row _ rfl (.tmp 39) (.tmp 41) 26 26 rfl 56 i0 _ 4 48 Tryz.underlying26 hi hz0' hzs hzb rfl v1 k (cellsE P) (by simp [Act.eval]) hrow1 _ (by simp [Act.eval]) 1 [.string x.k, .int .u64 x.s, .int .i64 x.n, .string x.v] (src_at x hsx) HBc.out HBd.out ?_; intro v2 w2 hrow2 hgrow2 hob2; have hB2 : Below wt.heap.size wt w2 := below_row hB1 (Nat.le_refl _) hgrow2 hv1; have hv2 : ∀ b, ob v2 = some b → wt.heap.size ≤ b := fun b hb => ob_new hob2 hB1.size hv1 b hb) | (refine step_append_row _ rfl (.tmp 42) (.tmp 45) 26 26 rfl 56 i0 _ 4 48 Tryz.underlying26 hi hz0' hzs hzb rfl v2 (k + 1) (cellsE P ++ [.string x.k, .int .u64 x.s, .int .i64 x.n, .string x.v]) (by simp [Act.eval]) hrow2 _ (by simp [Act.eval]) (es.length - k) (cellsE Q) (HS3.out (k * 4) _ hB2) HBe.out HBf.out ?_; intro v3 w3 hrow3 hgrow3 hob3; have hB3 : Below wt.heap.size wt w3 := below_row hB2 (Nat.le_refl _) hgrow3 hv2; have hv3 : ∀ b, ob v3 = some b → wt.heap.size ≤ b := fun b hb => ob_new hob3 hB2.size hv2 b hb) | fail)
          all_goals go_wp2
          all_goals go_ret2
          all_goals
            refine ⟨HBT.out.trans (hB3.mono HBT.out.size), .inr ⟨HTH.out, v3, rfl, ?_, fun b hb => Nat.le_trans HBT.out.size (hv3 b hb)⟩⟩
            rw [show k + 1 + (es.length - k) = es.length + 1 by omega] at hrow3
            rw [show cellsE (P ++ x :: Q) = cellsE P ++ [.string x.k, .int .u64 x.s, .int .i64 x.n, .string x.v] ++ cellsE Q by rw [cellsE_append]; simp [cellsE, Ent.cells]]
            exact hrow3
end Go.Proofs.YtcbailiniigcnaaGreat

namespace Go.Proofs.YtcbailiniigcnaaGreat
open Go.RowKit Go.Lib

def Ord (es : List Ent) : Prop := ∀ i j, i < j → j < es.length → cmpE (es.getD i Ent.zero).k (es.getD i Ent.zero).s (es.getD j Ent.zero).k (es.getD j Ent.zero).s = -1
theorem ord_of {es : List Ent} (h : ∀ j, 0 < j → j < es.length → cmpE (es.getD (j - 1) Ent.zero).k (es.getD (j - 1) Ent.zero).s (es.getD j Ent.zero).k (es.getD j Ent.zero).s = -1) : Ord es := by
  intro i j hij hj
  induction j with
  | zero => omega
  | succ j ih =>
    have h1 := h (j + 1) (by omega) hj
    rw [Nat.add_sub_cancel] at h1
    by_cases he : i = j
    · rw [he]; exact h1
    · exact cmpE_trans _ _ _ _ _ _ (ih (by omega) (by omega)) h1
set_option maxHeartbeats 4000000 in
set_option maxRecDepth 100000 in
theorem ordered_any {w : World} (a : Option Addr) (len cap : Nat) (es : List Ent) (hE : EntsAt w.heap.size w a len es) (hlm : len ≤ 1000000) (hok : ∀ x ∈ es, x.Ok) :
    Calls Tryz.prog 6 #[.slice a len cap] w fun e w' => ∃ t : Bool, e = .returned (.bool t) ∧ (t = true → Ord es) ∧ Below w.heap.size w w' := by
  have hll : es.length = len := hE.1
  have HO := Lib.hid hE
  have HOK := Lib.hid hok
  clear hE hok
  go_enter Tryz.func6, Tryz.ntmps6
  go_wp2
  go_loopw [3] (fun iv wr => ∃ i : Nat, iv = .int .i64 ((i + 1 : Nat) : Int) ∧ i ≤ len ∧ (∀ j, 0 < j → j < i + 1 → j < len → cmpE (es.getD (j - 1) Ent.zero).k (es.getD (j - 1) Ent.zero).s (es.getD j Ent.zero).k (es.getD j Ent.zero).s = -1) ∧ Below w.heap.size w wr) (fun iv _ => len + 1 - (RowKit.intOf iv).toNat)
  case atStart => exact ⟨0, rfl, Nat.zero_le _, fun j h1 h2 => by omega, Below.refl _ _⟩
  case round =>
    obtain ⟨i, rfl, hi, hadj, hbl⟩ := hrel
    have HA := Lib.hid hadj
    have HBL := Lib.hid hbl
    clear hadj
    obtain ⟨m, hm⟩ : ∃ m, m = i + 1 := ⟨_, rfl⟩
    rw [← hm]
    by_cases hlt : i + 1 < len
    · obtain ⟨b, off, rfl, hblt, HCE⟩ : ∃ b off, a = some ⟨b, off, none⟩ ∧ b < w.heap.size ∧ ∀ i, i < len → ∃ x : Ent, es[i]? = some x ∧ ∀ j u, x.cells[j]? = some u → wr.cell? ⟨b, off + i * 4 + j, none⟩ = some u := by
        rcases (HO.out.below hbl).2 with h0 | ⟨b, off, e, h1, h2⟩
        · omega
        · exact ⟨b, off, e, h1, fun i hi => ⟨es[i]'(by omega), List.getElem?_eq_getElem (by omega), h2 i (by omega)⟩⟩
      obtain ⟨⟨K, SQ, NN, V⟩, hg1, hc1⟩ := HCE i (by omega)
      obtain ⟨⟨K', SQ', NN', V'⟩, hg2, hc2⟩ := HCE (i + 1) hlt
      obtain ⟨o1, -⟩ := HOK.out _ (List.mem_of_getElem? hg1)
      obtain ⟨o2, -⟩ := HOK.out _ (List.mem_of_getElem? hg2)
      dsimp only at o1 o2
      unfold maxLen at o1 o2
      have p0 : wr.cell? ⟨b, off + i * 4, none⟩ = some (.string K) := hc1 0 _ rfl
      have p1 : wr.cell? ⟨b, off + i * 4 + 1, none⟩ = some (.int .u64 SQ) := hc1 1 _ rfl
      have p2 : wr.cell? ⟨b, off + i * 4 + 2, none⟩ = some (.int .i64 NN) := hc1 2 _ rfl
      have p3 : wr.cell? ⟨b, off + i * 4 + 3, none⟩ = some (.string V) := hc1 3 _ rfl
      have q0 : wr.cell? ⟨b, off + m * 4, none⟩ = some (.string K') := by rw [hm]; exact hc2 0 _ rfl
      have q1 : wr.cell? ⟨b, off + m * 4 + 1, none⟩ = some (.int .u64 SQ') := by rw [hm]; exact hc2 1 _ rfl
      have q2 : wr.cell? ⟨b, off + m * 4 + 2, none⟩ = some (.int .i64 NN') := by rw [hm]; exact hc2 2 _ rfl
      have q3 : wr.cell? ⟨b, off + m * 4 + 3, none⟩ = some (.string V') := by rw [hm]; exact hc2 3 _ rfl
      have hgi : es.getD i Ent.zero = ⟨K, SQ, NN, V⟩ := by rw [List.getD_eq_getElem?_getD, hg1]; rfl
      have hgj : es.getD (i + 1) Ent.zero = ⟨K', SQ', NN', V'⟩ := by rw [List.getD_eq_getElem?_getD, hg2]; rfl
      have HST := Lib.hid (show cmpE K SQ K' SQ' = -1 → ∀ j, 0 < j → j < i + 2 → j < len → cmpE (es.getD (j - 1) Ent.zero).k (es.getD (j - 1) Ent.zero).s (es.getD j Ent.zero).k (es.getD j Ent.zero).s = -1 from fun h j j0 j1 j2 => by
        by_cases hj : j < i + 1
        · exact HA.out j j0 hj j2
        · obtain rfl : j = i + 1 := by omega
          rw [Nat.add_sub_cancel, hgi, hgj]
          exact h)
      have CC := Lib.hid (fun W => cmp5_any K SQ NN V K' SQ' NN' V' W (by omega) (by omega))
      have HV := cmpE_vals K SQ K' SQ'
      generalize cmpE K SQ K' SQ' = X at *
      have hil : (m : Int) < (len : Int) := by omega
      have hil3 : (i : Int) < (len : Int) := by omega
      have hij : (m : Int) - 1 = (i : Int) := by omega
      have hwr : IntKind.i64.wrap ((m : Int) - 1) = (i : Int) := by rw [IntKind.wrap_i64]; omega
      have hw3 : IntKind.i64.wrap (i : Int) = (i : Int) := by rw [IntKind.wrap_i64]; omega
      have HM := Lib.hid hm
      clear hm
      clear HCE hc1 hc2 hg1 hg2 hgi hgj
      cases hd : decide (0 ≤ X) with
      | true =>
        clear HV
        go_wp2
        go_region_held3 (fun w' => w'.cell? ⟨b, off + i * 4, none⟩ = some (.string K) ∧ w'.cell? ⟨b, off + i * 4 + 1, none⟩ = some (.int .u64 SQ) ∧ w'.cell? ⟨b, off + i * 4 + 2, none⟩ = some (.int .i64 NN) ∧ w'.cell? ⟨b, off + i * 4 + 3, none⟩ = some (.string V) ∧ w'.cell? ⟨b, off + m * 4, none⟩ = some (.string K') ∧ w'.cell? ⟨b, off + m * 4 + 1, none⟩ = some (.int .u64 SQ') ∧ w'.cell? ⟨b, off + m * 4 + 2, none⟩ = some (.int .i64 NN') ∧ w'.cell? ⟨b, off + m * 4 + 3, none⟩ = some (.string V')) (first | assumption | exact ⟨p0, p1, p2, p3, q0, q1, q2, q3⟩ | exact ⟨kk _ _ p0, kk _ _ p1, kk _ _ p2, kk _ _ p3, kk _ _ q0, kk _ _ q1, kk _ _ q2, kk _ _ q3⟩) (first | (go_at_call 21; (with_reducible refine (CC.out _).mono ?_); rintro e w1 ⟨rfl, hb1⟩; have kk : ∀ p v, wr.cell? p = some v → w1.cell? p = some v := fun p v h => (hb1.cell (World.block_lt_of_cell? wr _ h)).trans h) | fail)
        all_goals go_wp2
        all_goals go_ret
        all_goals exact ⟨false, rfl, fun h => (by cases h), hbl.drew.trans (hb1.mono hbl.size)⟩
      | false =>
        have hx : X = -1 := by
          have := of_decide_eq_false hd
          omega
        have HX := Lib.hid hx
        clear hx HV
        go_wp2
        go_region_held3 (fun w' => w'.cell? ⟨b, off + i * 4, none⟩ = some (.string K) ∧ w'.cell? ⟨b, off + i * 4 + 1, none⟩ = some (.int .u64 SQ) ∧ w'.cell? ⟨b, off + i * 4 + 2, none⟩ = some (.int .i64 NN) ∧ w'.cell? ⟨b, off + i * 4 + 3, none⟩ = some (.string V) ∧ w'.cell? ⟨b, off + m * 4, none⟩ = some (.string K') ∧ w'.cell? ⟨b, off + m * 4 + 1, none⟩ = some (.int .u64 SQ') ∧ w'.cell? ⟨b, off + m * 4 + 2, none⟩ = some (.int .i64 NN') ∧ w'.cell? ⟨b, off + m * 4 + 3, none⟩ = some (.string V')) (first | assumption | exact ⟨p0, p1, p2, p3, q0, q1, q2, q3⟩ | exact ⟨kk _ _ p0, kk _ _ p1, kk _ _ p2, kk _ _ p3, kk _ _ q0, kk _ _ q1, kk _ _ q2, kk _ _ q3⟩) (first | (go_at_call 21; (with_reducible refine (CC.out _).mono ?_); rintro e w1 ⟨rfl, hb1⟩; have kk : ∀ p v, wr.cell? p = some v → w1.cell? p = some v := fun p v h => (hb1.cell (World.block_lt_of_cell? wr _ h)).trans h) | fail)
        all_goals go_wp2
        all_goals go_roundw
        all_goals first
          | exact ⟨i + 1, by rw [HM.out]; go_num, by omega, HST.out HX.out, hbl.drew.trans (hb1.mono hbl.size)⟩
          | (have := HM.out; simp only [RowKit.intOf]; omega)
    · have d1 : decide ((m : Int) < (len : Int)) = false := by simp; omega
      go_wp2
      go_ret
      exact ⟨true, rfl, fun _ => ord_of (fun j h1 h2 => HA.out j h1 (by omega) (by omega)), HBL.out⟩
end Go.Proofs.YtcbailiniigcnaaGreat
