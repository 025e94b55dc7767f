/- wal: nil logs, lists of writes that came in, GetBatch of no bytes, a log beside failures, and the walk of WalWhole. -/
import Derived.Test.YtkeepjlidonadaaGreatWO
import Derived.Test.YtkeepjlidonadaaGreatWQ
import Derived.Deep.Slices
import Derived.Deep.SlicePairs
import Derived.ProofKit
import Derived.ChangeOld
import Derived.OpenShut
import Derived.Test.YtkeepjlidonadaaGreatWG
import Derived.Deep.QuietTactic
import Derived.Deep.CutBlock
import Derived.Deep.CutRange
namespace Go.Proofs.YtkeepjlidonadaaGreat
open Go.RowKit

/-- A zero log. -/
def LogZ (w : World) (L : Nat) : Prop := w.heap[L]? = some (.cells #[.pointer none, .int .i64 0, .int .i64 0, .bool false] 97)
theorem LogZ.c {w : World} {L : Nat} (h : LogZ w L) (j : Nat) (v : Value) (hj : (#[.pointer none, .int .i64 0, .int .i64 0, .bool false] : Array Value)[j]? = some v) : w.cell? ⟨L, j, none⟩ = some v := by
  unfold World.cell?; rw [show w.heap[L]? = _ from h]; exact hj
theorem LogZ.below {w w' : World} {L : Nat} (h : LogZ w L) (hb : Below w.heap.size w w') : LogZ w' L := (hb.block L (Array.getElem?_eq_some_iff.1 h).1).trans h
set_option maxHeartbeats 1000000 in
theorem refuses_nil (w : World) : Calls Tryz.prog 135 #[.pointer none] w fun e w' => e = .returned (.int .i64 1) ∧ w = w' := by
  go_enter Tryz.func135, Tryz.ntmps135
  go_wp2
  go_ret
  exact ⟨rfl, rfl⟩
set_option maxHeartbeats 1000000 in
theorem refuses_zero (L : Nat) (w : World) (h : LogZ w L) : Calls Tryz.prog 135 #[.pointer (some ⟨L, 0, none⟩)] w fun e w' => e = .returned (.int .i64 1) ∧ w = w' := by
  have c0 := h.c 0 _ rfl
  go_enter Tryz.func135, Tryz.ntmps135
  go_wp2
  go_ret
  exact ⟨rfl, rfl⟩
set_option maxHeartbeats 1000000 in
theorem add_none (pv : Value) (first : Int) (v : Value) (w : World) (CR : Calls Tryz.prog 135 #[pv] w fun e w' => e = .returned (.int .i64 1) ∧ w = w') :
    Calls Tryz.prog 26 #[pv, .int .u64 first, v] w fun e w' => e = .returned (.int .i64 1) ∧ w = w' := by
  have CR := Lib.hid CR
  go_enter Tryz.func26, Tryz.ntmps26
  go_wp2_with (go_at_call 135; refine CR.out.mono ?_; rintro _ _ ⟨rfl, rfl⟩)
  go_ret
  exact ⟨rfl, rfl⟩
set_option maxHeartbeats 1000000 in
theorem sync_none (pv : Value) (w : World) (CR : Calls Tryz.prog 135 #[pv] w fun e w' => e = .returned (.int .i64 1) ∧ w = w') :
    Calls Tryz.prog 28 #[pv] w fun e w' => e = .returned (.int .i64 1) ∧ w = w' := by
  have CR := Lib.hid CR
  go_enter Tryz.func28, Tryz.ntmps28
  go_wp2_with (go_at_call 135; refine CR.out.mono ?_; rintro _ _ ⟨rfl, rfl⟩)
  go_ret
  exact ⟨rfl, rfl⟩
set_option maxHeartbeats 1000000 in
theorem num_nil (w : World) : Calls Tryz.prog 34 #[.pointer none] w fun e w' => e = .returned (.int .i64 0) ∧ w = w' := by
  go_enter Tryz.func34, Tryz.ntmps34
  go_wp2
  go_ret
  exact ⟨rfl, rfl⟩
set_option maxHeartbeats 1000000 in
theorem size_nil (w : World) : Calls Tryz.prog 39 #[.pointer none] w fun e w' => e = .returned (.int .i64 0) ∧ w = w' := by
  go_enter Tryz.func39, Tryz.ntmps39
  go_wp2
  go_ret
  exact ⟨rfl, rfl⟩
set_option maxHeartbeats 1000000 in
theorem num_zero (L : Nat) (w : World) (h : LogZ w L) : Calls Tryz.prog 34 #[.pointer (some ⟨L, 0, none⟩)] w fun e w' => e = .returned (.int .i64 0) ∧ w = w' := by
  have c1 := h.c 1 _ rfl
  go_enter Tryz.func34, Tryz.ntmps34
  go_wp2
  go_ret
  exact ⟨rfl, rfl⟩
set_option maxHeartbeats 1000000 in
theorem size_zero (L : Nat) (w : World) (h : LogZ w L) : Calls Tryz.prog 39 #[.pointer (some ⟨L, 0, none⟩)] w fun e w' => e = .returned (.int .i64 0) ∧ w = w' := by
  have c2 := h.c 2 _ rfl
  go_enter Tryz.func39, Tryz.ntmps39
  go_wp2
  go_ret
  exact ⟨rfl, rfl⟩
end Go.Proofs.YtkeepjlidonadaaGreat

namespace Go.Proofs.YtkeepjlidonadaaGreat
open Go.RowKit

theorem createF_nil (a : ByteArray) (w : World) : Calls Tryz.prog 49 #[.pointer none, .string a] w fun e w' => e = .returned (.int .i64 14) ∧ Below w.heap.size w w' := by
  go_enter Tryz.func49, Tryz.ntmps49
  go_wp2_with (go_at_call 172; refine (write_nil _ _ _).mono ?_; rintro e w' ⟨rfl, rfl⟩)
  go_ret
  exact ⟨rfl, ((Below.refl _ _).alloc (Nat.le_refl _) _).alloc (by first | (simp; done) | (simp; omega)) _⟩
set_option maxHeartbeats 1000000 in
theorem createW_nil (w : World) : Calls Tryz.prog 31 #[.pointer none, .int .i64 1] w fun e w' => e = .returned (.tuple #[.pointer none, .int .i64 14]) ∧ Below w.heap.size w w' := by
  have CM := modulo_walk 1 w (by omega) (by omega)
  rw [show (1 : Int) % 100000000 = 1 from rfl] at CM
  have CM := Lib.hid CM
  have CN := Lib.hid (name_any 1 w (by omega) (by omega))
  have CC := Lib.hid createF_nil
  go_enter Tryz.func31, Tryz.ntmps31
  go_wp2_with (first
    | (go_at_call 76; refine CM.out.mono ?_; rintro _ _ ⟨rfl, rfl⟩)
    | (go_at_call 19; refine CN.out.mono ?_; rintro _ w1 ⟨rfl, b1⟩)
    | (go_at_call 49; refine (CC.out _ _).mono ?_; rintro _ w2 ⟨rfl, b2⟩))
  refine bodyPost_ret (results_tmp2 rfl _ _ _) rfl ?_
  exact ⟨rfl, b1.trans (b2.mono b1.size)⟩
set_option maxHeartbeats 1000000 in
theorem replay_nil (w : World) : Calls Tryz.prog 35 #[.pointer none, .int .i64 1] w fun e w' => e = .returned (.tuple #[.slice none 0 0, .int .i64 14]) ∧ Below w.heap.size w w' := by
  have CN := Lib.hid (name_any 1 w (by omega) (by omega))
  have CC := Lib.hid (show ∀ (name : ByteArray) (w : World), Calls Tryz.prog 50 #[.pointer none, .string name] w fun e w' => e = .returned (.tuple #[.string ⟨#[]⟩, .int .i64 14]) ∧ w = w' from read_nil)
  go_enter Tryz.func35, Tryz.ntmps35
  go_wp2_with (first
    | (go_at_call 19; refine CN.out.mono ?_; rintro _ w1 ⟨rfl, b1⟩)
    | (go_at_call 50; refine (CC.out _ _).mono ?_; rintro _ w2 ⟨rfl, rfl⟩))
  refine bodyPost_ret (results_tmp2 rfl _ _ _) rfl ?_
  exact ⟨rfl, b1⟩
theorem segments_nil (w : World) : Calls Tryz.prog 41 #[.pointer none] w fun e w' => ∃ a c, e = .returned (.slice a 0 c) ∧ Below w.heap.size w w' := by
  refine (segments_any (.pointer none) [] (by simp) w ((namesS_nil w).mono ?_)).mono ?_
  · rintro _ _ ⟨rfl, rfl⟩
    exact ⟨_, rfl, row_nil _ _ _, Below.refl _ _⟩
  · rintro _ w' ⟨V, rfl, hr, -, hb⟩
    obtain ⟨a, c, e, -⟩ := hr.le
    exact ⟨a, c, by rw [e]; rfl, hb⟩
/-- A list of writes that came in. -/
def IsWs (w : World) (a : Option Addr) (len : Nat) (l : List Wr) : Prop := len ≤ maxLen ∧ (∀ x ∈ l, x.Ok) ∧ WrsAt w.heap.size w a len l
set_option maxHeartbeats 4000000 in
set_option maxRecDepth 100000 in
theorem walNone_walk (first : Nat) (_ : first < 18446744073709551616) (a : Option Addr) (len cap : Nat) (ws : List Wr) (w : World) (hI : IsWs w a len ws) :
    Calls Tryz.prog 5 #[.int .u64 (first : Int), .slice a len cap] w fun e w' => e = .returned (.bool true) ∧ Below w.heap.size w w' := by
  have CS := Lib.hid (smallW_any a len cap ws hI.2.2 (by have := hI.1; unfold maxLen at this; omega) hI.2.1)
  have CA := Lib.hid alive6_any
  have CC := Lib.hid createW_nil
  have CR := Lib.hid replay_nil
  have CG := Lib.hid segments_nil
  have A0 := Lib.hid (fun f v W => add_none (.pointer none) f v W (refuses_nil W))
  have A1 := Lib.hid (fun L f v W h => add_none (.pointer (some ⟨L, 0, none⟩)) f v W (refuses_zero L W h))
  have Y0 := Lib.hid (fun W => sync_none (.pointer none) W (refuses_nil W))
  have Y1 := Lib.hid (fun L W h => sync_none (.pointer (some ⟨L, 0, none⟩)) W (refuses_zero L W h))
  have N0 := Lib.hid num_nil
  have N1 := Lib.hid num_zero
  have S0 := Lib.hid size_nil
  have S1 := Lib.hid size_zero
  clear hI
  go_enter Tryz.func5, Tryz.ntmps5
  go_wp2_with (fail)
  go_at_call 9
  refine CS.out.mono ?_
  rintro _ w1 ⟨t, rfl, -, b1⟩
  cases t with
  | false =>
    go_wp2_with (go_at_call 10; refine (CA.out _).mono ?_; rintro _ w2 ⟨rfl, b2⟩)
    go_ret
    exact ⟨rfl, b1.trans (b2.mono b1.size)⟩
  | true =>
    obtain ⟨w2, hw2⟩ : ∃ w2, w1.alloc (.cells #[.pointer none, .int .i64 0, .int .i64 0, .bool false] 97) = w2 := ⟨_, rfl⟩
    have bz : Below w1.heap.size w1 w2 := by rw [← hw2]; exact (Below.refl _ _).alloc (Nat.le_refl _) _
    have z2 : LogZ w2 w1.heap.size := by rw [← hw2]; exact heap_alloc_new w1 _
    have B2 : Below w.heap.size w w2 := b1.trans (bz.mono b1.size)
    clear bz
    go_wp2_with (first
      | (go_at_call 31; refine (CC.out _).mono ?_; rintro _ w3 ⟨rfl, b3⟩; have z3 := z2.below b3; have B3 := B2.trans (b3.mono B2.size))
      | (go_at_call 35; refine (CR.out _).mono ?_; rintro _ w4 ⟨rfl, b4⟩; have z4 := z3.below b4; have B4 := B3.trans (b4.mono B3.size))
      | (go_at_call 10; refine (CA.out _).mono ?_; rintro _ w5 ⟨rfl, b5⟩; have z5 := z4.below b5; have B5 := B4.trans (b5.mono B4.size))
      | (go_at_call 26; first | ((with_reducible refine (A0.out _ _ _).mono ?_); rintro _ _ ⟨rfl, rfl⟩) | ((with_reducible refine (A1.out _ _ _ _ z5).mono ?_); rintro _ _ ⟨rfl, rfl⟩))
      | (go_at_call 28; first | ((with_reducible refine (Y0.out _).mono ?_); rintro _ _ ⟨rfl, rfl⟩) | ((with_reducible refine (Y1.out _ _ z5).mono ?_); rintro _ _ ⟨rfl, rfl⟩))
      | (go_at_call 34; first | ((with_reducible refine (N0.out _).mono ?_); rintro _ _ ⟨rfl, rfl⟩) | ((with_reducible refine (N1.out _ _ z5).mono ?_); rintro _ _ ⟨rfl, rfl⟩))
      | (go_at_call 39; first | ((with_reducible refine (S0.out _).mono ?_); rintro _ _ ⟨rfl, rfl⟩) | ((with_reducible refine (S1.out _ _ z5).mono ?_); rintro _ _ ⟨rfl, rfl⟩))
      | (go_at_call 41; refine (CG.out _).mono ?_; rintro _ w6 ⟨av, cv, rfl, b6⟩)
      | fail)
    go_ret
    exact ⟨rfl, B5.trans (b6.mono B5.size)⟩
end Go.Proofs.YtkeepjlidonadaaGreat

namespace Go.Proofs.YtkeepjlidonadaaGreat
open Go.RowKit Go.ChangeShapes Go.WideShapes Go.ChangeAt Go.Deep

theorem add_plainW (b o j : Nat) : (⟨b, o, none⟩ : Addr).add j = ⟨b, o + j, none⟩ := by unfold Addr.add; split <;> simp_all
theorem block_ltW {w : World} {a : Addr} {v : Value} (h : w.cell? a = some v) : a.block < w.heap.size := by
  rcases Nat.lt_or_ge a.block w.heap.size with h1 | h1
  · exact h1
  · simp [World.cell?, Array.getElem?_eq_none h1] at h
theorem choose_ltW {α : Type} [Inhabited α] {n : Nat} {p : Nat → α → Prop} (h : ∀ i, i < n → ∃ x, p i x) : ∃ f : Nat → α, ∀ i, i < n → p i (f i) := by
  classical
  exact ⟨fun i => if hi : i < n then Classical.choose (h i hi) else default, fun i hi => by
    simp only [hi, dite_true]
    exact Classical.choose_spec (h i hi)⟩
set_option maxRecDepth 100000 in
theorem wr_of {H : Type} {enc : TypeId × Value → H} {w : World} {base n : Nat} {sp : Nat → Bool} {held : Bool} {cs : List Value} {y : DataW H × List MemPlace}
    (h : DataW.trod enc Tryz.prog w base sp held n 105 cs = some y) (hl : cs.length = 3) : ∃ p : Wr, p.Ok ∧ cs = p.cells := by
  obtain ⟨xs, k, hk, hxy, _, hxl, hf⟩ := DataW.trod_struct Tryz.underlying105 h
  have cb : Tryz.prog.cellsOf 4 = 1 := by kernel_rfl
  have c9 : Tryz.prog.cellsOf 9 = 1 := by kernel_rfl
  match xs, hxl, cs, hl with
  | [y0, y1, y2], _, [v0, v1, v2], _ =>
    have g0 := hf 0 _ rfl
    have g1 := hf 1 _ rfl
    have g2 := hf 2 _ rfl
    simp [cb, c9] at g0 g1 g2
    obtain ⟨s0, e0, -, b0⟩ := DataW.trod_string Tryz.underlying9 g0
    obtain ⟨s1, e1, -, b1⟩ := DataW.trod_string Tryz.underlying9 g1
    obtain ⟨d2, e2, -⟩ := DataW.trod_bool Tryz.underlying4 g2
    simp only [List.cons.injEq, and_true] at e0 e1 e2
    subst e0 e1 e2
    exact ⟨⟨s0, s1, d2⟩, ⟨b0, b1⟩, rfl⟩
/-- A slice of writes, as it is read. -/
theorem rowW_gen {H : Type} {enc : TypeId × Value → H} {w : World} {base fuel : Nat} {sp : Nat → Bool} {held : Bool} {v : Value} {x : DataW H × List MemPlace}
    (h : DataW.trod enc Tryz.prog w base sp held fuel 23 [v] = some x) : ∃ a len cap, v = .slice a len cap ∧ len ≤ cap ∧ cap ≤ maxLen ∧ ∃ l, IsWs w a len l := by
  have c4 : Tryz.prog.cellsOf 105 = 3 := by kernel_rfl
  rcases open_slice Tryz.underlying23 h with ⟨hcs, _⟩ | ⟨y, l, c, m, n, D, Pl, hcs, _, hl, hm, hmm, _, hx⟩
  · simp at hcs
    subst hcs
    exact ⟨none, 0, 0, rfl, Nat.le_refl _, Nat.zero_le _, [], by unfold maxLen; omega, by simp, rfl, .inl rfl⟩
  · simp at hcs
    subst hcs
    have hlm : l ≤ m := by
      rw [hmm]
      split <;> omega
    refine ⟨some y, l, c, rfl, hl, hm, ?_⟩
    have each : ∀ i, i < l → ∃ p : Wr, p.Ok ∧ ∀ j u, p.cells[j]? = some u → w.cell? (y.add (i * 3 + j)) = some u := by
      intro i hi
      obtain ⟨cs', h1, h2⟩ := hx i (by omega)
      rw [c4] at h1
      obtain ⟨_, hlen, hcell⟩ := World.cells?_some h1
      obtain ⟨p, hp, rfl⟩ := wr_of h2 hlen
      refine ⟨p, hp, fun j u hj => ?_⟩
      have hj4 : j < 3 := by
        have := (List.getElem?_eq_some_iff.1 hj).1
        simpa [Wr.cells] using this
      have := hcell j hj4
      rw [Addr.add_add] at this
      rw [this, hj]
    obtain ⟨q, hq⟩ := choose_ltW each
    refine ⟨(List.range l).map q, Nat.le_trans hl hm, ?_, by simp, ?_⟩
    · intro p hp
      obtain ⟨i, hi, rfl⟩ := List.mem_map.1 hp
      exact (hq i (List.mem_range.1 hi)).1
    · rcases Nat.eq_zero_or_pos l with h0 | h0
      · exact .inl h0
      · right
        have hc0 := (hq 0 h0).2 0 _ rfl
        obtain ⟨b, off, spot⟩ := y
        have hs : spot = none := by simpa [Addr.add] using World.cell?_spot hc0
        subst hs
        refine ⟨b, off, rfl, block_ltW hc0, ?_⟩
        intro i hi j u hu
        have hi' : i < l := by simpa using hi
        have e : ((List.range l).map q)[i] = q i := by simp
        rw [e] at hu
        have := (hq i hi').2 j u hu
        rw [add_plainW, ← Nat.add_assoc] at this
        exact this
theorem rowW_of {H : Type} {enc : TypeId × Value → H} {w : World} {base fuel : Nat} {held : Bool} {a : Option Addr} {len cap : Nat} {x : DataW H × List MemPlace}
    (h : DataW.trod enc Tryz.prog w base (fun _ => true) held fuel 23 (Value.slice a len cap).cells.toList = some x) : ∃ l, IsWs w a len l := by
  obtain ⟨a', len', cap', e, -, -, l, hl⟩ := rowW_gen h
  cases e
  exact ⟨l, hl⟩
end Go.Proofs.YtkeepjlidonadaaGreat

namespace Go.Proofs.YtkeepjlidonadaaGreat
open Go.RowKit

set_option maxHeartbeats 4000000 in
set_option maxRecDepth 100000 in
theorem getBatch_empty (w : World) :
    Calls Tryz.prog 14 #[.string ⟨#[]⟩] w fun e w' => e = .returned (.tuple #[.agg #[.int .u64 0, .slice none 0 0], .int .i64 5]) ∧ Below w.heap.size w w' := by
  have CN := Lib.hid (newReader_any ⟨#[]⟩)
  have CV := Lib.hid (fun b W h => rvar_bad b ⟨#[]⟩ W h (by decide) (e := 5) rfl (by decide))
  have CC := Lib.hid (fun b s W h => rcount_err 60000 b s 5 W h (by decide))
  have CE := Lib.hid (fun b s W h => end_err b s 5 W h (by decide))
  obtain ⟨W0, hW0⟩ : ∃ W0, w.alloc (.cells #[.int .u64 0, .slice none 0 0] 48) = W0 := ⟨_, rfl⟩
  have bx0 : BoxB W0 w.heap.size 0 (.slice none 0 0) := by rw [← hW0]; exact heap_alloc_new w _
  have b0 : Below w.heap.size w W0 := by rw [← hW0]; exact (Below.refl _ _).alloc (Nat.le_refl _) _
  go_enter Tryz.func14, Tryz.ntmps14
  go_wp2_with (fail)
  go_at_call 62
  refine (CN.out _).mono ?_
  rintro _ W1 ⟨rfl, rd1, b1, s1⟩
  have hRB : w.heap.size < W0.heap.size := bx0.lt
  go_wp2_with (fail)
  go_at_call 63
  refine (CV.out _ _ rd1).mono ?_
  rintro _ W2 ⟨rfl, rd2, g2⟩
  have h12 : W1.heap.size ≤ W2.heap.size := g2.size
  have bx2 : BoxB W2 w.heap.size 0 (.slice none 0 0) := (g2.block _ (by omega) (fun e => by have := Option.some.inj e; omega)).trans ((b1.block _ hRB).trans bx0)
  have bl2 : Below w.heap.size w W2 := by
    have hb01 := b0.trans (b1.mono b0.size)
    exact ⟨g2.os.trans hb01.os, g2.tape.trans hb01.tape, g2.output.trans hb01.output, Nat.le_trans hb01.size g2.size, fun k hk => (g2.block k (by omega) (fun e => by have := Option.some.inj e; omega)).trans (hb01.block k hk)⟩
  have al : ∀ o, Below W2.heap.size W2 (W2.alloc o) := fun o => (Below.refl _ _).alloc (Nat.le_refl _) o
  have rd3 := fun o => rd2.below (al o) rd2.lt
  have bx3 := fun o => ((al o).block _ bx2.lt).trans bx2
  have y0 := fun o => BoxB.c0 (bx3 o)
  have y1 := fun o => BoxB.c1 (bx3 o)
  have y2 := fun o => BoxB.f0 (bx3 o)
  have y3 := fun o => BoxB.f1 (bx3 o)
  have bl3 := fun o => bl2.trans ((al o).mono bl2.size)
  clear rd1 rd2 g2 b1 s1 bx0 b0 CN CV al bx3 bx2 bl2 h12
  go_wp2_with (go_at_call 64; refine (CC.out _ _ _ (rd3 _)).mono ?_; rintro _ _ ⟨rfl, rfl⟩)
  refine wp_loop_rounds 1 ?_
  rw [rounds_succ]
  go_wp2_with (go_at_call 68; refine (CE.out _ _ _ (rd3 _)).mono ?_; rintro _ _ ⟨rfl, rfl⟩)
  refine bodyPost_ret (by simp [results, Tryz.results14, go_sem, y0, y1]; try rfl) rfl ?_
  refine ⟨rfl, ?_⟩
  have h := bl3 (.cells #[.int .u64 0, .slice none 0 0] 48)
  refine ⟨h.os, h.tape, h.output, by simpa using h.size, fun k hk => ?_⟩
  exact ((Below.heap_setCell _ ⟨w.heap.size, 1, none⟩ _ k (by show k ≠ w.heap.size; omega)).trans (Below.heap_setCell _ ⟨w.heap.size, 0, none⟩ _ k (by show k ≠ w.heap.size; omega))).trans (h.block k hk)
end Go.Proofs.YtkeepjlidonadaaGreat

namespace Go.Proofs.YtkeepjlidonadaaGreat
open Go.RowKit Go.ChangeShapes Go.WideShapes Go.ChangeAt Go.Deep

/-- A slice of writes. -/
structure Sl where
  a : Option Addr
  len : Nat
  cap : Nat
  ws : List Wr
instance : Inhabited Sl := ⟨⟨none, 0, 0, []⟩⟩
def Sl.val (x : Sl) : Value := .slice x.a x.len x.cap
def IsWss (w : World) (a : Option Addr) (len : Nat) (ls : List Sl) : Prop :=
  len ≤ maxLen ∧ ls.length = len ∧ (∀ x ∈ ls, IsWs w x.a x.len x.ws) ∧ (len = 0 ∨ ∃ b off, a = some ⟨b, off, none⟩ ∧ b < w.heap.size ∧ ∀ i (h : i < ls.length), w.cell? ⟨b, off + i, none⟩ = some ls[i].val)
theorem rowWs_of {H : Type} {enc : TypeId × Value → H} {w : World} {base fuel : Nat} {held : Bool} {a : Option Addr} {len cap : Nat} {x : DataW H × List MemPlace}
    (h : DataW.trod enc Tryz.prog w base (fun _ => true) held fuel 32 (Value.slice a len cap).cells.toList = some x) : ∃ l, IsWss w a len l := by
  have c4 : Tryz.prog.cellsOf 23 = 1 := by kernel_rfl
  rcases open_slice Tryz.underlying32 h with ⟨hcs, _⟩ | ⟨y, l, c, m, n, D, Pl, hcs, _, hl, hm, hmm, _, hx⟩
  · simp [Value.cells] at hcs
    obtain ⟨rfl, rfl, rfl⟩ := hcs
    exact ⟨[], by unfold maxLen; omega, rfl, by simp, .inl rfl⟩
  · simp [Value.cells] at hcs
    obtain ⟨rfl, rfl, rfl⟩ := hcs
    simp at hmm
    subst hmm
    have each : ∀ i, i < len → ∃ s : Sl, IsWs w s.a s.len s.ws ∧ w.cell? (y.add i) = some s.val := by
      intro i hi
      obtain ⟨cs', h1, h2⟩ := hx i (by omega)
      rw [c4] at h1
      obtain ⟨_, hlen, hcell⟩ := World.cells?_some h1
      match cs', hlen with
      | [v], _ =>
        obtain ⟨a', len', cap', rfl, -, -, ws, hw⟩ := rowW_gen h2
        refine ⟨⟨a', len', cap', ws⟩, hw, ?_⟩
        have := hcell 0 (by omega)
        rw [Addr.add_add, Nat.mul_one, Nat.add_zero] at this
        exact this
    obtain ⟨q, hq⟩ := choose_ltW each
    refine ⟨(List.range len).map q, Nat.le_trans hl hm, by simp, ?_, ?_⟩
    · intro p hp
      obtain ⟨i, hi, rfl⟩ := List.mem_map.1 hp
      exact (hq i (List.mem_range.1 hi)).1
    · rcases Nat.eq_zero_or_pos len with h0 | h0
      · exact .inl h0
      · right
        have hc0 := (hq 0 h0).2
        obtain ⟨b, off, spot⟩ := y
        have hs : spot = none := by simpa [Addr.add] using World.cell?_spot hc0
        subst hs
        refine ⟨b, off, rfl, block_ltW hc0, ?_⟩
        intro i hi
        have hi' : i < len := by simpa using hi
        have e : ((List.range len).map q)[i] = q i := by simp
        rw [e]
        have := (hq i hi').2
        rw [add_plainW] at this
        exact this
/-- The cells of batches whose writes are slices. -/
def allCells : List (Nat × Sl) → List Value
  | [] => []
  | x :: xs => .int .u64 (x.1 : Int) :: x.2.val :: allCells xs
theorem allCells_length : ∀ xs : List (Nat × Sl), (allCells xs).length = xs.length * 2
  | [] => rfl
  | x :: xs => by simp only [allCells, List.length_cons, allCells_length xs]; omega
theorem allCells_snoc : ∀ (xs : List (Nat × Sl)) (x : Nat × Sl), allCells (xs ++ [x]) = allCells xs ++ [.int .u64 (x.1 : Int), x.2.val]
  | [], _ => rfl
  | y :: xs, x => by simp only [List.cons_append, allCells, allCells_snoc xs x]
theorem allCells_get : ∀ (xs : List (Nat × Sl)) (i : Nat) (h : i < xs.length), (allCells xs)[i * 2]? = some (.int .u64 (xs[i].1 : Int)) ∧ (allCells xs)[i * 2 + 1]? = some xs[i].2.val
  | x :: xs, 0, _ => ⟨rfl, rfl⟩
  | x :: xs, i + 1, h => by
    have := allCells_get xs i (by simpa using h)
    rw [show (i + 1) * 2 = i * 2 + 1 + 1 by omega]
    exact this
def batOf (x : Nat × Sl) : Bat := ⟨x.1, x.2.ws⟩
/-- A batch of the statement's own: what came in is few, and may be. -/
def GoodB (w : World) (x : Nat × Sl) : Prop := x.1 < 18446744073709551616 ∧ IsWs w x.2.a x.2.len x.2.ws ∧ Few x.2.ws ∧ wrsOk x.2.ws = true
theorem GoodB.ok {w : World} {x : Nat × Sl} (h : GoodB w x) : (batOf x).Ok := ⟨h.1, by have := h.2.2.1.1; show x.2.ws.length ≤ 1000; omega, by have := h.2.2.1.2; show sizeWs x.2.ws ≤ 1000000; omega, h.2.2.2⟩
def bytesOf (xs : List (Nat × Sl)) : List (List UInt8) := (xs.map batOf).map Bat.bytes
theorem bytesOf_snoc (xs : List (Nat × Sl)) (x : Nat × Sl) : frames (bytesOf (xs ++ [x])) = frames (bytesOf xs) ++ recB x.1 x.2.ws := by
  unfold bytesOf
  rw [List.map_append, List.map_append, frames_append]
  show _ ++ frames [putB x.1 x.2.ws] = _
  rw [frames_one]
  rfl
/-- The state of a log and of the batches added so far. -/
structure Back (w : World) (p L num : Nat) (xs : List (Nat × Sl)) (V : Value) (n : Nat) (steps : Int) (wr : World) : Prop where
  hs : Hs (fun k => k < w.heap.size ∨ k = L ∨ ob V = some k) w.heap.size p n (xs.length * 300000) (St1 (nameB num) true steps (-1) (frames (bytesOf xs)) 0) wr
  log : LogAt wr L p (num : Int) ((frames (bytesOf xs)).length : Int) false
  lw : w.heap.size ≤ L
  row : Row wr 48 2 V xs.length (allCells xs)
  own : ∀ k, ob V = some k → w.heap.size ≤ k ∧ k ≠ L
  good : ∀ x ∈ xs, GoodB w x
  bel : Below w.heap.size w wr
section
variable {w wr wr' : World} {p L num n : Nat} {xs : List (Nat × Sl)} {V : Value} {steps : Int}
theorem Back.below (h : Back w p L num xs V n steps wr) (hb : Below wr.heap.size wr wr') : Back w p L num xs V n steps wr' :=
  ⟨h.hs.same hb, h.log.kept (hb.block L h.log.lt), h.lw, h.row.kept (fun k hk => hb.block k (h.row.lt k hk)), h.own, h.good, h.bel.trans (hb.mono h.bel.size)⟩
theorem frames_le : ∀ (xs : List (Nat × Sl)), (∀ x ∈ xs, GoodB w x) → (frames (bytesOf xs)).length ≤ xs.length * 300000
  | [], _ => by simp [bytesOf, frames]
  | x :: xs, h => by
    have h1 := frames_le xs (fun y hy => h y (List.mem_cons_of_mem _ hy))
    have hx := h x List.mem_cons_self
    have h2 := recB_length x.1 x.2.ws hx.1 (by have := hx.2.2.1.1; omega) (by have := hx.2.2.1.2; omega)
    have e : frames (bytesOf (x :: xs)) = recB x.1 x.2.ws ++ frames (bytesOf xs) := by
      show frames (putB x.1 x.2.ws :: bytesOf xs) = _
      rw [frames_cons]
      rfl
    rw [e, List.length_append, List.length_cons]
    omega
end
end Go.Proofs.YtkeepjlidonadaaGreat

namespace Go.Proofs.YtkeepjlidonadaaGreat
open Go.RowKit

theorem Back.more {w w4 w5 w7 : World} {p L num n : Nat} {xs : List (Nat × Sl)} {V v' : Value} {steps st' : Int} {G : Nat → Prop} {x : Nat × Sl} {o : Obj} (h : Back w p L num xs V n steps w4) (hx : GoodB w x)
    (ad : Added G w.heap.size p (n + 1) (xs.length * 300000 + (recB x.1 x.2.ws).length) L (num : Int) (((frames (bytesOf xs)).length : Int) + ((recB x.1 x.2.ws).length : Int)) false (St1 (nameB num) true st' (-1) (frames (bytesOf xs) ++ recB x.1 x.2.ws) 0) w4 w5)
    (hG : ∀ k, k < w.heap.size ∨ k = L ∨ ob V = some k → G k)
    (hrow : Row w7 48 2 v' (xs.length + 1) (allCells xs ++ [.int .u64 (x.1 : Int), x.2.val])) (hg : (w5.alloc o).grownBy w7 (ob V)) (hob : ob v' = ob V ∨ (ob v' = some (w5.alloc o).heap.size ∧ (w5.alloc o).grownBy w7 none)) :
    Back w p L num (xs ++ [x]) v' (n + 1) st' w7 := by
  have hal : Below w5.heap.size w5 (w5.alloc o) := (Below.refl _ _).alloc (Nat.le_refl _) o
  have hs6 := ad.hs.same hal
  have bel5 : Below w.heap.size w w5 := h.bel.trans ad.bel
  have bel6 : Below w.heap.size w (w5.alloc o) := bel5.trans (hal.mono bel5.size)
  have log6 := ad.log.kept (hal.block L ad.log.lt)
  generalize w5.alloc o = w6 at *
  have hrl := recB_length x.1 x.2.ws hx.1 (by have := hx.2.2.1.1; omega) (by have := hx.2.2.1.2; omega)
  have kp : ∀ k, k < w6.heap.size → ob V ≠ some k → w7.heap[k]? = w6.heap[k]? := fun k hk hne => hg.block k hk (fun e => hne e.symm)
  have own' : ∀ k, ob v' = some k → w.heap.size ≤ k ∧ k ≠ L := by
    intro k hk
    rcases hob with e | ⟨e, -⟩
    · exact h.own k (by rw [← e]; exact hk)
    · rw [e] at hk
      have := Option.some.inj hk
      have := bel6.size
      have := log6.lt
      exact ⟨by omega, by omega⟩
  refine ⟨?_, ?_, h.lw, ?_, own', ?_, ?_⟩
  · rw [bytesOf_snoc, List.length_append, List.length_singleton]
    have hs7 : Hs (fun k => k < w.heap.size ∨ k = L ∨ ob v' = some k) w.heap.size p (n + 1) (xs.length * 300000 + (recB x.1 x.2.ws).length) (St1 (nameB num) true st' (-1) (frames (bytesOf xs) ++ recB x.1 x.2.ws) 0) w7 := by
      rcases hob with e | ⟨e, g0⟩
      · refine (hs6.wrote hg.size (fun k hk hn => kp k hk (fun e' => hn (hG k (.inr (.inr e')))))).fewer (fun k hk => hG k ?_)
        rw [e] at hk
        exact hk
      · have hb7 : Below w6.heap.size w6 w7 := ⟨g0.os, g0.tape, g0.output, g0.size, fun k hk => g0.block k hk (by simp)⟩
        refine hs6.below hb7 (fun k hk => ?_)
        rcases hk with hk | hk | hk
        · exact .inl (hG k (.inl hk))
        · exact .inl (hG k (.inr (.inl hk)))
        · have hlt := hrow.lt k hk
          rw [e] at hk
          have := Option.some.inj hk
          exact .inr ⟨by omega, hlt⟩
    exact hs7.up (Nat.le_refl _) (by omega)
  · rw [bytesOf_snoc, List.length_append]
    have := log6.kept (kp L log6.lt (fun e => (h.own L e).2 rfl))
    rw [show (((frames (bytesOf xs)).length + (recB x.1 x.2.ws).length : Nat) : Int) = ((frames (bytesOf xs)).length : Int) + ((recB x.1 x.2.ws).length : Int) by omega]
    exact this
  · rw [List.length_append, allCells_snoc]
    exact hrow
  · intro y hy
    rcases List.mem_append.1 hy with hy | hy
    · exact h.good y hy
    · rw [List.mem_singleton.1 hy]
      exact hx
  · exact ⟨hg.os.trans bel6.os, hg.tape.trans bel6.tape, hg.output.trans bel6.output, Nat.le_trans bel6.size hg.size, fun k hk => (kp k (Nat.lt_of_lt_of_le hk bel6.size) (fun e => by have := (h.own k e).1; omega)).trans (bel6.block k hk)⟩
theorem Back.up {w wr : World} {p L num n n' : Nat} {xs : List (Nat × Sl)} {V : Value} {steps : Int} (h : Back w p L num xs V n steps wr) (hn : n ≤ n') : Back w p L num xs V n' steps wr :=
  ⟨h.hs.up hn (Nat.le_refl _), h.log, h.lw, h.row, h.own, h.good, h.bel⟩
theorem BoxB.below {w w' : World} {n : Nat} {f : Int} {V : Value} (h : BoxB w n f V) (hb : Below w.heap.size w w') : BoxB w' n f V := (hb.block n h.lt).trans h
theorem bel_alloc (w : World) (o : Obj) : Below w.heap.size w (w.alloc o) := (Below.refl _ _).alloc (Nat.le_refl _) o
theorem rec_few {w : World} {x : Nat × Sl} (hx : GoodB w x) : (recB x.1 x.2.ws).length ≤ 11000 ∧ (putB x.1 x.2.ws).length ≤ 11000 := by
  have hf := hx.2.2.1
  have h1 := putWs_length x.2.ws (by have := hf.2; omega)
  have h2 := vars_length [x.1, x.2.ws.length] (fun z hz => by
    have := hx.1
    have := hf.1
    simp at hz
    rcases hz with rfl | rfl <;> omega)
  have h3 := hf.1
  have h4 := hf.2
  have h5 : (putB x.1 x.2.ws).length = (vars [x.1, x.2.ws.length]).length + (putWs x.2.ws).length := by unfold putB; rw [List.length_append]
  simp at h2
  unfold recB
  rw [frm_length]
  omega
theorem frames_few {w : World} : ∀ (xs : List (Nat × Sl)), (∀ x ∈ xs, GoodB w x) → (frames (bytesOf xs)).length ≤ xs.length * 11000
  | [], _ => by simp [bytesOf, frames]
  | x :: xs, h => by
    have h1 := frames_few xs (fun y hy => h y (List.mem_cons_of_mem _ hy))
    have h2 := (rec_few (h x List.mem_cons_self)).1
    have e : frames (bytesOf (x :: xs)) = recB x.1 x.2.ws ++ frames (bytesOf xs) := by
      show frames (putB x.1 x.2.ws :: bytesOf xs) = _
      rw [frames_cons]
      rfl
    rw [e, List.length_append, List.length_cons]
    omega
theorem scan_all {w : World} (xs : List (Nat × Sl)) (h : ∀ x ∈ xs, GoodB w x) : (scanF (frames (bytesOf xs))).1 = (xs.map batOf).map Bat.bytes := by
  obtain ⟨k, h1, h2, -, h4⟩ := scan_cut (bytesOf xs) (frames (bytesOf xs)).length (fun s hs => by
    unfold bytesOf at hs
    obtain ⟨b, hb, rfl⟩ := List.mem_map.1 hs
    obtain ⟨x, hx, rfl⟩ := List.mem_map.1 hb
    have := (rec_few (h x hx)).2
    show (putB x.1 x.2.ws).length ≤ _
    omega)
  rw [List.take_length] at h2
  rw [h2, h4 (Nat.le_refl _), List.take_length]
  rfl
/-- A row's cells, read. -/
theorem row_read {w : World} {e : TypeId} {size : Nat} {U : Value} {n : Nat} {cs : List Value} (h : Row w e size U n cs) : ∃ a c, U = .slice a n c ∧ (n = 0 ∨ ∃ g, a = some ⟨g, 0, none⟩ ∧ g < w.heap.size ∧ ∀ (j : Nat) (u : Value), cs[j]? = some u → w.cell? ⟨g, j, none⟩ = some u) := by
  obtain ⟨a, c, rfl, -, -⟩ := h.le
  refine ⟨a, c, rfl, ?_⟩
  rcases h.2 with ⟨h0, -⟩ | ⟨g, cap', cur, e1, hg, -⟩
  · exact .inl h0
  · simp only [Value.slice.injEq] at e1
    obtain ⟨rfl, -, rfl⟩ := e1
    refine .inr ⟨g, rfl, (Array.getElem?_eq_some_iff.1 hg).1, fun j u hu => ?_⟩
    have := h.cell g 0 _ rfl j u hu
    rw [Nat.zero_add] at this
    exact this
end Go.Proofs.YtkeepjlidonadaaGreat

namespace Go.Proofs.YtkeepjlidonadaaGreat
open Go.RowKit

theorem hs_fuse {F : Nat → Prop} {B p n m : Nat} {s : St} {w : World} (h : Hs F B p n m s w) (k : Int) (hk : k ≤ 9223372036854775807) : Calls Tryz.prog 45 #[.pointer (some ⟨p, 0, none⟩), .int .i64 k] w fun e w' => e = .returned (.tuple #[]) ∧ Hs F B p n m { s with fuse := k } w' ∧ Below B w w' ∧ Kp F w w' := by
  have hB := h.size
  obtain ⟨r, h1, rfl, h3, h4, h5, h6⟩ := h
  refine (fuse_any h1 k).mono ?_
  rintro e w' ⟨rfl, hn'⟩
  exact ⟨rfl, Hs.next hB h3 rfl hn' ⟨h4.s0, h4.s1, h4.dirs, h4.nowl, h4.files, h4.bytes, hk, h4.bad, h4.room⟩ (h5.of rfl rfl rfl) h6⟩
/-- At least the frames that are there whole are told. -/
theorem scan_ge : ∀ (l : List (List UInt8)) (c : Nat), (∀ s ∈ l, s.length ≤ 16777216) → ∀ j, j ≤ l.length → (frames (l.take j)).length ≤ c → j ≤ (scanF ((frames l).take c)).1.length
  | [], c, _, j, hj, _ => by simp at hj; omega
  | s :: l, c, h, 0, _, _ => Nat.zero_le _
  | s :: l, c, h, j + 1, hj, hc => by
    have hs := h s List.mem_cons_self
    rw [List.take_succ_cons, frames_cons, List.length_append, frm_length] at hc
    have ht : (frm s ++ frames l).take c = frm s ++ (frames l).take (c - (8 + s.length)) := by
      rw [List.take_append, List.take_of_length_le (by rw [frm_length]; omega), frm_length]
    have hd : (frm s ++ (frames l).take (c - (8 + s.length))).drop (8 + s.length) = (frames l).take (c - (8 + s.length)) := by
      rw [← frm_length, List.drop_left]
    rw [frames_cons, ht, scanF_some (cutF_of s _ hs), hd]
    have := scan_ge l (c - (8 + s.length)) (fun t ht => h t (List.mem_cons_of_mem _ ht)) j (by simpa using hj) (by omega)
    simpa using this
set_option maxHeartbeats 2000000 in
set_option maxRecDepth 100000 in
theorem sameW_any (a b : Option Addr) (c1 c2 : Nat) (ws : List Wr) (w : World) (h1 : WrsAt w.heap.size w a ws.length ws) (h2 : WrsAt w.heap.size w b ws.length ws) (hl : ws.length ≤ 1000) :
    Calls Tryz.prog 18 #[.slice a ws.length c1, .slice b ws.length c2] w fun e w' => e = .returned (.bool true) ∧ ∃ m, w' = w.drewN m := by
  have H1 := Lib.hid h1
  have H2 := Lib.hid h2
  clear h1 h2
  go_enter Tryz.func18, Tryz.ntmps18
  go_wp2
  go_loopw [5] (fun iv wr => ∃ k m : Nat, iv = .int .i64 (k : Int) ∧ k ≤ ws.length ∧ wr = w.drewN m) (fun iv _ => ws.length - (intOf iv).toNat)
  case atStart => exact ⟨0, 0, rfl, Nat.zero_le _, rfl⟩
  case round =>
    obtain ⟨k, m, rfl, hk, rfl⟩ := hrel
    by_cases hlk : k < ws.length
    · obtain ⟨⟨K, X, D⟩, hx⟩ : ∃ x, ws[k] = x := ⟨_, rfl⟩
      obtain ⟨b1, o1, rfl, p0, p1, p2⟩ : ∃ b off, a = some ⟨b, off, none⟩ ∧ (w.drewN m).cell? ⟨b, off + k * 3, none⟩ = some (.string K) ∧ (w.drewN m).cell? ⟨b, off + k * 3 + 1, none⟩ = some (.string X) ∧ (w.drewN m).cell? ⟨b, off + k * 3 + 2, none⟩ = some (.bool D) := by
        rcases H1.out.2 with h0 | ⟨b, off, e, h1, h2⟩
        · omega
        · have h3 := h2 k hlk
          rw [hx] at h3
          exact ⟨b, off, e, h3 0 _ rfl, h3 1 _ rfl, h3 2 _ rfl⟩
      obtain ⟨b2, o2, rfl, r0, r1, r2⟩ : ∃ b' off, b = some ⟨b', off, none⟩ ∧ (w.drewN m).cell? ⟨b', off + k * 3, none⟩ = some (.string K) ∧ (w.drewN m).cell? ⟨b', off + k * 3 + 1, none⟩ = some (.string X) ∧ (w.drewN m).cell? ⟨b', off + k * 3 + 2, none⟩ = some (.bool D) := by
        rcases H2.out.2 with h0 | ⟨b, off, e, h1, h2⟩
        · omega
        · have h3 := h2 k hlk
          rw [hx] at h3
          exact ⟨b, off, e, h3 0 _ rfl, h3 1 _ rfl, h3 2 _ rfl⟩
      have hkl : (k : Int) < (ws.length : Int) := by omega
      obtain ⟨W, hW⟩ : ∃ W, w.drewN m = W := ⟨_, rfl⟩
      rw [hW] at p0 p1 p2 r0 r1 r2 ⊢
      have HW := Lib.hid hW
      clear hW hx
      go_wp2
      go_quiet (fail)
      go_wp2
      go_roundw
      case rel => exact ⟨k + 1, _, by go_num, by omega, by rw [← HW.out]; exact (World.drewN_drewN _ _ _)⟩
      case measure => simp [intOf]; omega
    · obtain rfl : k = ws.length := by omega
      go_wp2
      go_ret
      exact ⟨rfl, _, rfl⟩
end Go.Proofs.YtkeepjlidonadaaGreat

namespace Go.Proofs.YtkeepjlidonadaaGreat
open Go.RowKit

theorem IsWs.to {w wr : World} {a : Option Addr} {len : Nat} {ws : List Wr} (h : IsWs w a len ws) (hb : Below w.heap.size w wr) : IsWs wr a len ws := ⟨h.1, h.2.1, h.2.2.grown hb⟩
/-- The state of a log, of the files' power, and of the batches added so far. -/
structure Whl (w : World) (p L num : Nat) (xs : List (Nat × Sl)) (V : Value) (n : Nat) (on : Bool) (steps fz : Int) (syn sz : Nat) (brk : Bool) (wr : World) : Prop where
  hs : Hs (fun k => k < w.heap.size ∨ k = L ∨ ob V = some k) w.heap.size p n (xs.length * 300000) (St1 (nameB num) on steps fz (frames (bytesOf xs)) syn) wr
  log : LogAt wr L p (num : Int) (sz : Int) brk
  szl : sz ≤ xs.length * 300000
  lw : w.heap.size ≤ L
  row : Row wr 48 2 V xs.length (allCells xs)
  own : ∀ k, ob V = some k → w.heap.size ≤ k ∧ k ≠ L
  good : ∀ x ∈ xs, GoodB w x
  bel : Below w.heap.size w wr
section
variable {w wr wr' : World} {p L num n : Nat} {xs : List (Nat × Sl)} {V : Value} {on : Bool} {steps fz : Int} {syn sz : Nat} {brk : Bool}
theorem Whl.below (h : Whl w p L num xs V n on steps fz syn sz brk wr) (hb : Below wr.heap.size wr wr') : Whl w p L num xs V n on steps fz syn sz brk wr' :=
  ⟨h.hs.same hb, h.log.kept (hb.block L h.log.lt), h.szl, h.lw, h.row.kept (fun k hk => hb.block k (h.row.lt k hk)), h.own, h.good, h.bel.trans (hb.mono h.bel.size)⟩
theorem Whl.up {n' : Nat} (h : Whl w p L num xs V n on steps fz syn sz brk wr) (hn : n ≤ n') : Whl w p L num xs V n' on steps fz syn sz brk wr :=
  ⟨h.hs.up hn (Nat.le_refl _), h.log, h.szl, h.lw, h.row, h.own, h.good, h.bel⟩
theorem Whl.more {w4 w5 w7 : World} {v' : Value} {st' fz' : Int} {on' brk' : Bool} {sz' : Nat} {G : Nat → Prop} {x : Nat × Sl} {o : Obj} (h : Whl w p L num xs V n on steps fz syn sz brk w4) (hx : GoodB w x) (hsz : sz' ≤ xs.length * 300000 + 300000)
    (ad : Added G w.heap.size p (n + 1) (xs.length * 300000 + (recB x.1 x.2.ws).length) L (num : Int) (sz' : Int) brk' (St1 (nameB num) on' st' fz' (frames (bytesOf xs) ++ recB x.1 x.2.ws) syn) w4 w5)
    (hG : ∀ k, k < w.heap.size ∨ k = L ∨ ob V = some k → G k)
    (hrow : Row w7 48 2 v' (xs.length + 1) (allCells xs ++ [.int .u64 (x.1 : Int), x.2.val])) (hg : (w5.alloc o).grownBy w7 (ob V)) (hob : ob v' = ob V ∨ (ob v' = some (w5.alloc o).heap.size ∧ (w5.alloc o).grownBy w7 none)) :
    Whl w p L num (xs ++ [x]) v' (n + 1) on' st' fz' syn sz' brk' w7 := by
  have hal : Below w5.heap.size w5 (w5.alloc o) := (Below.refl _ _).alloc (Nat.le_refl _) o
  have hs6 := ad.hs.same hal
  have bel5 : Below w.heap.size w w5 := h.bel.trans ad.bel
  have bel6 : Below w.heap.size w (w5.alloc o) := bel5.trans (hal.mono bel5.size)
  have log6 := ad.log.kept (hal.block L ad.log.lt)
  generalize w5.alloc o = w6 at *
  have hrl := recB_length x.1 x.2.ws hx.1 (by have := hx.2.2.1.1; omega) (by have := hx.2.2.1.2; omega)
  have kp : ∀ k, k < w6.heap.size → ob V ≠ some k → w7.heap[k]? = w6.heap[k]? := fun k hk hne => hg.block k hk (fun e => hne e.symm)
  have own' : ∀ k, ob v' = some k → w.heap.size ≤ k ∧ k ≠ L := by
    intro k hk
    rcases hob with e | ⟨e, -⟩
    · exact h.own k (by rw [← e]; exact hk)
    · rw [e] at hk
      have := Option.some.inj hk
      have := bel6.size
      have := log6.lt
      exact ⟨by omega, by omega⟩
  refine ⟨?_, log6.kept (kp L log6.lt (fun e => (h.own L e).2 rfl)), by rw [List.length_append, List.length_singleton]; omega, h.lw, ?_, own', ?_, ?_⟩
  · rw [bytesOf_snoc, List.length_append, List.length_singleton]
    have hs7 : Hs (fun k => k < w.heap.size ∨ k = L ∨ ob v' = some k) w.heap.size p (n + 1) (xs.length * 300000 + (recB x.1 x.2.ws).length) (St1 (nameB num) on' st' fz' (frames (bytesOf xs) ++ recB x.1 x.2.ws) syn) w7 := by
      rcases hob with e | ⟨e, g0⟩
      · refine (hs6.wrote hg.size (fun k hk hn => kp k hk (fun e' => hn (hG k (.inr (.inr e')))))).fewer (fun k hk => hG k ?_)
        rw [e] at hk
        exact hk
      · have hb7 : Below w6.heap.size w6 w7 := ⟨g0.os, g0.tape, g0.output, g0.size, fun k hk => g0.block k hk (by simp)⟩
        refine hs6.below hb7 (fun k hk => ?_)
        rcases hk with hk | hk | hk
        · exact .inl (hG k (.inl hk))
        · exact .inl (hG k (.inr (.inl hk)))
        · have hlt := hrow.lt k hk
          rw [e] at hk
          have := Option.some.inj hk
          exact .inr ⟨by omega, hlt⟩
    exact hs7.up (Nat.le_refl _) (by omega)
  · rw [List.length_append, allCells_snoc]
    exact hrow
  · intro y hy
    rcases List.mem_append.1 hy with hy | hy
    · exact h.good y hy
    · rw [List.mem_singleton.1 hy]
      exact hx
  · exact ⟨hg.os.trans bel6.os, hg.tape.trans bel6.tape, hg.output.trans bel6.output, Nat.le_trans bel6.size hg.size, fun k hk => (kp k (Nat.lt_of_lt_of_le hk bel6.size) (fun e => by have := (h.own k e).1; omega)).trans (bel6.block k hk)⟩
/-- Behind a sync. -/
theorem Whl.synced {on' brk' : Bool} {st' fz' : Int} {syn' : Nat} (h : Whl w p L num xs V n on steps fz syn sz brk wr)
    (ad : Added (fun k => k < w.heap.size ∨ k = L ∨ ob V = some k) w.heap.size p (n + 1) (xs.length * 300000) L (num : Int) (sz : Int) brk' (St1 (nameB num) on' st' fz' (frames (bytesOf xs)) syn') wr wr') : Whl w p L num xs V (n + 1) on' st' fz' syn' sz brk' wr' :=
  ⟨ad.hs, ad.log, h.szl, h.lw, h.row.kept (fun k hk => ad.kp k (.inr (.inr hk)) (h.own k hk).2), h.own, h.good, h.bel.trans ad.bel⟩
end
theorem bytesOf_take (xs : List (Nat × Sl)) (k : Nat) : bytesOf (xs.take k) = (bytesOf xs).take k := by
  unfold bytesOf
  rw [List.map_take, List.map_take]
theorem bytes_short {w : World} {xs : List (Nat × Sl)} (h : ∀ x ∈ xs, GoodB w x) : ∀ s ∈ bytesOf xs, s.length ≤ 16777216 := by
  intro s hs
  unfold bytesOf at hs
  obtain ⟨b, hb, rfl⟩ := List.mem_map.1 hs
  obtain ⟨x, hx, rfl⟩ := List.mem_map.1 hb
  have := (rec_few (h x hx)).2
  show (putB x.1 x.2.ws).length ≤ _
  omega
/-- What is replayed of a first part of the bytes: the first batches, at least the synced ones. -/
theorem cut_whole {w : World} (xs : List (Nat × Sl)) (h : ∀ x ∈ xs, GoodB w x) (sf c : Nat) (hsf : sf ≤ xs.length) (hc : (frames (bytesOf (xs.take sf))).length ≤ c) :
    ∃ k, sf ≤ k ∧ k ≤ xs.length ∧ (scanF ((frames (bytesOf xs)).take c)).1 = ((xs.take k).map batOf).map Bat.bytes := by
  have hl : (bytesOf xs).length = xs.length := by simp [bytesOf]
  obtain ⟨k, h1, h2, -, -⟩ := scan_cut (bytesOf xs) c (bytes_short h)
  have h3 := scan_ge (bytesOf xs) c (bytes_short h) sf (by omega) (by rw [← bytesOf_take]; exact hc)
  rw [h2] at h3
  simp only [List.length_take] at h3
  refine ⟨k, by omega, by omega, ?_⟩
  rw [h2]
  exact (bytesOf_take xs k).symm
/-- Sync of a log that is well. -/
theorem whlSync {w : World} {p L num n : Nat} {xs : List (Nat × Sl)} {V : Value} {st fz : Int} {syn sz : Nat} (hn : n ≤ 90000) (hnum : num < 100000000) (w7 : World) (wl : Whl w p L num xs V n true st fz syn sz false w7) :
    Calls Tryz.prog 28 #[.pointer (some ⟨L, 0, none⟩)] w7 fun e w' => e = .returned (.int .i64 (if over fz then 14 else 0)) ∧ Whl w p L num xs V (n + 1) (!over fz) (st + 1) (tick fz) (if over fz then syn else (frames (bytesOf xs)).length) sz (over fz) w' := by
  have C := logSync_ok wl.hs hn L num hnum _ wl.log (.inr (.inl rfl)) wl.lw
  rw [St1.sync] at C
  refine C.mono ?_
  rintro e w' ⟨rfl, ad⟩
  refine ⟨rfl, wl.synced ?_⟩
  cases hov : over fz with
  | true => rw [hov] at ad; exact ad
  | false => rw [hov] at ad; exact ad
end Go.Proofs.YtkeepjlidonadaaGreat

namespace Go.Proofs.YtkeepjlidonadaaGreat
open Go.RowKit

/-- What is known behind the first loop. -/
def WholeEnd (w : World) (p L : Nat) (lv sv : Value) (wx : World) : Prop := ∃ (xs : List (Nat × Sl)) (sf : Nat) (on brk : Bool) (st fz : Int) (syn sz : Nat), sv = .int .i64 (sf : Int) ∧ xs.length ≤ 20 ∧ sf ≤ xs.length ∧ syn = (frames (bytesOf (xs.take sf))).length ∧ Whl w p L 3 xs lv 60 on st fz syn sz brk wx
set_option maxHeartbeats 8000000 in
set_option maxRecDepth 100000 in
theorem walWhole_hard (a : Option Addr) (len cap : Nat) (ls : List Sl) (every fuse dir keep : Int) (w : World) (hI : IsWss w a len ls) (hl20 : len ≤ 20) (he1 : 1 ≤ every) (he2 : every ≤ 20) (hf0 : 0 ≤ fuse) (hf1 : fuse ≤ 9223372036854775807) :
    Calls Tryz.prog 6 #[.slice a len cap, .int .i64 every, .int .i64 fuse, .int .i64 dir, .int .i64 keep] w fun e w' => e = .returned (.bool true) ∧ Below w.heap.size w w' := by
  obtain ⟨i0, hi, hz0, hzs, hzb⟩ := info_parts infoBat
  have hll : ls.length = len := hI.2.1
  have d1 : decide (20 < (len : Int)) = false := by simp; omega
  have d1' : decide (20 < len) = false := by simp; omega
  have d2 : decide (every < 1) = false := by simp; omega
  have d3 : decide (20 < every) = false := by simp; omega
  have d4 : decide (fuse < 0) = false := by simp; omega
  have C0 := Lib.hid (hs_new 0 (by omega) w)
  have CA := Lib.hid alive6_any
  have HI := Lib.hid hI
  clear hI
  go_enter Tryz.func6, Tryz.ntmps6
  go_wp2_with (fail)
  go_at_call 24
  refine C0.out.mono ?_
  rintro _ w0 ⟨p, rfl, h0, b0⟩
  have C1 := logCreate_any h0 (by omega) 3 (by omega)
  rw [mkLog_new] at C1
  simp only [show ((3 : Nat) : Int) = 3 from rfl] at C1
  have C1 := Lib.hid C1
  go_wp2_with (fail)
  go_at_call 31
  refine C1.out.mono ?_
  rintro _ w1 ⟨pv, rfl, b1, k1, ⟨hx, -⟩ | ⟨-, L, rfl, hL0, lg1, hs1⟩⟩
  · exact absurd rfl hx
  have hB0 := h0.size
  have hLB : w.heap.size ≤ L := by omega
  have CF := Lib.hid (hs_fuse hs1 fuse hf1)
  clear C0 C1 h0 k1 hL0 hB0
  go_wp2_with (fail)
  go_at_call 45
  refine CF.out.mono ?_
  rintro _ wf ⟨rfl, hsf, bf, kf⟩
  have wl0 : Whl w p L 3 [] (.slice none 0 0) 3 true 2 fuse 0 0 false wf := ⟨(hsf.fewer (fun k hk => by
    rcases hk with hk | hk | hk
    · exact .inl hk
    · exact .inr hk
    · simp [ob] at hk)).up (by omega) (by simp), lg1.kept (kf L (.inr rfl)), by simp, hLB, row_nil _ _ _, fun k hk => by simp [ob] at hk, by simp, (b0.trans b1).trans bf⟩
  clear CF hs1 lg1 kf hsf b0 b1 bf
  go_upto_block 0 with fail
  go_cut [14, 15] (fun lv sv wx => WholeEnd w p L lv sv wx)
  case first =>
    go_wp2_with (fail)
    go_loopw [14, 15, 16] (fun lv sv iv wr => ∃ (i : Nat) (xs : List (Nat × Sl)) (V : Value) (sf : Nat) (st fz : Int) (syn sz : Nat), V = lv ∧ sv = .int .i64 (sf : Int) ∧ iv = .int .i64 (i : Int) ∧ i ≤ len ∧ xs.length ≤ i ∧ sf ≤ xs.length ∧ Hid (syn = (frames (bytesOf (xs.take sf))).length) ∧ Whl w p L 3 xs V (3 + 2 * i) true st fz syn sz false wr) (fun _ _ iv _ => len - (intOf iv).toNat)
    case atStart => exact ⟨0, [], _, 0, 2, fuse, 0, 0, rfl, rfl, rfl, Nat.zero_le _, Nat.le_refl _, Nat.le_refl _, Lib.hid (by simp [bytesOf, frames]), wl0⟩
    case round =>
      obtain ⟨i, xs, V, sf, st, fz, syn, sz, rfl, rfl, rfl, hi0, hxl, hsl, HSY, hwl⟩ := hrel
      by_cases hlt : i < len
      · obtain ⟨b, off, rfl, hbl, hcell⟩ : ∃ b off, a = some ⟨b, off, none⟩ ∧ b < w.heap.size ∧ w.cell? ⟨b, off + i, none⟩ = some (ls[i]'(by omega)).val := by
          rcases HI.out.2.2.2 with h0 | ⟨b, off, e, h1, h2⟩
          · omega
          · exact ⟨b, off, e, h1, h2 i (by omega)⟩
        obtain ⟨⟨sa, sn, sc, ws⟩, hsl2⟩ : ∃ s, ls[i]'(by omega) = s := ⟨_, rfl⟩
        have hws : IsWs w sa sn ws := by
          have := HI.out.2.2.1 (ls[i]'(by omega)) (List.getElem_mem _)
          rw [hsl2] at this
          exact this
        rw [hsl2] at hcell
        obtain rfl : ws.length = sn := hws.2.2.1
        have q0 : wr.cell? ⟨b, off + i, none⟩ = some (.slice sa ws.length sc) := (hwl.bel.cell (p := ⟨b, off + i, none⟩) hbl).trans hcell
        have hil : (i : Int) < (len : Int) := by omega
        have wsr := hws.to hwl.bel
        have CS := Lib.hid (smallW_any sa ws.length sc ws wsr.2.2 (by have := wsr.1; unfold maxLen at this; omega) wsr.2.1)
        have hbr : b < wr.heap.size := by have := hwl.bel.size; omega
        clear hcell hsl2
        go_wp2_with (fail)
        go_at_call 9
        refine CS.out.mono ?_
        rintro _ w2 ⟨t, rfl, hfew, b2⟩
        have q2 := (b2.cell (p := ⟨b, off + i, none⟩) hbr).trans q0
        have wl2 := hwl.below b2
        clear CS
        cases t with
        | false =>
          have hb2 := wl2.bel
          go_wp2_with (go_at_call 10; refine (CA.out _).mono ?_; rintro _ w3 ⟨rfl, b3⟩)
          go_ret
          exact ⟨rfl, hb2.trans (b3.mono hb2.size)⟩
        | true =>
          have few := hfew rfl
          by_cases h10 : ws.length ≤ 10
          · have d10 : decide (10 < (ws.length : Int)) = false := by simp; omega
            have d10' : decide (10 < ws.length) = false := by simp; omega
            obtain ⟨f, hfe⟩ : ∃ f : Nat, 10 * i = f := ⟨_, rfl⟩
            have hf64 : f < 18446744073709551616 := by omega
            have ef : 10 * (i : Int) = (f : Int) := by omega
            have wi : IntKind.i64.wrap (f : Int) = (f : Int) := by rw [IntKind.wrap_i64]; omega
            have wf : IntKind.u64.wrap (f : Int) = (f : Int) := by rw [IntKind.wrap_u64]; omega
            have xb : BoxB (w2.alloc (.cells #[.int .u64 (f : Int), .slice sa ws.length sc] 48)) w2.heap.size (f : Int) (.slice sa ws.length sc) := heap_alloc_new w2 _
            have wlb := wl2.below (bel_alloc w2 (.cells #[.int .u64 (f : Int), .slice sa ws.length sc] 48))
            have hsG := wl2.hs.below (bel_alloc w2 (.cells #[.int .u64 (f : Int), .slice sa ws.length sc] 48)) (G := fun k => (k < w.heap.size ∨ k = L ∨ ob V = some k) ∨ k = w2.heap.size) (fun k hk => hk.elim .inl (fun e => .inr ⟨by omega, by simp; omega⟩))
            have hLb : L < w2.heap.size := wl2.log.lt
            have hwsb := (hws.to wlb.bel).2.2
            cases hok : wrsOk ws with
            | false =>
              have CB := Lib.hid (add_bad L 3 _ wlb.log f hf64 sa ws.length sc ws hwsb (by omega) (by have := few.2; omega) hok)
              have WLB := Lib.hid wlb
              clear hok xb wlb hsG hwsb hfe q0 hwl wl2 b2
              go_wp2_with (fail)
              go_at_call 26
              refine CB.out.mono ?_
              rintro _ w5 ⟨rfl, b5⟩
              have wl5 := WLB.out.below b5
              have CO := Lib.hid (hs_on wl5.hs)
              go_wp2_with (go_at_call 46; refine CO.out.mono ?_; rintro _ _ ⟨rfl, rfl⟩)
              go_roundw
              case rel => exact ⟨i + 1, xs, V, sf, st, fz, syn, sz, rfl, rfl, by go_num, by omega, by omega, hsl, HSY, wl5.up (by omega)⟩
              case measure => simp [intOf]; omega
            | true =>
              have C9 := add_ok hsG (by omega) (by have := hxl; omega) L 3 (by omega) sz (by have := wlb.szl; omega) wlb.log (.inl (.inr (.inl rfl))) hLB f hf64 sa ws.length sc ws hwsb (by omega) (by have := few.2; omega) hok
              rw [St1.append] at C9
              have hszl := wlb.szl
              have HGD := Lib.hid (show GoodB w (f, ⟨sa, ws.length, sc, ws⟩) from ⟨hf64, hws, few, hok⟩)
              have hrl := recB_length f ws hf64 (by omega) (by have := few.2; omega)
              have y0 := xb.c0
              have y1 := xb.c1
              have HXB := Lib.hid xb
              have WLB := Lib.hid wlb
              have HB1 := Lib.hid (show xs.length + 1 ≤ maxLen by unfold maxLen; omega)
              have HB3 := Lib.hid (show (xs.length + 1) * 32 ≤ 140737488355328 by omega)
              have HSrc := Lib.hid (show ∀ w6 : World, Src Tryz.prog 2 56 (.slice (some ⟨w6.heap.size, 0, none⟩) 1 1) 1 [.int .u64 (f : Int), .slice sa ws.length sc] (w6.alloc (.cells #[.int .u64 (f : Int), .slice sa ws.length sc] 48)) from fun w6 => Src.ofSlice (P := Tryz.prog) _ (size := 2) Tryz.underlying56 ⟨w6.heap.size, 0, none⟩ 1 1 _ rfl (fun j u hu => by
                match j, hu with
                | 0, hu => simpa [Addr.add] using hu
                | 1, hu => simpa [Addr.add] using hu) (by simp [Value.oneCell']))
              have HTK := Lib.hid (show ∀ y : Nat × Sl, (xs ++ [y]).take sf = xs.take sf from fun y => List.take_append_of_le_length hsl)
              clear hok xb wlb hsG hwsb hfe q0 hwl wl2 b2
              cases hov : over fz with
              | true =>
                rw [hov] at C9
                simp only [show ((3 : Nat) : Int) = 3 from rfl, Bool.not_true, if_true] at C9
                have C9 := Lib.hid C9
                go_wp2_with (fail)
                go_at_call 26
                refine C9.out.mono ?_
                rintro _ w5 ⟨rfl, ad⟩
                have xb5 : BoxB w5 w2.heap.size (f : Int) (.slice sa ws.length sc) := (ad.kp w2.heap.size (.inr rfl) (by omega)).trans HXB.out
                have z0 := xb5.c0
                have z1 := xb5.c1
                have HRW := Lib.hid (show ∀ o, Row (w5.alloc o) 48 2 V xs.length (allCells xs) from fun o => (WLB.out.row.kept (fun k hk => ad.kp k (.inl (.inr (.inr hk))) ((WLB.out.own k hk).2))).kept (fun k hk => Below.heap_alloc w5 o k (ad.hs.lt k (.inl (.inr (.inr hk))))))
                have HAD := Lib.hid (show Added (fun k => (k < w.heap.size ∨ k = L ∨ ob V = some k) ∨ k = w2.heap.size) w.heap.size p (3 + 2 * i + 1) (xs.length * 300000 + (recB f ws).length) L ((3 : Nat) : Int) (sz : Int) true (St1 (nameB 3) false (st + 1) (tick fz) (frames (bytesOf xs) ++ recB f ws) syn) (w2.alloc (.cells #[.int .u64 (f : Int), .slice sa ws.length sc] 48)) w5 from ad)
                have HSZ := Lib.hid (show sz ≤ xs.length * 300000 + 300000 from Nat.le_trans hszl (Nat.le_add_right _ _))
                clear C9 ad xb5 y0 y1 HXB
                go_wp2_with (first
                  | (at_builtin; refine wpList_append_row _ rfl _ _ 56 56 rfl 48 i0 _ 2 32 Tryz.underlying56 hi hz0 hzs hzb rfl V _ _ rfl (HRW.out _) _ rfl 1 _ (HSrc.out _) HB1.out HB3.out ?_; intro v' w7 hrow7 hgrow7 hob7; have wl7 := WLB.out.more HGD.out HSZ.out HAD.out (fun k hk => .inl hk) hrow7 hgrow7 hob7)
                  | (go_at_call 46; refine (hs_on wl7.hs).mono ?_; rintro _ _ ⟨rfl, rfl⟩)
                  | fail)
                go_meet
                exact ⟨xs ++ [(f, ⟨sa, ws.length, sc, ws⟩)], sf, false, true, _, _, syn, sz, rfl, by rw [List.length_append, List.length_singleton]; omega, by rw [List.length_append, List.length_singleton]; omega, by rw [HTK.out]; exact HSY.out, wl7.up (by omega)⟩
              | false =>
                rw [hov] at C9
                simp only [show ((3 : Nat) : Int) = 3 from rfl, Bool.not_false, Bool.false_eq_true, if_false, if_true, ne_eq, not_true_eq_false, false_and, decide_false] at C9
                have C9 := Lib.hid C9
                go_wp2_with (fail)
                go_at_call 26
                refine C9.out.mono ?_
                rintro _ w5 ⟨rfl, ad⟩
                have xb5 : BoxB w5 w2.heap.size (f : Int) (.slice sa ws.length sc) := (ad.kp w2.heap.size (.inr rfl) (by omega)).trans HXB.out
                have z0 := xb5.c0
                have z1 := xb5.c1
                have HRW := Lib.hid (show ∀ o, Row (w5.alloc o) 48 2 V xs.length (allCells xs) from fun o => (WLB.out.row.kept (fun k hk => ad.kp k (.inl (.inr (.inr hk))) ((WLB.out.own k hk).2))).kept (fun k hk => Below.heap_alloc w5 o k (ad.hs.lt k (.inl (.inr (.inr hk))))))
                have HAD := Lib.hid (show Added (fun k => (k < w.heap.size ∨ k = L ∨ ob V = some k) ∨ k = w2.heap.size) w.heap.size p (3 + 2 * i + 1) (xs.length * 300000 + (recB f ws).length) L ((3 : Nat) : Int) ((sz + (recB f ws).length : Nat) : Int) false (St1 (nameB 3) true (st + 1) (tick fz) (frames (bytesOf xs) ++ recB f ws) syn) (w2.alloc (.cells #[.int .u64 (f : Int), .slice sa ws.length sc] 48)) w5 by
                  rw [show ((sz + (recB f ws).length : Nat) : Int) = (sz : Int) + ((recB f ws).length : Int) by omega]
                  exact ad)
                have HSZ := Lib.hid (show sz + (recB f ws).length ≤ xs.length * 300000 + 300000 from Nat.add_le_add hszl hrl)
                obtain ⟨r, hr⟩ : ∃ r : Int, (i : Int).tmod every = r := ⟨_, rfl⟩
                have hrb : 0 ≤ r ∧ r < 20 := by
                  rw [Int.tmod_eq_emod_of_nonneg (by omega)] at hr
                  have h1 := Int.emod_nonneg (i : Int) (show every ≠ 0 by omega)
                  have h2 := Int.emod_lt_of_pos (i : Int) (show 0 < every by omega)
                  omega
                have wr9 : IntKind.i64.wrap r = r := by rw [IntKind.wrap_i64]; omega
                have hev : ¬ every = 0 := by omega
                have hevb : (every == 0) = false := by simpa using hev
                clear C9 ad xb5 y0 y1 HXB hov
                cases hr0 : (r == 0) with
                | false =>
                  go_wp2_with (first
                    | (at_builtin; refine wpList_append_row _ rfl _ _ 56 56 rfl 48 i0 _ 2 32 Tryz.underlying56 hi hz0 hzs hzb rfl V _ _ rfl (HRW.out _) _ rfl 1 _ (HSrc.out _) HB1.out HB3.out ?_; intro v' w7 hrow7 hgrow7 hob7; have wl7 := WLB.out.more HGD.out HSZ.out HAD.out (fun k hk => .inl hk) hrow7 hgrow7 hob7)
                    | (go_at_call 46; refine (hs_on wl7.hs).mono ?_; rintro _ _ ⟨rfl, rfl⟩)
                    | fail)
                  go_roundw
                  case rel => exact ⟨i + 1, xs ++ [(f, ⟨sa, ws.length, sc, ws⟩)], v', sf, _, _, syn, _, rfl, rfl, by go_num, by omega, by rw [List.length_append, List.length_singleton]; omega, by rw [List.length_append, List.length_singleton]; omega, Lib.hid (by rw [HTK.out]; exact HSY.out), wl7.up (by omega)⟩
                  case measure => simp [intOf]; omega
                | true =>
                  cases hv2 : over (tick fz) with
                  | false =>
                    have CY := Lib.hid (fun v' W (h : Whl w p L 3 (xs ++ [(f, ⟨sa, ws.length, sc, ws⟩)]) v' (3 + 2 * i + 1) true (st + 1) (tick fz) syn (sz + (recB f ws).length) false W) => whlSync (by omega) (by omega) W h)
                    rw [hv2] at CY
                    simp only [Bool.false_eq_true, if_false, Bool.not_false] at CY
                    go_wp2_with (first
                      | (at_builtin; refine wpList_append_row _ rfl _ _ 56 56 rfl 48 i0 _ 2 32 Tryz.underlying56 hi hz0 hzs hzb rfl V _ _ rfl (HRW.out _) _ rfl 1 _ (HSrc.out _) HB1.out HB3.out ?_; intro v' w7 hrow7 hgrow7 hob7; obtain ⟨av, cv, rfl, -, -⟩ := hrow7.le; have wl7 := WLB.out.more HGD.out HSZ.out HAD.out (fun k hk => .inl hk) hrow7 hgrow7 hob7)
                      | (go_at_call 28; refine (CY.out _ _ wl7).mono ?_; rintro _ w8 ⟨rfl, wl8⟩)
                      | (go_at_call 46; refine (hs_on wl8.hs).mono ?_; rintro _ _ ⟨rfl, rfl⟩)
                      | fail)
                    go_roundw
                    case rel => exact ⟨i + 1, xs ++ [(f, ⟨sa, ws.length, sc, ws⟩)], _, xs.length + 1, _, _, _, _, rfl, by first | rfl | go_num, by go_num, by omega, by rw [List.length_append, List.length_singleton]; omega, by rw [List.length_append, List.length_singleton]; omega, Lib.hid (by rw [List.take_of_length_le (by rw [List.length_append, List.length_singleton]; omega)]), wl8.up (by omega)⟩
                    case measure => simp [intOf]; omega
                  | true =>
                    have CY := Lib.hid (fun v' W (h : Whl w p L 3 (xs ++ [(f, ⟨sa, ws.length, sc, ws⟩)]) v' (3 + 2 * i + 1) true (st + 1) (tick fz) syn (sz + (recB f ws).length) false W) => whlSync (by omega) (by omega) W h)
                    rw [hv2] at CY
                    simp only [if_true, Bool.not_true] at CY
                    go_wp2_with (first
                      | (at_builtin; refine wpList_append_row _ rfl _ _ 56 56 rfl 48 i0 _ 2 32 Tryz.underlying56 hi hz0 hzs hzb rfl V _ _ rfl (HRW.out _) _ rfl 1 _ (HSrc.out _) HB1.out HB3.out ?_; intro v' w7 hrow7 hgrow7 hob7; have wl7 := WLB.out.more HGD.out HSZ.out HAD.out (fun k hk => .inl hk) hrow7 hgrow7 hob7)
                      | (go_at_call 28; refine (CY.out _ _ wl7).mono ?_; rintro _ w8 ⟨rfl, wl8⟩)
                      | (go_at_call 46; refine (hs_on wl8.hs).mono ?_; rintro _ _ ⟨rfl, rfl⟩)
                      | fail)
                    go_meet
                    exact ⟨xs ++ [(f, ⟨sa, ws.length, sc, ws⟩)], sf, false, true, _, _, syn, _, rfl, by rw [List.length_append, List.length_singleton]; omega, by rw [List.length_append, List.length_singleton]; omega, by rw [HTK.out]; exact HSY.out, wl8.up (by omega)⟩
          · have d10 : decide (10 < (ws.length : Int)) = true := by simp; omega
            have d10' : decide (10 < ws.length) = true := by simp; omega
            have hb2 := wl2.bel
            go_wp2_with (go_at_call 10; refine (CA.out _).mono ?_; rintro _ w3 ⟨rfl, b3⟩)
            go_ret
            exact ⟨rfl, hb2.trans (b3.mono hb2.size)⟩
      · obtain rfl : i = len := by omega
        go_wp2_with (fail)
        go_meet
        exact ⟨xs, sf, true, false, st, fz, syn, sz, rfl, by omega, hsl, HSY.out, hwl.up (by omega)⟩
  case rest =>
    obtain ⟨xs, sf, on, brk, st, fz, syn, sz, rfl, hx20, hsl, hsy, hwl⟩ := hcut
    obtain ⟨aV, cV, rfl, hV⟩ := row_read hwl.row
    have C5 := hs_crash1 hwl.hs (by omega) (by omega) dir keep
    rw [St1.crash] at C5
    obtain ⟨cc, hcc⟩ : ∃ cc, syn + modn keep ((frames (bytesOf xs)).length - syn + 1) = cc := ⟨_, rfl⟩
    rw [hcc] at C5
    obtain ⟨k, hk1, hk2, hsc⟩ := cut_whole xs hwl.good sf cc hsl (by rw [← hsy]; omega)
    have hff := frames_few xs hwl.good
    have C5 := Lib.hid C5
    have HWL := Lib.hid hwl
    have HSC := Lib.hid hsc
    have hVn : ∀ g, aV = some ⟨g, 0, none⟩ → xs.length ≠ 0 → ob (.slice aV xs.length cV) = some g := by
      rintro g rfl h0
      rcases hwl.row.2 with ⟨h1, -⟩ | ⟨g', cap', cur, e1, hg, -⟩
      · exact absurd h1 h0
      · rw [e1]
        simp only [Value.slice.injEq, Option.some.injEq, Addr.mk.injEq] at e1
        obtain ⟨⟨rfl, -, -⟩, -, -⟩ := e1
        rfl
    have HVN := Lib.hid hVn
    have HV := Lib.hid hV
    clear hwl hsc hVn hV hcc hsy
    go_wp2_with (fail)
    go_at_call 47
    refine C5.out.mono ?_
    rintro _ w5 ⟨rfl, hs5, b5, k5⟩
    have C6 := Lib.hid (hs_restore hs5)
    go_wp2_with (fail)
    go_at_call 48
    refine C6.out.mono ?_
    rintro _ w6 ⟨rfl, hs6, b6, k6⟩
    rw [St1.restore] at hs6
    have bw6 : Below w.heap.size w w6 := (HWL.out.bel.trans b5).trans b6
    have C7 := replay_ok hs6 3 (by omega) ((frames (bytesOf xs)).take cc) (by rw [List.length_take]; omega) (by rw [St1.read]) ((xs.take k).map batOf) (by rw [List.length_map, List.length_take]; omega) (fun b hb => by
      obtain ⟨x, hx, rfl⟩ := List.mem_map.1 hb
      exact (HWL.out.good x (List.mem_of_mem_take hx)).ok) HSC.out
    simp only [show ((3 : Nat) : Int) = 3 from rfl] at C7
    have C7 := Lib.hid C7
    have H56 := Lib.hid (And.intro k5 k6)
    clear C5 C6 hs5 b5 b6 k5 k6 hff
    go_wp2_with (fail)
    go_at_call 35
    refine C7.out.mono ?_
    rintro _ w8 ⟨U, gs, rfl, hbt⟩
    obtain ⟨aU, cU, rfl, hU⟩ := row_read hbt.row
    have hkl : ((xs.take k).map batOf).length = k := by rw [List.length_map, List.length_take]; omega
    rw [hkl] at hU ⊢
    have bw8 : Below w.heap.size w w8 := bw6.trans (hbt.bel.mono bw6.size)
    have e1 : decide ((k : Int) < (sf : Int)) = false := by simp; omega
    have e1' : decide (k < sf) = false := by simp; omega
    have e2 : decide ((xs.length : Int) < (k : Int)) = false := by simp; omega
    have e2' : decide (xs.length < k) = false := by simp; omega
    have HBT := Lib.hid hbt
    have HU := Lib.hid hU
    have HKL := Lib.hid hkl
    clear hbt hU C7 hkl hs6
    go_wp2_with (fail)
    go_loopw [21] (fun iv wr2 => ∃ j : Nat, iv = .int .i64 (j : Int) ∧ j ≤ k ∧ Below w8.heap.size w8 wr2) (fun iv _ => k - (intOf iv).toNat)
    case atStart => exact ⟨0, rfl, Nat.zero_le _, Below.refl _ _⟩
    case round =>
      obtain ⟨j, rfl, hj0, hbj⟩ := hrel
      by_cases hlj : j < k
      · have hlx : j < xs.length := by omega
        obtain ⟨⟨fj, ⟨sa, sn, sc, ws⟩⟩, hx⟩ : ∃ x, xs[j] = x := ⟨_, rfl⟩
        have hgd := HWL.out.good xs[j] (List.getElem_mem hlx)
        rw [hx] at hgd
        obtain rfl : ws.length = sn := hgd.2.1.2.2.1
        have h60 : ws.length ≤ 60 := hgd.2.2.1.1
        obtain ⟨gV, rfl, hgV, cVs⟩ : ∃ g, aV = some ⟨g, 0, none⟩ ∧ g < w8.heap.size ∧ ∀ (t : Nat) (u : Value), (allCells xs)[t]? = some u → w8.cell? ⟨g, t, none⟩ = some u := by
          rcases HV.out with h0 | ⟨g, e1, e2, e3⟩
          · omega
          · have hob := HVN.out g e1 (by omega)
            have kk : w6.heap[g]? = wc.heap[g]? := (H56.out.2 g (.inr (.inr hob))).trans (H56.out.1 g (.inr (.inr hob)))
            have hg6 : g < w6.heap.size := by
              have h3 := e3 0 _ (allCells_get xs 0 (by omega)).1
              have h4 : w6.cell? ⟨g, 0, none⟩ = some _ := (World.cell?_of_block kk).trans h3
              exact World.block_lt_of_cell? w6 _ h4
            exact ⟨g, e1, Nat.lt_of_lt_of_le hg6 HBT.out.bel.size, fun t u hu => (HBT.out.bel.cell (p := ⟨g, t, none⟩) hg6).trans ((World.cell?_of_block kk).trans (e3 t u hu))⟩
        obtain ⟨gU, rfl, hgU, cUs⟩ : ∃ g, aU = some ⟨g, 0, none⟩ ∧ g < w8.heap.size ∧ ∀ (t : Nat) (u : Value), (batCells ((xs.take k).map batOf) gs)[t]? = some u → w8.cell? ⟨g, t, none⟩ = some u := by
          rcases HU.out with h0 | ⟨g, e1, e2, e3⟩
          · omega
          · exact ⟨g, e1, e2, e3⟩
        have hlm : j < ((xs.take k).map batOf).length := by rw [HKL.out]; exact hlj
        have hlg : j < gs.length := by rw [HBT.out.len]; exact hlm
        obtain ⟨m0, m1⟩ := batCells_get ((xs.take k).map batOf) gs j hlm hlg
        obtain ⟨n0, n1⟩ := allCells_get xs j hlx
        obtain ⟨wU, hgj, -⟩ := HBT.out.wrs j hlm hlg
        rw [List.getElem_map, List.getElem_take, hx] at m0 m1 wU
        rw [hx] at n0 n1
        simp only [batOf, Sl.val] at m0 m1 n0 n1 wU
        generalize gs[j] = gj at *
        obtain ⟨gj, cj⟩ := gj
        simp only at m1 wU hgj
        have u0 := (hbj.cell (p := ⟨gU, j * 2, none⟩) hgU).trans (cUs _ _ m0)
        have u1 := (hbj.cell (p := ⟨gU, j * 2 + 1, none⟩) hgU).trans (cUs _ _ m1)
        have v0 := (hbj.cell (p := ⟨gV, j * 2, none⟩) hgV).trans (cVs _ _ n0)
        have v1 := (hbj.cell (p := ⟨gV, j * 2 + 1, none⟩) hgV).trans (cVs _ _ n1)
        have hjl : (j : Int) < (k : Int) := by omega
        have hjx : (j : Int) < (xs.length : Int) := by omega
        have CW := Lib.hid (fun (nd : Nat) => sameW_any (some ⟨gj, 0, none⟩) sa cj sc ws (wr.drewN nd) (wU.grown (show Below w8.heap.size w8 (wr.drewN nd) from ⟨hbj.os, hbj.tape, hbj.output, hbj.size, hbj.block⟩)) ((hgd.2.1.to bw8).2.2.grown (show Below w8.heap.size w8 (wr.drewN nd) from ⟨hbj.os, hbj.tape, hbj.output, hbj.size, hbj.block⟩)) (by omega))
        clear m0 m1 n0 n1 wU cVs cUs hx hgd
        go_wp2_with (fail)
        go_quiet ((go_at_call 18; exact Calls.quiet_of (CW.out _)))
        go_wp2_with (fail)
        go_roundw
        case rel => exact ⟨j + 1, by go_num, by omega, ⟨hbj.os, hbj.tape, hbj.output, hbj.size, hbj.block⟩⟩
        case measure => simp [intOf]; omega
      · obtain rfl : j = k := by omega
        have bj : Below w.heap.size w wr := bw8.trans (hbj.mono bw8.size)
        go_wp2_with (go_at_call 10; refine (CA.out _).mono ?_; rintro _ w10 ⟨rfl, b10⟩)
        go_ret
        exact ⟨rfl, bj.trans (b10.mono bj.size)⟩
set_option maxHeartbeats 2000000 in
set_option maxRecDepth 100000 in
theorem walWhole_walk (a : Option Addr) (len cap : Nat) (ls : List Sl) (every : Int) (_ : -9223372036854775808 ≤ every) (_ : every ≤ 9223372036854775807) (fuse : Int) (_ : -9223372036854775808 ≤ fuse) (hf1 : fuse ≤ 9223372036854775807) (dir : Int) (_ : -9223372036854775808 ≤ dir) (_ : dir ≤ 9223372036854775807) (keep : Int) (_ : -9223372036854775808 ≤ keep) (_ : keep ≤ 9223372036854775807) (w : World) (hI : IsWss w a len ls) :
    Calls Tryz.prog 6 #[.slice a len cap, .int .i64 every, .int .i64 fuse, .int .i64 dir, .int .i64 keep] w fun e w' => e = .returned (.bool true) ∧ Below w.heap.size w w' := by
  have CA := Lib.hid alive6_any
  have hlm := hI.1
  unfold maxLen at hlm
  by_cases h20 : len ≤ 20
  · have d1 : decide (20 < (len : Int)) = false := by simp; omega
    have d1' : decide (20 < len) = false := by simp; omega
    by_cases he1 : 1 ≤ every
    · have d2 : decide (every < 1) = false := by simp; omega
      by_cases he2 : every ≤ 20
      · have d3 : decide (20 < every) = false := by simp; omega
        by_cases hf0 : 0 ≤ fuse
        · exact walWhole_hard a len cap ls every fuse dir keep w hI h20 he1 he2 hf0 hf1
        · have d4 : decide (fuse < 0) = true := by simp; omega
          clear hI
          go_enter Tryz.func6, Tryz.ntmps6
          go_wp2_with (go_at_call 10; refine (CA.out _).mono ?_; rintro _ w3 ⟨rfl, b3⟩)
          go_ret
          exact ⟨rfl, b3⟩
      · have d3 : decide (20 < every) = true := by simp; omega
        clear hI
        go_enter Tryz.func6, Tryz.ntmps6
        go_wp2_with (go_at_call 10; refine (CA.out _).mono ?_; rintro _ w3 ⟨rfl, b3⟩)
        go_ret
        exact ⟨rfl, b3⟩
    · have d2 : decide (every < 1) = true := by simp; omega
      clear hI
      go_enter Tryz.func6, Tryz.ntmps6
      go_wp2_with (go_at_call 10; refine (CA.out _).mono ?_; rintro _ w3 ⟨rfl, b3⟩)
      go_ret
      exact ⟨rfl, b3⟩
  · have d1 : decide (20 < (len : Int)) = true := by simp; omega
    have d1' : decide (20 < len) = true := by simp; omega
    clear hI
    go_enter Tryz.func6, Tryz.ntmps6
    go_wp2_with (go_at_call 10; refine (CA.out _).mono ?_; rintro _ w3 ⟨rfl, b3⟩)
    go_ret
    exact ⟨rfl, b3⟩
end Go.Proofs.YtkeepjlidonadaaGreat
