/- What the statements are handed as a list of parts, and their helpers Room and small: a list that small lets by is short. -/
import Derived.Test.YtgoehmmmajdenaaGreatDoorK9
import Derived.ProofKit
import Derived.OpenShut
import Derived.Deep.Slices
import Derived.Deep.SlicePairs
namespace Go.Proofs.YtgoehmmmajdenaaGreatDoor
open Go.RowKit Go.ChangeShapes Go.WideShapes Go.ChangeAt Go.Deep

instance : Inhabited Prt := ⟨⟨0, [], 0, 0⟩⟩
/-- A part as it may come in. -/
def Prt.Wide (p : Prt) : Prop := p.n < 18446744073709551616 ∧ -9223372036854775808 ≤ p.i ∧ p.i ≤ 9223372036854775807 ∧ p.s.length ≤ maxLen

set_option maxRecDepth 100000 in
theorem part_of {H : Type} {enc : TypeId × Value → H} {w : World} {base n : Nat} {sp : Nat → Bool} {held : Bool} {cs : List Value} {y : DataW H × List MemPlace}
    (h : DataW.trod enc Tryz.prog w base sp held n 66 cs = some y) (hl : cs.length = 4) : ∃ p : Prt, p.Wide ∧ cs = p.cells := by
  obtain ⟨xs, k, hk, hxy, _, hxl, hf⟩ := DataW.trod_struct Tryz.underlying66 h
  have c3 : Tryz.prog.cellsOf 3 = 1 := by kernel_rfl
  have c9 : Tryz.prog.cellsOf 9 = 1 := by kernel_rfl
  have cu : Tryz.prog.cellsOf 24 = 1 := by kernel_rfl
  match xs, hxl, cs, hl with
  | [y0, y1, y2, y3], _, [v0, v1, v2, v3], _ =>
    have g0 := hf 0 _ rfl
    have g1 := hf 1 _ rfl
    have g2 := hf 2 _ rfl
    have g3 := hf 3 _ rfl
    simp [c3, c9, cu] at g0 g1 g2 g3
    obtain ⟨z0, e0, -, b0⟩ := DataW.trod_int Tryz.underlying3 g0
    obtain ⟨s1, e1, -, b1⟩ := DataW.trod_string Tryz.underlying9 g1
    obtain ⟨z2, e2, -, b2⟩ := DataW.trod_int Tryz.underlying24 g2
    obtain ⟨z3, e3, -, b3⟩ := DataW.trod_int Tryz.underlying3 g3
    simp only [List.cons.injEq, and_true] at e0 e1 e2 e3
    subst e0 e1 e2 e3
    have b2 := bounds_u64 b2
    have b3 := bounds_i64 b3
    refine ⟨⟨z0, s1.data.toList, z2.toNat, z3⟩, ⟨by simp only; omega, b3.1, b3.2, b1⟩, ?_⟩
    have e : ((z2.toNat : Nat) : Int) = z2 := by omega
    simp [Prt.cells, e]

set_option maxRecDepth 100000 in
theorem rowP_of {H : Type} {enc : TypeId × Value → H} {w : World} {base fuel : Nat} {held : Bool} {a : Option Addr} {len cap : Nat} {x : DataW H × List MemPlace}
    (h : DataW.trod enc Tryz.prog w base (fun _ => true) held fuel 22 (Value.slice a len cap).cells.toList = some x) : len ≤ maxLen ∧ ∃ ps : List Prt, ps.length = len ∧ (∀ p ∈ ps, p.Wide) ∧ IsRowP w a ps := by
  have c4 : Tryz.prog.cellsOf 66 = 4 := by kernel_rfl
  rcases open_slice Tryz.underlying22 h with ⟨hcs, _⟩ | ⟨y, l, c, m, n, D, Pl, hcs, _, hl, hm, hmm, _, hx⟩
  · simp [Value.cells] at hcs
    obtain ⟨rfl, rfl, rfl⟩ := hcs
    exact ⟨by unfold maxLen; omega, [], rfl, by simp, .inl rfl⟩
  · simp [Value.cells] at hcs
    obtain ⟨rfl, rfl, rfl⟩ := hcs
    simp at hmm
    subst hmm
    refine ⟨Nat.le_trans hl hm, ?_⟩
    have each : ∀ i, i < len → ∃ p : Prt, p.Wide ∧ ∀ j u, p.cells[j]? = some u → w.cell? (y.add (i * 4 + j)) = some u := by
      intro i hi
      obtain ⟨cs', h1, h2⟩ := hx i (by omega)
      rw [c4] at h1
      obtain ⟨_, hlen, hcell⟩ := World.cells?_some h1
      obtain ⟨p, hp, rfl⟩ := part_of h2 hlen
      refine ⟨p, hp, fun j u hj => ?_⟩
      have hj4 : j < 4 := by
        have := (List.getElem?_eq_some_iff.1 hj).1
        simpa [Prt.cells] using this
      have := hcell j hj4
      rw [add_add] at this
      rw [this, hj]
    obtain ⟨q, hq⟩ := choose_lt each
    refine ⟨(List.range len).map q, by simp, ?_, ?_⟩
    · intro p hp
      obtain ⟨i, hi, rfl⟩ := List.mem_map.1 hp
      exact (hq i (List.mem_range.1 hi)).1
    · rcases Nat.eq_zero_or_pos len with h0 | h0
      · left; subst h0; rfl
      · right
        have hc0 := (hq 0 h0).2 0 _ rfl
        obtain ⟨b, off, spot⟩ := y
        have hs : spot = none := by simpa [Addr.add] using World.cell?_spot hc0
        subst hs
        refine ⟨b, off, rfl, ?_⟩
        intro i hi j u hu
        have hi' : i < len := by simpa using hi
        have e : ((List.range len).map q)[i] = q i := by simp
        rw [e] at hu
        have := (hq i hi').2 j u hu
        rw [add_plain, ← Nat.add_assoc] at this
        exact this

/-- What is left of the room behind one more size. -/
def room1 (r sz : Int) : Int := if r < 0 ∨ r < sz then -1 else r - sz

set_option maxHeartbeats 1000000 in
set_option maxRecDepth 100000 in
theorem room_any (r sz : Int) (b : Nat) (w : World) (hr0 : -1 ≤ r) (hr1 : r ≤ 1000000) (hs0 : 0 ≤ sz) (hs1 : sz ≤ 9223372036854775807) (hc : w.cell? ⟨b, 0, none⟩ = some (.int .i64 sz)) :
    Calls Tryz.prog 24 #[.int .i64 r, .slice (some ⟨b, 0, none⟩) 1 1] w fun e w' => e = .returned (.int .i64 (room1 r sz)) ∧ w = w' := by
  unfold room1
  by_cases h : r < 0 ∨ r < sz
  · rw [if_pos h]
    by_cases h0 : r < 0
    · clear h
      go_enter Tryz.func24, Tryz.ntmps24
      go_wp2
      refine wp_loop_rounds 1 ?_
      rw [rounds_succ]
      go_wp2
      go_ret
      exact ⟨rfl, rfl⟩
    · have h2 : r < sz := by omega
      have hd : decide (r < 0) = false := by simpa using h0
      clear h
      go_enter Tryz.func24, Tryz.ntmps24
      go_wp2
      refine wp_loop_rounds 1 ?_
      rw [rounds_succ]
      go_wp2
      go_ret
      exact ⟨rfl, rfl⟩
  · rw [if_neg h]
    have h0 : 0 ≤ r := by omega
    have h2 : sz ≤ r := by omega
    have hd : decide (r < 0) = false := by simpa using h0
    clear h
    go_enter Tryz.func24, Tryz.ntmps24
    go_wp2
    refine wp_loop_rounds 2 ?_
    rw [rounds_succ]
    go_wp2
    rw [rounds_succ]
    go_wp2
    go_ret
    exact ⟨rfl, rfl⟩

/-- How many bytes the texts of parts have together. -/
def sizes (ps : List Prt) : Nat := (ps.map fun p => p.s.length).sum
theorem sizes_snoc (ps : List Prt) (p : Prt) : sizes (ps ++ [p]) = sizes ps + p.s.length := by simp [sizes]
theorem sizes_mem : ∀ (ps : List Prt) (p : Prt), p ∈ ps → p.s.length ≤ sizes ps
  | q :: r, p, h => by
    have e : sizes (q :: r) = q.s.length + sizes r := by simp [sizes]
    rcases List.mem_cons.1 h with rfl | h
    · omega
    · have := sizes_mem r p h; omega
def TellsSmall (ps : List Prt) (e : Ending) : Prop := ∃ t : Bool, e = .returned (.bool t) ∧ (t = true → ps.length ≤ 60 ∧ sizes ps ≤ 6000)

set_option maxHeartbeats 1000000 in
set_option maxRecDepth 100000 in
theorem small_none (a : Option Addr) (cap : Nat) (w : World) :
    Calls Tryz.prog 4 #[.slice a 0 cap] w fun e w' => TellsSmall [] e ∧ Below w.heap.size w w' := by
  go_enter Tryz.func4, Tryz.ntmps4
  go_wp2
  refine wp_loop_rounds 1 ?_
  rw [rounds_succ]
  go_wp2
  go_ret
  exact ⟨⟨_, rfl, fun _ => by decide⟩, Below.refl _ _⟩

set_option maxHeartbeats 2000000 in
set_option maxRecDepth 100000 in
theorem small_some (b off cap : Nat) (ps : List Prt) (w : World) (hb : b < w.heap.size) (hwide : ∀ p ∈ ps, p.Wide) (hlm : ps.length ≤ maxLen)
    (hc : ∀ i (h : i < ps.length) j u, (ps[i]).cells[j]? = some u → w.cell? ⟨b, off + i * 4 + j, none⟩ = some u) :
    Calls Tryz.prog 4 #[.slice (some ⟨b, off, none⟩) ps.length cap] w fun e w' => TellsSmall ps e ∧ Below w.heap.size w w' := by
  unfold maxLen at hlm
  go_enter Tryz.func4, Tryz.ntmps4
  go_wp2
  go_loopw [3, 4] (fun vr vi wr => ∃ (k : Nat) (r : Int), k ≤ ps.length ∧ k ≤ 200 ∧ vi = .int .i64 k ∧ vr = .int .i64 r ∧ -1 ≤ r ∧ r ≤ 6000 ∧ Hid (0 ≤ r → (sizes (ps.take k) : Int) + r = 6000) ∧ Below w.heap.size w wr) (fun _ i _ => ps.length - (intOf i).toNat)
  case atStart => exact ⟨0, 6000, Nat.zero_le _, by omega, rfl, rfl, by omega, by omega, fun _ => by simp [sizes], Below.refl _ _⟩
  case round =>
    obtain ⟨k, r, hk, hk2, rfl, rfl, hr0, hr1, HR, hbel⟩ := hrel
    by_cases hA : k < ps.length ∧ k < 200 ∧ 0 ≤ r
    · obtain ⟨hkl, hk3, hr⟩ := hA
      obtain ⟨-, cx1, -, -⟩ := row_cells hc k hkl
      rw [← hbel.cell (by exact hb)] at cx1
      have HT := Lib.hid (show sizes (ps.take (k + 1)) = sizes (ps.take k) + ps[k].s.length by rw [List.take_succ_eq_append_getElem hkl, sizes_snoc])
      have hw1 := (hwide _ (List.getElem_mem hkl)).2.2.2
      unfold maxLen at hw1
      generalize ps[k].s = sk at cx1 HT hw1
      have hi1 : (k : Int) < (ps.length : Int) := by omega
      have hi2 : (k : Int) < 200 := by omega
      go_wp2_with (go_at_call 24; refine (room_any r (sk.length : Int) wr.heap.size _ hr0 (by omega) (by omega) (by omega) (by simp)).mono ?_; rintro e w1 ⟨rfl, rfl⟩)
      go_roundw
      case rel =>
        refine ⟨k + 1, room1 r sk.length, by omega, by omega, by go_num, rfl, ?_, ?_, ?_, hbel.alloc hbel.size _⟩
        · unfold room1; split <;> omega
        · unfold room1; split <;> omega
        · intro h0
          have h1 := HR.out hr
          rw [HT.out]
          unfold room1 at h0 ⊢
          split at h0
          · omega
          · rename_i hh
            rw [if_neg hh]
            omega
      case measure => simp [intOf]; omega
    · by_cases h60 : ps.length ≤ 60
      · by_cases hkl : k < ps.length
        · have hr : r < 0 := by omega
          have hd1 : decide ((0 : Int) ≤ r) = false := by simp; omega
          have hi2 : (k : Int) < 200 := by omega
          have hi1 : (k : Int) < (ps.length : Int) := by omega
          go_wp2
          go_ret
          exact ⟨⟨_, rfl, by simp⟩, hbel⟩
        · have hke : k = ps.length := by omega
          have hfin := Lib.hid (show 0 ≤ r → ps.length ≤ 60 ∧ sizes ps ≤ 6000 by
            intro h0
            have := HR.out h0
            rw [hke, List.take_length] at this
            exact ⟨h60, by omega⟩)
          have hd1 : decide ((k : Int) < (ps.length : Int)) = false := by simp; omega
          go_wp2
          go_ret
          exact ⟨⟨_, rfl, fun h => hfin.out (by simpa using h)⟩, hbel⟩
      · have hd6 : decide ((ps.length : Int) ≤ 60) = false := by simp; omega
        by_cases hkl : k < ps.length
        · have hi1 : (k : Int) < (ps.length : Int) := by omega
          by_cases hk3 : k < 200
          · have hi2 : (k : Int) < 200 := by omega
            have hd1 : decide ((0 : Int) ≤ r) = false := by simp; omega
            go_wp2
            go_ret
            exact ⟨⟨_, rfl, by simp⟩, hbel⟩
          · have hd1 : decide ((k : Int) < 200) = false := by simp; omega
            go_wp2
            go_ret
            exact ⟨⟨_, rfl, by simp⟩, hbel⟩
        · have hd1 : decide ((k : Int) < (ps.length : Int)) = false := by simp; omega
          go_wp2
          go_ret
          exact ⟨⟨_, rfl, by simp⟩, hbel⟩

theorem small_any (a : Option Addr) (cap : Nat) (ps : List Prt) (w : World) (hwide : ∀ p ∈ ps, p.Wide) (hlm : ps.length ≤ maxLen) (hr : IsRowP w a ps) :
    Calls Tryz.prog 4 #[.slice a ps.length cap] w fun e w' => TellsSmall ps e ∧ Below w.heap.size w w' := by
  rcases hr with rfl | ⟨b, off, rfl, hc⟩
  · exact small_none a cap w
  · rcases Nat.eq_zero_or_pos ps.length with h0 | h0
    · obtain rfl := List.eq_nil_of_length_eq_zero h0
      exact small_none _ cap w
    · exact small_some b off cap ps w (block_lt (row_cells hc 0 h0).1) hwide hlm hc
end Go.Proofs.YtgoehmmmajdenaaGreatDoor
