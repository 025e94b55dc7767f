/- Versions that came in; the statements' helpers Room and Small. -/
import Derived.Test.YthaalhigmihijabY1
import Derived.Test.YthaalhigmihijabRO
import Derived.Deep.Slices
import Derived.Deep.SlicePairs
import Derived.Deep.RegionHeld3
import Derived.ProofKit
import Derived.ChangeOld
import Derived.OpenShut
namespace Go.Proofs.Ythaalhigmihijab
open Go.RowKit
section
open Go.ChangeShapes Go.WideShapes Go.ChangeAt Go.Deep

def Ent.Ok (e : Ent) : Prop := e.k.size ≤ maxLen ∧ 0 ≤ e.s ∧ e.s ≤ 18446744073709551615 ∧ -9223372036854775808 ≤ e.n ∧ e.n ≤ 9223372036854775807 ∧ e.v.size ≤ maxLen
set_option maxRecDepth 100000 in
theorem ent_of {H : Type} {enc : TypeId × Value → H} {w : World} {base n : Nat} {sp : Nat → Bool} {held : Bool} {cs : List Value} {y : DataW H × List MemPlace}
    (h : DataW.trod enc Try.prog w base sp held n 30 cs = some y) (hl : cs.length = 4) : ∃ p : Ent, p.Ok ∧ cs = p.cells := by
  obtain ⟨xs, k, hk, hxy, _, hxl, hf⟩ := DataW.trod_struct Try.underlying30 h
  have c3 : Try.prog.cellsOf 3 = 1 := by kernel_rfl
  have c9 : Try.prog.cellsOf 9 = 1 := by kernel_rfl
  have cu : Try.prog.cellsOf 24 = 1 := by kernel_rfl
  match xs, hxl, cs, hl with
  | [y0, y1, y2, y3], _, [v0, v1, v2, v3], _ =>
    have g0 := hf 0 _ rfl
    have g1 := hf 1 _ rfl
    have g2 := hf 2 _ rfl
    have g3 := hf 3 _ rfl
    simp [c3, c9, cu] at g0 g1 g2 g3
    obtain ⟨s0, e0, -, b0⟩ := DataW.trod_string Try.underlying9 g0
    obtain ⟨z1, e1, -, b1⟩ := DataW.trod_int Try.underlying24 g1
    obtain ⟨z2, e2, -, b2⟩ := DataW.trod_int Try.underlying3 g2
    obtain ⟨s3, e3, -, b3⟩ := DataW.trod_string Try.underlying9 g3
    simp only [List.cons.injEq, and_true] at e0 e1 e2 e3
    subst e0 e1 e2 e3
    have k1 := bounds_u64 b1
    have k2 := bounds_i64 b2
    exact ⟨⟨s0, z1, z2, s3⟩, ⟨b0, k1.1, by have := k1.2; omega, k2.1, k2.2, b3⟩, rfl⟩
theorem ent_val {H : Type} {enc : TypeId × Value → H} {w : World} {base n : Nat} {sp : Nat → Bool} {held : Bool} {cs : Array Value} {y : DataW H × List MemPlace}
    (h : DataW.trod enc Try.prog w base sp held n 30 (Value.agg cs).cells.toList = some y) (hl : cs.size = Try.prog.cellsOf 30) : ∃ p : Ent, p.Ok ∧ Value.agg cs = p.val := by
  have c4 : Try.prog.cellsOf 30 = 4 := by kernel_rfl
  obtain ⟨p, hp, he⟩ := ent_of h (by rw [Value.cells, Array.length_toList, hl, c4])
  refine ⟨p, hp, ?_⟩
  have : cs = p.cells.toArray := by
    apply Array.ext'
    rw [List.toList_toArray]
    exact he
  rw [this]
  rfl
theorem add_plainE (b o j : Nat) : (⟨b, o, none⟩ : Addr).add j = ⟨b, o + j, none⟩ := by unfold Addr.add; split <;> simp_all
theorem block_ltE {w : World} {a : Addr} {v : Value} (h : w.cell? a = some v) : a.block < w.heap.size := by
  rcases Nat.lt_or_ge a.block w.heap.size with h1 | h1
  · exact h1
  · simp [World.cell?, Array.getElem?_eq_none h1] at h
/-- A list of versions that came in. -/
def IsEs (w : World) (a : Option Addr) (len : Nat) (l : List Ent) : Prop := len ≤ maxLen ∧ (∀ x ∈ l, x.Ok) ∧ EntsAt w.heap.size w a len l
theorem choose_ltE {α : Type} (z : α) {n : Nat} {p : Nat → α → Prop} (h : ∀ i, i < n → ∃ x, p i x) : ∃ f : Nat → α, ∀ i, i < n → p i (f i) := by
  classical
  exact ⟨fun i => if hi : i < n then Classical.choose (h i hi) else z, fun i hi => by
    simp only [hi, dite_true]
    exact Classical.choose_spec (h i hi)⟩
set_option maxRecDepth 100000 in
theorem rowE_of {H : Type} {enc : TypeId × Value → H} {w : World} {base fuel : Nat} {held : Bool} {a : Option Addr} {len cap : Nat} {x : DataW H × List MemPlace}
    (h : DataW.trod enc Try.prog w base (fun _ => true) held fuel 22 (Value.slice a len cap).cells.toList = some x) : ∃ l, IsEs w a len l := by
  have c4 : Try.prog.cellsOf 30 = 4 := by kernel_rfl
  rcases open_slice Try.underlying22 h with ⟨hcs, _⟩ | ⟨y, l, c, m, n, D, Pl, hcs, _, hl, hm, hmm, _, hx⟩
  · simp [Value.cells] at hcs
    obtain ⟨rfl, rfl, rfl⟩ := hcs
    exact ⟨[], by unfold maxLen; omega, by simp, rfl, .inl rfl⟩
  · simp [Value.cells] at hcs
    obtain ⟨rfl, rfl, rfl⟩ := hcs
    simp at hmm
    subst hmm
    have each : ∀ i, i < len → ∃ p : Ent, p.Ok ∧ ∀ j u, p.cells[j]? = some u → w.cell? (y.add (i * 4 + j)) = some u := by
      intro i hi
      obtain ⟨cs', h1, h2⟩ := hx i (by omega)
      rw [c4] at h1
      obtain ⟨_, hlen, hcell⟩ := World.cells?_some h1
      obtain ⟨p, hp, rfl⟩ := ent_of h2 hlen
      refine ⟨p, hp, fun j u hj => ?_⟩
      have hj4 : j < 4 := by
        have := (List.getElem?_eq_some_iff.1 hj).1
        simpa [Ent.cells] using this
      have := hcell j hj4
      rw [Addr.add_add] at this
      rw [this, hj]
    obtain ⟨q, hq⟩ := choose_ltE Ent.zero each
    refine ⟨(List.range len).map q, Nat.le_trans hl hm, ?_, by simp, ?_⟩
    · intro p hp
      obtain ⟨i, hi, rfl⟩ := List.mem_map.1 hp
      exact (hq i (List.mem_range.1 hi)).1
    · rcases Nat.eq_zero_or_pos len with h0 | h0
      · exact .inl h0
      · right
        have hc0 := (hq 0 h0).2 0 _ rfl
        obtain ⟨b, off, spot⟩ := y
        have hs : spot = none := by simpa [Addr.add] using World.cell?_spot hc0
        subst hs
        refine ⟨b, off, rfl, block_ltE hc0, ?_⟩
        intro i hi j u hu
        have hi' : i < len := by simpa using hi
        have e : ((List.range len).map q)[i] = q i := by simp
        rw [e] at hu
        have := (hq i hi').2 j u hu
        rw [add_plainE, ← Nat.add_assoc] at this
        exact this
end
/-- What a version that fits has. -/
def Ent.Short (e : Ent) : Prop := e.k.size ≤ 20000 ∧ e.v.size ≤ 20000
def lensE (x : Ent) : List Int := [(x.k.size : Int), (x.v.size : Int)]
theorem lensE_small {x : Ent} {r : Int} (h1 : -1 ≤ r) (h2 : r ≤ 20000) (h : 0 ≤ roomL r (lensE x)) : x.Short := by
  obtain ⟨-, -, h3⟩ := roomL_le (lensE x) r h1 (by simp [lensE])
  have := h3 h
  simp only [lensE, List.mem_cons, List.not_mem_nil, or_false, forall_eq_or_imp, forall_eq] at this
  unfold Ent.Short
  omega
set_option maxHeartbeats 4000000 in
set_option maxRecDepth 100000 in
theorem small_any {w : World} (a : Option Addr) (len cap : Nat) (es : List Ent) (hE : EntsAt w.heap.size w a len es) (hlm : len ≤ 9223372036854775807) (hok : ∀ x ∈ es, x.Ok) :
    Calls Try.prog 8 #[.slice a len cap] w fun e w' => ∃ t : Bool, e = .returned (.bool t) ∧ (t = true → len ≤ 150 ∧ ∀ x ∈ es, x.Short) ∧ Below w.heap.size w w' := by
  have hll : es.length = len := hE.1
  have HO := Lib.hid hE
  have HOK := Lib.hid hok
  clear hE hok
  go_enter Try.func8, Try.ntmps8
  go_wp2
  go_loopw [3, 4] (fun rv iv wr => ∃ (i : Nat) (q : Int), i ≤ len ∧ i ≤ 400 ∧ rv = .int .i64 q ∧ iv = .int .i64 (i : Int) ∧ -1 ≤ q ∧ q ≤ 20000 ∧ (0 ≤ q → ∀ x ∈ es.take i, x.Short) ∧ Below w.heap.size w wr) (fun _ iv _ => len - (intOf iv).toNat)
  case atStart => exact ⟨0, 20000, Nat.zero_le _, Nat.zero_le _, rfl, rfl, by omega, by omega, fun _ x hx => by simp at hx, Below.refl _ _⟩
  case round =>
    obtain ⟨i, q, hi, hi4, rfl, rfl, hq1, hq2, hsm, hbl⟩ := hrel
    have HSM := Lib.hid hsm
    clear hsm
    by_cases hgo : i < len ∧ i < 400 ∧ 0 ≤ q
    · obtain ⟨g1, g2, g3⟩ := hgo
      obtain ⟨b, off, rfl, hblt, st, hst, hcell⟩ : ∃ b off, a = some ⟨b, off, none⟩ ∧ b < w.heap.size ∧ ∃ x : Ent, es[i]? = some x ∧ ∀ j u, x.cells[j]? = some u → wr.cell? ⟨b, off + i * 4 + j, none⟩ = some u := by
        rcases (HO.out.below hbl).2 with h0 | ⟨b, off, e, h1, h2⟩
        · omega
        · exact ⟨b, off, e, h1, es[i]'(by omega), List.getElem?_eq_getElem (by omega), h2 i (by omega)⟩
      obtain ⟨hk, -, -, -, -, hv⟩ := HOK.out st (List.mem_of_getElem? hst)
      have hbr : b < wr.heap.size := by have := hbl.size; omega
      have q0 : wr.cell? ⟨b, off + i * 4, none⟩ = some (.string st.k) := hcell 0 _ rfl
      have q3 : wr.cell? ⟨b, off + i * 4 + 3, none⟩ = some (.string st.v) := hcell 3 _ rfl
      clear hcell
      have hil : (i : Int) < (len : Int) := by omega
      have d1 : decide ((i : Int) < 400) = true := by simp; omega
      have d2 : decide (0 ≤ q) = true := decide_eq_true g3
      have hR := room_list wr.heap.size 2 (lensE st) q (wr.alloc (.cells #[.int .i64 (st.k.size : Int), .int .i64 (st.v.size : Int)] 3)).drew hq1 (by omega) (by simp [lensE]) (by unfold maxLen at *; simp [lensE]; omega) (fun j hj => by
        match j, hj with
        | 0, _ => exact nce rfl rfl
        | 1, _ => exact nce rfl rfl)
      have hlen4 : (lensE st).length = 2 := rfl
      rw [hlen4] at hR
      obtain ⟨r1, r2, -⟩ := roomL_le (lensE st) q hq1 (by simp [lensE])
      have HS4 := Lib.hid (lensE_small (x := st) hq1 hq2)
      generalize roomL q (lensE st) = q' at hR r1 r2 HS4
      have HR := Lib.hid hR
      clear hR hlen4
      go_wp2
      go_region_held3 (fun w' => w'.cell? ⟨b, off + i * 4, none⟩ = some (.string st.k) ∧ w'.cell? ⟨b, off + i * 4 + 3, none⟩ = some (.string st.v)) (first | go_keep | exact ⟨oce hbr q0, oce hbr q3⟩) (first | (go_at_call 27; refine HR.out.mono ?_; rintro e w1 ⟨rfl, rfl⟩) | fail)
      all_goals go_wp2
      all_goals
        have hnx : 0 ≤ q' → ∀ x ∈ es.take (i + 1), x.Short := by
          intro h0 x hx
          rw [List.take_add_one, hst] at hx
          rcases List.mem_append.1 hx with hx | hx
          · exact HSM.out g3 x hx
          · simp at hx
            rw [hx]
            exact HS4.out h0
        have hbn : Below w.heap.size w (wr.alloc (.cells #[.int .i64 (st.k.size : Int), .int .i64 (st.v.size : Int)] 3)).drew := (hbl.alloc hbl.size _).drew
      all_goals go_roundw
      all_goals first
        | exact ⟨i + 1, q', by omega, by omega, rfl, by go_num, r1, by omega, hnx, hbn⟩
        | (simp [intOf]; omega)
    · by_cases hl2 : len ≤ 150 ∧ 0 ≤ q
      · obtain ⟨m1, m2⟩ := hl2
        obtain rfl : i = len := by omega
        have d1 : decide ((i : Int) ≤ 150) = true := by simp; omega
        have d2 : decide (0 ≤ q) = true := decide_eq_true m2
        go_wp2
        go_ret
        refine ⟨true, rfl, fun _ => ⟨m1, fun x hx => HSM.out m2 x ?_⟩, hbl⟩
        rw [List.take_of_length_le (by omega)]
        exact hx
      · by_cases e1 : i < len
        · have hil : (i : Int) < (len : Int) := by omega
          by_cases e2 : i < 400
          · have hq : q < 0 := by omega
            have d1 : decide ((i : Int) < 400) = true := by simp; omega
            have d2 : decide (0 ≤ q) = false := decide_eq_false (by omega)
            by_cases e3 : len ≤ 150
            · have d3 : decide ((len : Int) ≤ 150) = true := by simp; omega
              go_wp2
              go_ret
              exact ⟨false, rfl, fun h => (by cases h), hbl⟩
            · have d3 : decide ((len : Int) ≤ 150) = false := by simp; omega
              go_wp2
              go_ret
              exact ⟨false, rfl, fun h => (by cases h), hbl⟩
          · have d1 : decide ((i : Int) < 400) = false := by simp; omega
            have d3 : decide ((len : Int) ≤ 150) = false := by simp; omega
            go_wp2
            go_ret
            exact ⟨false, rfl, fun h => (by cases h), hbl⟩
        · obtain rfl : i = len := by omega
          by_cases e3 : i ≤ 150
          · have d3 : decide ((i : Int) ≤ 150) = true := by simp; omega
            have d2 : decide (0 ≤ q) = false := decide_eq_false (by omega)
            go_wp2
            go_ret
            exact ⟨false, rfl, fun h => (by cases h), hbl⟩
          · have d3 : decide ((i : Int) ≤ 150) = false := by simp; omega
            go_wp2
            go_ret
            exact ⟨false, rfl, fun h => (by cases h), hbl⟩
end Go.Proofs.Ythaalhigmihijab
