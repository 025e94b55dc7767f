/- The statements' helpers Room, of a list of lengths, and Light: a list of steps that Light lets by is short. -/
import Derived.Test.YtfndlfnlepndmaaGreatFG
import Derived.Test.YtfndlfnlepndmaaGreatTO
import Derived.Deep.RegionHeld3
namespace Go.Proofs.YtfndlfnlepndmaaGreat
open Go.RowKit

def roomL : Int → List Int → Int
  | r, [] => r
  | r, z :: zs => if r < 0 ∨ z > r then -1 else roomL (r - z) zs
theorem roomL_le : ∀ (zs : List Int) (r : Int), -1 ≤ r → (∀ z ∈ zs, 0 ≤ z) → -1 ≤ roomL r zs ∧ roomL r zs ≤ r ∧ (0 ≤ roomL r zs → ∀ z ∈ zs, z ≤ r)
  | [], r, h, _ => ⟨h, Int.le_refl _, fun _ z hz => by cases hz⟩
  | z :: zs, r, h, hz => by
    unfold roomL
    have hz0 := hz z (by simp)
    split
    · exact ⟨by omega, by omega, fun h0 => by omega⟩
    · rename_i hn
      obtain ⟨h1, h2, h3⟩ := roomL_le zs (r - z) (by omega) (fun y hy => hz y (List.mem_cons_of_mem _ hy))
      refine ⟨h1, by omega, fun h0 y hy => ?_⟩
      rcases List.mem_cons.1 hy with rfl | hy
      · omega
      · have := h3 h0 y hy
        omega
theorem roomL_drop (zs : List Int) (k : Nat) (hk : k < zs.length) (r : Int) : roomL r (zs.drop k) = if r < 0 ∨ zs[k] > r then -1 else roomL (r - zs[k]) (zs.drop (k + 1)) := by
  rw [List.drop_eq_getElem_cons hk]
  rfl
set_option maxHeartbeats 1000000 in
set_option maxRecDepth 100000 in
theorem room_list (b cap : Nat) (zs : List Int) (r : Int) (w : World) (hr : -1 ≤ r) (hr2 : r ≤ 1000000000) (hl : zs.length ≤ 1000) (hz : ∀ z ∈ zs, 0 ≤ z ∧ z ≤ 9223372036854775807) (hc : ∀ i (h : i < zs.length), w.cell? ⟨b, i, none⟩ = some (.int .i64 zs[i])) :
    Calls Tryz.prog 20 #[.int .i64 r, .slice (some ⟨b, 0, none⟩) zs.length cap] w fun e w' => e = .returned (.int .i64 (roomL r zs)) ∧ w = w' := by
  have HC := Lib.hid hc
  have HZ := Lib.hid hz
  clear hc hz
  go_enter Tryz.func20, Tryz.ntmps20
  go_wp2
  go_loopw [0, 5] (fun rv iv wr => ∃ (k : Nat) (q : Int), k ≤ zs.length ∧ rv = .int .i64 q ∧ iv = .int .i64 (k : Int) ∧ -1 ≤ q ∧ q ≤ 1000000000 ∧ roomL q (zs.drop k) = roomL r zs ∧ wr = w) (fun _ iv _ => zs.length - (intOf iv).toNat)
  case atStart => exact ⟨0, r, Nat.zero_le _, rfl, rfl, hr, hr2, rfl, rfl⟩
  case round =>
    obtain ⟨k, q, hk, rfl, rfl, hq1, hq2, he, rfl⟩ := hrel
    by_cases hlt : k < zs.length
    · have c := HC.out k hlt
      have z := HZ.out zs[k] (List.getElem_mem _)
      rw [roomL_drop zs k hlt] at he
      generalize zs[k] = v at c z he
      have hkl : (k : Int) < (zs.length : Int) := by omega
      by_cases h1 : q < 0
      · rw [if_pos (.inl h1)] at he
        have d1 : decide (q < 0) = true := decide_eq_true h1
        go_wp2
        go_ret
        exact ⟨by rw [← he]; rfl, rfl⟩
      have d1 : decide (q < 0) = false := decide_eq_false h1
      by_cases h2 : q < v
      · rw [if_pos (.inr h2)] at he
        have d2 : decide (q < v) = true := decide_eq_true h2
        go_wp2
        go_ret
        exact ⟨by rw [← he]; rfl, rfl⟩
      have d2 : decide (q < v) = false := decide_eq_false h2
      rw [if_neg (by omega)] at he
      go_wp2
      go_roundw
      case rel => exact ⟨k + 1, q - v, by omega, by go_num, by go_num, by omega, by omega, he, (by first | rfl | trivial)⟩
      case measure => simp [intOf]; omega
    · obtain rfl : k = zs.length := by omega
      rw [List.drop_length] at he
      go_wp2
      go_ret
      exact ⟨by rw [← he]; rfl, rfl⟩
/-- What a step that fits has. -/
def Stp.small (x : Stp) : Prop := x.a.size ≤ 9000 ∧ x.b.size ≤ 9000 ∧ x.d.size ≤ 9000 ∧ x.ll ≤ 9000
def lensOf (x : Stp) : List Int := [(x.a.size : Int), (x.b.size : Int), (x.d.size : Int), (x.ll : Int)]
theorem lens_small {x : Stp} {r : Int} (h1 : -1 ≤ r) (h2 : r ≤ 9000) (h : 0 ≤ roomL r (lensOf x)) : x.small := by
  obtain ⟨-, -, h3⟩ := roomL_le (lensOf x) r h1 (by simp [lensOf])
  have := h3 h
  simp only [lensOf, List.mem_cons, List.not_mem_nil, or_false, forall_eq_or_imp, forall_eq] at this
  unfold Stp.small
  omega
set_option maxHeartbeats 4000000 in
set_option maxRecDepth 100000 in
theorem light_any {w0 w : World} (hb : Below w0.heap.size w0 w) (a : Option Addr) (len cap : Nat) (l : List Stp) (hO : IsOs w0 a len l) :
    Calls Tryz.prog 4 #[.slice a len cap] w fun e w' => ∃ t : Bool, e = .returned (.bool t) ∧ (t = true → len ≤ 200 ∧ ∀ x ∈ l, x.small) ∧ Below w.heap.size w w' := by
  have hlm : len ≤ 9223372036854775807 := by have := hO.1; unfold maxLen at this; omega
  have hll : l.length = len := hO.2.1
  have HO := Lib.hid hO
  clear hO
  go_enter Tryz.func4, Tryz.ntmps4
  go_wp2
  go_loopw [3, 4] (fun rv iv wr => ∃ (i : Nat) (q : Int), i ≤ len ∧ i ≤ 400 ∧ rv = .int .i64 q ∧ iv = .int .i64 (i : Int) ∧ -1 ≤ q ∧ q ≤ 9000 ∧ (0 ≤ q → ∀ x ∈ l.take i, x.small) ∧ Below w.heap.size w wr) (fun _ iv _ => len - (intOf iv).toNat)
  case atStart => exact ⟨0, 9000, Nat.zero_le _, Nat.zero_le _, rfl, rfl, by omega, by omega, fun _ x hx => by simp at hx, Below.refl _ _⟩
  case round =>
    obtain ⟨i, q, hi, hi4, rfl, rfl, hq1, hq2, hsm, hbl⟩ := hrel
    have HSM := Lib.hid hsm
    clear hsm
    by_cases hgo : i < len ∧ i < 400 ∧ 0 ≤ q
    · obtain ⟨g1, g2, g3⟩ := hgo
      obtain ⟨st, b, off, rfl, hst, hok, hcell⟩ : ∃ (st : Stp) (b off : Nat), a = some ⟨b, off, none⟩ ∧ l[i]? = some st ∧ st.Ok w0 ∧ ∀ j u, st.cells[j]? = some u → w0.cell? ⟨b, off + i * 6 + j, none⟩ = some u := by
        obtain ⟨-, -, hz1, hz2⟩ := HO.out
        rcases hz2 with h0 | ⟨b, off, e, hc⟩
        · rw [h0] at hll; simp at hll; omega
        · exact ⟨l[i]'(by omega), b, off, e, List.getElem?_eq_getElem (by omega), hz1 _ (List.getElem_mem _), fun j u hu => hc i (by omega) j u hu⟩
      obtain ⟨-, -, ha, hbs, hds, hlc, hcm, -, -⟩ := hok
      have hsz : w0.heap.size ≤ w.heap.size := hb.size
      have hbw : Below w0.heap.size w0 wr := hb.trans (hbl.mono hsz)
      have HQ := Lib.hid (fun j u (hu : st.cells[j]? = some u) => ((hbw.cell (p := ⟨b, off + i * 6 + j, none⟩) (World.block_lt_of_cell? w0 _ (hcell j u hu))).trans (hcell j u hu)))
      have hbr : b < wr.heap.size := Nat.lt_of_lt_of_le (World.block_lt_of_cell? w0 _ (hcell 0 _ rfl)) hbw.size
      clear hcell
      have q2 : wr.cell? ⟨b, off + i * 6 + 2, none⟩ = some (.string st.a) := HQ.out 2 _ rfl
      have q3 : wr.cell? ⟨b, off + i * 6 + 3, none⟩ = some (.string st.b) := HQ.out 3 _ rfl
      have q4 : wr.cell? ⟨b, off + i * 6 + 4, none⟩ = some (.string st.d) := HQ.out 4 _ rfl
      have q5 : wr.cell? ⟨b, off + i * 6 + 5, none⟩ = some (.slice st.la st.ll st.lc) := HQ.out 5 _ rfl
      have hil : (i : Int) < (len : Int) := by omega
      have d1 : decide ((i : Int) < 400) = true := by simp; omega
      have d2 : decide (0 ≤ q) = true := decide_eq_true g3
      have hR := room_list wr.heap.size 4 (lensOf st) q (wr.alloc (.cells #[.int .i64 (st.a.size : Int), .int .i64 (st.b.size : Int), .int .i64 (st.d.size : Int), .int .i64 (st.ll : Int)] 3)).drew hq1 (by omega) (by simp [lensOf]) (by unfold maxLen at *; simp [lensOf]; omega) (fun j hj => by
        match j, hj with
        | 0, _ => exact ncell rfl rfl
        | 1, _ => exact ncell rfl rfl
        | 2, _ => exact ncell rfl rfl
        | 3, _ => exact ncell rfl rfl)
      have hlen4 : (lensOf st).length = 4 := rfl
      rw [hlen4] at hR
      obtain ⟨r1, r2, -⟩ := roomL_le (lensOf st) q hq1 (by simp [lensOf])
      have HS4 := Lib.hid (lens_small (x := st) hq1 hq2)
      generalize roomL q (lensOf st) = q' at hR r1 r2 HS4
      have HR := Lib.hid hR
      clear hR hlen4
      go_wp2
      go_region_held3 (fun w' => w'.cell? ⟨b, off + i * 6 + 2, none⟩ = some (.string st.a) ∧ w'.cell? ⟨b, off + i * 6 + 3, none⟩ = some (.string st.b) ∧ w'.cell? ⟨b, off + i * 6 + 4, none⟩ = some (.string st.d) ∧ w'.cell? ⟨b, off + i * 6 + 5, none⟩ = some (.slice st.la st.ll st.lc)) (first | go_keep | exact ⟨ocell hbr q2, ocell hbr q3, ocell hbr q4, ocell hbr q5⟩) (first | (go_at_call 20; refine HR.out.mono ?_; rintro e w1 ⟨rfl, rfl⟩) | fail)
      all_goals go_wp2
      all_goals
        have hnx : 0 ≤ q' → ∀ x ∈ l.take (i + 1), x.small := by
          intro h0 x hx
          rw [List.take_add_one, hst] at hx
          rcases List.mem_append.1 hx with hx | hx
          · exact HSM.out g3 x hx
          · simp at hx
            rw [hx]
            exact HS4.out h0
        have hbn : Below w.heap.size w (wr.alloc (.cells #[.int .i64 (st.a.size : Int), .int .i64 (st.b.size : Int), .int .i64 (st.d.size : Int), .int .i64 (st.ll : Int)] 3)).drew := (hbl.alloc hbl.size _).drew
      all_goals go_roundw
      all_goals first
        | exact ⟨i + 1, q', by omega, by omega, rfl, by go_num, r1, by omega, hnx, hbn⟩
        | (simp [intOf]; omega)
    · by_cases hl2 : len ≤ 200 ∧ 0 ≤ q
      · obtain ⟨m1, m2⟩ := hl2
        obtain rfl : i = len := by omega
        have d1 : decide ((i : Int) ≤ 200) = true := by simp; omega
        have d2 : decide (0 ≤ q) = true := decide_eq_true m2
        go_wp2
        go_ret
        refine ⟨true, rfl, fun _ => ⟨m1, fun x hx => HSM.out m2 x ?_⟩, hbl⟩
        rw [List.take_of_length_le (by omega)]
        exact hx
      · by_cases e1 : i < len
        · have hil : (i : Int) < (len : Int) := by omega
          by_cases e2 : i < 400
          · have hq : q < 0 := by omega
            have d1 : decide ((i : Int) < 400) = true := by simp; omega
            have d2 : decide (0 ≤ q) = false := decide_eq_false (by omega)
            by_cases e3 : len ≤ 200
            · have d3 : decide ((len : Int) ≤ 200) = true := by simp; omega
              go_wp2
              go_ret
              exact ⟨false, rfl, fun h => (by cases h), hbl⟩
            · have d3 : decide ((len : Int) ≤ 200) = false := by simp; omega
              go_wp2
              go_ret
              exact ⟨false, rfl, fun h => (by cases h), hbl⟩
          · have d1 : decide ((i : Int) < 400) = false := by simp; omega
            have d3 : decide ((len : Int) ≤ 200) = false := by simp; omega
            go_wp2
            go_ret
            exact ⟨false, rfl, fun h => (by cases h), hbl⟩
        · obtain rfl : i = len := by omega
          by_cases e3 : i ≤ 200
          · have d3 : decide ((i : Int) ≤ 200) = true := by simp; omega
            have d2 : decide (0 ≤ q) = false := decide_eq_false (by omega)
            go_wp2
            go_ret
            exact ⟨false, rfl, fun h => (by cases h), hbl⟩
          · have d3 : decide ((i : Int) ≤ 200) = false := by simp; omega
            go_wp2
            go_ret
            exact ⟨false, rfl, fun h => (by cases h), hbl⟩
end Go.Proofs.YtfndlfnlepndmaaGreat
