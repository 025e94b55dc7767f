/- The statements' helper Small: versions that it lets by are few and short. -/
import Derived.Test.YthaalhigmihijaaEM
import Derived.Test.YthaalhigmihijaaEF
import Derived.Deep.RegionHeld3
namespace Go.Proofs.Ythaalhigmihijaa
open Go.RowKit

/-- What a version that fits has. -/
def Ent.Short (e : Ent) : Prop := e.k.size ≤ 20000 ∧ e.v.size ≤ 20000
def lensE (x : Ent) : List Int := [(x.k.size : Int), (x.v.size : Int)]
theorem lensE_small {x : Ent} {r : Int} (h1 : -1 ≤ r) (h2 : r ≤ 20000) (h : 0 ≤ roomL r (lensE x)) : x.Short := by
  obtain ⟨-, -, h3⟩ := roomL_le (lensE x) r h1 (by simp [lensE])
  have := h3 h
  simp only [lensE, List.mem_cons, List.not_mem_nil, or_false, forall_eq_or_imp, forall_eq] at this
  unfold Ent.Short
  omega
set_option maxHeartbeats 4000000 in
set_option maxRecDepth 100000 in
theorem small_any {w : World} (a : Option Addr) (len cap : Nat) (es : List Ent) (hE : EntsAt w.heap.size w a len es) (hlm : len ≤ 9223372036854775807) (hok : ∀ x ∈ es, x.Ok) :
    Calls Try.prog 7 #[.slice a len cap] w fun e w' => ∃ t : Bool, e = .returned (.bool t) ∧ (t = true → len ≤ 150 ∧ ∀ x ∈ es, x.Short) ∧ Below w.heap.size w w' := by
  have hll : es.length = len := hE.1
  have HO := Lib.hid hE
  have HOK := Lib.hid hok
  clear hE hok
  go_enter Try.func7, Try.ntmps7
  go_wp2
  go_loopw [3, 4] (fun rv iv wr => ∃ (i : Nat) (q : Int), i ≤ len ∧ i ≤ 400 ∧ rv = .int .i64 q ∧ iv = .int .i64 (i : Int) ∧ -1 ≤ q ∧ q ≤ 20000 ∧ (0 ≤ q → ∀ x ∈ es.take i, x.Short) ∧ Below w.heap.size w wr) (fun _ iv _ => len - (intOf iv).toNat)
  case atStart => exact ⟨0, 20000, Nat.zero_le _, Nat.zero_le _, rfl, rfl, by omega, by omega, fun _ x hx => by simp at hx, Below.refl _ _⟩
  case round =>
    obtain ⟨i, q, hi, hi4, rfl, rfl, hq1, hq2, hsm, hbl⟩ := hrel
    have HSM := Lib.hid hsm
    clear hsm
    by_cases hgo : i < len ∧ i < 400 ∧ 0 ≤ q
    · obtain ⟨g1, g2, g3⟩ := hgo
      obtain ⟨b, off, rfl, hblt, st, hst, hcell⟩ : ∃ b off, a = some ⟨b, off, none⟩ ∧ b < w.heap.size ∧ ∃ x : Ent, es[i]? = some x ∧ ∀ j u, x.cells[j]? = some u → wr.cell? ⟨b, off + i * 4 + j, none⟩ = some u := by
        rcases (HO.out.below hbl).2 with h0 | ⟨b, off, e, h1, h2⟩
        · omega
        · exact ⟨b, off, e, h1, es[i]'(by omega), List.getElem?_eq_getElem (by omega), h2 i (by omega)⟩
      obtain ⟨hk, -, -, -, -, hv⟩ := HOK.out st (List.mem_of_getElem? hst)
      have hbr : b < wr.heap.size := by have := hbl.size; omega
      have q0 : wr.cell? ⟨b, off + i * 4, none⟩ = some (.string st.k) := hcell 0 _ rfl
      have q3 : wr.cell? ⟨b, off + i * 4 + 3, none⟩ = some (.string st.v) := hcell 3 _ rfl
      clear hcell
      have hil : (i : Int) < (len : Int) := by omega
      have d1 : decide ((i : Int) < 400) = true := by simp; omega
      have d2 : decide (0 ≤ q) = true := decide_eq_true g3
      have hR := room_list wr.heap.size 2 (lensE st) q (wr.alloc (.cells #[.int .i64 (st.k.size : Int), .int .i64 (st.v.size : Int)] 3)).drew hq1 (by omega) (by simp [lensE]) (by unfold maxLen at *; simp [lensE]; omega) (fun j hj => by
        match j, hj with
        | 0, _ => exact nce rfl rfl
        | 1, _ => exact nce rfl rfl)
      have hlen4 : (lensE st).length = 2 := rfl
      rw [hlen4] at hR
      obtain ⟨r1, r2, -⟩ := roomL_le (lensE st) q hq1 (by simp [lensE])
      have HS4 := Lib.hid (lensE_small (x := st) hq1 hq2)
      generalize roomL q (lensE st) = q' at hR r1 r2 HS4
      have HR := Lib.hid hR
      clear hR hlen4
      go_wp2
      go_region_held3 (fun w' => w'.cell? ⟨b, off + i * 4, none⟩ = some (.string st.k) ∧ w'.cell? ⟨b, off + i * 4 + 3, none⟩ = some (.string st.v)) (first | go_keep | exact ⟨oce hbr q0, oce hbr q3⟩) (first | (go_at_call 26; refine HR.out.mono ?_; rintro e w1 ⟨rfl, rfl⟩) | fail)
      all_goals go_wp2
      all_goals
        have hnx : 0 ≤ q' → ∀ x ∈ es.take (i + 1), x.Short := by
          intro h0 x hx
          rw [List.take_add_one, hst] at hx
          rcases List.mem_append.1 hx with hx | hx
          · exact HSM.out g3 x hx
          · simp at hx
            rw [hx]
            exact HS4.out h0
        have hbn : Below w.heap.size w (wr.alloc (.cells #[.int .i64 (st.k.size : Int), .int .i64 (st.v.size : Int)] 3)).drew := (hbl.alloc hbl.size _).drew
      all_goals go_roundw
      all_goals first
        | exact ⟨i + 1, q', by omega, by omega, rfl, by go_num, r1, by omega, hnx, hbn⟩
        | (simp [intOf]; omega)
    · by_cases hl2 : len ≤ 150 ∧ 0 ≤ q
      · obtain ⟨m1, m2⟩ := hl2
        obtain rfl : i = len := by omega
        have d1 : decide ((i : Int) ≤ 150) = true := by simp; omega
        have d2 : decide (0 ≤ q) = true := decide_eq_true m2
        go_wp2
        go_ret
        refine ⟨true, rfl, fun _ => ⟨m1, fun x hx => HSM.out m2 x ?_⟩, hbl⟩
        rw [List.take_of_length_le (by omega)]
        exact hx
      · by_cases e1 : i < len
        · have hil : (i : Int) < (len : Int) := by omega
          by_cases e2 : i < 400
          · have hq : q < 0 := by omega
            have d1 : decide ((i : Int) < 400) = true := by simp; omega
            have d2 : decide (0 ≤ q) = false := decide_eq_false (by omega)
            by_cases e3 : len ≤ 150
            · have d3 : decide ((len : Int) ≤ 150) = true := by simp; omega
              go_wp2
              go_ret
              exact ⟨false, rfl, fun h => (by cases h), hbl⟩
            · have d3 : decide ((len : Int) ≤ 150) = false := by simp; omega
              go_wp2
              go_ret
              exact ⟨false, rfl, fun h => (by cases h), hbl⟩
          · have d1 : decide ((i : Int) < 400) = false := by simp; omega
            have d3 : decide ((len : Int) ≤ 150) = false := by simp; omega
            go_wp2
            go_ret
            exact ⟨false, rfl, fun h => (by cases h), hbl⟩
        · obtain rfl : i = len := by omega
          by_cases e3 : i ≤ 150
          · have d3 : decide ((i : Int) ≤ 150) = true := by simp; omega
            have d2 : decide (0 ≤ q) = false := decide_eq_false (by omega)
            go_wp2
            go_ret
            exact ⟨false, rfl, fun h => (by cases h), hbl⟩
          · have d3 : decide ((i : Int) ≤ 150) = false := by simp; omega
            go_wp2
            go_ret
            exact ⟨false, rfl, fun h => (by cases h), hbl⟩
end Go.Proofs.Ythaalhigmihijaa
