/- The statements' Small: what it says of the versions' lengths together. -/
import Derived.Test.YtmnboiikopkaoaaGreatBP
namespace Go.Proofs.YtmnboiikopkaoaaGreat
open Go.RowKit Go.Lib

theorem lensE_sum {x : Ent} {r : Int} (h : 0 ≤ roomL r (lensE x)) : roomL r (lensE x) = r - (sizeE x : Int) := by
  unfold lensE sizeE at *
  unfold roomL at h ⊢
  split at h
  · simp at h
  · rename_i hc
    rw [if_neg hc]
    unfold roomL at h ⊢
    split at h
    · simp at h
    · rename_i hc2
      rw [if_neg hc2]
      simp only [roomL] at h ⊢
      omega
set_option maxHeartbeats 4000000 in
set_option maxRecDepth 100000 in
theorem smallS_any {w : World} (a : Option Addr) (len cap : Nat) (es : List Ent) (hE : EntsAt w.heap.size w a len es) (hlm : len ≤ 9223372036854775807) (hok : ∀ x ∈ es, x.Ok) :
    Calls Tryz.prog 4 #[.slice a len cap] w fun e w' => ∃ t : Bool, e = .returned (.bool t) ∧ (t = true → len ≤ 150 ∧ sizeEs es ≤ 20000) ∧ Below w.heap.size w w' := by
  have hll : es.length = len := hE.1
  have HO := Lib.hid hE
  have HOK := Lib.hid hok
  clear hE hok
  go_enter Tryz.func4, Tryz.ntmps4
  go_wp2
  go_loopw [3, 4] (fun rv iv wr => ∃ (i : Nat) (q : Int), i ≤ len ∧ i ≤ 400 ∧ rv = .int .i64 q ∧ iv = .int .i64 (i : Int) ∧ -1 ≤ q ∧ q ≤ 20000 ∧ (0 ≤ q → (sizeEs (es.take i) : Int) + q ≤ 20000) ∧ Below w.heap.size w wr) (fun _ iv _ => len - (intOf iv).toNat)
  case atStart => exact ⟨0, 20000, Nat.zero_le _, Nat.zero_le _, rfl, rfl, by omega, by omega, fun _ => by simp [sizeEs], Below.refl _ _⟩
  case round =>
    obtain ⟨i, q, hi, hi4, rfl, rfl, hq1, hq2, hsm, hbl⟩ := hrel
    have HSM := Lib.hid hsm
    clear hsm
    by_cases hgo : i < len ∧ i < 400 ∧ 0 ≤ q
    · obtain ⟨g1, g2, g3⟩ := hgo
      obtain ⟨b, off, rfl, hblt, st, hst, hcell⟩ : ∃ b off, a = some ⟨b, off, none⟩ ∧ b < w.heap.size ∧ ∃ x : Ent, es[i]? = some x ∧ ∀ j u, x.cells[j]? = some u → wr.cell? ⟨b, off + i * 4 + j, none⟩ = some u := by
        rcases (HO.out.below hbl).2 with h0 | ⟨b, off, e, h1, h2⟩
        · omega
        · exact ⟨b, off, e, h1, es[i]'(by omega), List.getElem?_eq_getElem (by omega), h2 i (by omega)⟩
      obtain ⟨hk, -, -, -, -, hv⟩ := HOK.out st (List.mem_of_getElem? hst)
      have hbr : b < wr.heap.size := by have := hbl.size; omega
      have q0 : wr.cell? ⟨b, off + i * 4, none⟩ = some (.string st.k) := hcell 0 _ rfl
      have q3 : wr.cell? ⟨b, off + i * 4 + 3, none⟩ = some (.string st.v) := hcell 3 _ rfl
      clear hcell
      have hil : (i : Int) < (len : Int) := by omega
      have d1 : decide ((i : Int) < 400) = true := by simp; omega
      have d2 : decide (0 ≤ q) = true := decide_eq_true g3
      have hR := room_list wr.heap.size 2 (lensE st) q (wr.alloc (.cells #[.int .i64 (st.k.size : Int), .int .i64 (st.v.size : Int)] 3)).drew hq1 (by omega) (by simp [lensE]) (by unfold maxLen at *; simp [lensE]; omega) (fun j hj => by
        match j, hj with
        | 0, _ => exact nce rfl rfl
        | 1, _ => exact nce rfl rfl)
      have hlen4 : (lensE st).length = 2 := rfl
      rw [hlen4] at hR
      obtain ⟨r1, r2, -⟩ := roomL_le (lensE st) q hq1 (by simp [lensE])
      have HS4 := Lib.hid (lensE_sum (x := st) (r := q))
      generalize roomL q (lensE st) = q' at hR r1 r2 HS4
      have HR := Lib.hid hR
      clear hR hlen4
      go_wp2
      go_region_held3 (fun w' => w'.cell? ⟨b, off + i * 4, none⟩ = some (.string st.k) ∧ w'.cell? ⟨b, off + i * 4 + 3, none⟩ = some (.string st.v)) (first | go_keep | exact ⟨oce hbr q0, oce hbr q3⟩) (first | (go_at_call 16; refine HR.out.mono ?_; rintro e w1 ⟨rfl, rfl⟩) | fail)
      all_goals go_wp2
      all_goals
        have hnx : 0 ≤ q' → (sizeEs (es.take (i + 1)) : Int) + q' ≤ 20000 := by
          intro h0
          have e1 := HSM.out g3
          have e2 := HS4.out h0
          have e3 := sizeEs_take es i (by omega)
          have e4 : es[i]'(by omega) = st := by
            have := List.getElem?_eq_getElem (l := es) (i := i) (by omega)
            rw [hst] at this
            exact (Option.some.inj this).symm
          rw [e4] at e3
          rw [e3]
          omega
        have hbn : Below w.heap.size w (wr.alloc (.cells #[.int .i64 (st.k.size : Int), .int .i64 (st.v.size : Int)] 3)).drew := (hbl.alloc hbl.size _).drew
      all_goals go_roundw
      all_goals first
        | exact ⟨i + 1, q', by omega, by omega, rfl, by go_num, r1, by omega, hnx, hbn⟩
        | (simp [intOf]; omega)
    · by_cases hl2 : len ≤ 150 ∧ 0 ≤ q
      · obtain ⟨m1, m2⟩ := hl2
        obtain rfl : i = len := by omega
        have d1 : decide ((i : Int) ≤ 150) = true := by simp; omega
        have d2 : decide (0 ≤ q) = true := decide_eq_true m2
        go_wp2
        go_ret
        refine ⟨true, rfl, fun _ => ⟨m1, ?_⟩, hbl⟩
        have e1 := HSM.out m2
        rw [List.take_of_length_le (by omega)] at e1
        omega
      · by_cases e1 : i < len
        · have hil : (i : Int) < (len : Int) := by omega
          by_cases e2 : i < 400
          · have hq : q < 0 := by omega
            have d1 : decide ((i : Int) < 400) = true := by simp; omega
            have d2 : decide (0 ≤ q) = false := decide_eq_false (by omega)
            by_cases e3 : len ≤ 150
            · have d3 : decide ((len : Int) ≤ 150) = true := by simp; omega
              go_wp2
              go_ret
              exact ⟨false, rfl, fun h => (by cases h), hbl⟩
            · have d3 : decide ((len : Int) ≤ 150) = false := by simp; omega
              go_wp2
              go_ret
              exact ⟨false, rfl, fun h => (by cases h), hbl⟩
          · have d1 : decide ((i : Int) < 400) = false := by simp; omega
            have d3 : decide ((len : Int) ≤ 150) = false := by simp; omega
            go_wp2
            go_ret
            exact ⟨false, rfl, fun h => (by cases h), hbl⟩
        · obtain rfl : i = len := by omega
          by_cases e3 : i ≤ 150
          · have d3 : decide ((i : Int) ≤ 150) = true := by simp; omega
            have d2 : decide (0 ≤ q) = false := decide_eq_false (by omega)
            go_wp2
            go_ret
            exact ⟨false, rfl, fun h => (by cases h), hbl⟩
          · have d3 : decide ((i : Int) ≤ 150) = false := by simp; omega
            go_wp2
            go_ret
            exact ⟨false, rfl, fun h => (by cases h), hbl⟩
end Go.Proofs.YtmnboiikopkaoaaGreat
