/- The statements' helper SmallWrites: writes that it lets by are few and short. -/
import Derived.Test.YthaalhigmihijabMA
import Derived.Test.YthaalhigmihijabRO
import Derived.Deep.RegionHeld3
import Derived.Test.YthaalhigmihijabF2
namespace Go.Proofs.Ythaalhigmihijab
open Go.RowKit

def lensW (x : Wr) : List Int := [(x.k.size : Int), (x.v.size : Int)]
theorem lensW_sum {x : Wr} {r : Int} (h : 0 ≤ roomL r (lensW x)) : roomL r (lensW x) = r - (sizeW x : Int) := by
  unfold lensW at h ⊢
  unfold sizeW
  simp only [roomL] at h ⊢
  split at h
  · omega
  · rename_i h1
    rw [if_neg h1]
    split at h
    · omega
    · rename_i h2
      rw [if_neg h2]
      omega
/-- What SmallWrites lets by. -/
def Few (ws : List Wr) : Prop := ws.length ≤ 60 ∧ sizeWs ws ≤ 9000
set_option maxHeartbeats 4000000 in
set_option maxRecDepth 100000 in
theorem smallW_any {w : World} (a : Option Addr) (len cap : Nat) (es : List Wr) (hE : WrsAt w.heap.size w a len es) (hlm : len ≤ 9223372036854775807) (hok : ∀ x ∈ es, x.Ok) :
    Calls Try.prog 18 #[.slice a len cap] w fun e w' => ∃ t : Bool, e = .returned (.bool t) ∧ (t = true → Few es) ∧ Below w.heap.size w w' := by
  have hll : es.length = len := hE.1
  have HO := Lib.hid hE
  have HOK := Lib.hid hok
  clear hE hok
  go_enter Try.func18, Try.ntmps18
  go_wp2
  go_loopw [3, 4] (fun rv iv wr => ∃ (i : Nat) (q : Int), i ≤ len ∧ i ≤ 200 ∧ rv = .int .i64 q ∧ iv = .int .i64 (i : Int) ∧ -1 ≤ q ∧ q ≤ 9000 ∧ (0 ≤ q → q + (sizeWs (es.take i) : Int) ≤ 9000) ∧ Below w.heap.size w wr) (fun _ iv _ => len - (intOf iv).toNat)
  case atStart => exact ⟨0, 9000, Nat.zero_le _, Nat.zero_le _, rfl, rfl, by omega, by omega, fun _ => by simp [sizeWs], Below.refl _ _⟩
  case round =>
    obtain ⟨i, q, hi, hi4, rfl, rfl, hq1, hq2, hsm, hbl⟩ := hrel
    have HSM := Lib.hid hsm
    clear hsm
    by_cases hgo : i < len ∧ i < 200 ∧ 0 ≤ q
    · obtain ⟨g1, g2, g3⟩ := hgo
      obtain ⟨b, off, rfl, hblt, st, hst, hcell⟩ : ∃ b off, a = some ⟨b, off, none⟩ ∧ b < w.heap.size ∧ ∃ x : Wr, es[i]? = some x ∧ ∀ j u, x.cells[j]? = some u → wr.cell? ⟨b, off + i * 3 + j, none⟩ = some u := by
        rcases (HO.out.below hbl).2 with h0 | ⟨b, off, e, h1, h2⟩
        · omega
        · exact ⟨b, off, e, h1, es[i]'(by omega), List.getElem?_eq_getElem (by omega), h2 i (by omega)⟩
      obtain ⟨hk, hv⟩ := HOK.out st (List.mem_of_getElem? hst)
      have hbr : b < wr.heap.size := by have := hbl.size; omega
      have q0 : wr.cell? ⟨b, off + i * 3, none⟩ = some (.string st.k) := hcell 0 _ rfl
      have q3 : wr.cell? ⟨b, off + i * 3 + 1, none⟩ = some (.string st.v) := hcell 1 _ rfl
      clear hcell
      have hil : (i : Int) < (len : Int) := by omega
      have d1 : decide ((i : Int) < 200) = true := by simp; omega
      have d2 : decide (0 ≤ q) = true := decide_eq_true g3
      have hR := room_list wr.heap.size 2 (lensW st) q (wr.alloc (.cells #[.int .i64 (st.k.size : Int), .int .i64 (st.v.size : Int)] 3)).drew hq1 (by omega) (by simp [lensW]) (by unfold maxLen at *; simp [lensW]; omega) (fun j hj => by
        match j, hj with
        | 0, _ => exact ncell rfl rfl
        | 1, _ => exact ncell rfl rfl)
      have hlen4 : (lensW st).length = 2 := rfl
      rw [hlen4] at hR
      obtain ⟨r1, r2, -⟩ := roomL_le (lensW st) q hq1 (by simp [lensW])
      have HS4 := Lib.hid (lensW_sum (x := st) (r := q))
      generalize roomL q (lensW st) = q' at hR r1 r2 HS4
      have HR := Lib.hid hR
      clear hR hlen4
      go_wp2
      go_region_held3 (fun w' => w'.cell? ⟨b, off + i * 3, none⟩ = some (.string st.k) ∧ w'.cell? ⟨b, off + i * 3 + 1, none⟩ = some (.string st.v)) (first | go_keep | exact ⟨ocell hbr q0, ocell hbr q3⟩) (first | (go_at_call 27; refine HR.out.mono ?_; rintro e w1 ⟨rfl, rfl⟩) | fail)
      all_goals go_wp2
      all_goals
        have hnx : 0 ≤ q' → q' + (sizeWs (es.take (i + 1)) : Int) ≤ 9000 := by
          intro h0
          have h1 := HSM.out g3
          have h2 := HS4.out h0
          have h3 : es.take (i + 1) = es.take i ++ [st] := by rw [List.take_add_one, hst]; rfl
          rw [h3, sizeWs_snoc]
          omega
        have hbn : Below w.heap.size w (wr.alloc (.cells #[.int .i64 (st.k.size : Int), .int .i64 (st.v.size : Int)] 3)).drew := (hbl.alloc hbl.size _).drew
      all_goals go_roundw
      all_goals first
        | exact ⟨i + 1, q', by omega, by omega, rfl, by go_num, r1, by omega, hnx, hbn⟩
        | (simp [intOf]; omega)
    · by_cases hl2 : len ≤ 60 ∧ 0 ≤ q
      · obtain ⟨m1, m2⟩ := hl2
        obtain rfl : i = len := by omega
        have d1 : decide ((i : Int) ≤ 60) = true := by simp; omega
        have d2 : decide (0 ≤ q) = true := decide_eq_true m2
        go_wp2
        go_ret
        refine ⟨true, rfl, fun _ => ⟨by omega, ?_⟩, hbl⟩
        have := HSM.out m2
        rw [List.take_of_length_le (by omega)] at this
        omega
      · by_cases e1 : i < len
        · have hil : (i : Int) < (len : Int) := by omega
          by_cases e2 : i < 200
          · have hq : q < 0 := by omega
            have d1 : decide ((i : Int) < 200) = true := by simp; omega
            have d2 : decide (0 ≤ q) = false := decide_eq_false (by omega)
            by_cases e3 : len ≤ 60
            · have d3 : decide ((len : Int) ≤ 60) = true := by simp; omega
              go_wp2
              go_ret
              exact ⟨false, rfl, fun h => (by cases h), hbl⟩
            · have d3 : decide ((len : Int) ≤ 60) = false := by simp; omega
              go_wp2
              go_ret
              exact ⟨false, rfl, fun h => (by cases h), hbl⟩
          · have d1 : decide ((i : Int) < 200) = false := by simp; omega
            have d3 : decide ((len : Int) ≤ 60) = false := by simp; omega
            go_wp2
            go_ret
            exact ⟨false, rfl, fun h => (by cases h), hbl⟩
        · obtain rfl : i = len := by omega
          by_cases e3 : i ≤ 60
          · have d3 : decide ((i : Int) ≤ 60) = true := by simp; omega
            have d2 : decide (0 ≤ q) = false := decide_eq_false (by omega)
            go_wp2
            go_ret
            exact ⟨false, rfl, fun h => (by cases h), hbl⟩
          · have d3 : decide ((i : Int) ≤ 60) = false := by simp; omega
            go_wp2
            go_ret
            exact ⟨false, rfl, fun h => (by cases h), hbl⟩
end Go.Proofs.Ythaalhigmihijab
