/- wal's areRight. -/
import Derived.Test.YthaalhigmihijabMA
namespace Go.Proofs.Ythaalhigmihijab
open Go.RowKit

theorem empty_yes (s : ByteArray) (h : s.size = 0) : s.toList.isEmpty = true := by
  rw [Lib.toList_data]
  have h2 : s.data.toList.length = s.size := by rw [Array.length_toList]; rfl
  rw [h] at h2
  rw [List.length_eq_zero_iff.mp h2]
  rfl
theorem wrOk_yes {K V : ByteArray} {D : Bool} (hk : K.size ≤ 300) (hv : V.size ≤ 60000) (hd : D = true → V.size = 0) : wrOk ⟨K, V, D⟩ = true := by
  unfold wrOk
  rw [decide_eq_true hk, decide_eq_true hv]
  cases D
  · rfl
  · rw [decide_eq_false (p := V.size ≠ 0) (fun h => h (hd rfl))]; rfl
theorem wrOk_not {K V : ByteArray} {D : Bool} (h : 300 < K.size ∨ 60000 < V.size ∨ (D = true ∧ V.size ≠ 0)) : wrOk ⟨K, V, D⟩ = false := by
  unfold wrOk
  rcases h with h | h | ⟨rfl, h⟩
  · rw [decide_eq_false (p := K.size ≤ 300) (by omega)]; rfl
  · rw [decide_eq_false (p := V.size ≤ 60000) (by omega), Bool.and_false]; rfl
  · rw [decide_eq_true (p := V.size ≠ 0) h, Bool.and_self, Bool.not_true, Bool.and_false]
theorem ret_bool {a b : Bool} (h : a = b) : Ending.returned (.bool a) = .returned (.bool b) := by rw [h]
theorem wrsOk_no {ws : List Wr} {i : Nat} {x : Wr} (h : ws[i]? = some x) (hx : wrOk x = false) : wrsOk ws = false := by
  unfold wrsOk
  rw [Bool.and_eq_false_iff]
  left
  rw [List.all_eq_false]
  exact ⟨x, List.mem_of_getElem? h, by simp [hx]⟩
theorem all_next {ws : List Wr} {i : Nat} {x : Wr} (h : ws[i]? = some x) (hx : wrOk x = true) (ha : (ws.take i).all wrOk = true) : (ws.take (i + 1)).all wrOk = true := by
  rw [List.take_add_one, h]
  simp [hx]
  simpa using ha
set_option maxHeartbeats 4000000 in
set_option maxRecDepth 100000 in
theorem areRight_any (a : Option Addr) (len cap : Nat) (ws : List Wr) (w : World) (hE : WrsAt w.heap.size w a len ws) (hl : len ≤ 1000000) (hok : ∀ x ∈ ws, x.Ok) :
    Calls Try.prog 44 #[.slice a len cap] w fun e w' => e = .returned (.bool (wrsOk ws)) ∧ Below w.heap.size w w' := by
  have hel := hE.1
  have HE := Lib.hid hE
  have HOK := Lib.hid hok
  clear hE hok
  go_enter Try.func44, Try.ntmps44
  go_wp2
  go_loopw [7] (fun iv wr => ∃ i : Nat, iv = .int .i64 (i : Int) ∧ i ≤ len ∧ Hid ((ws.take i).all wrOk = true) ∧ Below w.heap.size w wr) (fun iv _ => len - (intOf iv).toNat)
  case atStart => exact ⟨0, rfl, Nat.zero_le _, Lib.hid (by simp), Below.refl _ _⟩
  case round =>
    obtain ⟨i, rfl, hil0, HAL, hbl⟩ := hrel
    by_cases hlt : i < len
    · obtain ⟨b, off, rfl, hblt, ⟨K, V, D⟩, hget, hcell⟩ : ∃ b off, a = some ⟨b, off, none⟩ ∧ b < w.heap.size ∧ ∃ x : Wr, ws[i]? = some x ∧ ∀ j u, x.cells[j]? = some u → wr.cell? ⟨b, off + i * 3 + j, none⟩ = some u := by
        rcases (HE.out.below hbl).2 with h0 | ⟨b, off, e, h1, h2⟩
        · omega
        · exact ⟨b, off, e, h1, ws[i]'(by omega), List.getElem?_eq_getElem (by omega), h2 i (by omega)⟩
      have hbr : b < wr.heap.size := by have := hbl.size; omega
      have q0 : wr.cell? ⟨b, off + i * 3, none⟩ = some (.string K) := hcell 0 _ rfl
      have q1 : wr.cell? ⟨b, off + i * 3 + 1, none⟩ = some (.string V) := hcell 1 _ rfl
      have q2 : wr.cell? ⟨b, off + i * 3 + 2, none⟩ = some (.bool D) := hcell 2 _ rfl
      have hil : (i : Int) < (len : Int) := by omega
      have hks : K.size ≤ 9223372036854775807 ∧ V.size ≤ 9223372036854775807 := by
        have h1 := HOK.out _ (List.mem_of_getElem? hget)
        unfold Wr.Ok maxLen at h1
        simp only at h1
        omega
      have HBL := Lib.hid (show ∀ (o : Obj), Below w.heap.size w (wr.alloc o) from fun o => hbl.alloc hbl.size o)
      have HNO := Lib.hid (fun h => wrsOk_no hget h)
      have HYS := Lib.hid (fun h => all_next hget h HAL.out)
      clear hcell hget
      by_cases hk : K.size ≤ 300
      · have d1 : decide (300 < (K.size : Int)) = false := by simp; omega
        have d1' : decide (300 < K.size) = false := by simp; omega
        by_cases hv : V.size ≤ 60000
        · have d2 : decide (60000 < (V.size : Int)) = false := by simp; omega
          have d2' : decide (60000 < V.size) = false := by simp; omega
          cases D with
          | false =>
            go_wp2
            go_roundw
            case rel => exact ⟨i + 1, by go_num, by omega, Lib.hid (HYS.out (wrOk_yes hk hv (by first | (intro _; exact hv0) | (intro h; cases h)))), HBL.out _⟩
            case measure => simp [intOf]; omega
          | true =>
            by_cases hv0 : V.size = 0
            · have d3 := empty_yes V hv0
              go_wp2
              go_roundw
              case rel => exact ⟨i + 1, by go_num, by omega, Lib.hid (HYS.out (wrOk_yes hk hv (by first | (intro _; exact hv0) | (intro h; cases h)))), HBL.out _⟩
              case measure => simp [intOf]; omega
            · have d3 := ne_empty V (by omega)
              go_wp2
              go_ret
              exact ⟨ret_bool (HNO.out (wrOk_not (by first | exact .inr (.inr ⟨rfl, hv0⟩) | omega))).symm, HBL.out _⟩
        · have d2 : decide (60000 < (V.size : Int)) = true := by simp; omega
          have d2' : decide (60000 < V.size) = true := by simp; omega
          go_wp2
          go_ret
          exact ⟨ret_bool (HNO.out (wrOk_not (by first | exact .inr (.inr ⟨rfl, hv0⟩) | omega))).symm, HBL.out _⟩
      · have d1 : decide (300 < (K.size : Int)) = true := by simp; omega
        have d1' : decide (300 < K.size) = true := by simp; omega
        go_wp2
        go_ret
        exact ⟨ret_bool (HNO.out (wrOk_not (by first | exact .inr (.inr ⟨rfl, hv0⟩) | omega))).symm, HBL.out _⟩
    · obtain rfl : i = len := by omega
      go_wp2
      go_ret
      have := HAL.out
      rw [List.take_of_length_le (by omega)] at this
      exact ⟨ret_bool (show decide (0 < i) = wrsOk ws by
        unfold wrsOk
        rw [this]
        cases ws with
        | nil => simp at hel; subst hel; rfl
        | cons x ws => simp at hel; simp; omega), hbl⟩
end Go.Proofs.Ythaalhigmihijab
