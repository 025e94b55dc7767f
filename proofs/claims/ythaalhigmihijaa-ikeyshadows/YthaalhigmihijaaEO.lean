/- The statements' helper Ordered; lists of versions that came in. -/
import Derived.Test.YthaalhigmihijaaEJ
import Derived.Test.YthaalhigmihijaaES
namespace Go.Proofs.Ythaalhigmihijaa
open Go.RowKit Go.Lib

theorem ord_of {es : List Ent} (h : ∀ j, 0 < j → j < es.length → cmpE (es.getD (j - 1) default).k (es.getD (j - 1) default).s (es.getD j default).k (es.getD j default).s = -1) : Ord es := by
  intro i j hij hj
  induction j with
  | zero => omega
  | succ j ih =>
    have h1 := h (j + 1) (by omega) hj
    rw [Nat.add_sub_cancel] at h1
    by_cases he : i = j
    · rw [he]; exact h1
    · exact cmpE_trans _ _ _ _ _ _ (ih (by omega) (by omega)) h1
set_option maxHeartbeats 4000000 in
set_option maxRecDepth 100000 in
theorem ordered_any {w : World} (a : Option Addr) (len cap : Nat) (es : List Ent) (hE : EntsAt w.heap.size w a len es) (hlm : len ≤ 1000000) (hok : ∀ x ∈ es, x.Ok) :
    Calls Try.prog 8 #[.slice a len cap] w fun e w' => ∃ t : Bool, e = .returned (.bool t) ∧ (t = true → Ord es) ∧ Below w.heap.size w w' := by
  have hll : es.length = len := hE.1
  have HO := Lib.hid hE
  have HOK := Lib.hid hok
  clear hE hok
  go_enter Try.func8, Try.ntmps8
  go_wp2
  go_loopw [3] (fun iv wr => ∃ i : Nat, iv = .int .i64 ((i + 1 : Nat) : Int) ∧ i ≤ len ∧ (∀ j, 0 < j → j < i + 1 → j < len → cmpE (es.getD (j - 1) default).k (es.getD (j - 1) default).s (es.getD j default).k (es.getD j default).s = -1) ∧ Below w.heap.size w wr) (fun iv _ => len + 1 - (RowKit.intOf iv).toNat)
  case atStart => exact ⟨0, rfl, Nat.zero_le _, fun j h1 h2 => by omega, Below.refl _ _⟩
  case round =>
    obtain ⟨i, rfl, hi, hadj, hbl⟩ := hrel
    have HA := Lib.hid hadj
    have HBL := Lib.hid hbl
    clear hadj
    obtain ⟨m, hm⟩ : ∃ m, m = i + 1 := ⟨_, rfl⟩
    rw [← hm]
    by_cases hlt : i + 1 < len
    · obtain ⟨b, off, rfl, hblt, HCE⟩ : ∃ b off, a = some ⟨b, off, none⟩ ∧ b < w.heap.size ∧ ∀ i, i < len → ∃ x : Ent, es[i]? = some x ∧ ∀ j u, x.cells[j]? = some u → wr.cell? ⟨b, off + i * 4 + j, none⟩ = some u := by
        rcases (HO.out.below hbl).2 with h0 | ⟨b, off, e, h1, h2⟩
        · omega
        · exact ⟨b, off, e, h1, fun i hi => ⟨es[i]'(by omega), List.getElem?_eq_getElem (by omega), h2 i (by omega)⟩⟩
      obtain ⟨⟨K, SQ, NN, V⟩, hg1, hc1⟩ := HCE i (by omega)
      obtain ⟨⟨K', SQ', NN', V'⟩, hg2, hc2⟩ := HCE (i + 1) hlt
      obtain ⟨o1, -⟩ := HOK.out _ (List.mem_of_getElem? hg1)
      obtain ⟨o2, -⟩ := HOK.out _ (List.mem_of_getElem? hg2)
      dsimp only at o1 o2
      unfold maxLen at o1 o2
      have p0 : wr.cell? ⟨b, off + i * 4, none⟩ = some (.string K) := hc1 0 _ rfl
      have p1 : wr.cell? ⟨b, off + i * 4 + 1, none⟩ = some (.int .u64 SQ) := hc1 1 _ rfl
      have p2 : wr.cell? ⟨b, off + i * 4 + 2, none⟩ = some (.int .i64 NN) := hc1 2 _ rfl
      have p3 : wr.cell? ⟨b, off + i * 4 + 3, none⟩ = some (.string V) := hc1 3 _ rfl
      have q0 : wr.cell? ⟨b, off + m * 4, none⟩ = some (.string K') := by rw [hm]; exact hc2 0 _ rfl
      have q1 : wr.cell? ⟨b, off + m * 4 + 1, none⟩ = some (.int .u64 SQ') := by rw [hm]; exact hc2 1 _ rfl
      have q2 : wr.cell? ⟨b, off + m * 4 + 2, none⟩ = some (.int .i64 NN') := by rw [hm]; exact hc2 2 _ rfl
      have q3 : wr.cell? ⟨b, off + m * 4 + 3, none⟩ = some (.string V') := by rw [hm]; exact hc2 3 _ rfl
      have hgi : es.getD i default = ⟨K, SQ, NN, V⟩ := by rw [List.getD_eq_getElem?_getD, hg1]; rfl
      have hgj : es.getD (i + 1) default = ⟨K', SQ', NN', V'⟩ := by rw [List.getD_eq_getElem?_getD, hg2]; rfl
      have HST := Lib.hid (show cmpE K SQ K' SQ' = -1 → ∀ j, 0 < j → j < i + 2 → j < len → cmpE (es.getD (j - 1) default).k (es.getD (j - 1) default).s (es.getD j default).k (es.getD j default).s = -1 from fun h j j0 j1 j2 => by
        by_cases hj : j < i + 1
        · exact HA.out j j0 hj j2
        · obtain rfl : j = i + 1 := by omega
          rw [Nat.add_sub_cancel, hgi, hgj]
          exact h)
      have CC := Lib.hid (fun W => cmp5_any K SQ NN V K' SQ' NN' V' W (by omega) (by omega))
      have HV := cmpE_vals K SQ K' SQ'
      generalize cmpE K SQ K' SQ' = X at *
      have hil : (m : Int) < (len : Int) := by omega
      have hil3 : (i : Int) < (len : Int) := by omega
      have hij : (m : Int) - 1 = (i : Int) := by omega
      have hwr : IntKind.i64.wrap ((m : Int) - 1) = (i : Int) := by rw [IntKind.wrap_i64]; omega
      have hw3 : IntKind.i64.wrap (i : Int) = (i : Int) := by rw [IntKind.wrap_i64]; omega
      have HM := Lib.hid hm
      clear hm
      clear HCE hc1 hc2 hg1 hg2 hgi hgj
      cases hd : decide (0 ≤ X) with
      | true =>
        clear HV
        go_wp2
        go_region_held3 (fun w' => w'.cell? ⟨b, off + i * 4, none⟩ = some (.string K) ∧ w'.cell? ⟨b, off + i * 4 + 1, none⟩ = some (.int .u64 SQ) ∧ w'.cell? ⟨b, off + i * 4 + 2, none⟩ = some (.int .i64 NN) ∧ w'.cell? ⟨b, off + i * 4 + 3, none⟩ = some (.string V) ∧ w'.cell? ⟨b, off + m * 4, none⟩ = some (.string K') ∧ w'.cell? ⟨b, off + m * 4 + 1, none⟩ = some (.int .u64 SQ') ∧ w'.cell? ⟨b, off + m * 4 + 2, none⟩ = some (.int .i64 NN') ∧ w'.cell? ⟨b, off + m * 4 + 3, none⟩ = some (.string V')) (first | assumption | exact ⟨p0, p1, p2, p3, q0, q1, q2, q3⟩ | exact ⟨kk _ _ p0, kk _ _ p1, kk _ _ p2, kk _ _ p3, kk _ _ q0, kk _ _ q1, kk _ _ q2, kk _ _ q3⟩) (first | (go_at_call 27; (with_reducible refine (CC.out _).mono ?_); rintro e w1 ⟨rfl, hb1⟩; have kk : ∀ p v, wr.cell? p = some v → w1.cell? p = some v := fun p v h => (hb1.cell (World.block_lt_of_cell? wr _ h)).trans h) | fail)
        all_goals go_wp2
        all_goals go_ret
        all_goals exact ⟨false, rfl, fun h => (by cases h), hbl.drew.trans (hb1.mono hbl.size)⟩
      | false =>
        have hx : X = -1 := by
          have := of_decide_eq_false hd
          omega
        have HX := Lib.hid hx
        clear hx HV
        go_wp2
        go_region_held3 (fun w' => w'.cell? ⟨b, off + i * 4, none⟩ = some (.string K) ∧ w'.cell? ⟨b, off + i * 4 + 1, none⟩ = some (.int .u64 SQ) ∧ w'.cell? ⟨b, off + i * 4 + 2, none⟩ = some (.int .i64 NN) ∧ w'.cell? ⟨b, off + i * 4 + 3, none⟩ = some (.string V) ∧ w'.cell? ⟨b, off + m * 4, none⟩ = some (.string K') ∧ w'.cell? ⟨b, off + m * 4 + 1, none⟩ = some (.int .u64 SQ') ∧ w'.cell? ⟨b, off + m * 4 + 2, none⟩ = some (.int .i64 NN') ∧ w'.cell? ⟨b, off + m * 4 + 3, none⟩ = some (.string V')) (first | assumption | exact ⟨p0, p1, p2, p3, q0, q1, q2, q3⟩ | exact ⟨kk _ _ p0, kk _ _ p1, kk _ _ p2, kk _ _ p3, kk _ _ q0, kk _ _ q1, kk _ _ q2, kk _ _ q3⟩) (first | (go_at_call 27; (with_reducible refine (CC.out _).mono ?_); rintro e w1 ⟨rfl, hb1⟩; have kk : ∀ p v, wr.cell? p = some v → w1.cell? p = some v := fun p v h => (hb1.cell (World.block_lt_of_cell? wr _ h)).trans h) | fail)
        all_goals go_wp2
        all_goals go_roundw
        all_goals first
          | exact ⟨i + 1, by rw [HM.out]; go_num, by omega, HST.out HX.out, hbl.drew.trans (hb1.mono hbl.size)⟩
          | (have := HM.out; simp only [RowKit.intOf]; omega)
    · have d1 : decide ((m : Int) < (len : Int)) = false := by simp; omega
      go_wp2
      go_ret
      exact ⟨true, rfl, fun _ => ord_of (fun j h1 h2 => HA.out j h1 (by omega) (by omega)), HBL.out⟩
end Go.Proofs.Ythaalhigmihijaa
