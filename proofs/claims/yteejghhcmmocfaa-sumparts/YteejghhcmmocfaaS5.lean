/- Frame of a list of texts that came in, and the statements' SameTexts of a list that was answered and one that came in. -/
import Derived.Test.YteejghhcmmocfaaS4
namespace Go.Proofs.Yteejghhcmmocfaa
open Go.RowKit

theorem drewN_add (w : World) (a b : Nat) : (w.drewN a).drewN b = w.drewN (a + b) := by
  show World.mk _ _ _ _ _ = _
  first | rfl | (simp [World.drewN, Nat.add_assoc])

set_option maxHeartbeats 1000000 in
set_option maxRecDepth 100000 in
theorem frame_zero (a : Option Addr) (cap : Nat) (w : World) :
    Calls Try.prog 10 #[.slice a 0 cap] w fun e w' => e = .returned (.string ⟨(frames (texts [])).toArray⟩) ∧ Below w.heap.size w w' := by
  go_enter Try.func10, Try.ntmps10
  go_wp2
  refine wp_loop_rounds 1 ?_
  rw [rounds_succ]
  go_wp2_with (go_at_call 34; refine (grow_any w 0 (by omega)).mono ?_; rintro e w1 ⟨rfl, hbld⟩)
  refine wp_loop_rounds 1 ?_
  rw [rounds_succ]
  go_wp2_with (go_at_call 37; refine (string_any w _ _ _ hbld).mono ?_; rintro e w2 ⟨rfl, hb2⟩)
  go_ret
  exact ⟨rfl, hb2⟩
theorem frame_any (a : Option Addr) (len cap : Nat) (ss : List ByteArray) (w : World) (h : IsRowS w a len ss) (hn : ss.length ≤ 100000) (ht : total ss ≤ 1000000) :
    Calls Try.prog 10 #[.slice a len cap] w fun e w' => e = .returned (.string ⟨(frames (texts ss)).toArray⟩) ∧ Below w.heap.size w w' := by
  obtain ⟨rfl, -, hrow⟩ := h
  rcases hrow with h0 | ⟨b, off, rfl, hb, hc⟩
  · obtain rfl := List.eq_nil_of_length_eq_zero h0
    exact frame_zero a cap w
  · exact frame_rows b off cap ss w hb hn ht hc

theorem rowS_below {w w' : World} {a : Option Addr} {len : Nat} {ss : List ByteArray} (h : IsRowS w a len ss) (hb : Below w.heap.size w w') : IsRowS w' a len ss := by
  obtain ⟨h1, h2, h3⟩ := h
  refine ⟨h1, h2, h3.imp id ?_⟩
  rintro ⟨b, off, rfl, hl, hc⟩
  exact ⟨b, off, rfl, Nat.lt_of_lt_of_le hl hb.size, fun i hi => (hb.cell (by exact hl)).trans (hc i hi)⟩
theorem rowS_take {w : World} {a : Option Addr} {len : Nat} {ss : List ByteArray} (h : IsRowS w a len ss) (k : Nat) (hk : k ≤ len) : IsRowS w a k (ss.take k) := by
  obtain ⟨h1, h2, h3⟩ := h
  refine ⟨by rw [List.length_take]; omega, fun s hs => h2 s (List.mem_of_mem_take hs), ?_⟩
  by_cases hk0 : k = 0
  · exact .inl hk0
  · rcases h3 with h3 | ⟨b, off, rfl, hl, hc⟩
    · omega
    · refine .inr ⟨b, off, rfl, hl, fun i hi => ?_⟩
      have hi2 : i < ss.length := by rw [List.length_take] at hi; omega
      rw [hc i hi2]
      simp
/-- A list that was answered, as one that came in. -/
theorem rowT_rowS {B : Nat} {w : World} {v : Value} {ts : List (List UInt8)} (h : (rowT v ts).ok B w) (hs : ∀ t ∈ ts, t.length ≤ maxLen) : ∃ a cap, v = .slice a ts.length cap ∧ IsRowS w a ts.length (ts.map fun t => ⟨t.toArray⟩) ∧ ts.length ≤ cap ∧ (a = none → cap = 0) := by
  have hsz : ∀ s ∈ ts.map (fun t => (⟨t.toArray⟩ : ByteArray)), s.size ≤ maxLen := by
    intro s hs2
    obtain ⟨t, ht, rfl⟩ := List.mem_map.1 hs2
    have := hs t ht
    show t.toArray.size ≤ maxLen
    simpa using this
  rcases h.slice with ⟨hv, hn, hx⟩ | ⟨g, cap, hv, hg, -, hl, hc⟩
  · have hn' : ts.length = 0 := hn
    exact ⟨none, 0, by rw [hn']; exact hv, ⟨by simp, hsz, .inl hn'⟩, by omega, fun _ => rfl⟩
  · refine ⟨some ⟨g, 0, none⟩, cap, hv, ⟨by simp, hsz, .inr ⟨g, 0, rfl, hl, ?_⟩⟩, hc, fun h => by cases h⟩
    intro i hi
    rw [Nat.zero_add]
    have hi2 : i < ts.length := by simpa using hi
    refine h.cell hg i _ ?_
    show (ts.map fun t => Value.string ⟨t.toArray⟩)[i]? = _
    simp [hi2]

set_option maxHeartbeats 1000000 in
set_option maxRecDepth 100000 in
theorem sameS_some (g off0 cap0 b off cap : Nat) (zs : List ByteArray) (w : World) (hl : zs.length ≤ 1000000) (h0 : ∀ i (h : i < zs.length), w.cell? ⟨g, off0 + i, none⟩ = some (.string zs[i])) (h1 : ∀ i (h : i < zs.length), w.cell? ⟨b, off + i, none⟩ = some (.string zs[i])) :
    Calls Try.prog 29 #[.slice (some ⟨g, off0, none⟩) zs.length cap0, .slice (some ⟨b, off, none⟩) zs.length cap] w fun e w' => e = .returned (.bool true) ∧ ∃ n, w' = w.drewN n := by
  have H0 := Lib.hid h0
  have H1 := Lib.hid h1
  clear h0 h1
  go_enter Try.func29, Try.ntmps29
  go_wp2
  go_loopw [5] (fun i wr => ∃ k n : Nat, k ≤ zs.length ∧ i = .int .i64 k ∧ wr = w.drewN n) (fun i _ => zs.length - (intOf i).toNat)
  case atStart => exact ⟨0, 0, Nat.zero_le _, rfl, rfl⟩
  case round =>
    obtain ⟨k, n, hk, rfl, rfl⟩ := hrel
    by_cases hlt : k < zs.length
    · have hc0 := H0.out k hlt
      have hc1 := H1.out k hlt
      have hk0 : (k : Int) < (zs.length : Int) := by omega
      go_wp2
      go_quiet (fail)
      go_wp2
      go_roundw
      case rel => exact ⟨k + 1, n + nq, by omega, by go_num, by first | rfl | (rw [drewN_add])⟩
      case measure => simp [intOf]; omega
    · go_wp2
      go_ret
      exact ⟨rfl, n, rfl⟩
set_option maxHeartbeats 1000000 in
theorem sameS_none (a0 a1 : Option Addr) (cap0 cap : Nat) (w : World) :
    Calls Try.prog 29 #[.slice a0 0 cap0, .slice a1 0 cap] w fun e w' => e = .returned (.bool true) ∧ ∃ n, w' = w.drewN n := by
  go_enter Try.func29, Try.ntmps29
  go_wp2
  refine wp_loop_rounds 1 ?_
  rw [rounds_succ]
  go_wp2
  go_ret
  exact ⟨rfl, 0, rfl⟩
theorem same_any (a0 a1 : Option Addr) (len cap0 cap : Nat) (ss : List ByteArray) (w : World) (h0 : IsRowS w a0 len ss) (h1 : IsRowS w a1 len ss) (hl : ss.length ≤ 1000000) :
    Calls Try.prog 29 #[.slice a0 len cap0, .slice a1 len cap] w fun e w' => e = .returned (.bool true) ∧ Below w.heap.size w w' := by
  have key : Calls Try.prog 29 #[.slice a0 len cap0, .slice a1 len cap] w fun e w' => e = .returned (.bool true) ∧ ∃ n, w' = w.drewN n := by
    obtain ⟨rfl, -, r0⟩ := h0
    obtain ⟨-, -, r1⟩ := h1
    rcases r0 with h0 | ⟨b, off, rfl, hb, hc⟩
    · rw [h0]; exact sameS_none _ _ _ _ _
    · rcases r1 with h0 | ⟨b1, off1, rfl, hb1, hc1⟩
      · rw [h0]; exact sameS_none _ _ _ _ _
      · exact sameS_some b off cap0 b1 off1 cap ss w hl hc hc1
  refine key.mono ?_
  rintro e w' ⟨rfl, n, rfl⟩
  exact ⟨rfl, drew_below _ _⟩
end Go.Proofs.Yteejghhcmmocfaa
