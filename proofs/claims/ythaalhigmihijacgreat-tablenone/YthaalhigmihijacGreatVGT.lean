/- What the statements are handed as lists of texts, and the helpers Room and Short of the statements: a list that Short lets by is short. -/
import Derived.Test.YthaalhigmihijacGreatVG6
import Derived.ProofKit
import Derived.SliceStrings
import Derived.OpenShut
namespace Go.Proofs.YthaalhigmihijacGreat
open Go.RowKit Go.ChangeShapes Go.WideShapes Go.ChangeAt

theorem gaddr_plain (b o j : Nat) : (⟨b, o, none⟩ : Addr).add j = ⟨b, o + j, none⟩ := by unfold Addr.add; split <;> simp_all
/-- A slice of texts that came in: its elements are ss. -/
def IsRowS (w : World) (a : Option Addr) (len : Nat) (ss : List ByteArray) : Prop :=
  ss.length = len ∧ (∀ s ∈ ss, s.size ≤ maxLen) ∧ (len = 0 ∨ ∃ b off, a = some ⟨b, off, none⟩ ∧ b < w.heap.size ∧ ∀ i (h : i < ss.length), w.cell? ⟨b, off + i, none⟩ = some (.string ss[i]))

theorem block_lt {w : World} {a : Addr} {v : Value} (h : w.cell? a = some v) : a.block < w.heap.size := by
  rcases Nat.lt_or_ge a.block w.heap.size with h1 | h1
  · exact h1
  · simp [World.cell?, Array.getElem?_eq_none h1] at h

theorem cellsStr : Tryz.prog.cellsOf 9 = 1 := by kernel_rfl

theorem rowS_of {H : Type} {enc : TypeId × Value → H} {w : World} {base fuel : Nat} {held : Bool} {a : Option Addr} {len cap : Nat} {x : DataW H × List MemPlace}
    (h : DataW.trod enc Tryz.prog w base (fun _ => true) held fuel 23 (Value.slice a len cap).cells.toList = some x) : len ≤ maxLen ∧ ∃ ss, IsRowS w a len ss := by
  rcases open_strings Tryz.underlying23 Tryz.underlying9 cellsStr h with ⟨hcs, _⟩ | ⟨y, l, c, ss, hcs, _, hl, hm, hz, _, hcell, hws⟩
  · simp [Value.cells] at hcs
    obtain ⟨rfl, rfl, rfl⟩ := hcs
    exact ⟨by unfold maxLen; omega, [], rfl, by simp, .inl rfl⟩
  · simp [Value.cells] at hcs
    obtain ⟨rfl, rfl, rfl⟩ := hcs
    have hz' : ss.length = cap := by simpa using hz
    refine ⟨Nat.le_trans hl hm, ss.take len, by simp; omega, fun s hs => hws s (List.mem_of_mem_take hs), ?_⟩
    by_cases h0 : len = 0
    · exact .inl h0
    · right
      have hc0 := hcell 0 (by omega)
      obtain ⟨b, off, spot⟩ := y
      have hs : spot = none := by simpa [Addr.add] using World.cell?_spot hc0
      subst hs
      refine ⟨b, off, rfl, block_lt hc0, ?_⟩
      intro i hi
      have hi' : i < len := by simp at hi; omega
      have hci := hcell i (by omega)
      have e : (ss.take len)[i] = ss[i]'(by omega) := by simp
      have e2 : ss.getD i ByteArray.empty = ss[i]'(by omega) := by simp [List.getD, List.getElem?_eq_getElem (show i < ss.length by omega)]
      rw [e2] at hci
      rw [e]
      rw [gaddr_plain] at hci
      exact hci

/-- What is left of the room behind one more size. -/
def room1 (r sz : Int) : Int := if r < 0 ∨ r < sz then -1 else r - sz

set_option maxHeartbeats 1000000 in
theorem room_any (r sz : Int) (b : Nat) (w : World) (hr0 : -1 ≤ r) (hr1 : r ≤ 1000000) (hs0 : 0 ≤ sz) (hs1 : sz ≤ 9223372036854775807) (hc : w.cell? ⟨b, 0, none⟩ = some (.int .i64 sz)) :
    Calls Tryz.prog 36 #[.int .i64 r, .slice (some ⟨b, 0, none⟩) 1 1] w fun e w' => e = .returned (.int .i64 (room1 r sz)) ∧ w = w' := by
  unfold room1
  by_cases h : r < 0 ∨ r < sz
  · rw [if_pos h]
    by_cases h0 : r < 0
    · clear h
      go_enter Tryz.func36, Tryz.ntmps36
      go_wp2
      refine wp_loop_rounds 1 ?_
      rw [rounds_succ]
      go_wp2
      go_ret
      exact ⟨rfl, rfl⟩
    · have h2 : r < sz := by omega
      have hd : decide (r < 0) = false := by simpa using h0
      clear h
      go_enter Tryz.func36, Tryz.ntmps36
      go_wp2
      refine wp_loop_rounds 1 ?_
      rw [rounds_succ]
      go_wp2
      go_ret
      exact ⟨rfl, rfl⟩
  · rw [if_neg h]
    have h0 : 0 ≤ r := by omega
    have h2 : sz ≤ r := by omega
    have hd : decide (r < 0) = false := by simpa using h0
    clear h
    go_enter Tryz.func36, Tryz.ntmps36
    go_wp2
    refine wp_loop_rounds 2 ?_
    rw [rounds_succ]
    go_wp2
    rw [rounds_succ]
    go_wp2
    go_ret
    exact ⟨rfl, rfl⟩

/-- How many bytes texts have together. -/
def total (ss : List ByteArray) : Nat := (ss.map ByteArray.size).sum
theorem total_snoc (ss : List ByteArray) (s : ByteArray) : total (ss ++ [s]) = total ss + s.size := by simp [total]

theorem total_take_le : ∀ (ss : List ByteArray) (k : Nat), total (ss.take k) ≤ total ss
  | [], k => by simp [total]
  | s :: ss, 0 => by simp [total]
  | s :: ss, k + 1 => by
    have := total_take_le ss k
    simp only [total, List.take_succ_cons, List.map_cons, List.sum_cons] at *
    omega
theorem total_mem {ss : List ByteArray} {s : ByteArray} (h : s ∈ ss) : s.size ≤ total ss := by
  induction ss with
  | nil => cases h
  | cons t ss ih =>
    simp only [total, List.map_cons, List.sum_cons] at *
    rcases List.mem_cons.1 h with rfl | h
    · omega
    · have := ih h; omega

/-- It tells a truth; if it says yes, there are few, and they are short. -/
def TellsShort (few room : Int) (ss : List ByteArray) (e : Ending) : Prop := ∃ t : Bool, e = .returned (.bool t) ∧ (t = true → (ss.length : Int) ≤ few ∧ (total ss : Int) ≤ room)

set_option maxHeartbeats 2000000 in
theorem short_many (few room : Int) (a : Option Addr) (len cap : Nat) (w : World) (h : few < (len : Int)) :
    Calls Tryz.prog 7 #[.int .i64 few, .int .i64 room, .slice a len cap] w fun e w' => e = .returned (.bool false) ∧ Below w.heap.size w w' := by
  go_enter Tryz.func7, Tryz.ntmps7
  go_wp2
  go_ret
  exact ⟨rfl, Below.refl _ _⟩

set_option maxHeartbeats 2000000 in
set_option maxRecDepth 100000 in
theorem short_few (few room : Int) (b off cap : Nat) (ss : List ByteArray) (w : World) (h : (ss.length : Int) ≤ few) (hf : few ≤ 1000000) (hr0 : 0 ≤ room) (hr1 : room ≤ 1000000) (hss : ∀ s ∈ ss, s.size ≤ maxLen) (hb : b < w.heap.size)
    (hc : ∀ i (h : i < ss.length), w.cell? ⟨b, off + i, none⟩ = some (.string ss[i])) :
    Calls Tryz.prog 7 #[.int .i64 few, .int .i64 room, .slice (some ⟨b, off, none⟩) ss.length cap] w fun e w' => TellsShort few room ss e ∧ Below w.heap.size w w' := by
  go_enter Tryz.func7, Tryz.ntmps7
  go_wp2
  go_loopw [1, 7] (fun vr vi wr => ∃ (k : Nat) (r : Int), k ≤ ss.length ∧ vi = .int .i64 k ∧ vr = .int .i64 r ∧ -1 ≤ r ∧ r ≤ room ∧ Hid (0 ≤ r → r + (total (ss.take k) : Int) = room) ∧ Below w.heap.size w wr)
    (fun _ vi _ => ss.length - (intOf vi).toNat)
  case atStart => exact ⟨0, room, Nat.zero_le _, rfl, rfl, by omega, Int.le_refl _, fun _ => by simp [total], Below.refl _ _⟩
  case round =>
    obtain ⟨k, r, hk, rfl, rfl, hm1, hmr, HR, hnx⟩ := hrel
    by_cases hlt : k < ss.length
    · by_cases hrn : 0 ≤ r
      · have hcx : wr.cell? ⟨b, off + k, none⟩ = some (.string ss[k]) := (hnx.cell (by exact hb)).trans (hc k hlt)
        have hsz : ss[k].size ≤ maxLen := hss _ (List.getElem_mem hlt)
        unfold maxLen at hsz
        have hsz' : (ss[k].size : Int) ≤ 9223372036854775807 := by omega
        have HSN : Hid (ss.take (k + 1) = ss.take k ++ [ss[k]]) := List.take_succ_eq_append_getElem hlt
        clear hsz
        go_wp2_with (go_at_call 36; refine (room_any r (ss[k].size : Int) wr.heap.size _ hm1 (by omega) (by omega) hsz' (by simp)).mono ?_; rintro e w1 ⟨rfl, rfl⟩)
        go_roundw
        case rel =>
          refine ⟨k + 1, _, by omega, by go_num, rfl, ?_, ?_, ?_, hnx.alloc hnx.size _⟩
          · unfold room1; split <;> omega
          · unfold room1; split <;> omega
          · show _ → _
            rw [HSN.out, total_snoc]
            have h1 := HR.out hrn
            unfold room1
            split
            · intro h2; omega
            · intro _; omega
        case measure => simp [intOf]; omega
      · have hd : decide (0 ≤ r) = false := by simpa using hrn
        go_wp2
        go_ret
        exact ⟨⟨false, rfl, fun h => by cases h⟩, hnx⟩
    · have hke : k = ss.length := by omega
      by_cases hrn : 0 ≤ r
      · have hd : decide (0 ≤ r) = true := by simpa using hrn
        have h1 := HR.out hrn
        rw [hke, List.take_length] at h1
        have H1 := Lib.hid h1
        clear h1 HR
        go_wp2
        go_ret
        exact ⟨⟨true, rfl, fun _ => ⟨h, by have := H1.out; omega⟩⟩, hnx⟩
      · have hd : decide (0 ≤ r) = false := by simpa using hrn
        go_wp2
        go_ret
        exact ⟨⟨false, rfl, fun h => by cases h⟩, hnx⟩

set_option maxHeartbeats 2000000 in
theorem short_none (few room : Int) (a : Option Addr) (cap : Nat) (w : World) (h : 0 ≤ few) (hr0 : 0 ≤ room) :
    Calls Tryz.prog 7 #[.int .i64 few, .int .i64 room, .slice a 0 cap] w fun e w' => e = .returned (.bool true) ∧ Below w.heap.size w w' := by
  go_enter Tryz.func7, Tryz.ntmps7
  go_wp2
  refine wp_loop_rounds 1 ?_
  rw [rounds_succ]
  go_wp2
  go_ret
  exact ⟨rfl, Below.refl _ _⟩

theorem short_any (few room : Int) (a : Option Addr) (len cap : Nat) (ss : List ByteArray) (w : World) (hf0 : 0 ≤ few) (hf : few ≤ 1000000) (hr0 : 0 ≤ room) (hr1 : room ≤ 1000000) (h : IsRowS w a len ss) :
    Calls Tryz.prog 7 #[.int .i64 few, .int .i64 room, .slice a len cap] w fun e w' => TellsShort few room ss e ∧ Below w.heap.size w w' := by
  obtain ⟨hl, hss, hrow⟩ := h
  by_cases hm : few < (len : Int)
  · exact (short_many few room a len cap w hm).mono fun e w' h => ⟨⟨false, h.1, fun h => by cases h⟩, h.2⟩
  · rcases hrow with h0 | ⟨b, off, rfl, hb, hc⟩
    · subst h0
      have he : ss = [] := List.eq_nil_of_length_eq_zero hl
      subst he
      exact (short_none few room a cap w hf0 hr0).mono fun e w' h => ⟨⟨true, h.1, fun _ => ⟨by simpa using hf0, by simpa [total] using hr0⟩⟩, h.2⟩
    · subst hl
      exact short_few few room b off cap ss w (by omega) hf hr0 hr1 hss hb hc
theorem rowS_nil {H : Type} {enc : TypeId × Value → H} {w : World} {base fuel : Nat} {held : Bool} {a : Option Addr} {len cap : Nat} {x : DataW H × List MemPlace}
    (h : DataW.trod enc Tryz.prog w base (fun _ => true) held fuel 23 (Value.slice a len cap).cells.toList = some x) : a = none → cap = 0 := by
  rcases open_strings Tryz.underlying23 Tryz.underlying9 cellsStr h with ⟨hcs, _⟩ | ⟨y, l, c, ss, hcs, _, hl, hm, hz, _, hcell, hws⟩
  · simp [Value.cells] at hcs
    exact fun _ => hcs.2.2
  · simp [Value.cells] at hcs
    intro e
    rw [hcs.1] at e
    cases e
theorem rowS_cap {H : Type} {enc : TypeId × Value → H} {w : World} {base fuel : Nat} {held : Bool} {a : Option Addr} {len cap : Nat} {x : DataW H × List MemPlace}
    (h : DataW.trod enc Tryz.prog w base (fun _ => true) held fuel 23 (Value.slice a len cap).cells.toList = some x) : len ≤ cap ∧ cap ≤ maxLen := by
  rcases open_strings Tryz.underlying23 Tryz.underlying9 cellsStr h with ⟨hcs, _⟩ | ⟨y, l, c, ss, hcs, _, hl, hm, hz, _, hcell, hws⟩
  · simp [Value.cells] at hcs
    obtain ⟨rfl, rfl, rfl⟩ := hcs
    exact ⟨Nat.le_refl _, by unfold maxLen; omega⟩
  · simp [Value.cells] at hcs
    obtain ⟨rfl, rfl, rfl⟩ := hcs
    exact ⟨hl, hm⟩
end Go.Proofs.YthaalhigmihijacGreat
