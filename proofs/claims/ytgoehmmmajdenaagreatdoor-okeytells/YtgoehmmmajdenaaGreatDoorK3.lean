/- Contract of okey.Next: the least text above all that begin with one, for every text of fewer than 4294967281 bytes. -/
import Derived.Test.YtgoehmmmajdenaaGreatDoorK2
import Derived.Lib.ConvBytes
namespace Go.Proofs.YtgoehmmmajdenaaGreatDoor
open Go.RowKit

/-- The bytes up to the last one that is not 255, that one more. -/
def nxt : List UInt8 → Option (List UInt8)
  | [] => none
  | c :: r => match nxt r with
    | some t => some (c :: t)
    | none => if c = 255 then none else some [c + 1]
theorem nxt_none : ∀ (s : List UInt8), (∀ x ∈ s, x = 255) → nxt s = none
  | [], _ => rfl
  | c :: r, h => by
    have h1 := nxt_none r (fun x hx => h x (by simp [hx]))
    simp [nxt, h1, h c (by simp)]
theorem nxt_some (c : UInt8) (t : List UInt8) (hc : c ≠ 255) (ht : ∀ x ∈ t, x = 255) : ∀ (a : List UInt8), nxt (a ++ c :: t) = some (a ++ [c + 1])
  | [] => by simp [nxt, nxt_none t ht, hc]
  | x :: a => by simp [nxt, nxt_some c t hc ht a]
theorem nxt_cases : ∀ (s : List UInt8), (∀ x ∈ s, x = 255) ∨ ∃ a c t, s = a ++ c :: t ∧ c ≠ 255 ∧ ∀ x ∈ t, x = 255
  | [] => .inl (by simp)
  | y :: r => by
    rcases nxt_cases r with h | ⟨a, c, t, rfl, h1, h2⟩
    · by_cases hy : y = 255
      · left
        intro x hx
        rcases List.mem_cons.1 hx with rfl | hx
        · exact hy
        · exact h x hx
      · exact .inr ⟨[], y, r, rfl, hy, h⟩
    · exact .inr ⟨y :: a, c, t, rfl, h1, h2⟩

set_option maxHeartbeats 1000000 in
set_option maxRecDepth 100000 in
theorem next_none (s : ByteArray) (w : World) (hs : s.size < 4294967281) (h : ∀ (j : Nat) (hj : j < s.size), s[j] = 255) :
    Calls Tryz.prog 15 #[.string s] w fun e w' => e = .returned (.tuple #[.string ⟨#[]⟩, .bool false]) ∧ w = w' := by
  go_enter Tryz.func15, Tryz.ntmps15
  go_wp2
  go_loop [4] (fun i => ∃ (I : Int), i = .int .i64 I ∧ -1 ≤ I ∧ I < s.size) (fun i => (intOf i + 1).toNat)
  case atStart => exact ⟨_, rfl, by omega, by omega⟩
  case round =>
    obtain ⟨I, rfl, h0, h1⟩ := hrel
    by_cases hI : I < 0
    · have hd : decide (0 ≤ I) = false := by simpa using hI
      go_wp2
      go_ret2
      exact ⟨rfl, rfl⟩
    · obtain ⟨j, rfl⟩ : ∃ j : Nat, I = (j : Int) := ⟨I.toNat, by omega⟩
      have hj : j < s.size := by omega
      have hb := h j hj
      go_wp2
      go_round
      case rel => exact ⟨_, rfl, by omega, by omega⟩
      case measure => simp [intOf]

theorem bytes_of (s : ByteArray) (w : World) : ∃ (C : Nat) (w1 : World), (convert 9 68 (.string s)).run Tryz.prog w = .ok (.slice (some ⟨w.heap.size, 0, none⟩) s.size C) w1 ∧ Below w.heap.size w w1 ∧
    (∀ i, i < s.size → w1.cell? ⟨w.heap.size, i, none⟩ = some (.int .u8 (s.data.toList.getD i 0).toNat)) ∧ (∀ i, i < s.size → w1.frozen? ⟨w.heap.size, i, none⟩ = false) := by
  refine ⟨_, _, Lib.run_convert_string_bytes w _ _ _ s Tryz.underlying9 Tryz.underlying68 Tryz.underlying5, ?_, ?_, ?_⟩
  · refine ⟨rfl, rfl, rfl, ?_, fun k hk => Lib.bytesWorld_at_old w _ s k hk⟩
    rw [Lib.bytesWorld_size]; omega
  · intro i hi
    exact Lib.bytesWorld_cell w _ s i hi
  · intro i hi
    simp only [World.frozen?, Lib.bytesWorld_at_new]
    have hz : s.size ≤ (Lib.bytesCells w 5 s).size := by
      unfold Lib.bytesCells
      rw [Array.size_append, Array.size_map]
      exact Nat.le_add_right _ _
    simp
    omega

set_option maxHeartbeats 1000000 in
set_option maxRecDepth 100000 in
theorem next_some (s : ByteArray) (k : Nat) (w : World) (hs : s.size < 4294967281) (hk : k < s.size) (hc : s[k].toNat < 255) (h : ∀ (j : Nat) (hj : j < s.size), k < j → s[j] = 255) :
    Calls Tryz.prog 15 #[.string s] w fun e w' => e = .returned (.tuple #[.string ⟨(s.data.toList.take k ++ [s[k] + 1]).toArray⟩, .bool true]) ∧ Below w.heap.size w w' := by
  go_enter Tryz.func15, Tryz.ntmps15
  go_wp2
  go_loop [4] (fun i => ∃ (j : Nat), i = .int .i64 j ∧ k ≤ j ∧ j < s.size) (fun i => (intOf i).toNat)
  case atStart => exact ⟨s.size - 1, by simp; omega, by omega, by omega⟩
  case round =>
    obtain ⟨j, rfl, h0, h1⟩ := hrel
    by_cases hj : j = k
    · subst hj
      have hne : ((s[j].toNat : Int) == 255) = false := by simp; omega
      have hz : (s.extract 0 (j + 1)).size = j + 1 := by simp; omega
      obtain ⟨C, w1, hcv, hb, hcells, hfr⟩ := bytes_of (s.extract 0 (j + 1)) w
      rw [hz] at hcv hcells hfr
      have hget : ∀ i, i < j + 1 → ((s.extract 0 (j + 1)).data.toList.getD i 0) = s.data.toList.getD i 0 := by
        intro i hi
        simp [ByteArray.data_extract, List.getD, hi]
      have hcell : w1.cell? ⟨w.heap.size, j, none⟩ = some (.int .u8 (s[j].toNat : Int)) := by
        rw [hcells j (by omega), hget j (by omega)]
        have hlt : j < s.data.toList.length := hk
        simp only [List.getD, List.getElem?_eq_getElem hlt, Option.getD_some]
        rfl
      have hfz := hfr j (by omega)
      have hcv2 : (convert 68 9 (.slice (some ⟨w.heap.size, 0, none⟩) (j + 1) C)).run Tryz.prog (w1.setCell ⟨w.heap.size, j, none⟩ (.int .u8 ((s[j].toNat : Int) + 1))) = .ok (.string ⟨(s.data.toList.take j ++ [s[j] + 1]).toArray⟩) (w1.setCell ⟨w.heap.size, j, none⟩ (.int .u8 ((s[j].toNat : Int) + 1))) := by
        have hl : (s.data.toList.take j ++ [s[j] + 1]).length = j + 1 := by
          have : s.data.toList.length = s.size := rfl
          simp; omega
        have := run_convert_bytes_back (P := Tryz.prog) (w1.setCell ⟨w.heap.size, j, none⟩ (.int .u8 ((s[j].toNat : Int) + 1))) 68 9 5 ⟨w.heap.size, 0, none⟩ C (s.data.toList.take j ++ [s[j] + 1]) Tryz.underlying68 Tryz.underlying5 Tryz.underlying9 ?_
        · rw [hl] at this
          exact this
        · intro i hi
          rw [hl] at hi
          have ha : (⟨w.heap.size, 0, none⟩ : Addr).add i = ⟨w.heap.size, i, none⟩ := by
            unfold Addr.add
            split
            · rename_i h0; subst h0; rfl
            · simp
          rw [ha]
          by_cases hij : i = j
          · subst hij
            rw [World.cell?_setCell_same _ _ _ hcell]
            have hlt : (s.data.toList.take i).length = i := by
              have : s.data.toList.length = s.size := rfl
              simp; omega
            have e : (s.data.toList.take i ++ [s[i] + 1])[i]'(by rw [hl]; omega) = s[i] + 1 := by
              rw [List.getElem_append_right (by omega)]
              simp
            rw [e]
            have hq : (s[i] + 1).toNat = s[i].toNat + 1 := by
              rw [UInt8.toNat_add]
              have : (1 : UInt8).toNat = 1 := rfl
              omega
            rw [hq]
            rfl
          · rw [World.cell?_setCell_other _ _ _ _ (by intro h; cases h; exact hij rfl), hcells i hi, hget i hi]
            have hsz : s.data.toList.length = s.size := rfl
            have e : (s.data.toList.take j ++ [s[j] + 1])[i]'(by rw [hl]; omega) = s.data.toList[i]'(by omega) := by
              rw [List.getElem_append_left (by simp; omega)]
              simp
            rw [e]
            simp only [List.getD, List.getElem?_eq_getElem (show i < s.data.toList.length by omega), Option.getD_some]
      clear hcells hfr hget
      have hbel : Below w.heap.size w (w1.setCell ⟨w.heap.size, j, none⟩ (.int .u8 ((s[j].toNat : Int) + 1))) := hb.setCell (Nat.le_refl _) _
      go_wp2
      go_ret2
      exact ⟨rfl, hbel⟩
    · have hb := h j h1 (by omega)
      go_wp2
      go_round
      case rel => exact ⟨j - 1, by simp; omega, by omega, by omega⟩
      case measure => simp [intOf]; omega
/-- What Next answers. -/
def nextVal (s : List UInt8) : Value := match nxt s with
  | some t => .tuple #[.string ⟨t.toArray⟩, .bool true]
  | none => .tuple #[.string ⟨#[]⟩, .bool false]
theorem next_any (s : ByteArray) (w : World) (hs : s.size < 4294967281) :
    Calls Tryz.prog 15 #[.string s] w fun e w' => e = .returned (nextVal s.data.toList) ∧ Below w.heap.size w w' := by
  have hsz : s.data.toList.length = s.size := rfl
  rcases nxt_cases s.data.toList with h | ⟨a, c, t, h, hc, ht⟩
  · have e : nextVal s.data.toList = .tuple #[.string ⟨#[]⟩, .bool false] := by unfold nextVal; rw [nxt_none _ h]
    rw [e]
    refine (next_none s w hs ?_).mono ?_
    · intro j hj
      exact h _ (List.getElem_mem (show j < s.data.toList.length by omega))
    · rintro e w1 ⟨rfl, rfl⟩
      exact ⟨rfl, Below.refl _ _⟩
  · have hk : a.length < s.size := by rw [← hsz, h]; simp
    have hat : ∀ (j : Nat) (hj : j < s.size), s[j] = (a ++ c :: t)[j]'(by rw [← h]; omega) := by
      intro j hj
      have : s[j] = s.data.toList[j]'(by omega) := rfl
      rw [this]
      congr 1
    have hck : s[a.length] = c := by rw [hat _ hk]; simp
    have e : nextVal s.data.toList = .tuple #[.string ⟨(s.data.toList.take a.length ++ [s[a.length] + 1]).toArray⟩, .bool true] := by
      unfold nextVal
      rw [h, nxt_some c t hc ht a, hck]
      simp
    rw [e]
    refine (next_some s a.length w hs hk ?_ ?_).mono ?_
    · rw [hck]
      have := c.toNat_lt
      have : c.toNat ≠ 255 := fun e => hc (UInt8.toNat_inj.1 (by rw [e]; rfl))
      omega
    · intro j hj hlt
      rw [hat j hj, List.getElem_append_right (by omega)]
      obtain ⟨d, hd⟩ : ∃ d, j - a.length = d + 1 := ⟨j - a.length - 1, by omega⟩
      simp only [hd, List.getElem_cons_succ]
      exact ht _ (List.getElem_mem _)
    · rintro e w1 ⟨rfl, hb⟩
      exact ⟨rfl, hb⟩
end Go.Proofs.YtgoehmmmajdenaaGreatDoor
