/- The document's own answers of chapter 2: Key, Num, Int, Next: what each returns. -/
import Derived.Test.YtgoehmmmajdenaaGreatDoorQ1
import Derived.Test.YtgoehmmmajdenaaGreatDoorK3
namespace Go.Proofs.YtgoehmmmajdenaaGreatDoor
open Go.RowKit

theorem reffix_ok (v : Nat) (w : World) (hv : v < 18446744073709551616) :
    Calls Tryz.prog 36 #[.int .u64 v, .int .i64 8] w fun e w' => e = .returned (.string ⟨(be v 8).toArray⟩) ∧ Below w.heap.size w w' := by
  go_enter Tryz.func36, Tryz.ntmps36
  go_wp2_with (go_at_call 99; refine (refFix_ok v 8 _ (by omega) (by omega) hv (by omega)).mono ?_; rintro e w1 ⟨rfl, hb⟩)
  go_ret
  exact ⟨rfl, hb⟩
theorem refNum_any (v : Nat) (w : World) (hv : v < 18446744073709551616) :
    Calls Tryz.prog 20 #[.int .u64 v] w fun e w' => e = .returned (.string ⟨(be v 8).toArray⟩) ∧ Below w.heap.size w w' := by
  go_enter Tryz.func20, Tryz.ntmps20
  go_wp2_with (go_at_call 36; refine (reffix_ok v _ hv).mono ?_; rintro e w1 ⟨rfl, hb⟩)
  go_ret
  exact ⟨rfl, hb⟩
theorem refInt_any (v : Int) (w : World) (h0 : -9223372036854775808 ≤ v) (h1 : v ≤ 9223372036854775807) :
    Calls Tryz.prog 22 #[.int .i64 v] w fun e w' => e = .returned (.string ⟨(be (turn v) 8).toArray⟩) ∧ Below w.heap.size w w' := by
  have ht : ((turn v : Nat) : Int) = v + 9223372036854775808 := by unfold turn; omega
  have hl : turn v < 18446744073709551616 := by unfold turn; omega
  by_cases hv : 0 ≤ v
  · have e1 : IntKind.u64.wrap v = v := by rw [IntKind.wrap_u64]; omega
    have e2 : IntKind.u64.wrap (v + 9223372036854775808) = ((turn v : Nat) : Int) := by rw [IntKind.wrap_u64, ht]; omega
    clear ht
    go_enter Tryz.func22, Tryz.ntmps22
    go_wp2_with (go_at_call 36; refine (reffix_ok (turn v) _ hl).mono ?_; rintro e w1 ⟨rfl, hb⟩)
    go_ret
    exact ⟨rfl, hb⟩
  · have hd : decide (0 ≤ v) = false := by simpa using hv
    have e1 : IntKind.u64.wrap v = v + 18446744073709551616 := by rw [IntKind.wrap_u64]; omega
    have e2 : IntKind.u64.wrap (v + 18446744073709551616 - 9223372036854775808) = ((turn v : Nat) : Int) := by rw [IntKind.wrap_u64, ht]; omega
    clear ht
    go_enter Tryz.func22, Tryz.ntmps22
    go_wp2_with (go_at_call 36; refine (reffix_ok (turn v) _ hl).mono ?_; rintro e w1 ⟨rfl, hb⟩)
    go_ret
    exact ⟨rfl, hb⟩

theorem esc_take (s : ByteArray) (k : Nat) (h : k < s.size) : esc (s.data.toList.take (k + 1)) = esc (s.data.toList.take k) ++ (if s[k] = 0 then [0, 255] else [s[k]]) := by
  have h1 : k < s.data.toList.length := h
  rw [List.take_succ_eq_append_getElem h1, esc_append]
  have e : s.data.toList[k] = s[k] := rfl
  rw [e]
  by_cases hz : s[k] = 0
  · simp [esc, hz]
  · simp [esc, hz]

set_option maxHeartbeats 2000000 in
set_option maxRecDepth 100000 in
theorem refKey_any (s : ByteArray) (w : World) (hs : s.size < 4294967281) :
    Calls Tryz.prog 18 #[.string s] w fun e w' => e = .returned (.string ⟨(key s.data.toList).toArray⟩) ∧ Below w.heap.size w w' := by
  obtain ⟨i0, hi, hz0, hz1, hz2⟩ := info_parts infoByte
  go_enter Tryz.func18, Tryz.ntmps18
  go_wp2
  go_loopw [3, 4] (fun vb i wr => ∃ k : Nat, k ≤ s.size ∧ i = .int .i64 k ∧ wr.ownsRow w.heap.size 5 1 vb (esc (s.data.toList.take k)).length (Lib.byteCells (esc (s.data.toList.take k))) ∧ Below w.heap.size w wr)
    (fun _ i _ => s.size - (intOf i).toNat)
  case atStart => exact ⟨0, Nat.zero_le _, rfl, by simpa [esc, Lib.byteCells] using World.ownsRow_nil w _ _ _, Below.refl _ _⟩
  case round =>
    obtain ⟨k, hk, rfl, hown, hnx⟩ := hrel
    have hel := esc_length (s.data.toList.take k)
    have htl : (s.data.toList.take k).length ≤ k := List.length_take_le _ _
    have hsl : (esc (s.data.toList.take k)).length ≤ 8589934562 := by omega
    by_cases hlt : k < s.size
    · have HE := Lib.hid (esc_take s k hlt)
      generalize esc (s.data.toList.take k) = E at hown HE hsl hel
      clear hel htl
      by_cases hz : s[k] = 0
      · have hz1' : s[k].toNat = 0 := by rw [hz]; rfl
        rw [if_pos hz] at HE
        go_wp2_with (at_builtin; refine wpList_append_own _ rfl _ _ 68 rfl w.heap.size 5 i0 (.int .u8 0) 1 1 Tryz.underlying68 hi hz0 hz1 hz2 rfl (by decide) _ _ _ rfl (hown.alloc _) ⟨wr.heap.size, 0, none⟩ 1 1 [Value.int .u8 0] rfl rfl ?c1 ?c2 ?c3 ?c4 ?c5 ?_)
        case c1 =>
          intro j u hj
          match j, hj with
          | 0, hj => simp at hj; subst hj; simp [Addr.add]
        case c2 => intro u hu; simp at hu; subst hu; rfl
        case c3 => unfold maxLen; omega
        case c4 => omega
        case c5 => have := hnx.size; simp; omega
        intro v' w2 hown' hgrow _
        have hbel2 : Below w.heap.size w w2 := (hnx.alloc hnx.size _).grown hgrow (by have := hnx.size; simp; omega) (fun k hk => (hown.lt k hk).1)
        clear hgrow
        go_wp2_with (at_builtin; refine wpList_append_own _ rfl _ _ 68 rfl w.heap.size 5 i0 (.int .u8 0) 1 1 Tryz.underlying68 hi hz0 hz1 hz2 rfl (by decide) _ _ _ rfl (hown'.alloc _) ⟨w2.heap.size, 0, none⟩ 1 1 [Value.int .u8 255] rfl rfl ?c1 ?c2 ?c3 ?c4 ?c5 ?_)
        case c1 =>
          intro j u hj
          match j, hj with
          | 0, hj => simp at hj; subst hj; simp [Addr.add]
        case c2 => intro u hu; simp at hu; subst hu; rfl
        case c3 => unfold maxLen; omega
        case c4 => omega
        case c5 => have := hbel2.size; simp; omega
        intro v2 w3 hown2 hgrow _
        have hbel3 : Below w.heap.size w w3 := (hbel2.alloc hbel2.size _).grown hgrow (by have := hbel2.size; simp; omega) (fun k hk => (hown'.lt k hk).1)
        clear hgrow
        go_wp2
        go_roundw
        case rel =>
          refine ⟨k + 1, by omega, by go_num, ?_, hbel3⟩
          rw [HE.out, List.length_append, Lib.byteCells_append]
          exact hown2
        case measure => simp [intOf]; omega
      · have hz1' : ((s[k].toNat : Int) == 0) = false := by
          simp
          intro e
          exact hz (UInt8.toNat_inj.1 e)
        rw [if_neg hz] at HE
        go_wp2_with (at_builtin; refine wpList_append_own _ rfl _ _ 68 rfl w.heap.size 5 i0 (.int .u8 0) 1 1 Tryz.underlying68 hi hz0 hz1 hz2 rfl (by decide) _ _ _ rfl (hown.alloc _) ⟨wr.heap.size, 0, none⟩ 1 1 [Value.int .u8 (s[k].toNat : Int)] rfl rfl ?c1 ?c2 ?c3 ?c4 ?c5 ?_)
        case c1 =>
          intro j u hj
          match j, hj with
          | 0, hj => simp at hj; subst hj; simp [Addr.add]
        case c2 => intro u hu; simp at hu; subst hu; rfl
        case c3 => unfold maxLen; omega
        case c4 => omega
        case c5 => have := hnx.size; simp; omega
        intro v' w2 hown' hgrow _
        have hbel2 : Below w.heap.size w w2 := (hnx.alloc hnx.size _).grown hgrow (by have := hnx.size; simp; omega) (fun k hk => (hown.lt k hk).1)
        clear hgrow
        go_wp2
        go_roundw
        case rel =>
          refine ⟨k + 1, by omega, by go_num, ?_, hbel2⟩
          rw [HE.out, List.length_append, Lib.byteCells_append]
          exact hown'
        case measure => simp [intOf]; omega
    · have hke : k = s.size := by omega
      subst hke
      have hsz : s.data.toList.length = s.size := rfl
      have ht : s.data.toList.take s.size = s.data.toList := by rw [← hsz, List.take_length]
      rw [ht] at hown hsl
      clear hel htl
      have HK := Lib.hid (show key s.data.toList = esc s.data.toList ++ [0, 1] from rfl)
      generalize esc s.data.toList = E at hown hsl HK
      go_wp2_with (at_builtin; refine wpList_append_own _ rfl _ _ 68 rfl w.heap.size 5 i0 (.int .u8 0) 1 1 Tryz.underlying68 hi hz0 hz1 hz2 rfl (by decide) _ _ _ rfl (hown.alloc _) ⟨wr.heap.size, 0, none⟩ 2 2 [Value.int .u8 0, Value.int .u8 1] rfl rfl ?c1 ?c2 ?c3 ?c4 ?c5 ?_)
      case c1 =>
        intro j u hj
        match j, hj with
        | 0, hj => simp at hj; subst hj; simp [Addr.add]
        | 1, hj => simp at hj; subst hj; simp [Addr.add]
      case c2 => intro u hu; simp at hu; rcases hu with rfl | rfl <;> rfl
      case c3 => unfold maxLen; omega
      case c4 => omega
      case c5 => have := hnx.size; simp; omega
      intro v' w2 hown' hgrow _
      have hbel2 : Below w.heap.size w w2 := (hnx.alloc hnx.size _).grown hgrow (by have := hnx.size; simp; omega) (fun k hk => (hown.lt k hk).1)
      clear hgrow
      have hcv := conv_own (l := E ++ [0, 1]) (by rw [Lib.byteCells_append]; exact hown') (by simp)
      go_wp2
      go_ret
      rw [HK.out]
      exact ⟨rfl, hbel2⟩

set_option maxHeartbeats 1000000 in
set_option maxRecDepth 100000 in
theorem refNext_none (s : ByteArray) (w : World) (hs : s.size < 4294967281) (h : ∀ (j : Nat) (hj : j < s.size), s[j] = 255) :
    Calls Tryz.prog 16 #[.string s] w fun e w' => e = .returned (.tuple #[.string ⟨#[]⟩, .bool false]) ∧ w = w' := by
  go_enter Tryz.func16, Tryz.ntmps16
  go_wp2
  go_loop [4] (fun i => ∃ (I : Int), i = .int .i64 I ∧ -1 ≤ I ∧ I < s.size) (fun i => (intOf i + 1).toNat)
  case atStart => exact ⟨_, rfl, by omega, by omega⟩
  case round =>
    obtain ⟨I, rfl, h0, h1⟩ := hrel
    by_cases hI : I < 0
    · have hd : decide (0 ≤ I) = false := by simpa using hI
      go_wp2
      go_ret2
      exact ⟨rfl, rfl⟩
    · obtain ⟨j, rfl⟩ : ∃ j : Nat, I = (j : Int) := ⟨I.toNat, by omega⟩
      have hj : j < s.size := by omega
      have hb := h j hj
      go_wp2
      go_round
      case rel => exact ⟨_, rfl, by omega, by omega⟩
      case measure => simp [intOf]

theorem cut_cat (s : ByteArray) (j : Nat) (c : UInt8) : s.extract 0 j ++ ⟨#[c]⟩ = ⟨(s.data.toList.take j ++ [c]).toArray⟩ := by
  rcases s with ⟨⟨l⟩⟩
  apply ByteArray.ext
  simp [ByteArray.data_extract, ByteArray.data_append]

set_option maxHeartbeats 1000000 in
set_option maxRecDepth 100000 in
theorem refNext_some (s : ByteArray) (k : Nat) (w : World) (hs : s.size < 4294967281) (hk : k < s.size) (hc : s[k].toNat < 255) (h : ∀ (j : Nat) (hj : j < s.size), k < j → s[j] = 255) :
    Calls Tryz.prog 16 #[.string s] w fun e w' => e = .returned (.tuple #[.string ⟨(s.data.toList.take k ++ [s[k] + 1]).toArray⟩, .bool true]) ∧ Below w.heap.size w w' := by
  have hq : (s[k] + 1).toNat = s[k].toNat + 1 := by
    rw [UInt8.toNat_add]
    have : (1 : UInt8).toNat = 1 := rfl
    omega
  have HC := Lib.hid (cut_cat s k (s[k] + 1))
  have hcv : ∀ W : World, W.cell? ⟨w.heap.size, 0, none⟩ = some (.int .u8 ((s[k].toNat : Int) + 1)) → (convert 68 9 (.slice (some ⟨w.heap.size, 0, none⟩) 1 1)).run Tryz.prog W = .ok (.string ⟨#[s[k] + 1]⟩) W := by
    intro W hW
    have := run_convert_bytes_back (P := Tryz.prog) W 68 9 5 ⟨w.heap.size, 0, none⟩ 1 [s[k] + 1] Tryz.underlying68 Tryz.underlying5 Tryz.underlying9 (by
      intro j hj
      have : j = 0 := by simpa using hj
      subst this
      show W.cell? ⟨w.heap.size, 0, none⟩ = some (.int .u8 (((s[k] + 1).toNat : Nat) : Int))
      rw [hW, hq]
      rfl)
    exact this
  have hcv2 := hcv (w.alloc (.cells #[.int .u8 ((s[k].toNat : Int) + 1)] 5)) (by simp)
  have hcv3 := hcv (w.alloc (.cells #[.int .u8 ((s[k].toNat : Int) + 1)] 5)).drew (by
    show (w.alloc (.cells #[.int .u8 ((s[k].toNat : Int) + 1)] 5)).cell? _ = _
    simp)
  clear hcv hq
  generalize hcc : s[k] + 1 = c1 at hcv2 hcv3 HC
  go_enter Tryz.func16, Tryz.ntmps16
  go_wp2
  go_loop [4] (fun i => ∃ (j : Nat), i = .int .i64 j ∧ k ≤ j ∧ j < s.size) (fun i => (intOf i).toNat)
  case atStart => exact ⟨s.size - 1, by simp; omega, by omega, by omega⟩
  case round =>
    obtain ⟨j, rfl, h0, h1⟩ := hrel
    by_cases hj : j = k
    · subst hj
      have hne : ((s[j].toNat : Int) == 255) = false := by simp; omega
      have hle : (s.extract 0 j).size ≤ 4294967281 := by simp; omega
      have hjle : j ≤ s.size := by omega
      go_wp2
      go_region
      all_goals go_wp2
      all_goals go_ret2
      all_goals
        rw [HC.out]
        exact ⟨rfl, (Below.refl _ _).trans ⟨rfl, rfl, rfl, by simp [World.alloc, World.drew, -World.alloc_eq, -World.drew_eq], fun i hi => by simp [World.alloc, World.drew, -World.alloc_eq, -World.drew_eq, Array.getElem?_push, Nat.ne_of_lt hi]⟩⟩
    · have hb := h j h1 (by omega)
      go_wp2
      go_round
      case rel => exact ⟨j - 1, by simp; omega, by omega, by omega⟩
      case measure => simp [intOf]; omega

theorem refNext_any (s : ByteArray) (w : World) (hs : s.size < 4294967281) :
    Calls Tryz.prog 16 #[.string s] w fun e w' => e = .returned (nextVal s.data.toList) ∧ Below w.heap.size w w' := by
  have hsz : s.data.toList.length = s.size := rfl
  rcases nxt_cases s.data.toList with h | ⟨a, c, t, h, hc, ht⟩
  · have e : nextVal s.data.toList = .tuple #[.string ⟨#[]⟩, .bool false] := by unfold nextVal; rw [nxt_none _ h]
    rw [e]
    refine (refNext_none s w hs ?_).mono ?_
    · intro j hj
      exact h _ (List.getElem_mem (show j < s.data.toList.length by omega))
    · rintro e w1 ⟨rfl, rfl⟩
      exact ⟨rfl, Below.refl _ _⟩
  · have hk : a.length < s.size := by rw [← hsz, h]; simp
    have hat : ∀ (j : Nat) (hj : j < s.size), s[j] = (a ++ c :: t)[j]'(by rw [← h]; omega) := by
      intro j hj
      have : s[j] = s.data.toList[j]'(by omega) := rfl
      rw [this]
      congr 1
    have hck : s[a.length] = c := by rw [hat _ hk]; simp
    have e : nextVal s.data.toList = .tuple #[.string ⟨(s.data.toList.take a.length ++ [s[a.length] + 1]).toArray⟩, .bool true] := by
      unfold nextVal
      rw [h, nxt_some c t hc ht a, hck]
      simp
    rw [e]
    refine (refNext_some s a.length w hs hk ?_ ?_).mono ?_
    · rw [hck]
      have := c.toNat_lt
      have : c.toNat ≠ 255 := fun e => hc (UInt8.toNat_inj.1 (by rw [e]; rfl))
      omega
    · intro j hj hlt
      rw [hat j hj, List.getElem_append_right (by omega)]
      obtain ⟨d, hd⟩ : ∃ d, j - a.length = d + 1 := ⟨j - a.length - 1, by omega⟩
      simp only [hd, List.getElem_cons_succ]
      exact ht _ (List.getElem_mem _)
    · rintro e w1 ⟨rfl, hb⟩
      exact ⟨rfl, hb⟩
end Go.Proofs.YtgoehmmmajdenaaGreatDoor
