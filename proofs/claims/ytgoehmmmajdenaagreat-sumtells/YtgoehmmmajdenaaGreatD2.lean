/- The document's own Scan, and Frame of a list that came in; the statements' joined. -/
import Derived.Test.YtgoehmmmajdenaaGreatD1
namespace Go.Proofs.YtgoehmmmajdenaaGreat
open Go.RowKit

set_option maxHeartbeats 1000000 in
set_option maxRecDepth 100000 in
theorem refFrame_zero (a : Option Addr) (cap : Nat) (w : World) :
    Calls Tryz.prog 16 #[.slice a 0 cap] w fun e w' => e = .returned (.string ⟨(frames (texts [])).toArray⟩) ∧ Below w.heap.size w w' := by
  have hcv := conv_own (w := w) (World.ownsRow_nil w w.heap.size 5 1) (l := []) rfl
  go_enter Tryz.func16, Tryz.ntmps16
  go_wp2
  refine wp_loop_rounds 1 ?_
  rw [rounds_succ]
  go_wp2
  go_ret
  exact ⟨rfl, Below.refl _ _⟩
theorem refFrame_any (a : Option Addr) (len cap : Nat) (ss : List ByteArray) (w : World) (h : IsRowS w a len ss) (hn : ss.length ≤ 100000) (ht : total ss ≤ 1000000) :
    Calls Tryz.prog 16 #[.slice a len cap] w fun e w' => e = .returned (.string ⟨(frames (texts ss)).toArray⟩) ∧ Below w.heap.size w w' := by
  obtain ⟨rfl, -, hrow⟩ := h
  rcases hrow with h0 | ⟨b, off, rfl, hb, hc⟩
  · obtain rfl := List.eq_nil_of_length_eq_zero h0
    exact refFrame_zero a cap w
  · exact refFrame_rows b off cap ss w hb hn ht hc

theorem cat_size (ss : List ByteArray) : (cat ss).length = total ss := by
  induction ss with
  | nil => rfl
  | cons s ss ih =>
    simp only [cat, List.map_cons, List.flatten_cons, List.length_append, total, List.sum_cons] at *
    rw [ih]
    rfl
set_option maxHeartbeats 1000000 in
set_option maxRecDepth 100000 in
theorem joined_any (a : Option Addr) (len cap : Nat) (ss : List ByteArray) (w : World) (h : IsRowS w a len ss) (hn : ss.length ≤ 100000) (ht : total ss ≤ 1000000) :
    Calls Tryz.prog 14 #[.slice a len cap] w fun e w' => e = .returned (.string ⟨(cat ss).toArray⟩) ∧ w = w' := by
  obtain ⟨rfl, -, hrow⟩ := h
  rcases hrow with h0 | ⟨b, off, rfl, hb, hc⟩
  · obtain rfl := List.eq_nil_of_length_eq_zero h0
    go_enter Tryz.func14, Tryz.ntmps14
    go_wp2
    refine wp_loop_rounds 1 ?_
    rw [rounds_succ]
    go_wp2
    go_ret
    exact ⟨rfl, rfl⟩
  · have HC := Lib.hid hc
    clear hc
    go_enter Tryz.func14, Tryz.ntmps14
    go_wp2
    go_loop [3, 4] (fun v i => ∃ (k : Nat) (X : ByteArray), k ≤ ss.length ∧ i = .int .i64 k ∧ v = .string X ∧ X.size ≤ total ss ∧ Hid (X = ⟨(cat (ss.take k)).toArray⟩)) (fun _ i => ss.length - (intOf i).toNat)
    case atStart => exact ⟨0, ⟨#[]⟩, Nat.zero_le _, rfl, rfl, Nat.zero_le _, rfl⟩
    case round =>
      obtain ⟨k, X, hk, rfl, rfl, hXs, HX⟩ := hrel
      by_cases hlt : k < ss.length
      · have hcx := HC.out k hlt
        have hsz : ss[k].size ≤ total ss := total_mem (List.getElem_mem hlt)
        have HSN : Hid (X ++ ss[k] = ⟨(cat (ss.take (k + 1))).toArray⟩) := by
          show _ = _
          rw [List.take_succ_eq_append_getElem hlt, cat_snoc, HX.out, ← cat_str, ← arr_eq]
        have HSZ : Hid ((⟨(cat (ss.take (k + 1))).toArray⟩ : ByteArray).size ≤ total ss) := by
          show (cat (ss.take (k + 1))).toArray.size ≤ _
          rw [List.size_toArray, cat_size]
          exact total_take_le ss (k + 1)
        generalize ss[k] = s at hcx hsz HSN
        have hXd : X.data.size ≤ 1000000 := by show X.size ≤ _; omega
        have hsd : s.data.size ≤ 1000000 := by show s.size ≤ _; omega
        go_wp2
        go_round
        case rel => exact ⟨k + 1, X ++ s, by omega, by go_num, rfl, by rw [HSN.out]; exact HSZ.out, HSN⟩
        case measure => simp [intOf]; omega
      · have hke : k = ss.length := by omega
        have HF : Hid (X = ⟨(cat ss).toArray⟩) := by show _ = _; rw [HX.out, hke, List.take_length]
        clear HX hke
        go_wp2
        go_ret
        have hf := HF.out
        subst hf
        exact ⟨rfl, rfl⟩

set_option maxHeartbeats 2000000 in
set_option maxRecDepth 100000 in
theorem refScan_any (s : ByteArray) (w : World) (h : s.size ≤ 1000000) :
    Calls Tryz.prog 8 #[.string s] w fun e w' => ∃ v, e = .returned (.tuple #[v, .int .i64 ((scanF s.data.toList).2 : Nat)]) ∧ (rowT v (scanF s.data.toList).1).ok w.heap.size w' ∧ Below w.heap.size w w' := by
  obtain ⟨i0, hi, hz0, hz1, hz2⟩ := info_parts infoStr
  have hln : s.data.toList.length = s.size := rfl
  go_enter Tryz.func8, Tryz.ntmps8
  go_wp2
  go_loopw [4, 5] (fun v i wr => ∃ (k : Nat) (ts : List (List UInt8)), k ≤ s.size ∧ i = .int .i64 k ∧ wr.ownsRow w.heap.size 9 1 v ts.length (ts.map fun t => .string ⟨t.toArray⟩) ∧ Below w.heap.size w wr ∧ ts.length ≤ k ∧
      Hid (scanF s.data.toList = (ts ++ (scanF (s.data.toList.drop k)).1, k + (scanF (s.data.toList.drop k)).2))) (fun _ i _ => s.size - (intOf i).toNat)
  case atStart => exact ⟨0, [], Nat.zero_le _, rfl, World.ownsRow_nil _ _ _ _, Below.refl _ _, Nat.le_refl _, by show _ = _; simp⟩
  case round =>
    obtain ⟨k, ts, hk, rfl, hown, hbel, htl, HS⟩ := hrel
    have hdl : (s.data.toList.drop k).length = s.size - k := by rw [List.length_drop, hln]
    by_cases h8 : s.size < k + 8
    · have hq : cutF (s.data.toList.drop k) = none := by unfold cutF; rw [if_pos (by rw [hdl]; omega)]
      have HS2 : Hid (scanF s.data.toList = (ts, k)) := by
        show _ = _
        rw [HS.out, scanF_none hq]; simp
      have hlt8 : (s.size : Int) - (k : Int) < 8 := by omega
      clear HS hq hdl
      go_wp2
      go_ret2
      rw [HS2.out]
      exact ⟨_, rfl, hown, hbel⟩
    · have hge8 : (8 : Int) ≤ (s.size : Int) - (k : Int) := by omega
      have hu1 : Hid (∀ w' : World, Calls Tryz.prog 24 #[.string s, .int .i64 (k : Int), .int .i64 4] w' fun e w'' => e = .returned (.tuple #[.int .u64 ((beVal (piece s k 4) : Nat) : Int), .int .i64 0]) ∧ w' = w'') := fun w' => refUnfix_ok s k 4 w' (by omega) (by omega) (by omega) (by omega)
      have hu2 : Hid (∀ w' : World, Calls Tryz.prog 24 #[.string s, .int .i64 ((k : Int) + 4), .int .i64 4] w' fun e w'' => e = .returned (.tuple #[.int .u64 ((beVal (piece s (k + 4) 4) : Nat) : Int), .int .i64 0]) ∧ w' = w'') := fun w' => refUnfix_ok s (k + 4) 4 w' (by omega) (by omega) (by omega) (by omega)
      have hp1 : piece s k 4 = (s.data.toList.drop k).take 4 := rfl
      have hp2 : piece s (k + 4) 4 = ((s.data.toList.drop k).drop 4).take 4 := by unfold piece; rw [List.drop_drop]
      obtain ⟨n, hn⟩ : ∃ n, beVal (piece s k 4) = n := ⟨_, rfl⟩
      obtain ⟨c, hc⟩ : ∃ c, beVal (piece s (k + 4) 4) = c := ⟨_, rfl⟩
      have hnl : n < 4294967296 := by
        rw [← hn]
        have h1 := beVal_lt (piece s k 4)
        rwa [piece_length s k 4 (by omega)] at h1
      rw [hn] at hu1
      rw [hc] at hu2
      obtain ⟨F, hF⟩ : ∃ F : ByteArray, s.extract k (k + 4) = F := ⟨_, rfl⟩
      obtain ⟨X, hX⟩ : ∃ X : ByteArray, s.extract (k + 8) (k + 8 + n) = X := ⟨_, rfl⟩
      have hFl : F.data.toList = (s.data.toList.drop k).take 4 := by rw [← hF, ext_list, List.drop_take]; congr 1; omega
      have hXl : X.data.toList = ((s.data.toList.drop k).drop 8).take n := by rw [← hX, ext_list, List.drop_take, List.drop_drop]; congr 1; omega
      have hv : cutF (s.data.toList.drop k) = if 16777216 < n ∨ s.size - k - 8 < n then none else if crc (F.data.toList ++ X.data.toList) = c then some X.data.toList else none := by
        unfold cutF
        rw [if_neg (by rw [hdl]; omega), hdl, ← hp1, ← hp2, hn, hc, hp1, ← hFl, ← hXl]
      have hwn : IntKind.i64.wrap (n : Int) = (n : Int) := by rw [IntKind.wrap_i64]; omega
      by_cases hbad : 16777216 < n ∨ s.size - k - 8 < n
      · rw [if_pos hbad] at hv
        have HS2 : Hid (scanF s.data.toList = (ts, k)) := by
          show _ = _
          rw [HS.out, scanF_none hv]; simp
        clear HS hv hdl hFl hXl hn hc hp1 hp2
        by_cases hb1 : 16777216 < n
        · clear hbad
          go_wp2_with (go_at_call 24; first | ((with_reducible refine (hu1.out _).mono ?_); rintro e w1 ⟨rfl, rfl⟩) | ((with_reducible refine (hu2.out _).mono ?_); rintro e w1 ⟨rfl, rfl⟩) | fail)
          go_ret2
          rw [HS2.out]
          exact ⟨_, rfl, hown, hbel⟩
        · have hd1 : decide (16777216 < n) = false := by simpa using hb1
          have hb2 : (s.size : Int) - (k : Int) - 8 < (n : Int) := by omega
          clear hbad
          go_wp2_with (go_at_call 24; first | ((with_reducible refine (hu1.out _).mono ?_); rintro e w1 ⟨rfl, rfl⟩) | ((with_reducible refine (hu2.out _).mono ?_); rintro e w1 ⟨rfl, rfl⟩) | fail)
          go_ret2
          rw [HS2.out]
          exact ⟨_, rfl, hown, hbel⟩
      · rw [if_neg hbad] at hv
        have hd1 : decide (16777216 < n) = false := by simp; omega
        have hb2 : (n : Int) ≤ (s.size : Int) - (k : Int) - 8 := by omega
        have hFs : F.size = 4 := by show F.data.toList.length = _; rw [hFl, List.length_take, hdl]; omega
        have hXs : X.size = n := by show X.data.toList.length = _; rw [hXl, List.length_take, List.length_drop, hdl]; omega
        obtain ⟨Y, hY⟩ : ∃ Y : ByteArray, F ++ X = Y := ⟨_, rfl⟩
        have hYl : Y.data.toList = F.data.toList ++ X.data.toList := by rw [← hY, ByteArray.data_append, Array.toList_append]
        have hYs : Y.size ≤ 100000000 := by show Y.data.toList.length ≤ _; rw [hYl, List.length_append]; show F.size + X.size ≤ _; omega
        have hcrc := Lib.hid (fun w' : World => refCrc_any Y w' hYs)
        rw [hYl] at hcrc
        have hcl := crc_lt (F.data.toList ++ X.data.toList)
        generalize crc (F.data.toList ++ X.data.toList) = d at hcrc hcl hv
        have hwd : IntKind.u64.wrap (d : Int) = (d : Int) := by rw [IntKind.wrap_u64]; omega
        have hk1 : ¬ (9223372036854775807 < F.size + X.size) := by omega
        have hi1 : ((k : Int) + 4).toNat = k + 4 := by omega
        have hi2 : ((k : Int) + 8).toNat = k + 8 := by omega
        have hi3 : ((k : Int) + 8 + (n : Int)).toNat = k + 8 + n := by omega
        have hj1 : (k : Int) + 8 + (n : Int) ≤ (s.size : Int) := by omega
        have hj2 : (k : Int) + 4 ≤ (s.size : Int) := by omega
        by_cases hcr : d = c
        · rw [if_pos hcr] at hv
          have hq : ((d : Int) != (c : Int)) = false := by subst hcr; simp
          have HS2 : Hid (scanF s.data.toList = ((ts ++ [X.data.toList]) ++ (scanF (s.data.toList.drop (k + (8 + n)))).1, k + (8 + n) + (scanF (s.data.toList.drop (k + (8 + n)))).2)) := by
            show _ = _
            rw [HS.out, scanF_some hv, List.drop_drop, show X.data.toList.length = n from hXs]
            simp [Nat.add_assoc]
          clear HS hv hdl hFl hXl hn hc hp1 hp2 hbad hYl hcr hYs hFs
          go_wp2_with (first | (go_at_call 24; first | ((with_reducible refine (hu1.out _).mono ?_); rintro e w1 ⟨rfl, rfl⟩) | ((with_reducible refine (hu2.out _).mono ?_); rintro e w1 ⟨rfl, rfl⟩) | fail) | (go_at_call 13; refine (hcrc.out _).mono ?_; rintro e w1 ⟨rfl, rfl⟩) | (at_builtin; refine wpList_append_own _ rfl _ _ 22 rfl w.heap.size 9 i0 (.string ⟨#[]⟩) 1 16 Tryz.underlying22 hi hz0 hz1 hz2 rfl (by decide) _ _ _ rfl (hown.alloc _) ⟨wr.heap.size, 0, none⟩ 1 1 [.string X] rfl rfl ?c1 ?c2 ?c3 ?c4 ?c5 ?_) | fail)
          case c1 =>
            intro j u hj
            match j, hj with
            | 0, hj => simp at hj; subst hj; simp [Addr.add]
          case c2 => intro u hu; simp at hu; subst hu; rfl
          case c3 => unfold maxLen; omega
          case c4 => omega
          case c5 => have := hbel.size; simp; omega
          intro v' w2 hown' hgrow _
          have hbel2 : Below w.heap.size w w2 := (hbel.alloc hbel.size _).grown hgrow (by have := hbel.size; simp; omega) (fun k hk => (hown.lt k hk).1)
          clear hgrow
          go_wp2
          go_roundw
          case rel =>
            refine ⟨k + (8 + n), ts ++ [X.data.toList], by omega, ?_, ?_, hbel2, by simp; omega, HS2⟩
            · go_num
            · rw [List.length_append, List.map_append]
              simp only [List.map_cons, List.map_nil, List.length_cons, List.length_nil]
              rw [← arr_eq X]
              exact hown'
          case measure => simp [intOf]; omega
        · rw [if_neg hcr] at hv
          have hq : ((d : Int) != (c : Int)) = true := by simp; omega
          have HS2 : Hid (scanF s.data.toList = (ts, k)) := by
            show _ = _
            rw [HS.out, scanF_none hv]; simp
          clear HS hv hdl hFl hXl hn hc hp1 hp2 hbad hYl hcr hYs hFs
          go_wp2_with (first | (go_at_call 24; first | ((with_reducible refine (hu1.out _).mono ?_); rintro e w1 ⟨rfl, rfl⟩) | ((with_reducible refine (hu2.out _).mono ?_); rintro e w1 ⟨rfl, rfl⟩) | fail) | (go_at_call 13; refine (hcrc.out _).mono ?_; rintro e w1 ⟨rfl, rfl⟩) | fail)
          go_ret2
          rw [HS2.out]
          exact ⟨_, rfl, hown, hbel⟩
end Go.Proofs.YtgoehmmmajdenaaGreat
