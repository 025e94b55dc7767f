/- sum: Scan. -/
import Derived.Test.YtlgcbapgbpofoaaGreatXS2
namespace Go.Proofs.YtlgcbapgbpofoaaGreat
open Go.RowKit

theorem clone_any (s : ByteArray) (w : World) (h : s.size ≤ 281474976710656) :
    Calls Tryz.prog 232 #[.string s] w fun e w' => e = .returned (.string s) ∧ Below w.heap.size w w' := by
  go_enter Tryz.func232, Tryz.ntmps232
  go_wp2_with (go_at_call 249; refine (Tryz.stringslite_Clone s _ h).mono ?_; rintro e w' ⟨rfl, hb⟩)
  go_ret
  exact ⟨rfl, hb⟩
theorem drew_below (w : World) (n : Nat) : Below w.heap.size w (w.drewN n) := ⟨rfl, rfl, rfl, Nat.le_refl _, fun _ _ => rfl⟩
theorem quiet_eq {P : Program} {f : FuncId} {args : Array Value} {w : World} {n : Nat} {v : Value} (h : Calls P f args (w.drewN n) fun e w' => e = .returned v ∧ w.drewN n = w') :
    Calls P f args (w.drewN n) fun e w'' => e = .returned v ∧ ∃ m, w'' = w.drewN m := h.mono fun _ _ ⟨he, hm⟩ => ⟨he, n, hm.symm⟩
theorem drew_new0 (w : World) (n : Nat) (A C : Value) (t : TypeId) : ((w.drewN n).alloc (.cells #[A, C] t)).cell? ⟨w.heap.size, 0, none⟩ = some A := by
  show ((w.drewN n).alloc (.cells #[A, C] t)).cell? ⟨(w.drewN n).heap.size, 0, none⟩ = some A
  generalize w.drewN n = u
  simp
theorem drew_new1 (w : World) (n : Nat) (A C : Value) (t : TypeId) : ((w.drewN n).alloc (.cells #[A, C] t)).cell? ⟨w.heap.size, 1, none⟩ = some C := by
  show ((w.drewN n).alloc (.cells #[A, C] t)).cell? ⟨(w.drewN n).heap.size, 1, none⟩ = some C
  generalize w.drewN n = u
  simp
theorem arr_eq (s : ByteArray) : s = ⟨s.data.toList.toArray⟩ := by
  rcases s with ⟨a⟩
  rfl
theorem ext_list (s : ByteArray) (a b : Nat) : (s.extract a b).data.toList = (s.data.toList.take b).drop a := by
  rw [ByteArray.data_extract, Array.toList_extract]
  simp [List.extract, List.drop_take]
theorem ext_to (s : ByteArray) (b : Nat) : (s.extract 0 b).data.toList = s.data.toList.take b := by rw [ext_list]; rfl
theorem ext_from (s : ByteArray) (a : Nat) : (s.extract a s.size).data.toList = s.data.toList.drop a := by
  rw [ext_list, List.take_of_length_le (show s.data.toList.length ≤ s.size from Nat.le_refl _)]
/-- What cut answers. -/
def cutV : Option (List UInt8) → Value
  | none => .tuple #[.string ⟨#[]⟩, .bool false]
  | some t => .tuple #[.string ⟨t.toArray⟩, .bool true]
set_option maxHeartbeats 1000000 in
set_option maxRecDepth 100000 in
theorem scut_short (s : ByteArray) (w : World) (h : s.size < 8) :
    Calls Tryz.prog 225 #[.string s] w fun e w' => e = .returned (cutV (cutF s.data.toList)) ∧ Below w.heap.size w w' := by
  have hv : cutV (cutF s.data.toList) = .tuple #[.string ⟨#[]⟩, .bool false] := by unfold cutF; rw [if_pos (by exact h)]; rfl
  rw [hv]
  go_enter Tryz.func225, Tryz.ntmps225
  go_wp2
  go_ret2
  exact ⟨rfl, Below.refl _ _⟩
set_option maxHeartbeats 2000000 in
set_option maxRecDepth 100000 in
theorem scut_long (s : ByteArray) (w : World) (h8 : 8 ≤ s.size) (h : s.size ≤ 100000000) :
    Calls Tryz.prog 225 #[.string s] w fun e w' => e = .returned (cutV (cutF s.data.toList)) ∧ Below w.heap.size w w' := by
  have hln : s.data.toList.length = s.size := rfl
  obtain ⟨T, hT⟩ : ∃ T : ByteArray, s.extract 4 s.size = T := ⟨_, rfl⟩
  obtain ⟨R, hR⟩ : ∃ R : ByteArray, s.extract 8 s.size = R := ⟨_, rfl⟩
  obtain ⟨F, hF⟩ : ∃ F : ByteArray, s.extract 0 4 = F := ⟨_, rfl⟩
  have hTl : T.data.toList = s.data.toList.drop 4 := by rw [← hT, ext_from]
  have hRl : R.data.toList = s.data.toList.drop 8 := by rw [← hR, ext_from]
  have hFl : F.data.toList = s.data.toList.take 4 := by rw [← hF, ext_to]
  have hTs : T.size = s.size - 4 := by
    have : T.size = T.data.toList.length := rfl
    rw [this, hTl, List.length_drop, hln]
  have hRs : R.size = s.size - 8 := by
    have : R.size = R.data.toList.length := rfl
    rw [this, hRl, List.length_drop, hln]
  have hFs : F.size = 4 := by
    have : F.size = F.data.toList.length := rfl
    rw [this, hFl, List.length_take, hln]; omega
  have hr1 := Lib.hid (fun w' : World => sread_any s w' (by omega) (by omega))
  have hr2 := Lib.hid (fun w' : World => sread_any T w' (by omega) (by omega))
  obtain ⟨n, hn⟩ : ∃ n, beVal (s.data.toList.take 4) = n := ⟨_, rfl⟩
  obtain ⟨c, hc⟩ : ∃ c, beVal (T.data.toList.take 4) = c := ⟨_, rfl⟩
  have hnl : n < 4294967296 := by
    rw [← hn]
    have h1 := beVal_lt (s.data.toList.take 4)
    rwa [List.length_take, hln, Nat.min_eq_left (by omega)] at h1
  obtain ⟨X, hX⟩ : ∃ X : ByteArray, R.extract 0 n = X := ⟨_, rfl⟩
  have hXl : X.data.toList = (s.data.toList.drop 8).take n := by rw [← hX, ext_to, hRl]
  have hXs : X.size ≤ s.size := by
    have : X.size = X.data.toList.length := rfl
    rw [this, hXl, List.length_take, List.length_drop, hln]; omega
  have hcrc := Lib.hid (fun (w' : World) (b' : Nat) h0 h1 => crc_two F X b' 2 w' (by unfold maxLen; omega) (by unfold maxLen; omega) h0 h1)
  have hclone := Lib.hid (fun w' : World => clone_any X w' (by omega))
  have hv : cutF s.data.toList = if 16777216 < n ∨ s.size - 8 < n then none else if crc (F.data.toList ++ X.data.toList) = c then some X.data.toList else none := by
    unfold cutF
    rw [if_neg (by rw [hln]; omega), hn, hln, ← hFl, ← hXl, ← hTl, hc]
  rw [hv]
  have hcl := crc_lt (F.data.toList ++ X.data.toList)
  generalize crc (F.data.toList ++ X.data.toList) = d at hcrc hcl ⊢
  rw [hn] at hr1
  rw [hc] at hr2
  clear hv hc hn hTl hRl hFl hXl hln
  by_cases hbad : 16777216 < n ∨ s.size - 8 < n
  · rw [if_pos hbad]
    by_cases hb1 : 16777216 < n
    · clear hbad
      go_enter Tryz.func225, Tryz.ntmps225
      go_wp2
      go_quiet ((go_at_call 244; first | (with_reducible exact quiet_eq (hr1.out _)) | (with_reducible exact quiet_eq (hr2.out _))))
      go_wp2
      go_ret2
      exact ⟨rfl, drew_below _ _⟩
    · have hb2 : s.size - 8 < n := by omega
      have hd : decide (16777216 < n) = false := by simpa using hb1
      clear hbad
      go_enter Tryz.func225, Tryz.ntmps225
      go_wp2
      go_quiet ((go_at_call 244; first | (with_reducible exact quiet_eq (hr1.out _)) | (with_reducible exact quiet_eq (hr2.out _))))
      go_wp2
      go_ret2
      exact ⟨rfl, drew_below _ _⟩
  · rw [if_neg hbad]
    have hb1 : n ≤ 16777216 := by omega
    have hb2 : n ≤ s.size - 8 := by omega
    clear hbad
    by_cases hcr : d = c
    · rw [if_pos hcr]
      have hq : ((d : Int) != (c : Int)) = false := by subst hcr; simp
      clear hcr
      go_enter Tryz.func225, Tryz.ntmps225
      go_wp2
      go_quiet ((go_at_call 244; first | (with_reducible exact quiet_eq (hr1.out _)) | (with_reducible exact quiet_eq (hr2.out _))))
      go_wp2_with (first | (go_at_call 214; refine (hcrc.out _ _ (drew_new0 _ _ _ _ _) (drew_new1 _ _ _ _ _)).mono ?_; rintro e w1 ⟨rfl, rfl⟩) | (go_at_call 232; refine (hclone.out _).mono ?_; rintro e w3 ⟨rfl, hb3⟩))
      go_ret2
      refine ⟨by show _ = Ending.returned (.tuple #[.string ⟨X.data.toList.toArray⟩, .bool true]); rw [← arr_eq X]; rfl, ((drew_below _ _).alloc (by simp) _).trans (hb3.mono (by simp))⟩
    · rw [if_neg hcr]
      have hq : ((d : Int) != (c : Int)) = true := by simp; omega
      clear hcr
      go_enter Tryz.func225, Tryz.ntmps225
      go_wp2
      go_quiet ((go_at_call 244; first | (with_reducible exact quiet_eq (hr1.out _)) | (with_reducible exact quiet_eq (hr2.out _))))
      go_wp2_with (first | (go_at_call 214; refine (hcrc.out _ _ (drew_new0 _ _ _ _ _) (drew_new1 _ _ _ _ _)).mono ?_; rintro e w1 ⟨rfl, rfl⟩) | (go_at_call 232; refine (hclone.out _).mono ?_; rintro e w3 ⟨rfl, hb3⟩))
      go_ret2
      exact ⟨rfl, (drew_below _ _).alloc (by simp) _⟩
theorem scut_any (s : ByteArray) (w : World) (h : s.size ≤ 100000000) :
    Calls Tryz.prog 225 #[.string s] w fun e w' => e = .returned (cutV (cutF s.data.toList)) ∧ Below w.heap.size w w' := by
  by_cases h8 : s.size < 8
  · exact scut_short s w h8
  · exact scut_long s w (by omega) h
/-- What Scan answers is a row of its own, and how many bytes. -/
def rowT (v : Value) (ts : List (List UInt8)) : Rw := ⟨9, 1, v, ts.length, ts.map fun t => .string ⟨t.toArray⟩⟩
theorem infoStr : (Tryz.prog.info? 9).map (fun i => (i.zero, i.size, i.bytes)) = some (some (.string ⟨#[]⟩), 1, 16) := by kernel_rfl
set_option maxHeartbeats 2000000 in
set_option maxRecDepth 100000 in
theorem scan_any (s : ByteArray) (w : World) (h : s.size ≤ 1000000) :
    Calls Tryz.prog 156 #[.string s] w fun e w' => ∃ v, e = .returned (.tuple #[v, .int .i64 ((scanF s.data.toList).2 : Nat)]) ∧ (rowT v (scanF s.data.toList).1).ok w.heap.size w' ∧ Below w.heap.size w w' := by
  obtain ⟨i0, hi, hz0, hz1, hz2⟩ := info_parts infoStr
  have hln : s.data.toList.length = s.size := rfl
  go_enter Tryz.func156, Tryz.ntmps156
  go_wp2
  go_loopw [4, 5] (fun v i wr => ∃ (k : Nat) (ts : List (List UInt8)), k ≤ s.size ∧ i = .int .i64 k ∧ wr.ownsRow w.heap.size 9 1 v ts.length (ts.map fun t => .string ⟨t.toArray⟩) ∧ Below w.heap.size w wr ∧ ts.length ≤ k ∧
      Hid (scanF s.data.toList = (ts ++ (scanF (s.data.toList.drop k)).1, k + (scanF (s.data.toList.drop k)).2))) (fun _ i _ => s.size - (intOf i).toNat)
  case atStart => exact ⟨0, [], Nat.zero_le _, rfl, World.ownsRow_nil _ _ _ _, Below.refl _ _, Nat.le_refl _, by show _ = _; simp⟩
  case round =>
    obtain ⟨k, ts, hk, rfl, hown, hbel, htl, HS⟩ := hrel
    obtain ⟨X, hX⟩ : ∃ X : ByteArray, s.extract k s.size = X := ⟨_, rfl⟩
    have hXl : X.data.toList = s.data.toList.drop k := by rw [← hX, ext_from]
    have hXs : X.size = s.size - k := by
      have : X.size = X.data.toList.length := rfl
      rw [this, hXl, List.length_drop, hln]
    have hcut := Lib.hid (fun w' : World => scut_any X w' (by omega))
    rw [hXl] at hcut
    cases hq : cutF (s.data.toList.drop k) with
    | none =>
      rw [hq] at hcut
      simp only [cutV] at hcut
      have HS2 : Hid (scanF s.data.toList = (ts, k)) := by
        show _ = _
        rw [HS.out, scanF_none hq]; simp
      clear HS hq hXl
      go_wp2_with (go_at_call 225; refine (hcut.out _).mono ?_; rintro e w1 ⟨rfl, hb1⟩)
      go_ret2
      rw [HS2.out]
      exact ⟨_, rfl, World.ownsRow.kept (row := none) hown ⟨hb1.os, hb1.tape, hb1.output, hb1.size, fun k hk _ => hb1.block k hk⟩ (Classical.em _), hbel.trans (hb1.mono hbel.size)⟩
    | some t =>
      have hl := cutF_length hq
      rw [List.length_drop, hln] at hl
      rw [hq] at hcut
      simp only [cutV] at hcut
      have hts : t.toArray.size = t.length := by simp
      have HS2 : Hid (scanF s.data.toList = ((ts ++ [t]) ++ (scanF (s.data.toList.drop (k + (8 + t.length)))).1, k + (8 + t.length) + (scanF (s.data.toList.drop (k + (8 + t.length)))).2)) := by
        show _ = _
        rw [HS.out, scanF_some hq, List.drop_drop]
        simp [Nat.add_assoc]
      clear HS hq hXl
      go_wp2_with (first | (go_at_call 225; refine (hcut.out _).mono ?_; rintro e w1 ⟨rfl, hb1⟩; have hown1 := World.ownsRow.kept (row := none) hown ⟨hb1.os, hb1.tape, hb1.output, hb1.size, fun k hk _ => hb1.block k hk⟩ (Classical.em _); have hbel1 : Below w.heap.size w w1 := hbel.trans (hb1.mono hbel.size)) | (at_builtin; refine wpList_append_own _ rfl _ _ 102 rfl w.heap.size 9 i0 (.string ⟨#[]⟩) 1 16 Tryz.underlying102 hi hz0 hz1 hz2 rfl (by decide) _ _ _ rfl (hown1.alloc _) ⟨w1.heap.size, 0, none⟩ 1 1 [.string ⟨t.toArray⟩] rfl rfl ?c1 ?c2 ?c3 ?c4 ?c5 ?_))
      case c1 =>
        intro j u hj
        match j, hj with
        | 0, hj => simp at hj; subst hj; simp [Addr.add]
      case c2 => intro u hu; simp at hu; subst hu; rfl
      case c3 => unfold maxLen; omega
      case c4 => omega
      case c5 => have := hbel1.size; simp; omega
      intro v' w2 hown' hgrow _
      have hbel2 : Below w.heap.size w w2 := (hbel1.alloc hbel1.size _).grown hgrow (by have := hbel1.size; simp; omega) (fun k hk => (hown1.lt k hk).1)
      clear hgrow
      go_wp2
      go_roundw
      case rel =>
        refine ⟨k + (8 + t.length), ts ++ [t], by omega, ?_, ?_, hbel2, by simp; omega, HS2⟩
        · go_num
        · simpa using hown'
      case measure => simp [intOf]; omega
end Go.Proofs.YtlgcbapgbpofoaaGreat
