/- JT JE JF N1 N2 N3 N4 in one (a claim has at most 60 files) -/
import Derived.Test.YtmcgfafkggannaaGreatJO
import Derived.Laws.IdiomStrings
import Derived.Deep.RegionLaw
import Derived.BigRegion
namespace Go.Proofs.YtmcgfafkggannaaGreat
open Go.RowKit Go.Shelf

theorem rowT_new {w : World} {e : TypeId} {size : Nat} {v : Value} {n : Nat} {xs : List Value} (h : Row w e size v n xs) (o : Obj) : Row (w.alloc o) e size v n xs :=
  h.kept fun k hk => Below.heap_alloc w o k (h.lt k hk)
theorem rowT_below {w w' : World} {e : TypeId} {size : Nat} {v : Value} {n : Nat} {xs : List Value} (h : Row w e size v n xs) (hb : Below w.heap.size w w') : Row w' e size v n xs := h.kept fun k hk => hb.block k (h.lt k hk)
/-- Where a row made by append out of nothing lies. -/
theorem ob_newT {w w1 : World} {v1 : Value} (h : ob v1 = ob (.slice none 0 0) ∨ (ob v1 = some w.heap.size ∧ w.grownBy w1 none)) : ∀ k, ob v1 = some k → w.heap.size ≤ k := by
  intro k hk
  rcases h with e | ⟨e, -⟩
  · rw [e] at hk
    simp [ob] at hk
  · rw [e] at hk
    cases hk
    exact Nat.le_refl _
theorem lentT_form {w w1 w2 : World} {e : TypeId} {size n : Nat} {v1 v2 : Value} {xs : List Value} {o : Obj} (h : Row w2 e size v2 (n + 1) xs) (hob : ob v2 = ob v1 ∨ (ob v2 = some (w1.heap.size + 1) ∧ (w1.alloc o).grownBy w2 none)) (h1 : ∀ k, ob v1 = some k → w.heap.size ≤ k) (hs : w.heap.size ≤ w1.heap.size) : ∃ g c, v2 = .slice (some ⟨g, 0, none⟩) (n + 1) (c + 1) ∧ w.heap.size ≤ g := by
  rcases h.2 with ⟨h0, -⟩ | ⟨g, cap, cur, rfl, -⟩
  · cases h0
  · refine ⟨g, cap, rfl, ?_⟩
    rcases hob with e | ⟨e, -⟩
    · exact h1 g (by rw [← e]; rfl)
    · have : g = w1.heap.size + 1 := Option.some.inj e
      omega
theorem lentT_below {w w1 w2 : World} {v1 : Value} {o : Obj} (hb : Below w.heap.size w w1) (hg : (w1.alloc o).grownBy w2 (ob v1)) (h1 : ∀ k, ob v1 = some k → w.heap.size ≤ k) : Below w.heap.size w w2 :=
  (hb.alloc hb.size o).trans ((turn_of_grown (F := (ob v1).toList) hg (fun k hk => .inl (by simp [hk]))).below (by have := hb.size; simp; omega) (fun k hk => h1 k (by simpa using hk)))
theorem lentT_cap {w : World} {e : TypeId} {size n g c : Nat} {xs : List Value} (h : Row w e size (.slice (some ⟨g, 0, none⟩) n c) n xs) : n ≤ c := by
  obtain ⟨a, cap, e, h1, -⟩ := h.le
  cases e
  exact h1
def markT : List Value := [.int .i64 (-77), .int .i64 0, .int .i64 0, .string ⟨#[]⟩, .string ⟨#[]⟩]
set_option maxHeartbeats 2000000 in
set_option maxRecDepth 100000 in
/-- What LentTables tells: its own row, and behind it a mark. -/
theorem lentT_src (a : Option Addr) (cap : Nat) (ts : List Tb) (w : World) (hs : Src Tryz.prog 5 23 (.slice a ts.length cap) ts.length (cellsT ts) w) (hl : ts.length ≤ 1000000) :
    Calls Tryz.prog 7 #[.slice a ts.length cap] w fun e w' => ∃ g c, e = .returned (.slice (some ⟨g, 0, none⟩) ts.length (c + 1)) ∧ Row w' 80 5 (.slice (some ⟨g, 0, none⟩) (ts.length + 1) (c + 1)) (ts.length + 1) (cellsT ts ++ markT) ∧ w.heap.size ≤ g ∧ Below w.heap.size w w' := by
  obtain ⟨i0, hi, hz0, hzs, hzb⟩ := info_parts infoTab
  have HS := Lib.hid hs
  have HB1 := Lib.hid (show 0 + ts.length ≤ maxLen by unfold maxLen; omega)
  have HB2 := Lib.hid (show (0 + ts.length) * 56 ≤ 140737488355328 by omega)
  have HB3 := Lib.hid (show ts.length + 1 ≤ maxLen by unfold maxLen; omega)
  have HB4 := Lib.hid (show (ts.length + 1) * 56 ≤ 140737488355328 by omega)
  clear hs
  go_enter Tryz.func7, Tryz.ntmps7
  have HM := Lib.hid (show ∀ w1 : World, Src Tryz.prog 5 23 (.slice (some ⟨w1.heap.size, 0, none⟩) 1 1) 1 markT (w1.alloc (.cells #[.int .i64 (-77), .int .i64 0, .int .i64 0, .string ⟨#[]⟩, .string ⟨#[]⟩] 80)) from fun w1 => Src.ofSlice (P := Tryz.prog) _ (size := 5) Tryz.underlying23 ⟨w1.heap.size, 0, none⟩ 1 1 _ rfl (fun j u hu => by
    match j, hu with
    | 0, hu => simpa [Addr.add, markT] using hu
    | 1, hu => simpa [Addr.add, markT] using hu
    | 2, hu => simpa [Addr.add, markT] using hu
    | 3, hu => simpa [Addr.add, markT] using hu
    | 4, hu => simpa [Addr.add, markT] using hu) (by simp [markT, Value.oneCell']))
  go_wp2_with (at_builtin; refine wpList_append_row _ rfl _ _ 23 23 rfl 80 i0 _ 5 56 Tryz.underlying23 hi hz0 hzs hzb rfl (.slice none 0 0) 0 [] rfl (row_nil _ _ _) _ rfl ts.length _ HS.out HB1.out HB2.out ?_)
  intro v1 w1 hrow1 hgrow1 hob1
  have hb1 : Below w.heap.size w w1 := (turn_of_grown (F := []) hgrow1 (fun k hk => by simp [ob] at hk)).below (Nat.le_refl _) (by simp)
  try simp only [Nat.zero_add, List.nil_append] at hrow1
  have HR1 := Lib.hid hrow1
  have HO1 := Lib.hid hob1
  have HBW := Lib.hid hb1
  clear hrow1 hgrow1 hob1 hb1
  go_wp2_with (at_builtin; refine wpList_append_row _ rfl _ _ 23 23 rfl 80 i0 _ 5 56 Tryz.underlying23 hi hz0 hzs hzb rfl v1 _ _ rfl (rowT_new HR1.out _) _ rfl 1 _ (HM.out _) HB3.out HB4.out ?_)
  intro v2 w2 hrow2 hgrow2 hob2
  obtain ⟨g, c, rfl, hgb⟩ := lentT_form (w := w) hrow2 hob2 (ob_newT HO1.out) HBW.out.size
  have hb2 := lentT_below HBW.out hgrow2 (ob_newT HO1.out)
  have HR2 := Lib.hid hrow2
  have hcap : ts.length + 1 ≤ c + 1 := lentT_cap hrow2
  have HB := Lib.hid hb2
  clear hrow2 hgrow2 hob2 hb2
  go_wp2
  go_ret
  exact ⟨g, c, rfl, HR2.out, hgb, HB.out⟩
/-- A list that was lent, and its mark. -/
structure LentTs (w : World) (g c : Nat) (ts : List Tb) : Prop where
  row : Row w 80 5 (.slice (some ⟨g, 0, none⟩) (ts.length + 1) (c + 1)) (ts.length + 1) (cellsT ts ++ markT)
theorem LentTs.v {w : World} {g c : Nat} {ts : List Tb} (h : LentTs w g c ts) : TbsV w (.slice (some ⟨g, 0, none⟩) ts.length (c + 1)) ts := by
  refine .inr ⟨_, _, rfl, fun j u hu => ?_⟩
  rw [add_plainT]
  exact h.row.cell g 0 (c + 1) rfl j u (by rw [List.getElem?_append_left (List.getElem?_eq_some_iff.1 hu).1]; exact hu)
theorem LentTs.mark {w : World} {g c : Nat} {ts : List Tb} (h : LentTs w g c ts) : w.cell? ⟨g, ts.length * 5, none⟩ = some (.int .i64 (-77)) := by
  have h2 := h.row.cell g 0 (c + 1) rfl (ts.length * 5) (.int .i64 (-77)) (by rw [List.getElem?_append_right (by rw [cellsT_len]; exact Nat.le_refl _), cellsT_len, Nat.sub_self]; rfl)
  rw [Nat.zero_add] at h2
  exact h2
theorem LentTs.cap {w : World} {g c : Nat} {ts : List Tb} (h : LentTs w g c ts) : ts.length + 1 ≤ c + 1 := lentT_cap h.row
theorem LentTs.lt {w : World} {g c : Nat} {ts : List Tb} (h : LentTs w g c ts) : g < w.heap.size := h.row.lt g rfl
theorem LentTs.keep {w w' : World} {g c : Nat} {ts : List Tb} (h : LentTs w g c ts) (hk : w'.heap[g]? = w.heap[g]?) : LentTs w' g c ts := ⟨h.row.kept fun k hk' => by cases hk'; exact hk⟩
theorem LentTs.below {w w' : World} {g c : Nat} {ts : List Tb} (h : LentTs w g c ts) (hb : Below w.heap.size w w') : LentTs w' g c ts := h.keep (hb.block g h.lt)
theorem lentT_any (v : Value) (ts : List Tb) (w : World) (h : TbsV w v ts) (hl : ts.length ≤ 1000000) :
    Calls Tryz.prog 7 #[v] w fun e w' => ∃ g c, e = .returned (.slice (some ⟨g, 0, none⟩) ts.length (c + 1)) ∧ LentTs w' g c ts ∧ w.heap.size ≤ g ∧ Below w.heap.size w w' := by
  have hs := h.src
  obtain ⟨a, cap, rfl⟩ := h.len
  refine (lentT_src a cap ts w hs hl).mono ?_
  rintro _ w' ⟨g, c, rfl, h1, h2, h3⟩
  exact ⟨g, c, rfl, ⟨h1⟩, h2, h3⟩
set_option maxHeartbeats 1000000 in
theorem staysT_any (g c : Nat) (v : Value) (ts : List Tb) (w : World) (h : LentTs w g c ts) (hw : TbsV w v ts) (hl : ts.length ≤ 100000) :
    Calls Tryz.prog 25 #[.slice (some ⟨g, 0, none⟩) ts.length (c + 1), v] w fun e w' => e = .returned (.bool true) ∧ Below w.heap.size w w' := by
  have HC := Lib.hid (sameT_yes _ v ts w h.v hw hl)
  obtain ⟨a, cap, rfl⟩ := hw.len
  have hm := h.mark
  have hlt := h.lt
  have hcap := h.cap
  clear h hw
  go_enter Tryz.func25, Tryz.ntmps25
  go_wp2_with fail
  go_at_call 57
  (with_reducible refine HC.out.mono ?_)
  rintro _ w1 ⟨rfl, b1⟩
  have hm1 : w1.cell? ⟨g, ts.length * 5, none⟩ = some (.int .i64 (-77)) := (b1.cell (p := ⟨g, ts.length * 5, none⟩) hlt).trans hm
  have HB := Lib.hid b1
  clear b1 hm
  go_wp2
  go_ret
  exact ⟨rfl, HB.out⟩
set_option maxHeartbeats 2000000 in
set_option maxRecDepth 100000 in
theorem lentN_src (a : Option Addr) (cap : Nat) (ks : List Int) (w : World) (hs : Src Tryz.prog 1 26 (.slice a ks.length cap) ks.length (cellsN ks) w) (hl : ks.length ≤ 1000000) :
    Calls Tryz.prog 8 #[.slice a ks.length cap] w fun e w' => ∃ g c, e = .returned (.slice (some ⟨g, 0, none⟩) ks.length (c + 1)) ∧ Row w' 3 1 (.slice (some ⟨g, 0, none⟩) (ks.length + 1) (c + 1)) (ks.length + 1) (cellsN ks ++ [.int .i64 (-77)]) ∧ w.heap.size ≤ g ∧ Below w.heap.size w w' := by
  obtain ⟨i0, hi, hz0, hzs, hzb⟩ := info_parts infoIntN
  have HS := Lib.hid hs
  have HB1 := Lib.hid (show 0 + ks.length ≤ maxLen by unfold maxLen; omega)
  have HB2 := Lib.hid (show (0 + ks.length) * 8 ≤ 140737488355328 by omega)
  have HB3 := Lib.hid (show ks.length + 1 ≤ maxLen by unfold maxLen; omega)
  have HB4 := Lib.hid (show (ks.length + 1) * 8 ≤ 140737488355328 by omega)
  clear hs
  go_enter Tryz.func8, Tryz.ntmps8
  have HM := Lib.hid (show ∀ w1 : World, Src Tryz.prog 1 26 (.slice (some ⟨w1.heap.size, 0, none⟩) 1 1) 1 [.int .i64 (-77)] (w1.alloc (.cells #[.int .i64 (-77)] 3)) from fun w1 => Src.ofSlice (P := Tryz.prog) _ (size := 1) Tryz.underlying26 ⟨w1.heap.size, 0, none⟩ 1 1 _ rfl (fun j u hu => by
    match j, hu with
    | 0, hu => simpa [Addr.add] using hu) (by simp [Value.oneCell']))
  go_wp2_with (at_builtin; refine wpList_append_row _ rfl _ _ 26 26 rfl 3 i0 _ 1 8 Tryz.underlying26 hi hz0 hzs hzb rfl (.slice none 0 0) 0 [] rfl (row_nil _ _ _) _ rfl ks.length _ HS.out HB1.out HB2.out ?_)
  intro v1 w1 hrow1 hgrow1 hob1
  have hb1 : Below w.heap.size w w1 := (turn_of_grown (F := []) hgrow1 (fun k hk => by simp [ob] at hk)).below (Nat.le_refl _) (by simp)
  try simp only [Nat.zero_add, List.nil_append] at hrow1
  have HR1 := Lib.hid hrow1
  have HO1 := Lib.hid hob1
  have HBW := Lib.hid hb1
  clear hrow1 hgrow1 hob1 hb1
  go_wp2_with (at_builtin; refine wpList_append_row _ rfl _ _ 26 26 rfl 3 i0 _ 1 8 Tryz.underlying26 hi hz0 hzs hzb rfl v1 _ _ rfl (rowT_new HR1.out _) _ rfl 1 _ (HM.out _) HB3.out HB4.out ?_)
  intro v2 w2 hrow2 hgrow2 hob2
  obtain ⟨g, c, rfl, hgb⟩ := lentT_form (w := w) hrow2 hob2 (ob_newT HO1.out) HBW.out.size
  have hb2 := lentT_below HBW.out hgrow2 (ob_newT HO1.out)
  have HR2 := Lib.hid hrow2
  have hcap : ks.length + 1 ≤ c + 1 := lentT_cap hrow2
  have HB := Lib.hid hb2
  clear hrow2 hgrow2 hob2 hb2
  go_wp2
  go_ret
  exact ⟨g, c, rfl, HR2.out, hgb, HB.out⟩
theorem cellsN_len (ks : List Int) : (cellsN ks).length = ks.length := by simp [cellsN]
theorem cellsN_get (ks : List Int) (j : Nat) (h : j < ks.length) : (cellsN ks)[j]? = some (.int .i64 ks[j]) := by simp [cellsN, h]
theorem cellsN_one (ks : List Int) : ∀ u ∈ cellsN ks, u.oneCell' = true := by
  intro u hu
  obtain ⟨k, -, rfl⟩ := List.mem_map.1 hu
  rfl
theorem IntsV.src {w : World} {v : Value} {ks : List Int} (h : IntsV w v ks) : Src Tryz.prog 1 26 v ks.length (cellsN ks) w := by
  rcases h with ⟨rfl, rfl⟩ | ⟨y, cap, rfl, hc⟩
  · exact Src.ofNil (P := Tryz.prog) w (size := 1) Tryz.underlying26 0
  · exact Src.ofSlice (P := Tryz.prog) w (size := 1) Tryz.underlying26 y ks.length cap (cellsN ks) (by rw [cellsN_len, Nat.mul_one]) (fun j u hu => by
      have hj : j < ks.length := by rw [← cellsN_len]; exact (List.getElem?_eq_some_iff.1 hu).1
      rw [cellsN_get ks j hj] at hu
      cases hu
      exact hc j hj) (cellsN_one ks)
/-- A list of ints that was lent, and its mark. -/
structure LentNs (w : World) (g c : Nat) (ks : List Int) : Prop where
  row : Row w 3 1 (.slice (some ⟨g, 0, none⟩) (ks.length + 1) (c + 1)) (ks.length + 1) (cellsN ks ++ [.int .i64 (-77)])
theorem LentNs.v {w : World} {g c : Nat} {ks : List Int} (h : LentNs w g c ks) : IntsV w (.slice (some ⟨g, 0, none⟩) ks.length (c + 1)) ks := by
  refine .inr ⟨_, _, rfl, fun j hj => ?_⟩
  rw [add_plainT]
  exact h.row.cell g 0 (c + 1) rfl j _ (by rw [List.getElem?_append_left (by rw [cellsN_len]; exact hj)]; exact cellsN_get ks j hj)
theorem LentNs.mark {w : World} {g c : Nat} {ks : List Int} (h : LentNs w g c ks) : w.cell? ⟨g, ks.length, none⟩ = some (.int .i64 (-77)) := by
  have h2 := h.row.cell g 0 (c + 1) rfl ks.length (.int .i64 (-77)) (by rw [List.getElem?_append_right (by rw [cellsN_len]; exact Nat.le_refl _), cellsN_len, Nat.sub_self]; rfl)
  rw [Nat.zero_add] at h2
  exact h2
theorem LentNs.cap {w : World} {g c : Nat} {ks : List Int} (h : LentNs w g c ks) : ks.length + 1 ≤ c + 1 := lentT_cap h.row
theorem LentNs.lt {w : World} {g c : Nat} {ks : List Int} (h : LentNs w g c ks) : g < w.heap.size := h.row.lt g rfl
theorem LentNs.keep {w w' : World} {g c : Nat} {ks : List Int} (h : LentNs w g c ks) (hk : w'.heap[g]? = w.heap[g]?) : LentNs w' g c ks := ⟨h.row.kept fun k hk' => by cases hk'; exact hk⟩
theorem LentNs.below {w w' : World} {g c : Nat} {ks : List Int} (h : LentNs w g c ks) (hb : Below w.heap.size w w') : LentNs w' g c ks := h.keep (hb.block g h.lt)
theorem lentN_any (v : Value) (ks : List Int) (w : World) (h : IntsV w v ks) (hl : ks.length ≤ 1000000) :
    Calls Tryz.prog 8 #[v] w fun e w' => ∃ g c, e = .returned (.slice (some ⟨g, 0, none⟩) ks.length (c + 1)) ∧ LentNs w' g c ks ∧ w.heap.size ≤ g ∧ Below w.heap.size w w' := by
  have hs := h.src
  obtain ⟨a, cap, rfl⟩ := h.len
  refine (lentN_src a cap ks w hs hl).mono ?_
  rintro _ w' ⟨g, c, rfl, h1, h2, h3⟩
  exact ⟨g, c, rfl, ⟨h1⟩, h2, h3⟩
set_option maxHeartbeats 4000000 in
set_option maxRecDepth 100000 in
/-- Two lists of the same ints are told to be the same. -/
theorem sameN_yes (u v : Value) (ks : List Int) (w : World) (hU : IntsV w u ks) (hV : IntsV w v ks) (hl : ks.length ≤ 100000) :
    Calls Tryz.prog 58 #[u, v] w fun e w' => e = .returned (.bool true) ∧ Below w.heap.size w w' := by
  obtain ⟨a, c, rfl⟩ := hU.len
  obtain ⟨a2, c2, rfl⟩ := hV.len
  have HU := Lib.hid hU
  have HV := Lib.hid hV
  clear hU hV
  go_enter Tryz.func58, Tryz.ntmps58
  go_wp2
  go_loopw [5] (fun iv wr => ∃ (i : Nat), iv = .int .i64 (i : Int) ∧ i ≤ ks.length ∧ Hid (Below w.heap.size w wr)) (fun iv _ => ks.length - (intOf iv).toNat)
  case atStart => exact ⟨0, rfl, Nat.zero_le _, Lib.hid (Below.refl _ _)⟩
  case round =>
    obtain ⟨i, rfl, hi, HB⟩ := hrel
    by_cases hlt : i < ks.length
    · obtain ⟨b, off, rfl, hblt, hcell⟩ := (HU.out.below HB.out).at hlt
      obtain ⟨b2, off2, rfl, hblt2, hcell2⟩ := (HV.out.below HB.out).at hlt
      generalize intAt ks i = x at *
      have hiI : (i : Int) < (ks.length : Int) := by omega
      go_wp2
      go_quiet (fail)
      go_wp2
      go_roundw
      case rel => exact ⟨i + 1, by go_num, by omega, Lib.hid (belowN HB.out _)⟩
      case measure => simp [intOf]; omega
    · obtain rfl : i = ks.length := by omega
      have d3 : decide ((ks.length : Int) < (ks.length : Int)) = false := by simp
      go_wp2
      go_ret
      exact ⟨rfl, HB.out⟩
set_option maxHeartbeats 1000000 in
theorem staysN_any (g c : Nat) (v : Value) (ks : List Int) (w : World) (h : LentNs w g c ks) (hw : IntsV w v ks) (hl : ks.length ≤ 100000) :
    Calls Tryz.prog 26 #[.slice (some ⟨g, 0, none⟩) ks.length (c + 1), v] w fun e w' => e = .returned (.bool true) ∧ Below w.heap.size w w' := by
  have HC := Lib.hid (sameN_yes _ v ks w h.v hw hl)
  obtain ⟨a, cap, rfl⟩ := hw.len
  have hm := h.mark
  have hlt := h.lt
  have hcap := h.cap
  clear h hw
  go_enter Tryz.func26, Tryz.ntmps26
  go_wp2_with fail
  go_at_call 58
  (with_reducible refine HC.out.mono ?_)
  rintro _ w1 ⟨rfl, b1⟩
  have hm1 : w1.cell? ⟨g, ks.length, none⟩ = some (.int .i64 (-77)) := (b1.cell (p := ⟨g, ks.length, none⟩) hlt).trans hm
  have HB := Lib.hid b1
  clear b1 hm
  go_wp2
  go_ret
  exact ⟨rfl, HB.out⟩
end Go.Proofs.YtmcgfafkggannaaGreat

namespace Go.Proofs.YtmcgfafkggannaaGreat
open Go.ChangeShapes Go.WideShapes Go.ChangeAt Go.Deep
open Go.RowKit Go.Shelf

theorem leftT_none (ts : List Tb) : leftT ts [] = ts := by
  unfold leftT
  refine List.filter_eq_self.2 fun t _ => ?_
  rfl
theorem next_zero_ts (e : Ed) : (nextV Vr.zero e).ts = ordT e.add := by
  unfold nextV
  rw [show leftT Vr.zero.ts e.drop ++ e.add = e.add from rfl]
theorem next_len (v : Vr) (e : Ed) : (nextV v e).ts.length ≤ v.ts.length + e.add.length := by
  unfold nextV
  simp only
  rw [(ordT_both _).1.length_eq, List.length_append]
  have := leftT_len v.ts e.drop
  omega
theorem next_stands (v : Vr) (e : Ed) : Stands (nextV v e).ts := (ordT_both _).2
/-- The edit of all makes a right version that stands in order again. -/
theorem next_whole {v : Vr} (h : RightV v) (hs : Stands v.ts) : nextV Vr.zero (wholeE v) = v := by
  obtain ⟨log, next, seq, ts⟩ := v
  have h1 := h.1
  simp only at h1 hs
  unfold nextV wholeE
  simp only
  rw [show leftT Vr.zero.ts [] ++ ts = ts from rfl]
  have e1 : max Vr.zero.log log = log := by show max 0 log = log; omega
  have e2 : max Vr.zero.next next = next := by show max 0 next = next; omega
  have e3 : max Vr.zero.seq seq = seq := by show max 0 seq = seq; omega
  rw [e1, e2, e3]
  have := stands_one h hs (ordT_both ts).1 (ordT_both ts).2
  rw [this]
theorem applies_whole {v : Vr} (h : RightV v) (hs : Stands v.ts) : Applies Vr.zero (wholeE v) := ⟨(fun n hn => by cases hn), by rw [next_whole h hs]; exact h⟩
def addE (t : Tb) : Ed := ⟨0, 0, 0, [t], []⟩
def dropE (n : Int) : Ed := ⟨0, 0, 0, [], [n]⟩
theorem next_add {v : Vr} (t : Tb) (h : RightV v) : nextV v (addE t) = ⟨v.log, v.next, v.seq, ordT (v.ts ++ [t])⟩ := by
  have h1 := h.1
  unfold nextV addE
  simp only
  rw [leftT_none]
  have e1 : max v.log 0 = v.log := by omega
  have e2 : max v.next 0 = v.next := by omega
  have e3 : max v.seq 0 = v.seq := by omega
  rw [e1, e2, e3]
theorem next_add_len {v : Vr} (t : Tb) (h : RightV v) : (nextV v (addE t)).ts.length = v.ts.length + 1 := by
  rw [next_add t h]
  simp only
  rw [(ordT_both _).1.length_eq, List.length_append]
  rfl
/-- Adding a table and dropping it again leaves a version as it was. -/
theorem next_back {v : Vr} (t : Tb) (h : RightV v) (hs : Stands v.ts) (ha : RightV (nextV v (addE t))) : Applies (nextV v (addE t)) (dropE t.n) ∧ nextV (nextV v (addE t)) (dropE t.n) = v := by
  have hn := next_add t h
  rw [hn] at ha ⊢
  have hp := (ordT_both (v.ts ++ [t])).1
  have h1 := h.1
  have htw : (v.ts ++ [t]).Pairwise TwoOk := (hp.pairwise_iff (fun h => TwoOk.symm h)).1 ha.2.2
  have hne : ∀ u ∈ v.ts, u.n ≠ t.n := fun u hu => ((List.pairwise_append.1 htw).2.2 u hu t (by simp)).1
  have hl : (leftT (ordT (v.ts ++ [t])) [t.n]).Perm v.ts := by
    have := hp.filter (fun x : Tb => !([t.n] : List Int).contains x.n)
    refine (show (leftT (ordT (v.ts ++ [t])) [t.n]).Perm (leftT (v.ts ++ [t]) [t.n]) from this).trans ?_
    have e : leftT (v.ts ++ [t]) [t.n] = v.ts := by
      unfold leftT
      rw [List.filter_append, List.filter_eq_self.2 (fun u hu => by simpa using hne u hu)]
      simp
    rw [e]
  have e0 : nextV ⟨v.log, v.next, v.seq, ordT (v.ts ++ [t])⟩ (dropE t.n) = v := by
    unfold nextV dropE
    simp only
    rw [List.append_nil]
    have e1 : max v.log 0 = v.log := by omega
    have e2 : max v.next 0 = v.next := by omega
    have e3 : max v.seq 0 = v.seq := by omega
    rw [e1, e2, e3]
    have := stands_one h hs ((ordT_both _).1.trans hl) (ordT_both _).2
    rw [this]
  refine ⟨⟨fun n hn => ?_, by rw [e0]; exact h⟩, e0⟩
  have : n = t.n := by simpa [dropE] using hn
  subst this
  exact there_iff.2 ⟨t, hp.mem_iff.2 (by simp), rfl⟩
/-- An edit that came in: what it has, and where its lists lie. -/
structure EdW (w : World) (e : Ed) (va vd : Value) : Prop where
  l : -9223372036854775808 ≤ e.log ∧ e.log ≤ 9223372036854775807
  n : -9223372036854775808 ≤ e.next ∧ e.next ≤ 9223372036854775807
  s : e.seq < 18446744073709551616
  a : TbsV w va e.add
  d : IntsV w vd e.drop
  la : e.add.length ≤ maxLen
  ld : e.drop.length ≤ maxLen
  ka : ∀ t ∈ e.add, t.Ok
  kd : ∀ k ∈ e.drop, -9223372036854775808 ≤ k ∧ k ≤ 9223372036854775807
theorem rowTV_of {H : Type} {enc : TypeId × Value → H} {w : World} {base fuel : Nat} {held : Bool} {v : Value} {x : DataW H × List MemPlace}
    (h : DataW.trod enc Tryz.prog w base (fun _ => true) held fuel 23 [v] = some x) : ∃ ts, TbsV w v ts ∧ ts.length ≤ maxLen ∧ ∀ t ∈ ts, t.Ok := by
  obtain ⟨a, len, cap, rfl⟩ : ∃ a len cap, v = .slice a len cap := by
    rcases open_slice Tryz.underlying23 h with ⟨hcs, _⟩ | ⟨y, l, c, m, n, D, Pl, hcs, _, hl, hm, hmm, _, hx⟩
    · simp at hcs
      exact ⟨_, _, _, hcs⟩
    · simp at hcs
      exact ⟨_, _, _, hcs⟩
  obtain ⟨⟨l, h1, h2, h3⟩, hn, -, -⟩ := rowT_of (cap := cap) (a := a) (len := len) h
  exact ⟨l, h3.v hn, by rw [h3.1]; exact h1, h2⟩
theorem rowIV_of {H : Type} {enc : TypeId × Value → H} {w : World} {base fuel : Nat} {held : Bool} {v : Value} {x : DataW H × List MemPlace}
    (h : DataW.trod enc Tryz.prog w base (fun _ => true) held fuel 26 [v] = some x) : ∃ ks, IntsV w v ks ∧ ks.length ≤ maxLen ∧ ∀ k ∈ ks, -9223372036854775808 ≤ k ∧ k ≤ 9223372036854775807 := by
  have c1 : Tryz.prog.cellsOf 3 = 1 := by kernel_rfl
  rcases open_ints Tryz.underlying26 Tryz.underlying3 c1 h with ⟨hcs, _⟩ | ⟨y, l, c, zs, hcs, _, hl, hm, hz, _, hcell, hwz⟩
  · simp at hcs
    subst hcs
    exact ⟨[], .inl ⟨rfl, rfl⟩, Nat.zero_le _, fun k hk => by cases hk⟩
  · simp at hcs
    subst hcs
    have hz' : zs.length = c := by simpa using hz
    have htl : (zs.take l).length = l := by simp; omega
    refine ⟨zs.take l, .inr ⟨y, c, by rw [htl], fun j hj => ?_⟩, by rw [htl]; omega, fun k hk => bounds_i64 (hwz k (List.mem_of_mem_take hk))⟩
    rw [htl] at hj
    have := hcell j (by omega)
    rw [this, List.getD_eq_getElem?_getD, List.getElem?_eq_getElem (by omega)]
    simp
set_option maxRecDepth 100000 in
theorem edit_of {H : Type} {enc : TypeId × Value → H} {w : World} {base n : Nat} {held : Bool} {cs : Array Value} {y : DataW H × List MemPlace}
    (h : DataW.trod enc Tryz.prog w base (fun _ => true) held n 28 (Value.agg cs).cells.toList = some y) (hl : cs.size = Tryz.prog.cellsOf 28) : ∃ e va vd, EdW w e va vd ∧ Value.agg cs = ediV e.log e.next e.seq va vd := by
  have c4 : Tryz.prog.cellsOf 28 = 5 := by kernel_rfl
  obtain ⟨xs, k, hk, hxy, _, hxl, hf⟩ := DataW.trod_struct Tryz.underlying28 h
  have c3 : Tryz.prog.cellsOf 3 = 1 := by kernel_rfl
  have c9 : Tryz.prog.cellsOf 22 = 1 := by kernel_rfl
  have c7 : Tryz.prog.cellsOf 23 = 1 := by kernel_rfl
  have c8 : Tryz.prog.cellsOf 26 = 1 := by kernel_rfl
  have hls : cs.toList.length = 5 := by rw [Array.length_toList, hl, c4]
  rw [show (Value.agg cs).cells = cs from rfl] at hf
  obtain ⟨cl, hcl⟩ : ∃ cl, cs.toList = cl := ⟨_, rfl⟩
  have hcs : cs = cl.toArray := by rw [← hcl]
  subst hcs
  rw [hcl] at hls hf
  clear h hk hxy hcl hl
  match xs, hxl, cl, hls with
  | [y0, y1, y2, y3, y4], _, [v0, v1, v2, v3, v4], _ =>
    have g0 := hf 0 _ rfl
    have g1 := hf 1 _ rfl
    have g2 := hf 2 _ rfl
    have g3 := hf 3 _ rfl
    have g4 := hf 4 _ rfl
    simp [c3, c9, c7, c8] at g0 g1 g2 g3 g4
    obtain ⟨z0, e0, -, b0⟩ := DataW.trod_int Tryz.underlying3 g0
    obtain ⟨z1, e1, -, b1⟩ := DataW.trod_int Tryz.underlying3 g1
    obtain ⟨z2, e2, -, b2⟩ := DataW.trod_int Tryz.underlying22 g2
    obtain ⟨ts, h1, h2, h3⟩ := rowTV_of g3
    obtain ⟨ks, h4, h5, h6⟩ := rowIV_of g4
    simp only [List.cons.injEq, and_true] at e0 e1 e2
    subst e0 e1 e2
    have k0 := bounds_i64 b0
    have k1 := bounds_i64 b1
    have k2 := bounds_u64 b2
    obtain ⟨z2, rfl⟩ : ∃ m : Nat, z2 = (m : Int) := ⟨z2.toNat, by omega⟩
    exact ⟨⟨z0, z1, z2, ts, ks⟩, v3, v4, ⟨k0, k1, by show z2 < _; omega, h1, h4, h2, h5, h3, h6⟩, rfl⟩
end Go.Proofs.YtmcgfafkggannaaGreat

namespace Go.Proofs.YtmcgfafkggannaaGreat
open Go.RowKit Go.Shelf

set_option maxHeartbeats 4000000 in
set_option maxRecDepth 100000 in
theorem light_any (e : Ed) (va vd : Value) (w : World) (h : EdW w e va vd) :
    Calls Tryz.prog 5 #[ediV e.log e.next e.seq va vd] w fun x w' => ∃ t : Bool, x = .returned (.bool t) ∧ (t = true → e.add.length ≤ 40 ∧ (∀ t ∈ e.add, t.Short) ∧ e.drop.length ≤ 60) ∧ Below w.heap.size w w' := by
  obtain ⟨log, next, seq, add, drop⟩ := e
  have HE := Lib.hid h
  obtain ⟨-, -, -, ha, hd, hla, hld, hka, -⟩ := h
  simp only at ha hd hla hld hka ⊢
  obtain ⟨aa, ac, rfl⟩ := ha.len
  obtain ⟨da, dc, rfl⟩ := hd.len
  unfold ediV
  obtain ⟨W1, hW1⟩ : ∃ W1, w.alloc (.cells #[.int .i64 log, .int .i64 next, .int .u64 (seq : Int), .slice aa add.length ac, .slice da drop.length dc] 28) = W1 := ⟨_, rfl⟩
  have b1 : Below w.heap.size w W1 := by rw [← hW1]; exact (Below.refl _ _).alloc (Nat.le_refl _) _
  have y1 : BoxEd w.heap.size log next seq (.slice aa add.length ac) (.slice da drop.length dc) W1 := by rw [← hW1]; exact new_block _ _ rfl
  have C1 := Lib.hid (small12_any _ add W1 (ha.below b1) (by unfold maxLen at hla; omega) hka)
  have q3 := y1.c3
  have HY1 := Lib.hid y1
  have HB1 := Lib.hid b1
  have hdm : drop.length ≤ 9223372036854775807 := by unfold maxLen at hld; omega
  clear ha hd hla hld hka b1 y1
  go_enter Tryz.func5, Tryz.ntmps5
  go_wp2_with fail
  try rw [hW1]
  clear hW1
  go_at_call 4
  (with_reducible refine C1.out.mono ?_)
  rintro _ w2 ⟨t, rfl, ht, hb2⟩
  have q4 := (HY1.out.below hb2).c4
  have HB2 := Lib.hid (HB1.out.trans (hb2.mono HB1.out.size))
  have HT := Lib.hid ht
  clear hb2 ht C1 q3
  cases t with
  | false =>
    go_wp2_with fail
    go_ret
    exact ⟨false, rfl, fun h => (by cases h), HB2.out⟩
  | true =>
    by_cases h6 : drop.length ≤ 60
    · have d6 : decide ((drop.length : Int) ≤ 60) = true := by simp; omega
      go_wp2_with fail
      go_ret
      exact ⟨true, rfl, fun _ => ⟨(HT.out (by first | rfl | trivial)).1, (HT.out (by first | rfl | trivial)).2, h6⟩, HB2.out⟩
    · have d6 : decide ((drop.length : Int) ≤ 60) = false := by simp; omega
      go_wp2_with fail
      go_ret
      exact ⟨false, rfl, fun h => (by cases h), HB2.out⟩
/-- A version of the document's own. -/
def BoxR (B : Nat) (log next : Int) (seq : Nat) (v : Value) (w : World) : Prop := w.heap[B]? = some (.cells #[.int .i64 log, .int .i64 next, .int .u64 (seq : Int), v] 63)
section
variable {B : Nat} {log next : Int} {seq : Nat} {v : Value} {w w' : World}
theorem BoxR.lt (h : BoxR B log next seq v w) : B < w.heap.size := (Array.getElem?_eq_some_iff.1 h).1
theorem BoxR.c0 (h : BoxR B log next seq v w) : w.cell? ⟨B, 0, none⟩ = some (.int .i64 log) := by unfold World.cell?; rw [show w.heap[B]? = _ from h]; rfl
theorem BoxR.c1 (h : BoxR B log next seq v w) : w.cell? ⟨B, 1, none⟩ = some (.int .i64 next) := by unfold World.cell?; rw [show w.heap[B]? = _ from h]; rfl
theorem BoxR.c2 (h : BoxR B log next seq v w) : w.cell? ⟨B, 2, none⟩ = some (.int .u64 (seq : Int)) := by unfold World.cell?; rw [show w.heap[B]? = _ from h]; rfl
theorem BoxR.c3 (h : BoxR B log next seq v w) : w.cell? ⟨B, 3, none⟩ = some v := by unfold World.cell?; rw [show w.heap[B]? = _ from h]; rfl
theorem BoxR.f (h : BoxR B log next seq v w) (j : Nat) : w.frozen? ⟨B, j, none⟩ = false := by unfold World.frozen?; rw [show w.heap[B]? = _ from h]; simp
theorem BoxR.below (h : BoxR B log next seq v w) (hb : Below w.heap.size w w') : BoxR B log next seq v w' := (hb.block B h.lt).trans h
end
set_option maxHeartbeats 4000000 in
set_option maxRecDepth 100000 in
theorem plainV_any (log next : Int) (seq : Nat) (a : Option Addr) (n c : Nat) (w : World) :
    Calls Tryz.prog 16 #[.agg #[.int .i64 log, .int .i64 next, .int .u64 (seq : Int), .slice a n c]] w fun x w' => x = .returned (.agg #[.int .i64 log, .int .i64 next, .int .u64 (seq : Int), .slice a n c]) ∧ Below w.heap.size w w' := by
  obtain ⟨W1, hW1⟩ : ∃ W1, (w.alloc (.cells #[.int .i64 log, .int .i64 next, .int .u64 (seq : Int), .slice a n c] 25)).alloc (.cells #[.int .i64 0, .int .i64 0, .int .u64 0, .slice none 0 0] 63) = W1 := ⟨_, rfl⟩
  have b1 : Below w.heap.size w W1 := by rw [← hW1]; exact ((Below.refl _ _).alloc (Nat.le_refl _) _).alloc (by simp) _
  have x1 : BoxV w.heap.size log next seq (.slice a n c) W1 := by rw [← hW1]; exact (Below.heap_alloc _ _ _ (by simp)).trans (new_block _ _ rfl)
  have z1 : BoxR (w.heap.size + 1) 0 0 0 (.slice none 0 0) W1 := by rw [← hW1]; exact new_block _ _ (by simp)
  have p0 := x1.c0
  have p1 := x1.c1
  have p2 := x1.c2
  have p3 := x1.c3
  have g0 := z1.c0
  have g1 := z1.c1
  have g2 := z1.c2
  have g3 := z1.c3
  have f0 := z1.f 0
  have f1 := z1.f 1
  have f2 := z1.f 2
  have f3 := z1.f 3
  have HB := Lib.hid b1
  clear b1 x1 z1
  go_enter Tryz.func16, Tryz.ntmps16
  go_upto_region 1 with fail
  try rw [hW1]
  clear hW1
  go_wp2_with fail
  refine bodyPost_ret (by simp [results, Tryz.results16, go_sem, g0, g1, g2, g3]; try rfl) rfl ?_
  exact ⟨rfl, below_set4 HB.out _ (by omega) _ _ _ _⟩
set_option maxHeartbeats 4000000 in
set_option maxRecDepth 100000 in
theorem sameV_yes (log next : Int) (seq : Nat) (u v : Value) (ts : List Tb) (w : World) (hU : TbsV w u ts) (hV : TbsV w v ts) (hl : ts.length ≤ 100000) :
    Calls Tryz.prog 21 #[.agg #[.int .i64 log, .int .i64 next, .int .u64 (seq : Int), u], .agg #[.int .i64 log, .int .i64 next, .int .u64 (seq : Int), v]] w fun x w' => x = .returned (.bool true) ∧ Below w.heap.size w w' := by
  obtain ⟨W1, hW1⟩ : ∃ W1, (w.alloc (.cells #[.int .i64 log, .int .i64 next, .int .u64 (seq : Int), u] 25)).alloc (.cells #[.int .i64 log, .int .i64 next, .int .u64 (seq : Int), v] 63) = W1 := ⟨_, rfl⟩
  have b1 : Below w.heap.size w W1 := by rw [← hW1]; exact ((Below.refl _ _).alloc (Nat.le_refl _) _).alloc (by simp) _
  have x1 : BoxV w.heap.size log next seq u W1 := by rw [← hW1]; exact (Below.heap_alloc _ _ _ (by simp)).trans (new_block _ _ rfl)
  have z1 : BoxR (w.heap.size + 1) log next seq v W1 := by rw [← hW1]; exact new_block _ _ (by simp)
  have C1 := Lib.hid (sameT_yes u v ts W1 (hU.below b1) (hV.below b1) hl)
  obtain ⟨a, c, rfl⟩ := hU.len
  obtain ⟨a2, c2, rfl⟩ := hV.len
  have p0 := x1.c0
  have p1 := x1.c1
  have p2 := x1.c2
  have p3 := x1.c3
  have g0 := z1.c0
  have g1 := z1.c1
  have g2 := z1.c2
  have g3 := z1.c3
  have HB := Lib.hid b1
  clear b1 x1 z1 hU hV
  go_enter Tryz.func21, Tryz.ntmps21
  go_upto_region 1 with fail
  try rw [hW1]
  clear hW1
  go_wp2_with (go_at_call 57; (with_reducible refine C1.out.mono ?_); rintro _ w2 ⟨rfl, hb2⟩)
  go_ret
  exact ⟨rfl, HB.out.trans (hb2.mono HB.out.size)⟩
end Go.Proofs.YtmcgfafkggannaaGreat

namespace Go.Proofs.YtmcgfafkggannaaGreat
open Go.RowKit Go.Shelf

theorem cat_str (a b : List UInt8) : (⟨a.toArray⟩ : ByteArray) ++ (⟨b.toArray⟩ : ByteArray) = ⟨(a ++ b).toArray⟩ := by
  apply ByteArray.ext
  simp
theorem strCells_eq (s : ByteArray) : Lib.strCells s = Lib.byteCells s.data.toList := rfl
theorem own_below {w w1 : World} {B : Nat} {e : TypeId} {z : Nat} {v : Value} {n : Nat} {xs : List Value} (h : w.ownsRow B e z v n xs) (hb : Below w.heap.size w w1) : w1.ownsRow B e z v n xs :=
  h.kept (grownBy_of_below hb none) (by cases v.ownBlock <;> simp)
set_option maxHeartbeats 1000000 in
set_option maxRecDepth 100000 in
theorem refVar_any (x : Nat) (hx : x < 18446744073709551616) (w : World) :
    Calls Tryz.prog 36 #[.int .u64 x] w fun e w' => e = .returned (.string ⟨(Lib.uvarint x).toArray⟩) ∧ Below w.heap.size w w' := by
  obtain ⟨i0, hi, hz0, hz1, hz2⟩ := info_parts infoByteN
  have hlen := Lib.uvarint_length64 hx
  go_enter Tryz.func36, Tryz.ntmps36
  go_wp2
  go_loopw [0, 3] (fun vx vb wr => ∃ (y : Nat) (pre : List UInt8), vx = .int .u64 y ∧ y ≤ x ∧ Lib.uvarint x = pre ++ Lib.uvarint y ∧ wr.ownsRow w.heap.size 5 1 vb pre.length (Lib.byteCells pre) ∧ Below w.heap.size w wr)
    (fun vx _ _ => (intOf vx).toNat)
  case atStart => exact ⟨x, [], rfl, Nat.le_refl _, rfl, by simpa [Lib.byteCells] using World.ownsRow_nil w _ _ _, Below.refl _ _⟩
  case round =>
    obtain ⟨y, pre, rfl, hy, hsplit, hown1, hnx⟩ := hrel
    have hpl : pre.length + (Lib.uvarint y).length ≤ 10 := by
      have h2 := congrArg List.length hsplit
      rw [List.length_append] at h2
      omega
    have hyp := Lib.uvarint_pos y
    have HSP := Lib.hid hsplit
    clear hsplit
    by_cases h128 : 128 ≤ y
    · have hm : IntKind.u8.wrap ((y : Int) % 128) = (y : Int) % 128 := by rw [IntKind.wrap_u8']; omega
      go_wp2_with (at_builtin; refine wpList_append_own _ rfl _ _ 82 rfl w.heap.size 5 i0 (.int .u8 0) 1 1 Tryz.underlying82 hi hz0 hz1 hz2 rfl (by decide) _ _ _ rfl (hown1.alloc _) ⟨wr.heap.size, 0, none⟩ 1 1 [Value.int .u8 ((y : Int) % 128 + 128)] rfl rfl ?c1 ?c2 ?c3 ?c4 ?c5 ?_)
      case c1 =>
        intro j u hj
        match j, hj with
        | 0, hj => simp at hj; subst hj; simp [Addr.add]
      case c2 => intro u hu; simp at hu; subst hu; rfl
      case c3 => unfold maxLen; omega
      case c4 => omega
      case c5 => have := hnx.size; simp; omega
      intro v' w1 hown' hgrow _
      have hnx1 : Below w.heap.size w w1 := (hnx.alloc (by have := hnx.size; omega) _).grown hgrow (by have := hnx.size; simp; omega) (fun k hk => (hown1.lt k hk).1)
      go_wp2
      go_roundw
      case rel =>
        refine ⟨y / 128, pre ++ [(y % 128 + 128).toUInt8], by go_num, by omega, by rw [HSP.out, Lib.uvarint_big h128]; simp, ?_, hnx1⟩
        have ec : ((y % 128 + 128 : Nat) : Int) = (y : Int) % 128 + 128 := by omega
        rw [Lib.byteCells_snoc pre (by omega), List.length_append, List.length_singleton, ec]
        exact hown'
      case measure => simp [intOf]; omega
    · have hsm : Lib.uvarint y = [y.toUInt8] := Lib.uvarint_small (by omega)
      have HSM := Lib.hid hsm
      clear hsm
      go_wp2_with (at_builtin; refine wpList_append_own _ rfl _ _ 82 rfl w.heap.size 5 i0 (.int .u8 0) 1 1 Tryz.underlying82 hi hz0 hz1 hz2 rfl (by decide) _ _ _ rfl (hown1.alloc _) ⟨wr.heap.size, 0, none⟩ 1 1 [Value.int .u8 (y : Int)] rfl rfl ?c1 ?c2 ?c3 ?c4 ?c5 ?_)
      case c1 =>
        intro j u hj
        match j, hj with
        | 0, hj => simp at hj; subst hj; simp [Addr.add]
      case c2 => intro u hu; simp at hu; subst hu; rfl
      case c3 => unfold maxLen; omega
      case c4 => omega
      case c5 => have := hnx.size; simp; omega
      intro v' w1 hown' hgrow _
      have hnx1 : Below w.heap.size w w1 := (hnx.alloc (by have := hnx.size; omega) _).grown hgrow (by have := hnx.size; simp; omega) (fun k hk => (hown1.lt k hk).1)
      have hown2 : w1.ownsRow w.heap.size 5 1 v' (pre.length + 1) (Lib.byteCells (Lib.uvarint x)) := by
        rw [HSP.out, HSM.out, Lib.byteCells_snoc pre (by omega)]
        exact hown'
      have hcv := conv_ownN hown2 (by rw [HSP.out, HSM.out]; simp)
      clear hown' hown2 hgrow
      go_wp2
      go_ret
      exact ⟨rfl, hnx1⟩
set_option maxHeartbeats 1000000 in
theorem refText_any (s : ByteArray) (w : World) (hs : s.size ≤ 1000000) :
    Calls Tryz.prog 35 #[.string s] w fun e w' => e = .returned (.string ⟨(Lib.uvarint s.size ++ s.data.toList).toArray⟩) ∧ Below w.heap.size w w' := by
  have HU := Lib.hid (show s.size < 18446744073709551616 by omega)
  have hl := Lib.uvarint_length64 (x := s.size) (by omega)
  go_enter Tryz.func35, Tryz.ntmps35
  go_wp2_with (go_at_call 36; refine (refVar_any s.size HU.out _).mono ?_; rintro e w1 ⟨rfl, hb1⟩)
  go_ret
  refine ⟨?_, hb1⟩
  rw [← cat_str, show (⟨s.data.toList.toArray⟩ : ByteArray) = s by apply ByteArray.ext; simp]
  rfl
set_option maxHeartbeats 1000000 in
set_option maxRecDepth 100000 in
theorem refVars_any (b off cap : Nat) (zs : List Nat) (w : World) (hr : ∀ z ∈ zs, z < 18446744073709551616) (hlim : zs.length ≤ 1000000)
    (hc : ∀ i (h : i < zs.length), w.cell? ⟨b, off + i, none⟩ = some (.int .u64 (zs[i] : Int))) (hb : b < w.heap.size) :
    Calls Tryz.prog 34 #[.slice (some ⟨b, off, none⟩) zs.length cap] w fun e w' => e = .returned (.string ⟨(vars zs).toArray⟩) ∧ Below w.heap.size w w' := by
  obtain ⟨i0, hi, hz0, hz1, hz2⟩ := info_parts infoByteN
  go_enter Tryz.func34, Tryz.ntmps34
  go_wp2
  go_loopw [3, 4] (fun vb i wr => ∃ k : Nat, k ≤ zs.length ∧ i = .int .i64 k ∧ wr.ownsRow w.heap.size 5 1 vb (vars (zs.take k)).length (Lib.byteCells (vars (zs.take k))) ∧ Below w.heap.size w wr)
    (fun _ i _ => zs.length - (intOf i).toNat)
  case atStart => exact ⟨0, Nat.zero_le _, rfl, by simpa [vars, Lib.byteCells] using World.ownsRow_nil w _ _ _, Below.refl _ _⟩
  case round =>
    obtain ⟨k, hk, rfl, hown, hnx⟩ := hrel
    by_cases hlt : k < zs.length
    · have hcx : wr.cell? ⟨b, off + k, none⟩ = some (.int .u64 (zs[k] : Int)) := (hnx.cell (by exact hb)).trans (hc k hlt)
      have hl1 := vars_length (zs.take k) (fun z hz => hr z (List.mem_of_mem_take hz))
      have hl2 : (zs.take k).length ≤ k := List.length_take_le _ _
      have hz := hr zs[k] (List.getElem_mem hlt)
      have hu := Lib.uvarint_length64 hz
      have HT := Lib.hid (take_snoc_nat zs k hlt)
      have HZ := Lib.hid hz
      have hsz : (⟨(Lib.uvarint zs[k]).toArray⟩ : ByteArray).size ≤ 10 := by show (Lib.uvarint zs[k]).toArray.size ≤ 10; simpa using hu
      clear hz
      go_wp2_with fail
      refine (refVar_any zs[k] HZ.out _).mono ?_
      rintro e w1 ⟨rfl, hb1⟩
      have hown1 := own_below hown hb1
      have hnx1 := hnx.trans (hb1.mono hnx.size)
      go_wp2_with (at_builtin; refine Lib.wpList_append_own_string _ rfl _ _ 82 9 rfl w.heap.size 5 i0 Tryz.underlying82 Tryz.underlying9 hi hz0 hz1 hz2 _ _ _ rfl hown1 _ rfl ?c1 ?c2 ?c3 ?_)
      case c1 => unfold maxLen; omega
      case c2 => omega
      case c3 => exact hnx1.size
      intro v' w2 hown2 hgrow2 _
      have hnx2 : Below w.heap.size w w2 := hnx1.grown hgrow2 hnx1.size (fun j hj => (hown1.lt j hj).1)
      clear hown hown1 hgrow2
      go_wp2
      go_roundw
      case rel =>
        refine ⟨k + 1, by omega, by go_num, ?_, hnx2⟩
        rw [HT.out, vars_snoc, List.length_append, Lib.byteCells_append]
        have e1 : (⟨(Lib.uvarint zs[k]).toArray⟩ : ByteArray).size = (Lib.uvarint zs[k]).length := by show (Lib.uvarint zs[k]).toArray.size = _; simp
        have e2 : Lib.strCells (⟨(Lib.uvarint zs[k]).toArray⟩ : ByteArray) = Lib.byteCells (Lib.uvarint zs[k]) := by rw [strCells_eq]
        rw [← e1, ← e2]
        exact hown2
      case measure => simp [intOf]; omega
    · have hke : k = zs.length := by omega
      have hcv := conv_ownN hown rfl
      go_wp2
      go_ret
      refine ⟨?_, hnx⟩
      subst hke
      simp
theorem cb_drop (a b : ByteArray) (i : Nat) (ha : i < a.size) (hb : i < b.size) : Lib.compareBytes (a.data.toList.drop i) (b.data.toList.drop i) = if a[i] < b[i] then -1 else if b[i] < a[i] then 1 else Lib.compareBytes (a.data.toList.drop (i + 1)) (b.data.toList.drop (i + 1)) := by
  have h1 : a.data.toList.drop i = a[i] :: a.data.toList.drop (i + 1) := List.drop_eq_getElem_cons (by rw [Array.length_toList]; exact ha)
  have h2 : b.data.toList.drop i = b[i] :: b.data.toList.drop (i + 1) := List.drop_eq_getElem_cons (by rw [Array.length_toList]; exact hb)
  rw [h1, h2]
  rfl
theorem cb_end (x y : List UInt8) (h : x = [] ∨ y = []) : decide (Lib.compareBytes x y = -1) = decide (x.length < y.length) := by
  rcases h with rfl | rfl
  · cases y <;> rfl
  · cases x <;> rfl
set_option maxHeartbeats 2000000 in
set_option maxRecDepth 100000 in
theorem less_any (a b : ByteArray) (w : World) (ha : a.size ≤ 9223372036854775807) (_hb : b.size ≤ 9223372036854775807) :
    Calls Tryz.prog 60 #[.string a, .string b] w fun e w' => e = .returned (.bool (decide (Lib.compareBytes a.data.toList b.data.toList = -1))) ∧ Below w.heap.size w w' := by
  go_enter Tryz.func60, Tryz.ntmps60
  go_wp2
  go_loopw [5] (fun iv wr => ∃ i : Nat, iv = .int .i64 (i : Int) ∧ i ≤ a.size ∧ i ≤ b.size ∧ Lib.compareBytes (a.data.toList.drop i) (b.data.toList.drop i) = Lib.compareBytes a.data.toList b.data.toList ∧ Below w.heap.size w wr) (fun iv _ => a.size - (RowKit.intOf iv).toNat)
  case atStart => exact ⟨0, rfl, Nat.zero_le _, Nat.zero_le _, rfl, Below.refl _ _⟩
  case round =>
    obtain ⟨i, rfl, hia, hib, he, hbl⟩ := hrel
    have HE := Lib.hid he
    have HBL := Lib.hid hbl
    clear he hbl
    by_cases hgo : i < a.size ∧ i < b.size
    · obtain ⟨h1, h2⟩ := hgo
      have hst := cb_drop a b i h1 h2
      have i1 : (i : Int) < (a.size : Int) := by omega
      have i2 : (i : Int) < (b.size : Int) := by omega
      have u1 : (i : Int) < (a.data.size : Int) := i1
      have u2 : (i : Int) < (b.data.size : Int) := i2
      generalize hX : a[i] = X at *
      generalize hY : b[i] = Y at *
      have HST := Lib.hid hst
      clear hst
      by_cases hxy : X = Y
      · subst hxy
        go_wp2
        go_quiet (fail)
        go_wp2
        go_roundw
        case rel => exact ⟨i + 1, by go_num, h1, h2, by rw [← HE.out, HST.out, if_neg (UInt8.lt_irrefl _), if_neg (UInt8.lt_irrefl _)], belowN HBL.out _⟩
        case measure => simp [RowKit.intOf]; omega
      · have hne : ((X.toNat : Int) == (Y.toNat : Int)) = false := by
          have : X.toNat ≠ Y.toNat := fun h => hxy (UInt8.toNat_inj.1 h)
          simp
          omega
        have hres : decide ((X.toNat : Int) < (Y.toNat : Int)) = decide (Lib.compareBytes a.data.toList b.data.toList = -1) := by
          rw [← HE.out, HST.out]
          by_cases hl : X < Y
          · rw [if_pos hl]
            have := UInt8.lt_iff_toNat_lt.1 hl
            simp
            omega
          · rw [if_neg hl]
            have h3 : ¬ X.toNat < Y.toNat := fun h => hl (UInt8.lt_iff_toNat_lt.2 h)
            have h4 : Y < X := UInt8.lt_iff_toNat_lt.2 (by
              have : X.toNat ≠ Y.toNat := fun h => hxy (UInt8.toNat_inj.1 h)
              omega)
            rw [if_pos h4]
            simp
            omega
        have HRES := Lib.hid hres
        clear hres
        go_wp2
        go_quiet (fail)
        go_wp2
        go_quiet (fail)
        go_wp2
        go_ret
        exact ⟨by rw [← HRES.out]; simp, belowN (belowN HBL.out _) _⟩
    · have hres : decide (a.size < b.size) = decide (Lib.compareBytes a.data.toList b.data.toList = -1) := by
        rw [← HE.out, cb_end]
        · rw [List.length_drop, List.length_drop]
          have e1 : a.data.toList.length = a.size := rfl
          have e2 : b.data.toList.length = b.size := rfl
          rw [e1, e2]
          apply decide_eq_decide.2
          omega
        · by_cases hl : i < a.size
          · exact .inr (List.drop_of_length_le (by show b.size ≤ i; omega))
          · exact .inl (List.drop_of_length_le (by show a.size ≤ i; omega))
      have HRES := Lib.hid hres
      clear hres
      by_cases h1 : i < a.size
      · have h2 : ¬ i < b.size := fun h => hgo ⟨h1, h⟩
        have i1 : (i : Int) < (a.size : Int) := by omega
        have d2 : decide ((i : Int) < (b.size : Int)) = false := by simp; omega
        clear hgo
        go_wp2
        go_ret
        exact ⟨by rw [← HRES.out]; simp, HBL.out⟩
      · have d1 : decide ((i : Int) < (a.size : Int)) = false := by simp; omega
        clear hgo
        go_wp2
        go_ret
        exact ⟨by rw [← HRES.out]; simp, HBL.out⟩
end Go.Proofs.YtmcgfafkggannaaGreat

namespace Go.Proofs.YtmcgfafkggannaaGreat
open Go.RowKit Go.Shelf

set_option maxHeartbeats 4000000 in
set_option maxRecDepth 100000 in
theorem before_any (x y : Tb) (hx : x.Ok) (hy : y.Ok) (w : World) : Calls Tryz.prog 137 #[x.val, y.val] w fun e w' => e = .returned (.bool (lessT x y)) ∧ Below w.heap.size w w' := by
  obtain ⟨n1, l1, z1, f1, g1⟩ := x
  obtain ⟨n2, l2, z2, f2, g2⟩ := y
  unfold Tb.Ok maxLen at hx hy
  simp only at hx hy
  unfold Tb.val
  simp only
  obtain ⟨W1, hW1⟩ : ∃ W1, (w.alloc (.cells #[.int .i64 n1, .int .i64 l1, .int .i64 z1, .string f1, .string g1] 80)).alloc (.cells #[.int .i64 n2, .int .i64 l2, .int .i64 z2, .string f2, .string g2] 80) = W1 := ⟨_, rfl⟩
  have b1 : Below w.heap.size w W1 := by rw [← hW1]; exact ((Below.refl _ _).alloc (Nat.le_refl _) _).alloc (by simp) _
  have x1 : BoxB w.heap.size ⟨n1, l1, z1, f1, g1⟩ W1 := by rw [← hW1]; exact (Below.heap_alloc _ _ _ (by simp)).trans (new_block _ _ rfl)
  have y1 : BoxB (w.heap.size + 1) ⟨n2, l2, z2, f2, g2⟩ W1 := by rw [← hW1]; exact new_block _ _ (by simp)
  have CL := Lib.hid (less_any f1 f2 W1 (by omega) (by omega))
  have c0 := x1.c0
  have c1 := x1.c1
  have c3 := x1.c3
  have d0 := y1.c0
  have d1 := y1.c1
  have d3 := y1.c3
  simp only at c0 c1 c3 d0 d1 d3
  have HB := Lib.hid b1
  clear b1 x1 y1 hx hy
  go_enter Tryz.func137, Tryz.ntmps137
  go_upto_region 1 with fail
  try rw [hW1]
  clear hW1
  by_cases hl : l1 = l2
  · subst hl
    by_cases h0 : l1 = 0
    · subst h0
      have E := Lib.hid (show lessT ⟨n1, 0, z1, f1, g1⟩ ⟨n2, 0, z2, f2, g2⟩ = decide (n2 < n1) by
        rw [Bool.eq_iff_iff, lessT_iff, decide_eq_true_iff]
        simp)
      go_wp2_with fail
      go_ret
      exact ⟨by rw [E.out]; try rfl, HB.out⟩
    · have dz : (l1 == 0) = false := by simpa using h0
      have E := Lib.hid (show lessT ⟨n1, l1, z1, f1, g1⟩ ⟨n2, l1, z2, f2, g2⟩ = decide (Lib.compareBytes f1.data.toList f2.data.toList = -1) by
        rw [Bool.eq_iff_iff, lessT_iff, decide_eq_true_iff]
        show _ ↔ cmpS f1 f2 = -1
        simp [h0])
      clear h0
      go_wp2_with (go_at_call 60; (with_reducible refine CL.out.mono ?_); rintro _ w2 ⟨rfl, hb2⟩)
      go_ret
      exact ⟨by rw [E.out]; try rfl, HB.out.trans (hb2.mono HB.out.size)⟩
  · have dz : (l1 == l2) = false := by simpa using hl
    have E := Lib.hid (show lessT ⟨n1, l1, z1, f1, g1⟩ ⟨n2, l2, z2, f2, g2⟩ = decide (l1 < l2) by
      rw [Bool.eq_iff_iff, lessT_iff, decide_eq_true_iff]
      simp only
      constructor <;> intro h <;> omega)
    clear hl
    go_wp2_with fail
    go_ret
    exact ⟨by rw [E.out]; try rfl, HB.out⟩
end Go.Proofs.YtmcgfafkggannaaGreat

namespace Go.Proofs.YtmcgfafkggannaaGreat
open Go.RowKit Go.Shelf

theorem below_rowT {B : Nat} {a b c : World} {row : Option Nat} (h : Below B a b) (hB : B ≤ a.heap.size) (hg : b.grownBy c row) (hr : ∀ k, row = some k → B ≤ k) : Below B a c := h.grown hg (Nat.le_trans hB h.size) hr
theorem none_neT {b : Nat} (h : ob (.slice none 0 0) = some b) {p : Prop} : p := by simp [ob] at h
theorem ob_nextT {w w' : World} {v v' : Value} {B : Nat} (h : ob v' = ob v ∨ (ob v' = some w.heap.size ∧ w.grownBy w' none)) (hB : B ≤ w.heap.size) (hv : ∀ b, ob v = some b → B ≤ b) : ∀ b, ob v' = some b → B ≤ b := by
  intro b hb
  rcases h with e | ⟨e, -⟩
  · exact hv b (by rw [← e]; exact hb)
  · rw [e] at hb
    cases hb
    exact hB
theorem srcT_at (x : Tb) {w : World} {b : Nat} (h : w.heap[b]? = some (.cells #[.int .i64 x.n, .int .i64 x.lv, .int .i64 x.sz, .string x.f, .string x.l] 80)) : Src Tryz.prog 5 23 (.slice (some ⟨b, 0, none⟩) 1 1) 1 [.int .i64 x.n, .int .i64 x.lv, .int .i64 x.sz, .string x.f, .string x.l] w :=
  Src.ofSlice (P := Tryz.prog) _ (size := 5) Tryz.underlying23 ⟨b, 0, none⟩ 1 1 _ rfl (fun j u hu => by
    have hc : ∀ i v, (#[.int .i64 x.n, .int .i64 x.lv, .int .i64 x.sz, .string x.f, .string x.l] : Array Value)[i]? = some v → w.cell? ⟨b, i, none⟩ = some v := fun i v hv => by
      simp only [World.cell?, h]
      exact hv
    match j, hu with
    | 0, hu => exact (hc 0 _ rfl).trans hu
    | 1, hu => exact (hc 1 _ rfl).trans hu
    | 2, hu => exact (hc 2 _ rfl).trans hu
    | 3, hu => exact (hc 3 _ rfl).trans hu
    | 4, hu => exact (hc 4 _ rfl).trans hu) (by simp [Value.oneCell'])
theorem srcT_new (x : Tb) (w : World) : Src Tryz.prog 5 23 (.slice (some ⟨w.heap.size, 0, none⟩) 1 1) 1 [.int .i64 x.n, .int .i64 x.lv, .int .i64 x.sz, .string x.f, .string x.l] (w.alloc (.cells #[.int .i64 x.n, .int .i64 x.lv, .int .i64 x.sz, .string x.f, .string x.l] 80)) := srcT_at x (new_block _ _ rfl)
/-- A part of a row as what is appended. -/
theorem srcT_part {w : World} {g o : Nat} (m : List Tb) (c : Nat) (hc : ∀ j u, (cellsT m)[j]? = some u → w.cell? ⟨g, o + j, none⟩ = some u) : Src Tryz.prog 5 23 (.slice (some ⟨g, o, none⟩) m.length c) m.length (cellsT m) w :=
  Src.ofSlice (P := Tryz.prog) _ (size := 5) Tryz.underlying23 ⟨g, o, none⟩ m.length c _ (cellsT_len m) (fun j u hu => by rw [add_plainT]; exact hc j u hu) (cellsT_one1 m)
theorem cellsT_split (l : List Tb) (k : Nat) : cellsT l = cellsT (l.take k) ++ cellsT (l.drop k) := by rw [← cellsT_append, List.take_append_drop]
theorem ordT_len (l : List Tb) : (ordT l).length = l.length := (ordT_both l).1.length_eq
set_option maxHeartbeats 8000000 in
set_option maxRecDepth 100000 in
theorem ordered_any (v : Value) (ts : List Tb) (w : World) (hT : TbsV w v ts) (hl : ts.length ≤ 10000) (hok : ∀ t ∈ ts, t.Ok) :
    Calls Tryz.prog 54 #[v] w fun e w' => ∃ r, e = .returned r ∧ RowB w' r (ordT ts) ∧ (∀ k, ob r = some k → w.heap.size ≤ k) ∧ Below w.heap.size w w' := by
  obtain ⟨a, c, rfl⟩ := hT.len
  have HT := Lib.hid hT
  have HOK := Lib.hid hok
  clear hT hok
  obtain ⟨i0, hi0, hz0, hzs, hzb⟩ := info_parts infoTab
  go_enter Tryz.func54, Tryz.ntmps54
  go_wp2_with fail
  go_loopw [3, 4] (fun ov iv wr => ∃ (i : Nat) (V : Value), V = ov ∧ iv = .int .i64 (i : Int) ∧ i ≤ ts.length ∧ Hid (RowB wr V (ordT (ts.take i))) ∧ Hid (ordT (ts.take i) = [] → V = .slice none 0 0) ∧ Hid (∀ k, ob V = some k → w.heap.size ≤ k) ∧ Hid (Below w.heap.size w wr)) (fun _ iv _ => ts.length - (intOf iv).toNat)
  case atStart => exact ⟨0, _, rfl, rfl, Nat.zero_le _, Lib.hid (row_nilB _), Lib.hid (fun _ => rfl), Lib.hid (fun k hk => by simp [ob] at hk), Lib.hid (Below.refl _ _)⟩
  case round =>
    obtain ⟨i, V, rfl, rfl, hi, HR, HV0, HOB, HBL⟩ := hrel
    by_cases hlt : i < ts.length
    · obtain ⟨aV, cV, rfl⟩ := HR.out.short
      obtain ⟨b, off, rfl, hblt, hcell⟩ := (HT.out.below HBL.out).at hlt
      have HTK := Lib.hid (take_snocT hlt)
      have hmem : tabAt ts i ∈ ts := by rw [tabAt_get hlt]; exact List.getElem_mem _
      have hkx := HOK.out _ hmem
      have HOL := Lib.hid (show ∀ t ∈ ordT (ts.take i), t.Ok from fun t ht => HOK.out t (List.mem_of_mem_take ((ordT_both _).1.mem_iff.1 ht)))
      have hol : (ordT (ts.take i)).length = i := by rw [ordT_len, List.length_take]; omega
      have HNX := Lib.hid (show ordT (ts.take (i + 1)) = insT (ordT (ts.take i)) (tabAt ts i) by rw [HTK.out, ordT_snoc])
      have hle : (ordT (ts.take i)).length ≤ 10000 := by omega
      clear hol
      generalize ordT (ts.take i) = out at *
      generalize tabAt ts i = x at *
      obtain ⟨n1, l1, z1, f1, g1⟩ := x
      have q0 : wr.cell? ⟨b, off + i * 5, none⟩ = some (.int .i64 n1) := hcell 0 _ rfl
      have q1 : wr.cell? ⟨b, off + i * 5 + 1, none⟩ = some (.int .i64 l1) := hcell 1 _ rfl
      have q2 : wr.cell? ⟨b, off + i * 5 + 2, none⟩ = some (.int .i64 z1) := hcell 2 _ rfl
      have q3 : wr.cell? ⟨b, off + i * 5 + 3, none⟩ = some (.string f1) := hcell 3 _ rfl
      have q4 : wr.cell? ⟨b, off + i * 5 + 4, none⟩ = some (.string g1) := hcell 4 _ rfl
      have HQ := Lib.hid (show ∀ W, Below wr.heap.size wr W → b < W.heap.size ∧ W.cell? ⟨b, off + i * 5, none⟩ = some (.int .i64 n1) ∧ W.cell? ⟨b, off + i * 5 + 1, none⟩ = some (.int .i64 l1) ∧ W.cell? ⟨b, off + i * 5 + 2, none⟩ = some (.int .i64 z1) ∧ W.cell? ⟨b, off + i * 5 + 3, none⟩ = some (.string f1) ∧ W.cell? ⟨b, off + i * 5 + 4, none⟩ = some (.string g1) from fun W h => ⟨Nat.lt_of_lt_of_le hblt h.size, (h.cell (p := ⟨b, off + i * 5, none⟩) hblt).trans q0, (h.cell (p := ⟨b, off + i * 5 + 1, none⟩) hblt).trans q1, (h.cell (p := ⟨b, off + i * 5 + 2, none⟩) hblt).trans q2, (h.cell (p := ⟨b, off + i * 5 + 3, none⟩) hblt).trans q3, (h.cell (p := ⟨b, off + i * 5 + 4, none⟩) hblt).trans q4⟩)
      clear hcell q0 q1 q2 q3 q4 hmem
      have hiI : (i : Int) < (ts.length : Int) := by omega
      obtain ⟨_, _, hcV, hlc, hcm⟩ := Row.le HR.out
      simp only [Value.slice.injEq] at hcV
      obtain ⟨-, -, rfl⟩ := hcV
      obtain ⟨w1, hw1⟩ : ∃ w1, w1 = wr := ⟨wr, rfl⟩
      subst hw1
      go_wp2_with fail
      go_loopw [5] (fun kv wq => ∃ k : Nat, kv = .int .i64 (k : Int) ∧ k ≤ out.length ∧ Hid (posT ⟨n1, l1, z1, f1, g1⟩ out out.length = posT ⟨n1, l1, z1, f1, g1⟩ out k) ∧ Hid (Below w1.heap.size w1 wq)) (fun kv _ => (intOf kv).toNat)
      case atStart => exact ⟨out.length, rfl, Nat.le_refl _, Lib.hid rfl, Lib.hid (Below.refl _ _)⟩
      case round =>
        obtain ⟨k, rfl, hk, HP, HBQ⟩ := hrel
        go_upto_region 6 with fail
        go_cut [27] from 14 to 27 (fun v wx => ∃ c : Bool, v = .bool c ∧ Hid (c = true → 0 < k ∧ posT ⟨n1, l1, z1, f1, g1⟩ out out.length = posT ⟨n1, l1, z1, f1, g1⟩ out (k - 1)) ∧ Hid (c = false → posT ⟨n1, l1, z1, f1, g1⟩ out out.length = k) ∧ Hid (Below w1.heap.size w1 wx))
        case first =>
          cases k with
          | zero =>
            have HP0 := Lib.hid (show posT ⟨n1, l1, z1, f1, g1⟩ out out.length = 0 from HP.out)
            have dk : decide ((0 : Nat) < 0) = false := by simp
            go_quiet (fail)
            go_wp2_with fail
            go_meet
            exact ⟨false, rfl, Lib.hid (fun h => by cases h), Lib.hid (fun _ => HP0.out), Lib.hid (belowN HBQ.out _)⟩
          | succ m =>
            obtain ⟨gV, oV, rfl, hgV, hcellV⟩ := (HR.out.v.below HBQ.out).at (i := m) (by omega)
            have hyk := HOL.out (tabAt out m) (by rw [tabAt_get (by omega)]; exact List.getElem_mem _)
            have HPS := Lib.hid (show posT ⟨n1, l1, z1, f1, g1⟩ out out.length = if lessT ⟨n1, l1, z1, f1, g1⟩ (tabAt out m) then posT ⟨n1, l1, z1, f1, g1⟩ out m else m + 1 from HP.out)
            have CB := Lib.hid (fun W => before_any ⟨n1, l1, z1, f1, g1⟩ (tabAt out m) hkx hyk W)
            unfold Tb.val at CB
            simp only at CB
            generalize tabAt out m = y at *
            have p0 : wr.cell? ⟨gV, oV + m * 5, none⟩ = some (.int .i64 y.n) := hcellV 0 _ rfl
            have p1 : wr.cell? ⟨gV, oV + m * 5 + 1, none⟩ = some (.int .i64 y.lv) := hcellV 1 _ rfl
            have p2 : wr.cell? ⟨gV, oV + m * 5 + 2, none⟩ = some (.int .i64 y.sz) := hcellV 2 _ rfl
            have p3 : wr.cell? ⟨gV, oV + m * 5 + 3, none⟩ = some (.string y.f) := hcellV 3 _ rfl
            have p4 : wr.cell? ⟨gV, oV + m * 5 + 4, none⟩ = some (.string y.l) := hcellV 4 _ rfl
            obtain ⟨hbw, q0, q1, q2, q3, q4⟩ := HQ.out wr HBQ.out
            clear hcellV hyk
            have dk : decide ((0 : Int) < ((m + 1 : Nat) : Int)) = true := by first | (simp; done) | (simp; omega)
            have dk2 : decide (0 < (m : Int) + 1) = true := by first | (simp; done) | (simp; omega)
            have hwm : IntKind.i64.wrap ((m : Int) + 1 - 1) = (m : Int) := by rw [IntKind.wrap_i64]; omega
            have hwm2 : IntKind.i64.wrap (m : Int) = (m : Int) := by rw [IntKind.wrap_i64]; omega
            have hm0 : (0 : Int) ≤ (m : Int) := by omega
            have hmI : (m : Int) < (out.length : Int) := by omega
            go_region_held3 (fun w' => w'.cell? ⟨b, off + i * 5, none⟩ = some (.int .i64 n1) ∧ w'.cell? ⟨b, off + i * 5 + 1, none⟩ = some (.int .i64 l1) ∧ w'.cell? ⟨b, off + i * 5 + 2, none⟩ = some (.int .i64 z1) ∧ w'.cell? ⟨b, off + i * 5 + 3, none⟩ = some (.string f1) ∧ w'.cell? ⟨b, off + i * 5 + 4, none⟩ = some (.string g1) ∧ w'.cell? ⟨gV, oV + m * 5, none⟩ = some (.int .i64 y.n) ∧ w'.cell? ⟨gV, oV + m * 5 + 1, none⟩ = some (.int .i64 y.lv) ∧ w'.cell? ⟨gV, oV + m * 5 + 2, none⟩ = some (.int .i64 y.sz) ∧ w'.cell? ⟨gV, oV + m * 5 + 3, none⟩ = some (.string y.f) ∧ w'.cell? ⟨gV, oV + m * 5 + 4, none⟩ = some (.string y.l)) (first | go_keep | exact ⟨s0, s1, s2, s3, s4, s5, s6, s7, s8, s9⟩) (first | (go_at_call 137; (with_reducible refine (CB.out _).mono ?_); rintro _ wy ⟨rfl, hby⟩; have s0 := (hby.cell (p := ⟨b, off + i * 5, none⟩) hbw).trans q0; have s1 := (hby.cell (p := ⟨b, off + i * 5 + 1, none⟩) hbw).trans q1; have s2 := (hby.cell (p := ⟨b, off + i * 5 + 2, none⟩) hbw).trans q2; have s3 := (hby.cell (p := ⟨b, off + i * 5 + 3, none⟩) hbw).trans q3; have s4 := (hby.cell (p := ⟨b, off + i * 5 + 4, none⟩) hbw).trans q4; have s5 := (hby.cell (p := ⟨gV, oV + m * 5, none⟩) hgV).trans p0; have s6 := (hby.cell (p := ⟨gV, oV + m * 5 + 1, none⟩) hgV).trans p1; have s7 := (hby.cell (p := ⟨gV, oV + m * 5 + 2, none⟩) hgV).trans p2; have s8 := (hby.cell (p := ⟨gV, oV + m * 5 + 3, none⟩) hgV).trans p3; have s9 := (hby.cell (p := ⟨gV, oV + m * 5 + 4, none⟩) hgV).trans p4) | fail)
            have HBY := Lib.hid (show Below w1.heap.size w1 wy from HBQ.out.drew.trans (hby.mono HBQ.out.size))
            clear hby s0 s1 s2 s3 s4 s5 s6 s7 s8 s9
            cases hly : lessT ⟨n1, l1, z1, f1, g1⟩ y with
            | true =>
              rw [hly] at HPS
              go_wp2_with fail
              go_meet
              exact ⟨true, rfl, Lib.hid (fun _ => ⟨by omega, by have h := HPS.out; simpa using h⟩), Lib.hid (fun h => by cases h), HBY⟩
            | false =>
              rw [hly] at HPS
              go_wp2_with fail
              go_meet
              exact ⟨false, rfl, Lib.hid (fun h => by cases h), Lib.hid (fun _ => by have h := HPS.out; simpa using h), HBY⟩
        case rest =>
          obtain ⟨cc, rfl, HC1, HC2, HBC⟩ := hcut
          cases cc with
          | true =>
            obtain ⟨hk0, hkp⟩ := HC1.out (by first | rfl | trivial)
            have HKP := Lib.hid hkp
            clear hkp HC1 HC2
            go_wp2_with fail
            go_roundw
            case rel => exact ⟨k - 1, by go_num, by omega, HKP, HBC⟩
            case measure => simp [intOf]; omega
          | false =>
            have hkp := HC2.out (by first | rfl | trivial)
            clear HC1 HC2 HP
            have HBT := Lib.hid (show Below w.heap.size w wc from HBL.out.trans (HBC.out.mono HBL.out.size))
            obtain ⟨hbt, y0, y1, y2, y3, y4⟩ := HQ.out wc HBC.out
            obtain ⟨P, hP⟩ : ∃ P, out.take k = P := ⟨_, rfl⟩
            obtain ⟨Q, hQ⟩ : ∃ Q, out.drop k = Q := ⟨_, rfl⟩
            have hPl : P.length = k := by rw [← hP, List.length_take]; omega
            have hQl : Q.length = out.length - k := by rw [← hQ, List.length_drop]
            have HCS := Lib.hid (show cellsT out = cellsT P ++ cellsT Q by rw [← hP, ← hQ]; exact cellsT_split out k)
            have HIN := Lib.hid (show insT out ⟨n1, l1, z1, f1, g1⟩ = P ++ ⟨n1, l1, z1, f1, g1⟩ :: Q by unfold insT; rw [hkp, hP, hQ])
            have HLN := Lib.hid (show (insT out ⟨n1, l1, z1, f1, g1⟩).length = out.length + 1 by rw [HIN.out, List.length_append, List.length_cons, hPl, hQl]; omega)
            have HCN := Lib.hid (show cellsT (insT out ⟨n1, l1, z1, f1, g1⟩) = cellsT P ++ [.int .i64 n1, .int .i64 l1, .int .i64 z1, .string f1, .string g1] ++ cellsT Q by rw [HIN.out, cellsT_append]; simp [cellsT, Tb.cells])
            have HNE := Lib.hid (show ordT (ts.take (i + 1)) ≠ [] by rw [HNX.out, HIN.out]; simp)
            have HRT := Lib.hid (show RowB wc (.slice aV out.length cV) out from Row.kept HR.out (fun q hq => HBC.out.block q (Row.lt HR.out q hq)))
            obtain ⟨wt, hwt⟩ : ∃ wt, wt = wc := ⟨wc, rfl⟩
            subst hwt
            clear hP hQ hkp HIN
            go_upto_region 8 with fail
            have hkl : (k : Int) ≤ (out.length : Int) := by omega
            rcases HRT.out.2 with ⟨h0, -⟩ | ⟨g, cp, cur, hsome, hgg, hlc', hcm', -, -⟩
            · have ho0 : out = [] := List.eq_nil_of_length_eq_zero h0
              have hv := HV0.out ho0
              subst ho0
              simp only [Value.slice.injEq] at hv
              obtain ⟨rfl, -, rfl⟩ := hv
              obtain rfl : k = 0 := by simpa using hk
              have HS1 := Lib.hid (show ∀ W', Below wt.heap.size wt W' → Src Tryz.prog 5 23 (.slice none 0 0) 0 (cellsT P) W' from fun W' _ => by rw [List.eq_nil_of_length_eq_zero hPl]; exact Src.ofNil _ Tryz.underlying23 0)
              have HS3 := Lib.hid (show ∀ W', Below wt.heap.size wt W' → Src Tryz.prog 5 23 (.slice none 0 0) 0 (cellsT Q) W' from fun W' _ => by rw [List.eq_nil_of_length_eq_zero (l := Q) (by simpa using hQl)]; exact Src.ofNil _ Tryz.underlying23 0)
              have hP0 : P = [] := List.eq_nil_of_length_eq_zero hPl
              subst hP0
              clear h0 hPl hQl HS1
              have HSX := Lib.hid (show Src Tryz.prog 5 23 (.slice (some ⟨wt.heap.size, 0, none⟩) 1 1) 1 [.int .i64 n1, .int .i64 l1, .int .i64 z1, .string f1, .string g1] (wt.alloc (.cells #[.int .i64 n1, .int .i64 l1, .int .i64 z1, .string f1, .string g1] 80)).drew from srcT_at ⟨n1, l1, z1, f1, g1⟩ (new_block wt (.cells #[.int .i64 n1, .int .i64 l1, .int .i64 z1, .string f1, .string g1] 80) rfl))
              simp only [List.length_nil] at hkl ⊢
              have HBa := Lib.hid (show 0 + 0 ≤ maxLen by unfold maxLen; omega)
              have HBb := Lib.hid (show (0 + 0) * 56 ≤ 140737488355328 by omega)
              have HBc := Lib.hid (show 0 + 1 ≤ maxLen by unfold maxLen; omega)
              have HBd := Lib.hid (show (0 + 1) * 56 ≤ 140737488355328 by omega)
              have HBe := Lib.hid (show 0 + 1 + 0 ≤ maxLen by unfold maxLen; omega)
              have HBf := Lib.hid (show (0 + 1 + 0) * 56 ≤ 140737488355328 by omega)
              go_region_law (first | (refine step_append_row _ rfl (.tmp 33) (.tmp 38) 23 23 rfl 80 i0 _ 5 56 Tryz.underlying23 hi0 hz0 hzs hzb rfl (.slice none 0 0) 0 [] (by simp [Act.eval]) (row_nil _ _ _) _ (by simp [Act.eval]) 1 [.int .i64 n1, .int .i64 l1, .int .i64 z1, .string f1, .string g1] HSX.out HBc.out HBd.out ?_; intro v2 w4 hrow2 hgrow2 hob2; have hB2 : Below wt.heap.size wt w4 := (by (first | exact below_rowT (((Below.refl _ _).drew).alloc (Nat.le_refl _) _) (Nat.le_refl _) hgrow2 (fun b hb => none_neT hb) | exact below_rowT (((Below.refl _ _).alloc (Nat.le_refl _) _).drew) (Nat.le_refl _) hgrow2 (fun b hb => none_neT hb))); have hv2 : ∀ b, ob v2 = some b → wt.heap.size ≤ b := fun b hb => ob_nextT hob2 (by simp) (fun b hb => none_neT hb) b hb) | (refine step_append_row _ rfl (.tmp 39) (.tmp 42) 23 23 rfl 80 i0 _ 5 56 Tryz.underlying23 hi0 hz0 hzs hzb rfl v2 (0 + 1) ([] ++ [.int .i64 n1, .int .i64 l1, .int .i64 z1, .string f1, .string g1]) (by simp [Act.eval]) hrow2 _ (by simp [Act.eval]) 0 (cellsT Q) (HS3.out _ hB2) HBe.out HBf.out ?_; intro v3 w5 hrow3 hgrow3 hob3; have hB3 : Below wt.heap.size wt w5 := below_rowT hB2 (Nat.le_refl _) hgrow3 hv2; have hv3 : ∀ b, ob v3 = some b → wt.heap.size ≤ b := fun b hb => ob_nextT hob3 hB2.size hv2 b hb) | fail)
              all_goals
                have HR3 := Lib.hid (show RowB w5 v3 (ordT (ts.take (i + 1))) by
                  unfold RowB
                  rw [HNX.out, HLN.out, HCN.out]
                  rw [show 0 + 1 + 0 = ([] : List Tb).length + 1 by omega] at hrow3
                  exact hrow3)
                have HOB3 := Lib.hid (show ∀ k, ob v3 = some k → w.heap.size ≤ k from fun k hk => Nat.le_trans HBT.out.size (hv3 k hk))
                have HB3 := Lib.hid (show Below w.heap.size w w5 from HBT.out.trans (hB3.mono HBT.out.size))
                clear hrow2 hgrow2 hob2 hrow3 hgrow3 hob3
              all_goals simp only [List.getElem_toArray, List.getElem_cons_succ, List.getElem_cons_zero, Act.put, List.setIfInBounds_toArray, List.set_cons_zero, List.set_cons_succ]
              all_goals go_wp2_with fail
              all_goals go_roundw
              all_goals first
                | exact ⟨i + 1, v3, rfl, by go_num, by omega, HR3, Lib.hid (fun h => absurd h HNE.out), HOB3, HB3⟩
                | (simp [intOf]; omega)
            · simp only [Value.slice.injEq] at hsome
              obtain ⟨rfl, -, rfl⟩ := hsome
              have hgt : g < wt.heap.size := (Array.getElem?_eq_some_iff.1 hgg).1
              have HRC := Lib.hid (show ∀ W', Below wt.heap.size wt W' → ∀ j u, (cellsT out)[j]? = some u → W'.cell? ⟨g, j, none⟩ = some u from fun W' hb j u hu => by
                have := Row.cell HRT.out g 0 _ rfl j u hu
                rw [Nat.zero_add] at this
                exact (hb.cell (p := ⟨g, j, none⟩) hgt).trans this)
              generalize cp + 1 = cap at *
              have hkc : (k : Int) ≤ (cap : Int) := by omega
              have hkc2 : k ≤ cap := by omega
              have HS1 := Lib.hid (show ∀ W', Below wt.heap.size wt W' → Src Tryz.prog 5 23 (.slice (some ⟨g, 0, none⟩) k cap) k (cellsT P) W' from fun W' hb => by
                have := srcT_part (w := W') (g := g) (o := 0) P cap (fun j u hu => by
                  rw [Nat.zero_add]
                  refine HRC.out W' hb j u ?_
                  rw [HCS.out, List.getElem?_append_left (List.getElem?_eq_some_iff.1 hu).1]
                  exact hu)
                rw [hPl] at this
                exact this)
              have hcap9 : cap ≤ 9223372036854775807 := by unfold maxLen at hcm'; omega
              by_cases hck : cap = k
              · have hif : (if cap = k then (some ⟨g, 0, none⟩ : Option Addr) else some ⟨g, k * 5, none⟩) = some ⟨g, 0, none⟩ := if_pos hck
                have hq0 : out.length - k = 0 := by omega
                have HS3 := Lib.hid (show ∀ (oo : Nat) W', Below wt.heap.size wt W' → Src Tryz.prog 5 23 (.slice (some ⟨g, oo, none⟩) (out.length - k) (cap - k)) (out.length - k) (cellsT Q) W' from fun oo W' _ => by
                  rw [hq0, List.eq_nil_of_length_eq_zero (l := Q) (by omega)]
                  exact Src.ofSlice (P := Tryz.prog) _ (size := 5) Tryz.underlying23 ⟨g, oo, none⟩ 0 _ _ rfl (fun j u hu => by cases hu) (by simp [cellsT]))
                clear hck hq0 hPl hQl
                have HBa := Lib.hid (show 0 + k ≤ maxLen by unfold maxLen; omega)
                have HBb := Lib.hid (show (0 + k) * 56 ≤ 140737488355328 by omega)
                have HBc := Lib.hid (show k + 1 ≤ maxLen by unfold maxLen; omega)
                have HBd := Lib.hid (show (k + 1) * 56 ≤ 140737488355328 by omega)
                have HBe := Lib.hid (show k + 1 + (out.length - k) ≤ maxLen by unfold maxLen; omega)
                have HBf := Lib.hid (show (k + 1 + (out.length - k)) * 56 ≤ 140737488355328 by omega)
                go_region_law (first | (refine step_append_row _ rfl (.const (.slice none 0 0)) (.tmp 32) 23 23 rfl 80 i0 _ 5 56 Tryz.underlying23 hi0 hz0 hzs hzb rfl (.slice none 0 0) 0 [] rfl (row_nil _ _ _) _ (by simp [Act.eval, Act.put]) k (cellsT P) (HS1.out _ ((Below.refl _ _).drew)) HBa.out HBb.out ?_; intro v1 w3 hrow1 hgrow1 hob1; have hB1 : Below wt.heap.size wt w3 := below_rowT ((Below.refl _ _).drew) (Nat.le_refl _) hgrow1 (fun b hb => none_neT hb); have hv1 : ∀ b, ob v1 = some b → wt.heap.size ≤ b := fun b hb => ob_nextT hob1 (Nat.le_refl _) (fun b hb => none_neT hb) b hb; rw [Nat.zero_add, List.nil_append] at hrow1; have fc0 := (hB1.cell (p := ⟨b, off + i * 5, none⟩) hbt).trans y0; have fc1 := (hB1.cell (p := ⟨b, off + i * 5 + 1, none⟩) hbt).trans y1; have fc2 := (hB1.cell (p := ⟨b, off + i * 5 + 2, none⟩) hbt).trans y2; have fc3 := (hB1.cell (p := ⟨b, off + i * 5 + 3, none⟩) hbt).trans y3; have fc4 := (hB1.cell (p := ⟨b, off + i * 5 + 4, none⟩) hbt).trans y4) | (refine step_append_row _ rfl (.const (.slice none 0 0)) (.tmp 32) 23 23 rfl 80 i0 _ 5 56 Tryz.underlying23 hi0 hz0 hzs hzb rfl (.slice none 0 0) 0 [] rfl (row_nil _ _ _) _ (by simp [Act.eval]) k (cellsT P) (HS1.out _ (((Below.refl _ _).drew).alloc (Nat.le_refl _) _)) HBa.out HBb.out ?_; intro v1 w3 hrow1 hgrow1 hob1; have hB1 : Below wt.heap.size wt w3 := below_rowT (((Below.refl _ _).drew).alloc (Nat.le_refl _) _) (Nat.le_refl _) hgrow1 (fun b hb => none_neT hb); have hv1 : ∀ b, ob v1 = some b → wt.heap.size ≤ b := fun b hb => ob_nextT hob1 (by simp) (fun b hb => none_neT hb) b hb; rw [Nat.zero_add, List.nil_append] at hrow1; have hsx := (hgrow1.block wt.heap.size (by simp) (fun e => none_neT e.symm)).trans (new_block _ _ (by simp))) | (refine step_append_row _ rfl (.tmp 33) (.tmp 38) 23 23 rfl 80 i0 _ 5 56 Tryz.underlying23 hi0 hz0 hzs hzb rfl v1 k (cellsT P) (by simp [Act.eval]) (rowT_below hrow1 ((Below.refl _ _).alloc (Nat.le_refl _) _)) _ (by simp [Act.eval]) 1 [.int .i64 n1, .int .i64 l1, .int .i64 z1, .string f1, .string g1] (srcT_new ⟨n1, l1, z1, f1, g1⟩ _) HBc.out HBd.out ?_; intro v2 w4 hrow2 hgrow2 hob2; have hB2 : Below wt.heap.size wt w4 := below_rowT (hB1.alloc hB1.size _) (Nat.le_refl _) hgrow2 hv1; have hv2 : ∀ b, ob v2 = some b → wt.heap.size ≤ b := fun b hb => ob_nextT hob2 (by have := hB1.size; simp; omega) hv1 b hb) | (refine step_append_row _ rfl (.tmp 33) (.tmp 38) 23 23 rfl 80 i0 _ 5 56 Tryz.underlying23 hi0 hz0 hzs hzb rfl v1 k (cellsT P) (by simp [Act.eval]) hrow1 _ (by simp [Act.eval]) 1 [.int .i64 n1, .int .i64 l1, .int .i64 z1, .string f1, .string g1] (srcT_at ⟨n1, l1, z1, f1, g1⟩ hsx) HBc.out HBd.out ?_; intro v2 w4 hrow2 hgrow2 hob2; have hB2 : Below wt.heap.size wt w4 := below_rowT hB1 (Nat.le_refl _) hgrow2 hv1; have hv2 : ∀ b, ob v2 = some b → wt.heap.size ≤ b := fun b hb => ob_nextT hob2 hB1.size hv1 b hb) | (refine step_append_row _ rfl (.tmp 39) (.tmp 42) 23 23 rfl 80 i0 _ 5 56 Tryz.underlying23 hi0 hz0 hzs hzb rfl v2 (k + 1) (cellsT P ++ [.int .i64 n1, .int .i64 l1, .int .i64 z1, .string f1, .string g1]) (by simp [Act.eval]) hrow2 _ (by simp [Act.eval]) (out.length - k) (cellsT Q) (HS3.out 0 _ hB2) HBe.out HBf.out ?_; intro v3 w5 hrow3 hgrow3 hob3; have hB3 : Below wt.heap.size wt w5 := below_rowT hB2 (Nat.le_refl _) hgrow3 hv2; have hv3 : ∀ b, ob v3 = some b → wt.heap.size ≤ b := fun b hb => ob_nextT hob3 hB2.size hv2 b hb) | fail)
                all_goals
                  have HR3 := Lib.hid (show RowB w5 v3 (ordT (ts.take (i + 1))) by
                    unfold RowB
                    rw [HNX.out, HLN.out, HCN.out]
                    rw [show k + 1 + (out.length - k) = out.length + 1 by omega] at hrow3
                    exact hrow3)
                  have HOB3 := Lib.hid (show ∀ k, ob v3 = some k → w.heap.size ≤ k from fun k hk => Nat.le_trans HBT.out.size (hv3 k hk))
                  have HB3 := Lib.hid (show Below w.heap.size w w5 from HBT.out.trans (hB3.mono HBT.out.size))
                  clear hrow1 hgrow1 hob1 hrow2 hgrow2 hob2 hrow3 hgrow3 hob3
                all_goals simp only [List.getElem_toArray, List.getElem_cons_succ, List.getElem_cons_zero, Act.put, List.setIfInBounds_toArray, List.set_cons_zero, List.set_cons_succ]
                all_goals go_wp2_with fail
                all_goals go_roundw
                all_goals first
                  | exact ⟨i + 1, v3, rfl, by go_num, by omega, HR3, Lib.hid (fun h => absurd h HNE.out), HOB3, HB3⟩
                  | (simp [intOf]; omega)
              · have HS3 := Lib.hid (show ∀ W', Below wt.heap.size wt W' → Src Tryz.prog 5 23 (.slice (some ⟨g, k * 5, none⟩) (out.length - k) (cap - k)) (out.length - k) (cellsT Q) W' from fun W' hb => by
                  have := srcT_part (w := W') (g := g) (o := k * 5) Q (cap - k) (fun j u hu => by
                    refine HRC.out W' hb (k * 5 + j) u ?_
                    rw [HCS.out, List.getElem?_append_right (by rw [cellsT_len, hPl]; omega), cellsT_len, hPl, show k * 5 + j - k * 5 = j by omega]
                    exact hu)
                  rw [hQl] at this
                  exact this)
                clear hPl hQl
                have HBa := Lib.hid (show 0 + k ≤ maxLen by unfold maxLen; omega)
                have HBb := Lib.hid (show (0 + k) * 56 ≤ 140737488355328 by omega)
                have HBc := Lib.hid (show k + 1 ≤ maxLen by unfold maxLen; omega)
                have HBd := Lib.hid (show (k + 1) * 56 ≤ 140737488355328 by omega)
                have HBe := Lib.hid (show k + 1 + (out.length - k) ≤ maxLen by unfold maxLen; omega)
                have HBf := Lib.hid (show (k + 1 + (out.length - k)) * 56 ≤ 140737488355328 by omega)
                go_region_law (first | (refine step_append_row _ rfl (.const (.slice none 0 0)) (.tmp 32) 23 23 rfl 80 i0 _ 5 56 Tryz.underlying23 hi0 hz0 hzs hzb rfl (.slice none 0 0) 0 [] rfl (row_nil _ _ _) _ (by simp [Act.eval, Act.put]) k (cellsT P) (HS1.out _ ((Below.refl _ _).drew)) HBa.out HBb.out ?_; intro v1 w3 hrow1 hgrow1 hob1; have hB1 : Below wt.heap.size wt w3 := below_rowT ((Below.refl _ _).drew) (Nat.le_refl _) hgrow1 (fun b hb => none_neT hb); have hv1 : ∀ b, ob v1 = some b → wt.heap.size ≤ b := fun b hb => ob_nextT hob1 (Nat.le_refl _) (fun b hb => none_neT hb) b hb; rw [Nat.zero_add, List.nil_append] at hrow1; have fc0 := (hB1.cell (p := ⟨b, off + i * 5, none⟩) hbt).trans y0; have fc1 := (hB1.cell (p := ⟨b, off + i * 5 + 1, none⟩) hbt).trans y1; have fc2 := (hB1.cell (p := ⟨b, off + i * 5 + 2, none⟩) hbt).trans y2; have fc3 := (hB1.cell (p := ⟨b, off + i * 5 + 3, none⟩) hbt).trans y3; have fc4 := (hB1.cell (p := ⟨b, off + i * 5 + 4, none⟩) hbt).trans y4) | (refine step_append_row _ rfl (.const (.slice none 0 0)) (.tmp 32) 23 23 rfl 80 i0 _ 5 56 Tryz.underlying23 hi0 hz0 hzs hzb rfl (.slice none 0 0) 0 [] rfl (row_nil _ _ _) _ (by simp [Act.eval]) k (cellsT P) (HS1.out _ (((Below.refl _ _).drew).alloc (Nat.le_refl _) _)) HBa.out HBb.out ?_; intro v1 w3 hrow1 hgrow1 hob1; have hB1 : Below wt.heap.size wt w3 := below_rowT (((Below.refl _ _).drew).alloc (Nat.le_refl _) _) (Nat.le_refl _) hgrow1 (fun b hb => none_neT hb); have hv1 : ∀ b, ob v1 = some b → wt.heap.size ≤ b := fun b hb => ob_nextT hob1 (by simp) (fun b hb => none_neT hb) b hb; rw [Nat.zero_add, List.nil_append] at hrow1; have hsx := (hgrow1.block wt.heap.size (by simp) (fun e => none_neT e.symm)).trans (new_block _ _ (by simp))) | (refine step_append_row _ rfl (.tmp 33) (.tmp 38) 23 23 rfl 80 i0 _ 5 56 Tryz.underlying23 hi0 hz0 hzs hzb rfl v1 k (cellsT P) (by simp [Act.eval]) (rowT_below hrow1 ((Below.refl _ _).alloc (Nat.le_refl _) _)) _ (by simp [Act.eval]) 1 [.int .i64 n1, .int .i64 l1, .int .i64 z1, .string f1, .string g1] (srcT_new ⟨n1, l1, z1, f1, g1⟩ _) HBc.out HBd.out ?_; intro v2 w4 hrow2 hgrow2 hob2; have hB2 : Below wt.heap.size wt w4 := below_rowT (hB1.alloc hB1.size _) (Nat.le_refl _) hgrow2 hv1; have hv2 : ∀ b, ob v2 = some b → wt.heap.size ≤ b := fun b hb => ob_nextT hob2 (by have := hB1.size; simp; omega) hv1 b hb) | (refine step_append_row _ rfl (.tmp 33) (.tmp 38) 23 23 rfl 80 i0 _ 5 56 Tryz.underlying23 hi0 hz0 hzs hzb rfl v1 k (cellsT P) (by simp [Act.eval]) hrow1 _ (by simp [Act.eval]) 1 [.int .i64 n1, .int .i64 l1, .int .i64 z1, .string f1, .string g1] (srcT_at ⟨n1, l1, z1, f1, g1⟩ hsx) HBc.out HBd.out ?_; intro v2 w4 hrow2 hgrow2 hob2; have hB2 : Below wt.heap.size wt w4 := below_rowT hB1 (Nat.le_refl _) hgrow2 hv1; have hv2 : ∀ b, ob v2 = some b → wt.heap.size ≤ b := fun b hb => ob_nextT hob2 hB1.size hv1 b hb) | (refine step_append_row _ rfl (.tmp 39) (.tmp 42) 23 23 rfl 80 i0 _ 5 56 Tryz.underlying23 hi0 hz0 hzs hzb rfl v2 (k + 1) (cellsT P ++ [.int .i64 n1, .int .i64 l1, .int .i64 z1, .string f1, .string g1]) (by simp [Act.eval]) hrow2 _ (by simp [Act.eval]) (out.length - k) (cellsT Q) (HS3.out _ hB2) HBe.out HBf.out ?_; intro v3 w5 hrow3 hgrow3 hob3; have hB3 : Below wt.heap.size wt w5 := below_rowT hB2 (Nat.le_refl _) hgrow3 hv2; have hv3 : ∀ b, ob v3 = some b → wt.heap.size ≤ b := fun b hb => ob_nextT hob3 hB2.size hv2 b hb) | fail)
                all_goals
                  have HR3 := Lib.hid (show RowB w5 v3 (ordT (ts.take (i + 1))) by
                    unfold RowB
                    rw [HNX.out, HLN.out, HCN.out]
                    rw [show k + 1 + (out.length - k) = out.length + 1 by omega] at hrow3
                    exact hrow3)
                  have HOB3 := Lib.hid (show ∀ k, ob v3 = some k → w.heap.size ≤ k from fun k hk => Nat.le_trans HBT.out.size (hv3 k hk))
                  have HB3 := Lib.hid (show Below w.heap.size w w5 from HBT.out.trans (hB3.mono HBT.out.size))
                  clear hrow1 hgrow1 hob1 hrow2 hgrow2 hob2 hrow3 hgrow3 hob3
                all_goals simp only [List.getElem_toArray, List.getElem_cons_succ, List.getElem_cons_zero, Act.put, List.setIfInBounds_toArray, List.set_cons_zero, List.set_cons_succ]
                all_goals go_wp2_with fail
                all_goals go_roundw
                all_goals first
                  | exact ⟨i + 1, v3, rfl, by go_num, by omega, HR3, Lib.hid (fun h => absurd h HNE.out), HOB3, HB3⟩
                  | (simp [intOf]; omega)
    · obtain rfl : i = ts.length := by omega
      have hd : decide ((ts.length : Int) < (ts.length : Int)) = false := by simp
      rw [List.take_length] at HR
      obtain ⟨aV, cV, rfl⟩ := HR.out.short
      go_wp2_with fail
      go_ret
      exact ⟨_, rfl, HR.out, HOB.out, HBL.out⟩
end Go.Proofs.YtmcgfafkggannaaGreat

namespace Go.Proofs.YtmcgfafkggannaaGreat
open Go.RowKit Go.Shelf

/-- An edit of the document's own. -/
def BoxRE (B : Nat) (log next : Int) (seq : Nat) (a d : Value) (w : World) : Prop := w.heap[B]? = some (.cells #[.int .i64 log, .int .i64 next, .int .u64 (seq : Int), a, d] 55)
section
variable {B : Nat} {log next : Int} {seq : Nat} {a d : Value} {w w' : World}
theorem BoxRE.lt (h : BoxRE B log next seq a d w) : B < w.heap.size := (Array.getElem?_eq_some_iff.1 h).1
theorem BoxRE.c0 (h : BoxRE B log next seq a d w) : w.cell? ⟨B, 0, none⟩ = some (.int .i64 log) := by unfold World.cell?; rw [show w.heap[B]? = _ from h]; rfl
theorem BoxRE.c1 (h : BoxRE B log next seq a d w) : w.cell? ⟨B, 1, none⟩ = some (.int .i64 next) := by unfold World.cell?; rw [show w.heap[B]? = _ from h]; rfl
theorem BoxRE.c2 (h : BoxRE B log next seq a d w) : w.cell? ⟨B, 2, none⟩ = some (.int .u64 (seq : Int)) := by unfold World.cell?; rw [show w.heap[B]? = _ from h]; rfl
theorem BoxRE.c3 (h : BoxRE B log next seq a d w) : w.cell? ⟨B, 3, none⟩ = some a := by unfold World.cell?; rw [show w.heap[B]? = _ from h]; rfl
theorem BoxRE.c4 (h : BoxRE B log next seq a d w) : w.cell? ⟨B, 4, none⟩ = some d := by unfold World.cell?; rw [show w.heap[B]? = _ from h]; rfl
theorem BoxRE.f (h : BoxRE B log next seq a d w) (j : Nat) : w.frozen? ⟨B, j, none⟩ = false := by unfold World.frozen?; rw [show w.heap[B]? = _ from h]; simp
theorem BoxRE.below (h : BoxRE B log next seq a d w) (hb : Below w.heap.size w w') : BoxRE B log next seq a d w' := (hb.block B h.lt).trans h
end
set_option maxHeartbeats 4000000 in
set_option maxRecDepth 100000 in
theorem plainE_any (log next : Int) (seq : Nat) (a : Option Addr) (n c : Nat) (ad : Option Addr) (nd cd : Nat) (w : World) :
    Calls Tryz.prog 11 #[.agg #[.int .i64 log, .int .i64 next, .int .u64 (seq : Int), .slice a n c, .slice ad nd cd]] w fun x w' => x = .returned (.agg #[.int .i64 log, .int .i64 next, .int .u64 (seq : Int), .slice a n c, .slice ad nd cd]) ∧ Below w.heap.size w w' := by
  obtain ⟨W1, hW1⟩ : ∃ W1, (w.alloc (.cells #[.int .i64 log, .int .i64 next, .int .u64 (seq : Int), .slice a n c, .slice ad nd cd] 28)).alloc (.cells #[.int .i64 0, .int .i64 0, .int .u64 0, .slice none 0 0, .slice none 0 0] 55) = W1 := ⟨_, rfl⟩
  have b1 : Below w.heap.size w W1 := by rw [← hW1]; exact ((Below.refl _ _).alloc (Nat.le_refl _) _).alloc (by simp) _
  have x1 : BoxEd w.heap.size log next seq (.slice a n c) (.slice ad nd cd) W1 := by rw [← hW1]; exact (Below.heap_alloc _ _ _ (by simp)).trans (new_block _ _ rfl)
  have z1 : BoxRE (w.heap.size + 1) 0 0 0 (.slice none 0 0) (.slice none 0 0) W1 := by rw [← hW1]; exact new_block _ _ (by simp)
  have p0 := x1.c0
  have p1 := x1.c1
  have p2 := x1.c2
  have p3 := x1.c3
  have p4 := x1.c4
  have g0 := z1.c0
  have g1 := z1.c1
  have g2 := z1.c2
  have g3 := z1.c3
  have g4 := z1.c4
  have f0 := z1.f 0
  have f1 := z1.f 1
  have f2 := z1.f 2
  have f3 := z1.f 3
  have f4 := z1.f 4
  have HB := Lib.hid b1
  clear b1 x1 z1
  go_enter Tryz.func11, Tryz.ntmps11
  go_upto_region 1 with fail
  try rw [hW1]
  clear hW1
  go_wp2_with fail
  refine bodyPost_ret (by simp [results, Tryz.results11, go_sem, g0, g1, g2, g3, g4]; try rfl) rfl ?_
  exact ⟨rfl, below_set5 HB.out _ (by omega) _ _ _ _ _⟩
set_option maxHeartbeats 4000000 in
set_option maxRecDepth 100000 in
theorem rwhole_any (log next : Int) (seq : Nat) (a : Option Addr) (n c : Nat) (w : World) :
    Calls Tryz.prog 22 #[.agg #[.int .i64 log, .int .i64 next, .int .u64 (seq : Int), .slice a n c]] w fun x w' => x = .returned (.agg #[.int .i64 log, .int .i64 next, .int .u64 (seq : Int), .slice a n c, .slice none 0 0]) ∧ Below w.heap.size w w' := by
  obtain ⟨W1, hW1⟩ : ∃ W1, (w.alloc (.cells #[.int .i64 log, .int .i64 next, .int .u64 (seq : Int), .slice a n c] 63)).alloc (.cells #[.int .i64 0, .int .i64 0, .int .u64 0, .slice none 0 0, .slice none 0 0] 55) = W1 := ⟨_, rfl⟩
  have b1 : Below w.heap.size w W1 := by rw [← hW1]; exact ((Below.refl _ _).alloc (Nat.le_refl _) _).alloc (by simp) _
  have x1 : BoxR w.heap.size log next seq (.slice a n c) W1 := by rw [← hW1]; exact (Below.heap_alloc _ _ _ (by simp)).trans (new_block _ _ rfl)
  have z1 : BoxRE (w.heap.size + 1) 0 0 0 (.slice none 0 0) (.slice none 0 0) W1 := by rw [← hW1]; exact new_block _ _ (by simp)
  have p0 := x1.c0
  have p1 := x1.c1
  have p2 := x1.c2
  have p3 := x1.c3
  have g0 := z1.c0
  have g1 := z1.c1
  have g2 := z1.c2
  have g3 := z1.c3
  have g4 := z1.c4
  have f0 := z1.f 0
  have f1 := z1.f 1
  have f2 := z1.f 2
  have f3 := z1.f 3
  have f4 := z1.f 4
  have HB := Lib.hid b1
  clear b1 x1 z1
  go_enter Tryz.func22, Tryz.ntmps22
  go_upto_region 1 with fail
  try rw [hW1]
  clear hW1
  go_wp2_with fail
  refine bodyPost_ret (by simp [results, Tryz.results22, go_sem, g0, g1, g2, g3, g4]; try rfl) rfl ?_
  exact ⟨rfl, below_set5 HB.out _ (by omega) _ _ _ _ _⟩
set_option maxHeartbeats 4000000 in
set_option maxRecDepth 100000 in
theorem sameEd_yes (log next : Int) (seq : Nat) (u v : Value) (ts : List Tb) (ud vd : Value) (ks : List Int) (w : World) (hU : TbsV w u ts) (hV : TbsV w v ts) (hl : ts.length ≤ 100000) (hUd : IntsV w ud ks) (hVd : IntsV w vd ks) (hld : ks.length ≤ 100000) :
    Calls Tryz.prog 20 #[.agg #[.int .i64 log, .int .i64 next, .int .u64 (seq : Int), u, ud], .agg #[.int .i64 log, .int .i64 next, .int .u64 (seq : Int), v, vd]] w fun x w' => x = .returned (.bool true) ∧ Below w.heap.size w w' := by
  obtain ⟨W1, hW1⟩ : ∃ W1, (w.alloc (.cells #[.int .i64 log, .int .i64 next, .int .u64 (seq : Int), u, ud] 28)).alloc (.cells #[.int .i64 log, .int .i64 next, .int .u64 (seq : Int), v, vd] 55) = W1 := ⟨_, rfl⟩
  have b1 : Below w.heap.size w W1 := by rw [← hW1]; exact ((Below.refl _ _).alloc (Nat.le_refl _) _).alloc (by simp) _
  have x1 : BoxEd w.heap.size log next seq u ud W1 := by rw [← hW1]; exact (Below.heap_alloc _ _ _ (by simp)).trans (new_block _ _ rfl)
  have z1 : BoxRE (w.heap.size + 1) log next seq v vd W1 := by rw [← hW1]; exact new_block _ _ (by simp)
  have C1 := Lib.hid (sameT_yes u v ts W1 (hU.below b1) (hV.below b1) hl)
  have HC2 := Lib.hid (fun W (h : Below W1.heap.size W1 W) => sameN_yes ud vd ks W ((hUd.below b1).below h) ((hVd.below b1).below h) hld)
  obtain ⟨a, c, rfl⟩ := hU.len
  obtain ⟨a2, c2, rfl⟩ := hV.len
  obtain ⟨a3, c3, rfl⟩ := hUd.len
  obtain ⟨a4, c4, rfl⟩ := hVd.len
  have p0 := x1.c0
  have p1 := x1.c1
  have p2 := x1.c2
  have p3 := x1.c3
  have g0 := z1.c0
  have g1 := z1.c1
  have g2 := z1.c2
  have g3 := z1.c3
  have HB := Lib.hid b1
  have HX := Lib.hid x1
  have HZ := Lib.hid z1
  clear b1 x1 z1 hU hV hUd hVd
  go_enter Tryz.func20, Tryz.ntmps20
  go_upto_region 1 with fail
  try rw [hW1]
  clear hW1
  go_wp2_with fail
  go_at_call 57
  (with_reducible refine C1.out.mono ?_)
  rintro _ w2 ⟨rfl, hb2⟩
  have C2 := Lib.hid (HC2.out w2 hb2)
  have e4 := (HX.out.below hb2).c4
  have h4 := (HZ.out.below hb2).c4
  have HB2 := Lib.hid (HB.out.trans (hb2.mono HB.out.size))
  clear p0 p1 p2 p3 g0 g1 g2 g3 hb2 C1
  go_wp2_with (go_at_call 58; (with_reducible refine C2.out.mono ?_); rintro _ w3 ⟨rfl, hb3⟩)
  go_ret
  exact ⟨rfl, HB2.out.trans (hb3.mono HB2.out.size)⟩
end Go.Proofs.YtmcgfafkggannaaGreat
