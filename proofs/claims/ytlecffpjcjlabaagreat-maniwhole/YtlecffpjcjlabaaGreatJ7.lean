/- edit's without. -/
import Derived.Test.YtlecffpjcjlabaaGreatJ6
namespace Go.Proofs.YtlecffpjcjlabaaGreat
open Go.RowKit Go.Shelf

/-- A slice of ints that can be read. -/
def IntsV (w : World) (v : Value) (ks : List Int) : Prop := (v = .slice none 0 0 ∧ ks = []) ∨ ∃ y cap, v = .slice (some y) ks.length cap ∧ ∀ j (h : j < ks.length), w.cell? (y.add j) = some (.int .i64 ks[j])
theorem IntsV.below {w w' : World} {v : Value} {ks : List Int} (h : IntsV w v ks) (hb : Below w.heap.size w w') : IntsV w' v ks := by
  rcases h with h | ⟨y, cap, rfl, hc⟩
  · exact .inl h
  · exact .inr ⟨y, cap, rfl, fun j hj => (hb.cell (p := y.add j) (World.block_lt_of_cell? w _ (hc j hj))).trans (hc j hj)⟩
theorem IntsV.len {w : World} {v : Value} {ks : List Int} (h : IntsV w v ks) : ∃ a cap, v = .slice a ks.length cap := by
  rcases h with ⟨rfl, rfl⟩ | ⟨y, cap, rfl, hc⟩
  · exact ⟨_, _, rfl⟩
  · exact ⟨_, _, rfl⟩
def intAt (ks : List Int) (i : Nat) : Int := ks.getD i 0
theorem intAt_get {ks : List Int} {i : Nat} (h : i < ks.length) : intAt ks i = ks[i] := by unfold intAt; rw [List.getD_eq_getElem?_getD, List.getElem?_eq_getElem h]; rfl
theorem IntsV.at {w : World} {a : Option Addr} {n cap : Nat} {ks : List Int} (h : IntsV w (.slice a n cap) ks) {i : Nat} (hi : i < ks.length) :
    ∃ b off, a = some ⟨b, off, none⟩ ∧ b < w.heap.size ∧ w.cell? ⟨b, off + i, none⟩ = some (.int .i64 (intAt ks i)) := by
  rcases h with ⟨-, rfl⟩ | ⟨y, c, e, hc⟩
  · simp at hi
  · cases e
    have c0 := hc i hi
    have cz := hc 0 (by omega)
    obtain ⟨b, off, spot⟩ := y
    have hs : spot = none := by simpa [Addr.add] using World.cell?_spot cz
    subst hs
    rw [add_plainT] at c0
    exact ⟨b, off, rfl, block_ltT c0, by rw [intAt_get hi]; exact c0⟩
theorem take_snocI {ks : List Int} {i : Nat} (h : i < ks.length) : ks.take (i + 1) = ks.take i ++ [intAt ks i] := by
  rw [List.take_add_one, List.getElem?_eq_getElem h, intAt_get h]; rfl
/-- What is to become of a number. -/
def fateN (ts : List Tb) (ks : List Int) (z : Int) : Int := if there ts z then (if ks.contains z then 2 else 1) else 0
def Fates (D : DataW Unit) (ts : List Tb) (ks : List Int) : Prop := ∀ z : Int, D.atKey (.int .i64 z) (.lit (.int .i64 0)) = .lit (.int .i64 (fateN ts ks z))
theorem fates_nil : Fates (.map []) [] [] := fun _ => rfl
theorem fates_there {D : DataW Unit} {ts : List Tb} (x : Tb) (hD : Maps.IsMap D) (h : Fates D ts []) : Fates (D.put (.int .i64 x.n) (.lit (.int .i64 1))) (ts ++ [x]) [] := by
  intro z
  unfold fateN
  rw [there_snoc]
  by_cases hz : z = x.n
  · subst hz
    rw [Maps.atKey_put_same hD (by trivial)]
    simp
  · rw [Maps.atKey_put_other (by simpa using hz), h z]
    have : (x.n == z) = false := by simpa using fun e => hz e.symm
    rw [this, Bool.or_false]
    rfl
theorem fates_goes {D : DataW Unit} {ts : List Tb} {ks : List Int} (k : Int) (hD : Maps.IsMap D) (h : Fates D ts ks) (hk : there ts k = true) : Fates (D.put (.int .i64 k) (.lit (.int .i64 2))) ts (ks ++ [k]) := by
  intro z
  by_cases hz : z = k
  · subst hz
    rw [Maps.atKey_put_same hD (by trivial)]
    unfold fateN
    rw [hk]
    simp
  · rw [Maps.atKey_put_other (by simpa using hz), h z]
    unfold fateN
    have e : (ks ++ [k]).contains z = ks.contains z := by simp [hz]
    rw [e]
theorem fateN_zero {ts : List Tb} {ks : List Int} {z : Int} : (fateN ts ks z == 0) = !there ts z := by
  unfold fateN
  cases there ts z
  · rfl
  · cases ks.contains z <;> rfl
theorem fateN_one {ts : List Tb} {ks : List Int} {z : Int} (h : there ts z = true) : (fateN ts ks z == 1) = !ks.contains z := by
  unfold fateN
  rw [h]
  cases ks.contains z <;> rfl
theorem leftT_snoc (ts : List Tb) (x : Tb) (ks : List Int) : leftT (ts ++ [x]) ks = leftT ts ks ++ (if ks.contains x.n then [] else [x]) := by
  unfold leftT
  rw [List.filter_append]
  congr 1
  cases h : ks.contains x.n with
  | false => rw [List.filter_cons_of_pos (by rw [h]; rfl)]; rfl
  | true => rw [List.filter_cons_of_neg (by rw [h]; simp)]; rfl
theorem mapI75 : Tryz.prog.underlying 278 = some (.map 3 3) := Tryz.underlying278
theorem there_mem {ts : List Tb} {i : Nat} (h : i < ts.length) : there ts (tabAt ts i).n = true := there_iff.2 ⟨_, by rw [tabAt_get h]; exact List.getElem_mem _, rfl⟩
theorem leftT_len (ts : List Tb) (ks : List Int) : (leftT ts ks).length ≤ ts.length := List.length_filter_le _ _
/-- What without answers. -/
def WoutV (w w' : World) (e : Ending) (ts : List Tb) (ks : List Int) : Prop :=
  (ks.all (there ts) = false ∧ e = .returned (.tuple #[.slice none 0 0, .bool false])) ∨
  (ks.all (there ts) = true ∧ ∃ v, e = .returned (.tuple #[v, .bool true]) ∧ RowB w' v (leftT ts ks) ∧ ∀ k, ob v = some k → w.heap.size ≤ k)
set_option maxHeartbeats 8000000 in
set_option maxRecDepth 100000 in
theorem without_any (v u : Value) (ts : List Tb) (ks : List Int) (w : World) (hT : TbsV w v ts) (hK : IntsV w u ks) (hl : ts.length ≤ 100000) (hl2 : ks.length ≤ 100000) (hok : ∀ t ∈ ts, t.Ok) (hok2 : ∀ k ∈ ks, -9223372036854775808 ≤ k ∧ k ≤ 9223372036854775807) :
    Calls Tryz.prog 134 #[v, u] w fun e w' => WoutV w w' e ts ks ∧ Below w.heap.size w w' := by
  obtain ⟨a, cap, rfl⟩ := hT.len
  obtain ⟨a2, cap2, rfl⟩ := hK.len
  have HT := Lib.hid hT
  have HK := Lib.hid hK
  have HOK := Lib.hid hok
  have HOK2 := Lib.hid hok2
  have hmm := @run_makeMap Tryz.prog
  clear hT hK hok hok2
  go_enter Tryz.func134, Tryz.ntmps134
  go_wp2
  go_loopw [17] (fun iv wr => ∃ (i : Nat) (D : DataW Unit), iv = .int .i64 (i : Int) ∧ i ≤ ts.length ∧ Hid (wr.ownsMap Tryz.prog 3 (plainElem Tryz.prog 3) w.heap.size i D ∧ Fates D (ts.take i) []) ∧ Hid (Below w.heap.size w wr)) (fun iv _ => ts.length - (intOf iv).toNat)
  case atStart => exact ⟨0, _, rfl, Nat.zero_le _, Lib.hid ⟨World.ownsMap_made _ _ _ _, fates_nil⟩, Lib.hid ((Below.refl _ _).alloc (Nat.le_refl _) _)⟩
  case round =>
    obtain ⟨i, D, rfl, hi, HM, HB⟩ := hrel
    by_cases hlt : i < ts.length
    · obtain ⟨b, off, rfl, hblt, hcell⟩ := (HT.out.below HB.out).at hlt
      have HKX := Lib.hid (HOK.out (tabAt ts i) (by rw [tabAt_get hlt]; exact List.getElem_mem _))
      have HTK := Lib.hid (take_snocT hlt)
      generalize tabAt ts i = x at *
      obtain ⟨n1, l1, z1, f1, g1⟩ := x
      have q0 : wr.cell? ⟨b, off + i * 5, none⟩ = some (.int .i64 n1) := hcell 0 _ rfl
      have q1 : wr.cell? ⟨b, off + i * 5 + 1, none⟩ = some (.int .i64 l1) := hcell 1 _ rfl
      have q2 : wr.cell? ⟨b, off + i * 5 + 2, none⟩ = some (.int .i64 z1) := hcell 2 _ rfl
      have q3 : wr.cell? ⟨b, off + i * 5 + 3, none⟩ = some (.string f1) := hcell 3 _ rfl
      have q4 : wr.cell? ⟨b, off + i * 5 + 4, none⟩ = some (.string g1) := hcell 4 _ rfl
      have hiI : (i : Int) < (ts.length : Int) := by omega
      have HKE := Lib.hid (show keyOf Tryz.prog 3 (.int .i64 n1) = some (.int .i64 n1) from Maps.keyOf_int_mk Tryz.underlying3 (by have h := HKX.out; unfold Tb.Ok at h; exact wf_i64T h.1.1 h.1.2))
      have HOW := Lib.hid (show ∀ o : Obj, (wr.alloc o).ownsMap Tryz.prog 3 (plainElem Tryz.prog 3) w.heap.size i D from fun o => HM.out.1.alloc o)
      have HB8 := Lib.hid (show ∀ (o : Obj) (w8 : World), (wr.alloc o).grownBy w8 (some w.heap.size) → Below w.heap.size w w8 from fun o w8 h => (HB.out.alloc HB.out.size o).trans ((turn_of_grown (F := [w.heap.size]) h (fun k hk => by cases hk; exact .inl (by simp))).below (HB.out.alloc HB.out.size o).size (fun k hk => by simp at hk; omega)))
      clear hcell
      go_wp2_with (at_mapUpdate; refine wpList_mapUpdate_own _ rfl _ _ _ 278 rfl 3 3 (Maps.int_keyed Tryz.underlying3) mapI75 (plainElem Tryz.prog 3) w.heap.size i D rfl (HOW.out _) (by unfold maxLen; omega) _ _ _ rfl rfl HKE.out _ [] (plainElem_int Tryz.underlying3 (wf_i64T (by omega) (by omega))) ?_; intro w8 hown8 hgrow8)
      go_roundw
      case rel => exact ⟨i + 1, _, by go_num, by omega, Lib.hid ⟨hown8, by rw [HTK.out]; exact fates_there ⟨n1, l1, z1, f1, g1⟩ HM.out.1.isMap HM.out.2⟩, Lib.hid (HB8.out _ _ hgrow8)⟩
      case measure => simp [intOf]; omega
    · obtain rfl : i = ts.length := by omega
      have HM0 := Lib.hid (show wr.ownsMap Tryz.prog 3 (plainElem Tryz.prog 3) w.heap.size ts.length D ∧ Fates D ts [] from ⟨HM.out.1, by have h := HM.out.2; rwa [List.take_length] at h⟩)
      have d3 : decide ((ts.length : Int) < (ts.length : Int)) = false := by simp
      clear HM
      go_wp2
      obtain ⟨wa, hwa⟩ : ∃ wa, wa = wr := ⟨_, rfl⟩
      rw [← hwa] at HM0 HB ⊢
      clear hwa
      go_loopw [27] (fun iv wr => ∃ (k : Nat) (D : DataW Unit), iv = .int .i64 (k : Int) ∧ k ≤ ks.length ∧ Hid (wr.ownsMap Tryz.prog 3 (plainElem Tryz.prog 3) w.heap.size (ts.length + k) D ∧ Fates D ts (ks.take k)) ∧ Hid ((ks.take k).all (there ts) = true) ∧ Hid (Below w.heap.size w wr)) (fun iv _ => ks.length - (intOf iv).toNat)
      case atStart => exact ⟨0, _, rfl, Nat.zero_le _, HM0, Lib.hid (by simp), HB⟩
      case round =>
        obtain ⟨k, D2, rfl, hk, HM2, HA2, HB2⟩ := hrel
        by_cases hlk : k < ks.length
        · obtain ⟨b, off, rfl, hblt, hcell⟩ := (HK.out.below HB2.out).at hlk
          have HKX := Lib.hid (HOK2.out (intAt ks k) (by rw [intAt_get hlk]; exact List.getElem_mem _))
          have HTK := Lib.hid (take_snocI hlk)
          have HMEM := Lib.hid (show intAt ks k ∈ ks by rw [intAt_get hlk]; exact List.getElem_mem _)
          generalize intAt ks k = z at *
          have hkI : (k : Int) < (ks.length : Int) := by omega
          have HKE := Lib.hid (show keyOf Tryz.prog 3 (.int .i64 z) = some (.int .i64 z) from Maps.keyOf_int_mk Tryz.underlying3 (wf_i64T HKX.out.1 HKX.out.2))
          have HCZ := Lib.hid (show ∀ c : Int, D2.atKey (.int .i64 z) (.lit (.int .i64 0)) = .lit (.int .i64 c) → (c == 0) = !there ts z from fun c hc => by
            have h1 := (HM2.out.2 z).symm.trans hc
            simp only [DataW.lit.injEq, Lit.int.injEq, true_and] at h1
            rw [← h1]
            exact fateN_zero)
          cases hth : there ts z with
          | false =>
            rw [hth] at HCZ
            have HALL := Lib.hid (show ks.all (there ts) = false by
              rw [List.all_eq_false]
              exact ⟨z, HMEM.out, by simp [hth]⟩)
            clear hth
            go_wp2_with (at_lookup; refine wpList_lookup_own_int _ rfl _ _ 278 rfl 3 3 .i64 (Maps.int_keyed Tryz.underlying3) mapI75 Tryz.underlying3 (Tryz.zeroValue3 _) w.heap.size (ts.length + k) D2 rfl HM2.out.1 _ _ rfl HKE.out ?_; intro c hat _; have hc0 : (c == 0) = true := HCZ.out c hat)
            refine bodyPost_ret (results_tmp2 rfl _ _ _) rfl ?_
            exact ⟨.inl ⟨HALL.out, rfl⟩, HB2.out⟩
          | true =>
            rw [hth] at HCZ
            have HTH := Lib.hid hth
            have HB8 := Lib.hid (show ∀ (w8 : World), wr.grownBy w8 (some w.heap.size) → Below w.heap.size w w8 from fun w8 h => HB2.out.trans ((turn_of_grown (F := [w.heap.size]) h (fun k hk => by cases hk; exact .inl (by simp))).below HB2.out.size (fun k hk => by simp at hk; omega)))
            clear hth
            go_wp2_with (first | (at_lookup; refine wpList_lookup_own_int _ rfl _ _ 278 rfl 3 3 .i64 (Maps.int_keyed Tryz.underlying3) mapI75 Tryz.underlying3 (Tryz.zeroValue3 _) w.heap.size (ts.length + k) D2 rfl HM2.out.1 _ _ rfl HKE.out ?_; intro c hat _; have hc0 : (c == 0) = false := HCZ.out c hat) | (at_mapUpdate; refine wpList_mapUpdate_own _ rfl _ _ _ 278 rfl 3 3 (Maps.int_keyed Tryz.underlying3) mapI75 (plainElem Tryz.prog 3) w.heap.size (ts.length + k) D2 rfl HM2.out.1 (by unfold maxLen; omega) _ _ _ rfl rfl HKE.out _ [] (plainElem_int Tryz.underlying3 (wf_i64T (by omega) (by omega))) ?_; intro w8 hown8 hgrow8))
            go_roundw
            case rel =>
              refine ⟨k + 1, _, by go_num, by omega, Lib.hid ⟨hown8, by rw [HTK.out]; exact fates_goes z HM2.out.1.isMap HM2.out.2 HTH.out⟩, Lib.hid ?_, Lib.hid (HB8.out _ hgrow8)⟩
              rw [HTK.out, List.all_append, HA2.out]
              simp [HTH.out]
            case measure => simp [intOf]; omega
        · obtain rfl : k = ks.length := by omega
          have HM3 := Lib.hid (show wr.ownsMap Tryz.prog 3 (plainElem Tryz.prog 3) w.heap.size (ts.length + ks.length) D2 ∧ Fates D2 ts ks from ⟨HM2.out.1, by have h := HM2.out.2; rwa [List.take_length] at h⟩)
          have HALL := Lib.hid (show ks.all (there ts) = true by have h := HA2.out; rwa [List.take_length] at h)
          have d4 : decide ((ks.length : Int) < (ks.length : Int)) = false := by simp
          obtain ⟨i0, hi0, hz0, hzs, hzb⟩ := info_partsT infoTab
          clear HM2 HA2 HM0 HB
          go_wp2
          obtain ⟨wb, hwb⟩ : ∃ wb, wb = wr := ⟨_, rfl⟩
          rw [← hwb] at HM3 HB2 ⊢
          clear hwb
          go_loopw [11, 40] (fun ov iv wr => ∃ (i : Nat) (V : Value), V = ov ∧ iv = .int .i64 (i : Int) ∧ i ≤ ts.length ∧ Hid (RowB wr V (leftT (ts.take i) ks) ∧ (∀ k, ob V = some k → w.heap.size < k)) ∧ Hid (wr.ownsMap Tryz.prog 3 (plainElem Tryz.prog 3) w.heap.size (ts.length + ks.length) D2) ∧ Hid (Below w.heap.size w wr)) (fun _ iv _ => ts.length - (intOf iv).toNat)
          case atStart => exact ⟨0, _, rfl, rfl, Nat.zero_le _, Lib.hid ⟨row_nilB _, by simp [ob]⟩, Lib.hid HM3.out.1, HB2⟩
          case round =>
            obtain ⟨i, V, rfl, rfl, hi, HR, HM, HB⟩ := hrel
            by_cases hlt : i < ts.length
            · obtain ⟨b, off, rfl, hblt, hcell⟩ := (HT.out.below HB.out).at hlt
              have HKX := Lib.hid (HOK.out (tabAt ts i) (by rw [tabAt_get hlt]; exact List.getElem_mem _))
              have HTK := Lib.hid (show leftT (ts.take (i + 1)) ks = leftT (ts.take i) ks ++ (if ks.contains (tabAt ts i).n then [] else [tabAt ts i]) by rw [take_snocT hlt, leftT_snoc])
              have HTM := Lib.hid (there_mem hlt)
              have hrl : (leftT (ts.take i) ks).length ≤ 100000 := by have h1 := leftT_len (ts.take i) ks; rw [List.length_take] at h1; omega
              generalize tabAt ts i = x at *
              obtain ⟨n1, l1, z1, f1, g1⟩ := x
              simp only at HTM HTK
              have q0 : wr.cell? ⟨b, off + i * 5, none⟩ = some (.int .i64 n1) := hcell 0 _ rfl
              have q1 : wr.cell? ⟨b, off + i * 5 + 1, none⟩ = some (.int .i64 l1) := hcell 1 _ rfl
              have q2 : wr.cell? ⟨b, off + i * 5 + 2, none⟩ = some (.int .i64 z1) := hcell 2 _ rfl
              have q3 : wr.cell? ⟨b, off + i * 5 + 3, none⟩ = some (.string f1) := hcell 3 _ rfl
              have q4 : wr.cell? ⟨b, off + i * 5 + 4, none⟩ = some (.string g1) := hcell 4 _ rfl
              have hiI : (i : Int) < (ts.length : Int) := by omega
              have HKE := Lib.hid (show keyOf Tryz.prog 3 (.int .i64 n1) = some (.int .i64 n1) from Maps.keyOf_int_mk Tryz.underlying3 (by have h := HKX.out; unfold Tb.Ok at h; exact wf_i64T h.1.1 h.1.2))
              have HOW := Lib.hid (show ∀ o : Obj, (wr.alloc o).ownsMap Tryz.prog 3 (plainElem Tryz.prog 3) w.heap.size (ts.length + ks.length) D2 from fun o => HM.out.alloc o)
              have HCZ := Lib.hid (show ∀ c : Int, D2.atKey (.int .i64 n1) (.lit (.int .i64 0)) = .lit (.int .i64 c) → (c == 1) = !ks.contains n1 from fun c hc => by
                have h1 := (HM3.out.2 n1).symm.trans hc
                simp only [DataW.lit.injEq, Lit.int.injEq, true_and] at h1
                rw [← h1]
                exact fateN_one HTM.out)
              clear hcell
              obtain ⟨va, vc, rfl, -, -⟩ := Row.le HR.out.1
              cases hct : ks.contains n1 with
              | true =>
                rw [hct] at HCZ HTK
                have HBA := Lib.hid (show ∀ o : Obj, Below w.heap.size w (wr.alloc o) from fun o => HB.out.alloc HB.out.size o)
                clear hct
                go_wp2_with (at_lookup; refine wpList_lookup_own_int _ rfl _ _ 278 rfl 3 3 .i64 (Maps.int_keyed Tryz.underlying3) mapI75 Tryz.underlying3 (Tryz.zeroValue3 _) w.heap.size (ts.length + ks.length) D2 rfl (HOW.out _) _ _ rfl HKE.out ?_; intro c hat _; have hc0 : (c == 1) = false := HCZ.out c hat)
                go_roundw
                case rel =>
                  refine ⟨i + 1, _, rfl, by go_num, by omega, Lib.hid ⟨?_, HR.out.2⟩, Lib.hid (HOW.out _), Lib.hid (HBA.out _)⟩
                  rw [HTK.out]
                  simp only [if_true, List.append_nil]
                  exact Row.kept HR.out.1 (fun k hk => Below.heap_alloc _ _ _ (Row.lt HR.out.1 k hk))
                case measure => simp [intOf]; omega
              | false =>
                rw [hct] at HCZ HTK
                clear hct
                obtain ⟨W9, hW9⟩ : ∃ W9, (wr.alloc (.cells #[.int .i64 n1, .int .i64 l1, .int .i64 z1, .string f1, .string g1] 89)).alloc (.cells #[.int .i64 n1, .int .i64 l1, .int .i64 z1, .string f1, .string g1] 89) = W9 := ⟨_, rfl⟩
                have b9 : Below wr.heap.size wr W9 := by rw [← hW9]; exact ((Below.refl _ _).alloc (Nat.le_refl _) _).alloc (by simp) _
                have HR9 := Lib.hid (show RowB W9 (.slice va (leftT (ts.take i) ks).length vc) (leftT (ts.take i) ks) from Row.kept HR.out.1 (fun k hk => b9.block k (Row.lt HR.out.1 k hk)))
                have HS := Lib.hid (show Src Tryz.prog 5 49 (.slice (some ⟨wr.heap.size + 1, 0, none⟩) 1 1) 1 (cellsT [⟨n1, l1, z1, f1, g1⟩]) W9 from Src.ofSlice (P := Tryz.prog) W9 (size := 5) Tryz.underlying49 ⟨wr.heap.size + 1, 0, none⟩ 1 1 _ rfl (fun j u hu => by
                  rw [add_plainT, Nat.zero_add, ← hW9]
                  refine nce (by simp) ?_
                  rw [cellsT_one] at hu
                  simpa [Tb.cells] using hu) (cellsT_one1 _))
                have HF := Lib.hid (show Below w.heap.size w W9 from HB.out.trans (b9.mono HB.out.size))
                have HM9 := Lib.hid (ownsMap_below HM.out b9)
                have H1 := Lib.hid (show (leftT (ts.take i) ks).length + 1 ≤ maxLen by unfold maxLen; omega)
                have H2 := Lib.hid (show ((leftT (ts.take i) ks).length + 1) * 56 ≤ 140737488355328 by omega)
                have HW9 := Lib.hid hW9
                clear hW9 b9
                go_wp2_with (first | (at_lookup; refine wpList_lookup_own_int _ rfl _ _ 278 rfl 3 3 .i64 (Maps.int_keyed Tryz.underlying3) mapI75 Tryz.underlying3 (Tryz.zeroValue3 _) w.heap.size (ts.length + ks.length) D2 rfl (HOW.out _) _ _ rfl HKE.out ?_; intro c hat _; have hc0 : (c == 1) = true := HCZ.out c hat) | (at_builtin; rw [HW9.out]; refine wpList_append_row _ rfl _ _ 49 49 rfl 89 i0 _ 5 56 Tryz.underlying49 hi0 hz0 hzs hzb rfl (.slice va (leftT (ts.take i) ks).length vc) _ _ rfl HR9.out _ rfl 1 _ HS.out H1.out H2.out ?_; intro v' w5 hrow5 hgrow5 hob5))
                go_roundw
                case rel =>
                  have hrr : RowB w5 v' (leftT (ts.take (i + 1)) ks) := by
                    unfold RowB
                    rw [HTK.out, List.length_append, cellsT_append]
                    exact hrow5
                  have hT5 : Turn (ob (.slice va (leftT (ts.take i) ks).length vc)).toList W9 w5 := turn_of_grown hgrow5 (fun k hk => .inl (by rw [hk]; simp))
                  refine ⟨i + 1, v', rfl, by go_num, by omega, Lib.hid ⟨hrr, fun k hk => ?_⟩, Lib.hid (HM9.out.kept hgrow5 (fun e => by have := HR.out.2 _ e.symm; omega)), Lib.hid (HF.out.trans (hT5.below HF.out.size (fun k hk => by have h := HR.out.2 k (by simpa using hk); omega)))⟩
                  rcases hob5 with e | ⟨e, -⟩
                  · exact HR.out.2 k (by rw [← e]; exact hk)
                  · rw [e] at hk; cases hk
                    have := HM9.out.lt
                    omega
                case measure => simp [intOf]; omega
            · obtain rfl : i = ts.length := by omega
              have d5 : decide ((ts.length : Int) < (ts.length : Int)) = false := by simp
              go_wp2
              refine bodyPost_ret (results_tmp2 rfl _ _ _) rfl ?_
              have hr := HR.out.1
              rw [List.take_length] at hr
              exact ⟨.inr ⟨HALL.out, _, rfl, hr, fun k hk => Nat.le_of_lt (HR.out.2 k hk)⟩, HB.out⟩
end Go.Proofs.YtlecffpjcjlabaaGreat
