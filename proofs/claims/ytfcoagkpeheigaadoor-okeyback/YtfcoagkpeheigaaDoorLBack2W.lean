/- The walk of statement OkeyBack. -/
import Derived.Test.YtfcoagkpeheigaaDoorK10
import Derived.BigQuiet
import Derived.Deep.QuietTactic
namespace Go.Proofs.YtfcoagkpeheigaaDoor
open Go.RowKit

/-- A part with the field of its kind alone. -/
def norm (p : Prt) : Prt := if p.kind = 1 then ⟨1, p.s, 0, 0⟩ else if p.kind = 2 then ⟨2, [], p.n, 0⟩ else ⟨3, [], 0, p.i⟩
theorem unturn_turn (i : Int) (h0 : -9223372036854775808 ≤ i) : unturn (turn i) = i := by unfold unturn turn; omega
theorem turn_lt' (i : Int) (h0 : -9223372036854775808 ≤ i) (h1 : i ≤ 9223372036854775807) : turn i < 18446744073709551616 := by unfold turn; omega
theorem rdPart_lay (p : Prt) (r : List UInt8) (hok : okKind p.kind) (hw : p.Wide) : rdPart (layPart p ++ r) p.kind = (norm p, r, 0) := by
  obtain ⟨kd, s, n, i⟩ := p
  obtain ⟨h1, h2, h3, -⟩ := hw
  unfold okKind at hok
  simp only at hok h1 h2 h3
  unfold rdPart layPart norm
  by_cases k1 : kd = 1
  · simp only [k1, if_pos]
    rw [rdKey_key]
  · by_cases k2 : kd = 2
    · subst k2
      have hl : ¬ (be n 8 ++ r).length < 8 := by rw [List.length_append, be_length]; omega
      simp only [if_neg k1, if_pos, if_neg hl]
      have e : (be n 8 ++ r).take 8 = be n 8 := by rw [List.take_append_of_le_length (by rw [be_length]; omega), List.take_of_length_le (by rw [be_length]; omega)]
      have e2 : (be n 8 ++ r).drop 8 = r := by
        have := be_length n 8
        rw [List.drop_append, List.drop_of_length_le (by omega), this]
        simp
      rw [e, e2, beVal_be 8 n h1]
    · have k3 : kd = 3 := by omega
      subst k3
      have hl : ¬ (be (turn i) 8 ++ r).length < 8 := by rw [List.length_append, be_length]; omega
      simp only [if_neg k1, if_neg k2, if_neg hl]
      have e : (be (turn i) 8 ++ r).take 8 = be (turn i) 8 := by rw [List.take_append_of_le_length (by rw [be_length]; omega), List.take_of_length_le (by rw [be_length]; omega)]
      have e2 : (be (turn i) 8 ++ r).drop 8 = r := by
        have := be_length (turn i) 8
        rw [List.drop_append, List.drop_of_length_le (by omega), this]
        simp
      rw [e, e2, beVal_be 8 _ (turn_lt' i h2 h3), unturn_turn i h2]
theorem rdAll_lay (r : List UInt8) : ∀ (ps : List Prt), (∀ p ∈ ps, okKind p.kind) → (∀ p ∈ ps, p.Wide) → rdAll (layAll ps ++ r) (ps.map Prt.kind) = (ps.map norm, r, 0)
  | [], _, _ => by simp [layAll, rdAll]
  | p :: ps, h1, h2 => by
    have ih := rdAll_lay r ps (fun x hx => h1 x (by simp [hx])) (fun x hx => h2 x (by simp [hx]))
    have hp := rdPart_lay p (layAll ps ++ r) (h1 p (by simp)) (h2 p (by simp))
    have e : layAll (p :: ps) ++ r = layPart p ++ (layAll ps ++ r) := by simp [layAll]
    rw [e, List.map_cons, rdAll_cons _ _ _ (by rw [hp]), hp, ih]
    simp [preAll]
theorem norm_kind (p : Prt) (h : okKind p.kind) : (norm p).kind = p.kind := by
  unfold okKind at h
  unfold norm
  split
  · simp_all
  · split
    · simp_all
    · simp only; omega

theorem infoInt : (Tryd.prog.info? 3).map (fun i => (i.zero, i.size, i.bytes)) = some (some (.int .i64 0), 1, 8) := by kernel_rfl
theorem own_rowI {w : World} {B : Nat} {v : Value} {n : Nat} {ks : List Int} (h : w.ownsRow B 3 1 v n (ks.map (Value.int .i64))) (hn : n = ks.length) : ∃ a cap, v = .slice a ks.length cap ∧ IsRowI w a ks := by
  subst hn
  rcases Nat.eq_zero_or_pos ks.length with h0 | h0
  · obtain ⟨a, cap, rfl⟩ := own_len h
    exact ⟨a, cap, rfl, .inl (List.eq_nil_of_length_eq_zero h0)⟩
  · obtain ⟨g, cap, rfl, _, _, _, hc⟩ := own_open h h0
    refine ⟨_, cap, rfl, .inr ⟨g, 0, rfl, fun i hi => ?_⟩⟩
    rw [Nat.zero_add]
    exact hc i _ (by simp [hi])
theorem own_rowP {w : World} {B : Nat} {v : Value} {n : Nat} {ps : List Prt} (h : w.ownsRow B 28 4 v n (partsCells ps)) (hn : n = ps.length) : ∃ a cap, v = .slice a ps.length cap ∧ IsRowP w a ps := by
  subst hn
  rcases Nat.eq_zero_or_pos ps.length with h0 | h0
  · obtain ⟨a, cap, rfl⟩ := own_len h
    exact ⟨a, cap, rfl, .inl (List.eq_nil_of_length_eq_zero h0)⟩
  · obtain ⟨g, cap, rfl, _, _, _, hc⟩ := own_open h h0
    refine ⟨_, cap, rfl, .inr ⟨g, 0, rfl, fun i hi j u hu => ?_⟩⟩
    rw [Nat.zero_add]
    exact hc _ u (partsCells_get ps i hi j u hu)
theorem IsRowP.below {B : Nat} {w w' : World} {a : Option Addr} {ps : List Prt} (h : IsRowP w a ps) (hb : Below B w w') (hB : w.heap.size ≤ B) : IsRowP w' a ps := by
  rcases h with rfl | ⟨b, off, rfl, hc⟩
  · exact .inl rfl
  · refine .inr ⟨b, off, rfl, fun i hi j u hu => ?_⟩
    have := hc i hi j u hu
    rw [hb.cell (Nat.lt_of_lt_of_le (block_lt this) hB)]
    exact this
/-- The four cells of one of them. -/
theorem IsRowP.at {w : World} {a : Option Addr} {ps : List Prt} (h : IsRowP w a ps) (i : Nat) (hi : i < ps.length) :
    ∃ b off, a = some ⟨b, off, none⟩ ∧ w.cell? ⟨b, off + i * 4, none⟩ = some (.int .i64 ps[i].kind) ∧ w.cell? ⟨b, off + i * 4 + 1, none⟩ = some (.string ⟨ps[i].s.toArray⟩) ∧ w.cell? ⟨b, off + i * 4 + 2, none⟩ = some (.int .u64 (ps[i].n : Int)) ∧ w.cell? ⟨b, off + i * 4 + 3, none⟩ = some (.int .i64 ps[i].i) := by
  rcases h with rfl | ⟨b, off, rfl, hc⟩
  · simp at hi
  · exact ⟨b, off, rfl, row_cells hc i hi⟩
theorem IsRowI.below {B : Nat} {w w' : World} {a : Option Addr} {ks : List Int} (h : IsRowI w a ks) (hb : Below B w w') (hB : w.heap.size ≤ B) : IsRowI w' a ks := by
  rcases h with rfl | ⟨b, off, rfl, hc⟩
  · exact .inl rfl
  · refine .inr ⟨b, off, rfl, fun i hi => ?_⟩
    have := hc i hi
    rw [hb.cell (Nat.lt_of_lt_of_le (block_lt this) hB)]
    exact this
theorem cat_data (a b : ByteArray) : (a ++ b).data.toList = a.data.toList ++ b.data.toList := by
  rcases a with ⟨⟨l⟩⟩
  rcases b with ⟨⟨m⟩⟩
  simp [ByteArray.data_append]
theorem get_back (X rest : ByteArray) (ps : List Prt) (ak : Option Addr) (capk : Nat) (w : World) (hm : Max w) (hX : X.data.toList = layAll ps) (hs : (X ++ rest).size < 4294967281) (hl : ps.length ≤ 60) (hk : IsRowI w ak (ps.map Prt.kind)) (hok : ∀ p ∈ ps, okKind p.kind) (hw : ∀ p ∈ ps, p.Wide) :
    Calls Tryd.prog 11 #[.string (X ++ rest), .slice ak ps.length capk] w fun e w' => ∃ am capm, e = .returned (.tuple #[.slice am ps.length capm, .string rest, .int .i64 0]) ∧ IsRowP w' am (ps.map norm) ∧ Below w.heap.size w w' := by
  have h := get_any (X ++ rest) ak capk (ps.map Prt.kind) w hs hm (by rw [List.length_map]; omega) hk
  rw [List.length_map] at h
  refine h.mono ?_
  have e : rdGet (X ++ rest).data.toList (ps.map Prt.kind) = (ps.map norm, rest.data.toList, 0) := by
    rw [rdGet, if_pos (by
      intro k hk
      obtain ⟨p, hp, rfl⟩ := List.mem_map.1 hk
      exact hok p hp), cat_data, hX, rdAll_lay _ ps hok hw]
  rw [e]
  rintro e w1 ⟨v, rfl, hown, hb⟩
  obtain ⟨am, capm, rfl, hrow⟩ := own_rowP hown rfl
  rw [List.length_map]
  exact ⟨am, capm, rfl, hrow, hb⟩
/-- The kinds of the first parts, as cells. -/
def kindCells (ps : List Prt) (k : Nat) : List Value := ((ps.take k).map Prt.kind).map (Value.int .i64)
theorem kindCells_succ (ps : List Prt) (k : Nat) (h : k < ps.length) : kindCells ps (k + 1) = kindCells ps k ++ [Value.int .i64 ps[k].kind] := by
  unfold kindCells
  rw [List.take_succ_eq_append_getElem h, List.map_append, List.map_append]
  rfl
theorem fits_of (ps : List Prt) (hw : ∀ p ∈ ps, p.Wide) (h : sizes ps ≤ 6000) : ∀ p ∈ ps, p.Fits := fun p hp =>
  ⟨(hw p hp).1, (hw p hp).2.1, (hw p hp).2.2.1, by have := sizes_mem ps p hp; omega⟩
theorem layAll_size : ∀ (ps : List Prt), (layAll ps).length ≤ 2 * sizes ps + 10 * ps.length
  | [] => by simp [layAll]
  | p :: r => by
    have h1 := layPart_length p
    have h2 := layAll_size r
    have e : layAll (p :: r) = layPart p ++ layAll r := by simp [layAll]
    have e2 : sizes (p :: r) = p.s.length + sizes r := by simp [sizes]
    rw [e, e2, List.length_append, List.length_cons]
    omega

set_option maxHeartbeats 4000000 in
set_option maxRecDepth 100000 in
theorem back_good (a : Option Addr) (cap : Nat) (ps : List Prt) (rest : ByteArray) (w : World) (hm : Max w) (hr : IsRowP w a ps) (hwide : ∀ p ∈ ps, p.Wide) (hlm : ps.length ≤ maxLen) (hrest : rest.size ≤ 300) (hgood : ∀ p ∈ ps, okKind p.kind) :
    Calls Tryd.prog 3 #[.slice a ps.length cap, .string rest] w fun e w' => e = .returned (.bool true) ∧ Below w.heap.size w w' := by
  obtain ⟨i0, hi, hz0, hz1, hz2⟩ := info_parts infoInt
  have hdr : decide ((300 : Int) < (rest.size : Int)) = false := by simp; omega
  have HR := Lib.hid hr
  have HM := Lib.hid hm
  have HG := Lib.hid hgood
  have HW := Lib.hid hwide
  clear hr hm hgood hwide
  go_enter Tryd.func3, Tryd.ntmps3
  go_wp2_with fail
  refine (small_any a cap ps _ HW.out hlm HR.out).mono ?_
  rintro e w1 ⟨⟨t, rfl, ht⟩, hb1⟩
  cases t
  · clear ht
    have hm1 := HM.out.next hb1
    go_wp2_with (go_at_call 9; refine (alive_any _ hm1).mono ?_; rintro r w2 ⟨rfl, hb2⟩)
    go_ret
    exact ⟨rfl, hb1.trans (hb2.mono hb1.size)⟩
  · have HL := Lib.hid (ht rfl)
    have h60 : ps.length ≤ 60 := HL.out.1
    clear ht hlm
    go_wp2
    go_loopw [5, 6] (fun vk vi wr => ∃ k : Nat, k ≤ ps.length ∧ vi = .int .i64 k ∧ wr.ownsRow w.heap.size 3 1 vk k (kindCells ps k) ∧ Below w.heap.size w wr) (fun _ i _ => ps.length - (intOf i).toNat)
    case atStart => exact ⟨0, Nat.zero_le _, rfl, World.ownsRow_nil _ _ _ _, hb1⟩
    case round =>
      obtain ⟨k, hk, rfl, hown, hbel⟩ := hrel
      by_cases hkl : k < ps.length
      · obtain ⟨b, off, rfl, cx0, -, -, -⟩ := (HR.out.below hbel (Nat.le_refl _)).at k hkl
        have hok := HG.out _ (List.getElem_mem hkl)
        have HT := Lib.hid (kindCells_succ ps k hkl)
        generalize ps[k].kind = kd at cx0 hok HT
        have hk1 : 1 ≤ kd := hok.1
        have hk3 : kd ≤ 3 := hok.2
        have hi1 : (k : Int) < (ps.length : Int) := by omega
        go_wp2_with (at_builtin; refine wpList_append_own _ rfl _ _ 25 rfl w.heap.size 3 i0 (.int .i64 0) 1 8 Tryd.underlying25 hi hz0 hz1 hz2 rfl (by decide) _ _ _ rfl (hown.alloc _) ⟨wr.heap.size, 0, none⟩ 1 1 [Value.int .i64 kd] rfl rfl ?c1 ?c2 ?c3 ?c4 ?c5 ?_)
        case c1 =>
          intro j u hj
          match j, hj with
          | 0, hj => simp at hj; subst hj; simp [Addr.add]
        case c2 => intro u hu; simp at hu; subst hu; rfl
        case c3 => unfold maxLen; omega
        case c4 => omega
        case c5 => have := hbel.size; simp; omega
        intro v' w2 hown' hgrow _
        have hbel2 : Below w.heap.size w w2 := (hbel.alloc hbel.size _).grown hgrow (by have := hbel.size; simp; omega) (fun k hk => (hown.lt k hk).1)
        go_wp2
        go_roundw
        case rel =>
          refine ⟨k + 1, by omega, by go_num, ?_, hbel2⟩
          rw [HT.out]
          exact hown'
        case measure => simp [intOf]; omega
      · have hke : k = ps.length := by omega
        subst hke
        unfold kindCells at hown
        rw [List.take_length] at hown
        obtain ⟨ak, capk, hv, hrk⟩ := own_rowI hown (by simp)
        rw [List.length_map] at hv
        subst hv
        have hput := Lib.hid (put_any a cap ps wr (HM.out.below hbel HM.out.lt) (by omega) (fits_of ps HW.out HL.out.2) (HR.out.below hbel (Nat.le_refl _)))
        rw [putVal, if_pos (by
          intro k hk
          obtain ⟨p, hp, rfl⟩ := List.mem_map.1 hk
          exact HG.out p hp)] at hput
        obtain ⟨X, hX⟩ : ∃ X : ByteArray, X = ⟨(layAll ps).toArray⟩ := ⟨_, rfl⟩
        rw [← hX] at hput
        have hXd : X.data.toList = layAll ps := by rw [hX]
        have hXs : X.size ≤ 13000 := by
          have h1 := layAll_size ps
          have h2 := HL.out.2
          have h3 : X.size = X.data.toList.length := rfl
          rw [h3, hXd]
          omega
        have hXr : (X ++ rest).size < 4294967281 := by rw [ByteArray.size_append]; omega
        have hget := Lib.hid (fun (w' : World) (hb' : Below wr.heap.size wr w') => get_back X rest ps ak capk w' ((HM.out.below hbel HM.out.lt).next hb') hXd hXr h60 (hrk.below hb' (Nat.le_refl _)) HG.out HW.out)
        clear hX hXd hown hkl hk hrk
        go_wp2_with (first
          | (go_at_call 10; refine hput.out.mono ?_; rintro e w2 ⟨rfl, hb2⟩)
          | (go_at_call 11; refine (hget.out _ hb2).mono ?_; rintro e w3 ⟨am, capm, rfl, hrm, hb3⟩))
        have hbel3 : Below w.heap.size w w3 := (hbel.trans (hb2.mono hbel.size)).trans (hb3.mono (hbel.trans (hb2.mono hbel.size)).size)
        have HRM := Lib.hid hrm
        clear hrm
        go_loopw [14] (fun vi wq => ∃ k : Nat, k ≤ ps.length ∧ vi = .int .i64 k ∧ Below w3.heap.size w3 wq) (fun i _ => ps.length - (intOf i).toNat)
        case atStart => exact ⟨0, Nat.zero_le _, rfl, Below.refl _ _⟩
        case round =>
          obtain ⟨k, hk, rfl, hbq⟩ := hrel
          have hbelq : Below w.heap.size w wr := hbel3.trans (hbq.mono hbel3.size)
          by_cases hkl : k < ps.length
          · obtain ⟨b, off, rfl, cx0, cx1, cx2, cx3⟩ := (HR.out.below hbelq (Nat.le_refl _)).at k hkl
            have cy0 : ∀ o, (wr.alloc o).cell? ⟨b, off + k * 4, none⟩ = some (.int .i64 ps[k].kind) := fun o => (((Below.refl wr.heap.size wr).alloc (Nat.le_refl _) o).cell (block_lt cx0)).trans cx0
            have cy1 : ∀ o, (wr.alloc o).cell? ⟨b, off + k * 4 + 1, none⟩ = some (.string ⟨ps[k].s.toArray⟩) := fun o => (((Below.refl wr.heap.size wr).alloc (Nat.le_refl _) o).cell (block_lt cx1)).trans cx1
            have cy2 : ∀ o, (wr.alloc o).cell? ⟨b, off + k * 4 + 2, none⟩ = some (.int .u64 (ps[k].n : Int)) := fun o => (((Below.refl wr.heap.size wr).alloc (Nat.le_refl _) o).cell (block_lt cx2)).trans cx2
            have cy3 : ∀ o, (wr.alloc o).cell? ⟨b, off + k * 4 + 3, none⟩ = some (.int .i64 ps[k].i) := fun o => (((Below.refl wr.heap.size wr).alloc (Nat.le_refl _) o).cell (block_lt cx3)).trans cx3
            obtain ⟨bm, om, rfl, cm0, cm1, cm2, cm3⟩ := (HRM.out.below hbq (Nat.le_refl _)).at k (by simpa using hkl)
            rw [List.getElem_map] at cm0 cm1 cm2 cm3
            have hok := HG.out _ (List.getElem_mem hkl)
            generalize ps[k] = p at cx0 cx1 cx2 cx3 cy0 cy1 cy2 cy3 cm0 cm1 cm2 cm3 hok
            obtain ⟨kd, sx, n, ii⟩ := p
            have hi1 : (k : Int) < (ps.length : Int) := by omega
            obtain ⟨hk1, hk3⟩ := hok
            simp only at cx0 cx1 cx2 cx3 cy0 cy1 cy2 cy3 hk1 hk3
            clear cx1 cx2 cx3
            have hkd : kd = 1 ∨ kd = 2 ∨ kd = 3 := by omega
            clear hk1 hk3
            rcases hkd with rfl | rfl | rfl
            all_goals
              simp only [norm, if_pos, if_neg (show ¬ (2 : Int) = 1 by decide), if_neg (show ¬ (3 : Int) = 1 by decide), if_neg (show ¬ (3 : Int) = 2 by decide)] at cm0 cm1 cm2 cm3
              go_wp2
              go_quiet (fail)
              go_wp2
              go_roundw
              case rel => exact ⟨k + 1, by omega, by go_num, (by first | exact hbq.alloc hbq.size _ | exact (hbq.alloc hbq.size _).trans ⟨rfl, rfl, rfl, Nat.le_refl _, fun _ _ => rfl⟩)⟩
              case measure => simp [intOf]; omega
          · have hm3 := HM.out.below hbelq HM.out.lt
            have hd1 : decide ((k : Int) < (ps.length : Int)) = false := by simp; omega
            go_wp2_with (go_at_call 9; refine (alive_any _ hm3).mono ?_; rintro e w4 ⟨rfl, hb4⟩)
            go_ret
            exact ⟨rfl, hbelq.trans (hb4.mono hbelq.size)⟩

set_option maxHeartbeats 4000000 in
set_option maxRecDepth 100000 in
theorem back_bad (a : Option Addr) (cap j : Nat) (ps : List Prt) (rest : ByteArray) (w : World) (hm : Max w) (hr : IsRowP w a ps) (hwide : ∀ p ∈ ps, p.Wide) (hlm : ps.length ≤ maxLen) (hrest : rest.size ≤ 300) (hj : j < ps.length) (hbad : ¬ okKind ps[j].kind) (hgood : ∀ i (h : i < ps.length), i < j → okKind ps[i].kind) :
    Calls Tryd.prog 3 #[.slice a ps.length cap, .string rest] w fun e w' => e = .returned (.bool true) ∧ Below w.heap.size w w' := by
  obtain ⟨i0, hi, hz0, hz1, hz2⟩ := info_parts infoInt
  have hdr : decide ((300 : Int) < (rest.size : Int)) = false := by simp; omega
  have HR := Lib.hid hr
  have HM := Lib.hid hm
  have HG := Lib.hid hgood
  have HW := Lib.hid hwide
  clear hr hm hgood hwide
  go_enter Tryd.func3, Tryd.ntmps3
  go_wp2_with fail
  refine (small_any a cap ps _ HW.out hlm HR.out).mono ?_
  rintro e w1 ⟨⟨t, rfl, ht⟩, hb1⟩
  cases t
  · clear ht
    have hm1 := HM.out.next hb1
    go_wp2_with (go_at_call 9; refine (alive_any _ hm1).mono ?_; rintro r w2 ⟨rfl, hb2⟩)
    go_ret
    exact ⟨rfl, hb1.trans (hb2.mono hb1.size)⟩
  · have HL := Lib.hid (ht rfl)
    have h60 : ps.length ≤ 60 := HL.out.1
    clear ht hlm
    go_wp2
    go_loopw [5, 6] (fun vk vi wr => ∃ k : Nat, k ≤ j ∧ vi = .int .i64 k ∧ wr.ownsRow w.heap.size 3 1 vk k (kindCells ps k) ∧ Below w.heap.size w wr) (fun _ i _ => j - (intOf i).toNat)
    case atStart => exact ⟨0, Nat.zero_le _, rfl, World.ownsRow_nil _ _ _ _, hb1⟩
    case round =>
      obtain ⟨k, hk, rfl, hown, hbel⟩ := hrel
      have hkl : k < ps.length := by omega
      by_cases hkj : k < j
      · obtain ⟨b, off, rfl, cx0, -, -, -⟩ := (HR.out.below hbel (Nat.le_refl _)).at k hkl
        have hok := HG.out k hkl hkj
        have HT := Lib.hid (kindCells_succ ps k hkl)
        generalize ps[k].kind = kd at cx0 hok HT
        have hk1 : 1 ≤ kd := hok.1
        have hk3 : kd ≤ 3 := hok.2
        have hi1 : (k : Int) < (ps.length : Int) := by omega
        go_wp2_with (at_builtin; refine wpList_append_own _ rfl _ _ 25 rfl w.heap.size 3 i0 (.int .i64 0) 1 8 Tryd.underlying25 hi hz0 hz1 hz2 rfl (by decide) _ _ _ rfl (hown.alloc _) ⟨wr.heap.size, 0, none⟩ 1 1 [Value.int .i64 kd] rfl rfl ?c1 ?c2 ?c3 ?c4 ?c5 ?_)
        case c1 =>
          intro j u hj
          match j, hj with
          | 0, hj => simp at hj; subst hj; simp [Addr.add]
        case c2 => intro u hu; simp at hu; subst hu; rfl
        case c3 => unfold maxLen; omega
        case c4 => omega
        case c5 => have := hbel.size; simp; omega
        intro v' w2 hown' hgrow _
        have hbel2 : Below w.heap.size w w2 := (hbel.alloc hbel.size _).grown hgrow (by have := hbel.size; simp; omega) (fun k hk => (hown.lt k hk).1)
        go_wp2
        go_roundw
        case rel =>
          refine ⟨k + 1, by omega, by go_num, ?_, hbel2⟩
          rw [HT.out]
          exact hown'
        case measure => simp [intOf]; omega
      · have hke : k = j := by omega
        subst hke
        have hput := Lib.hid (put_any a cap ps wr (HM.out.below hbel HM.out.lt) (by omega) (fits_of ps HW.out HL.out.2) (HR.out.below hbel (Nat.le_refl _)))
        rw [putVal, if_neg (fun h => hbad (h _ (List.mem_map.2 ⟨_, List.getElem_mem hj, rfl⟩)))] at hput
        have hm1 := HM.out.below hbel HM.out.lt
        have hi1 : (k : Int) < (ps.length : Int) := by omega
        obtain ⟨b, off, rfl, cx0, -, -, -⟩ := (HR.out.below hbel (Nat.le_refl _)).at k hkl
        have hno : ps[k].kind < 1 ∨ 3 < ps[k].kind := by unfold okKind at hbad; omega
        clear hown
        generalize ps[k].kind = kd at cx0 hno
        by_cases hk1 : kd < 1
        · clear hno
          go_wp2_with (first
            | (go_at_call 10; refine hput.out.mono ?_; rintro e w2 ⟨rfl, hb2⟩; have hm2 := hm1.next hb2)
            | (go_at_call 9; refine (alive_any _ hm2).mono ?_; rintro e w4 ⟨rfl, hb4⟩))
          go_ret
          exact ⟨rfl, (hbel.trans (hb2.mono hbel.size)).trans (hb4.mono (hbel.trans (hb2.mono hbel.size)).size)⟩
        · have hk3 : 3 < kd := by omega
          have hd1 : decide (kd < 1) = false := by simpa using hk1
          clear hno
          go_wp2_with (first
            | (go_at_call 10; refine hput.out.mono ?_; rintro e w2 ⟨rfl, hb2⟩; have hm2 := hm1.next hb2)
            | (go_at_call 9; refine (alive_any _ hm2).mono ?_; rintro e w4 ⟨rfl, hb4⟩))
          go_ret
          exact ⟨rfl, (hbel.trans (hb2.mono hbel.size)).trans (hb4.mono (hbel.trans (hb2.mono hbel.size)).size)⟩

set_option maxHeartbeats 1000000 in
theorem back_long (a : Option Addr) (cap : Nat) (ps : List Prt) (rest : ByteArray) (w : World) (hm : Max w) (hr : IsRowP w a ps) (hwide : ∀ p ∈ ps, p.Wide) (hlm : ps.length ≤ maxLen) (hrest : 300 < rest.size) :
    Calls Tryd.prog 3 #[.slice a ps.length cap, .string rest] w fun e w' => e = .returned (.bool true) ∧ Below w.heap.size w w' := by
  have hdr : (300 : Int) < (rest.size : Int) := by omega
  go_enter Tryd.func3, Tryd.ntmps3
  go_wp2_with fail
  refine (small_any a cap ps _ hwide hlm hr).mono ?_
  rintro e w1 ⟨⟨t, rfl, ht⟩, hb1⟩
  clear ht
  have hm1 := hm.next hb1
  cases t
  all_goals
    go_wp2_with (go_at_call 9; refine (alive_any _ hm1).mono ?_; rintro r w2 ⟨rfl, hb2⟩)
    go_ret
    exact ⟨rfl, hb1.trans (hb2.mono hb1.size)⟩

/-- A list of parts that came in. -/
def IsPs (w : World) (a : Option Addr) (len : Nat) (ps : List Prt) : Prop := len ≤ maxLen ∧ ps.length = len ∧ (∀ p ∈ ps, p.Wide) ∧ IsRowP w a ps
theorem okeyBack_walk (a : Option Addr) (len cap : Nat) (ps : List Prt) (rest : ByteArray) (hs : rest.size ≤ maxLen) (w : World) (hp : IsPs w a len ps) (hm : Max w) :
    Calls Tryd.prog 3 #[.slice a len cap, .string rest] w fun e w' => e = .returned (.bool true) ∧ Below w.heap.size w w' := by
  have _ := hs
  obtain ⟨hl, rfl, hw, hr⟩ := hp
  by_cases hrest : rest.size ≤ 300
  · rcases first_bad (ps.map Prt.kind) with h | ⟨j, hj, h1, h2⟩
    · exact back_good a cap ps rest w hm hr hw hl hrest (fun p hp => h _ (List.mem_map.2 ⟨p, hp, rfl⟩))
    · have hj' : j < ps.length := by simpa using hj
      rw [List.getElem_map] at h1
      exact back_bad a cap j ps rest w hm hr hw hl hrest hj' h1 (fun i hi hij => by
        have := h2 i (by simpa using hi) hij
        rw [List.getElem_map] at this
        exact this)
  · exact back_long a cap ps rest w hm hr hw hl (by omega)
end Go.Proofs.YtfcoagkpeheigaaDoor
