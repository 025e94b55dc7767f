/- The statements' helpers: Small, SameTables. -/
import Derived.Test.YtmcgfafkggannaaGreatJL
namespace Go.Proofs.YtmcgfafkggannaaGreat
open Go.RowKit Go.Shelf

set_option maxHeartbeats 4000000 in
set_option maxRecDepth 100000 in
theorem small12_any (v : Value) (ts : List Tb) (w : World) (hT : TbsV w v ts) (hlm : ts.length ≤ 9223372036854775807) (hok : ∀ x ∈ ts, x.Ok) :
    Calls Tryz.prog 4 #[v] w fun e w' => ∃ t : Bool, e = .returned (.bool t) ∧ (t = true → ts.length ≤ 40 ∧ ∀ x ∈ ts, x.Short) ∧ Below w.heap.size w w' := by
  obtain ⟨a, cap, rfl⟩ := hT.len
  have HO := Lib.hid hT
  have HOK := Lib.hid hok
  clear hT hok
  obtain ⟨len, hlen⟩ : ∃ n, ts.length = n := ⟨_, rfl⟩
  have HLN := Lib.hid hlen
  rw [hlen] at hlm HO ⊢
  clear hlen
  go_enter Tryz.func4, Tryz.ntmps4
  go_wp2
  go_loopw [3, 4] (fun rv iv wr => ∃ (i : Nat) (q : Int), i ≤ len ∧ i ≤ 100 ∧ rv = .int .i64 q ∧ iv = .int .i64 (i : Int) ∧ -1 ≤ q ∧ q ≤ 9000 ∧ Hid (0 ≤ q → ∀ x ∈ ts.take i, x.Short) ∧ Hid (Below w.heap.size w wr)) (fun _ iv _ => len - (intOf iv).toNat)
  case atStart => exact ⟨0, 9000, Nat.zero_le _, Nat.zero_le _, rfl, rfl, by omega, by omega, Lib.hid (fun _ x hx => by simp at hx), Lib.hid (Below.refl _ _)⟩
  case round =>
    obtain ⟨i, q, hi, hi4, rfl, rfl, hq1, hq2, HSM, HBL⟩ := hrel
    by_cases hgo : i < len ∧ i < 100 ∧ 0 ≤ q
    · obtain ⟨g1, g2, g3⟩ := hgo
      have hlt : i < ts.length := by rw [HLN.out]; exact g1
      obtain ⟨b, off, rfl, hblt, hcell⟩ := (HO.out.below HBL.out).at hlt
      have HTK := Lib.hid (take_snocT hlt)
      have hmem : tabAt ts i ∈ ts := by rw [tabAt_get hlt]; exact List.getElem_mem _
      have hkx := HOK.out _ hmem
      generalize tabAt ts i = st at *
      unfold Tb.Ok maxLen at hkx
      have hf1 : st.f.size ≤ 9223372036854775807 := by omega
      have hl1 : st.l.size ≤ 9223372036854775807 := by omega
      have q3 : wr.cell? ⟨b, off + i * 5 + 3, none⟩ = some (.string st.f) := hcell 3 _ rfl
      have q4 : wr.cell? ⟨b, off + i * 5 + 4, none⟩ = some (.string st.l) := hcell 4 _ rfl
      clear hcell hkx hmem hlt
      have hil : (i : Int) < (len : Int) := by omega
      have d1 : decide ((i : Int) < 100) = true := by simp; omega
      have d2 : decide (0 ≤ q) = true := decide_eq_true g3
      have hR := room_list wr.heap.size 2 (lensT st) q (wr.alloc (.cells #[.int .i64 (st.f.size : Int), .int .i64 (st.l.size : Int)] 3)).drew hq1 (by omega) (by simp [lensT]) (by simp [lensT]; omega) (fun j hj => by
        match j, hj with
        | 0, _ => exact nce rfl rfl
        | 1, _ => exact nce rfl rfl)
      have hlen4 : (lensT st).length = 2 := rfl
      rw [hlen4] at hR
      obtain ⟨r1, r2, -⟩ := roomL_le (lensT st) q hq1 (by simp [lensT])
      have HS4 := Lib.hid (lensT_small (x := st) hq1 hq2)
      generalize roomL q (lensT st) = q' at hR r1 r2 HS4
      have HR := Lib.hid hR
      clear hR hlen4
      go_wp2
      go_region_held3 (fun w' => w'.cell? ⟨b, off + i * 5 + 3, none⟩ = some (.string st.f) ∧ w'.cell? ⟨b, off + i * 5 + 4, none⟩ = some (.string st.l)) (first | go_keep | exact ⟨oce hblt q3, oce hblt q4⟩) (first | (go_at_call 28; refine HR.out.mono ?_; rintro e w1 ⟨rfl, rfl⟩) | fail)
      all_goals go_wp2
      all_goals
        have hnx : 0 ≤ q' → ∀ x ∈ ts.take (i + 1), x.Short := by
          intro h0 x hx
          rw [HTK.out] at hx
          rcases List.mem_append.1 hx with hx | hx
          · exact HSM.out g3 x hx
          · simp at hx
            rw [hx]
            exact HS4.out h0
        have hbn : Below w.heap.size w (wr.alloc (.cells #[.int .i64 (st.f.size : Int), .int .i64 (st.l.size : Int)] 3)).drew := (HBL.out.alloc HBL.out.size _).drew
      all_goals go_roundw
      all_goals first
        | exact ⟨i + 1, q', by omega, by omega, rfl, by go_num, r1, by omega, Lib.hid hnx, Lib.hid hbn⟩
        | (simp [intOf]; omega)
    · by_cases hl2 : len ≤ 40 ∧ 0 ≤ q
      · obtain ⟨m1, m2⟩ := hl2
        obtain rfl : i = len := by omega
        have d0 : decide ((i : Int) < (i : Int)) = false := by simp
        have d1 : decide ((i : Int) ≤ 40) = true := by simp; omega
        have d2 : decide (0 ≤ q) = true := decide_eq_true m2
        go_wp2
        go_ret
        refine ⟨true, rfl, fun _ => ⟨m1, fun x hx => HSM.out m2 x ?_⟩, HBL.out⟩
        rw [List.take_of_length_le (by rw [HLN.out]; omega)]
        exact hx
      · by_cases e1 : i < len
        · have hil : (i : Int) < (len : Int) := by omega
          by_cases e2 : i < 100
          · have hq : q < 0 := by omega
            have d1 : decide ((i : Int) < 100) = true := by simp; omega
            have d2 : decide (0 ≤ q) = false := decide_eq_false (by omega)
            by_cases e3 : len ≤ 40
            · have d3 : decide ((len : Int) ≤ 40) = true := by simp; omega
              go_wp2
              go_ret
              exact ⟨false, rfl, fun h => (by cases h), HBL.out⟩
            · have d3 : decide ((len : Int) ≤ 40) = false := by simp; omega
              go_wp2
              go_ret
              exact ⟨false, rfl, fun h => (by cases h), HBL.out⟩
          · have d1 : decide ((i : Int) < 100) = false := by simp; omega
            have d3 : decide ((len : Int) ≤ 40) = false := by simp; omega
            go_wp2
            go_ret
            exact ⟨false, rfl, fun h => (by cases h), HBL.out⟩
        · obtain rfl : i = len := by omega
          have d0 : decide ((i : Int) < (i : Int)) = false := by simp
          by_cases e3 : i ≤ 40
          · have d3 : decide ((i : Int) ≤ 40) = true := by simp; omega
            have d2 : decide (0 ≤ q) = false := decide_eq_false (by omega)
            go_wp2
            go_ret
            exact ⟨false, rfl, fun h => (by cases h), HBL.out⟩
          · have d3 : decide ((i : Int) ≤ 40) = false := by simp; omega
            go_wp2
            go_ret
            exact ⟨false, rfl, fun h => (by cases h), HBL.out⟩
theorem tb_eq {x y : Tb} (h0 : x.n = y.n) (h1 : x.lv = y.lv) (h2 : x.sz = y.sz) (h3 : x.f = y.f) (h4 : x.l = y.l) : x = y := by
  cases x; cases y; simp_all
set_option maxHeartbeats 4000000 in
set_option maxRecDepth 100000 in
/-- Two lists of the same tables are told to be the same. -/
theorem sameT_yes (u v : Value) (ts : List Tb) (w : World) (hU : TbsV w u ts) (hV : TbsV w v ts) (hl : ts.length ≤ 100000) :
    Calls Tryz.prog 57 #[u, v] w fun e w' => e = .returned (.bool true) ∧ Below w.heap.size w w' := by
  obtain ⟨a, c, rfl⟩ := hU.len
  obtain ⟨a2, c2, rfl⟩ := hV.len
  have HU := Lib.hid hU
  have HV := Lib.hid hV
  clear hU hV
  go_enter Tryz.func57, Tryz.ntmps57
  go_wp2
  go_loopw [5] (fun iv wr => ∃ (i : Nat), iv = .int .i64 (i : Int) ∧ i ≤ ts.length ∧ Hid (Below w.heap.size w wr)) (fun iv _ => ts.length - (intOf iv).toNat)
  case atStart => exact ⟨0, rfl, Nat.zero_le _, Lib.hid (Below.refl _ _)⟩
  case round =>
    obtain ⟨i, rfl, hi, HB⟩ := hrel
    by_cases hlt : i < ts.length
    · obtain ⟨b, off, rfl, hblt, hcell⟩ := (HU.out.below HB.out).at hlt
      obtain ⟨b2, off2, rfl, hblt2, hcell2⟩ := (HV.out.below HB.out).at hlt
      generalize tabAt ts i = x at *
      obtain ⟨n1, l1, z1, f1, g1⟩ := x
      have q0 : wr.cell? ⟨b, off + i * 5, none⟩ = some (.int .i64 n1) := hcell 0 _ rfl
      have q1 : wr.cell? ⟨b, off + i * 5 + 1, none⟩ = some (.int .i64 l1) := hcell 1 _ rfl
      have q2 : wr.cell? ⟨b, off + i * 5 + 2, none⟩ = some (.int .i64 z1) := hcell 2 _ rfl
      have q3 : wr.cell? ⟨b, off + i * 5 + 3, none⟩ = some (.string f1) := hcell 3 _ rfl
      have q4 : wr.cell? ⟨b, off + i * 5 + 4, none⟩ = some (.string g1) := hcell 4 _ rfl
      have p0 : wr.cell? ⟨b2, off2 + i * 5, none⟩ = some (.int .i64 n1) := hcell2 0 _ rfl
      have p1 : wr.cell? ⟨b2, off2 + i * 5 + 1, none⟩ = some (.int .i64 l1) := hcell2 1 _ rfl
      have p2 : wr.cell? ⟨b2, off2 + i * 5 + 2, none⟩ = some (.int .i64 z1) := hcell2 2 _ rfl
      have p3 : wr.cell? ⟨b2, off2 + i * 5 + 3, none⟩ = some (.string f1) := hcell2 3 _ rfl
      have p4 : wr.cell? ⟨b2, off2 + i * 5 + 4, none⟩ = some (.string g1) := hcell2 4 _ rfl
      have hiI : (i : Int) < (ts.length : Int) := by omega
      clear hcell hcell2
      go_wp2
      go_quiet (fail)
      go_wp2
      go_roundw
      case rel => exact ⟨i + 1, by go_num, by omega, Lib.hid (belowN HB.out _)⟩
      case measure => simp [intOf]; omega
    · obtain rfl : i = ts.length := by omega
      have d3 : decide ((ts.length : Int) < (ts.length : Int)) = false := by simp
      go_wp2
      go_ret
      exact ⟨rfl, HB.out⟩
end Go.Proofs.YtmcgfafkggannaaGreat
