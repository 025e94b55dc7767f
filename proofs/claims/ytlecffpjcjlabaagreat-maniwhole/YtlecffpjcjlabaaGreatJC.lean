/- edit's canLay. -/
import Derived.Test.YtlecffpjcjlabaaGreatJA
namespace Go.Proofs.YtlecffpjcjlabaaGreat
open Go.RowKit Go.Shelf

def tabPos (t : Tb) : Bool := decide (0 ≤ t.n ∧ 0 ≤ t.lv ∧ 0 ≤ t.sz)
def canB (e : Ed) : Bool := decide (0 ≤ e.log ∧ 0 ≤ e.next) && (e.add.all tabPos && e.drop.all fun k => decide (0 ≤ k))
theorem all_takeT {ts : List Tb} {i : Nat} {f : Tb → Bool} (h : i < ts.length) (h1 : (ts.take i).all f = true) (h2 : f (tabAt ts i) = true) : (ts.take (i + 1)).all f = true := by
  rw [take_snocT h, List.all_append, h1]
  simp [h2]
theorem all_notT {ts : List Tb} {i : Nat} {f : Tb → Bool} (h : i < ts.length) (h2 : f (tabAt ts i) = false) : ts.all f = false := by
  rw [List.all_eq_false]
  exact ⟨tabAt ts i, by rw [tabAt_get h]; exact List.getElem_mem _, by simp [h2]⟩
theorem all_takeI {ks : List Int} {i : Nat} {f : Int → Bool} (h : i < ks.length) (h1 : (ks.take i).all f = true) (h2 : f (intAt ks i) = true) : (ks.take (i + 1)).all f = true := by
  rw [take_snocI h, List.all_append, h1]
  simp [h2]
theorem all_notI {ks : List Int} {i : Nat} {f : Int → Bool} (h : i < ks.length) (h2 : f (intAt ks i) = false) : ks.all f = false := by
  rw [List.all_eq_false]
  exact ⟨intAt ks i, by rw [intAt_get h]; exact List.getElem_mem _, by simp [h2]⟩
set_option maxHeartbeats 4000000 in
set_option maxRecDepth 100000 in
theorem canLay_any (e : Ed) (va vd : Value) (w : World) (hA : TbsV w va e.add) (hD : IntsV w vd e.drop) (hl1 : e.add.length ≤ 10000) (hl2 : e.drop.length ≤ 10000) :
    Calls Tryz.prog 152 #[ediV e.log e.next e.seq va vd] w fun x w' => x = .returned (.bool (canB e)) ∧ Below w.heap.size w w' := by
  obtain ⟨log, next, seq, add, drop⟩ := e
  simp only at hA hD hl1 hl2 ⊢
  obtain ⟨aa, ac, rfl⟩ := hA.len
  obtain ⟨da, dc, rfl⟩ := hD.len
  unfold ediV
  obtain ⟨W1, hW1⟩ : ∃ W1, w.alloc (.cells #[.int .i64 log, .int .i64 next, .int .u64 (seq : Int), .slice aa add.length ac, .slice da drop.length dc] 52) = W1 := ⟨_, rfl⟩
  have b1 : Below w.heap.size w W1 := by rw [← hW1]; exact (Below.refl _ _).alloc (Nat.le_refl _) _
  have y1 : BoxEd w.heap.size log next seq (.slice aa add.length ac) (.slice da drop.length dc) W1 := by rw [← hW1]; exact new_block _ _ rfl
  have c0 := y1.c0
  have c1 := y1.c1
  have c3 := y1.c3
  have HA := Lib.hid (hA.below b1)
  have HD := Lib.hid (hD.below b1)
  have HB1 := Lib.hid b1
  have HY1 := Lib.hid y1
  obtain ⟨M, hM⟩ : ∃ M, min log next = M := ⟨_, rfl⟩
  have hmin : ∀ (ts : Array TypeId) (t : TypeId) (w : World), (Builtin.min_ ts t #[.int .i64 log, .int .i64 next]).run Tryz.prog w = .ok (.int .i64 M) w := fun ts t w => by
    rw [run_min_int2]; congr 2; split <;> omega
  unfold canB
  simp only
  clear hA hD b1 y1
  by_cases hMn : M < 0
  · have d1 : decide (M < 0) = true := decide_eq_true hMn
    have HDD := Lib.hid (show decide (0 ≤ log ∧ 0 ≤ next) = false from decide_eq_false (by omega))
    clear hMn hM
    go_enter Tryz.func152, Tryz.ntmps152
    go_wp2
    go_ret
    exact ⟨ret_boolT (by rw [HDD.out]; rfl), by first | exact HB1.out | (rw [hW1]; exact HB1.out)⟩
  · have d1 : decide (M < 0) = false := decide_eq_false hMn
    have HDD := Lib.hid (show decide (0 ≤ log ∧ 0 ≤ next) = true from decide_eq_true (by omega))
    clear hMn hM
    go_enter Tryz.func152, Tryz.ntmps152
    go_wp2
    try rw [hW1]
    clear hW1
    go_loopw [16] (fun iv wr => ∃ (i : Nat), iv = .int .i64 (i : Int) ∧ i ≤ add.length ∧ Hid ((add.take i).all tabPos = true) ∧ Hid (Below W1.heap.size W1 wr)) (fun iv _ => add.length - (intOf iv).toNat)
    case atStart => exact ⟨0, rfl, Nat.zero_le _, Lib.hid rfl, Lib.hid (Below.refl _ _)⟩
    case round =>
      obtain ⟨i, rfl, hi, HL, HB⟩ := hrel
      by_cases hlt : i < add.length
      · obtain ⟨b, off, rfl, hblt, hcell⟩ := (HA.out.below HB.out).at hlt
        have HNO := Lib.hid (fun h => all_notT (f := tabPos) hlt h)
        have HYS := Lib.hid (fun h => all_takeT (f := tabPos) hlt HL.out h)
        generalize tabAt add i = x at *
        obtain ⟨n1, l1, z1, f1, g1⟩ := x
        have q0 : wr.cell? ⟨b, off + i * 5, none⟩ = some (.int .i64 n1) := hcell 0 _ rfl
        have q1 : wr.cell? ⟨b, off + i * 5 + 1, none⟩ = some (.int .i64 l1) := hcell 1 _ rfl
        have q2 : wr.cell? ⟨b, off + i * 5 + 2, none⟩ = some (.int .i64 z1) := hcell 2 _ rfl
        have q3 : wr.cell? ⟨b, off + i * 5 + 3, none⟩ = some (.string f1) := hcell 3 _ rfl
        have q4 : wr.cell? ⟨b, off + i * 5 + 4, none⟩ = some (.string g1) := hcell 4 _ rfl
        have hiI : (i : Int) < (add.length : Int) := by omega
        obtain ⟨m, hm⟩ : ∃ m, min (min n1 l1) z1 = m := ⟨_, rfl⟩
        have hmin3 : ∀ (ts : Array TypeId) (t : TypeId) (w : World), (Builtin.min_ ts t #[.int .i64 n1, .int .i64 l1, .int .i64 z1]).run Tryz.prog w = .ok (.int .i64 m) w := fun ts t w => by
          rw [run_min_int3]; congr 2; split <;> split at * <;> omega
        have HBA := Lib.hid (show ∀ o : Obj, Below W1.heap.size W1 (wr.alloc o) from fun o => HB.out.alloc HB.out.size o)
        clear hcell
        by_cases hmn : m < 0
        · have d2 : decide (m < 0) = true := decide_eq_true hmn
          have HF := Lib.hid (HNO.out (show tabPos ⟨n1, l1, z1, f1, g1⟩ = false from decide_eq_false (by simp only; omega)))
          clear hmn hm
          go_wp2
          go_ret
          exact ⟨ret_boolT (by rw [HF.out]; simp), HB1.out.trans ((HBA.out _).mono HB1.out.size)⟩
        · have d2 : decide (m < 0) = false := decide_eq_false hmn
          have HF := Lib.hid (HYS.out (show tabPos ⟨n1, l1, z1, f1, g1⟩ = true from decide_eq_true (by simp only; omega)))
          clear hmn hm
          go_wp2
          go_roundw
          case rel => exact ⟨i + 1, by go_num, by omega, HF, Lib.hid (HBA.out _)⟩
          case measure => simp [intOf]; omega
      · obtain rfl : i = add.length := by omega
        have HAL := Lib.hid (show add.all tabPos = true by have h := HL.out; rwa [List.take_length] at h)
        have d3 : decide ((add.length : Int) < (add.length : Int)) = false := by simp
        have k4 := (HY1.out.below HB.out).c4
        clear HL
        go_wp2
        obtain ⟨wa, hwa⟩ : ∃ wa, wa = wr := ⟨_, rfl⟩
        rw [← hwa] at HB ⊢
        clear hwa
        go_loopw [32] (fun iv wr => ∃ (i : Nat), iv = .int .i64 (i : Int) ∧ i ≤ drop.length ∧ Hid ((drop.take i).all (fun k => decide (0 ≤ k)) = true) ∧ Hid (Below W1.heap.size W1 wr)) (fun iv _ => drop.length - (intOf iv).toNat)
        case atStart => exact ⟨0, rfl, Nat.zero_le _, Lib.hid rfl, HB⟩
        case round =>
          obtain ⟨i, rfl, hi, HL, HB⟩ := hrel
          by_cases hlt : i < drop.length
          · obtain ⟨b, off, rfl, hblt, hcell⟩ := (HD.out.below HB.out).at hlt
            have HNO := Lib.hid (fun h => all_notI (f := fun k => decide (0 ≤ k)) hlt h)
            have HYS := Lib.hid (fun h => all_takeI (f := fun k => decide (0 ≤ k)) hlt HL.out h)
            generalize intAt drop i = z at *
            have hiI : (i : Int) < (drop.length : Int) := by omega
            by_cases hz : z < 0
            · have d2 : decide (z < 0) = true := decide_eq_true hz
              have HF := Lib.hid (HNO.out (decide_eq_false (by omega)))
              clear hz
              go_wp2
              go_ret
              exact ⟨ret_boolT (by rw [HF.out]; simp), HB1.out.trans (HB.out.mono HB1.out.size)⟩
            · have d2 : decide (z < 0) = false := decide_eq_false hz
              have HF := Lib.hid (HYS.out (decide_eq_true (by omega)))
              clear hz
              go_wp2
              go_roundw
              case rel => exact ⟨i + 1, by go_num, by omega, HF, HB⟩
              case measure => simp [intOf]; omega
          · obtain rfl : i = drop.length := by omega
            have HDL := Lib.hid (show drop.all (fun k => decide (0 ≤ k)) = true by have h := HL.out; rwa [List.take_length] at h)
            have d4 : decide ((drop.length : Int) < (drop.length : Int)) = false := by simp
            go_wp2
            go_ret
            exact ⟨ret_boolT (by rw [HDD.out, HAL.out, HDL.out]; rfl), HB1.out.trans (HB.out.mono HB1.out.size)⟩
end Go.Proofs.YtlecffpjcjlabaaGreat
