/- skip's Path. -/
import Derived.Test.YthaalhigmihijabY8
namespace Go.Proofs.Ythaalhigmihijab
open Go.RowKit

/-- How many of D reach above level i. -/
def pcnt (i : Nat) (D : List Nd) : Nat := (D.filter fun n => decide (i < n.l)).length
theorem pcnt_append (i : Nat) (A B : List Nd) : pcnt i (A ++ B) = pcnt i A + pcnt i B := by simp [pcnt]
theorem pcnt_none {i : Nat} {D : List Nd} (h : ∀ x ∈ D, x.l ≤ i) : pcnt i D = 0 := by
  unfold pcnt
  rw [List.length_eq_zero_iff, List.filter_eq_nil_iff]
  intro x hx
  have := h x hx
  simp
  omega
theorem pcnt_le (i : Nat) (D : List Nd) : pcnt i D ≤ D.length := List.length_filter_le _ _
theorem pcnt_one {i : Nat} {x : Nd} (h : i < x.l) : pcnt i [x] = 1 := by simp [pcnt, h]
/-- What Path tells of those ahead of a key, of k levels, from the highest on. -/
def pathL (P : List Nd) (h k : Nat) : List Value := ((List.range k).map fun j => Value.int .i64 ((pcnt (h - 1 - j) P : Nat) : Int))
theorem pathL_succ (P : List Nd) (h k : Nat) : pathL P h (k + 1) = pathL P h k ++ [.int .i64 ((pcnt (h - 1 - k) P : Nat) : Int)] := by
  unfold pathL
  rw [List.range_succ, List.map_append]
  rfl
theorem pathL_length (P : List Nd) (h k : Nat) : (pathL P h k).length = k := by simp [pathL]
theorem left_next {p : Nat} {ns pre r : List Nd} {x : Nd} {i : Nat} (hall : hd p :: ns = pre ++ x :: r) (hn : (foot p ns).Nodup) : leftOf (foot p ns) (fol i r) < leftOf (foot p ns) (.pointer (some ⟨x.a, 0, none⟩)) := by
  have e1 : (foot p ns).idxOf x.a = pre.length := idx_at hall hn
  have hln : (foot p ns).length = pre.length + (r.length + 1) := by
    show ((hd p :: ns).map Nd.a).length = _
    rw [hall]
    simp
  have hR : leftOf (foot p ns) (.pointer (some ⟨x.a, 0, none⟩)) = (foot p ns).length - (foot p ns).idxOf x.a := rfl
  rw [hR, e1]
  rcases fol_split i r with hno | ⟨m1, y, m2, rfl, hm1, hy⟩
  · have : fol i r = .pointer none := by
      have := fol_skip (r := []) hno
      rw [List.append_nil] at this
      exact this
    rw [this]
    show 0 < _
    omega
  · rw [fol_hit hm1 hy]
    have e2 : (foot p ns).idxOf y.a = (pre ++ x :: m1).length := idx_at (show hd p :: ns = (pre ++ x :: m1) ++ y :: m2 by rw [hall]; simp) hn
    show (foot p ns).length - (foot p ns).idxOf y.a < _
    rw [e2, List.length_append, List.length_cons]
    omega
theorem less_cb : ∀ a b : List UInt8, Op.bytesLess a b = decide (Lib.compareBytes a b = -1)
  | [], [] => rfl
  | [], _ :: _ => rfl
  | _ :: _, [] => rfl
  | a :: l, b :: r => by
    unfold Op.bytesLess Lib.compareBytes
    by_cases h1 : a < b
    · simp [h1]
    · by_cases h2 : b < a
      · have h3 : ¬ a = b := fun e => by subst e; exact h1 h2
        simp [h1, h2, h3]
      · have h3 : a = b := UInt8.le_antisymm (UInt8.not_lt.1 h2) (UInt8.not_lt.1 h1)
        rw [less_cb l r]
        simp [h3]
theorem key_less (a k : ByteArray) (s : Int) (hs : s ≤ 18446744073709551615) : Op.bytesLess a.toList k.toList = decide (cmpE a s k 18446744073709551615 = -1) := by
  rw [ByteArray.toList_eq, ByteArray.toList_eq, less_cb]
  unfold cmpE
  by_cases h : Lib.compareBytes a.data.toList k.data.toList = 0
  · rw [if_pos h, h]
    have : cmpU 18446744073709551615 s ≠ -1 := by
      unfold cmpU
      split
      · omega
      · split <;> omega
    simp [this]
  · rw [if_neg h]
theorem infoI5 : (Try.prog.info? 3).map (fun i => (i.zero, i.size, i.bytes)) = some (some (.int .i64 0), 1, 8) := by kernel_rfl
set_option maxHeartbeats 8000000 in
set_option maxRecDepth 100000 in
theorem path_any {p c : Nat} {ns P Q : List Nd} {k : ByteArray} {w : World} (h : Lst p c ns w) (hc : Cut k 18446744073709551615 ns P Q) (hf : ∀ n ∈ ns, n.e.Fit) (hl : ns.length ≤ 1000000) :
    Calls Try.prog 28 #[.pointer (some ⟨p, 0, none⟩), .string k] w fun e w' => ∃ v, e = .returned v ∧ Row w' 3 1 v (hgt ns) (pathL P (hgt ns) (hgt ns)) ∧ (∀ b, ob v = some b → w.heap.size ≤ b) ∧ Below w.heap.size w w' := by
  have C := Lib.hid (height_any h)
  have hle : hgt ns ≤ 8 := hgt_le h.lev
  obtain ⟨i0, hi, hz0, hzs, hzb⟩ := info_parts infoI5
  have HH := Lib.hid h
  have HC := Lib.hid hc
  have HF := Lib.hid hf
  clear h hc hf
  generalize hh : hgt ns = H at *
  have HHG := Lib.hid hh
  clear hh
  go_enter Try.func28, Try.ntmps28
  go_wp2_with (first | (go_at_call 29; (with_reducible refine C.out.mono ?_); rintro e w1 ⟨rfl, rfl⟩) | fail)
  go_loopw [5, 6] (fun ov iv wr => ∃ (j : Nat) (V : Value) (x : Int), V = ov ∧ j ≤ H ∧ iv = .int .i64 x ∧ x = (H : Int) - 1 - (j : Int) ∧ Row wr 3 1 V j (pathL P H j) ∧ (∀ b, ob V = some b → w.heap.size ≤ b) ∧ Below w.heap.size w wr) (fun _ iv _ => (intOf iv + 1).toNat)
  case atStart => exact ⟨0, _, _, rfl, Nat.zero_le _, rfl, by simp, row_nil _ _ _, fun b hb => by simp [ob] at hb, Below.refl _ _⟩
  case round =>
    obtain ⟨j, V, x, rfl, hj, rfl, hx, hrow, hob, hbl⟩ := hrel
    have HX := Lib.hid hx
    have HRW := Lib.hid hrow
    have HOB := Lib.hid hob
    have HBL := Lib.hid hbl
    clear hx hrow hob hbl
    by_cases hlt : j < H
    · obtain ⟨i, hi9⟩ : ∃ i : Nat, x = (i : Int) := ⟨H - 1 - j, by have := HX.out; omega⟩
      subst hi9
      have hie : i = H - 1 - j := by have := HX.out; omega
      have hi8 : i < 8 := by omega
      have hi0 : (i : Int) < 8 := by omega
      have d0 : decide (0 ≤ (i : Int)) = true := by simp
      have HIE := Lib.hid hie
      clear hie
      obtain ⟨w1, rfl⟩ : ∃ w1, w1 = wr := ⟨_, rfl⟩
      have hL := HH.out.below HBL.out
      have hn0 := hL.chain [] (hd p) ns rfl
      obtain ⟨F0, hF0⟩ : ∃ F, F = fol i ns := ⟨_, rfl⟩
      have c0 : w1.cell? ⟨p, 4 + i, none⟩ = some F0 := by
        have := hn0.nxt i hi8
        rw [if_pos (show i < (hd p).l from hi8)] at this
        rw [hF0]
        exact this
      have HF0 := Lib.hid hF0
      clear hF0
      have HL := Lib.hid hL
      clear hL hn0
      go_upto_block 2 with fail
      go_cut [7, 8] from 23 to 41 (fun cv _ wx => cv = .int .i64 ((pcnt i P : Nat) : Int) ∧ wx = w1)
      case first =>
        go_wp2_with fail
        go_loopw [7, 8] (fun cv nv wr => ∃ (D R : List Nd), cv = .int .i64 ((pcnt i D : Nat) : Int) ∧ nv = fol i (R ++ Q) ∧ P = D ++ R ∧ wr = w1) (fun _ nv _ => leftOf (foot p ns) nv)
        case atStart => exact ⟨[], P, rfl, by rw [HF0.out, HC.out.all], rfl, rfl⟩
        case round =>
          obtain ⟨D, R, rfl, rfl, hdr, rfl⟩ := hrel
          rcases fol_split i R with hno | ⟨m1, x, m2, rfl, hm1, hx⟩
          · rw [fol_skip hno]
            rcases fol_split i Q with hnq | ⟨q1, x, q2, rfl, hq1, hx⟩
            · have e0 : fol i Q = .pointer none := by
                have := fol_skip (r := []) hnq
                rw [List.append_nil] at this
                exact this
              rw [e0]
              have HPC := Lib.hid (show pcnt i P = pcnt i D by rw [hdr, pcnt_append, pcnt_none hno]; rfl)
              clear hdr hno hnq e0
              go_wp2
              go_meet
              exact ⟨by rw [HPC.out], rfl⟩
            · rw [fol_hit hq1 hx]
              have hall : hd p :: ns = (hd p :: (P ++ q1)) ++ x :: q2 := by rw [HC.out.all]; simp
              have hxn := HL.out.chain _ x q2 hall
              have x0 := hxn.c0
              have hxm : x ∈ ns := by rw [HC.out.all]; simp
              have hls : Op.bytesLess x.e.k.toList k.toList = false := by
                rw [key_less _ _ x.e.s (HF.out x hxm).2.2.2]
                exact decide_eq_false (HC.out.behind x (by simp))
              have HPC := Lib.hid (show pcnt i P = pcnt i D by rw [hdr, pcnt_append, pcnt_none hno]; rfl)
              unfold pN
              clear hdr hno hq1 hall hxn hxm
              go_wp2
              go_meet
              exact ⟨by rw [HPC.out], rfl⟩
          · rw [show m1 ++ x :: m2 ++ Q = m1 ++ x :: (m2 ++ Q) by simp, fol_hit hm1 hx]
            have hall : hd p :: ns = (hd p :: (D ++ m1)) ++ x :: (m2 ++ Q) := by rw [HC.out.all, hdr]; simp
            have hxn := HL.out.chain _ x (m2 ++ Q) hall
            have x0 := hxn.c0
            have xn : wr.cell? ⟨x.a, 4 + i, none⟩ = some (fol i (m2 ++ Q)) := by
              have := hxn.nxt i hi8
              rw [if_pos hx] at this
              exact this
            have hxm : x ∈ ns := by rw [HC.out.all, hdr]; simp
            have hls : Op.bytesLess x.e.k.toList k.toList = true := by
              rw [key_less _ _ x.e.s (HF.out x hxm).2.2.2]
              exact decide_eq_true (HC.out.ahead x (by rw [hdr]; simp))
            have hpc : pcnt i D ≤ 1000000 := by
              have h1 := pcnt_le i D
              have h2 : ns.length = D.length + (m1.length + (m2.length + 1)) + Q.length := by rw [HC.out.all, hdr]; simp; omega
              omega
            have HPC := Lib.hid (show pcnt i (D ++ m1 ++ [x]) = pcnt i D + 1 by rw [pcnt_append, pcnt_append, pcnt_none hm1, pcnt_one hx])
            have HDR := Lib.hid (show P = (D ++ m1 ++ [x]) ++ m2 by rw [hdr]; simp)
            have HLF := Lib.hid (show leftOf (foot p ns) (fol i (m2 ++ Q)) < leftOf (foot p ns) (.pointer (some ⟨x.a, 0, none⟩)) from left_next hall HL.out.nodup)
            unfold pN
            clear hdr hm1 hall hxn hxm
            go_wp2
            go_roundw
            case rel => exact ⟨D ++ m1 ++ [x], m2, by rw [HPC.out]; go_num, rfl, HDR.out, (by first | rfl | trivial)⟩
            case measure => exact HLF.out
      case rest =>
        obtain ⟨rfl, rfl⟩ := hcut
        have HBa := Lib.hid (show j + 1 ≤ maxLen by unfold maxLen; omega)
        have HBb := Lib.hid (show (j + 1) * 8 ≤ 140737488355328 by omega)
        have hpc : pcnt i P ≤ 1000000 := by
          have h1 := pcnt_le i P
          have h2 : ns.length = P.length + Q.length := by rw [HC.out.all]; simp
          omega
        have HSrc := Lib.hid (show ∀ w3 : World, Src Try.prog 1 23 (.slice (some ⟨w3.heap.size, 0, none⟩) 1 1) 1 [.int .i64 ((pcnt i P : Nat) : Int)] (w3.alloc (.cells #[.int .i64 ((pcnt i P : Nat) : Int)] 3)) from fun w3 => Src.ofSlice (P := Try.prog) _ (size := 1) Try.underlying23 ⟨w3.heap.size, 0, none⟩ 1 1 _ rfl (fun t u hu => by
          match t, hu with
          | 0, hu => simpa [Addr.add] using hu) (by simp [Value.oneCell']))
        have hal : ∀ o : Obj, Below wc.heap.size wc (wc.alloc o) := fun o => (Below.refl _ _).alloc (Nat.le_refl _) o
        have HAL := Lib.hid hal
        clear hal
        go_wp2_with (first
          | (at_builtin; refine wpList_append_row _ rfl _ _ 23 23 rfl 3 i0 _ 1 8 Try.underlying23 hi hz0 hzs hzb rfl V _ _ rfl (row_below HRW.out (HAL.out _)) _ rfl 1 _ (HSrc.out _) HBa.out HBb.out ?_; intro v' w5 hrow5 hgrow5 hob5)
          | fail)
        have hB4 := HBL.out.trans ((HAL.out (.cells #[.int .i64 ((pcnt i P : Nat) : Int)] 3)).mono HBL.out.size)
        have hB5 : Below w.heap.size w w5 := hB4.trans ((turn_of_grown (F := (ob V).toList) hgrow5 (fun k hk => .inl (by simp [hk]))).below hB4.size (fun k hk => HOB.out k (by simpa using hk)))
        have hxx := HX.out
        go_roundw
        case rel =>
          refine ⟨j + 1, v', (i : Int) - 1, rfl, by omega, by go_num, by omega, ?_, fun b hb => ?_, hB5⟩
          · rw [pathL_succ, ← HIE.out]
            exact hrow5
          · rcases hob5 with e | ⟨e, -⟩
            · exact HOB.out b (by rw [← e]; exact hb)
            · rw [e] at hb
              cases hb
              exact hB4.size
        case measure => simp [intOf]
    · obtain rfl : j = H := by omega
      obtain rfl : x = -1 := by have := HX.out; omega
      have d0 : decide (0 ≤ (-1 : Int)) = false := by decide
      go_wp2
      go_ret
      exact ⟨V, rfl, HRW.out, HOB.out, HBL.out⟩
end Go.Proofs.Ythaalhigmihijab
