/- The walk of SumParts: a sum of parts is that of all of them together. -/
import Derived.Test.YteejghhcmmocfaaPP
namespace Go.Proofs.Yteejghhcmmocfaa
open Go.RowKit
attribute [local go_sem ↓] Go.wp_at_zero Go.wp_at_succ

theorem crc_three (A B C : ByteArray) (b cap : Nat) (w : World) (hA : A.size ≤ maxLen) (hB : B.size ≤ maxLen) (hC : C.size ≤ maxLen) (h0 : w.cell? ⟨b, 0, none⟩ = some (.string A)) (h1 : w.cell? ⟨b, 1, none⟩ = some (.string B)) (h2 : w.cell? ⟨b, 2, none⟩ = some (.string C)) :
    Calls Try.prog 9 #[.slice (some ⟨b, 0, none⟩) 3 cap] w fun e w' => e = .returned (.int .u32 (crc (A.data.toList ++ (B.data.toList ++ C.data.toList)) : Nat)) ∧ w = w' := by
  have h := crc_rows b 0 cap [A, B, C] w (by simp) (by simpa using ⟨hA, hB, hC⟩) (fun i hi => by
    match i, hi with
    | 0, _ => simpa using h0
    | 1, _ => simpa using h1
    | 2, _ => simpa using h2)
  simpa [cat] using h
theorem frame_one (A : ByteArray) (b cap : Nat) (w : World) (hA : A.size ≤ 100000) (h0 : w.cell? ⟨b, 0, none⟩ = some (.string A)) :
    Calls Try.prog 10 #[.slice (some ⟨b, 0, none⟩) 1 cap] w fun e w' => e = .returned (.string ⟨(frm A.data.toList).toArray⟩) ∧ Below w.heap.size w w' := by
  have h := frame_rows b 0 cap [A] w (block_lt h0) (by simp) (by simp [total]; omega) (fun i hi => by
    match i, hi with
    | 0, _ => simpa using h0)
  simpa [texts, frames] using h
theorem frame_two (A C : ByteArray) (b cap : Nat) (w : World) (hA : A.size ≤ 100000) (hC : C.size ≤ 100000) (h0 : w.cell? ⟨b, 0, none⟩ = some (.string A)) (h1 : w.cell? ⟨b, 1, none⟩ = some (.string C)) :
    Calls Try.prog 10 #[.slice (some ⟨b, 0, none⟩) 2 cap] w fun e w' => e = .returned (.string ⟨(frm A.data.toList ++ frm C.data.toList).toArray⟩) ∧ Below w.heap.size w w' := by
  have h := frame_rows b 0 cap [A, C] w (block_lt h0) (by simp) (by simp [total]; omega) (fun i hi => by
    match i, hi with
    | 0, _ => simpa using h0
    | 1, _ => simpa using h1)
  simpa [texts, frames] using h

theorem parts_easy (s : ByteArray) (hs : s.size ≤ maxLen) (a b : Int) (w : World) (h : 3000 < s.size ∨ a < 0 ∨ b < a ∨ (s.size : Int) < b) :
    Calls Try.prog 3 #[.string s, .int .i64 a, .int .i64 b] w fun e w' => e = .returned (.bool true) ∧ Below w.heap.size w w' := by
  unfold maxLen at hs
  by_cases h1 : 3000 < s.size
  · go_enter Try.func3, Try.ntmps3
    go_wp2_with (go_at_call 8; refine (alive_any _).mono ?_; rintro e w1 ⟨rfl, hb1⟩)
    go_ret
    exact ⟨rfl, hb1⟩
  · have hd1 : decide (3000 < s.size) = false := by simpa using h1
    by_cases h2 : a < 0
    · go_enter Try.func3, Try.ntmps3
      go_wp2_with (go_at_call 8; refine (alive_any _).mono ?_; rintro e w1 ⟨rfl, hb1⟩)
      go_ret
      exact ⟨rfl, hb1⟩
    · have hd2 : decide (a < 0) = false := by simpa using h2
      by_cases h3 : b < a
      · go_enter Try.func3, Try.ntmps3
        go_wp2_with (go_at_call 8; refine (alive_any _).mono ?_; rintro e w1 ⟨rfl, hb1⟩)
        go_ret
        exact ⟨rfl, hb1⟩
      · have hd3 : decide (b < a) = false := by simpa using h3
        have h4 : (s.size : Int) < b := by omega
        go_enter Try.func3, Try.ntmps3
        go_wp2_with (go_at_call 8; refine (alive_any _).mono ?_; rintro e w1 ⟨rfl, hb1⟩)
        go_ret
        exact ⟨rfl, hb1⟩
theorem wpAnyH_same {P : Program} {md : Region.Mode} {ops ops' : Array Oper} {Q : Exit → Act → World → Prop} {S : World → Prop} {n n' : Nat} {l l' : Array Bool} {a : Act} {w : World} (h : ops = ops') (hn : n = n') (hl : l = l') (k : wpAnyH P md ops' Q S n' l' a w) : wpAnyH P md ops Q S n l a w := by
  subst h hn hl
  exact k
set_option maxHeartbeats 4000000 in
set_option maxRecDepth 100000 in
theorem parts_hard (s : ByteArray) (a b : Nat) (w : World) (hs : s.size ≤ 3000) (hab : a ≤ b) (hbs : b ≤ s.size) :
    Calls Try.prog 3 #[.string s, .int .i64 (a : Int), .int .i64 (b : Int)] w fun e w' => e = .returned (.bool true) ∧ Below w.heap.size w w' := by
  have hln : s.data.toList.length = s.size := rfl
  obtain ⟨A, hA⟩ : ∃ A : ByteArray, s.extract 0 a = A := ⟨_, rfl⟩
  obtain ⟨B, hB⟩ : ∃ B : ByteArray, s.extract a b = B := ⟨_, rfl⟩
  obtain ⟨C, hC⟩ : ∃ C : ByteArray, s.extract b s.size = C := ⟨_, rfl⟩
  obtain ⟨D, hD⟩ : ∃ D : ByteArray, s.extract a s.size = D := ⟨_, rfl⟩
  have hAl : A.data.toList = s.data.toList.take a := by rw [← hA, ext_to]
  have hBl : B.data.toList = (s.data.toList.take b).drop a := by rw [← hB, ext_list]
  have hCl : C.data.toList = s.data.toList.drop b := by rw [← hC, ext_from]
  have hDl : D.data.toList = s.data.toList.drop a := by rw [← hD, ext_from]
  have hAs : A.size ≤ s.size := by show A.data.toList.length ≤ _; rw [hAl, List.length_take]; omega
  have hBs : B.size ≤ s.size := by show B.data.toList.length ≤ _; rw [hBl, List.length_drop, List.length_take]; omega
  have hCs : C.size ≤ s.size := by show C.data.toList.length ≤ _; rw [hCl, List.length_drop]; omega
  have hDs : D.size ≤ s.size := by show D.data.toList.length ≤ _; rw [hDl, List.length_drop]; omega
  have hABC : A.data.toList ++ (B.data.toList ++ C.data.toList) = s.data.toList := by
    rw [hAl, hBl, hCl]
    have e1 : s.data.toList.take a = (s.data.toList.take b).take a := by rw [List.take_take, Nat.min_eq_left hab]
    rw [e1, ← List.append_assoc, List.take_append_drop, List.take_append_drop]
  have hc3 := Lib.hid (fun (w' : World) (b' : Nat) h0 h1 h2 => crc_three A B C b' 3 w' (by unfold maxLen; omega) (by unfold maxLen; omega) (by unfold maxLen; omega) h0 h1 h2)
  have hc1 := Lib.hid (fun (w' : World) (b' : Nat) h0 => crc_one s b' 1 w' (by unfold maxLen; omega) h0)
  rw [hABC] at hc3
  generalize crc s.data.toList = c at hc3 hc1
  have hc0 := Lib.hid (fun w' : World => crc_none none 0 w')
  have hc2 := Lib.hid (fun (w' : World) (b' : Nat) h0 h1 => crc_two ⟨#[]⟩ ⟨#[]⟩ b' 2 w' (by unfold maxLen; simp [ByteArray.size]) (by unfold maxLen; simp [ByteArray.size]) h0 h1)
  rw [show (⟨#[]⟩ : ByteArray).data.toList ++ (⟨#[]⟩ : ByteArray).data.toList = cat [] from rfl] at hc2
  generalize crc (cat []) = d at hc0 hc2
  have hfA := Lib.hid (fun (w' : World) (b' : Nat) h0 => frame_one A b' 1 w' (by omega) h0)
  have hfD := Lib.hid (fun (w' : World) (b' : Nat) h0 => frame_one D b' 1 w' (by omega) h0)
  have hfAD := Lib.hid (fun (w' : World) (b' : Nat) h0 h1 => frame_two A D b' 2 w' (by omega) (by omega) h0 h1)
  obtain ⟨FA, hFA⟩ : ∃ F : ByteArray, F = ⟨(frm A.data.toList).toArray⟩ := ⟨_, rfl⟩
  obtain ⟨FD, hFD⟩ : ∃ F : ByteArray, F = ⟨(frm D.data.toList).toArray⟩ := ⟨_, rfl⟩
  obtain ⟨G, hG⟩ : ∃ F : ByteArray, F = ⟨(frm A.data.toList ++ frm D.data.toList).toArray⟩ := ⟨_, rfl⟩
  rw [← hFA] at hfA
  rw [← hFD] at hfD
  rw [← hG] at hfAD
  have hcat : FA ++ FD = G := by rw [hFA, hFD, hG, cat_str]
  have hFAs : FA.data.size ≤ 4000 := by
    rw [hFA]
    show (frm A.data.toList).toArray.size ≤ _
    rw [List.size_toArray, frm_length]
    have : A.data.toList.length = A.size := rfl
    omega
  have hFDs : FD.data.size ≤ 4000 := by
    rw [hFD]
    show (frm D.data.toList).toArray.size ≤ _
    rw [List.size_toArray, frm_length]
    have : D.data.toList.length = D.size := rfl
    omega
  have hkF : ¬ (9223372036854775807 < FA.size + FD.size) := by
    have h1 : FA.size = FA.data.size := rfl
    have h2 : FD.size = FD.data.size := rfl
    omega
  clear hFAs hFDs
  have hd1 : decide (3000 < s.size) = false := by simp; omega
  have hd2 : decide ((a : Int) < 0) = false := by simp
  have hd3 : decide (b < a) = false := by simp; omega
  have hd4 : decide (s.size < b) = false := by simp; omega
  have i1 : (0 : Int) ≤ (a : Int) := by omega
  have i2 : (a : Int) ≤ (b : Int) := by omega
  have i3 : (b : Int) ≤ (s.size : Int) := by omega
  have i4 : (a : Int) ≤ (s.size : Int) := by omega
  clear hFA hFD hG hABC hAl hBl hCl hDl hln hAs hBs hCs hDs
  go_enter Try.func3, Try.ntmps3
  go_wp2
  refine wp_region_noPanic ?_
  refine wp_region_held_drew (S := fun _ => True) (by kernel_rfl) trivial (fun _ => ?_)
  refine wpAnyH_same (ops' := OPS) (by kernel_rfl) (n' := 48) (by kernel_rfl) (by kernel_rfl) (st1 (w := w) (A := A) (B := B) (C := C) (D := D) (FA := FA) (FD := FD) (G := G) (cc := c) (dd := d) ?_ ?_)
  · refine ⟨⟨hA, hB, hC, hD, hcat, hkF, i1, i2, i3, i4⟩, fun _ _ _ _ h => h, hfA.out, hfD.out, hfAD.out, hc0.out, hc1.out, hc2.out, hc3.out, ?_⟩
    intros
    rename_i hbW
    refine NoPanic.normal ?_
    go_wp2
    go_ret
    exact ⟨rfl, hbW⟩
  · exact (Below.refl _ _).drew

theorem sumParts_walk (s : ByteArray) (hs : s.size ≤ maxLen) (a : Int) (_ : -9223372036854775808 ≤ a) (_ : a ≤ 9223372036854775807) (b : Int) (_ : -9223372036854775808 ≤ b) (_ : b ≤ 9223372036854775807) (w : World) :
    Calls Try.prog 3 #[.string s, .int .i64 a, .int .i64 b] w fun e w' => e = .returned (.bool true) ∧ Below w.heap.size w w' := by
  by_cases h : 3000 < s.size ∨ a < 0 ∨ b < a ∨ (s.size : Int) < b
  · exact parts_easy s hs a b w h
  · obtain ⟨x, rfl⟩ : ∃ x : Nat, a = (x : Int) := ⟨a.toNat, by omega⟩
    obtain ⟨y, rfl⟩ : ∃ y : Nat, b = (y : Int) := ⟨b.toNat, by omega⟩
    exact parts_hard s x y w (by omega) (by omega) (by omega)
end Go.Proofs.Yteejghhcmmocfaa
