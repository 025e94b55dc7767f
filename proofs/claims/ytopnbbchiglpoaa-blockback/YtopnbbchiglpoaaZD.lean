/- The document's own Put of a version. -/
import Derived.Test.YtopnbbchiglpoaaZB
namespace Go.Proofs.Ytopnbbchiglpoaa
open Go.RowKit

/-- A version's cells. -/
structure Q4 (X : Nat) (K : ByteArray) (sq nn : Nat) (U : ByteArray) (W : World) : Prop where
  q : W.cell? ⟨X, 0, none⟩ = some (.string K) ∧ W.cell? ⟨X, 1, none⟩ = some (.int .u64 (sq : Int)) ∧ W.cell? ⟨X, 2, none⟩ = some (.int .i64 (nn : Int)) ∧ W.cell? ⟨X, 3, none⟩ = some (.string U)
section
variable {X : Nat} {K : ByteArray} {sq nn : Nat} {U : ByteArray} {W W' : World}
theorem Q4.below (h : Q4 X K sq nn U W) (hb : Below W.heap.size W W') : Q4 X K sq nn U W' := ⟨⟨kkB hb h.q.1, kkB hb h.q.2.1, kkB hb h.q.2.2.1, kkB hb h.q.2.2.2⟩⟩
theorem Q4.alloc (h : Q4 X K sq nn U W) (x : Obj) : Q4 X K sq nn U (W.alloc x) := h.below ((Below.refl _ _).alloc (Nat.le_refl _) x)
theorem Q4.drew (h : Q4 X K sq nn U W) : Q4 X K sq nn U W.drew := h.below (belowN (Below.refl _ _) 1)
end
set_option maxHeartbeats 8000000 in
set_option maxRecDepth 100000 in
theorem put5_any (x : Ent) (hok : x.Ok) (hv : vldE x = true) (w : World) :
    Calls Try.prog 11 #[.agg #[.string x.k, .int .u64 x.s, .int .i64 x.n, .string x.v]] w fun e w' => ∃ s : ByteArray, e = .returned (.tuple #[.string s, .int .i64 0]) ∧ Hid (s.size = oneN x) ∧ Below w.heap.size w w' := by
  obtain ⟨K, SQ, NN, U⟩ := x
  have CV := Lib.hid (fun W => valid5_any K SQ NN U W hok.1 hok.2.2.2.2.2)
  rw [show validB K NN U = true from hv] at CV
  have hvx := valid_parts hv
  unfold Ent.Ok at hok
  simp only at hok hvx ⊢
  obtain ⟨sq, rfl⟩ : ∃ sq : Nat, SQ = (sq : Int) := ⟨SQ.toNat, by omega⟩
  obtain ⟨nn, rfl⟩ : ∃ nn : Nat, NN = (nn : Int) := ⟨NN.toNat, by omega⟩
  have hsq : sq < 18446744073709551616 := by omega
  have hnn2 : nn ≤ 2 := by omega
  have hwN : IntKind.u64.wrap (nn : Int) = (nn : Int) := by rw [IntKind.wrap_u64]; omega
  have C2 := Lib.hid (fun W => refText_any K W (by omega))
  have C3 := Lib.hid (fun W n h0 h1 => vars2B sq nn hsq (by omega) W n h0 h1)
  have C4 := Lib.hid (fun W => refText_any U W (by omega))
  have hu2 := uv_len K.size (by omega)
  have hu3 := vars_length [sq, nn] (fun z hz => by simp at hz; omega)
  have hu4 := uv_len U.size (by omega)
  obtain ⟨Z2, hZ2⟩ : ∃ Z : ByteArray, ⟨(Lib.uvarint K.size ++ K.data.toList).toArray⟩ = Z := ⟨_, rfl⟩
  obtain ⟨Z3, hZ3⟩ : ∃ Z : ByteArray, ⟨(vars [sq, nn]).toArray⟩ = Z := ⟨_, rfl⟩
  obtain ⟨Z4, hZ4⟩ : ∃ Z : ByteArray, ⟨(Lib.uvarint U.size ++ U.data.toList).toArray⟩ = Z := ⟨_, rfl⟩
  rw [hZ2] at C2
  rw [hZ3] at C3
  rw [hZ4] at C4
  have hz2 : Z2.size ≤ 400 := by rw [← hZ2, str_size, List.length_append, len_data']; omega
  have hz3 : Z3.size ≤ 30 := by rw [← hZ3, str_size]; simp only [List.length_cons, List.length_nil] at hu3; omega
  have hz4 : Z4.size ≤ 61000 := by rw [← hZ4, str_size, List.length_append, len_data']; omega
  have e1 : (Z2 ++ Z3).size = Z2.size + Z3.size := by simp
  have e2 : (Z2 ++ Z3 ++ Z4).size = Z2.size + Z3.size + Z4.size := by simp
  have HN := Lib.hid (show (Z2 ++ Z3 ++ Z4).size = oneN ⟨K, (sq : Int), (nn : Int), U⟩ by
    rw [e2]
    unfold oneN
    rw [List.length_append, List.length_append, ← hZ2, ← hZ3, ← hZ4, str_size, str_size, str_size]
    rfl)
  have j1 : ∀ w, (Op.stringOp .add Z2 Z3).run Try.prog w = .ok (.string (Z2 ++ Z3)) w := fun w => run_string_add_sum w _ _ (by omega)
  have j2 : ∀ w, (Op.stringOp .add (Z2 ++ Z3) Z4).run Try.prog w = .ok (.string (Z2 ++ Z3 ++ Z4)) w := fun w => run_string_add_sum w _ _ (by omega)
  generalize hB1 : Z2 ++ Z3 = B1 at j1 j2 e1 e2 HN
  generalize hB2 : B1 ++ Z4 = B2 at j2 e2 HN
  clear hB1 hB2
  obtain ⟨W0, hW0⟩ : ∃ W0, w.alloc (.cells #[.string K, .int .u64 (sq : Int), .int .i64 (nn : Int), .string U] 34) = W0 := ⟨_, rfl⟩
  have HB0 := Lib.hid (show Below w.heap.size w W0 by rw [← hW0]; exact (Below.refl _ _).alloc (Nat.le_refl _) _)
  have HBX := Lib.hid (show Boxe w.heap.size K (sq : Int) (nn : Int) U W0 by rw [← hW0]; exact new_block _ _ rfl)
  have q0 : W0.cell? ⟨w.heap.size, 0, none⟩ = some (.string K) := HBX.out.c0
  have q1 : W0.cell? ⟨w.heap.size, 1, none⟩ = some (.int .u64 (sq : Int)) := HBX.out.c1
  have q2 : W0.cell? ⟨w.heap.size, 2, none⟩ = some (.int .i64 (nn : Int)) := HBX.out.c2
  have q3 : W0.cell? ⟨w.heap.size, 3, none⟩ = some (.string U) := HBX.out.c3
  clear hZ2 hZ3 hZ4 hu2 hu3 hu4 hok hvx hv
  go_enter Try.func11, Try.ntmps11
  go_upto_region 3 with (go_at_call 21; (with_reducible refine (CV.out _).mono ?_); rintro _ W1 ⟨rfl, b1⟩)
  have hB1 := HB0.out.trans (b1.mono HB0.out.size)
  have HB1W := Lib.hid hB1
  have X0 := HBX.out.below b1
  generalize w.heap.size = X at X0 HBX q0 q1 q2 q3 ⊢
  have gC : Q4 X K sq nn U W1 := ⟨X0.c0, X0.c1, X0.c2, X0.c3⟩
  have gD := gC.drew
  have c0 := gD.q.1
  have c1 := gD.q.2.1
  have c2 := gD.q.2.2.1
  have c3 := gD.q.2.2.2
  have HAL := Lib.hid (show ∀ (W : World) (o : Obj) (W' : World), Below (W.alloc o).heap.size (W.alloc o) W' → Below W.heap.size W W' from fun W o W' h => ((Below.refl _ _).alloc (Nat.le_refl _) o).trans (h.mono (by simp)))
  have HDR := Lib.hid (show ∀ (W W' : World), Below W.drew.heap.size W.drew W' → Below W.heap.size W W' from fun W W' h => (Below.refl W.heap.size W).drew.trans h)
  clear hW0 q0 q1 q2 q3 X0 HBX b1 CV HB0
  go_region_held3 (fun w' => w'.cell? ⟨X, 0, none⟩ = some (.string K) ∧ w'.cell? ⟨X, 1, none⟩ = some (.int .u64 (sq : Int)) ∧ w'.cell? ⟨X, 2, none⟩ = some (.int .i64 (nn : Int)) ∧ w'.cell? ⟨X, 3, none⟩ = some (.string U))
    (first | assumption | with_reducible exact gD.q | with_reducible exact g7.q | with_reducible exact g8.q | with_reducible exact g9.q | with_reducible exact (gD.alloc _).q | with_reducible exact (gC.alloc _).drew.q | with_reducible exact (g7.alloc _).q | go_keep)
    (first
    | (go_at_call 22; (with_reducible refine (C2.out _).mono ?_); rintro e w7 ⟨rfl, b7⟩; have g7 : Q4 X K sq nn U w7 := (by first | with_reducible exact gD.below b7 | with_reducible exact (gD.alloc _).below b7 | with_reducible exact ((gC.alloc _).drew).below b7); have h7 : Below W1.heap.size W1 w7 := (by first | with_reducible exact HDR.out _ _ b7 | with_reducible exact HDR.out _ _ (HAL.out _ _ _ b7) | with_reducible exact HAL.out _ _ _ (HDR.out _ _ b7)))
    | (go_at_call 23; (with_reducible refine (C3.out _ _ ?hca ?hda).mono ?_); (case hca => (repeat (first | with_reducible exact nlist0 (by first | rfl | (simp; done)) | with_reducible refine kkB b7 ?_ | with_reducible refine drcB ?_)); done); (case hda => (repeat (first | with_reducible exact nlist1 (by first | rfl | (simp; done)) | with_reducible refine kkB b7 ?_ | with_reducible refine drcB ?_)); done); rintro e w8 ⟨rfl, b8⟩; have g8 : Q4 X K sq nn U w8 := (by first | with_reducible exact g7.below b8 | with_reducible exact (g7.alloc _).below b8); have h8 : Below w7.heap.size w7 w8 := (by first | with_reducible exact b8 | with_reducible exact HAL.out _ _ _ b8))
    | (go_at_call 23; (with_reducible refine (C3.out _ _ ?hcb ?hdb).mono ?_); (case hcb => (repeat (first | with_reducible exact nlist0 (by first | rfl | (simp; done)) | with_reducible refine kkB b7 ?_ | with_reducible refine drcB ?_)); done); (case hdb => (repeat (first | with_reducible exact nlist1 (by first | rfl | (simp; done)) | with_reducible refine kkB b7 ?_ | with_reducible refine drcB ?_)); done); rintro e w8 ⟨rfl, b8⟩; have g8 : Q4 X K sq nn U w8 := (by first | with_reducible exact g7.below b8 | with_reducible exact (g7.alloc _).below b8); have h8 : Below w7.heap.size w7 w8 := (by first | with_reducible exact b8 | with_reducible exact HAL.out _ _ _ b8))
    | (go_at_call 23; (with_reducible refine (C3.out _ _ ?hcc ?hdc).mono ?_); (case hcc => (repeat (first | with_reducible exact nlist0 (by first | rfl | (simp; done)) | with_reducible refine kkB b7 ?_ | with_reducible refine drcB ?_)); done); (case hdc => (repeat (first | with_reducible exact nlist1 (by first | rfl | (simp; done)) | with_reducible refine kkB b7 ?_ | with_reducible refine drcB ?_)); done); rintro e w8 ⟨rfl, b8⟩; have g8 : Q4 X K sq nn U w8 := (by first | with_reducible exact g7.below b8 | with_reducible exact (g7.alloc _).below b8); have h8 : Below w7.heap.size w7 w8 := (by first | with_reducible exact b8 | with_reducible exact HAL.out _ _ _ b8))
    | (go_at_call 23; (with_reducible refine (C3.out _ _ ?hcd ?hdd).mono ?_); (case hcd => (repeat (first | with_reducible exact nlist0 (by first | rfl | (simp; done)) | with_reducible refine kkB b7 ?_ | with_reducible refine drcB ?_)); done); (case hdd => (repeat (first | with_reducible exact nlist1 (by first | rfl | (simp; done)) | with_reducible refine kkB b7 ?_ | with_reducible refine drcB ?_)); done); rintro e w8 ⟨rfl, b8⟩; have g8 : Q4 X K sq nn U w8 := (by first | with_reducible exact g7.below b8 | with_reducible exact (g7.alloc _).below b8); have h8 : Below w7.heap.size w7 w8 := (by first | with_reducible exact b8 | with_reducible exact HAL.out _ _ _ b8))
    | (go_at_call 23; (with_reducible refine (C3.out _ _ ?hce ?hde).mono ?_); (case hce => (repeat (first | with_reducible exact nlist0 (by first | rfl | (simp; done)) | with_reducible refine kkB b7 ?_ | with_reducible refine drcB ?_)); done); (case hde => (repeat (first | with_reducible exact nlist1 (by first | rfl | (simp; done)) | with_reducible refine kkB b7 ?_ | with_reducible refine drcB ?_)); done); rintro e w8 ⟨rfl, b8⟩; have g8 : Q4 X K sq nn U w8 := (by first | with_reducible exact g7.below b8 | with_reducible exact (g7.alloc _).below b8); have h8 : Below w7.heap.size w7 w8 := (by first | with_reducible exact b8 | with_reducible exact HAL.out _ _ _ b8))
    | (go_at_call 23; (with_reducible refine (C3.out _ _ ?hcf ?hdf).mono ?_); (case hcf => (repeat (first | with_reducible exact nlist0 (by first | rfl | (simp; done)) | with_reducible refine kkB b7 ?_ | with_reducible refine drcB ?_)); done); (case hdf => (repeat (first | with_reducible exact nlist1 (by first | rfl | (simp; done)) | with_reducible refine kkB b7 ?_ | with_reducible refine drcB ?_)); done); rintro e w8 ⟨rfl, b8⟩; have g8 : Q4 X K sq nn U w8 := (by first | with_reducible exact g7.below b8 | with_reducible exact (g7.alloc _).below b8); have h8 : Below w7.heap.size w7 w8 := (by first | with_reducible exact b8 | with_reducible exact HAL.out _ _ _ b8))
    | (go_at_call 22; (with_reducible refine (C4.out _).mono ?_); rintro e w9 ⟨rfl, b9⟩; have g9 : Q4 X K sq nn U w9 := g8.below b9)
    | fail)
  all_goals go_wp2
  all_goals go_ret2
  all_goals exact ⟨B2, rfl, HN, ((HB1W.out.trans (h7.mono HB1W.out.size)).trans (h8.mono (Nat.le_trans HB1W.out.size h7.size))).trans (b9.mono (Nat.le_trans HB1W.out.size (Nat.le_trans h7.size h8.size)))⟩
end Go.Proofs.Ytopnbbchiglpoaa
