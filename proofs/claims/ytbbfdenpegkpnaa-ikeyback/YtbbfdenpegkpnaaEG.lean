/- ikey's Get, of bytes that Put told. -/
import Derived.Test.YtbbfdenpegkpnaaEN
import Derived.Test.YtbbfdenpegkpnaaE3
namespace Go.Proofs.Ytbbfdenpegkpnaa
open Go.RowKit

theorem IsRd.grown {w w' : World} {b : Nat} {s : ByteArray} {e : Int} (h : IsRd w b s e) (hb : Below w.heap.size w w') : IsRd w' b s e := h.below hb h.lt
theorem str_size (l : List UInt8) : (⟨l.toArray⟩ : ByteArray).size = l.length := by simp [ByteArray.size]
theorem Boxe.grown {B b : Nat} {k : ByteArray} {s n : Int} {v : ByteArray} {w w' : World} (h : Boxe B k s n v w) (g : w.grownBy w' (some b)) (hne : B ≠ b) : Boxe B k s n v w' :=
  (g.block B h.lt (fun e => hne (by cases e; rfl))).trans h
theorem grown_trans {w w1 w2 : World} {r : Option Nat} (h : w.grownBy w1 r) (k : w1.grownBy w2 r) : w.grownBy w2 r :=
  ⟨k.os.trans h.os, k.tape.trans h.tape, k.output.trans h.output, Nat.le_trans h.size k.size, fun i hi hr => (k.block i (Nat.lt_of_lt_of_le hi h.size) hr).trans (h.block i hi hr)⟩
theorem grown_below {w w1 : World} (h : Below w.heap.size w w1) (r : Option Nat) : w.grownBy w1 r := ⟨h.os, h.tape, h.output, h.size, fun k hk _ => h.block k hk⟩
theorem grown_set {w w1 : World} {b j : Nat} (h : w.grownBy w1 (some b)) {B : Nat} (hB : w.heap.size ≤ B) (v : Value) : w.grownBy (w1.setCell ⟨B, j, none⟩ v) (some b) :=
  ⟨h.os, h.tape, h.output, by simpa using h.size, fun k hk hr => (Below.heap_setCell w1 ⟨B, j, none⟩ v k (by show k ≠ B; omega)).trans (h.block k hk hr)⟩
theorem rtext_at (x : ByteArray) (b : Nat) (most : Int) (rest : List UInt8) (W : World) (h : IsRd W b ⟨(texts [x] ++ rest).toArray⟩ 0) (hx : (x.size : Int) ≤ most) (hm : most ≤ 1000000) (hr : rest.length ≤ 1000000) :
    Calls Try.prog 46 #[.pointer (some ⟨b, 0, none⟩), .int .i64 most] W fun e w' => e = .returned (.string x) ∧ IsRd w' b ⟨rest.toArray⟩ 0 ∧ W.grownBy w' (some b) := by
  have hl := len_data' x
  have ht : (texts [x] ++ rest) = Lib.uvarint x.data.toList.length ++ (x.data.toList ++ rest) := by rw [hl]; simp [texts]
  have hz := Lib.uvarint_length64 (x := x.data.toList.length) (by omega)
  have := rtext_ok b _ most W h (by rw [str_size, ht, List.length_append, List.length_append]; omega) (by omega) (t := x.data.toList) (r := rest) (by rw [List.toList_toArray, ht]; exact decT_laid most _ _ (by omega) (by omega))
  rw [str_eta] at this
  exact this
theorem rvar_at (x : Nat) (b : Nat) (rest : List UInt8) (W : World) (h : IsRd W b ⟨(Lib.uvarint x ++ rest).toArray⟩ 0) (hx : x < 18446744073709551616) (hr : rest.length ≤ 1000000) :
    Calls Try.prog 47 #[.pointer (some ⟨b, 0, none⟩)] W fun e w' => e = .returned (.int .u64 (x : Int)) ∧ IsRd w' b ⟨rest.toArray⟩ 0 ∧ W.grownBy w' (some b) := by
  have hz := Lib.uvarint_length64 hx
  exact rvar_ok b _ W h (by rw [str_size, List.length_append]; omega) (by rw [List.toList_toArray]; exact decV_laid x rest hx)
set_option maxHeartbeats 4000000 in
set_option maxRecDepth 100000 in
theorem get_ok (k : ByteArray) (s n : Nat) (v : ByteArray) (b : Nat) (w : World) (hk : k.size ≤ 300) (hv : v.size ≤ 60000) (hs : s < 18446744073709551616) (hn : n ≤ 9223372036854775807) (hval : validB k n v = true) (h : IsRd w b ⟨(texts [k] ++ (Lib.uvarint s ++ (Lib.uvarint n ++ (texts [v] ++ [])))).toArray⟩ 0) :
    Calls Try.prog 25 #[.pointer (some ⟨b, 0, none⟩)] w fun e w' => e = .returned (.agg #[.string k, .int .u64 (s : Int), .int .i64 (n : Int), .string v]) ∧ IsRd w' b ⟨#[]⟩ 0 ∧ w.grownBy w' (some b) := by
  have lv : (texts [v]).length ≤ 100000 := by
    have := texts_length [v] (fun x hx => by simp at hx; subst hx; unfold maxLen; omega)
    simp [total] at this
    omega
  have zs := Lib.uvarint_length64 hs
  have zn := Lib.uvarint_length64 (x := n) (by omega)
  have C1 := Lib.hid (fun W h => rtext_at k b 300 (Lib.uvarint s ++ (Lib.uvarint n ++ (texts [v] ++ []))) W h (by omega) (by omega) (by simp; omega))
  have C2 := Lib.hid (fun W h => rvar_at s b (Lib.uvarint n ++ (texts [v] ++ [])) W h hs (by simp; omega))
  have C3 := Lib.hid (fun W h => rvar_at n b (texts [v] ++ []) W h (by omega) (by simp; omega))
  have C4 := Lib.hid (fun W h => rtext_at v b 60000 [] W h (by omega) (by omega) (by simp))
  have cx := fun W => valid_any k s n v W (by unfold maxLen; omega) (by unfold maxLen; omega)
  rw [hval] at cx
  have CX := Lib.hid cx
  unfold ev at CX
  have C5 := Lib.hid (fun W h => err_any b ⟨#[]⟩ 0 W h)
  have HI := Lib.hid h
  have hwr : IntKind.i64.wrap (n : Int) = (n : Int) := by rw [IntKind.wrap_i64]; omega
  have HLT := Lib.hid h.lt
  have HY := Lib.hid (show ∀ W1 W2 W3 W4 : World, (w.alloc (.cells #[.string ⟨#[]⟩, .int .u64 0, .int .i64 0, .string ⟨#[]⟩] 43)).grownBy W1 (some b) → W1.grownBy W2 (some b) → W2.grownBy W3 (some b) → W3.grownBy W4 (some b) → Boxe w.heap.size ⟨#[]⟩ 0 0 ⟨#[]⟩ W4 from fun W1 W2 W3 W4 g1 g2 g3 g4 => by
    have hne : w.heap.size ≠ b := by have := h.lt; omega
    have y0 : Boxe w.heap.size ⟨#[]⟩ 0 0 ⟨#[]⟩ (w.alloc (.cells #[.string ⟨#[]⟩, .int .u64 0, .int .i64 0, .string ⟨#[]⟩] 43)) := new_block _ _ rfl
    exact (((y0.grown g1 hne).grown g2 hne).grown g3 hne).grown g4 hne)
  have HB := Lib.hid (show ∀ (X : World) (o : Obj) (Y : World), Below (X.alloc o).heap.size (X.alloc o) Y → Below X.heap.size X Y from fun X o Y h => ((Below.refl _ _).alloc (Nat.le_refl _) _).trans (h.mono (by simp)))
  clear cx h
  go_enter Try.func25, Try.ntmps25
  go_wp2_with (first
    | (go_at_call 46; (with_reducible refine (C1.out _ (IsRd.grown HI.out ((Below.refl _ _).alloc (Nat.le_refl _) _))).mono ?_); rintro e W1 ⟨rfl, i1, g1⟩)
    | (go_at_call 47; (with_reducible refine (C2.out _ i1).mono ?_); rintro e W2 ⟨rfl, i2, g2⟩)
    | (go_at_call 47; (with_reducible refine (C3.out _ i2).mono ?_); rintro e W3 ⟨rfl, i3, g3⟩)
    | (go_at_call 46; (with_reducible refine (C4.out _ i3).mono ?_); rintro e W4 ⟨rfl, i4, g4⟩)
    | (go_at_call 23; (with_reducible refine (CX.out _).mono ?_); rintro e W5 ⟨rfl, b5⟩; have x5 : Boxe W4.heap.size k s n v W5 := Boxe.below (new_block W4 _ rfl) b5; have y4 : Boxe w.heap.size ⟨#[]⟩ 0 0 ⟨#[]⟩ W4 := HY.out _ _ _ _ g1 g2 g3 g4; have b45 := HB.out _ _ _ b5; have y5 := y4.below b45; have i5 := i4.grown b45; have c0 := x5.c0; have c1 := x5.c1; have c2 := x5.c2; have c3 := x5.c3; have d0 := y5.c0; have d1 := y5.c1; have d2 := y5.c2; have d3 := y5.c3; have f0 := y5.f 0; have f1 := y5.f 1; have f2 := y5.f 2; have f3 := y5.f 3)
    | (go_at_call 49; (with_reducible refine (C5.out _ i5).mono ?_); rintro e W6 ⟨rfl, rfl⟩)
    | fail)
  refine bodyPost_ret (by simp [results, Try.results25, go_sem, d0, d1, d2, d3]; try rfl) rfl ?_
  have hne : b ≠ w.heap.size := by have := HLT.out; omega
  have g5 : w.grownBy W5 (some b) := grown_trans (grown_trans (grown_trans (grown_trans (grown_trans (grown_below ((Below.refl _ _).alloc (Nat.le_refl _) _) _) g1) g2) g3) g4) (grown_below b45 _)
  refine ⟨rfl, ?_, grown_set (grown_set (grown_set (grown_set g5 (Nat.le_refl _) _) (Nat.le_refl _) _) (Nat.le_refl _) _) (Nat.le_refl _) _⟩
  have key : ∀ (X : World) (j : Nat) (u : Value), IsRd X b ⟨#[]⟩ 0 → IsRd (X.setCell ⟨w.heap.size, j, none⟩ u) b ⟨#[]⟩ 0 := fun X j u h =>
    ⟨(World.cell?_setCell_other X _ _ u (fun e => hne (by cases e; rfl))).trans h.c0, (World.cell?_setCell_other X _ _ u (fun e => hne (by cases e; rfl))).trans h.c1, by rw [World.frozen?_setCell]; exact h.f0, by rw [World.frozen?_setCell]; exact h.f1⟩
  exact key _ _ _ (key _ _ _ (key _ _ _ (key _ _ _ i5)))
end Go.Proofs.Ytbbfdenpegkpnaa
