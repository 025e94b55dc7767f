/- The walk of IkeyBack: a right version is read as it was put; another one is refused. -/
import Derived.Test.YtbbfdenpegkpnaaEP
import Derived.Test.YtbbfdenpegkpnaaEG
import Derived.Test.YtbbfdenpegkpnaaES
import Derived.Test.YtbbfdenpegkpnaaEC
namespace Go.Proofs.Ytbbfdenpegkpnaa
open Go.RowKit

set_option maxHeartbeats 2000000 in
theorem put_bad (k : ByteArray) (s n : Int) (v : ByteArray) (w : World) (hk : k.size ≤ maxLen) (hv : v.size ≤ maxLen) (hval : validB k n v = false) :
    Calls Try.prog 22 #[.agg #[.string k, .int .u64 s, .int .i64 n, .string v]] w fun e w' => e = .returned (.tuple #[.string ⟨#[]⟩, .int .i64 1]) ∧ Below w.heap.size w w' := by
  have cx := fun W => valid_any k s n v W hk hv
  rw [hval] at cx
  have CX := Lib.hid cx
  unfold ev at CX
  clear cx
  go_enter Try.func22, Try.ntmps22
  go_wp2_with (first | (go_at_call 23; (with_reducible refine (CX.out _).mono ?_); rintro e W ⟨rfl, hb0⟩) | fail)
  refine bodyPost_ret (results_tmp2 rfl _ _ _) rfl ?_
  exact ⟨rfl, bt ((Below.refl _ _).alloc (Nat.le_refl _) _) hb0⟩
theorem valid_kind {k : ByteArray} {n : Int} {v : ByteArray} (h : validB k n v = true) : k.size ≤ 300 ∧ v.size ≤ 60000 ∧ (n = 1 ∨ n = 2) := by
  simp [validB] at h
  omega
theorem IsRd.drew1 {w : World} {b : Nat} {s : ByteArray} {e : Int} (h : IsRd w b s e) : IsRd w.drew b s e := ⟨h.c0, h.c1, h.f0, h.f1⟩
/-- A version in a box: its cells. -/
def B1 (B : Nat) (k : ByteArray) (s n : Int) (v : ByteArray) (W : World) : Prop :=
  W.cell? ⟨B, 0, none⟩ = some (.string k) ∧ W.cell? ⟨B, 1, none⟩ = some (.int .u64 s) ∧ W.cell? ⟨B, 2, none⟩ = some (.int .i64 n) ∧ W.cell? ⟨B, 3, none⟩ = some (.string v)
theorem Boxe.b1 {B : Nat} {k : ByteArray} {s n : Int} {v : ByteArray} {W : World} (h : Boxe B k s n v W) : B1 B k s n v W := ⟨h.c0, h.c1, h.c2, h.c3⟩
theorem put_bytes (k : ByteArray) (s n : Nat) (v : ByteArray) : (⟨(texts [k]).toArray⟩ ++ ⟨(vars [s, n]).toArray⟩ ++ ⟨(texts [v]).toArray⟩ : ByteArray) = ⟨(texts [k] ++ (Lib.uvarint s ++ (Lib.uvarint n ++ (texts [v] ++ [])))).toArray⟩ := by
  rw [cat_str, cat_str]
  congr 2
  simp [vars]
set_option maxHeartbeats 8000000 in
set_option maxRecDepth 100000 in
theorem ikeyBack_walk (e : Ent) (he : e.Ok) (w : World) :
    Calls Try.prog 5 #[e.val] w fun r w' => r = .returned (.bool true) ∧ Below w.heap.size w w' := by
  obtain ⟨k, sI, nI, v⟩ := e
  obtain ⟨hk, hs0, hs1, hn0, hn1, hv⟩ := id he
  dsimp only at hk hs0 hs1 hn0 hn1 hv
  show Calls Try.prog 5 #[.agg #[.string k, .int .u64 sI, .int .i64 nI, .string v]] w _
  have b1 : ∀ o, Below w.heap.size w (w.alloc o) := fun o => (Below.refl _ _).alloc (Nat.le_refl _) _
  have b2 : ∀ o1 o2, Below w.heap.size w ((w.alloc o1).alloc o2) := fun o1 o2 => ba (b1 o1) o2
  have cs := small_any (w := (w.alloc (.cells #[.string k, .int .u64 sI, .int .i64 nI, .string v] 43)).alloc (.cells #[.string k, .int .u64 sI, .int .i64 nI, .string v] 43)) (some ⟨w.heap.size + 1, 0, none⟩) 1 1 [⟨k, sI, nI, v⟩] ⟨rfl, .inr ⟨w.heap.size + 1, 0, rfl, by simp, fun i hi j u hu => by
    obtain rfl : i = 0 := by simp at hi; omega
    match j, hu with
    | 0, hu => exact nce (by simp) hu
    | 1, hu => exact nce (by simp) hu
    | 2, hu => exact nce (by simp) hu
    | 3, hu => exact nce (by simp) hu⟩⟩ (by omega) (fun x hx => by simp at hx; subst hx; exact he)
  have CS := Lib.hid cs
  have B2 := Lib.hid b2
  have HX := Lib.hid (show ∀ o W, Below ((w.alloc (.cells #[.string k, .int .u64 sI, .int .i64 nI, .string v] 43)).alloc o).heap.size ((w.alloc (.cells #[.string k, .int .u64 sI, .int .i64 nI, .string v] 43)).alloc o) W → Boxe w.heap.size k sI nI v W from fun o W h => Boxe.below (Boxe.below (new_block w _ rfl) ((Below.refl _ _).alloc (Nat.le_refl _) _)) h)
  have cv := fun W => valid_any k sI nI v W hk hv
  unfold ev at cv
  clear b1 b2 cs he
  cases hval : validB k nI v with
  | false =>
    rw [hval] at cv
    have CV := Lib.hid cv
    have CP := Lib.hid (fun W => put_bad k sI nI v W hk hv hval)
    clear cv
    go_enter Try.func5, Try.ntmps5
    go_wp2_with (fail)
    go_at_call 17
    refine CS.out.mono ?_
    rintro e W1 ⟨t, rfl, -, hb1⟩
    have x1 := HX.out _ _ hb1
    have k1 := bt (B2.out _ _) hb1
    have c0 := x1.c0
    have c1 := x1.c1
    have c2 := x1.c2
    have c3 := x1.c3
    cases t
    · go_wp2_with (first | (go_at_call 19; (with_reducible refine (alive5_any _).mono ?_); rintro e W2 ⟨rfl, hb2⟩) | fail)
      go_ret
      exact ⟨rfl, bt k1 hb2⟩
    · go_wp2_with (first
        | (go_at_call 22; (with_reducible refine (CP.out _).mono ?_); rintro e W2 ⟨rfl, hb2⟩; have x2 := x1.below hb2; have d0 := x2.c0; have d1 := x2.c1; have d2 := x2.c2; have d3 := x2.c3)
        | (go_at_call 19; (with_reducible refine (alive5_any _).mono ?_); rintro e W3 ⟨rfl, hb3⟩; have x3 := x2.below hb3; have e0 := x3.c0; have e1 := x3.c1; have e2 := x3.c2; have e3 := x3.c3)
        | (go_at_call 23; (with_reducible refine (CV.out _).mono ?_); rintro e W4 ⟨rfl, hb4⟩)
        | fail)
      go_ret
      exact ⟨rfl, bt (bt (bt k1 hb2) hb3) hb4⟩
  | true =>
    obtain ⟨hk3, hv6, hkind⟩ := valid_kind hval
    obtain ⟨s, rfl⟩ : ∃ s : Nat, sI = (s : Int) := ⟨sI.toNat, by omega⟩
    obtain ⟨n, rfl⟩ : ∃ n : Nat, nI = (n : Int) := ⟨nI.toNat, by omega⟩
    have hn12 : n ≤ 2 := by omega
    rw [hval] at cv
    have CV := Lib.hid cv
    have cp := fun W => put_ok k s n v W hk3 hv6 (by omega) (by omega) hval
    rw [put_bytes] at cp
    have CP := Lib.hid cp
    have CG := Lib.hid (fun b W h => get_ok k s n v b W hk3 hv6 (by omega) (by omega) hval h)
    have CE := Lib.hid (fun b W h => end_ok b ⟨#[]⟩ W h rfl)
    have CN := Lib.hid (fun W => newReader_any ⟨(texts [k] ++ (Lib.uvarint s ++ (Lib.uvarint n ++ (texts [v] ++ [])))).toArray⟩ W)
    generalize (⟨(texts [k] ++ (Lib.uvarint s ++ (Lib.uvarint n ++ (texts [v] ++ [])))).toArray⟩ : ByteArray) = BY at *
    clear cv cp hkind hval
    go_enter Try.func5, Try.ntmps5
    go_wp2_with (fail)
    go_at_call 17
    refine CS.out.mono ?_
    rintro e W1 ⟨t, rfl, -, hb1⟩
    have x1 := HX.out _ _ hb1
    have k1 := bt (B2.out _ _) hb1
    have c0 := x1.c0
    have c1 := x1.c1
    have c2 := x1.c2
    have c3 := x1.c3
    cases t
    · go_wp2_with (first | (go_at_call 19; (with_reducible refine (alive5_any _).mono ?_); rintro e W2 ⟨rfl, hb2⟩) | fail)
      go_ret
      exact ⟨rfl, bt k1 hb2⟩
    · go_wp2_with (first
        | (go_at_call 22; (with_reducible refine (CP.out _).mono ?_); rintro e W2 ⟨rfl, hb2⟩; have x2 := x1.below hb2)
        | (go_at_call 24; (with_reducible refine (CN.out _).mono ?_); rintro e W3 ⟨rfl, i3, hb3, -⟩; have x3 := x2.below hb3; have d0 := x3.c0; have d1 := x3.c1; have d2 := x3.c2; have d3 := x3.c3)
        | fail)
      have k3 := bt (bt k1 hb2) hb3
      have hbl : w.heap.size < W2.heap.size := x2.lt
      have A := x3.b1
      have hne : w.heap.size ≠ W2.heap.size := by omega
      clear d0 d1 d2 d3 c0 c1 c2 c3
      obtain ⟨d0, d1, d2, d3⟩ := x3.b1
      go_region_held3 (fun w' => w'.cell? ⟨w.heap.size, 0, none⟩ = some (.string k) ∧ w'.cell? ⟨w.heap.size, 1, none⟩ = some (.int .u64 (s : Int)) ∧ w'.cell? ⟨w.heap.size, 2, none⟩ = some (.int .i64 (n : Int)) ∧ w'.cell? ⟨w.heap.size, 3, none⟩ = some (.string v)) (first | assumption | exact A | exact x4.b1 | exact x5.b1 | exact x6.b1) (first
        | (go_at_call 19; (with_reducible refine (alive5_any _).mono ?_); rintro e W4 ⟨rfl, hb4⟩; have x4 := x3.drew.below hb4; have i4 := i3.drew1.grown hb4; have e0 := x4.c0; have e1 := x4.c1; have e2 := x4.c2; have e3 := x4.c3)
        | (go_at_call 25; (with_reducible refine (CG.out _ _ i4).mono ?_); rintro e W5 ⟨rfl, i5, g5⟩; have x5 := x4.grown g5 hne; have f0 := x5.c0; have f1 := x5.c1; have f2 := x5.c2; have f3 := x5.c3)
        | (go_at_call 26; (with_reducible refine (CE.out _ _ i5).mono ?_); rintro e W6 ⟨rfl, rfl⟩)
        | (go_at_call 23; (with_reducible refine (CV.out _).mono ?_); rintro e W7 ⟨rfl, hb7⟩; have x6 := x5.below hb7)
        | fail)
      all_goals go_wp2
      all_goals go_ret
      all_goals
        have k4 : Below w.heap.size w W4 := bt (bd k3) hb4
        have k5 : Below w.heap.size w W5 := k4.trans ((turn_of_grown (F := [W2.heap.size]) g5 (fun j hj => by cases hj; exact .inl (by simp))).below k4.size (fun j hj => by simp at hj; omega))
        exact ⟨rfl, bt k5 hb7⟩
end Go.Proofs.Ytbbfdenpegkpnaa
