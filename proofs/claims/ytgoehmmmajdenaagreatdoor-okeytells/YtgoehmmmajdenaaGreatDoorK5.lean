/- Contracts of okey.isKind and okey.cut: one part at the front of some bytes. -/
import Derived.Test.YtgoehmmmajdenaaGreatDoorK4
import Derived.Handy
namespace Go.Proofs.YtgoehmmmajdenaaGreatDoor
open Go.RowKit

/-- A part: its kind, and its text, number and int. -/
structure Prt where
  kind : Int
  s : List UInt8
  n : Nat
  i : Int
def Prt.cells (p : Prt) : List Value := [.int .i64 p.kind, .string ⟨p.s.toArray⟩, .int .u64 (p.n : Int), .int .i64 p.i]
def Prt.val (p : Prt) : Value := .agg #[.int .i64 p.kind, .string ⟨p.s.toArray⟩, .int .u64 (p.n : Int), .int .i64 p.i]
def unturn (n : Nat) : Int := (n : Int) - 9223372036854775808

/-- The part of a kind at the front, what is left, and 0 or an error. -/
def rdPart (l : List UInt8) (kind : Int) : Prt × List UInt8 × Int :=
  if kind = 1 then (⟨1, (rdKey l).1, 0, 0⟩, (rdKey l).2.1, (rdKey l).2.2)
  else if l.length < 8 then (⟨0, [], 0, 0⟩, [], 5)
  else if kind = 2 then (⟨2, [], beVal (l.take 8), 0⟩, l.drop 8, 0)
  else (⟨kind, [], 0, unturn (beVal (l.take 8))⟩, l.drop 8, 0)
def partVal (x : Prt × List UInt8 × Int) : Value := .tuple #[x.1.val, .string ⟨x.2.1.toArray⟩, .int .i64 x.2.2]

theorem isKind_yes (k : Int) (w : World) (h0 : 1 ≤ k) (h1 : k ≤ 3) :
    Calls Tryz.prog 27 #[.int .i64 k] w fun e w' => e = .returned (.bool true) ∧ w = w' := by
  go_enter Tryz.func27, Tryz.ntmps27
  go_wp2
  go_ret
  exact ⟨rfl, rfl⟩
theorem isKind_no (k : Int) (w : World) (h : k < 1 ∨ 3 < k) :
    Calls Tryz.prog 27 #[.int .i64 k] w fun e w' => e = .returned (.bool false) ∧ w = w' := by
  rcases h with h | h
  · go_enter Tryz.func27, Tryz.ntmps27
    go_wp2
    go_ret
    exact ⟨rfl, rfl⟩
  · have h1 : 1 ≤ k := by omega
    have hd : decide (k ≤ 3) = false := by simpa using h
    go_enter Tryz.func27, Tryz.ntmps27
    go_wp2
    go_ret
    exact ⟨rfl, rfl⟩

theorem conv_back (x : Nat) (hlt : x < 18446744073709551616) : IntKind.i64.wrap (bits .xor .u64 (x : Int) 9223372036854775808) = unturn x := by
  have e := u64_xor_nat x 9223372036854775808 hlt (by omega)
  rw [show ((9223372036854775808 : Nat) : Int) = 9223372036854775808 from rfl] at e
  rw [e]
  have h1 := Nat.xor_mod_two_pow (a := x) (b := 9223372036854775808) (n := 63)
  have h2 := Nat.xor_div_two_pow (a := x) (b := 9223372036854775808) (n := 63)
  rw [show (2 : Nat) ^ 63 = 9223372036854775808 from rfl] at h1 h2
  generalize x ^^^ 9223372036854775808 = y at *
  rw [show 9223372036854775808 % 9223372036854775808 = 0 from rfl, Nat.xor_zero] at h1
  rw [show 9223372036854775808 / 9223372036854775808 = 1 from rfl] at h2
  unfold unturn
  rw [IntKind.wrap_i64]
  have hq : x / 9223372036854775808 = 0 ∨ x / 9223372036854775808 = 1 := by omega
  rcases hq with hq | hq
  · rw [hq, show (0 ^^^ 1 : Nat) = 1 from rfl] at h2
    omega
  · rw [hq, show (1 ^^^ 1 : Nat) = 0 from rfl] at h2
    omega
theorem drop8 (s : ByteArray) (h : 8 ≤ s.size) : s.extract 8 s.size = ⟨(s.data.toList.drop 8).toArray⟩ := by
  apply ByteArray.ext
  rcases s with ⟨a⟩
  rcases a with ⟨l⟩
  simp [ByteArray.data_extract, ByteArray.size]
  rw [List.take_of_length_le]
  simp

theorem res_cells {w w1 : World} {c : Array Value} {t : TypeId} (hb : Below (w.alloc (.cells c t)).heap.size (w.alloc (.cells c t)) w1) (i : Nat) (v : Value) (hi : c[i]? = some v) :
    w1.cell? ⟨w.heap.size, i, none⟩ = some v ∧ w1.frozen? ⟨w.heap.size, i, none⟩ = false := by
  have hs : w.heap.size < (w.alloc (.cells c t)).heap.size := by simp [World.alloc, -World.alloc_eq]
  constructor
  · rw [hb.cell hs]
    simp [World.cell?, World.alloc, -World.alloc_eq, hi]
  · rw [hb.frozen hs]
    simp [World.frozen?, World.alloc, -World.alloc_eq]
theorem Max.alloc {w : World} (h : Max w) (o : Obj) : Max (w.alloc o) := h.next ((Below.refl _ _).alloc (Nat.le_refl _) o)

theorem res_below {w w1 : World} {o : Obj} (hb : Below (w.alloc o).heap.size (w.alloc o) w1) (v0 v1 v2 v3 : Value) :
    Below w.heap.size w ((((w1.setCell ⟨w.heap.size, 0, none⟩ v0).setCell ⟨w.heap.size, 1, none⟩ v1).setCell ⟨w.heap.size, 2, none⟩ v2).setCell ⟨w.heap.size, 3, none⟩ v3) := by
  have hs : w.heap.size ≤ (w.alloc o).heap.size := by simp [World.alloc, -World.alloc_eq]
  exact ((((((Below.refl _ _).alloc (Nat.le_refl _) o).trans (hb.mono hs)).setCell (Nat.le_refl _) _).setCell (Nat.le_refl _) _).setCell (Nat.le_refl _) _).setCell (Nat.le_refl _) _

set_option maxHeartbeats 1000000 in
set_option maxRecDepth 100000 in
theorem cut_any (s : ByteArray) (k : Int) (w : World) (hs : s.size < 4294967281) (hm : Max w) (hk0 : 1 ≤ k) (hk1 : k ≤ 3) :
    Calls Tryz.prog 28 #[.string s, .int .i64 k] w fun e w' => e = .returned (partVal (rdPart s.data.toList k)) ∧ Below w.heap.size w w' := by
  have hsz : s.data.toList.length = s.size := rfl
  unfold rdPart
  by_cases h1 : k = 1
  · subst h1
    rw [if_pos rfl]
    have hct := Lib.hid (fun w' (hm' : Max w') => cutText_any s w' hs hm')
    unfold cutVal at hct
    generalize rdKey s.data.toList = x at hct ⊢
    go_enter Tryz.func28, Tryz.ntmps28
    go_wp2_with (go_at_call 94; refine (hct.out _ (hm.alloc _)).mono ?_; rintro e w1 ⟨rfl, hb⟩; obtain ⟨c0, f0⟩ := res_cells hb 0 _ rfl; obtain ⟨c1, f1⟩ := res_cells hb 1 _ rfl; obtain ⟨c2, f2⟩ := res_cells hb 2 _ rfl; obtain ⟨c3, f3⟩ := res_cells hb 3 _ rfl)
    refine bodyPost_ret (by simp [results, Tryz.results28, go_sem, c0, c1, c2, c3]; try rfl) rfl ?_
    exact ⟨rfl, res_below hb _ _ _ _⟩
  · rw [if_neg h1]
    have hd : (k == 1) = false := by simpa using h1
    by_cases h8 : s.size < 8
    · rw [if_pos (by omega)]
      go_enter Tryz.func28, Tryz.ntmps28
      go_wp2_with (go_at_call 95; refine (unfix_short s 0 8 _ (by omega) (by omega) (by omega) (by omega) (by omega)).mono ?_; rintro e w1 ⟨rfl, rfl⟩)
      refine bodyPost_ret (by simp [results, Tryz.results28, go_sem]; try rfl) rfl ?_
      refine ⟨rfl, ?_⟩
      go_grown
    · rw [if_neg (by omega)]
      have hun := Lib.hid (fun w' => unfix_ok s 0 8 w' (by omega) (by omega) (by omega) (by omega))
      have hp : piece s 0 8 = s.data.toList.take 8 := rfl
      have hlt : beVal (s.data.toList.take 8) < 18446744073709551616 := by
        have := beVal_lt (s.data.toList.take 8)
        rw [List.length_take, hsz, Nat.min_eq_left (by omega)] at this
        exact this
      rw [hp] at hun
      have hdr := drop8 s (by omega)
      have hcb := conv_back _ hlt
      have h8' : 8 ≤ s.size := by omega
      clear hp hsz
      generalize beVal (s.data.toList.take 8) = X at hun hlt hcb ⊢
      by_cases h2 : k = 2
      · subst h2
        rw [if_pos rfl]
        go_enter Tryz.func28, Tryz.ntmps28
        go_wp2_with (go_at_call 95; refine (hun.out _).mono ?_; rintro e w1 ⟨rfl, rfl⟩)
        go_region
        all_goals go_wp2
        all_goals
          refine bodyPost_ret (by simp [results, Tryz.results28, go_sem]; try rfl) rfl ?_
          refine ⟨rfl, ?_⟩
          go_grown
      · rw [if_neg h2]
        have hd2 : (k == 2) = false := by simpa using h2
        go_enter Tryz.func28, Tryz.ntmps28
        go_wp2_with (go_at_call 95; refine (hun.out _).mono ?_; rintro e w1 ⟨rfl, rfl⟩)
        go_region
        all_goals go_wp2
        all_goals
          refine bodyPost_ret (by simp [results, Tryz.results28, go_sem]; try rfl) rfl ?_
          refine ⟨rfl, ?_⟩
          go_grown
end Go.Proofs.YtgoehmmmajdenaaGreatDoor
