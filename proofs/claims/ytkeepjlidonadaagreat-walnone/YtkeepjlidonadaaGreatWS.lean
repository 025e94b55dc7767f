/- Statement WalNone. -/
import Derived.Test.YtkeepjlidonadaaGreatWR
namespace Go.Proofs.YtkeepjlidonadaaGreat
open Go.RowKit

theorem createF_nil (a : ByteArray) (w : World) : Calls Tryz.prog 49 #[.pointer none, .string a] w fun e w' => e = .returned (.int .i64 14) ∧ Below w.heap.size w w' := by
  go_enter Tryz.func49, Tryz.ntmps49
  go_wp2_with (go_at_call 172; refine (write_nil _ _ _).mono ?_; rintro e w' ⟨rfl, rfl⟩)
  go_ret
  exact ⟨rfl, ((Below.refl _ _).alloc (Nat.le_refl _) _).alloc (by first | (simp; done) | (simp; omega)) _⟩
set_option maxHeartbeats 1000000 in
theorem createW_nil (w : World) : Calls Tryz.prog 31 #[.pointer none, .int .i64 1] w fun e w' => e = .returned (.tuple #[.pointer none, .int .i64 14]) ∧ Below w.heap.size w w' := by
  have CM := modulo_walk 1 w (by omega) (by omega)
  rw [show (1 : Int) % 100000000 = 1 from rfl] at CM
  have CM := Lib.hid CM
  have CN := Lib.hid (name_any 1 w (by omega) (by omega))
  have CC := Lib.hid createF_nil
  go_enter Tryz.func31, Tryz.ntmps31
  go_wp2_with (first
    | (go_at_call 76; refine CM.out.mono ?_; rintro _ _ ⟨rfl, rfl⟩)
    | (go_at_call 19; refine CN.out.mono ?_; rintro _ w1 ⟨rfl, b1⟩)
    | (go_at_call 49; refine (CC.out _ _).mono ?_; rintro _ w2 ⟨rfl, b2⟩))
  refine bodyPost_ret (results_tmp2 rfl _ _ _) rfl ?_
  exact ⟨rfl, b1.trans (b2.mono b1.size)⟩
set_option maxHeartbeats 1000000 in
theorem replay_nil (w : World) : Calls Tryz.prog 35 #[.pointer none, .int .i64 1] w fun e w' => e = .returned (.tuple #[.slice none 0 0, .int .i64 14]) ∧ Below w.heap.size w w' := by
  have CN := Lib.hid (name_any 1 w (by omega) (by omega))
  have CC := Lib.hid (show ∀ (name : ByteArray) (w : World), Calls Tryz.prog 50 #[.pointer none, .string name] w fun e w' => e = .returned (.tuple #[.string ⟨#[]⟩, .int .i64 14]) ∧ w = w' from read_nil)
  go_enter Tryz.func35, Tryz.ntmps35
  go_wp2_with (first
    | (go_at_call 19; refine CN.out.mono ?_; rintro _ w1 ⟨rfl, b1⟩)
    | (go_at_call 50; refine (CC.out _ _).mono ?_; rintro _ w2 ⟨rfl, rfl⟩))
  refine bodyPost_ret (results_tmp2 rfl _ _ _) rfl ?_
  exact ⟨rfl, b1⟩
theorem segments_nil (w : World) : Calls Tryz.prog 41 #[.pointer none] w fun e w' => ∃ a c, e = .returned (.slice a 0 c) ∧ Below w.heap.size w w' := by
  refine (segments_any (.pointer none) [] (by simp) w ((namesS_nil w).mono ?_)).mono ?_
  · rintro _ _ ⟨rfl, rfl⟩
    exact ⟨_, rfl, row_nil _ _ _, Below.refl _ _⟩
  · rintro _ w' ⟨V, rfl, hr, -, hb⟩
    obtain ⟨a, c, e, -⟩ := hr.le
    exact ⟨a, c, by rw [e]; rfl, hb⟩
/-- A list of writes that came in. -/
def IsWs (w : World) (a : Option Addr) (len : Nat) (l : List Wr) : Prop := len ≤ maxLen ∧ (∀ x ∈ l, x.Ok) ∧ WrsAt w.heap.size w a len l
set_option maxHeartbeats 4000000 in
set_option maxRecDepth 100000 in
theorem walNone_walk (first : Nat) (_ : first < 18446744073709551616) (a : Option Addr) (len cap : Nat) (ws : List Wr) (w : World) (hI : IsWs w a len ws) :
    Calls Tryz.prog 5 #[.int .u64 (first : Int), .slice a len cap] w fun e w' => e = .returned (.bool true) ∧ Below w.heap.size w w' := by
  have CS := Lib.hid (smallW_any a len cap ws hI.2.2 (by have := hI.1; unfold maxLen at this; omega) hI.2.1)
  have CA := Lib.hid alive6_any
  have CC := Lib.hid createW_nil
  have CR := Lib.hid replay_nil
  have CG := Lib.hid segments_nil
  have A0 := Lib.hid (fun f v W => add_none (.pointer none) f v W (refuses_nil W))
  have A1 := Lib.hid (fun L f v W h => add_none (.pointer (some ⟨L, 0, none⟩)) f v W (refuses_zero L W h))
  have Y0 := Lib.hid (fun W => sync_none (.pointer none) W (refuses_nil W))
  have Y1 := Lib.hid (fun L W h => sync_none (.pointer (some ⟨L, 0, none⟩)) W (refuses_zero L W h))
  have N0 := Lib.hid num_nil
  have N1 := Lib.hid num_zero
  have S0 := Lib.hid size_nil
  have S1 := Lib.hid size_zero
  clear hI
  go_enter Tryz.func5, Tryz.ntmps5
  go_wp2_with (fail)
  go_at_call 9
  refine CS.out.mono ?_
  rintro _ w1 ⟨t, rfl, -, b1⟩
  cases t with
  | false =>
    go_wp2_with (go_at_call 10; refine (CA.out _).mono ?_; rintro _ w2 ⟨rfl, b2⟩)
    go_ret
    exact ⟨rfl, b1.trans (b2.mono b1.size)⟩
  | true =>
    obtain ⟨w2, hw2⟩ : ∃ w2, w1.alloc (.cells #[.pointer none, .int .i64 0, .int .i64 0, .bool false] 97) = w2 := ⟨_, rfl⟩
    have bz : Below w1.heap.size w1 w2 := by rw [← hw2]; exact (Below.refl _ _).alloc (Nat.le_refl _) _
    have z2 : LogZ w2 w1.heap.size := by rw [← hw2]; exact heap_alloc_new w1 _
    have B2 : Below w.heap.size w w2 := b1.trans (bz.mono b1.size)
    clear bz
    go_wp2_with (first
      | (go_at_call 31; refine (CC.out _).mono ?_; rintro _ w3 ⟨rfl, b3⟩; have z3 := z2.below b3; have B3 := B2.trans (b3.mono B2.size))
      | (go_at_call 35; refine (CR.out _).mono ?_; rintro _ w4 ⟨rfl, b4⟩; have z4 := z3.below b4; have B4 := B3.trans (b4.mono B3.size))
      | (go_at_call 10; refine (CA.out _).mono ?_; rintro _ w5 ⟨rfl, b5⟩; have z5 := z4.below b5; have B5 := B4.trans (b5.mono B4.size))
      | (go_at_call 26; first | ((with_reducible refine (A0.out _ _ _).mono ?_); rintro _ _ ⟨rfl, rfl⟩) | ((with_reducible refine (A1.out _ _ _ _ z5).mono ?_); rintro _ _ ⟨rfl, rfl⟩))
      | (go_at_call 28; first | ((with_reducible refine (Y0.out _).mono ?_); rintro _ _ ⟨rfl, rfl⟩) | ((with_reducible refine (Y1.out _ _ z5).mono ?_); rintro _ _ ⟨rfl, rfl⟩))
      | (go_at_call 34; first | ((with_reducible refine (N0.out _).mono ?_); rintro _ _ ⟨rfl, rfl⟩) | ((with_reducible refine (N1.out _ _ z5).mono ?_); rintro _ _ ⟨rfl, rfl⟩))
      | (go_at_call 39; first | ((with_reducible refine (S0.out _).mono ?_); rintro _ _ ⟨rfl, rfl⟩) | ((with_reducible refine (S1.out _ _ z5).mono ?_); rintro _ _ ⟨rfl, rfl⟩))
      | (go_at_call 41; refine (CG.out _).mono ?_; rintro _ w6 ⟨av, cv, rfl, b6⟩)
      | fail)
    go_ret
    exact ⟨rfl, B5.trans (b6.mono B5.size)⟩
end Go.Proofs.YtkeepjlidonadaaGreat
