/- The program: a table's places and footer. -/
import Derived.Test.YtmnboiikopkaoaaGreatZA
import Derived.BigQuiet
import Derived.BigRegion
namespace Go.Proofs.YtmnboiikopkaoaaGreat
open Go.RowKit

theorem be6 (p : Nat) (hp : p < 281474976710656) : Lib.byteCells (be p 6) = [.int .u8 ((p : Int) / 1099511627776), .int .u8 ((p : Int) / 4294967296 % 256), .int .u8 ((p : Int) / 16777216 % 256), .int .u8 ((p : Int) / 65536 % 256), .int .u8 ((p : Int) / 256 % 256), .int .u8 ((p : Int) % 256)] := by
  have e : be p 6 = [UInt8.ofNat (p / 1099511627776 % 256), UInt8.ofNat (p / 4294967296 % 256), UInt8.ofNat (p / 16777216 % 256), UInt8.ofNat (p / 65536 % 256), UInt8.ofNat (p / 256 % 256), UInt8.ofNat (p / 1 % 256)] := rfl
  rw [e]
  have e1 : ((p / 1099511627776 % 256 % 256 : Nat) : Int) = (p : Int) / 1099511627776 := by omega
  have e2 : ((p / 4294967296 % 256 % 256 : Nat) : Int) = (p : Int) / 4294967296 % 256 := by omega
  have e3 : ((p / 16777216 % 256 % 256 : Nat) : Int) = (p : Int) / 16777216 % 256 := by omega
  have e4 : ((p / 65536 % 256 % 256 : Nat) : Int) = (p : Int) / 65536 % 256 := by omega
  have e5 : ((p / 256 % 256 % 256 : Nat) : Int) = (p : Int) / 256 % 256 := by omega
  have e6 : ((p / 1 % 256 % 256 : Nat) : Int) = (p : Int) % 256 := by omega
  simp only [Lib.byteCells, List.map_cons, List.map_nil, UInt8.toNat_ofNat', show (2 : Nat) ^ 8 = 256 from rfl, e1, e2, e3, e4, e5, e6]
set_option maxHeartbeats 2000000 in
set_option maxRecDepth 100000 in
theorem tplace_any {w : World} (v : Value) (n p : Nat) (xs : List Value) (hrow : Row w 5 1 v n xs) (hp : p < 1000000000) (hn : n ≤ 100000000) :
    Calls Tryz.prog 116 #[v, .int .i64 (p : Int)] w fun e w' => ∃ v', e = .returned v' ∧ Row w' 5 1 v' (n + 6) (xs ++ Lib.byteCells (be p 6)) ∧ w.grownBy w' (ob v) ∧ (ob v' = ob v ∨ ∃ g, ob v' = some g ∧ w.heap.size ≤ g) := by
  obtain ⟨i0, hi, hz0, hzs, hzb⟩ := info_parts infoByte
  have hwp : IntKind.u64.wrap (p : Int) = (p : Int) := by rw [IntKind.wrap_u64]; omega
  rw [be6 p (by omega)]
  obtain ⟨a, cap, rfl, -, -⟩ := hrow.le
  have z1 : (p : Int) / 1099511627776 = 0 := by omega
  have z2 : (p : Int) / 4294967296 % 256 = (p : Int) / 4294967296 := by omega
  have z3 : (p : Int) / 16777216 % 256 = (p : Int) / 16777216 := by omega
  rw [z1, z2, z3]
  have hbl := (Below.refl w.heap.size w).alloc (Nat.le_refl _) (.cells #[.int .u8 0, .int .u8 ((p : Int) / 4294967296), .int .u8 ((p : Int) / 16777216), .int .u8 ((p : Int) / 65536 % 256), .int .u8 ((p : Int) / 256 % 256), .int .u8 ((p : Int) % 256)] 5)
  have HG := Lib.hid (grownBy_of_below hbl none)
  have HR := Lib.hid (row_below hrow hbl)
  have HS := Lib.hid (show Src Tryz.prog 1 78 (.slice (some ⟨w.heap.size, 0, none⟩) 6 6) 6 [.int .u8 0, .int .u8 ((p : Int) / 4294967296), .int .u8 ((p : Int) / 16777216), .int .u8 ((p : Int) / 65536 % 256), .int .u8 ((p : Int) / 256 % 256), .int .u8 ((p : Int) % 256)] (w.alloc (.cells #[.int .u8 0, .int .u8 ((p : Int) / 4294967296), .int .u8 ((p : Int) / 16777216), .int .u8 ((p : Int) / 65536 % 256), .int .u8 ((p : Int) / 256 % 256), .int .u8 ((p : Int) % 256)] 5)) from
    Src.ofSlice (P := Tryz.prog) _ (size := 1) Tryz.underlying78 ⟨w.heap.size, 0, none⟩ 6 6 _ rfl (fun j u hu => by
      match j, hu with
      | 0, hu => simpa [Addr.add] using hu
      | 1, hu => simpa [Addr.add] using hu
      | 2, hu => simpa [Addr.add] using hu
      | 3, hu => simpa [Addr.add] using hu
      | 4, hu => simpa [Addr.add] using hu
      | 5, hu => simpa [Addr.add] using hu) (by simp [Value.oneCell']))
  have H1 := Lib.hid (show n + 6 ≤ maxLen by unfold maxLen; omega)
  have H2 := Lib.hid (show (n + 6) * 1 ≤ 140737488355328 by omega)
  clear hrow hbl
  go_enter Tryz.func116, Tryz.ntmps116
  go_wp2_with (at_builtin; refine wpList_append_row _ rfl _ _ 78 78 rfl 5 i0 _ 1 1 Tryz.underlying78 hi hz0 hzs hzb rfl (.slice a n cap) _ _ rfl HR.out _ rfl 6 _ HS.out H1.out H2.out ?_; intro v' w5 hrow5 hgrow5 hob5)
  go_ret
  refine ⟨v', rfl, hrow5, ⟨hgrow5.os.trans HG.out.os, hgrow5.tape.trans HG.out.tape, hgrow5.output.trans HG.out.output, Nat.le_trans HG.out.size hgrow5.size, fun k hk hr => (hgrow5.block k (Nat.lt_of_lt_of_le hk HG.out.size) hr).trans (HG.out.block k hk (by simp))⟩, ?_⟩
  rcases hob5 with e | ⟨e, -⟩
  · exact .inl e
  · exact .inr ⟨_, e, HG.out.size⟩
set_option maxHeartbeats 1000000 in
set_option maxRecDepth 100000 in
theorem place_any (s : ByteArray) (w : World) (h : 6 ≤ s.size) :
    Calls Tryz.prog 82 #[.string s] w fun e w' => e = .returned (.int .i64 (beVal (piece s 0 6) : Nat)) ∧ w = w' := by
  go_enter Tryz.func82, Tryz.ntmps82
  go_wp2
  go_loop [3, 5] (fun v i => ∃ (k : Nat) (X : Int), k ≤ 6 ∧ i = .int .i64 k ∧ v = .int .u64 X ∧ Hid (X = (beVal (piece s 0 k) : Nat))) (fun _ i => 6 - (intOf i).toNat)
  case atStart => exact ⟨0, 0, Nat.zero_le _, rfl, rfl, rfl⟩
  case round =>
    obtain ⟨k, X, hk, rfl, rfl, HX⟩ := hrel
    have hb0 : 0 ≤ X := by have := HX.out; omega
    have hb : X < 281474976710656 := by
      have hl := beVal_lt (piece s 0 k)
      rw [piece_length s 0 k (by omega)] at hl
      have hm : 256 ^ k ≤ 256 ^ 6 := pow256_mono (by omega)
      have := HX.out
      omega
    by_cases hlt : k < 6
    · have hkk : k < s.size := by omega
      have HP := Lib.hid (piece_snoc s 0 k (by omega))
      go_wp2
      go_round
      case rel =>
        refine ⟨k + 1, _, by omega, by go_num, rfl, ?_⟩
        show _ = _
        rw [or_byte X _ hb0 (by omega), HP.out, beVal_snoc, HX.out]
        simp
      case measure => simp [intOf]; omega
    · have hke : k = 6 := by omega
      subst hke
      have hX : X = ((beVal (piece s 0 6) : Nat) : Int) := HX.out
      have hwx : IntKind.i64.wrap X = X := by rw [IntKind.wrap_i64]; omega
      go_wp2
      go_ret
      exact ⟨rfl, rfl⟩
def spanV (a n : Nat) : Value := .agg #[.int .i64 (a : Int), .int .i64 (n : Int)]
set_option maxHeartbeats 1000000 in
theorem spanEnd_any (a n : Nat) (w : World) (h : a + n ≤ 1000000000000000) :
    Calls Tryz.prog 83 #[.agg #[.int .i64 (a : Int), .int .i64 (n : Int)]] w fun e w' => e = .returned (.int .i64 ((a + n : Nat) : Int)) ∧ Below w.heap.size w w' := by
  have hB : Below w.heap.size w (w.alloc (.cells #[.int .i64 (a : Int), .int .i64 (n : Int)] 97)) := (Below.refl _ _).alloc (Nat.le_refl _) _
  obtain ⟨m, hm⟩ : ∃ m, a + n = m := ⟨_, rfl⟩
  have hw : (a : Int) + (n : Int) = (m : Int) := by omega
  rw [hm]
  clear hm
  go_enter Tryz.func83, Tryz.ntmps83
  go_wp2
  go_ret
  exact ⟨rfl, hB⟩
set_option maxHeartbeats 1000000 in
theorem spanCut_any (a n : Nat) (b : ByteArray) (w : World) (h : a + n ≤ b.size) (hb : b.size ≤ 1000000000) :
    Calls Tryz.prog 51 #[.agg #[.int .i64 (a : Int), .int .i64 (n : Int)], .string b] w fun e w' => e = .returned (.string (b.extract a (a + n))) ∧ Below w.heap.size w w' := by
  obtain ⟨W, hW⟩ : ∃ W, w.alloc (.cells #[.int .i64 (a : Int), .int .i64 (n : Int)] 97) = W := ⟨_, rfl⟩
  have hB : Below w.heap.size w W := by rw [← hW]; exact (Below.refl _ _).alloc (Nat.le_refl _) _
  have c0 : W.cell? ⟨w.heap.size, 0, none⟩ = some (.int .i64 (a : Int)) := by rw [← hW]; exact nce rfl rfl
  have c1 : W.cell? ⟨w.heap.size, 1, none⟩ = some (.int .i64 (n : Int)) := by rw [← hW]; exact nce rfl rfl
  have hlt : w.heap.size < W.heap.size := World.block_lt_of_cell? W _ c0
  have CE := Lib.hid (fun W' => spanEnd_any a n W' (by omega))
  have h1 : (a : Int) ≤ (b.size : Int) := by omega
  have h2 : ((a + n : Nat) : Int) ≤ (b.size : Int) := by omega
  have h3 : (a : Int) ≤ ((a + n : Nat) : Int) := by omega
  obtain ⟨m, hm⟩ : ∃ m, a + n = m := ⟨_, rfl⟩
  rw [hm] at CE h2 h3 ⊢
  clear hm h
  go_enter Tryz.func51, Tryz.ntmps51
  go_upto_region 1 with fail
  try rw [hW]
  clear hW
  go_region_held3 (fun w' => w'.cell? ⟨w.heap.size, 0, none⟩ = some (.int .i64 (a : Int)) ∧ w'.cell? ⟨w.heap.size, 1, none⟩ = some (.int .i64 (n : Int))) (first | go_keep | exact ⟨c0, c1⟩ | exact ⟨(b1.cell (p := ⟨w.heap.size, 0, none⟩) hlt).trans c0, (b1.cell (p := ⟨w.heap.size, 1, none⟩) hlt).trans c1⟩) (first | (go_at_call 83; (with_reducible refine (CE.out _).mono ?_); rintro _ w1 ⟨rfl, b1⟩) | fail)
  all_goals go_wp2
  all_goals go_ret
  all_goals exact ⟨rfl, hB.drew.trans (b1.mono hB.size)⟩
end Go.Proofs.YtmnboiikopkaoaaGreat
