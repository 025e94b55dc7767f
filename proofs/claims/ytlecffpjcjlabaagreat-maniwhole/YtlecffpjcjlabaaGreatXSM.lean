/- sum: Frame, Scan; texts (XS1 XT1 XS2 XS4). -/
import Derived.Test.YtlecffpjcjlabaaGreatXK1
import Derived.Test.YtlecffpjcjlabaaGreatXC2
import Derived.ProofKit
import Derived.SliceStrings
import Derived.OpenShut
import Derived.Test.YtlecffpjcjlabaaGreatB0
import Derived.Test.YtlecffpjcjlabaaGreatShelf
import Derived.Deep.RegionWith
import Derived.Deep.Draws
import Derived.BigQuiet
import Derived.Deep.QuietTactic
namespace Go.Proofs.YtlecffpjcjlabaaGreat
open Go.RowKit

theorem stir_form (X : Int) (x : Nat) (hx : X = x) (h : x < 4294967296) : bits .xor .u32 (X / 2) (bits .and .u32 2197175160 (-(bits .and .u32 X 1) % 4294967296)) = ((stir1 x : Nat) : Int) := by
  subst hx
  have e1 : bits .and .u32 (x : Int) 1 = ((x % 2 : Nat) : Int) := by
    rw [show (1 : Int) = ((1 : Nat) : Int) from rfl, u32_and_nat _ _ h (by omega), Nat.and_one_is_mod]
  rw [e1]
  unfold stir1
  have e2 : ((x : Int) / 2) = ((x / 2 : Nat) : Int) := by omega
  rw [e2]
  by_cases hp : x % 2 = 1
  · rw [hp, if_pos rfl]
    have e3 : (-((1 : Nat) : Int)) % 4294967296 = ((4294967295 : Nat) : Int) := by omega
    rw [e3, show (2197175160 : Int) = ((2197175160 : Nat) : Int) from rfl, u32_and_nat _ _ (by omega) (by omega), show (2197175160 &&& 4294967295 : Nat) = 2197175160 by decide, u32_xor_nat _ _ (by omega) (by omega)]
  · have h0 : x % 2 = 0 := by omega
    rw [h0, if_neg (by omega)]
    have e3 : (-((0 : Nat) : Int)) % 4294967296 = ((0 : Nat) : Int) := by omega
    rw [e3, show (2197175160 : Int) = ((2197175160 : Nat) : Int) from rfl, u32_and_nat _ _ (by omega) (by omega), show (2197175160 &&& 0 : Nat) = 0 by decide, u32_xor_nat _ _ (by omega) (by omega)]

set_option maxHeartbeats 1000000 in
set_option maxRecDepth 100000 in
theorem stir_any (X : Int) (x : Nat) (w : World) (hx : Hid (X = x)) (h : x < 4294967296) :
    Calls Tryz.prog 270 #[.int .u32 X] w fun e w' => e = .returned (.int .u32 (stirN 8 x : Nat)) ∧ w = w' := by
  go_enter Tryz.func270, Tryz.ntmps270
  go_wp2
  go_loop [0, 3] (fun v i => ∃ (k : Nat) (Y : Int), k ≤ 8 ∧ i = .int .i64 k ∧ v = .int .u32 Y ∧ 0 ≤ Y ∧ Y < 4294967296 ∧ Hid (Y = (stirN k x : Nat))) (fun _ i => 8 - (intOf i).toNat)
  case atStart => exact ⟨0, X, Nat.zero_le _, rfl, rfl, by have := hx.out; omega, by have := hx.out; omega, hx⟩
  case round =>
    obtain ⟨k, Y, hk, rfl, rfl, hY0, hY1, HY⟩ := hrel
    by_cases hlt : k < 8
    · have hl := stirN_lt k h
      have hl2 := stirN_lt (k + 1) h
      have HF := Lib.hid (stir_form Y _ HY.out hl)
      go_wp2
      go_round
      case rel =>
        refine ⟨k + 1, _, by omega, by go_num, rfl, ?_, ?_, ?_⟩
        · rw [HF.out]; omega
        · rw [HF.out]; show ((stirN (k + 1) x : Nat) : Int) < _; omega
        · show _ = _
          rw [HF.out]
          rfl
      case measure => simp [intOf]; omega
    · have hke : k = 8 := by omega
      subst hke
      go_wp2
      go_ret
      exact ⟨ret_int HY.out, rfl⟩
/-- The bytes of texts, one behind the other. -/
def cat (ss : List ByteArray) : List UInt8 := (ss.map fun s => s.data.toList).flatten
theorem cat_snoc (ss : List ByteArray) (s : ByteArray) : cat (ss ++ [s]) = cat ss ++ s.data.toList := by simp [cat]
theorem take_snoc (s : ByteArray) (k : Nat) (h : k < s.size) : s.data.toList.take (k + 1) = s.data.toList.take k ++ [s[k]] := by
  rw [List.take_succ_eq_append_getElem (by simpa using h)]; rfl
theorem xor_form (x : Nat) (b : UInt8) (h : x < 4294967296) : bits .xor .u32 (x : Int) ((b.toNat : Int) % 4294967296) = ((x ^^^ b.toNat : Nat) : Int) := by
  have := b.toNat_lt
  rw [Int.emod_eq_of_lt (by omega) (by omega)]
  exact u32_xor_nat _ _ h (by omega)
theorem xor_ones (x : Nat) (h : x < 4294967296) : bits .xor .u32 (x : Int) 4294967295 = ((x ^^^ 4294967295 : Nat) : Int) :=
  u32_xor_nat _ 4294967295 h (by decide)
theorem crc_start : ∃ x : Nat, x < 4294967296 ∧ Hid (crcX 4294967295 (cat []) = x) ∧ (x : Int) = 4294967295 := ⟨4294967295, by decide, rfl, rfl⟩

set_option maxHeartbeats 600000 in
set_option maxRecDepth 100000 in
theorem crc_rows (b off cap : Nat) (ss : List ByteArray) (w : World) (hn : ss.length ≤ 1000000) (hss : ∀ s ∈ ss, s.size ≤ maxLen)
    (hc : ∀ i (h : i < ss.length), w.cell? ⟨b, off + i, none⟩ = some (.string ss[i])) :
    Calls Tryz.prog 232 #[.slice (some ⟨b, off, none⟩) ss.length cap] w fun e w' => e = .returned (.int .u32 (crc (cat ss) : Nat)) ∧ w = w' := by
  have HC := Lib.hid hc
  clear hc
  go_enter Tryz.func232, Tryz.ntmps232
  go_wp2
  go_loop [3, 9] (fun v i => ∃ (k x : Nat), k ≤ ss.length ∧ i = .int .i64 k ∧ v = .int .u32 (x : Int) ∧ x < 4294967296 ∧ Hid (crcX 4294967295 (cat (ss.take k)) = x)) (fun _ i => ss.length - (intOf i).toNat)
  case atStart =>
    obtain ⟨x, h1, h2, h3⟩ := crc_start
    exact ⟨0, x, Nat.zero_le _, rfl, by rw [h3], h1, h2⟩
  case round =>
    obtain ⟨k, x, hk, rfl, rfl, hX1, HX⟩ := hrel
    by_cases hlt : k < ss.length
    · have hcx := HC.out k hlt
      have hsz : ss[k].size ≤ maxLen := hss _ (List.getElem_mem hlt)
      unfold maxLen at hsz
      have HSN : Hid (cat (ss.take (k + 1)) = cat (ss.take k) ++ ss[k].data.toList) := by
        show _ = _
        rw [List.take_succ_eq_append_getElem hlt, cat_snoc]
      generalize ss[k] = s at hcx hsz HSN
      go_wp2
      go_loop [3, 15] (fun v i => ∃ (j y : Nat), j ≤ s.size ∧ i = .int .i64 j ∧ v = .int .u32 (y : Int) ∧ y < 4294967296 ∧ Hid (crcX x (s.data.toList.take j) = y)) (fun _ i => s.size - (intOf i).toNat)
      case atStart => exact ⟨0, x, Nat.zero_le _, rfl, rfl, hX1, rfl⟩
      case round =>
        obtain ⟨j, y, hj, rfl, rfl, hY1, HY⟩ := hrel
        by_cases hjl : j < s.size
        · have HT : Hid (crcX x (s.data.toList.take (j + 1)) = stirN 8 (y ^^^ s[j].toNat)) := by
            show _ = _
            rw [take_snoc s j hjl, crcX_snoc, HY.out]
            rfl
          have HF := Lib.hid (xor_form y s[j] hY1)
          have hb := s[j].toNat_lt
          have hlx := xor_lt32 hY1 (show s[j].toNat < 4294967296 by omega)
          have hl2 := stirN_lt 8 hlx
          obtain ⟨z, hz⟩ : ∃ z, stirN 8 (y ^^^ s[j].toNat) = z := ⟨_, rfl⟩
          have HZ := Lib.hid hz
          clear hz
          rw [HZ.out] at hl2 HT
          have hst := Lib.hid (fun w' : World => stir_any _ _ w' HF hlx)
          rw [HZ.out] at hst
          clear hlx HF HZ hb
          go_wp2_with (go_at_call 270; refine (hst.out _).mono ?_; rintro e w' ⟨rfl, rfl⟩)
          go_round
          case rel => exact ⟨j + 1, z, by omega, by go_num, rfl, hl2, HT⟩
          case measure => simp [intOf]; omega
        · have hje : j = s.size := by omega
          have HY2 : Hid (crcX 4294967295 (cat (ss.take (k + 1))) = y) := by
            show _ = _
            rw [HSN.out, crcX_append, HX.out, ← HY.out, List.take_of_length_le (by rw [hje]; exact Nat.le_refl _)]
          clear hje HX HY
          go_wp2
          go_round
          case rel => exact ⟨k + 1, y, by omega, by go_num, rfl, hY1, HY2⟩
          case measure => simp [intOf]; omega
    · have hke : k = ss.length := by omega
      have HF : Hid (bits .xor .u32 (x : Int) 4294967295 = ((crc (cat ss) : Nat) : Int)) := by
        show _ = _
        rw [xor_ones x hX1, ← HX.out, hke, List.take_length]
        rfl
      clear HX
      go_wp2
      go_ret
      exact ⟨ret_int HF.out, rfl⟩
set_option maxHeartbeats 1000000 in
theorem crc_none (a : Option Addr) (cap : Nat) (w : World) :
    Calls Tryz.prog 232 #[.slice a 0 cap] w fun e w' => e = .returned (.int .u32 (crc (cat []) : Nat)) ∧ w = w' := by
  go_enter Tryz.func232, Tryz.ntmps232
  go_wp2
  refine wp_loop_rounds 1 ?_
  rw [rounds_succ]
  go_wp2
  go_ret
  exact ⟨rfl, rfl⟩

set_option maxHeartbeats 1000000 in
set_option maxRecDepth 100000 in
theorem lay_any (v : Nat) (w : World) (h : v < 4294967296) :
    Calls Tryz.prog 231 #[.int .u32 v] w fun e w' => e = .returned (.string ⟨(be v 4).toArray⟩) ∧ Below w.heap.size w w' := by
  go_enter Tryz.func231, Tryz.ntmps231
  go_wp2_with (go_at_call 269; refine (fix_ok v 4 _ (by omega) (by omega) (by omega)).mono ?_; rintro e w' ⟨rfl, hb⟩)
  go_ret
  exact ⟨rfl, hb⟩

set_option maxHeartbeats 1000000 in
set_option maxRecDepth 100000 in
theorem sread_any (s : ByteArray) (w : World) (hs : s.size ≤ 9223372036854775807) (h : 4 ≤ s.size) :
    Calls Tryz.prog 283 #[.string s] w fun e w' => e = .returned (.int .u32 (beVal (s.data.toList.take 4) : Nat)) ∧ w = w' := by
  have hl := beVal_lt (s.data.toList.take 4)
  have hll : (s.data.toList.take 4).length ≤ 4 := List.length_take_le _ _
  have hl2 : beVal (s.data.toList.take 4) < 4294967296 := Nat.lt_of_lt_of_le hl (pow256_mono hll)
  have hp : beVal (piece s 0 4) = beVal (s.data.toList.take 4) := by simp [piece]
  clear hl hll
  go_enter Tryz.func283, Tryz.ntmps283
  go_wp2_with (go_at_call 301; refine (unfix_ok s 0 4 _ hs (by omega) (by omega) (by omega)).mono ?_; rintro e w' ⟨rfl, rfl⟩)
  go_ret
  refine ⟨ret_int ?_, rfl⟩
  rfl
end Go.Proofs.YtlecffpjcjlabaaGreat

namespace Go.Proofs.YtlecffpjcjlabaaGreat
open Go.RowKit Go.ChangeShapes Go.WideShapes Go.ChangeAt

theorem addr_plain (b o j : Nat) : (⟨b, o, none⟩ : Addr).add j = ⟨b, o + j, none⟩ := by unfold Addr.add; split <;> simp_all
/-- A slice of texts that came in: its elements are ss. -/
def IsRowS (w : World) (a : Option Addr) (len : Nat) (ss : List ByteArray) : Prop :=
  ss.length = len ∧ (∀ s ∈ ss, s.size ≤ maxLen) ∧ (len = 0 ∨ ∃ b off, a = some ⟨b, off, none⟩ ∧ b < w.heap.size ∧ ∀ i (h : i < ss.length), w.cell? ⟨b, off + i, none⟩ = some (.string ss[i]))

theorem block_lt {w : World} {a : Addr} {v : Value} (h : w.cell? a = some v) : a.block < w.heap.size := by
  rcases Nat.lt_or_ge a.block w.heap.size with h1 | h1
  · exact h1
  · simp [World.cell?, Array.getElem?_eq_none h1] at h

theorem cellsStr : Tryz.prog.cellsOf 9 = 1 := by kernel_rfl

theorem rowS_of {H : Type} {enc : TypeId × Value → H} {w : World} {base fuel : Nat} {held : Bool} {a : Option Addr} {len cap : Nat} {x : DataW H × List MemPlace}
    (h : DataW.trod enc Tryz.prog w base (fun _ => true) held fuel 92 (Value.slice a len cap).cells.toList = some x) : len ≤ maxLen ∧ ∃ ss, IsRowS w a len ss := by
  rcases open_strings Tryz.underlying92 Tryz.underlying9 cellsStr h with ⟨hcs, _⟩ | ⟨y, l, c, ss, hcs, _, hl, hm, hz, _, hcell, hws⟩
  · simp [Value.cells] at hcs
    obtain ⟨rfl, rfl, rfl⟩ := hcs
    exact ⟨by unfold maxLen; omega, [], rfl, by simp, .inl rfl⟩
  · simp [Value.cells] at hcs
    obtain ⟨rfl, rfl, rfl⟩ := hcs
    have hz' : ss.length = cap := by simpa using hz
    refine ⟨Nat.le_trans hl hm, ss.take len, by simp; omega, fun s hs => hws s (List.mem_of_mem_take hs), ?_⟩
    by_cases h0 : len = 0
    · exact .inl h0
    · right
      have hc0 := hcell 0 (by omega)
      obtain ⟨b, off, spot⟩ := y
      have hs : spot = none := by simpa [Addr.add] using World.cell?_spot hc0
      subst hs
      refine ⟨b, off, rfl, block_lt hc0, ?_⟩
      intro i hi
      have hi' : i < len := by simp at hi; omega
      have hci := hcell i (by omega)
      have e : (ss.take len)[i] = ss[i]'(by omega) := by simp
      have e2 : ss.getD i ByteArray.empty = ss[i]'(by omega) := by simp [List.getD, List.getElem?_eq_getElem (show i < ss.length by omega)]
      rw [e2] at hci
      rw [e]
      rw [addr_plain] at hci
      exact hci

/-- What is left of the room behind one more size. -/
def room1 (r sz : Int) : Int := if r < 0 ∨ r < sz then -1 else r - sz

set_option maxHeartbeats 1000000 in
theorem room_any (r sz : Int) (b : Nat) (w : World) (hr0 : -1 ≤ r) (hr1 : r ≤ 1000000) (hs0 : 0 ≤ sz) (hs1 : sz ≤ 9223372036854775807) (hc : w.cell? ⟨b, 0, none⟩ = some (.int .i64 sz)) :
    Calls Tryz.prog 150 #[.int .i64 r, .slice (some ⟨b, 0, none⟩) 1 1] w fun e w' => e = .returned (.int .i64 (room1 r sz)) ∧ w = w' := by
  unfold room1
  by_cases h : r < 0 ∨ r < sz
  · rw [if_pos h]
    by_cases h0 : r < 0
    · clear h
      go_enter Tryz.func150, Tryz.ntmps150
      go_wp2
      refine wp_loop_rounds 1 ?_
      rw [rounds_succ]
      go_wp2
      go_ret
      exact ⟨rfl, rfl⟩
    · have h2 : r < sz := by omega
      have hd : decide (r < 0) = false := by simpa using h0
      clear h
      go_enter Tryz.func150, Tryz.ntmps150
      go_wp2
      refine wp_loop_rounds 1 ?_
      rw [rounds_succ]
      go_wp2
      go_ret
      exact ⟨rfl, rfl⟩
  · rw [if_neg h]
    have h0 : 0 ≤ r := by omega
    have h2 : sz ≤ r := by omega
    have hd : decide (r < 0) = false := by simpa using h0
    clear h
    go_enter Tryz.func150, Tryz.ntmps150
    go_wp2
    refine wp_loop_rounds 2 ?_
    rw [rounds_succ]
    go_wp2
    rw [rounds_succ]
    go_wp2
    go_ret
    exact ⟨rfl, rfl⟩

/-- How many bytes texts have together. -/
def total (ss : List ByteArray) : Nat := (ss.map ByteArray.size).sum
theorem total_snoc (ss : List ByteArray) (s : ByteArray) : total (ss ++ [s]) = total ss + s.size := by simp [total]

theorem total_take_le : ∀ (ss : List ByteArray) (k : Nat), total (ss.take k) ≤ total ss
  | [], k => by simp [total]
  | s :: ss, 0 => by simp [total]
  | s :: ss, k + 1 => by
    have := total_take_le ss k
    simp only [total, List.take_succ_cons, List.map_cons, List.sum_cons] at *
    omega
theorem total_mem {ss : List ByteArray} {s : ByteArray} (h : s ∈ ss) : s.size ≤ total ss := by
  induction ss with
  | nil => cases h
  | cons t ss ih =>
    simp only [total, List.map_cons, List.sum_cons] at *
    rcases List.mem_cons.1 h with rfl | h
    · omega
    · have := ih h; omega

theorem rowS_nil {H : Type} {enc : TypeId × Value → H} {w : World} {base fuel : Nat} {held : Bool} {a : Option Addr} {len cap : Nat} {x : DataW H × List MemPlace}
    (h : DataW.trod enc Tryz.prog w base (fun _ => true) held fuel 92 (Value.slice a len cap).cells.toList = some x) : a = none → cap = 0 := by
  rcases open_strings Tryz.underlying92 Tryz.underlying9 cellsStr h with ⟨hcs, _⟩ | ⟨y, l, c, ss, hcs, _, hl, hm, hz, _, hcell, hws⟩
  · simp [Value.cells] at hcs
    exact fun _ => hcs.2.2
  · simp [Value.cells] at hcs
    intro e
    rw [hcs.1] at e
    cases e
theorem rowS_cap {H : Type} {enc : TypeId × Value → H} {w : World} {base fuel : Nat} {held : Bool} {a : Option Addr} {len cap : Nat} {x : DataW H × List MemPlace}
    (h : DataW.trod enc Tryz.prog w base (fun _ => true) held fuel 92 (Value.slice a len cap).cells.toList = some x) : len ≤ cap ∧ cap ≤ maxLen := by
  rcases open_strings Tryz.underlying92 Tryz.underlying9 cellsStr h with ⟨hcs, _⟩ | ⟨y, l, c, ss, hcs, _, hl, hm, hz, _, hcell, hws⟩
  · simp [Value.cells] at hcs
    obtain ⟨rfl, rfl, rfl⟩ := hcs
    exact ⟨Nat.le_refl _, by unfold maxLen; omega⟩
  · simp [Value.cells] at hcs
    obtain ⟨rfl, rfl, rfl⟩ := hcs
    exact ⟨hl, hm⟩
end Go.Proofs.YtlecffpjcjlabaaGreat

namespace Go.Proofs.YtlecffpjcjlabaaGreat
open Go.RowKit

theorem builder_below {T e : TypeId} {B b : Nat} {bs : List Value} {w w' : World} (h : Lib.IsBuilder T e B b bs w) (hb : Below w.heap.size w w') : Lib.IsBuilder T e B b bs w' := by
  have one : ∀ p, Lib.BuilderAt T e B b p bs w → Lib.BuilderAt T e B b p bs w' := by
    intro p h
    have hlt := h.lt
    obtain ⟨hB, v, hv, hown, hne⟩ := h
    exact ⟨hB, v, (hb.block b hlt).trans hv, hown.kept (row := none) ⟨hb.os, hb.tape, hb.output, hb.size, fun k hk _ => hb.block k hk⟩ (Classical.em _), hne⟩
  exact h.elim (fun x => .inl (one _ x)) (fun x => .inr (one _ x))

/-- A builder of a call that began at w0, holding bytes. -/
def Bld (w0 : World) (b : Nat) (acc : List UInt8) (w : World) : Prop := Lib.IsBuilder 183 5 w0.heap.size b (Lib.byteCells acc) w ∧ Below w0.heap.size w0 w
theorem Bld.below {w0 w w' : World} {b : Nat} {acc : List UInt8} (h : Bld w0 b acc w) (hb : Below w.heap.size w w') : Bld w0 b acc w' := ⟨builder_below h.1 hb, h.2.trans (hb.mono h.2.size)⟩
theorem write_any (w0 : World) (b : Nat) (acc : List UInt8) (A : ByteArray) (w : World) (h : Bld w0 b acc w) (hl : acc.length + A.size ≤ 140737488355328) :
    Calls Tryz.prog 153 #[.pointer (some ⟨b, 0, none⟩), .string A] w fun e w' => e = .returned (.tuple #[.int .i64 A.size, .nilIface]) ∧ Bld w0 b (acc ++ A.data.toList) w' := by
  refine (Tryz.Builder_WriteString w0.heap.size b (Lib.byteCells acc) A w h.1 (by simpa [Lib.byteCells] using hl) h.2.size).mono ?_
  rintro e w1 ⟨rfl, hq, hb⟩
  refine ⟨rfl, .inr ?_, h.2.trans hb⟩
  rw [Lib.byteCells_append]
  exact hq
theorem string_any (w0 : World) (b : Nat) (acc : List UInt8) (w : World) (h : Bld w0 b acc w) :
    Calls Tryz.prog 156 #[.pointer (some ⟨b, 0, none⟩)] w fun e w' => e = .returned (.string ⟨acc.toArray⟩) ∧ Below w0.heap.size w0 w' := by
  refine (Tryz.Builder_String_any w0.heap.size b acc w h.1 h.2.size).mono ?_
  rintro e w1 ⟨rfl, hb⟩
  exact ⟨rfl, h.2.trans hb⟩
theorem grow_any (w : World) (n : Nat) (hn : n ≤ 281474976710656) :
    Calls Tryz.prog 230 #[.pointer (some ⟨w.heap.size, 0, none⟩), .int .i64 n] (w.alloc (Obj.cells #[Value.pointer none, Value.slice none 0 0] 183)) fun e w' => e = .returned (.tuple #[]) ∧ Bld w w.heap.size [] w' := by
  refine (Tryz.Builder_Grow_fresh w.heap.size w.heap.size n _ (Nat.le_refl _) (by simp [World.alloc, -World.alloc_eq]) (by simp) hn).mono ?_
  rintro e w1 ⟨rfl, hq, hb⟩
  exact ⟨rfl, .inr hq, ((Below.refl _ _).alloc (Nat.le_refl _) _).trans hb⟩

theorem crc_one (A : ByteArray) (b cap : Nat) (w : World) (hA : A.size ≤ maxLen) (h0 : w.cell? ⟨b, 0, none⟩ = some (.string A)) :
    Calls Tryz.prog 232 #[.slice (some ⟨b, 0, none⟩) 1 cap] w fun e w' => e = .returned (.int .u32 (crc A.data.toList : Nat)) ∧ w = w' := by
  have h := crc_rows b 0 cap [A] w (by simp) (by simpa using hA) (fun i hi => by
    match i, hi with
    | 0, _ => simpa using h0)
  simpa [cat] using h
theorem crc_two (A C : ByteArray) (b cap : Nat) (w : World) (hA : A.size ≤ maxLen) (hC : C.size ≤ maxLen) (h0 : w.cell? ⟨b, 0, none⟩ = some (.string A)) (h1 : w.cell? ⟨b, 1, none⟩ = some (.string C)) :
    Calls Tryz.prog 232 #[.slice (some ⟨b, 0, none⟩) 2 cap] w fun e w' => e = .returned (.int .u32 (crc (A.data.toList ++ C.data.toList) : Nat)) ∧ w = w' := by
  have h := crc_rows b 0 cap [A, C] w (by simp) (by simpa using ⟨hA, hC⟩) (fun i hi => by
    match i, hi with
    | 0, _ => simpa using h0
    | 1, _ => simpa using h1)
  simpa [cat] using h

def texts (ss : List ByteArray) : List (List UInt8) := ss.map fun s => s.data.toList
theorem texts_snoc (ss : List ByteArray) (s : ByteArray) : texts (ss ++ [s]) = texts ss ++ [s.data.toList] := by simp [texts]
theorem be_size (v n : Nat) : (⟨(be v n).toArray⟩ : ByteArray).size = n := by
  show (be v n).toArray.size = n
  rw [List.size_toArray, be_length]
theorem frames_length : ∀ (ss : List ByteArray), (frames (texts ss)).length = 8 * ss.length + total ss
  | [] => by simp [frames, texts, total]
  | s :: ss => by
    have := frames_length ss
    simp only [texts, List.map_cons] at *
    rw [frames_cons, List.length_append, frm_length, this]
    simp only [total, List.map_cons, List.sum_cons, List.length_cons]
    have : s.data.toList.length = s.size := rfl
    omega

set_option maxHeartbeats 2000000 in
set_option maxRecDepth 100000 in
theorem frame_rows (b off cap : Nat) (ss : List ByteArray) (w : World) (hb : b < w.heap.size) (hn : ss.length ≤ 100000) (ht : total ss ≤ 100000000)
    (hc : ∀ i (h : i < ss.length), w.cell? ⟨b, off + i, none⟩ = some (.string ss[i])) :
    Calls Tryz.prog 157 #[.slice (some ⟨b, off, none⟩) ss.length cap] w fun e w' => e = .returned (.string ⟨(frames (texts ss)).toArray⟩) ∧ Below w.heap.size w w' := by
  have HC := Lib.hid hc
  clear hc
  go_enter Tryz.func157, Tryz.ntmps157
  go_wp2
  go_loop [3, 12] (fun v i => ∃ k z : Nat, k ≤ ss.length ∧ i = .int .i64 k ∧ v = .int .i64 (z : Int) ∧ z ≤ 8 * k + total ss ∧ Hid (8 * k + total (ss.take k) = z)) (fun _ i => ss.length - (intOf i).toNat)
  case atStart => exact ⟨0, 0, Nat.zero_le _, rfl, rfl, by omega, by show _ = _; simp [total]⟩
  case round =>
    obtain ⟨k, z, hk, rfl, rfl, hz, HZ⟩ := hrel
    by_cases hlt : k < ss.length
    · have hcx := HC.out k hlt
      have hsz : ss[k].size ≤ total ss := total_mem (List.getElem_mem hlt)
      have HSN : Hid (8 * (k + 1) + total (ss.take (k + 1)) = z + (8 + ss[k].size)) := by
        show _ = _
        rw [List.take_succ_eq_append_getElem hlt, total_snoc, ← HZ.out]
        omega
      have hz2 := total_take_le ss (k + 1)
      have hz3 := HSN.out
      generalize ss[k] = s at hcx hsz HSN hz3
      clear HZ
      have hz4 : z + (8 + s.size) ≤ 8 * (k + 1) + total ss := by omega
      clear hz3 hz2
      go_wp2
      go_round
      case rel => exact ⟨k + 1, z + (8 + s.size), by omega, by go_num, by go_num, hz4, HSN⟩
      case measure => simp [intOf]; omega
    · clear HZ
      go_wp2_with (go_at_call 230; refine (grow_any w z (by omega)).mono ?_; rintro e w1 ⟨rfl, hbld0⟩)
      go_loopw [26] (fun i wr => ∃ (j : Nat) (acc : List UInt8), j ≤ ss.length ∧ i = .int .i64 j ∧ acc.length ≤ 8 * j + total ss ∧ Bld w w.heap.size acc wr ∧ Hid (acc = frames (texts (ss.take j)))) (fun i _ => ss.length - (intOf i).toNat)
      case atStart => exact ⟨0, [], Nat.zero_le _, rfl, by simp, hbld0, rfl⟩
      case round =>
        obtain ⟨j, acc, hj, rfl, hacc, hbld, HA⟩ := hrel
        by_cases hjl : j < ss.length
        · have hcx : wr.cell? ⟨b, off + j, none⟩ = some (.string ss[j]) := (hbld.2.cell (by exact hb)).trans (HC.out j hjl)
          have hsz : ss[j].size ≤ total ss := total_mem (List.getElem_mem hjl)
          have HSN : Hid (frames (texts (ss.take (j + 1))) = acc ++ frm ss[j].data.toList) := by
            show _ = _
            rw [List.take_succ_eq_append_getElem hjl, HA.out, texts_snoc, frames_snoc]
          have HL : Hid ((frames (texts (ss.take (j + 1)))).length ≤ 8 * (j + 1) + total ss) := by
            show _ ≤ _
            rw [frames_length, List.length_take]
            have := total_take_le ss (j + 1)
            omega
          generalize ss[j] = s at hcx hsz HSN
          have hl4 : (be s.size 4).length = 4 := be_length _ _
          have hm := Lib.hid (Nat.mod_eq_of_lt (show s.size < 4294967296 by omega))
          have hln : s.data.toList.length = s.size := rfl
          have hlay := Lib.hid (fun w' : World => lay_any s.size w' (by omega))
          obtain ⟨A, hA⟩ : ∃ A : ByteArray, A = ⟨(be s.size 4).toArray⟩ := ⟨_, rfl⟩
          have hAl : A.data.toList = be s.size 4 := by rw [hA]
          have hAs : A.size = 4 := by rw [hA, be_size]
          rw [← hA] at hlay
          have hcrc := Lib.hid (fun (w' : World) (b' : Nat) h0 h1 => crc_two A s b' 2 w' (by unfold maxLen; omega) (by unfold maxLen; omega) h0 h1)
          obtain ⟨c, hc⟩ : ∃ c, c = crc (A.data.toList ++ s.data.toList) := ⟨_, rfl⟩
          have hcl : c < 4294967296 := by rw [hc]; exact crc_lt _
          rw [← hc] at hcrc
          have hlay2 := Lib.hid (fun w' : World => lay_any c w' hcl)
          obtain ⟨C, hC⟩ : ∃ C : ByteArray, C = ⟨(be c 4).toArray⟩ := ⟨_, rfl⟩
          have hCl : C.data.toList = be c 4 := by rw [hC]
          have hCs : C.size = 4 := by rw [hC, be_size]
          rw [← hC] at hlay2
          have HSN2 : Hid (frames (texts (ss.take (j + 1))) = acc ++ A.data.toList ++ C.data.toList ++ s.data.toList) := by
            show _ = _
            rw [HSN.out]
            unfold frm
            rw [hln, hm.out, hCl, hc, hAl]
            simp
          have hlA : acc.length + A.size ≤ 140737488355328 := by omega
          have hlC : (acc ++ A.data.toList).length + C.size ≤ 140737488355328 := by rw [List.length_append, hAl, hl4]; omega
          have hlS : (acc ++ A.data.toList ++ C.data.toList).length + s.size ≤ 140737488355328 := by rw [List.length_append, List.length_append, hAl, hl4, hCl, be_length]; omega
          have HlA := Lib.hid hlA
          have HlC := Lib.hid hlC
          have HlS := Lib.hid hlS
          clear hC hA hc hm HSN HA hl4 hAl hAs hCl hCs hln hcl hlA hlC hlS
          go_wp2_with (first | (go_at_call 231; first | (with_reducible refine (hlay.out _).mono ?_; rintro e w1 ⟨rfl, hb1⟩; replace hbld := hbld.below hb1) | (refine (hlay2.out _).mono ?_; rintro e w2 ⟨rfl, hb2⟩; replace hbld := Bld.below (Bld.below hbld ((Below.refl _ _).alloc (Nat.le_refl _) _)) hb2)) | (go_at_call 232; refine (hcrc.out _ _ (by simp) (by simp)).mono ?_; rintro e w2 ⟨rfl, rfl⟩) | (go_at_call 153; refine (write_any w _ _ _ _ hbld (by first | exact HlA.out | exact HlC.out | exact HlS.out)).mono ?_; rintro e w2 ⟨rfl, hbld⟩))
          go_roundw
          case rel =>
            refine ⟨j + 1, _, by omega, by go_num, ?_, hbld, ?_⟩
            · rw [← HSN2.out]; exact HL.out
            · show _ = _; rw [HSN2.out]
          case measure => simp [intOf]; omega
        · have hje : j = ss.length := by omega
          have HF : Hid (acc = frames (texts ss)) := by show _ = _; rw [HA.out, hje, List.take_length]
          clear HA hje
          go_wp2_with (go_at_call 156; refine (string_any w _ _ _ hbld).mono ?_; rintro e w2 ⟨rfl, hb2⟩)
          go_ret
          have hf := HF.out
          subst hf
          exact ⟨rfl, hb2⟩
end Go.Proofs.YtlecffpjcjlabaaGreat

namespace Go.Proofs.YtlecffpjcjlabaaGreat
open Go.RowKit

theorem clone_any (s : ByteArray) (w : World) (h : s.size ≤ 281474976710656) :
    Calls Tryz.prog 221 #[.string s] w fun e w' => e = .returned (.string s) ∧ Below w.heap.size w w' := by
  go_enter Tryz.func221, Tryz.ntmps221
  go_wp2_with (go_at_call 262; refine (Tryz.stringslite_Clone s _ h).mono ?_; rintro e w' ⟨rfl, hb⟩)
  go_ret
  exact ⟨rfl, hb⟩
theorem drew_below (w : World) (n : Nat) : Below w.heap.size w (w.drewN n) := ⟨rfl, rfl, rfl, Nat.le_refl _, fun _ _ => rfl⟩
theorem quiet_eq {P : Program} {f : FuncId} {args : Array Value} {w : World} {n : Nat} {v : Value} (h : Calls P f args (w.drewN n) fun e w' => e = .returned v ∧ w.drewN n = w') :
    Calls P f args (w.drewN n) fun e w'' => e = .returned v ∧ ∃ m, w'' = w.drewN m := h.mono fun _ _ ⟨he, hm⟩ => ⟨he, n, hm.symm⟩
theorem drew_new0 (w : World) (n : Nat) (A C : Value) (t : TypeId) : ((w.drewN n).alloc (.cells #[A, C] t)).cell? ⟨w.heap.size, 0, none⟩ = some A := by
  show ((w.drewN n).alloc (.cells #[A, C] t)).cell? ⟨(w.drewN n).heap.size, 0, none⟩ = some A
  generalize w.drewN n = u
  simp
theorem drew_new1 (w : World) (n : Nat) (A C : Value) (t : TypeId) : ((w.drewN n).alloc (.cells #[A, C] t)).cell? ⟨w.heap.size, 1, none⟩ = some C := by
  show ((w.drewN n).alloc (.cells #[A, C] t)).cell? ⟨(w.drewN n).heap.size, 1, none⟩ = some C
  generalize w.drewN n = u
  simp
theorem arr_eq (s : ByteArray) : s = ⟨s.data.toList.toArray⟩ := by
  rcases s with ⟨a⟩
  rfl
theorem ext_list (s : ByteArray) (a b : Nat) : (s.extract a b).data.toList = (s.data.toList.take b).drop a := by
  rw [ByteArray.data_extract, Array.toList_extract]
  simp [List.extract, List.drop_take]
theorem ext_to (s : ByteArray) (b : Nat) : (s.extract 0 b).data.toList = s.data.toList.take b := by rw [ext_list]; rfl
theorem ext_from (s : ByteArray) (a : Nat) : (s.extract a s.size).data.toList = s.data.toList.drop a := by
  rw [ext_list, List.take_of_length_le (show s.data.toList.length ≤ s.size from Nat.le_refl _)]
/-- What cut answers. -/
def cutV : Option (List UInt8) → Value
  | none => .tuple #[.string ⟨#[]⟩, .bool false]
  | some t => .tuple #[.string ⟨t.toArray⟩, .bool true]
set_option maxHeartbeats 1000000 in
set_option maxRecDepth 100000 in
theorem scut_short (s : ByteArray) (w : World) (h : s.size < 8) :
    Calls Tryz.prog 272 #[.string s] w fun e w' => e = .returned (cutV (cutF s.data.toList)) ∧ Below w.heap.size w w' := by
  have hv : cutV (cutF s.data.toList) = .tuple #[.string ⟨#[]⟩, .bool false] := by unfold cutF; rw [if_pos (by exact h)]; rfl
  rw [hv]
  go_enter Tryz.func272, Tryz.ntmps272
  go_wp2
  go_ret2
  exact ⟨rfl, Below.refl _ _⟩
set_option maxHeartbeats 2000000 in
set_option maxRecDepth 100000 in
theorem scut_long (s : ByteArray) (w : World) (h8 : 8 ≤ s.size) (h : s.size ≤ 100000000) :
    Calls Tryz.prog 272 #[.string s] w fun e w' => e = .returned (cutV (cutF s.data.toList)) ∧ Below w.heap.size w w' := by
  have hln : s.data.toList.length = s.size := rfl
  obtain ⟨T, hT⟩ : ∃ T : ByteArray, s.extract 4 s.size = T := ⟨_, rfl⟩
  obtain ⟨R, hR⟩ : ∃ R : ByteArray, s.extract 8 s.size = R := ⟨_, rfl⟩
  obtain ⟨F, hF⟩ : ∃ F : ByteArray, s.extract 0 4 = F := ⟨_, rfl⟩
  have hTl : T.data.toList = s.data.toList.drop 4 := by rw [← hT, ext_from]
  have hRl : R.data.toList = s.data.toList.drop 8 := by rw [← hR, ext_from]
  have hFl : F.data.toList = s.data.toList.take 4 := by rw [← hF, ext_to]
  have hTs : T.size = s.size - 4 := by
    have : T.size = T.data.toList.length := rfl
    rw [this, hTl, List.length_drop, hln]
  have hRs : R.size = s.size - 8 := by
    have : R.size = R.data.toList.length := rfl
    rw [this, hRl, List.length_drop, hln]
  have hFs : F.size = 4 := by
    have : F.size = F.data.toList.length := rfl
    rw [this, hFl, List.length_take, hln]; omega
  have hr1 := Lib.hid (fun w' : World => sread_any s w' (by omega) (by omega))
  have hr2 := Lib.hid (fun w' : World => sread_any T w' (by omega) (by omega))
  obtain ⟨n, hn⟩ : ∃ n, beVal (s.data.toList.take 4) = n := ⟨_, rfl⟩
  obtain ⟨c, hc⟩ : ∃ c, beVal (T.data.toList.take 4) = c := ⟨_, rfl⟩
  have hnl : n < 4294967296 := by
    rw [← hn]
    have h1 := beVal_lt (s.data.toList.take 4)
    rwa [List.length_take, hln, Nat.min_eq_left (by omega)] at h1
  obtain ⟨X, hX⟩ : ∃ X : ByteArray, R.extract 0 n = X := ⟨_, rfl⟩
  have hXl : X.data.toList = (s.data.toList.drop 8).take n := by rw [← hX, ext_to, hRl]
  have hXs : X.size ≤ s.size := by
    have : X.size = X.data.toList.length := rfl
    rw [this, hXl, List.length_take, List.length_drop, hln]; omega
  have hcrc := Lib.hid (fun (w' : World) (b' : Nat) h0 h1 => crc_two F X b' 2 w' (by unfold maxLen; omega) (by unfold maxLen; omega) h0 h1)
  have hclone := Lib.hid (fun w' : World => clone_any X w' (by omega))
  have hv : cutF s.data.toList = if 16777216 < n ∨ s.size - 8 < n then none else if crc (F.data.toList ++ X.data.toList) = c then some X.data.toList else none := by
    unfold cutF
    rw [if_neg (by rw [hln]; omega), hn, hln, ← hFl, ← hXl, ← hTl, hc]
  rw [hv]
  have hcl := crc_lt (F.data.toList ++ X.data.toList)
  generalize crc (F.data.toList ++ X.data.toList) = d at hcrc hcl ⊢
  rw [hn] at hr1
  rw [hc] at hr2
  clear hv hc hn hTl hRl hFl hXl hln
  by_cases hbad : 16777216 < n ∨ s.size - 8 < n
  · rw [if_pos hbad]
    by_cases hb1 : 16777216 < n
    · clear hbad
      go_enter Tryz.func272, Tryz.ntmps272
      go_wp2
      go_quiet ((go_at_call 283; first | (with_reducible exact quiet_eq (hr1.out _)) | (with_reducible exact quiet_eq (hr2.out _))))
      go_wp2
      go_ret2
      exact ⟨rfl, drew_below _ _⟩
    · have hb2 : s.size - 8 < n := by omega
      have hd : decide (16777216 < n) = false := by simpa using hb1
      clear hbad
      go_enter Tryz.func272, Tryz.ntmps272
      go_wp2
      go_quiet ((go_at_call 283; first | (with_reducible exact quiet_eq (hr1.out _)) | (with_reducible exact quiet_eq (hr2.out _))))
      go_wp2
      go_ret2
      exact ⟨rfl, drew_below _ _⟩
  · rw [if_neg hbad]
    have hb1 : n ≤ 16777216 := by omega
    have hb2 : n ≤ s.size - 8 := by omega
    clear hbad
    by_cases hcr : d = c
    · rw [if_pos hcr]
      have hq : ((d : Int) != (c : Int)) = false := by subst hcr; simp
      clear hcr
      go_enter Tryz.func272, Tryz.ntmps272
      go_wp2
      go_quiet ((go_at_call 283; first | (with_reducible exact quiet_eq (hr1.out _)) | (with_reducible exact quiet_eq (hr2.out _))))
      go_wp2_with (first | (go_at_call 232; refine (hcrc.out _ _ (drew_new0 _ _ _ _ _) (drew_new1 _ _ _ _ _)).mono ?_; rintro e w1 ⟨rfl, rfl⟩) | (go_at_call 221; refine (hclone.out _).mono ?_; rintro e w3 ⟨rfl, hb3⟩))
      go_ret2
      refine ⟨by show _ = Ending.returned (.tuple #[.string ⟨X.data.toList.toArray⟩, .bool true]); rw [← arr_eq X]; rfl, ((drew_below _ _).alloc (by simp) _).trans (hb3.mono (by simp))⟩
    · rw [if_neg hcr]
      have hq : ((d : Int) != (c : Int)) = true := by simp; omega
      clear hcr
      go_enter Tryz.func272, Tryz.ntmps272
      go_wp2
      go_quiet ((go_at_call 283; first | (with_reducible exact quiet_eq (hr1.out _)) | (with_reducible exact quiet_eq (hr2.out _))))
      go_wp2_with (first | (go_at_call 232; refine (hcrc.out _ _ (drew_new0 _ _ _ _ _) (drew_new1 _ _ _ _ _)).mono ?_; rintro e w1 ⟨rfl, rfl⟩) | (go_at_call 221; refine (hclone.out _).mono ?_; rintro e w3 ⟨rfl, hb3⟩))
      go_ret2
      exact ⟨rfl, (drew_below _ _).alloc (by simp) _⟩
theorem scut_any (s : ByteArray) (w : World) (h : s.size ≤ 100000000) :
    Calls Tryz.prog 272 #[.string s] w fun e w' => e = .returned (cutV (cutF s.data.toList)) ∧ Below w.heap.size w w' := by
  by_cases h8 : s.size < 8
  · exact scut_short s w h8
  · exact scut_long s w (by omega) h
/-- What Scan answers is a row of its own, and how many bytes. -/
def rowT (v : Value) (ts : List (List UInt8)) : Rw := ⟨9, 1, v, ts.length, ts.map fun t => .string ⟨t.toArray⟩⟩
theorem infoStr : (Tryz.prog.info? 9).map (fun i => (i.zero, i.size, i.bytes)) = some (some (.string ⟨#[]⟩), 1, 16) := by kernel_rfl
set_option maxHeartbeats 2000000 in
set_option maxRecDepth 100000 in
theorem scan_any (s : ByteArray) (w : World) (h : s.size ≤ 100000000) :
    Calls Tryz.prog 240 #[.string s] w fun e w' => ∃ v, e = .returned (.tuple #[v, .int .i64 ((scanF s.data.toList).2 : Nat)]) ∧ (rowT v (scanF s.data.toList).1).ok w.heap.size w' ∧ Below w.heap.size w w' := by
  obtain ⟨i0, hi, hz0, hz1, hz2⟩ := info_parts infoStr
  have hln : s.data.toList.length = s.size := rfl
  go_enter Tryz.func240, Tryz.ntmps240
  go_wp2
  go_loopw [4, 5] (fun v i wr => ∃ (k : Nat) (ts : List (List UInt8)), k ≤ s.size ∧ i = .int .i64 k ∧ wr.ownsRow w.heap.size 9 1 v ts.length (ts.map fun t => .string ⟨t.toArray⟩) ∧ Below w.heap.size w wr ∧ ts.length ≤ k ∧
      Hid (scanF s.data.toList = (ts ++ (scanF (s.data.toList.drop k)).1, k + (scanF (s.data.toList.drop k)).2))) (fun _ i _ => s.size - (intOf i).toNat)
  case atStart => exact ⟨0, [], Nat.zero_le _, rfl, World.ownsRow_nil _ _ _ _, Below.refl _ _, Nat.le_refl _, by show _ = _; simp⟩
  case round =>
    obtain ⟨k, ts, hk, rfl, hown, hbel, htl, HS⟩ := hrel
    obtain ⟨X, hX⟩ : ∃ X : ByteArray, s.extract k s.size = X := ⟨_, rfl⟩
    have hXl : X.data.toList = s.data.toList.drop k := by rw [← hX, ext_from]
    have hXs : X.size = s.size - k := by
      have : X.size = X.data.toList.length := rfl
      rw [this, hXl, List.length_drop, hln]
    have hcut := Lib.hid (fun w' : World => scut_any X w' (by omega))
    rw [hXl] at hcut
    cases hq : cutF (s.data.toList.drop k) with
    | none =>
      rw [hq] at hcut
      simp only [cutV] at hcut
      have HS2 : Hid (scanF s.data.toList = (ts, k)) := by
        show _ = _
        rw [HS.out, scanF_none hq]; simp
      clear HS hq hXl
      go_wp2_with (go_at_call 272; refine (hcut.out _).mono ?_; rintro e w1 ⟨rfl, hb1⟩)
      go_ret2
      rw [HS2.out]
      exact ⟨_, rfl, World.ownsRow.kept (row := none) hown ⟨hb1.os, hb1.tape, hb1.output, hb1.size, fun k hk _ => hb1.block k hk⟩ (Classical.em _), hbel.trans (hb1.mono hbel.size)⟩
    | some t =>
      have hl := cutF_length hq
      rw [List.length_drop, hln] at hl
      rw [hq] at hcut
      simp only [cutV] at hcut
      have hts : t.toArray.size = t.length := by simp
      have HS2 : Hid (scanF s.data.toList = ((ts ++ [t]) ++ (scanF (s.data.toList.drop (k + (8 + t.length)))).1, k + (8 + t.length) + (scanF (s.data.toList.drop (k + (8 + t.length)))).2)) := by
        show _ = _
        rw [HS.out, scanF_some hq, List.drop_drop]
        simp [Nat.add_assoc]
      clear HS hq hXl
      go_wp2_with (first | (go_at_call 272; refine (hcut.out _).mono ?_; rintro e w1 ⟨rfl, hb1⟩; have hown1 := World.ownsRow.kept (row := none) hown ⟨hb1.os, hb1.tape, hb1.output, hb1.size, fun k hk _ => hb1.block k hk⟩ (Classical.em _); have hbel1 : Below w.heap.size w w1 := hbel.trans (hb1.mono hbel.size)) | (at_builtin; refine wpList_append_own _ rfl _ _ 92 rfl w.heap.size 9 i0 (.string ⟨#[]⟩) 1 16 Tryz.underlying92 hi hz0 hz1 hz2 rfl (by decide) _ _ _ rfl (hown1.alloc _) ⟨w1.heap.size, 0, none⟩ 1 1 [.string ⟨t.toArray⟩] rfl rfl ?c1 ?c2 ?c3 ?c4 ?c5 ?_))
      case c1 =>
        intro j u hj
        match j, hj with
        | 0, hj => simp at hj; subst hj; simp [Addr.add]
      case c2 => intro u hu; simp at hu; subst hu; rfl
      case c3 => unfold maxLen; omega
      case c4 => omega
      case c5 => have := hbel1.size; simp; omega
      intro v' w2 hown' hgrow _
      have hbel2 : Below w.heap.size w w2 := (hbel1.alloc hbel1.size _).grown hgrow (by have := hbel1.size; simp; omega) (fun k hk => (hown1.lt k hk).1)
      clear hgrow
      go_wp2
      go_roundw
      case rel =>
        refine ⟨k + (8 + t.length), ts ++ [t], by omega, ?_, ?_, hbel2, by simp; omega, HS2⟩
        · go_num
        · simpa using hown'
      case measure => simp [intOf]; omega
end Go.Proofs.YtlecffpjcjlabaaGreat
