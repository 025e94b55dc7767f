/- Plain: a sealed text of which one byte is changed; bytes of a text, and back. -/
import Derived.Test.YthaalhigmihijacZS
import Derived.Test.YthaalhigmihijacRows
import Derived.ProofKit
import Derived.SliceStrings
import Derived.OpenShut
import Derived.Lib.ConvBytes
namespace Go.Proofs.Ythaalhigmihijac
open Go.RowKit
open Go.RowKit Go.ChangeShapes Go.WideShapes Go.ChangeAt

theorem top_lt {x : Nat} (h : x < 4294967296) : (x / 2).testBit 31 = false := Nat.testBit_lt_two_pow (by omega)
theorem stir1_top {x : Nat} (h : x < 4294967296) : (stir1 x).testBit 31 = decide (x % 2 = 1) := by
  unfold stir1
  rw [Nat.testBit_xor, top_lt h]
  by_cases hx : x % 2 = 1
  · rw [if_pos hx, show Nat.testBit 2197175160 31 = true by decide]; simp [hx]
  · rw [if_neg hx]; simp [hx]
theorem xor_cancel {a b c : Nat} (h : a ^^^ c = b ^^^ c) : a = b := by
  have := congrArg (· ^^^ c) h
  simpa [Nat.xor_assoc] using this
theorem stir1_inj {x y : Nat} (hx : x < 4294967296) (hy : y < 4294967296) (h : stir1 x = stir1 y) : x = y := by
  have ht := stir1_top hx
  rw [h, stir1_top hy] at ht
  have hp : x % 2 = y % 2 := by
    have : (y % 2 = 1) ↔ (x % 2 = 1) := by simpa using ht
    omega
  unfold stir1 at h
  rw [hp] at h
  have := xor_cancel h
  omega
theorem stirN_inj : ∀ (n : Nat) {x y : Nat}, x < 4294967296 → y < 4294967296 → stirN n x = stirN n y → x = y
  | 0, _, _, _, _, h => h
  | n + 1, _, _, hx, hy, h => stirN_inj n hx hy (stir1_inj (stirN_lt n hx) (stirN_lt n hy) h)
theorem crcX_inj : ∀ (l : List UInt8) {x y : Nat}, x < 4294967296 → y < 4294967296 → crcX x l = crcX y l → x = y
  | [], _, _, _, _, h => h
  | b :: l, x, y, hx, hy, h => by
    have hb := b.toNat_lt
    have h1 := crcX_inj l (crcB_lt hx b) (crcB_lt hy b) h
    exact xor_cancel (stirN_inj 8 (xor_lt32 hx (by omega)) (xor_lt32 hy (by omega)) h1)
theorem crc_change (a b : List UInt8) (c d : UInt8) (h : c ≠ d) : crc (a ++ c :: b) ≠ crc (a ++ d :: b) := by
  intro e
  have e1 := xor_cancel e
  rw [crcX_append, crcX_append] at e1
  have hx := crcX_lt a (x := 4294967295) (by omega)
  have hc := c.toNat_lt
  have hd := d.toNat_lt
  have e2 := crcX_inj b (crcB_lt hx c) (crcB_lt hx d) e1
  have e3 := stirN_inj 8 (xor_lt32 hx (by omega)) (xor_lt32 hx (by omega)) e2
  rw [Nat.xor_comm, Nat.xor_comm _ d.toNat] at e3
  exact h (UInt8.toNat_inj.1 (xor_cancel e3))
theorem beVal_inj {a b : List UInt8} (hl : a.length = b.length) (h : beVal a = beVal b) : a = b := by
  rw [← be_beVal a, ← be_beVal b, h, hl]
theorem seal_change (s : List UInt8) (k : Nat) (c : UInt8) (hk : k < (sealF s).length) (hc : c ≠ (sealF s)[k]) :
    crc (((sealF s).set k c).take s.length) ≠ beVal (((sealF s).set k c).drop s.length) := by
  have hv : beVal (be (crc s) 4) = crc s := beVal_be 4 _ (crc_lt _)
  by_cases h : k < s.length
  · have e1 : (sealF s).set k c = s.set k c ++ be (crc s) 4 := by unfold sealF; rw [List.set_append_left _ _ h]
    have hl : (s.set k c).length = s.length := by simp
    rw [e1, List.take_append_of_le_length (by omega), List.take_of_length_le (by omega), List.drop_append_of_le_length (by omega), List.drop_of_length_le (by omega), List.nil_append, hv]
    have e2 : (sealF s)[k] = s[k] := by simp [sealF, List.getElem_append_left h]
    rw [e2] at hc
    have es : s = s.take k ++ s[k] :: s.drop (k + 1) := by rw [List.getElem_cons_drop, List.take_append_drop]
    have ec : s.set k c = s.take k ++ c :: s.drop (k + 1) := by rw [List.set_eq_take_append_cons_drop, if_pos h]
    rw [ec]
    conv => rhs; rw [es]
    exact crc_change _ _ _ _ hc
  · have hk2 : k < s.length + 4 := by simpa [sealF, be_length] using hk
    have e1 : (sealF s).set k c = s ++ (be (crc s) 4).set (k - s.length) c := by unfold sealF; rw [List.set_append_right _ _ (by omega)]
    rw [e1, List.take_append_of_le_length (Nat.le_refl _), List.take_length, List.drop_left]
    intro e
    have e3 := beVal_inj (by simp) (hv.trans e)
    have hk3 : k - s.length < (be (crc s) 4).length := by rw [be_length]; omega
    have e4 : (be (crc s) 4)[k - s.length]? = ((be (crc s) 4).set (k - s.length) c)[k - s.length]? := congrArg (·[k - s.length]?) e3
    rw [List.getElem?_set_self hk3, List.getElem?_eq_getElem hk3] at e4
    have e5 : (sealF s)[k] = (be (crc s) 4)[k - s.length] := by simp [sealF, List.getElem_append_right (show s.length ≤ k by omega)]
    exact hc (by rw [e5]; exact (Option.some.inj e4).symm)
theorem addr_plain (b o j : Nat) : (⟨b, o, none⟩ : Addr).add j = ⟨b, o + j, none⟩ := by unfold Addr.add; split <;> simp_all
theorem bytes_of (s : ByteArray) (w : World) : ∃ (C : Nat) (w1 : World), (convert 9 31 (.string s)).run Try.prog w = .ok (.slice (some ⟨w.heap.size, 0, none⟩) s.size C) w1 ∧ Below w.heap.size w w1 ∧ s.size ≤ C ∧
    (∀ i, i < s.size → w1.cell? ⟨w.heap.size, i, none⟩ = some (.int .u8 (s.data.toList.getD i 0).toNat)) ∧ (∀ i, i < s.size → w1.frozen? ⟨w.heap.size, i, none⟩ = false) ∧ w.heap.size < w1.heap.size := by
  have hz : s.size ≤ (Lib.bytesCells w 5 s).size := by
    unfold Lib.bytesCells
    rw [Array.size_append, Array.size_map]
    exact Nat.le_add_right _ _
  refine ⟨_, _, Lib.run_convert_string_bytes w _ _ _ s Try.underlying9 Try.underlying31 Try.underlying5, ?_, ?_, ?_, ?_, ?_⟩
  · refine ⟨rfl, rfl, rfl, ?_, fun k hk => Lib.bytesWorld_at_old w _ s k hk⟩
    rw [Lib.bytesWorld_size]; omega
  · exact grownCap_ge _ _ _ _
  · intro i hi
    exact Lib.bytesWorld_cell w _ s i hi
  · intro i hi
    simp only [World.frozen?, Lib.bytesWorld_at_new]
    simp
    omega
  · rw [Lib.bytesWorld_size]; omega
theorem xor_byte (x : UInt8) (b : Int) : ∃ c : UInt8, bits .xor .u8 (x.toNat : Int) (b % 256) = (c.toNat : Int) ∧ (b % 256 ≠ 0 → c ≠ x) := by
  have hx := x.toNat_lt
  obtain ⟨m, hm⟩ : ∃ m : Nat, b % 256 = (m : Int) := ⟨(b % 256).toNat, by omega⟩
  have hl : x.toNat ^^^ m < 256 := Nat.xor_lt_two_pow (n := 8) (by omega) (by omega)
  refine ⟨UInt8.ofNat (x.toNat ^^^ m), ?_, ?_⟩
  · rw [hm, u8_xor_nat _ _ (by omega) (by omega), UInt8.toNat_ofNat', Nat.mod_eq_of_lt (by omega)]
  · intro h0 e
    have h1 := congrArg UInt8.toNat e
    rw [UInt8.toNat_ofNat', Nat.mod_eq_of_lt (by omega)] at h1
    have h2 : m = 0 := by
      have := congrArg (x.toNat ^^^ ·) h1
      simpa [← Nat.xor_assoc] using this
    omega
theorem addr0 (b j : Nat) : (⟨b, 0, none⟩ : Addr).add j = ⟨b, j, none⟩ := by
  rw [addr_plain, Nat.zero_add]
theorem back_of (w : World) (b C n : Nat) (l : List UInt8) (hn : n = l.length) (h : ∀ i (hi : i < l.length), w.cell? ⟨b, i, none⟩ = some (.int .u8 (l[i].toNat : Int))) :
    (convert 31 9 (.slice (some ⟨b, 0, none⟩) n C)).run Try.prog w = .ok (.string ⟨l.toArray⟩) w := by
  subst hn
  exact run_convert_bytes_back (P := Try.prog) w 31 9 5 ⟨b, 0, none⟩ C l Try.underlying31 Try.underlying5 Try.underlying9 (fun j hj => by rw [addr0]; exact h j hj)
end Go.Proofs.Ythaalhigmihijac
