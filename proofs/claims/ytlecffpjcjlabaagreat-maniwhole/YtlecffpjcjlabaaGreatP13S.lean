/- mani on files: what is laid, which names (plain). -/
import Derived.Test.YtlecffpjcjlabaaGreatPV
import Derived.Test.YtlecffpjcjlabaaGreatWE
namespace Go.Proofs.YtlecffpjcjlabaaGreat
open Go.RowKit

def curN : Nm := [67, 85, 82, 82, 69, 78, 84]
def comN : Nm := [67, 85, 82, 82, 69, 78, 84, 126]
def nmM (num : Nat) : Nm := 109 :: dig8 num
def awayM (s : St) (nm : Nm) : St × Int := if (s.read nm).2 = 0 then s.remove nm else (s, 0)
def replaceM (s : St) (nm : Nm) (b : List UInt8) : St × Int := seqS (awayM s nm) fun s => seqS (s.create nm) fun s => seqS (s.append nm b) fun s => s.sync nm
def switchM (s : St) (nm : Nm) : St × Int := seqS (replaceM s comN nm) fun s => seqS (s.rename comN curN) fun s => s.syncDir
def layM (s : St) (nm : Nm) (b : List UInt8) : St × Int := seqS (replaceM s nm b) fun s => seqS s.syncDir fun s => switchM s nm
/-- The number of a file of edits of this name. -/
def numM (l : List UInt8) : Option Nat := if l.length = 9 ∧ l.head? = some 109 ∧ (l.drop 1).all isDg = true then some (dgVal (l.drop 1)) else none
theorem dg_of {b : UInt8} (h : isDg b = true) : ∃ d, d < 10 ∧ b = UInt8.ofNat (48 + d) := by
  simp only [isDg, decide_eq_true_eq] at h
  exact ⟨b.toNat - 48, by omega, by rw [show 48 + (b.toNat - 48) = b.toNat by omega]; exact UInt8.ofNat_toNat.symm⟩
theorem u8_ofN {n : Nat} (h : n < 256) : (UInt8.ofNat n).toNat = n := UInt8.toNat_ofNat_of_lt' (by show n < 256; exact h)
theorem numM_name {l : List UInt8} {k : Nat} (h : numM l = some k) : nmM k = l ∧ k < 100000000 := by
  unfold numM at h
  split at h
  · rename_i hc
    obtain ⟨h9, hh, ha⟩ := hc
    have hk := Option.some.inj h
    match l, h9 with
    | [c, a1, a2, a3, a4, a5, a6, a7, a8], _ =>
      simp only [List.head?_cons, Option.some.injEq] at hh
      subst hh
      simp only [List.drop_succ_cons, List.drop_zero, List.all_cons, List.all_nil, Bool.and_true, Bool.and_eq_true] at ha
      obtain ⟨g1, g2, g3, g4, g5, g6, g7, g8⟩ := ha
      obtain ⟨d1, l1, rfl⟩ := dg_of g1
      obtain ⟨d2, l2, rfl⟩ := dg_of g2
      obtain ⟨d3, l3, rfl⟩ := dg_of g3
      obtain ⟨d4, l4, rfl⟩ := dg_of g4
      obtain ⟨d5, l5, rfl⟩ := dg_of g5
      obtain ⟨d6, l6, rfl⟩ := dg_of g6
      obtain ⟨d7, l7, rfl⟩ := dg_of g7
      obtain ⟨d8, l8, rfl⟩ := dg_of g8
      simp only [List.drop_succ_cons, List.drop_zero, dgVal, List.foldl_cons, List.foldl_nil] at hk
      rw [u8_ofN (by omega), u8_ofN (by omega), u8_ofN (by omega), u8_ofN (by omega), u8_ofN (by omega), u8_ofN (by omega), u8_ofN (by omega), u8_ofN (by omega)] at hk
      refine ⟨?_, by omega⟩
      unfold nmM dig8
      rw [show k / 10000000 % 10 = d1 by omega, show k / 1000000 % 10 = d2 by omega, show k / 100000 % 10 = d3 by omega, show k / 10000 % 10 = d4 by omega, show k / 1000 % 10 = d5 by omega, show k / 100 % 10 = d6 by omega, show k / 10 % 10 = d7 by omega, show k % 10 = d8 by omega]
  · cases h
theorem numM_of (m : Nat) (h : m < 100000000) : numM (nmM m) = some m := by
  have e : dgVal ((nmM m).drop 1) = m := by
    simp only [nmM, dig8, List.drop_succ_cons, List.drop_zero, dgVal, List.foldl_cons, List.foldl_nil]
    rw [u8_ofN (by omega), u8_ofN (by omega), u8_ofN (by omega), u8_ofN (by omega), u8_ofN (by omega), u8_ofN (by omega), u8_ofN (by omega), u8_ofN (by omega)]
    omega
  unfold numM
  rw [if_pos, e]
  refine ⟨rfl, rfl, ?_⟩
  simp only [nmM, dig8, List.drop_succ_cons, List.drop_zero, List.all_cons, List.all_nil, Bool.and_true, Bool.and_eq_true, isDg, decide_eq_true_eq]
  rw [u8_ofN (by omega), u8_ofN (by omega), u8_ofN (by omega), u8_ofN (by omega), u8_ofN (by omega), u8_ofN (by omega), u8_ofN (by omega), u8_ofN (by omega)]
  omega
theorem nmM_inj {a b : Nat} (ha : a < 100000000) (hb : b < 100000000) (h : nmM a = nmM b) : a = b := by
  have := numM_of a ha
  rw [h, numM_of b hb] at this
  exact (Option.some.inj this).symm
end Go.Proofs.YtlecffpjcjlabaaGreat
