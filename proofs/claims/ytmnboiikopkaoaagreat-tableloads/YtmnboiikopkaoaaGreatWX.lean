/- Plain: the files where a table's is the one file. -/
import Derived.Test.YtmnboiikopkaoaaGreatWH
import Derived.Test.YtmnboiikopkaoaaGreatUD
namespace Go.Proofs.YtmnboiikopkaoaaGreat
open Go.RowKit

/-- A table's name as a file's. -/
def nmT (num : Nat) : List UInt8 := 116 :: dig8 num
theorem nmT_isNm (num : Nat) : isNm (nmT num) = true := rfl
theorem u8_ten {a b : Nat} (h : UInt8.ofNat (48 + a % 10) = UInt8.ofNat (48 + b % 10)) : a % 10 = b % 10 := by
  have h1 := congrArg UInt8.toNat h
  rw [UInt8.toNat_ofNat_of_lt' (by show 48 + a % 10 < 256; omega), UInt8.toNat_ofNat_of_lt' (by show 48 + b % 10 < 256; omega)] at h1
  omega
theorem nmT_inj {a b : Nat} (ha : a < 100000000) (hb : b < 100000000) (h : nmT a = nmT b) : a = b := by
  unfold nmT dig8 at h
  simp only [List.cons.injEq, and_true, true_and] at h
  obtain ⟨h1, h2, h3, h4, h5, h6, h7, h8⟩ := h
  have e1 := u8_ten h1
  have e2 := u8_ten h2
  have e3 := u8_ten h3
  have e4 := u8_ten h4
  have e5 := u8_ten h5
  have e6 := u8_ten h6
  have e7 := u8_ten h7
  have e8 := u8_ten h8
  omega
/-- The files behind Create, Append, Sync, SyncDir of one table. -/
def S1t (nm : Nm) : St := ((St.new 0).create nm).1
def S2t (nm : Nm) (b : List UInt8) : St := ((S1t nm).append nm b).1
def S3t (nm : Nm) (b : List UInt8) : St := ((S2t nm b).sync nm).1
def S4t (nm : Nm) (b : List UInt8) : St := (S3t nm b).syncDir.1
theorem s1t {nm : Nm} (h : isNm nm = true) : (St.new 0).create nm = (⟨true, true, 0, 1, -1, -1, [(nm, 0)], [], [⟨[], nm, some 0⟩], [⟨[], 0⟩]⟩, 0) := by
  have ho : over (-1) = false := by decide
  have h2 : tick (-1) = -1 := by decide
  cases nm with
  | nil => exact absurd h (by decide)
  | cons c t =>
    unfold St.create wr actCreate
    simp [St.new, St.begun, St.more, St.doing, h, ho, h2, dget, Chg.run, Chg.file, Chg.less, dput, ddel, dins]
theorem s2t (nm : Nm) (b : List UInt8) : (⟨true, true, 0, 1, -1, -1, [(nm, 0)], [], [⟨[], nm, some 0⟩], [⟨[], 0⟩]⟩ : St).append nm b = (⟨true, true, 0, 2, -1, -1, [(nm, 0)], [], [⟨[], nm, some 0⟩], [⟨b, 0⟩]⟩, 0) := by
  have hd : dget [(nm, 0)] nm = some 0 := by simp [dget]
  have h : over (-1) = false := by decide
  have h2 : tick (-1) = -1 := by decide
  unfold St.append wr actAppend
  simp [St.begun, hd, h, h2]
theorem s3t (nm : Nm) (b : List UInt8) : (⟨true, true, 0, 2, -1, -1, [(nm, 0)], [], [⟨[], nm, some 0⟩], [⟨b, 0⟩]⟩ : St).sync nm = (⟨true, true, 0, 3, -1, -1, [(nm, 0)], [], [⟨[], nm, some 0⟩], [⟨b, b.length⟩]⟩, 0) := by
  have hd : dget [(nm, 0)] nm = some 0 := by simp [dget]
  have h : over (-1) = false := by decide
  have h2 : tick (-1) = -1 := by decide
  unfold St.sync sy actSync
  simp [St.begun, St.bads, hd, h, h2]
def Sft (nm : Nm) (b : List UInt8) : St := ⟨true, true, 0, 4, -1, -1, [(nm, 0)], [(nm, 0)], [], [⟨b, b.length⟩]⟩
theorem s4t (nm : Nm) (b : List UInt8) : (⟨true, true, 0, 3, -1, -1, [(nm, 0)], [], [⟨[], nm, some 0⟩], [⟨b, b.length⟩]⟩ : St).syncDir = (Sft nm b, 0) := by
  have h : over (-1) = false := by decide
  have h2 : tick (-1) = -1 := by decide
  unfold St.syncDir sy Sft
  simp [St.begun, St.bads, St.settle, h, h2]
theorem sft_back (nm : Nm) (b : List UInt8) (dir : Int) : ((Sft nm b).crash dir []).restore = Sft nm b := by
  unfold St.crash
  simp [Sft, redo, cuts, Fil.cut, St.restore, modn]
theorem sft_read (nm : Nm) (b : List UInt8) : (Sft nm b).read nm = (b, 0) := by simp [St.read, Sft, dget]
theorem sft_other {nm nm' : Nm} (b : List UInt8) (h : nm ≠ nm') : (Sft nm b).read nm' = ([], 7) := by simp [St.read, Sft, dget, h]
end Go.Proofs.YtmnboiikopkaoaaGreat
