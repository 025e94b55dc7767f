/- Plain: a log's file alone among the files, and its first bytes behind a failure. -/
import Derived.Test.YtlgcbapgbpofoaaGreatWL
namespace Go.Proofs.YtlgcbapgbpofoaaGreat

/-- The state where a log's segment is the one file: its bytes, and how many are synced. -/
def St1 (nm : Nm) (on : Bool) (steps fuse : Int) (b : List UInt8) (syn : Nat) : St := ⟨true, on, 0, steps, fuse, -1, [(nm, 0)], [(nm, 0)], [], [⟨b, syn⟩]⟩
theorem nameB_isNm (num : Nat) : isNm (nameB num) = true := rfl
theorem mkLog_new (num : Nat) : mkLog (St.new 0) num = (St1 (nameB num) true 2 (-1) [] 0, 0) := rfl
theorem dget1 (nm : Nm) : dget [(nm, 0)] nm = some 0 := by simp [dget]
theorem St1.append {nm : Nm} {steps fuse : Int} {b data : List UInt8} {syn : Nat} : (St1 nm true steps fuse b syn).append nm data = (St1 nm (!over fuse) (steps + 1) (tick fuse) (b ++ data) syn, if over fuse then 14 else 0) := by
  unfold St.append wr actAppend
  simp only [St1, St.begun, if_true, dget1]
  cases over fuse <;> simp
theorem St1.append_off {nm : Nm} {steps fuse : Int} {b data : List UInt8} {syn : Nat} : (St1 nm false steps fuse b syn).append nm data = (St1 nm false steps fuse b syn, 14) := rfl
theorem St1.sync {nm : Nm} {steps fuse : Int} {b : List UInt8} {syn : Nat} : (St1 nm true steps fuse b syn).sync nm = (St1 nm (!over fuse) (steps + 1) (tick fuse) b (if over fuse then syn else b.length), if over fuse then 14 else 0) := by
  unfold St.sync sy actSync
  have h : over (-1) = false := by decide
  have h2 : tick (-1) = -1 := by decide
  cases hf : over fuse <;> simp [St1, St.begun, St.bads, dget1, hf, h, h2]
theorem St1.crash {nm : Nm} {on : Bool} {steps fuse : Int} {b : List UInt8} {syn : Nat} (dir keep : Int) :
    (St1 nm on steps fuse b syn).crash dir [keep] = St1 nm false steps (-1) (b.take (syn + modn keep (b.length - syn + 1))) (syn + modn keep (b.length - syn + 1)) := by
  unfold St.crash
  simp [St1, redo, cuts, Fil.cut]
theorem St1.restore {nm : Nm} {on : Bool} {steps fuse : Int} {b : List UInt8} {syn : Nat} : (St1 nm on steps fuse b syn).restore = St1 nm true steps fuse b syn := rfl
theorem St1.read {nm : Nm} {steps fuse : Int} {b : List UInt8} {syn : Nat} : (St1 nm true steps fuse b syn).read nm = (b, 0) := by
  simp [St.read, St1, dget1]
theorem St1.names {nm : Nm} {steps fuse : Int} {b : List UInt8} {syn : Nat} : (St1 nm true steps fuse b syn).names = [nm] := rfl
theorem modn_zero (n : Nat) : modn 0 n = 0 := by simp [modn]
theorem over_neg : over (-1) = false := by decide
theorem tick_neg : tick (-1) = -1 := by decide
end Go.Proofs.YtlgcbapgbpofoaaGreat
