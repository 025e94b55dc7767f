/- What every statement's proof of this seat shares: the library's variable as the world's shape gives it, and one world for the witness. -/
import Derived.Test.YtgoehmmmajdenaaGreatDoorK8
import Derived.Test.YtgoehmmmajdenaaGreatDoorCards
import Derived.Test.YtgoehmmmajdenaaGreatDoorTie
import Derived.ProofKit
import Derived.OpenShut
import Derived.ChangeOld
import Derived.ShutString
import Derived.Deep.DeepHandedRow
import Derived.MakeChecks
import Derived.Stop.LaidErr
import Derived.Shelf.Vars
namespace Go.Proofs.YtgoehmmmajdenaaGreatDoor
open Go.RowKit

theorem own : ownKnob Tryz.prog.godebug = none := by kernel_rfl
theorem laidOut : laidOutB Tryz.prog = true := by kernel_rfl
theorem maxAt {W : World} (h : W.ShapedOpen Tryz.prog) : Max W :=
  cell_of_shapedOpen_int (zero := #[.int .i64 0]) (t := 3) h (of_decide_eq_true (by kernel_rfl)) (by kernel_rfl) rfl (by kernel_rfl) (by kernel_rfl) Tryz.underlying3

/-- What a listed table's datum is in memory. -/
def flat1 : DataW Unit → List Value
  | .lit (.int k n) => [.int k n]
  | .agg l => l.map fun x => match x with | .lit (.int k n) => Value.int k n | _ => Value.bool false
  | _ => []
def valsOf : DataW Unit → Array Value
  | .agg l => ((l.map flat1).flatten).toArray
  | _ => #[]
def setTab (d : Array Value) : Obj → Obj
  | .cells _ t frozen => .cells d t frozen
  | o => o
noncomputable def laidWorld (os : Os) : World :=
  { World.holding Tryz.prog os ⟨#[], #[], []⟩ with heap := ((World.holding Tryz.prog os ⟨#[], #[], []⟩).heap.modify 1 (setTab (valsOf Rows.laid_unicode_utf8_first))).modify 2 (setTab (valsOf Rows.laid_unicode_utf8_acceptRanges)) }
end Go.Proofs.YtgoehmmmajdenaaGreatDoor
