/-
  No cell of these rows narrows 'for every input' (looked for: loops, veiled, ifaces, maps, wideKeys, modest, calm, conditions, laid).
  DERIVED. THE GIVEN ROWS OF THIS SEAT. 3 by the template 'for every input the law returns true; each argument reads behind the call as it read before'; 0 by the template 'total and deterministic' (their statements: YtmcgfafkggannaaTotals.lean).
  GIVEN WITH THE SEED: the statements are not yours to turn. If you find one false, say at which input.
  Laid BY PROGRAM, IN A SANDBOX (cutbox-rows.mjs): the forced cells as the released guide's own fill.sh prints them over the translation 7fe620818c000a68… (all of the seat's roots in one cut). By AI agents, Wed Nov 11 2026. No macro, syntax, notation, axiom, sorry.
-/
import Derived.Test.YtmcgfafkggannaaChecked
import GoSem.Claim
import GoSem.ClaimJoined
import GoSem.ClaimMapViews
import Derived.JoinedTies
import Derived.KernelRfl
namespace Go.Proofs.Ytmcgfafkggannaa
/- THE CELL 'sum', in the pinned program and in every row, IS THE sha256 OF THE DUMP (.gsa) THAT YtmcgfafkggannaaProg.lean LOADS. Nothing in Lean hashes anything: it is a label: what it is worth is what the hold of that sum in a sandbox is worth. -/
noncomputable def Try.pinned : Pinned := { name := "ytmcgfafkggannaa", sum := "7fe620818c000a68b855452e9342d6768563050c0e19e3f6d0aa8d25f90f7fa3", checked := Try.checked }
namespace Rows
def none {H : Type} : Left H := { results := [], args := [] }

/-- 'cornucopialaw12.EditBack': WHATEVER THE INPUT: true; the input reads as it did. -/
def editBackSpec : ChangeSpec := { name := "editBack", fn := fun _ => fun
  | [d1, d2] => { results := [.lit (.bool true)], args := [d1, d2] }
  | _ => none }
def editBackRow : OpenClaim := { program := "ytmcgfafkggannaa", sum := "7fe620818c000a68b855452e9342d6768563050c0e19e3f6d0aa8d25f90f7fa3", func := "cornucopia/cornucopialaw12.EditBack", spec := "editBack", inPlace := ["internal/abi.NoEscape"], unfollowed := true, recurses := true, apart := false }
def EditBackSaid : Prop := editBackRow.holds Try.pinned (OpenSpec.ofChange editBackSpec)

/-- ITS FALSE NEIGHBOUR: 'it returns false'. Refute it at one input. -/
def editBackWrong : ChangeSpec := { name := "editBack", fn := fun _ => fun
  | [d1, d2] => { results := [.lit (.bool false)], args := [d1, d2] }
  | _ => none }
def EditBackWrongFalsely : Prop := editBackRow.holds Try.pinned (OpenSpec.ofChange editBackWrong)

/-- 'cornucopialaw12.EditOrders': WHATEVER THE INPUT: true; the input reads as it did. -/
def editOrdersSpec : ChangeSpec := { name := "editOrders", fn := fun _ => fun
  | [d1, d2, d3] => { results := [.lit (.bool true)], args := [d1, d2, d3] }
  | _ => none }
def editOrdersRow : OpenClaim := { program := "ytmcgfafkggannaa", sum := "7fe620818c000a68b855452e9342d6768563050c0e19e3f6d0aa8d25f90f7fa3", func := "cornucopia/cornucopialaw12.EditOrders", spec := "editOrders", inPlace := ["internal/abi.NoEscape"], unfollowed := true, recurses := true, apart := false }
def EditOrdersSaid : Prop := editOrdersRow.holds Try.pinned (OpenSpec.ofChange editOrdersSpec)

/-- ITS FALSE NEIGHBOUR: 'it returns false'. Refute it at one input. -/
def editOrdersWrong : ChangeSpec := { name := "editOrders", fn := fun _ => fun
  | [d1, d2, d3] => { results := [.lit (.bool false)], args := [d1, d2, d3] }
  | _ => none }
def EditOrdersWrongFalsely : Prop := editOrdersRow.holds Try.pinned (OpenSpec.ofChange editOrdersWrong)

/-- 'cornucopialaw12.EditRefuses': WHATEVER THE INPUT: true; the input reads as it did. -/
def editRefusesSpec : ChangeSpec := { name := "editRefuses", fn := fun _ => fun
  | [d] => { results := [.lit (.bool true)], args := [d] }
  | _ => none }
def editRefusesRow : OpenClaim := { program := "ytmcgfafkggannaa", sum := "7fe620818c000a68b855452e9342d6768563050c0e19e3f6d0aa8d25f90f7fa3", func := "cornucopia/cornucopialaw12.EditRefuses", spec := "editRefuses", inPlace := ["internal/abi.NoEscape"], unfollowed := true, recurses := true, apart := false }
def EditRefusesSaid : Prop := editRefusesRow.holds Try.pinned (OpenSpec.ofChange editRefusesSpec)

/-- ITS FALSE NEIGHBOUR: 'it returns false'. Refute it at one input. -/
def editRefusesWrong : ChangeSpec := { name := "editRefuses", fn := fun _ => fun
  | [d] => { results := [.lit (.bool false)], args := [d] }
  | _ => none }
def EditRefusesWrongFalsely : Prop := editRefusesRow.holds Try.pinned (OpenSpec.ofChange editRefusesWrong)

/- THE SECOND FORM. 'bulk': how many values and letters a reading holds, each counted each time it is reached (what is shared counts as often as it is met; a slice's spare places count too). A statement '..UptoSaid' is the law's where the arguments, and the package variables that the reading takes, are together of bulk at most 1048576: NARROWER than '..Said'. Prove '..Said' where nothing that the law and all that it calls make is longer than what came in: it says more and counts as full. Else prove '..UptoSaid'. A law counts once. -/
mutual
def uptoBulk {H : Type} : DataW H → Nat
  | .lit (.string bytes) => bytes.length + 1
  | .lit _ => 1
  | .nil => 1
  | .ptr d => uptoBulk d + 1
  | .slice elems spare => uptoBulkAll elems + uptoBulkAll spare + 1
  | .agg parts => uptoBulkAll parts + 1
  | .iface _ d => uptoBulk d + 1
  | .map entries => uptoBulkEntries entries + 1
  | .held _ => 1
def uptoBulkAll {H : Type} : List (DataW H) → Nat
  | [] => 0
  | d :: r => uptoBulk d + uptoBulkAll r
def uptoBulkEntries {H : Type} : List (Lit × DataW H) → Nat
  | [] => 0
  | x :: r => uptoBulkEntry x + uptoBulkEntries r
def uptoBulkEntry {H : Type} : Lit × DataW H → Nat
  | (.string bytes, d) => bytes.length + uptoBulk d + 1
  | (_, d) => uptoBulk d + 1
 end
def uptoSmall : (H : Type) → List (DataW H) → Bool := fun _ ds => decide (uptoBulkAll ds ≤ 1048576)
def OpenSpec.upto (s : _root_.Go.ChangeSpec) : _root_.Go.OpenSpec := { _root_.Go.OpenSpec.ofChange s with cond := some uptoSmall }

/-- 'cornucopialaw12.EditBack', WHERE WHAT IT READS IS OF BULK AT MOST 1048576: true; the input reads as it did. -/
def editBackUptoRow : OpenClaim := { program := "ytmcgfafkggannaa", sum := "7fe620818c000a68b855452e9342d6768563050c0e19e3f6d0aa8d25f90f7fa3", func := "cornucopia/cornucopialaw12.EditBack", spec := "editBack", inPlace := ["internal/abi.NoEscape"], unfollowed := true, recurses := true, apart := false, narrowed := true }
def EditBackUptoSaid : Prop := editBackUptoRow.holds Try.pinned (OpenSpec.upto editBackSpec)

/-- 'cornucopialaw12.EditOrders', WHERE WHAT IT READS IS OF BULK AT MOST 1048576: true; the input reads as it did. -/
def editOrdersUptoRow : OpenClaim := { program := "ytmcgfafkggannaa", sum := "7fe620818c000a68b855452e9342d6768563050c0e19e3f6d0aa8d25f90f7fa3", func := "cornucopia/cornucopialaw12.EditOrders", spec := "editOrders", inPlace := ["internal/abi.NoEscape"], unfollowed := true, recurses := true, apart := false, narrowed := true }
def EditOrdersUptoSaid : Prop := editOrdersUptoRow.holds Try.pinned (OpenSpec.upto editOrdersSpec)

/-- 'cornucopialaw12.EditRefuses', WHERE WHAT IT READS IS OF BULK AT MOST 1048576: true; the input reads as it did. -/
def editRefusesUptoRow : OpenClaim := { program := "ytmcgfafkggannaa", sum := "7fe620818c000a68b855452e9342d6768563050c0e19e3f6d0aa8d25f90f7fa3", func := "cornucopia/cornucopialaw12.EditRefuses", spec := "editRefuses", inPlace := ["internal/abi.NoEscape"], unfollowed := true, recurses := true, apart := false, narrowed := true }
def EditRefusesUptoSaid : Prop := editRefusesUptoRow.holds Try.pinned (OpenSpec.upto editRefusesSpec)

end Rows
end Go.Proofs.Ytmcgfafkggannaa
