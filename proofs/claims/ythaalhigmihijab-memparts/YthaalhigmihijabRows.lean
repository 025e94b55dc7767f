/-
  No cell of these rows narrows 'for every input' (looked for: loops, veiled, ifaces, maps, wideKeys, modest, calm, conditions, laid).
  DERIVED. THE GIVEN ROWS OF THIS SEAT. 5 by the template 'for every input the law returns true; each argument reads behind the call as it read before'; 0 by the template 'total and deterministic' (their statements: YthaalhigmihijabTotals.lean).
  GIVEN WITH THE SEED: the statements are not yours to turn. If you find one false, say at which input.
  Laid BY PROGRAM, IN A SANDBOX (cutbox-rows.mjs): the forced cells as the released guide's own fill.sh prints them over the translation 30ffbcd46bef97b3… (all of the seat's roots in one cut). By AI agents, Wed Nov 11 2026. No macro, syntax, notation, axiom, sorry.
-/
import Derived.Test.YthaalhigmihijabChecked
import GoSem.Claim
import GoSem.ClaimJoined
import GoSem.ClaimMapViews
import Derived.JoinedTies
import Derived.KernelRfl
namespace Go.Proofs.Ythaalhigmihijab
/- THE CELL 'sum', in the pinned program and in every row, IS THE sha256 OF THE DUMP (.gsa) THAT YthaalhigmihijabProg.lean LOADS. Nothing in Lean hashes anything: it is a label: what it is worth is what the hold of that sum in a sandbox is worth. -/
noncomputable def Try.pinned : Pinned := { name := "ythaalhigmihijab", sum := "30ffbcd46bef97b3db22652ea81946ddab9dd289319b23f5ef2f39ca27905a6b", checked := Try.checked }
namespace Rows
def none {H : Type} : Left H := { results := [], args := [] }

/-- 'cornucopialaw7.SkipLevels': WHATEVER THE INPUT: true; the input reads as it did. -/
def skipLevelsSpec : ChangeSpec := { name := "skipLevels", fn := fun _ => fun
  | [d1, d2, d3, d4, d5] => { results := [.lit (.bool true)], args := [d1, d2, d3, d4, d5] }
  | _ => none }
def skipLevelsRow : OpenClaim := { program := "ythaalhigmihijab", sum := "30ffbcd46bef97b3db22652ea81946ddab9dd289319b23f5ef2f39ca27905a6b", func := "cornucopia/cornucopialaw7.SkipLevels", spec := "skipLevels", inPlace := ["internal/bytealg.abigen_runtime_cmpstring"], apart := false }
def SkipLevelsSaid : Prop := skipLevelsRow.holds Try.pinned (OpenSpec.ofChange skipLevelsSpec)

/-- ITS FALSE NEIGHBOUR: 'it returns false'. Refute it at one input. -/
def skipLevelsWrong : ChangeSpec := { name := "skipLevels", fn := fun _ => fun
  | [d1, d2, d3, d4, d5] => { results := [.lit (.bool false)], args := [d1, d2, d3, d4, d5] }
  | _ => none }
def SkipLevelsWrongFalsely : Prop := skipLevelsRow.holds Try.pinned (OpenSpec.ofChange skipLevelsWrong)

/-- 'cornucopialaw7.SkipGets': WHATEVER THE INPUT: true; the input reads as it did. -/
def skipGetsSpec : ChangeSpec := { name := "skipGets", fn := fun _ => fun
  | [d1, d2, d3] => { results := [.lit (.bool true)], args := [d1, d2, d3] }
  | _ => none }
def skipGetsRow : OpenClaim := { program := "ythaalhigmihijab", sum := "30ffbcd46bef97b3db22652ea81946ddab9dd289319b23f5ef2f39ca27905a6b", func := "cornucopia/cornucopialaw7.SkipGets", spec := "skipGets", inPlace := ["internal/bytealg.abigen_runtime_cmpstring"], apart := false }
def SkipGetsSaid : Prop := skipGetsRow.holds Try.pinned (OpenSpec.ofChange skipGetsSpec)

/-- ITS FALSE NEIGHBOUR: 'it returns false'. Refute it at one input. -/
def skipGetsWrong : ChangeSpec := { name := "skipGets", fn := fun _ => fun
  | [d1, d2, d3] => { results := [.lit (.bool false)], args := [d1, d2, d3] }
  | _ => none }
def SkipGetsWrongFalsely : Prop := skipGetsRow.holds Try.pinned (OpenSpec.ofChange skipGetsWrong)

/-- 'cornucopialaw8.MemNone': WHATEVER THE INPUT: true; the input reads as it did. -/
def memNoneSpec : ChangeSpec := { name := "memNone", fn := fun _ => fun
  | [d1, d2] => { results := [.lit (.bool true)], args := [d1, d2] }
  | _ => none }
def memNoneRow : OpenClaim := { program := "ythaalhigmihijab", sum := "30ffbcd46bef97b3db22652ea81946ddab9dd289319b23f5ef2f39ca27905a6b", func := "cornucopia/cornucopialaw8.MemNone", spec := "memNone", inPlace := ["internal/abi.NoEscape", "internal/bytealg.abigen_runtime_cmpstring"], apart := false }
def MemNoneSaid : Prop := memNoneRow.holds Try.pinned (OpenSpec.ofChange memNoneSpec)

/-- ITS FALSE NEIGHBOUR: 'it returns false'. Refute it at one input. -/
def memNoneWrong : ChangeSpec := { name := "memNone", fn := fun _ => fun
  | [d1, d2] => { results := [.lit (.bool false)], args := [d1, d2] }
  | _ => none }
def MemNoneWrongFalsely : Prop := memNoneRow.holds Try.pinned (OpenSpec.ofChange memNoneWrong)

/-- 'cornucopialaw8.MemSees': WHATEVER THE INPUT: true; the input reads as it did. -/
def memSeesSpec : ChangeSpec := { name := "memSees", fn := fun _ => fun
  | [d1, d2] => { results := [.lit (.bool true)], args := [d1, d2] }
  | _ => none }
def memSeesRow : OpenClaim := { program := "ythaalhigmihijab", sum := "30ffbcd46bef97b3db22652ea81946ddab9dd289319b23f5ef2f39ca27905a6b", func := "cornucopia/cornucopialaw8.MemSees", spec := "memSees", inPlace := ["internal/abi.NoEscape", "internal/bytealg.abigen_runtime_cmpstring"], apart := false }
def MemSeesSaid : Prop := memSeesRow.holds Try.pinned (OpenSpec.ofChange memSeesSpec)

/-- ITS FALSE NEIGHBOUR: 'it returns false'. Refute it at one input. -/
def memSeesWrong : ChangeSpec := { name := "memSees", fn := fun _ => fun
  | [d1, d2] => { results := [.lit (.bool false)], args := [d1, d2] }
  | _ => none }
def MemSeesWrongFalsely : Prop := memSeesRow.holds Try.pinned (OpenSpec.ofChange memSeesWrong)

/-- 'cornucopialaw8.MemParts': WHATEVER THE INPUT: true; the input reads as it did. -/
def memPartsSpec : ChangeSpec := { name := "memParts", fn := fun _ => fun
  | [d1, d2, d3, d4, d5] => { results := [.lit (.bool true)], args := [d1, d2, d3, d4, d5] }
  | _ => none }
def memPartsRow : OpenClaim := { program := "ythaalhigmihijab", sum := "30ffbcd46bef97b3db22652ea81946ddab9dd289319b23f5ef2f39ca27905a6b", func := "cornucopia/cornucopialaw8.MemParts", spec := "memParts", inPlace := ["internal/abi.NoEscape", "internal/bytealg.abigen_runtime_cmpstring"], apart := false }
def MemPartsSaid : Prop := memPartsRow.holds Try.pinned (OpenSpec.ofChange memPartsSpec)

/-- ITS FALSE NEIGHBOUR: 'it returns false'. Refute it at one input. -/
def memPartsWrong : ChangeSpec := { name := "memParts", fn := fun _ => fun
  | [d1, d2, d3, d4, d5] => { results := [.lit (.bool false)], args := [d1, d2, d3, d4, d5] }
  | _ => none }
def MemPartsWrongFalsely : Prop := memPartsRow.holds Try.pinned (OpenSpec.ofChange memPartsWrong)

/- THE SECOND FORM. 'bulk': how many values and letters a reading holds, each counted each time it is reached (what is shared counts as often as it is met; a slice's spare places count too). A statement '..UptoSaid' is the law's where the arguments, and the package variables that the reading takes, are together of bulk at most 1048576: NARROWER than '..Said'. Prove '..Said' where nothing that the law and all that it calls make is longer than what came in: it says more and counts as full. Else prove '..UptoSaid'. A law counts once. -/
mutual
def uptoBulk {H : Type} : DataW H → Nat
  | .lit (.string bytes) => bytes.length + 1
  | .lit _ => 1
  | .nil => 1
  | .ptr d => uptoBulk d + 1
  | .slice elems spare => uptoBulkAll elems + uptoBulkAll spare + 1
  | .agg parts => uptoBulkAll parts + 1
  | .iface _ d => uptoBulk d + 1
  | .map entries => uptoBulkEntries entries + 1
  | .held _ => 1
def uptoBulkAll {H : Type} : List (DataW H) → Nat
  | [] => 0
  | d :: r => uptoBulk d + uptoBulkAll r
def uptoBulkEntries {H : Type} : List (Lit × DataW H) → Nat
  | [] => 0
  | x :: r => uptoBulkEntry x + uptoBulkEntries r
def uptoBulkEntry {H : Type} : Lit × DataW H → Nat
  | (.string bytes, d) => bytes.length + uptoBulk d + 1
  | (_, d) => uptoBulk d + 1
 end
def uptoSmall : (H : Type) → List (DataW H) → Bool := fun _ ds => decide (uptoBulkAll ds ≤ 1048576)
def OpenSpec.upto (s : _root_.Go.ChangeSpec) : _root_.Go.OpenSpec := { _root_.Go.OpenSpec.ofChange s with cond := some uptoSmall }

/-- 'cornucopialaw7.SkipLevels', WHERE WHAT IT READS IS OF BULK AT MOST 1048576: true; the input reads as it did. -/
def skipLevelsUptoRow : OpenClaim := { program := "ythaalhigmihijab", sum := "30ffbcd46bef97b3db22652ea81946ddab9dd289319b23f5ef2f39ca27905a6b", func := "cornucopia/cornucopialaw7.SkipLevels", spec := "skipLevels", inPlace := ["internal/bytealg.abigen_runtime_cmpstring"], apart := false, narrowed := true }
def SkipLevelsUptoSaid : Prop := skipLevelsUptoRow.holds Try.pinned (OpenSpec.upto skipLevelsSpec)

/-- 'cornucopialaw7.SkipGets', WHERE WHAT IT READS IS OF BULK AT MOST 1048576: true; the input reads as it did. -/
def skipGetsUptoRow : OpenClaim := { program := "ythaalhigmihijab", sum := "30ffbcd46bef97b3db22652ea81946ddab9dd289319b23f5ef2f39ca27905a6b", func := "cornucopia/cornucopialaw7.SkipGets", spec := "skipGets", inPlace := ["internal/bytealg.abigen_runtime_cmpstring"], apart := false, narrowed := true }
def SkipGetsUptoSaid : Prop := skipGetsUptoRow.holds Try.pinned (OpenSpec.upto skipGetsSpec)

/-- 'cornucopialaw8.MemNone', WHERE WHAT IT READS IS OF BULK AT MOST 1048576: true; the input reads as it did. -/
def memNoneUptoRow : OpenClaim := { program := "ythaalhigmihijab", sum := "30ffbcd46bef97b3db22652ea81946ddab9dd289319b23f5ef2f39ca27905a6b", func := "cornucopia/cornucopialaw8.MemNone", spec := "memNone", inPlace := ["internal/abi.NoEscape", "internal/bytealg.abigen_runtime_cmpstring"], apart := false, narrowed := true }
def MemNoneUptoSaid : Prop := memNoneUptoRow.holds Try.pinned (OpenSpec.upto memNoneSpec)

/-- 'cornucopialaw8.MemSees', WHERE WHAT IT READS IS OF BULK AT MOST 1048576: true; the input reads as it did. -/
def memSeesUptoRow : OpenClaim := { program := "ythaalhigmihijab", sum := "30ffbcd46bef97b3db22652ea81946ddab9dd289319b23f5ef2f39ca27905a6b", func := "cornucopia/cornucopialaw8.MemSees", spec := "memSees", inPlace := ["internal/abi.NoEscape", "internal/bytealg.abigen_runtime_cmpstring"], apart := false, narrowed := true }
def MemSeesUptoSaid : Prop := memSeesUptoRow.holds Try.pinned (OpenSpec.upto memSeesSpec)

/-- 'cornucopialaw8.MemParts', WHERE WHAT IT READS IS OF BULK AT MOST 1048576: true; the input reads as it did. -/
def memPartsUptoRow : OpenClaim := { program := "ythaalhigmihijab", sum := "30ffbcd46bef97b3db22652ea81946ddab9dd289319b23f5ef2f39ca27905a6b", func := "cornucopia/cornucopialaw8.MemParts", spec := "memParts", inPlace := ["internal/abi.NoEscape", "internal/bytealg.abigen_runtime_cmpstring"], apart := false, narrowed := true }
def MemPartsUptoSaid : Prop := memPartsUptoRow.holds Try.pinned (OpenSpec.upto memPartsSpec)

end Rows
end Go.Proofs.Ythaalhigmihijab
