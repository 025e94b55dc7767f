/-
  DERIVED. GIVEN WITH THE SEED: THE CARDS: each row of YtgoehmmmajdenaaGreatDoorRows.lean that lists a variable, with what it lists TIED to the program's text (the seventh form; the later family's looks); each row that meets fmt, with fmt's text TOLD by the authors' own Lean function (tested against real Go, not proved from fmt's source: count such statements apart). THE CARD IS WHAT COUNTS. Prove the row's statement (the work); the ties are given (YtgoehmmmajdenaaGreatDoorTie.lean); close each card by the builder's one call (the guide's Derived/Test/ToyasCard.lean, 'card_holds'). Laid BY PROGRAM, IN A SANDBOX (cutbox-door.mjs). By AI agents, Wed Nov 11 2026. No macro, syntax, notation, axiom, sorry.
-/
import Derived.Test.YtgoehmmmajdenaaGreatDoorRows
import GoSem.ClaimSeven
namespace Go.Proofs.YtgoehmmmajdenaaGreatDoor
namespace Rows

/-- THE TIED CARD OF 'cornucopialaw2.OkeyTells'. -/
def okeyTellsCard : Claim7 := { stood := { row := okeyTellsRow, standIns := [], harness := (true, "a16f0541336d4f92470f82f6accaad6d9ab6f34bb38c889fa22f75903f32723e"), looks := false }, kinds := [], alts := [], laidByText := true, laidKinds := [.data, .pinned], laidTests := true, laidLooks := .later }
def OkeyTellsCardSaid : Prop := Claim7.holds Tryz.pinned (.plain (OpenSpec.ofChange okeyTellsSpec)) okeyTellsCard

/-- THE SECOND FORM's CARD OF 'cornucopialaw2.OkeyTells'. -/
def okeyTellsUptoCard : Claim7 := { stood := { row := okeyTellsUptoRow, standIns := [], harness := (true, "a16f0541336d4f92470f82f6accaad6d9ab6f34bb38c889fa22f75903f32723e"), looks := false }, kinds := [], alts := [], laidByText := true, laidKinds := [.data, .pinned], laidTests := true, laidLooks := .later }
def OkeyTellsUptoCardSaid : Prop := Claim7.holds Tryz.pinned (.plain (OpenSpec.upto okeyTellsSpec)) okeyTellsUptoCard
end Rows
end Go.Proofs.YtgoehmmmajdenaaGreatDoor
