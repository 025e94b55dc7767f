/-
  DERIVED. GIVEN WITH THE SEED: THE CARDS: each row of YtnkmchlldhdenaaDoorRows.lean that lists a variable, with what it lists TIED to the program's text (the seventh form; the later family's looks); each row that meets fmt, with fmt's text TOLD by the authors' own Lean function (tested against real Go, not proved from fmt's source: count such statements apart). THE CARD IS WHAT COUNTS. Prove the row's statement (the work); the ties are given (YtnkmchlldhdenaaDoorTie.lean); close each card by the builder's one call (the guide's Derived/Test/ToyasCard.lean, 'card_holds'). Laid BY PROGRAM, IN A SANDBOX (cutbox-door.mjs). By AI agents, Wed Nov 11 2026. No macro, syntax, notation, axiom, sorry.
-/
import Derived.Test.YtnkmchlldhdenaaDoorRows
import GoSem.ClaimSeven
namespace Go.Proofs.YtnkmchlldhdenaaDoor
namespace Rows

/-- THE TIED CARD OF 'cornucopialaw1.NumTells'. -/
def numTellsCard : Claim7 := { stood := { row := numTellsRow, standIns := [], harness := (true, "80867c8b20b2530e9a53e3c0a42c51f4c93642c3bf01839626b0f7ffb0775160"), looks := false }, kinds := [], alts := [], laidByText := true, laidKinds := [.data, .data, .data], laidTests := true, laidLooks := .later }
def NumTellsCardSaid : Prop := Claim7.holds Tryd.pinned (.plain (OpenSpec.ofChange numTellsSpec)) numTellsCard

/-- THE TIED CARD OF 'cornucopialaw1.NumNone'. -/
def numNoneCard : Claim7 := { stood := { row := numNoneRow, standIns := [], harness := (true, "80867c8b20b2530e9a53e3c0a42c51f4c93642c3bf01839626b0f7ffb0775160"), looks := false }, kinds := [], alts := [], laidByText := true, laidKinds := [.data, .data, .data], laidTests := true, laidLooks := .later }
def NumNoneCardSaid : Prop := Claim7.holds Tryd.pinned (.plain (OpenSpec.ofChange numNoneSpec)) numNoneCard

/-- THE TIED CARD OF 'cornucopialaw1.NumBack'. -/
def numBackCard : Claim7 := { stood := { row := numBackRow, standIns := [], harness := (true, "80867c8b20b2530e9a53e3c0a42c51f4c93642c3bf01839626b0f7ffb0775160"), looks := false }, kinds := [], alts := [], laidByText := true, laidKinds := [.data, .data, .data], laidTests := true, laidLooks := .later }
def NumBackCardSaid : Prop := Claim7.holds Tryd.pinned (.plain (OpenSpec.ofChange numBackSpec)) numBackCard

/-- THE TIED CARD OF 'cornucopialaw1.NumDigits'. -/
def numDigitsCard : Claim7 := { stood := { row := numDigitsRow, standIns := [], harness := (true, "80867c8b20b2530e9a53e3c0a42c51f4c93642c3bf01839626b0f7ffb0775160"), looks := false }, kinds := [], alts := [], laidByText := true, laidKinds := [.data, .data, .data], laidTests := true, laidLooks := .later }
def NumDigitsCardSaid : Prop := Claim7.holds Tryd.pinned (.plain (OpenSpec.ofChange numDigitsSpec)) numDigitsCard

/-- THE TIED CARD OF 'cornucopialaw1.NumFirst'. -/
def numFirstCard : Claim7 := { stood := { row := numFirstRow, standIns := [], harness := (true, "80867c8b20b2530e9a53e3c0a42c51f4c93642c3bf01839626b0f7ffb0775160"), looks := false }, kinds := [], alts := [], laidByText := true, laidKinds := [.data, .data, .data], laidTests := true, laidLooks := .later }
def NumFirstCardSaid : Prop := Claim7.holds Tryd.pinned (.plain (OpenSpec.ofChange numFirstSpec)) numFirstCard

/-- THE TIED CARD OF 'cornucopialaw1.NumShort'. -/
def numShortCard : Claim7 := { stood := { row := numShortRow, standIns := [], harness := (true, "80867c8b20b2530e9a53e3c0a42c51f4c93642c3bf01839626b0f7ffb0775160"), looks := false }, kinds := [], alts := [], laidByText := true, laidKinds := [.data, .data, .data], laidTests := true, laidLooks := .later }
def NumShortCardSaid : Prop := Claim7.holds Tryd.pinned (.plain (OpenSpec.ofChange numShortSpec)) numShortCard

/-- THE SECOND FORM's CARD OF 'cornucopialaw1.NumTells'. -/
def numTellsUptoCard : Claim7 := { stood := { row := numTellsUptoRow, standIns := [], harness := (true, "80867c8b20b2530e9a53e3c0a42c51f4c93642c3bf01839626b0f7ffb0775160"), looks := false }, kinds := [], alts := [], laidByText := true, laidKinds := [.data, .data, .data], laidTests := true, laidLooks := .later }
def NumTellsUptoCardSaid : Prop := Claim7.holds Tryd.pinned (.plain (OpenSpec.upto numTellsSpec)) numTellsUptoCard

/-- THE SECOND FORM's CARD OF 'cornucopialaw1.NumNone'. -/
def numNoneUptoCard : Claim7 := { stood := { row := numNoneUptoRow, standIns := [], harness := (true, "80867c8b20b2530e9a53e3c0a42c51f4c93642c3bf01839626b0f7ffb0775160"), looks := false }, kinds := [], alts := [], laidByText := true, laidKinds := [.data, .data, .data], laidTests := true, laidLooks := .later }
def NumNoneUptoCardSaid : Prop := Claim7.holds Tryd.pinned (.plain (OpenSpec.upto numNoneSpec)) numNoneUptoCard

/-- THE SECOND FORM's CARD OF 'cornucopialaw1.NumBack'. -/
def numBackUptoCard : Claim7 := { stood := { row := numBackUptoRow, standIns := [], harness := (true, "80867c8b20b2530e9a53e3c0a42c51f4c93642c3bf01839626b0f7ffb0775160"), looks := false }, kinds := [], alts := [], laidByText := true, laidKinds := [.data, .data, .data], laidTests := true, laidLooks := .later }
def NumBackUptoCardSaid : Prop := Claim7.holds Tryd.pinned (.plain (OpenSpec.upto numBackSpec)) numBackUptoCard

/-- THE SECOND FORM's CARD OF 'cornucopialaw1.NumDigits'. -/
def numDigitsUptoCard : Claim7 := { stood := { row := numDigitsUptoRow, standIns := [], harness := (true, "80867c8b20b2530e9a53e3c0a42c51f4c93642c3bf01839626b0f7ffb0775160"), looks := false }, kinds := [], alts := [], laidByText := true, laidKinds := [.data, .data, .data], laidTests := true, laidLooks := .later }
def NumDigitsUptoCardSaid : Prop := Claim7.holds Tryd.pinned (.plain (OpenSpec.upto numDigitsSpec)) numDigitsUptoCard

/-- THE SECOND FORM's CARD OF 'cornucopialaw1.NumFirst'. -/
def numFirstUptoCard : Claim7 := { stood := { row := numFirstUptoRow, standIns := [], harness := (true, "80867c8b20b2530e9a53e3c0a42c51f4c93642c3bf01839626b0f7ffb0775160"), looks := false }, kinds := [], alts := [], laidByText := true, laidKinds := [.data, .data, .data], laidTests := true, laidLooks := .later }
def NumFirstUptoCardSaid : Prop := Claim7.holds Tryd.pinned (.plain (OpenSpec.upto numFirstSpec)) numFirstUptoCard

/-- THE SECOND FORM's CARD OF 'cornucopialaw1.NumShort'. -/
def numShortUptoCard : Claim7 := { stood := { row := numShortUptoRow, standIns := [], harness := (true, "80867c8b20b2530e9a53e3c0a42c51f4c93642c3bf01839626b0f7ffb0775160"), looks := false }, kinds := [], alts := [], laidByText := true, laidKinds := [.data, .data, .data], laidTests := true, laidLooks := .later }
def NumShortUptoCardSaid : Prop := Claim7.holds Tryd.pinned (.plain (OpenSpec.upto numShortSpec)) numShortUptoCard
end Rows
end Go.Proofs.YtnkmchlldhdenaaDoor
