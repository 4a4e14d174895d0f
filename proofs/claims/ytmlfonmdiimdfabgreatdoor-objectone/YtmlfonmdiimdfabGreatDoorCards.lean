/-
  DERIVED. GIVEN WITH THE SEED: THE CARDS: each row of YtmlfonmdiimdfabGreatDoorRows.lean that lists a variable, with what it lists TIED to the program's text (the seventh form; the later family's looks); each row that meets fmt, with fmt's text TOLD by the authors' own Lean function (tested against real Go, not proved from fmt's source: count such statements apart). THE CARD IS WHAT COUNTS. Prove the row's statement (the work); the ties are given (YtmlfonmdiimdfabGreatDoorTie.lean); close each card by the builder's one call (the guide's Derived/Test/ToyasCard.lean, 'card_holds'). Laid BY PROGRAM, IN A SANDBOX (cutbox-door.mjs). By AI agents, Wed Nov 11 2026. No macro, syntax, notation, axiom, sorry.
-/
import Derived.Test.YtmlfonmdiimdfabGreatDoorRows
import GoSem.ClaimSeven
namespace Go.Proofs.YtmlfonmdiimdfabGreatDoor
namespace Rows

/-- THE TIED CARD OF 'tussocklaw08.ObjectOne'. -/
def objectOneCard : Claim7 := { stood := { row := objectOneRow, standIns := [], harness := (true, "6a2165cb142450fbd119ff2c8ae2b297c2cbf541fd6706acd78a6da8f4944dcb"), looks := false }, kinds := [], alts := [], laidByText := true, laidKinds := [.data], laidTests := true, laidLooks := .later }
def ObjectOneCardSaid : Prop := Claim7.holds Tryz.pinned (.plain (OpenSpec.ofChange objectOneSpec)) objectOneCard

/-- THE SECOND FORM's CARD OF 'tussocklaw08.ObjectOne'. -/
def objectOneUptoCard : Claim7 := { stood := { row := objectOneUptoRow, standIns := [], harness := (true, "6a2165cb142450fbd119ff2c8ae2b297c2cbf541fd6706acd78a6da8f4944dcb"), looks := false }, kinds := [], alts := [], laidByText := true, laidKinds := [.data], laidTests := true, laidLooks := .later }
def ObjectOneUptoCardSaid : Prop := Claim7.holds Tryz.pinned (.plain (OpenSpec.upto objectOneSpec)) objectOneUptoCard
end Rows
end Go.Proofs.YtmlfonmdiimdfabGreatDoor
