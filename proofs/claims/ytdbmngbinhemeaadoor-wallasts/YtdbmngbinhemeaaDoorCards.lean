/-
  DERIVED. GIVEN WITH THE SEED: THE CARDS: each row of YtdbmngbinhemeaaDoorRows.lean that lists a variable, with what it lists TIED to the program's text (the seventh form; the later family's looks); each row that meets fmt, with fmt's text TOLD by the authors' own Lean function (tested against real Go, not proved from fmt's source: count such statements apart). THE CARD IS WHAT COUNTS. Prove the row's statement (the work); the ties are given (YtdbmngbinhemeaaDoorTie.lean); close each card by the builder's one call (the guide's Derived/Test/ToyasCard.lean, 'card_holds'). Laid BY PROGRAM, IN A SANDBOX (cutbox-door.mjs). By AI agents, Wed Nov 11 2026. No macro, syntax, notation, axiom, sorry.
-/
import Derived.Test.YtdbmngbinhemeaaDoorRows
import GoSem.ClaimSeven
namespace Go.Proofs.YtdbmngbinhemeaaDoor
namespace Rows

/-- THE TIED CARD OF 'tussocklaw05.WalLasts'. -/
def walLastsCard : Claim7 := { stood := { row := walLastsRow, standIns := [], harness := (true, "f55ecff0c004c3c61ed3fc9fe7b3a821b2d40add9af315a45f1f086c0d07932b"), looks := true }, kinds := [], alts := [], laidByText := true, laidKinds := [.data], laidTests := true, laidLooks := .later }
def WalLastsCardSaid : Prop := Claim7.holds Tryd.pinned (.plain (OpenSpec.ofChange walLastsSpec)) walLastsCard

/-- THE TIED CARD OF 'tussocklaw05.WalBeside'. -/
def walBesideCard : Claim7 := { stood := { row := walBesideRow, standIns := [], harness := (true, "f55ecff0c004c3c61ed3fc9fe7b3a821b2d40add9af315a45f1f086c0d07932b"), looks := true }, kinds := [], alts := [], laidByText := true, laidKinds := [.data], laidTests := true, laidLooks := .later }
def WalBesideCardSaid : Prop := Claim7.holds Tryd.pinned (.plain (OpenSpec.ofChange walBesideSpec)) walBesideCard

/-- THE TIED CARD OF 'tussocklaw05.WalForms'. -/
def walFormsCard : Claim7 := { stood := { row := walFormsRow, standIns := [], harness := (true, "f55ecff0c004c3c61ed3fc9fe7b3a821b2d40add9af315a45f1f086c0d07932b"), looks := true }, kinds := [], alts := [], laidByText := true, laidKinds := [.data], laidTests := true, laidLooks := .later }
def WalFormsCardSaid : Prop := Claim7.holds Tryd.pinned (.plain (OpenSpec.ofChange walFormsSpec)) walFormsCard

/-- THE TIED CARD OF 'tussocklaw05.WalAgain'. -/
def walAgainCard : Claim7 := { stood := { row := walAgainRow, standIns := [], harness := (true, "f55ecff0c004c3c61ed3fc9fe7b3a821b2d40add9af315a45f1f086c0d07932b"), looks := true }, kinds := [], alts := [], laidByText := true, laidKinds := [.data], laidTests := true, laidLooks := .later }
def WalAgainCardSaid : Prop := Claim7.holds Tryd.pinned (.plain (OpenSpec.ofChange walAgainSpec)) walAgainCard

/-- THE SECOND FORM's CARD OF 'tussocklaw05.WalLasts'. -/
def walLastsUptoCard : Claim7 := { stood := { row := walLastsUptoRow, standIns := [], harness := (true, "f55ecff0c004c3c61ed3fc9fe7b3a821b2d40add9af315a45f1f086c0d07932b"), looks := true }, kinds := [], alts := [], laidByText := true, laidKinds := [.data], laidTests := true, laidLooks := .later }
def WalLastsUptoCardSaid : Prop := Claim7.holds Tryd.pinned (.plain (OpenSpec.upto walLastsSpec)) walLastsUptoCard

/-- THE SECOND FORM's CARD OF 'tussocklaw05.WalBeside'. -/
def walBesideUptoCard : Claim7 := { stood := { row := walBesideUptoRow, standIns := [], harness := (true, "f55ecff0c004c3c61ed3fc9fe7b3a821b2d40add9af315a45f1f086c0d07932b"), looks := true }, kinds := [], alts := [], laidByText := true, laidKinds := [.data], laidTests := true, laidLooks := .later }
def WalBesideUptoCardSaid : Prop := Claim7.holds Tryd.pinned (.plain (OpenSpec.upto walBesideSpec)) walBesideUptoCard

/-- THE SECOND FORM's CARD OF 'tussocklaw05.WalForms'. -/
def walFormsUptoCard : Claim7 := { stood := { row := walFormsUptoRow, standIns := [], harness := (true, "f55ecff0c004c3c61ed3fc9fe7b3a821b2d40add9af315a45f1f086c0d07932b"), looks := true }, kinds := [], alts := [], laidByText := true, laidKinds := [.data], laidTests := true, laidLooks := .later }
def WalFormsUptoCardSaid : Prop := Claim7.holds Tryd.pinned (.plain (OpenSpec.upto walFormsSpec)) walFormsUptoCard

/-- THE SECOND FORM's CARD OF 'tussocklaw05.WalAgain'. -/
def walAgainUptoCard : Claim7 := { stood := { row := walAgainUptoRow, standIns := [], harness := (true, "f55ecff0c004c3c61ed3fc9fe7b3a821b2d40add9af315a45f1f086c0d07932b"), looks := true }, kinds := [], alts := [], laidByText := true, laidKinds := [.data], laidTests := true, laidLooks := .later }
def WalAgainUptoCardSaid : Prop := Claim7.holds Tryd.pinned (.plain (OpenSpec.upto walAgainSpec)) walAgainUptoCard
end Rows
end Go.Proofs.YtdbmngbinhemeaaDoor
