/-
  DERIVED. GIVEN WITH THE SEED: THE CARDS: each row of YtckejblkppllaaaGreatDoorRows.lean that lists a variable, with what it lists TIED to the program's text (the seventh form; the later family's looks); each row that meets fmt, with fmt's text TOLD by the authors' own Lean function (tested against real Go, not proved from fmt's source: count such statements apart). THE CARD IS WHAT COUNTS. Prove the row's statement (the work); the ties are given (YtckejblkppllaaaGreatDoorTie.lean); close each card by the builder's one call (the guide's Derived/Test/ToyasCard.lean, 'card_holds'). Laid BY PROGRAM, IN A SANDBOX (cutbox-door.mjs). By AI agents, Wed Nov 11 2026. No macro, syntax, notation, axiom, sorry.
-/
import Derived.Test.YtckejblkppllaaaGreatDoorRows
import GoSem.ClaimSeven
namespace Go.Proofs.YtckejblkppllaaaGreatDoor
namespace Rows

/-- THE TIED CARD OF 'tussocklaw16.TreeFinds'. -/
def treeFindsCard : Claim7 := { stood := { row := treeFindsRow, standIns := [], harness := (true, "8efb13afe83276ceac594f67c7326cad44a273937b53119a2bd9bc21edfebc3a"), looks := false }, kinds := [], alts := [], laidByText := true, laidKinds := [.data], laidTests := true, laidLooks := .later }
def TreeFindsCardSaid : Prop := Claim7.holds Tryz.pinned (.plain (OpenSpec.ofChange treeFindsSpec)) treeFindsCard

/-- THE TIED CARD OF 'tussocklaw16.TreeEdits'. -/
def treeEditsCard : Claim7 := { stood := { row := treeEditsRow, standIns := [], harness := (true, "8efb13afe83276ceac594f67c7326cad44a273937b53119a2bd9bc21edfebc3a"), looks := false }, kinds := [], alts := [], laidByText := true, laidKinds := [.data], laidTests := true, laidLooks := .later }
def TreeEditsCardSaid : Prop := Claim7.holds Tryz.pinned (.plain (OpenSpec.ofChange treeEditsSpec)) treeEditsCard

/-- THE TIED CARD OF 'tussocklaw16.TreeFiles'. -/
def treeFilesCard : Claim7 := { stood := { row := treeFilesRow, standIns := [], harness := (true, "8efb13afe83276ceac594f67c7326cad44a273937b53119a2bd9bc21edfebc3a"), looks := false }, kinds := [], alts := [], laidByText := true, laidKinds := [.data], laidTests := true, laidLooks := .later }
def TreeFilesCardSaid : Prop := Claim7.holds Tryz.pinned (.plain (OpenSpec.ofChange treeFilesSpec)) treeFilesCard

/-- THE TIED CARD OF 'tussocklaw16.TreeDiffs'. -/
def treeDiffsCard : Claim7 := { stood := { row := treeDiffsRow, standIns := [], harness := (true, "8efb13afe83276ceac594f67c7326cad44a273937b53119a2bd9bc21edfebc3a"), looks := false }, kinds := [], alts := [], laidByText := true, laidKinds := [.data], laidTests := true, laidLooks := .later }
def TreeDiffsCardSaid : Prop := Claim7.holds Tryz.pinned (.plain (OpenSpec.ofChange treeDiffsSpec)) treeDiffsCard

/-- THE SECOND FORM's CARD OF 'tussocklaw16.TreeFinds'. -/
def treeFindsUptoCard : Claim7 := { stood := { row := treeFindsUptoRow, standIns := [], harness := (true, "8efb13afe83276ceac594f67c7326cad44a273937b53119a2bd9bc21edfebc3a"), looks := false }, kinds := [], alts := [], laidByText := true, laidKinds := [.data], laidTests := true, laidLooks := .later }
def TreeFindsUptoCardSaid : Prop := Claim7.holds Tryz.pinned (.plain (OpenSpec.upto treeFindsSpec)) treeFindsUptoCard

/-- THE SECOND FORM's CARD OF 'tussocklaw16.TreeEdits'. -/
def treeEditsUptoCard : Claim7 := { stood := { row := treeEditsUptoRow, standIns := [], harness := (true, "8efb13afe83276ceac594f67c7326cad44a273937b53119a2bd9bc21edfebc3a"), looks := false }, kinds := [], alts := [], laidByText := true, laidKinds := [.data], laidTests := true, laidLooks := .later }
def TreeEditsUptoCardSaid : Prop := Claim7.holds Tryz.pinned (.plain (OpenSpec.upto treeEditsSpec)) treeEditsUptoCard

/-- THE SECOND FORM's CARD OF 'tussocklaw16.TreeFiles'. -/
def treeFilesUptoCard : Claim7 := { stood := { row := treeFilesUptoRow, standIns := [], harness := (true, "8efb13afe83276ceac594f67c7326cad44a273937b53119a2bd9bc21edfebc3a"), looks := false }, kinds := [], alts := [], laidByText := true, laidKinds := [.data], laidTests := true, laidLooks := .later }
def TreeFilesUptoCardSaid : Prop := Claim7.holds Tryz.pinned (.plain (OpenSpec.upto treeFilesSpec)) treeFilesUptoCard

/-- THE SECOND FORM's CARD OF 'tussocklaw16.TreeDiffs'. -/
def treeDiffsUptoCard : Claim7 := { stood := { row := treeDiffsUptoRow, standIns := [], harness := (true, "8efb13afe83276ceac594f67c7326cad44a273937b53119a2bd9bc21edfebc3a"), looks := false }, kinds := [], alts := [], laidByText := true, laidKinds := [.data], laidTests := true, laidLooks := .later }
def TreeDiffsUptoCardSaid : Prop := Claim7.holds Tryz.pinned (.plain (OpenSpec.upto treeDiffsSpec)) treeDiffsUptoCard
end Rows
end Go.Proofs.YtckejblkppllaaaGreatDoor
