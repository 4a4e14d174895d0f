/-
  NARROWER THAN 'FOR EVERY INPUT', by the rows' own cells (each row's printed sentence says how): TablePlays: laid · TableLasts: laid · TableTells: laid · TableParts: laid · TableFull: laid · TableForms: laid.
  DERIVED. THE GIVEN ROWS OF THIS SEAT. 6 by the template 'for every input the law returns true; each argument reads behind the call as it read before'; 0 by the template 'total and deterministic' (their statements: YtblniomnhpedjaaGreatDoorTotals.lean).
  GIVEN WITH THE SEED: the statements are not yours to turn. If you find one false, say at which input.
  Laid BY PROGRAM, IN A SANDBOX (cutbox-rows.mjs): the forced cells as the released guide's own fill.sh prints them over the translation 25dc8d9a848e45a7… (all of the seat's roots in one cut). By AI agents, Wed Nov 11 2026. No macro, syntax, notation, axiom, sorry.
-/
import Derived.Test.YtblniomnhpedjaaGreatDoorChecked
import GoSem.Claim
import GoSem.ClaimJoined
import GoSem.ClaimMapViews
import Derived.JoinedTies
import Derived.KernelRfl
namespace Go.Proofs.YtblniomnhpedjaaGreatDoor
/- THE CELL 'sum', in the pinned program and in every row, IS THE sha256 OF THE DUMP (.gsa) THAT YtblniomnhpedjaaGreatDoorProg.lean LOADS. Nothing in Lean hashes anything: it is a label: what it is worth is what the hold of that sum in a sandbox is worth. -/
noncomputable def Tryz.pinned : Pinned := { name := "ytblniomnhpedjaagreatdoor", sum := "25dc8d9a848e45a7df32c467910731cc05b0b4ba823620990639cb39a318441a", checked := Tryz.checked }
namespace Rows
def none {H : Type} : Left H := { results := [], args := [] }

/- WHAT THE LISTED PACKAGE-LEVEL VARIABLES READ AS WHEN THE CALL BEGINS. Each datum BY PROGRAM (the guide's laid-datum.mjs) off the statement by which the dump's own 'gosem.cut.vars' lays the variable. In a bare row this is a premise. The card (YtblniomnhpedjaaGreatDoorCards.lean) ties it to the program's text. -/
def laid_tussock_wire_crcSteps {H : Type} : DataW H := .agg [.lit (.int .u32 0), .lit (.int .u32 498536548), .lit (.int .u32 997073096), .lit (.int .u32 651767980), .lit (.int .u32 1994146192), .lit (.int .u32 1802195444), .lit (.int .u32 1303535960), .lit (.int .u32 1342533948), .lit (.int .u32 3988292384), .lit (.int .u32 4027552580), .lit (.int .u32 3604390888), .lit (.int .u32 3412177804), .lit (.int .u32 2607071920), .lit (.int .u32 2262029012), .lit (.int .u32 2685067896), .lit (.int .u32 3183342108)]

/-- 'tussocklaw13.TablePlays': WHATEVER THE INPUT: true; the input reads as it did. -/
def tablePlaysSpec : ChangeSpec := { name := "tablePlays", fn := fun _ => fun
  | [d1, d2, d3] => { results := [.lit (.bool true)], args := [d1, d2, d3] }
  | _ => none }
def tablePlaysRow : OpenClaim := { program := "ytblniomnhpedjaagreatdoor", sum := "25dc8d9a848e45a7df32c467910731cc05b0b4ba823620990639cb39a318441a", func := "tussock/tussocklaw13.TablePlays", spec := "tablePlays", inPlace := ["maps.clone"], unfollowed := true, recurses := true, named := ["tussock/wire.crcSteps"], apart := false, laid := [("tussock/wire.crcSteps", laid_tussock_wire_crcSteps)] }
def TablePlaysSaid : Prop := tablePlaysRow.holds Tryz.pinned (OpenSpec.ofChange tablePlaysSpec)

/-- ITS FALSE NEIGHBOUR: 'it returns false'. Refute it at one input. -/
def tablePlaysWrong : ChangeSpec := { name := "tablePlays", fn := fun _ => fun
  | [d1, d2, d3] => { results := [.lit (.bool false)], args := [d1, d2, d3] }
  | _ => none }
def TablePlaysWrongFalsely : Prop := tablePlaysRow.holds Tryz.pinned (OpenSpec.ofChange tablePlaysWrong)

/-- 'tussocklaw13.TableLasts': WHATEVER THE INPUT: true; the input reads as it did. -/
def tableLastsSpec : ChangeSpec := { name := "tableLasts", fn := fun _ => fun
  | [d] => { results := [.lit (.bool true)], args := [d] }
  | _ => none }
def tableLastsRow : OpenClaim := { program := "ytblniomnhpedjaagreatdoor", sum := "25dc8d9a848e45a7df32c467910731cc05b0b4ba823620990639cb39a318441a", func := "tussock/tussocklaw13.TableLasts", spec := "tableLasts", inPlace := ["maps.clone"], unfollowed := true, recurses := true, named := ["tussock/wire.crcSteps"], apart := false, laid := [("tussock/wire.crcSteps", laid_tussock_wire_crcSteps)] }
def TableLastsSaid : Prop := tableLastsRow.holds Tryz.pinned (OpenSpec.ofChange tableLastsSpec)

/-- ITS FALSE NEIGHBOUR: 'it returns false'. Refute it at one input. -/
def tableLastsWrong : ChangeSpec := { name := "tableLasts", fn := fun _ => fun
  | [d] => { results := [.lit (.bool false)], args := [d] }
  | _ => none }
def TableLastsWrongFalsely : Prop := tableLastsRow.holds Tryz.pinned (OpenSpec.ofChange tableLastsWrong)

/-- 'tussocklaw13.TableTells': WHATEVER THE INPUT: true; the input reads as it did. -/
def tableTellsSpec : ChangeSpec := { name := "tableTells", fn := fun _ => fun
  | [d1, d2, d3, d4] => { results := [.lit (.bool true)], args := [d1, d2, d3, d4] }
  | _ => none }
def tableTellsRow : OpenClaim := { program := "ytblniomnhpedjaagreatdoor", sum := "25dc8d9a848e45a7df32c467910731cc05b0b4ba823620990639cb39a318441a", func := "tussock/tussocklaw13.TableTells", spec := "tableTells", inPlace := ["maps.clone"], unfollowed := true, recurses := true, named := ["tussock/wire.crcSteps"], apart := false, laid := [("tussock/wire.crcSteps", laid_tussock_wire_crcSteps)] }
def TableTellsSaid : Prop := tableTellsRow.holds Tryz.pinned (OpenSpec.ofChange tableTellsSpec)

/-- ITS FALSE NEIGHBOUR: 'it returns false'. Refute it at one input. -/
def tableTellsWrong : ChangeSpec := { name := "tableTells", fn := fun _ => fun
  | [d1, d2, d3, d4] => { results := [.lit (.bool false)], args := [d1, d2, d3, d4] }
  | _ => none }
def TableTellsWrongFalsely : Prop := tableTellsRow.holds Tryz.pinned (OpenSpec.ofChange tableTellsWrong)

/-- 'tussocklaw13.TableParts': WHATEVER THE INPUT: true; the input reads as it did. -/
def tablePartsSpec : ChangeSpec := { name := "tableParts", fn := fun _ => fun
  | [d1, d2] => { results := [.lit (.bool true)], args := [d1, d2] }
  | _ => none }
def tablePartsRow : OpenClaim := { program := "ytblniomnhpedjaagreatdoor", sum := "25dc8d9a848e45a7df32c467910731cc05b0b4ba823620990639cb39a318441a", func := "tussock/tussocklaw13.TableParts", spec := "tableParts", inPlace := ["maps.clone"], unfollowed := true, recurses := true, named := ["tussock/wire.crcSteps"], apart := false, laid := [("tussock/wire.crcSteps", laid_tussock_wire_crcSteps)] }
def TablePartsSaid : Prop := tablePartsRow.holds Tryz.pinned (OpenSpec.ofChange tablePartsSpec)

/-- ITS FALSE NEIGHBOUR: 'it returns false'. Refute it at one input. -/
def tablePartsWrong : ChangeSpec := { name := "tableParts", fn := fun _ => fun
  | [d1, d2] => { results := [.lit (.bool false)], args := [d1, d2] }
  | _ => none }
def TablePartsWrongFalsely : Prop := tablePartsRow.holds Tryz.pinned (OpenSpec.ofChange tablePartsWrong)

/-- 'tussocklaw13.TableFull': WHATEVER THE INPUT: true; the input reads as it did. -/
def tableFullSpec : ChangeSpec := { name := "tableFull", fn := fun _ => fun
  | [d1, d2, d3, d4] => { results := [.lit (.bool true)], args := [d1, d2, d3, d4] }
  | _ => none }
def tableFullRow : OpenClaim := { program := "ytblniomnhpedjaagreatdoor", sum := "25dc8d9a848e45a7df32c467910731cc05b0b4ba823620990639cb39a318441a", func := "tussock/tussocklaw13.TableFull", spec := "tableFull", inPlace := ["maps.clone"], unfollowed := true, recurses := true, named := ["tussock/wire.crcSteps"], apart := false, laid := [("tussock/wire.crcSteps", laid_tussock_wire_crcSteps)] }
def TableFullSaid : Prop := tableFullRow.holds Tryz.pinned (OpenSpec.ofChange tableFullSpec)

/-- ITS FALSE NEIGHBOUR: 'it returns false'. Refute it at one input. -/
def tableFullWrong : ChangeSpec := { name := "tableFull", fn := fun _ => fun
  | [d1, d2, d3, d4] => { results := [.lit (.bool false)], args := [d1, d2, d3, d4] }
  | _ => none }
def TableFullWrongFalsely : Prop := tableFullRow.holds Tryz.pinned (OpenSpec.ofChange tableFullWrong)

/-- 'tussocklaw13.TableForms': WHATEVER THE INPUT: true; the input reads as it did. -/
def tableFormsSpec : ChangeSpec := { name := "tableForms", fn := fun _ => fun
  | [d1, d2] => { results := [.lit (.bool true)], args := [d1, d2] }
  | _ => none }
def tableFormsRow : OpenClaim := { program := "ytblniomnhpedjaagreatdoor", sum := "25dc8d9a848e45a7df32c467910731cc05b0b4ba823620990639cb39a318441a", func := "tussock/tussocklaw13.TableForms", spec := "tableForms", inPlace := ["maps.clone"], unfollowed := true, recurses := true, named := ["tussock/wire.crcSteps"], apart := false, laid := [("tussock/wire.crcSteps", laid_tussock_wire_crcSteps)] }
def TableFormsSaid : Prop := tableFormsRow.holds Tryz.pinned (OpenSpec.ofChange tableFormsSpec)

/-- ITS FALSE NEIGHBOUR: 'it returns false'. Refute it at one input. -/
def tableFormsWrong : ChangeSpec := { name := "tableForms", fn := fun _ => fun
  | [d1, d2] => { results := [.lit (.bool false)], args := [d1, d2] }
  | _ => none }
def TableFormsWrongFalsely : Prop := tableFormsRow.holds Tryz.pinned (OpenSpec.ofChange tableFormsWrong)

/- THE SECOND FORM. 'bulk': how many values and letters a reading holds, each counted each time it is reached (what is shared counts as often as it is met; a slice's spare places count too). A statement '..UptoSaid' is the law's where the arguments, and the package variables that the reading takes, are together of bulk at most 1048576: NARROWER than '..Said'. Prove '..Said' where nothing that the law and all that it calls make is longer than what came in: it says more and counts as full. Else prove '..UptoSaid'. A law counts once. -/
mutual
def uptoBulk {H : Type} : DataW H → Nat
  | .lit (.string bytes) => bytes.length + 1
  | .lit _ => 1
  | .nil => 1
  | .ptr d => uptoBulk d + 1
  | .slice elems spare => uptoBulkAll elems + uptoBulkAll spare + 1
  | .agg parts => uptoBulkAll parts + 1
  | .iface _ d => uptoBulk d + 1
  | .map entries => uptoBulkEntries entries + 1
  | .held _ => 1
def uptoBulkAll {H : Type} : List (DataW H) → Nat
  | [] => 0
  | d :: r => uptoBulk d + uptoBulkAll r
def uptoBulkEntries {H : Type} : List (Lit × DataW H) → Nat
  | [] => 0
  | x :: r => uptoBulkEntry x + uptoBulkEntries r
def uptoBulkEntry {H : Type} : Lit × DataW H → Nat
  | (.string bytes, d) => bytes.length + uptoBulk d + 1
  | (_, d) => uptoBulk d + 1
 end
def uptoSmall : (H : Type) → List (DataW H) → Bool := fun _ ds => decide (uptoBulkAll ds ≤ 1048576)
def OpenSpec.upto (s : _root_.Go.ChangeSpec) : _root_.Go.OpenSpec := { _root_.Go.OpenSpec.ofChange s with cond := some uptoSmall }

/-- 'tussocklaw13.TablePlays', WHERE WHAT IT READS IS OF BULK AT MOST 1048576: true; the input reads as it did. -/
def tablePlaysUptoRow : OpenClaim := { program := "ytblniomnhpedjaagreatdoor", sum := "25dc8d9a848e45a7df32c467910731cc05b0b4ba823620990639cb39a318441a", func := "tussock/tussocklaw13.TablePlays", spec := "tablePlays", inPlace := ["maps.clone"], unfollowed := true, recurses := true, named := ["tussock/wire.crcSteps"], apart := false, laid := [("tussock/wire.crcSteps", laid_tussock_wire_crcSteps)], narrowed := true }
def TablePlaysUptoSaid : Prop := tablePlaysUptoRow.holds Tryz.pinned (OpenSpec.upto tablePlaysSpec)

/-- 'tussocklaw13.TableLasts', WHERE WHAT IT READS IS OF BULK AT MOST 1048576: true; the input reads as it did. -/
def tableLastsUptoRow : OpenClaim := { program := "ytblniomnhpedjaagreatdoor", sum := "25dc8d9a848e45a7df32c467910731cc05b0b4ba823620990639cb39a318441a", func := "tussock/tussocklaw13.TableLasts", spec := "tableLasts", inPlace := ["maps.clone"], unfollowed := true, recurses := true, named := ["tussock/wire.crcSteps"], apart := false, laid := [("tussock/wire.crcSteps", laid_tussock_wire_crcSteps)], narrowed := true }
def TableLastsUptoSaid : Prop := tableLastsUptoRow.holds Tryz.pinned (OpenSpec.upto tableLastsSpec)

/-- 'tussocklaw13.TableTells', WHERE WHAT IT READS IS OF BULK AT MOST 1048576: true; the input reads as it did. -/
def tableTellsUptoRow : OpenClaim := { program := "ytblniomnhpedjaagreatdoor", sum := "25dc8d9a848e45a7df32c467910731cc05b0b4ba823620990639cb39a318441a", func := "tussock/tussocklaw13.TableTells", spec := "tableTells", inPlace := ["maps.clone"], unfollowed := true, recurses := true, named := ["tussock/wire.crcSteps"], apart := false, laid := [("tussock/wire.crcSteps", laid_tussock_wire_crcSteps)], narrowed := true }
def TableTellsUptoSaid : Prop := tableTellsUptoRow.holds Tryz.pinned (OpenSpec.upto tableTellsSpec)

/-- 'tussocklaw13.TableParts', WHERE WHAT IT READS IS OF BULK AT MOST 1048576: true; the input reads as it did. -/
def tablePartsUptoRow : OpenClaim := { program := "ytblniomnhpedjaagreatdoor", sum := "25dc8d9a848e45a7df32c467910731cc05b0b4ba823620990639cb39a318441a", func := "tussock/tussocklaw13.TableParts", spec := "tableParts", inPlace := ["maps.clone"], unfollowed := true, recurses := true, named := ["tussock/wire.crcSteps"], apart := false, laid := [("tussock/wire.crcSteps", laid_tussock_wire_crcSteps)], narrowed := true }
def TablePartsUptoSaid : Prop := tablePartsUptoRow.holds Tryz.pinned (OpenSpec.upto tablePartsSpec)

/-- 'tussocklaw13.TableFull', WHERE WHAT IT READS IS OF BULK AT MOST 1048576: true; the input reads as it did. -/
def tableFullUptoRow : OpenClaim := { program := "ytblniomnhpedjaagreatdoor", sum := "25dc8d9a848e45a7df32c467910731cc05b0b4ba823620990639cb39a318441a", func := "tussock/tussocklaw13.TableFull", spec := "tableFull", inPlace := ["maps.clone"], unfollowed := true, recurses := true, named := ["tussock/wire.crcSteps"], apart := false, laid := [("tussock/wire.crcSteps", laid_tussock_wire_crcSteps)], narrowed := true }
def TableFullUptoSaid : Prop := tableFullUptoRow.holds Tryz.pinned (OpenSpec.upto tableFullSpec)

/-- 'tussocklaw13.TableForms', WHERE WHAT IT READS IS OF BULK AT MOST 1048576: true; the input reads as it did. -/
def tableFormsUptoRow : OpenClaim := { program := "ytblniomnhpedjaagreatdoor", sum := "25dc8d9a848e45a7df32c467910731cc05b0b4ba823620990639cb39a318441a", func := "tussock/tussocklaw13.TableForms", spec := "tableForms", inPlace := ["maps.clone"], unfollowed := true, recurses := true, named := ["tussock/wire.crcSteps"], apart := false, laid := [("tussock/wire.crcSteps", laid_tussock_wire_crcSteps)], narrowed := true }
def TableFormsUptoSaid : Prop := tableFormsUptoRow.holds Tryz.pinned (OpenSpec.upto tableFormsSpec)

end Rows
end Go.Proofs.YtblniomnhpedjaaGreatDoor
