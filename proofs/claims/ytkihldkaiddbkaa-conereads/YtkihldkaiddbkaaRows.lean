/-
  No cell of these rows narrows 'for every input' (looked for: loops, veiled, ifaces, maps, wideKeys, modest, calm, conditions, laid).
  DERIVED. THE GIVEN ROWS OF THIS SEAT. 6 by the template 'for every input the law returns true; each argument reads behind the call as it read before'; 0 by the template 'total and deterministic' (their statements: YtkihldkaiddbkaaTotals.lean).
  GIVEN WITH THE SEED: the statements are not yours to turn. If you find one false, say at which input.
  Laid BY PROGRAM, IN A SANDBOX (cutbox-rows.mjs): the forced cells as the released guide's own fill.sh prints them over the translation 574691ab1d9dc7ce… (all of the seat's roots in one cut). By AI agents, Wed Nov 11 2026. No macro, syntax, notation, axiom, sorry.
-/
import Derived.Test.YtkihldkaiddbkaaChecked
import GoSem.Claim
import GoSem.ClaimJoined
import GoSem.ClaimMapViews
import Derived.JoinedTies
import Derived.KernelRfl
namespace Go.Proofs.Ytkihldkaiddbkaa
/- THE CELL 'sum', in the pinned program and in every row, IS THE sha256 OF THE DUMP (.gsa) THAT YtkihldkaiddbkaaProg.lean LOADS. Nothing in Lean hashes anything: it is a label: what it is worth is what the hold of that sum in a sandbox is worth. -/
noncomputable def Try.pinned : Pinned := { name := "ytkihldkaiddbkaa", sum := "574691ab1d9dc7ce938592d186b65914be15e83ebe8572b8d3db3f21662e0931", checked := Try.checked }
namespace Rows
def none {H : Type} : Left H := { results := [], args := [] }

/-- 'tussocklaw18.ConeOf': WHATEVER THE INPUT: true; the input reads as it did. -/
def coneOfSpec : ChangeSpec := { name := "coneOf", fn := fun _ => fun
  | [d] => { results := [.lit (.bool true)], args := [d] }
  | _ => none }
def coneOfRow : OpenClaim := { program := "ytkihldkaiddbkaa", sum := "574691ab1d9dc7ce938592d186b65914be15e83ebe8572b8d3db3f21662e0931", func := "tussock/tussocklaw18.ConeOf", spec := "coneOf", inPlace := ["internal/bytealg.IndexByteString", "internal/bytealg.IndexString", "internal/abi.NoEscape"], unfollowed := true, recurses := true, named := ["internal/bytealg.MaxLen"], apart := false }
def ConeOfSaid : Prop := coneOfRow.holds Try.pinned (OpenSpec.ofChange coneOfSpec)

/-- ITS FALSE NEIGHBOUR: 'it returns false'. Refute it at one input. -/
def coneOfWrong : ChangeSpec := { name := "coneOf", fn := fun _ => fun
  | [d] => { results := [.lit (.bool false)], args := [d] }
  | _ => none }
def ConeOfWrongFalsely : Prop := coneOfRow.holds Try.pinned (OpenSpec.ofChange coneOfWrong)

/-- 'tussocklaw18.ConeReads': WHATEVER THE INPUT: true; the input reads as it did. -/
def coneReadsSpec : ChangeSpec := { name := "coneReads", fn := fun _ => fun
  | [d] => { results := [.lit (.bool true)], args := [d] }
  | _ => none }
def coneReadsRow : OpenClaim := { program := "ytkihldkaiddbkaa", sum := "574691ab1d9dc7ce938592d186b65914be15e83ebe8572b8d3db3f21662e0931", func := "tussock/tussocklaw18.ConeReads", spec := "coneReads", inPlace := ["internal/bytealg.IndexByteString", "internal/bytealg.IndexString"], unfollowed := true, recurses := true, named := ["internal/bytealg.MaxLen"], apart := false }
def ConeReadsSaid : Prop := coneReadsRow.holds Try.pinned (OpenSpec.ofChange coneReadsSpec)

/-- ITS FALSE NEIGHBOUR: 'it returns false'. Refute it at one input. -/
def coneReadsWrong : ChangeSpec := { name := "coneReads", fn := fun _ => fun
  | [d] => { results := [.lit (.bool false)], args := [d] }
  | _ => none }
def ConeReadsWrongFalsely : Prop := coneReadsRow.holds Try.pinned (OpenSpec.ofChange coneReadsWrong)

/-- 'tussocklaw18.ConeAsks': WHATEVER THE INPUT: true; the input reads as it did. -/
def coneAsksSpec : ChangeSpec := { name := "coneAsks", fn := fun _ => fun
  | [d1, d2] => { results := [.lit (.bool true)], args := [d1, d2] }
  | _ => none }
def coneAsksRow : OpenClaim := { program := "ytkihldkaiddbkaa", sum := "574691ab1d9dc7ce938592d186b65914be15e83ebe8572b8d3db3f21662e0931", func := "tussock/tussocklaw18.ConeAsks", spec := "coneAsks", inPlace := ["internal/bytealg.IndexByteString", "internal/bytealg.IndexString"], unfollowed := true, recurses := true, named := ["internal/bytealg.MaxLen"], apart := false }
def ConeAsksSaid : Prop := coneAsksRow.holds Try.pinned (OpenSpec.ofChange coneAsksSpec)

/-- ITS FALSE NEIGHBOUR: 'it returns false'. Refute it at one input. -/
def coneAsksWrong : ChangeSpec := { name := "coneAsks", fn := fun _ => fun
  | [d1, d2] => { results := [.lit (.bool false)], args := [d1, d2] }
  | _ => none }
def ConeAsksWrongFalsely : Prop := coneAsksRow.holds Try.pinned (OpenSpec.ofChange coneAsksWrong)

/-- 'tussocklaw18.ConeBack': WHATEVER THE INPUT: true; the input reads as it did. -/
def coneBackSpec : ChangeSpec := { name := "coneBack", fn := fun _ => fun
  | [d1, d2] => { results := [.lit (.bool true)], args := [d1, d2] }
  | _ => none }
def coneBackRow : OpenClaim := { program := "ytkihldkaiddbkaa", sum := "574691ab1d9dc7ce938592d186b65914be15e83ebe8572b8d3db3f21662e0931", func := "tussock/tussocklaw18.ConeBack", spec := "coneBack", inPlace := ["internal/bytealg.IndexByteString", "internal/bytealg.IndexString", "internal/abi.NoEscape"], unfollowed := true, recurses := true, named := ["internal/bytealg.MaxLen"], apart := false }
def ConeBackSaid : Prop := coneBackRow.holds Try.pinned (OpenSpec.ofChange coneBackSpec)

/-- ITS FALSE NEIGHBOUR: 'it returns false'. Refute it at one input. -/
def coneBackWrong : ChangeSpec := { name := "coneBack", fn := fun _ => fun
  | [d1, d2] => { results := [.lit (.bool false)], args := [d1, d2] }
  | _ => none }
def ConeBackWrongFalsely : Prop := coneBackRow.holds Try.pinned (OpenSpec.ofChange coneBackWrong)

/-- 'tussocklaw18.ConeFiles': WHATEVER THE INPUT: true; the input reads as it did. -/
def coneFilesSpec : ChangeSpec := { name := "coneFiles", fn := fun _ => fun
  | [d1, d2] => { results := [.lit (.bool true)], args := [d1, d2] }
  | _ => none }
def coneFilesRow : OpenClaim := { program := "ytkihldkaiddbkaa", sum := "574691ab1d9dc7ce938592d186b65914be15e83ebe8572b8d3db3f21662e0931", func := "tussock/tussocklaw18.ConeFiles", spec := "coneFiles", inPlace := ["internal/bytealg.IndexByteString", "internal/bytealg.IndexString"], unfollowed := true, recurses := true, named := ["internal/bytealg.MaxLen"], apart := false }
def ConeFilesSaid : Prop := coneFilesRow.holds Try.pinned (OpenSpec.ofChange coneFilesSpec)

/-- ITS FALSE NEIGHBOUR: 'it returns false'. Refute it at one input. -/
def coneFilesWrong : ChangeSpec := { name := "coneFiles", fn := fun _ => fun
  | [d1, d2] => { results := [.lit (.bool false)], args := [d1, d2] }
  | _ => none }
def ConeFilesWrongFalsely : Prop := coneFilesRow.holds Try.pinned (OpenSpec.ofChange coneFilesWrong)

/-- 'tussocklaw18.ConeMore': WHATEVER THE INPUT: true; the input reads as it did. -/
def coneMoreSpec : ChangeSpec := { name := "coneMore", fn := fun _ => fun
  | [d1, d2, d3] => { results := [.lit (.bool true)], args := [d1, d2, d3] }
  | _ => none }
def coneMoreRow : OpenClaim := { program := "ytkihldkaiddbkaa", sum := "574691ab1d9dc7ce938592d186b65914be15e83ebe8572b8d3db3f21662e0931", func := "tussock/tussocklaw18.ConeMore", spec := "coneMore", inPlace := ["internal/bytealg.IndexByteString", "internal/bytealg.IndexString"], unfollowed := true, recurses := true, named := ["internal/bytealg.MaxLen"], apart := false }
def ConeMoreSaid : Prop := coneMoreRow.holds Try.pinned (OpenSpec.ofChange coneMoreSpec)

/-- ITS FALSE NEIGHBOUR: 'it returns false'. Refute it at one input. -/
def coneMoreWrong : ChangeSpec := { name := "coneMore", fn := fun _ => fun
  | [d1, d2, d3] => { results := [.lit (.bool false)], args := [d1, d2, d3] }
  | _ => none }
def ConeMoreWrongFalsely : Prop := coneMoreRow.holds Try.pinned (OpenSpec.ofChange coneMoreWrong)

/- THE SECOND FORM. 'bulk': how many values and letters a reading holds, each counted each time it is reached (what is shared counts as often as it is met; a slice's spare places count too). A statement '..UptoSaid' is the law's where the arguments, and the package variables that the reading takes, are together of bulk at most 1048576: NARROWER than '..Said'. Prove '..Said' where nothing that the law and all that it calls make is longer than what came in: it says more and counts as full. Else prove '..UptoSaid'. A law counts once. -/
mutual
def uptoBulk {H : Type} : DataW H → Nat
  | .lit (.string bytes) => bytes.length + 1
  | .lit _ => 1
  | .nil => 1
  | .ptr d => uptoBulk d + 1
  | .slice elems spare => uptoBulkAll elems + uptoBulkAll spare + 1
  | .agg parts => uptoBulkAll parts + 1
  | .iface _ d => uptoBulk d + 1
  | .map entries => uptoBulkEntries entries + 1
  | .held _ => 1
def uptoBulkAll {H : Type} : List (DataW H) → Nat
  | [] => 0
  | d :: r => uptoBulk d + uptoBulkAll r
def uptoBulkEntries {H : Type} : List (Lit × DataW H) → Nat
  | [] => 0
  | x :: r => uptoBulkEntry x + uptoBulkEntries r
def uptoBulkEntry {H : Type} : Lit × DataW H → Nat
  | (.string bytes, d) => bytes.length + uptoBulk d + 1
  | (_, d) => uptoBulk d + 1
 end
def uptoSmall : (H : Type) → List (DataW H) → Bool := fun _ ds => decide (uptoBulkAll ds ≤ 1048576)
def OpenSpec.upto (s : _root_.Go.ChangeSpec) : _root_.Go.OpenSpec := { _root_.Go.OpenSpec.ofChange s with cond := some uptoSmall }

/-- 'tussocklaw18.ConeOf', WHERE WHAT IT READS IS OF BULK AT MOST 1048576: true; the input reads as it did. -/
def coneOfUptoRow : OpenClaim := { program := "ytkihldkaiddbkaa", sum := "574691ab1d9dc7ce938592d186b65914be15e83ebe8572b8d3db3f21662e0931", func := "tussock/tussocklaw18.ConeOf", spec := "coneOf", inPlace := ["internal/bytealg.IndexByteString", "internal/bytealg.IndexString", "internal/abi.NoEscape"], unfollowed := true, recurses := true, named := ["internal/bytealg.MaxLen"], apart := false, narrowed := true }
def ConeOfUptoSaid : Prop := coneOfUptoRow.holds Try.pinned (OpenSpec.upto coneOfSpec)

/-- 'tussocklaw18.ConeReads', WHERE WHAT IT READS IS OF BULK AT MOST 1048576: true; the input reads as it did. -/
def coneReadsUptoRow : OpenClaim := { program := "ytkihldkaiddbkaa", sum := "574691ab1d9dc7ce938592d186b65914be15e83ebe8572b8d3db3f21662e0931", func := "tussock/tussocklaw18.ConeReads", spec := "coneReads", inPlace := ["internal/bytealg.IndexByteString", "internal/bytealg.IndexString"], unfollowed := true, recurses := true, named := ["internal/bytealg.MaxLen"], apart := false, narrowed := true }
def ConeReadsUptoSaid : Prop := coneReadsUptoRow.holds Try.pinned (OpenSpec.upto coneReadsSpec)

/-- 'tussocklaw18.ConeAsks', WHERE WHAT IT READS IS OF BULK AT MOST 1048576: true; the input reads as it did. -/
def coneAsksUptoRow : OpenClaim := { program := "ytkihldkaiddbkaa", sum := "574691ab1d9dc7ce938592d186b65914be15e83ebe8572b8d3db3f21662e0931", func := "tussock/tussocklaw18.ConeAsks", spec := "coneAsks", inPlace := ["internal/bytealg.IndexByteString", "internal/bytealg.IndexString"], unfollowed := true, recurses := true, named := ["internal/bytealg.MaxLen"], apart := false, narrowed := true }
def ConeAsksUptoSaid : Prop := coneAsksUptoRow.holds Try.pinned (OpenSpec.upto coneAsksSpec)

/-- 'tussocklaw18.ConeBack', WHERE WHAT IT READS IS OF BULK AT MOST 1048576: true; the input reads as it did. -/
def coneBackUptoRow : OpenClaim := { program := "ytkihldkaiddbkaa", sum := "574691ab1d9dc7ce938592d186b65914be15e83ebe8572b8d3db3f21662e0931", func := "tussock/tussocklaw18.ConeBack", spec := "coneBack", inPlace := ["internal/bytealg.IndexByteString", "internal/bytealg.IndexString", "internal/abi.NoEscape"], unfollowed := true, recurses := true, named := ["internal/bytealg.MaxLen"], apart := false, narrowed := true }
def ConeBackUptoSaid : Prop := coneBackUptoRow.holds Try.pinned (OpenSpec.upto coneBackSpec)

/-- 'tussocklaw18.ConeFiles', WHERE WHAT IT READS IS OF BULK AT MOST 1048576: true; the input reads as it did. -/
def coneFilesUptoRow : OpenClaim := { program := "ytkihldkaiddbkaa", sum := "574691ab1d9dc7ce938592d186b65914be15e83ebe8572b8d3db3f21662e0931", func := "tussock/tussocklaw18.ConeFiles", spec := "coneFiles", inPlace := ["internal/bytealg.IndexByteString", "internal/bytealg.IndexString"], unfollowed := true, recurses := true, named := ["internal/bytealg.MaxLen"], apart := false, narrowed := true }
def ConeFilesUptoSaid : Prop := coneFilesUptoRow.holds Try.pinned (OpenSpec.upto coneFilesSpec)

/-- 'tussocklaw18.ConeMore', WHERE WHAT IT READS IS OF BULK AT MOST 1048576: true; the input reads as it did. -/
def coneMoreUptoRow : OpenClaim := { program := "ytkihldkaiddbkaa", sum := "574691ab1d9dc7ce938592d186b65914be15e83ebe8572b8d3db3f21662e0931", func := "tussock/tussocklaw18.ConeMore", spec := "coneMore", inPlace := ["internal/bytealg.IndexByteString", "internal/bytealg.IndexString"], unfollowed := true, recurses := true, named := ["internal/bytealg.MaxLen"], apart := false, narrowed := true }
def ConeMoreUptoSaid : Prop := coneMoreUptoRow.holds Try.pinned (OpenSpec.upto coneMoreSpec)

end Rows
end Go.Proofs.Ytkihldkaiddbkaa
