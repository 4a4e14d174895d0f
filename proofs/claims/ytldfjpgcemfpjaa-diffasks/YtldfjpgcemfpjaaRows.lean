/-
  No cell of these rows narrows 'for every input' (looked for: loops, veiled, ifaces, maps, wideKeys, modest, calm, conditions, laid).
  DERIVED. THE GIVEN ROWS OF THIS SEAT. 4 by the template 'for every input the law returns true; each argument reads behind the call as it read before'; 0 by the template 'total and deterministic' (their statements: YtldfjpgcemfpjaaTotals.lean).
  GIVEN WITH THE SEED: the statements are not yours to turn. If you find one false, say at which input.
  Laid BY PROGRAM, IN A SANDBOX (cutbox-rows.mjs): the forced cells as the released guide's own fill.sh prints them over the translation 9b40d222e0ee3a31… (all of the seat's roots in one cut). By AI agents, Wed Nov 11 2026. No macro, syntax, notation, axiom, sorry.
-/
import Derived.Test.YtldfjpgcemfpjaaChecked
import GoSem.Claim
import GoSem.ClaimJoined
import GoSem.ClaimMapViews
import Derived.JoinedTies
import Derived.KernelRfl
namespace Go.Proofs.Ytldfjpgcemfpjaa
/- THE CELL 'sum', in the pinned program and in every row, IS THE sha256 OF THE DUMP (.gsa) THAT YtldfjpgcemfpjaaProg.lean LOADS. Nothing in Lean hashes anything: it is a label: what it is worth is what the hold of that sum in a sandbox is worth. -/
noncomputable def Try.pinned : Pinned := { name := "ytldfjpgcemfpjaa", sum := "9b40d222e0ee3a313a2b679ec660857c2117d80d3c1e24ac3b03fb09f060f102", checked := Try.checked }
namespace Rows
def none {H : Type} : Left H := { results := [], args := [] }

/-- 'tussocklaw14.DiffMaps': WHATEVER THE INPUT: true; the input reads as it did. -/
def diffMapsSpec : ChangeSpec := { name := "diffMaps", fn := fun _ => fun
  | [d1, d2, d3] => { results := [.lit (.bool true)], args := [d1, d2, d3] }
  | _ => none }
def diffMapsRow : OpenClaim := { program := "ytldfjpgcemfpjaa", sum := "9b40d222e0ee3a313a2b679ec660857c2117d80d3c1e24ac3b03fb09f060f102", func := "tussock/tussocklaw14.DiffMaps", spec := "diffMaps", unfollowed := true, recurses := true, apart := false }
def DiffMapsSaid : Prop := diffMapsRow.holds Try.pinned (OpenSpec.ofChange diffMapsSpec)

/-- ITS FALSE NEIGHBOUR: 'it returns false'. Refute it at one input. -/
def diffMapsWrong : ChangeSpec := { name := "diffMaps", fn := fun _ => fun
  | [d1, d2, d3] => { results := [.lit (.bool false)], args := [d1, d2, d3] }
  | _ => none }
def DiffMapsWrongFalsely : Prop := diffMapsRow.holds Try.pinned (OpenSpec.ofChange diffMapsWrong)

/-- 'tussocklaw14.DiffAsks': WHATEVER THE INPUT: true; the input reads as it did. -/
def diffAsksSpec : ChangeSpec := { name := "diffAsks", fn := fun _ => fun
  | [d1, d2, d3] => { results := [.lit (.bool true)], args := [d1, d2, d3] }
  | _ => none }
def diffAsksRow : OpenClaim := { program := "ytldfjpgcemfpjaa", sum := "9b40d222e0ee3a313a2b679ec660857c2117d80d3c1e24ac3b03fb09f060f102", func := "tussock/tussocklaw14.DiffAsks", spec := "diffAsks", unfollowed := true, recurses := true, apart := false }
def DiffAsksSaid : Prop := diffAsksRow.holds Try.pinned (OpenSpec.ofChange diffAsksSpec)

/-- ITS FALSE NEIGHBOUR: 'it returns false'. Refute it at one input. -/
def diffAsksWrong : ChangeSpec := { name := "diffAsks", fn := fun _ => fun
  | [d1, d2, d3] => { results := [.lit (.bool false)], args := [d1, d2, d3] }
  | _ => none }
def DiffAsksWrongFalsely : Prop := diffAsksRow.holds Try.pinned (OpenSpec.ofChange diffAsksWrong)

/-- 'tussocklaw14.DiffPuts': WHATEVER THE INPUT: true; the input reads as it did. -/
def diffPutsSpec : ChangeSpec := { name := "diffPuts", fn := fun _ => fun
  | [d] => { results := [.lit (.bool true)], args := [d] }
  | _ => none }
def diffPutsRow : OpenClaim := { program := "ytldfjpgcemfpjaa", sum := "9b40d222e0ee3a313a2b679ec660857c2117d80d3c1e24ac3b03fb09f060f102", func := "tussock/tussocklaw14.DiffPuts", spec := "diffPuts", unfollowed := true, recurses := true, apart := false }
def DiffPutsSaid : Prop := diffPutsRow.holds Try.pinned (OpenSpec.ofChange diffPutsSpec)

/-- ITS FALSE NEIGHBOUR: 'it returns false'. Refute it at one input. -/
def diffPutsWrong : ChangeSpec := { name := "diffPuts", fn := fun _ => fun
  | [d] => { results := [.lit (.bool false)], args := [d] }
  | _ => none }
def DiffPutsWrongFalsely : Prop := diffPutsRow.holds Try.pinned (OpenSpec.ofChange diffPutsWrong)

/-- 'tussocklaw14.DiffSame': WHATEVER THE INPUT: true; the input reads as it did. -/
def diffSameSpec : ChangeSpec := { name := "diffSame", fn := fun _ => fun
  | [d1, d2] => { results := [.lit (.bool true)], args := [d1, d2] }
  | _ => none }
def diffSameRow : OpenClaim := { program := "ytldfjpgcemfpjaa", sum := "9b40d222e0ee3a313a2b679ec660857c2117d80d3c1e24ac3b03fb09f060f102", func := "tussock/tussocklaw14.DiffSame", spec := "diffSame", unfollowed := true, recurses := true, apart := false }
def DiffSameSaid : Prop := diffSameRow.holds Try.pinned (OpenSpec.ofChange diffSameSpec)

/-- ITS FALSE NEIGHBOUR: 'it returns false'. Refute it at one input. -/
def diffSameWrong : ChangeSpec := { name := "diffSame", fn := fun _ => fun
  | [d1, d2] => { results := [.lit (.bool false)], args := [d1, d2] }
  | _ => none }
def DiffSameWrongFalsely : Prop := diffSameRow.holds Try.pinned (OpenSpec.ofChange diffSameWrong)

/- THE SECOND FORM. 'bulk': how many values and letters a reading holds, each counted each time it is reached (what is shared counts as often as it is met; a slice's spare places count too). A statement '..UptoSaid' is the law's where the arguments, and the package variables that the reading takes, are together of bulk at most 1048576: NARROWER than '..Said'. Prove '..Said' where nothing that the law and all that it calls make is longer than what came in: it says more and counts as full. Else prove '..UptoSaid'. A law counts once. -/
mutual
def uptoBulk {H : Type} : DataW H → Nat
  | .lit (.string bytes) => bytes.length + 1
  | .lit _ => 1
  | .nil => 1
  | .ptr d => uptoBulk d + 1
  | .slice elems spare => uptoBulkAll elems + uptoBulkAll spare + 1
  | .agg parts => uptoBulkAll parts + 1
  | .iface _ d => uptoBulk d + 1
  | .map entries => uptoBulkEntries entries + 1
  | .held _ => 1
def uptoBulkAll {H : Type} : List (DataW H) → Nat
  | [] => 0
  | d :: r => uptoBulk d + uptoBulkAll r
def uptoBulkEntries {H : Type} : List (Lit × DataW H) → Nat
  | [] => 0
  | x :: r => uptoBulkEntry x + uptoBulkEntries r
def uptoBulkEntry {H : Type} : Lit × DataW H → Nat
  | (.string bytes, d) => bytes.length + uptoBulk d + 1
  | (_, d) => uptoBulk d + 1
 end
def uptoSmall : (H : Type) → List (DataW H) → Bool := fun _ ds => decide (uptoBulkAll ds ≤ 1048576)
def OpenSpec.upto (s : _root_.Go.ChangeSpec) : _root_.Go.OpenSpec := { _root_.Go.OpenSpec.ofChange s with cond := some uptoSmall }

/-- 'tussocklaw14.DiffMaps', WHERE WHAT IT READS IS OF BULK AT MOST 1048576: true; the input reads as it did. -/
def diffMapsUptoRow : OpenClaim := { program := "ytldfjpgcemfpjaa", sum := "9b40d222e0ee3a313a2b679ec660857c2117d80d3c1e24ac3b03fb09f060f102", func := "tussock/tussocklaw14.DiffMaps", spec := "diffMaps", unfollowed := true, recurses := true, apart := false, narrowed := true }
def DiffMapsUptoSaid : Prop := diffMapsUptoRow.holds Try.pinned (OpenSpec.upto diffMapsSpec)

/-- 'tussocklaw14.DiffAsks', WHERE WHAT IT READS IS OF BULK AT MOST 1048576: true; the input reads as it did. -/
def diffAsksUptoRow : OpenClaim := { program := "ytldfjpgcemfpjaa", sum := "9b40d222e0ee3a313a2b679ec660857c2117d80d3c1e24ac3b03fb09f060f102", func := "tussock/tussocklaw14.DiffAsks", spec := "diffAsks", unfollowed := true, recurses := true, apart := false, narrowed := true }
def DiffAsksUptoSaid : Prop := diffAsksUptoRow.holds Try.pinned (OpenSpec.upto diffAsksSpec)

/-- 'tussocklaw14.DiffPuts', WHERE WHAT IT READS IS OF BULK AT MOST 1048576: true; the input reads as it did. -/
def diffPutsUptoRow : OpenClaim := { program := "ytldfjpgcemfpjaa", sum := "9b40d222e0ee3a313a2b679ec660857c2117d80d3c1e24ac3b03fb09f060f102", func := "tussock/tussocklaw14.DiffPuts", spec := "diffPuts", unfollowed := true, recurses := true, apart := false, narrowed := true }
def DiffPutsUptoSaid : Prop := diffPutsUptoRow.holds Try.pinned (OpenSpec.upto diffPutsSpec)

/-- 'tussocklaw14.DiffSame', WHERE WHAT IT READS IS OF BULK AT MOST 1048576: true; the input reads as it did. -/
def diffSameUptoRow : OpenClaim := { program := "ytldfjpgcemfpjaa", sum := "9b40d222e0ee3a313a2b679ec660857c2117d80d3c1e24ac3b03fb09f060f102", func := "tussock/tussocklaw14.DiffSame", spec := "diffSame", unfollowed := true, recurses := true, apart := false, narrowed := true }
def DiffSameUptoSaid : Prop := diffSameUptoRow.holds Try.pinned (OpenSpec.upto diffSameSpec)

end Rows
end Go.Proofs.Ytldfjpgcemfpjaa
