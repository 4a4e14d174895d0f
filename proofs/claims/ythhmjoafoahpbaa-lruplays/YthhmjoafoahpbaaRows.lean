/-
  No cell of these rows narrows 'for every input' (looked for: loops, veiled, ifaces, maps, wideKeys, modest, calm, conditions, laid).
  DERIVED. THE GIVEN ROWS OF THIS SEAT. 4 by the template 'for every input the law returns true; each argument reads behind the call as it read before'; 0 by the template 'total and deterministic' (their statements: YthhmjoafoahpbaaTotals.lean).
  GIVEN WITH THE SEED: the statements are not yours to turn. If you find one false, say at which input.
  Laid BY PROGRAM, IN A SANDBOX (cutbox-rows.mjs): the forced cells as the released guide's own fill.sh prints them over the translation 5105f2eec3aa5b6b… (all of the seat's roots in one cut). By AI agents, Wed Nov 11 2026. No macro, syntax, notation, axiom, sorry.
-/
import Derived.Test.YthhmjoafoahpbaaChecked
import GoSem.Claim
import GoSem.ClaimJoined
import GoSem.ClaimMapViews
import Derived.JoinedTies
import Derived.KernelRfl
namespace Go.Proofs.Ythhmjoafoahpbaa
/- THE CELL 'sum', in the pinned program and in every row, IS THE sha256 OF THE DUMP (.gsa) THAT YthhmjoafoahpbaaProg.lean LOADS. Nothing in Lean hashes anything: it is a label: what it is worth is what the hold of that sum in a sandbox is worth. -/
noncomputable def Try.pinned : Pinned := { name := "ythhmjoafoahpbaa", sum := "5105f2eec3aa5b6b2f0497bdf2733b5bf0724521228c98d21f970c0c6f921b51", checked := Try.checked }
namespace Rows
def none {H : Type} : Left H := { results := [], args := [] }

/-- 'tussocklaw07.LruPlays': WHATEVER THE INPUT: true; the input reads as it did. -/
def lruPlaysSpec : ChangeSpec := { name := "lruPlays", fn := fun _ => fun
  | [d1, d2] => { results := [.lit (.bool true)], args := [d1, d2] }
  | _ => none }
def lruPlaysRow : OpenClaim := { program := "ythhmjoafoahpbaa", sum := "5105f2eec3aa5b6b2f0497bdf2733b5bf0724521228c98d21f970c0c6f921b51", func := "tussock/tussocklaw07.LruPlays", spec := "lruPlays", apart := false }
def LruPlaysSaid : Prop := lruPlaysRow.holds Try.pinned (OpenSpec.ofChange lruPlaysSpec)

/-- ITS FALSE NEIGHBOUR: 'it returns false'. Refute it at one input. -/
def lruPlaysWrong : ChangeSpec := { name := "lruPlays", fn := fun _ => fun
  | [d1, d2] => { results := [.lit (.bool false)], args := [d1, d2] }
  | _ => none }
def LruPlaysWrongFalsely : Prop := lruPlaysRow.holds Try.pinned (OpenSpec.ofChange lruPlaysWrong)

/-- 'tussocklaw07.LruLast': WHATEVER THE INPUT: true; the input reads as it did. -/
def lruLastSpec : ChangeSpec := { name := "lruLast", fn := fun _ => fun
  | [d1, d2] => { results := [.lit (.bool true)], args := [d1, d2] }
  | _ => none }
def lruLastRow : OpenClaim := { program := "ythhmjoafoahpbaa", sum := "5105f2eec3aa5b6b2f0497bdf2733b5bf0724521228c98d21f970c0c6f921b51", func := "tussock/tussocklaw07.LruLast", spec := "lruLast", apart := false }
def LruLastSaid : Prop := lruLastRow.holds Try.pinned (OpenSpec.ofChange lruLastSpec)

/-- ITS FALSE NEIGHBOUR: 'it returns false'. Refute it at one input. -/
def lruLastWrong : ChangeSpec := { name := "lruLast", fn := fun _ => fun
  | [d1, d2] => { results := [.lit (.bool false)], args := [d1, d2] }
  | _ => none }
def LruLastWrongFalsely : Prop := lruLastRow.holds Try.pinned (OpenSpec.ofChange lruLastWrong)

/-- 'tussocklaw07.LruMore': WHATEVER THE INPUT: true; the input reads as it did. -/
def lruMoreSpec : ChangeSpec := { name := "lruMore", fn := fun _ => fun
  | [d1, d2, d3] => { results := [.lit (.bool true)], args := [d1, d2, d3] }
  | _ => none }
def lruMoreRow : OpenClaim := { program := "ythhmjoafoahpbaa", sum := "5105f2eec3aa5b6b2f0497bdf2733b5bf0724521228c98d21f970c0c6f921b51", func := "tussock/tussocklaw07.LruMore", spec := "lruMore", apart := false }
def LruMoreSaid : Prop := lruMoreRow.holds Try.pinned (OpenSpec.ofChange lruMoreSpec)

/-- ITS FALSE NEIGHBOUR: 'it returns false'. Refute it at one input. -/
def lruMoreWrong : ChangeSpec := { name := "lruMore", fn := fun _ => fun
  | [d1, d2, d3] => { results := [.lit (.bool false)], args := [d1, d2, d3] }
  | _ => none }
def LruMoreWrongFalsely : Prop := lruMoreRow.holds Try.pinned (OpenSpec.ofChange lruMoreWrong)

/-- 'tussocklaw07.LruUsed': WHATEVER THE INPUT: true; the input reads as it did. -/
def lruUsedSpec : ChangeSpec := { name := "lruUsed", fn := fun _ => fun
  | [d1, d2, d3] => { results := [.lit (.bool true)], args := [d1, d2, d3] }
  | _ => none }
def lruUsedRow : OpenClaim := { program := "ythhmjoafoahpbaa", sum := "5105f2eec3aa5b6b2f0497bdf2733b5bf0724521228c98d21f970c0c6f921b51", func := "tussock/tussocklaw07.LruUsed", spec := "lruUsed", apart := false }
def LruUsedSaid : Prop := lruUsedRow.holds Try.pinned (OpenSpec.ofChange lruUsedSpec)

/-- ITS FALSE NEIGHBOUR: 'it returns false'. Refute it at one input. -/
def lruUsedWrong : ChangeSpec := { name := "lruUsed", fn := fun _ => fun
  | [d1, d2, d3] => { results := [.lit (.bool false)], args := [d1, d2, d3] }
  | _ => none }
def LruUsedWrongFalsely : Prop := lruUsedRow.holds Try.pinned (OpenSpec.ofChange lruUsedWrong)

/- THE SECOND FORM. 'bulk': how many values and letters a reading holds, each counted each time it is reached (what is shared counts as often as it is met; a slice's spare places count too). A statement '..UptoSaid' is the law's where the arguments, and the package variables that the reading takes, are together of bulk at most 1048576: NARROWER than '..Said'. Prove '..Said' where nothing that the law and all that it calls make is longer than what came in: it says more and counts as full. Else prove '..UptoSaid'. A law counts once. -/
mutual
def uptoBulk {H : Type} : DataW H → Nat
  | .lit (.string bytes) => bytes.length + 1
  | .lit _ => 1
  | .nil => 1
  | .ptr d => uptoBulk d + 1
  | .slice elems spare => uptoBulkAll elems + uptoBulkAll spare + 1
  | .agg parts => uptoBulkAll parts + 1
  | .iface _ d => uptoBulk d + 1
  | .map entries => uptoBulkEntries entries + 1
  | .held _ => 1
def uptoBulkAll {H : Type} : List (DataW H) → Nat
  | [] => 0
  | d :: r => uptoBulk d + uptoBulkAll r
def uptoBulkEntries {H : Type} : List (Lit × DataW H) → Nat
  | [] => 0
  | x :: r => uptoBulkEntry x + uptoBulkEntries r
def uptoBulkEntry {H : Type} : Lit × DataW H → Nat
  | (.string bytes, d) => bytes.length + uptoBulk d + 1
  | (_, d) => uptoBulk d + 1
 end
def uptoSmall : (H : Type) → List (DataW H) → Bool := fun _ ds => decide (uptoBulkAll ds ≤ 1048576)
def OpenSpec.upto (s : _root_.Go.ChangeSpec) : _root_.Go.OpenSpec := { _root_.Go.OpenSpec.ofChange s with cond := some uptoSmall }

/-- 'tussocklaw07.LruPlays', WHERE WHAT IT READS IS OF BULK AT MOST 1048576: true; the input reads as it did. -/
def lruPlaysUptoRow : OpenClaim := { program := "ythhmjoafoahpbaa", sum := "5105f2eec3aa5b6b2f0497bdf2733b5bf0724521228c98d21f970c0c6f921b51", func := "tussock/tussocklaw07.LruPlays", spec := "lruPlays", apart := false, narrowed := true }
def LruPlaysUptoSaid : Prop := lruPlaysUptoRow.holds Try.pinned (OpenSpec.upto lruPlaysSpec)

/-- 'tussocklaw07.LruLast', WHERE WHAT IT READS IS OF BULK AT MOST 1048576: true; the input reads as it did. -/
def lruLastUptoRow : OpenClaim := { program := "ythhmjoafoahpbaa", sum := "5105f2eec3aa5b6b2f0497bdf2733b5bf0724521228c98d21f970c0c6f921b51", func := "tussock/tussocklaw07.LruLast", spec := "lruLast", apart := false, narrowed := true }
def LruLastUptoSaid : Prop := lruLastUptoRow.holds Try.pinned (OpenSpec.upto lruLastSpec)

/-- 'tussocklaw07.LruMore', WHERE WHAT IT READS IS OF BULK AT MOST 1048576: true; the input reads as it did. -/
def lruMoreUptoRow : OpenClaim := { program := "ythhmjoafoahpbaa", sum := "5105f2eec3aa5b6b2f0497bdf2733b5bf0724521228c98d21f970c0c6f921b51", func := "tussock/tussocklaw07.LruMore", spec := "lruMore", apart := false, narrowed := true }
def LruMoreUptoSaid : Prop := lruMoreUptoRow.holds Try.pinned (OpenSpec.upto lruMoreSpec)

/-- 'tussocklaw07.LruUsed', WHERE WHAT IT READS IS OF BULK AT MOST 1048576: true; the input reads as it did. -/
def lruUsedUptoRow : OpenClaim := { program := "ythhmjoafoahpbaa", sum := "5105f2eec3aa5b6b2f0497bdf2733b5bf0724521228c98d21f970c0c6f921b51", func := "tussock/tussocklaw07.LruUsed", spec := "lruUsed", apart := false, narrowed := true }
def LruUsedUptoSaid : Prop := lruUsedUptoRow.holds Try.pinned (OpenSpec.upto lruUsedSpec)

end Rows
end Go.Proofs.Ythhmjoafoahpbaa
