/-
  NARROWER THAN 'FOR EVERY INPUT', by the rows' own cells (each row's printed sentence says how): ProllyBuilds: laid · ProllyFinds: laid · ProllyLists: laid · ProllyEdits: laid · ProllyAll: laid.
  DERIVED. THE GIVEN ROWS OF THIS SEAT. 5 by the template 'for every input the law returns true; each argument reads behind the call as it read before'; 0 by the template 'total and deterministic' (their statements: YtimbleaafoiidaaGreatDoorTotals.lean).
  GIVEN WITH THE SEED: the statements are not yours to turn. If you find one false, say at which input.
  Laid BY PROGRAM, IN A SANDBOX (cutbox-rows.mjs): the forced cells as the released guide's own fill.sh prints them over the translation b06a9bf6bef664a1… (all of the seat's roots in one cut). By AI agents, Wed Nov 11 2026. No macro, syntax, notation, axiom, sorry.
-/
import Derived.Test.YtimbleaafoiidaaGreatDoorChecked
import GoSem.Claim
import GoSem.ClaimJoined
import GoSem.ClaimMapViews
import Derived.JoinedTies
import Derived.KernelRfl
namespace Go.Proofs.YtimbleaafoiidaaGreatDoor
/- THE CELL 'sum', in the pinned program and in every row, IS THE sha256 OF THE DUMP (.gsa) THAT YtimbleaafoiidaaGreatDoorProg.lean LOADS. Nothing in Lean hashes anything: it is a label: what it is worth is what the hold of that sum in a sandbox is worth. -/
noncomputable def Tryz.pinned : Pinned := { name := "ytimbleaafoiidaagreatdoor", sum := "b06a9bf6bef664a13728d3a3224e0b3e69749b98166b8340ac9ea0bfd33b701d", checked := Tryz.checked }
namespace Rows
def none {H : Type} : Left H := { results := [], args := [] }

/- WHAT THE LISTED PACKAGE-LEVEL VARIABLES READ AS WHEN THE CALL BEGINS. Each datum BY PROGRAM (the guide's laid-datum.mjs) off the statement by which the dump's own 'gosem.cut.vars' lays the variable. In a bare row this is a premise. The card (YtimbleaafoiidaaGreatDoorCards.lean) ties it to the program's text. -/
def laid_tussock_hash_roundNumbers {H : Type} : DataW H := .agg [.lit (.int .u32 1116352408), .lit (.int .u32 1899447441), .lit (.int .u32 3049323471), .lit (.int .u32 3921009573), .lit (.int .u32 961987163), .lit (.int .u32 1508970993), .lit (.int .u32 2453635748), .lit (.int .u32 2870763221), .lit (.int .u32 3624381080), .lit (.int .u32 310598401), .lit (.int .u32 607225278), .lit (.int .u32 1426881987), .lit (.int .u32 1925078388), .lit (.int .u32 2162078206), .lit (.int .u32 2614888103), .lit (.int .u32 3248222580), .lit (.int .u32 3835390401), .lit (.int .u32 4022224774), .lit (.int .u32 264347078), .lit (.int .u32 604807628), .lit (.int .u32 770255983), .lit (.int .u32 1249150122), .lit (.int .u32 1555081692), .lit (.int .u32 1996064986), .lit (.int .u32 2554220882), .lit (.int .u32 2821834349), .lit (.int .u32 2952996808), .lit (.int .u32 3210313671), .lit (.int .u32 3336571891), .lit (.int .u32 3584528711), .lit (.int .u32 113926993), .lit (.int .u32 338241895), .lit (.int .u32 666307205), .lit (.int .u32 773529912), .lit (.int .u32 1294757372), .lit (.int .u32 1396182291), .lit (.int .u32 1695183700), .lit (.int .u32 1986661051), .lit (.int .u32 2177026350), .lit (.int .u32 2456956037), .lit (.int .u32 2730485921), .lit (.int .u32 2820302411), .lit (.int .u32 3259730800), .lit (.int .u32 3345764771), .lit (.int .u32 3516065817), .lit (.int .u32 3600352804), .lit (.int .u32 4094571909), .lit (.int .u32 275423344), .lit (.int .u32 430227734), .lit (.int .u32 506948616), .lit (.int .u32 659060556), .lit (.int .u32 883997877), .lit (.int .u32 958139571), .lit (.int .u32 1322822218), .lit (.int .u32 1537002063), .lit (.int .u32 1747873779), .lit (.int .u32 1955562222), .lit (.int .u32 2024104815), .lit (.int .u32 2227730452), .lit (.int .u32 2361852424), .lit (.int .u32 2428436474), .lit (.int .u32 2756734187), .lit (.int .u32 3204031479), .lit (.int .u32 3329325298)]

/-- 'tussocklaw12.ProllyBuilds': WHATEVER THE INPUT: true; the input reads as it did. -/
def prollyBuildsSpec : ChangeSpec := { name := "prollyBuilds", fn := fun _ => fun
  | [d] => { results := [.lit (.bool true)], args := [d] }
  | _ => none }
def prollyBuildsRow : OpenClaim := { program := "ytimbleaafoiidaagreatdoor", sum := "b06a9bf6bef664a13728d3a3224e0b3e69749b98166b8340ac9ea0bfd33b701d", func := "tussock/tussocklaw12.ProllyBuilds", spec := "prollyBuilds", unfollowed := true, recurses := true, named := ["tussock/hash.roundNumbers"], apart := false, laid := [("tussock/hash.roundNumbers", laid_tussock_hash_roundNumbers)] }
def ProllyBuildsSaid : Prop := prollyBuildsRow.holds Tryz.pinned (OpenSpec.ofChange prollyBuildsSpec)

/-- ITS FALSE NEIGHBOUR: 'it returns false'. Refute it at one input. -/
def prollyBuildsWrong : ChangeSpec := { name := "prollyBuilds", fn := fun _ => fun
  | [d] => { results := [.lit (.bool false)], args := [d] }
  | _ => none }
def ProllyBuildsWrongFalsely : Prop := prollyBuildsRow.holds Tryz.pinned (OpenSpec.ofChange prollyBuildsWrong)

/-- 'tussocklaw12.ProllyFinds': WHATEVER THE INPUT: true; the input reads as it did. -/
def prollyFindsSpec : ChangeSpec := { name := "prollyFinds", fn := fun _ => fun
  | [d1, d2, d3] => { results := [.lit (.bool true)], args := [d1, d2, d3] }
  | _ => none }
def prollyFindsRow : OpenClaim := { program := "ytimbleaafoiidaagreatdoor", sum := "b06a9bf6bef664a13728d3a3224e0b3e69749b98166b8340ac9ea0bfd33b701d", func := "tussock/tussocklaw12.ProllyFinds", spec := "prollyFinds", unfollowed := true, recurses := true, named := ["tussock/hash.roundNumbers"], apart := false, laid := [("tussock/hash.roundNumbers", laid_tussock_hash_roundNumbers)] }
def ProllyFindsSaid : Prop := prollyFindsRow.holds Tryz.pinned (OpenSpec.ofChange prollyFindsSpec)

/-- ITS FALSE NEIGHBOUR: 'it returns false'. Refute it at one input. -/
def prollyFindsWrong : ChangeSpec := { name := "prollyFinds", fn := fun _ => fun
  | [d1, d2, d3] => { results := [.lit (.bool false)], args := [d1, d2, d3] }
  | _ => none }
def ProllyFindsWrongFalsely : Prop := prollyFindsRow.holds Tryz.pinned (OpenSpec.ofChange prollyFindsWrong)

/-- 'tussocklaw12.ProllyLists': WHATEVER THE INPUT: true; the input reads as it did. -/
def prollyListsSpec : ChangeSpec := { name := "prollyLists", fn := fun _ => fun
  | [d1, d2, d3, d4] => { results := [.lit (.bool true)], args := [d1, d2, d3, d4] }
  | _ => none }
def prollyListsRow : OpenClaim := { program := "ytimbleaafoiidaagreatdoor", sum := "b06a9bf6bef664a13728d3a3224e0b3e69749b98166b8340ac9ea0bfd33b701d", func := "tussock/tussocklaw12.ProllyLists", spec := "prollyLists", unfollowed := true, recurses := true, named := ["tussock/hash.roundNumbers"], apart := false, laid := [("tussock/hash.roundNumbers", laid_tussock_hash_roundNumbers)] }
def ProllyListsSaid : Prop := prollyListsRow.holds Tryz.pinned (OpenSpec.ofChange prollyListsSpec)

/-- ITS FALSE NEIGHBOUR: 'it returns false'. Refute it at one input. -/
def prollyListsWrong : ChangeSpec := { name := "prollyLists", fn := fun _ => fun
  | [d1, d2, d3, d4] => { results := [.lit (.bool false)], args := [d1, d2, d3, d4] }
  | _ => none }
def ProllyListsWrongFalsely : Prop := prollyListsRow.holds Tryz.pinned (OpenSpec.ofChange prollyListsWrong)

/-- 'tussocklaw12.ProllyEdits': WHATEVER THE INPUT: true; the input reads as it did. -/
def prollyEditsSpec : ChangeSpec := { name := "prollyEdits", fn := fun _ => fun
  | [d1, d2, d3] => { results := [.lit (.bool true)], args := [d1, d2, d3] }
  | _ => none }
def prollyEditsRow : OpenClaim := { program := "ytimbleaafoiidaagreatdoor", sum := "b06a9bf6bef664a13728d3a3224e0b3e69749b98166b8340ac9ea0bfd33b701d", func := "tussock/tussocklaw12.ProllyEdits", spec := "prollyEdits", unfollowed := true, recurses := true, named := ["tussock/hash.roundNumbers"], apart := false, laid := [("tussock/hash.roundNumbers", laid_tussock_hash_roundNumbers)] }
def ProllyEditsSaid : Prop := prollyEditsRow.holds Tryz.pinned (OpenSpec.ofChange prollyEditsSpec)

/-- ITS FALSE NEIGHBOUR: 'it returns false'. Refute it at one input. -/
def prollyEditsWrong : ChangeSpec := { name := "prollyEdits", fn := fun _ => fun
  | [d1, d2, d3] => { results := [.lit (.bool false)], args := [d1, d2, d3] }
  | _ => none }
def ProllyEditsWrongFalsely : Prop := prollyEditsRow.holds Tryz.pinned (OpenSpec.ofChange prollyEditsWrong)

/-- 'tussocklaw12.ProllyAll': WHATEVER THE INPUT: true; the input reads as it did. -/
def prollyAllSpec : ChangeSpec := { name := "prollyAll", fn := fun _ => fun
  | [d1, d2, d3, d4] => { results := [.lit (.bool true)], args := [d1, d2, d3, d4] }
  | _ => none }
def prollyAllRow : OpenClaim := { program := "ytimbleaafoiidaagreatdoor", sum := "b06a9bf6bef664a13728d3a3224e0b3e69749b98166b8340ac9ea0bfd33b701d", func := "tussock/tussocklaw12.ProllyAll", spec := "prollyAll", unfollowed := true, recurses := true, named := ["tussock/hash.roundNumbers"], apart := false, laid := [("tussock/hash.roundNumbers", laid_tussock_hash_roundNumbers)] }
def ProllyAllSaid : Prop := prollyAllRow.holds Tryz.pinned (OpenSpec.ofChange prollyAllSpec)

/-- ITS FALSE NEIGHBOUR: 'it returns false'. Refute it at one input. -/
def prollyAllWrong : ChangeSpec := { name := "prollyAll", fn := fun _ => fun
  | [d1, d2, d3, d4] => { results := [.lit (.bool false)], args := [d1, d2, d3, d4] }
  | _ => none }
def ProllyAllWrongFalsely : Prop := prollyAllRow.holds Tryz.pinned (OpenSpec.ofChange prollyAllWrong)

/- THE SECOND FORM. 'bulk': how many values and letters a reading holds, each counted each time it is reached (what is shared counts as often as it is met; a slice's spare places count too). A statement '..UptoSaid' is the law's where the arguments, and the package variables that the reading takes, are together of bulk at most 1048576: NARROWER than '..Said'. Prove '..Said' where nothing that the law and all that it calls make is longer than what came in: it says more and counts as full. Else prove '..UptoSaid'. A law counts once. -/
mutual
def uptoBulk {H : Type} : DataW H → Nat
  | .lit (.string bytes) => bytes.length + 1
  | .lit _ => 1
  | .nil => 1
  | .ptr d => uptoBulk d + 1
  | .slice elems spare => uptoBulkAll elems + uptoBulkAll spare + 1
  | .agg parts => uptoBulkAll parts + 1
  | .iface _ d => uptoBulk d + 1
  | .map entries => uptoBulkEntries entries + 1
  | .held _ => 1
def uptoBulkAll {H : Type} : List (DataW H) → Nat
  | [] => 0
  | d :: r => uptoBulk d + uptoBulkAll r
def uptoBulkEntries {H : Type} : List (Lit × DataW H) → Nat
  | [] => 0
  | x :: r => uptoBulkEntry x + uptoBulkEntries r
def uptoBulkEntry {H : Type} : Lit × DataW H → Nat
  | (.string bytes, d) => bytes.length + uptoBulk d + 1
  | (_, d) => uptoBulk d + 1
 end
def uptoSmall : (H : Type) → List (DataW H) → Bool := fun _ ds => decide (uptoBulkAll ds ≤ 1048576)
def OpenSpec.upto (s : _root_.Go.ChangeSpec) : _root_.Go.OpenSpec := { _root_.Go.OpenSpec.ofChange s with cond := some uptoSmall }

/-- 'tussocklaw12.ProllyBuilds', WHERE WHAT IT READS IS OF BULK AT MOST 1048576: true; the input reads as it did. -/
def prollyBuildsUptoRow : OpenClaim := { program := "ytimbleaafoiidaagreatdoor", sum := "b06a9bf6bef664a13728d3a3224e0b3e69749b98166b8340ac9ea0bfd33b701d", func := "tussock/tussocklaw12.ProllyBuilds", spec := "prollyBuilds", unfollowed := true, recurses := true, named := ["tussock/hash.roundNumbers"], apart := false, laid := [("tussock/hash.roundNumbers", laid_tussock_hash_roundNumbers)], narrowed := true }
def ProllyBuildsUptoSaid : Prop := prollyBuildsUptoRow.holds Tryz.pinned (OpenSpec.upto prollyBuildsSpec)

/-- 'tussocklaw12.ProllyFinds', WHERE WHAT IT READS IS OF BULK AT MOST 1048576: true; the input reads as it did. -/
def prollyFindsUptoRow : OpenClaim := { program := "ytimbleaafoiidaagreatdoor", sum := "b06a9bf6bef664a13728d3a3224e0b3e69749b98166b8340ac9ea0bfd33b701d", func := "tussock/tussocklaw12.ProllyFinds", spec := "prollyFinds", unfollowed := true, recurses := true, named := ["tussock/hash.roundNumbers"], apart := false, laid := [("tussock/hash.roundNumbers", laid_tussock_hash_roundNumbers)], narrowed := true }
def ProllyFindsUptoSaid : Prop := prollyFindsUptoRow.holds Tryz.pinned (OpenSpec.upto prollyFindsSpec)

/-- 'tussocklaw12.ProllyLists', WHERE WHAT IT READS IS OF BULK AT MOST 1048576: true; the input reads as it did. -/
def prollyListsUptoRow : OpenClaim := { program := "ytimbleaafoiidaagreatdoor", sum := "b06a9bf6bef664a13728d3a3224e0b3e69749b98166b8340ac9ea0bfd33b701d", func := "tussock/tussocklaw12.ProllyLists", spec := "prollyLists", unfollowed := true, recurses := true, named := ["tussock/hash.roundNumbers"], apart := false, laid := [("tussock/hash.roundNumbers", laid_tussock_hash_roundNumbers)], narrowed := true }
def ProllyListsUptoSaid : Prop := prollyListsUptoRow.holds Tryz.pinned (OpenSpec.upto prollyListsSpec)

/-- 'tussocklaw12.ProllyEdits', WHERE WHAT IT READS IS OF BULK AT MOST 1048576: true; the input reads as it did. -/
def prollyEditsUptoRow : OpenClaim := { program := "ytimbleaafoiidaagreatdoor", sum := "b06a9bf6bef664a13728d3a3224e0b3e69749b98166b8340ac9ea0bfd33b701d", func := "tussock/tussocklaw12.ProllyEdits", spec := "prollyEdits", unfollowed := true, recurses := true, named := ["tussock/hash.roundNumbers"], apart := false, laid := [("tussock/hash.roundNumbers", laid_tussock_hash_roundNumbers)], narrowed := true }
def ProllyEditsUptoSaid : Prop := prollyEditsUptoRow.holds Tryz.pinned (OpenSpec.upto prollyEditsSpec)

/-- 'tussocklaw12.ProllyAll', WHERE WHAT IT READS IS OF BULK AT MOST 1048576: true; the input reads as it did. -/
def prollyAllUptoRow : OpenClaim := { program := "ytimbleaafoiidaagreatdoor", sum := "b06a9bf6bef664a13728d3a3224e0b3e69749b98166b8340ac9ea0bfd33b701d", func := "tussock/tussocklaw12.ProllyAll", spec := "prollyAll", unfollowed := true, recurses := true, named := ["tussock/hash.roundNumbers"], apart := false, laid := [("tussock/hash.roundNumbers", laid_tussock_hash_roundNumbers)], narrowed := true }
def ProllyAllUptoSaid : Prop := prollyAllUptoRow.holds Tryz.pinned (OpenSpec.upto prollyAllSpec)

end Rows
end Go.Proofs.YtimbleaafoiidaaGreatDoor
