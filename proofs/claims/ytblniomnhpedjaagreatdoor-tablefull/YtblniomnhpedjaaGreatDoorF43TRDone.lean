/-
  The reference's done. Conditions: the pairs lie there, and rise.
-/
import Derived.Test.YtblniomnhpedjaaGreatDoorF41TRRight
import Derived.Test.YtblniomnhpedjaaGreatDoorF42TRDoneP
import Derived.Deep.CutBlock
import Derived.Deep.CutRange
import Derived.Deep.LoopGhost
namespace Go.Proofs.YtblniomnhpedjaaGreatDoor
open Go.RowKit
end Go.Proofs.YtblniomnhpedjaaGreatDoor
