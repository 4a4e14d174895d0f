/-
  The law's puts: at most twelve, cut short, and again with other keys. Conditions: the puts lie there, lengths within reach.
-/
import Derived.Test.YtblniomnhpedjaaGreatDoorF34TLog
import Derived.Test.YtblniomnhpedjaaGreatDoorF36TNames
import Derived.Deep.CutBlock
import Derived.Deep.CutRange
import Derived.Deep.LoopGhost
namespace Go.Proofs.YtblniomnhpedjaaGreatDoor
open Go.RowKit
end Go.Proofs.YtblniomnhpedjaaGreatDoor
