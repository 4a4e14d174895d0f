/-
  Puts that came in, out of their reading. No condition.
-/
import Derived.Test.YtblniomnhpedjaaGreatDoorF49Door
import Derived.Test.YtblniomnhpedjaaGreatDoorF34TLog
namespace Go.Proofs.YtblniomnhpedjaaGreatDoor
open Go.ChangeShapes Go.WideShapes Go.ChangeAt Go.RowKit
end Go.Proofs.YtblniomnhpedjaaGreatDoor
