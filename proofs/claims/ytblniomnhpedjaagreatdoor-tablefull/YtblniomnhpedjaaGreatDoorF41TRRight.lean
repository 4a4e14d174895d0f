/-
  The reference's Right. Conditions: the puts lie there.
-/
import Derived.Test.YtblniomnhpedjaaGreatDoorF34TLog
namespace Go.Proofs.YtblniomnhpedjaaGreatDoor
open Go.RowKit
end Go.Proofs.YtblniomnhpedjaaGreatDoor
