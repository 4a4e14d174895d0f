/-
  A map's leaves, by the reference. Conditions: the pairs lie there, and are right.
-/
import Derived.Test.YtimbleaafoiidaaGreatDoorL33PRAbove
namespace Go.Proofs.YtimbleaafoiidaaGreatDoor
open Go.RowKit

end Go.Proofs.YtimbleaafoiidaaGreatDoor
