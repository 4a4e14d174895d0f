/-
  A key found by the reference. Conditions: the objects lie there; texts within reach.
-/
import Derived.Test.YtimbleaafoiidaaGreatDoorE35PFind
namespace Go.Proofs.YtimbleaafoiidaaGreatDoor
open Go.RowKit

end Go.Proofs.YtimbleaafoiidaaGreatDoor
