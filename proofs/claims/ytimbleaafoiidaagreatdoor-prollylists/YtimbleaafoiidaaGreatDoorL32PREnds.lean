/-
  Where a group ends, which pairs are right, by the reference. Conditions: a key's length; the pairs lie there.
-/
import Derived.Test.YtimbleaafoiidaaGreatDoorL23PRow
namespace Go.Proofs.YtimbleaafoiidaaGreatDoor
open Go.RowKit

end Go.Proofs.YtimbleaafoiidaaGreatDoor
