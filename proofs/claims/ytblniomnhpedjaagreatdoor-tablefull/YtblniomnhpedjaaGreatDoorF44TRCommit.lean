/-
  The reference's Commit, Get, All. Conditions: the pairs and the puts lie there; the pairs rise.
-/
import Derived.Test.YtblniomnhpedjaaGreatDoorF43TRDone
namespace Go.Proofs.YtblniomnhpedjaaGreatDoor
open Go.RowKit
end Go.Proofs.YtblniomnhpedjaaGreatDoor
