/-
  What the reference's done makes of pairs, plainly: the put done. No program.
-/
import Derived.Test.YtblniomnhpedjaaGreatDoorF1Chg
namespace Go.Proofs.YtblniomnhpedjaaGreatDoor
end Go.Proofs.YtblniomnhpedjaaGreatDoor
