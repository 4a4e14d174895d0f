/-
  Names: all names of a disk, rising. Conditions: the disk lies there; its names are of a text's length.
-/
import Derived.Test.YtblniomnhpedjaaGreatDoorL15Asks
import Derived.Test.YtblniomnhpedjaaGreatDoorL27Iter
namespace Go.Proofs.YtblniomnhpedjaaGreatDoor
open Go.RowKit Go.Maps
open Go.WideElems (rd rg rg_of)
variable {B : Nat} {w : World} {F : Nat→Prop} {d : Nat} {S : Dk} {G : Gh}
end Go.Proofs.YtblniomnhpedjaaGreatDoor
