/-
  The reference goes to the pairs of a node. Conditions: its list lies there; not too many.
-/
import Derived.Test.YtldfjpgcemfpjaaS21PRMany
import Derived.Deep.CutBlock
import Derived.Deep.CutRange
namespace Go.Proofs.Ytldfjpgcemfpjaa
open Go.RowKit

end Go.Proofs.Ytldfjpgcemfpjaa
