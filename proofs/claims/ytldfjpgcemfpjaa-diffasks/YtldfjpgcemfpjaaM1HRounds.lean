/-
  What the sixty-four rounds answer. Condition: the table holds its numbers.
-/
import Derived.Test.YtldfjpgcemfpjaaM0WPlain
namespace Go.Proofs.Ytldfjpgcemfpjaa
open Go.RowKit

end Go.Proofs.Ytldfjpgcemfpjaa
