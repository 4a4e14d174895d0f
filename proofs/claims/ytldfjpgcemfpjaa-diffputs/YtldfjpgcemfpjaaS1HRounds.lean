/-
  What the sixty-four rounds answer. Condition: the table holds its numbers.
-/
import Derived.Test.YtldfjpgcemfpjaaS0WPlain
namespace Go.Proofs.Ytldfjpgcemfpjaa
open Go.RowKit

end Go.Proofs.Ytldfjpgcemfpjaa
