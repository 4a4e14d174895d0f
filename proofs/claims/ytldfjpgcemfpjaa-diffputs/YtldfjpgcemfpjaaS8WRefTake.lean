/-
  What the document's answer says of any bytes at any place (the reference's TakeInt): just what taking a number says. Conditions: a slice of bytes; a place that is an int.
-/
import Derived.Test.YtldfjpgcemfpjaaS7WRef
import Derived.Test.YtldfjpgcemfpjaaS2HSpread
namespace Go.Proofs.Ytldfjpgcemfpjaa
open Go.RowKit

theorem run_strV {w : World} {v : Value} {l : List UInt8} (h : Sl w v l) : ∀ W, Below w.heap.size w W → (convert 93 9 v).run Try.prog W = .ok (.string (strB l)) W :=
  fun W hW => run_str W v l (h.keep hW)

end Go.Proofs.Ytldfjpgcemfpjaa
