/-
  What the document's own Parse answers, in one word. Conditions: lengths within reach.
-/
import Derived.Test.YtkihldkaiddbkabSame
import Derived.Test.YtkihldkaiddbkabRefParse
import Derived.OneCell
namespace Go.Proofs.Ytkihldkaiddbkab
open Go.RowKit

/-- What Parse answers: the parts, and the error. -/
def ans (l : List UInt8) : List (List UInt8) := if Pt.path l = true then Pt.parts l else []
def err (l : List UInt8) : Int := if Pt.path l = true then 0 else 40
theorem ans_length (l : List UInt8) : (ans l).length ≤ 16 := by
  unfold ans
  split
  · next h => exact Pt.few_len h
  · simp
theorem own_keep {w w' : World} {base : Nat} {e : TypeId} {s : Nat} {v : Value} {n : Nat} {xs : List Value} (h : w.ownsRow base e s v n xs) (hb : Below w.heap.size w w') : w'.ownsRow base e s v n xs := by
  obtain ⟨h1, h2⟩ := h
  refine ⟨h1, ?_⟩
  rcases h2 with h | ⟨g, cap, cur, hv, hg, hh, hr⟩
  · exact .inl h
  · exact .inr ⟨g, cap, cur, hv, hg, (hb.block g (Array.getElem?_eq_some_iff.1 hh).1).trans hh, hr⟩
end Go.Proofs.Ytkihldkaiddbkab
