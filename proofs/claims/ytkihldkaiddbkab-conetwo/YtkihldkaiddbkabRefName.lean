/-
  What the document's own IsName answers. Conditions: none.
-/
import Derived.Test.YtkihldkaiddbkabPath
namespace Go.Proofs.Ytkihldkaiddbkab
open Go.RowKit

theorem name_false {l : List UInt8} {k : Nat} (hk : k < l.length) (h : l[k] = 47 ∨ l[k] = 0) : Pt.name l = false := by
  have hm := List.getElem_mem hk
  unfold Pt.name
  refine decide_eq_false ?_
  rintro ⟨_, _, _, _, h1, h2⟩
  rcases h with h | h
  · exact h1 (h ▸ hm)
  · exact h2 (h ▸ hm)
theorem name_true {l : List UInt8} (h1 : 1 ≤ l.length) (h2 : l.length ≤ 64) (h3 : l ≠ [46]) (h4 : l ≠ [46, 46]) (h : ∀ j (hj : j < l.length), l[j] ≠ 47 ∧ l[j] ≠ 0) : Pt.name l = true := by
  unfold Pt.name
  refine decide_eq_true ⟨h1, h2, h3, h4, fun hm => ?_, fun hm => ?_⟩
  · obtain ⟨j, hj, e⟩ := List.getElem_of_mem hm
    exact (h j hj).1 e
  · obtain ⟨j, hj, e⟩ := List.getElem_of_mem hm
    exact (h j hj).2 e
end Go.Proofs.Ytkihldkaiddbkab
