/-
  What stands behind a link, by the reference. Conditions: the objects lie there; texts within reach.
-/
import Derived.Test.YtldfjpgcemfpjaaS17PPlain
import Derived.Test.YtldfjpgcemfpjaaS19PRow
namespace Go.Proofs.Ytldfjpgcemfpjaa
open Go.RowKit

theorem heap_set3a {w : World} {g : Nat} {v0 v1 v2 u0 : Value} {t : TypeId} (h : w.heap[g]? = some (.cells #[v0, v1, v2] t)) : (w.setCell ⟨g, 0, none⟩ u0).heap[g]? = some (.cells #[u0, v1, v2] t) := by
  rw [heap_setCell _ _ _ _ _ _ _ h]
  simp
theorem lastP_get {l : List Pair} (h : 1 ≤ l.length) : lastP l = (l[l.length - 1]'(by omega)).1 := by
  unfold lastP
  rw [List.getLast?_eq_getElem?, List.getElem?_eq_getElem (by omega)]
  rfl
theorem manyL_step (xs : List Link) (k : Nat) (h : k < xs.length) : manyL (xs.take (k + 1)) = manyL (xs.take k) + xs[k].2.2 := by
  rw [List.take_succ_eq_append_getElem h, manyL_append]
  simp [manyL]
theorem manyL_within {xs : List Link} (h : ∀ p ∈ xs, rlinkOk p = true) (hs : manyL xs ≤ 4096) (k : Nat) : 0 ≤ manyL (xs.take k) ∧ manyL (xs.take k) ≤ 4096 := by
  have h1 := manyL_many (xs.take k) (fun p hp => h p (List.mem_of_mem_take hp))
  have h2 := manyL_many (xs.drop k) (fun p hp => h p (List.mem_of_mem_drop hp))
  have h3 : manyL xs = manyL (xs.take k) + manyL (xs.drop k) := by rw [← manyL_append, List.take_append_drop]
  omega
theorem branch_sum {f : Branch} (h : branchOk ltB f = true) : manyL f.2 ≤ 4096 := by
  have h2 := branch_level h
  have h3 := branchOk_links h
  rw [branchOk_alike f (by simp only [levelB, decide_eq_true_eq]; exact ⟨h2.1, h2.2.1⟩) h2.2.2 h3.1] at h
  simp only [Bool.and_eq_true, decide_eq_true_eq] at h
  exact h.2
end Go.Proofs.Ytldfjpgcemfpjaa
