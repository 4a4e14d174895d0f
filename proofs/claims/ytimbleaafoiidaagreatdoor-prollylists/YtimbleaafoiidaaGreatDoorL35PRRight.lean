/-
  Which pairs a map may have, by the reference. Condition: they lie there.
-/
import Derived.Test.YtimbleaafoiidaaGreatDoorL34PRLeaves
namespace Go.Proofs.YtimbleaafoiidaaGreatDoor
open Go.RowKit

theorem rise_snoc : ∀ (l : List Bs) (a b : Bs), rise ltB (l ++ [a, b]) = (rise ltB (l ++ [a]) && ltB a b)
  | [], a, b => by simp [rise]
  | [c], a, b => by simp [rise]
  | c :: d :: l, a, b => by
    have := rise_snoc (d :: l) a b
    simp only [List.cons_append, rise] at this ⊢
    rw [this, Bool.and_assoc]
/-- Is a pair right behind the one ahead of it? -/
def nextOk (l : List Pair) (i : Nat) (x : Pair) : Bool := pairOk x && (decide (i = 0) || ltB ((l[i - 1]?.map (·.1)).getD []) x.1)
theorem pairsOk_step (l : List Pair) (i : Nat) (h : i < l.length) : pairsOk (l.take (i + 1)) = (pairsOk (l.take i) && nextOk l i l[i]) := by
  unfold pairsOk nextOk
  rw [List.take_succ_eq_append_getElem h, List.all_append, List.map_append]
  cases i with
  | zero => simp [rise]
  | succ k =>
    have hk : k < l.length := by omega
    rw [List.take_succ_eq_append_getElem hk, List.map_append, List.append_assoc]
    have := rise_snoc ((l.take k).map (·.1)) l[k].1 l[k + 1].1
    simp only [List.map_cons, List.map_nil, List.singleton_append, List.all_cons, List.all_nil, Bool.and_true, Nat.add_sub_cancel, List.getElem?_eq_getElem hk, Option.map_some, Option.getD_some, Nat.add_eq_zero_iff, Nat.one_ne_zero, and_false, decide_false, Bool.false_or] at this ⊢
    rw [this]
    simp only [Bool.and_assoc, Bool.and_left_comm]
theorem pairsOk_take {l : List Pair} (h : pairsOk l = true) (k : Nat) : pairsOk (l.take k) = true := by
  unfold pairsOk at h ⊢
  simp only [Bool.and_eq_true, List.all_eq_true] at h ⊢
  exact ⟨fun p hp => h.1 p (List.mem_of_mem_take hp), (rise_iff _).2 (((rise_iff _).1 h.2).sublist ((List.take_sublist k l).map _))⟩
theorem nextOk_no {l : List Pair} {i : Nat} {x : Pair} (h : pairOk x = false) : nextOk l i x = false := by unfold nextOk; rw [h]; rfl
end Go.Proofs.YtimbleaafoiidaaGreatDoor
