/-
  A map built by the reference. Condition: the pairs lie there.
-/
import Derived.Test.YtimbleaafoiidaaGreatDoorL35PRRight
import Derived.Test.YtimbleaafoiidaaGreatDoorL43PRList
namespace Go.Proofs.YtimbleaafoiidaaGreatDoor
open Go.RowKit

theorem buildM_many {l : List Pair} (h : 4096 < l.length) : buildM l = ([], [], 121) := if_pos h
theorem buildM_form {l : List Pair} (h : ¬ 4096 < l.length) (h2 : pairsOk l = false) : buildM l = ([], [], 120) := by unfold buildM; rw [if_neg h, if_pos h2]
theorem buildM_nil : buildM [] = ((leafO []).1, [leafO []], 0) := by unfold buildM; rw [if_neg (by simp), if_neg (by decide), if_pos (show ([] : List Pair).length = 0 from rfl)]
theorem buildM_some {l : List Pair} (h : ¬ 4096 < l.length) (h2 : pairsOk l = true) (h3 : l.length ≠ 0) : buildM l = ((mapR l).1.2.1, keptP [] (mapR l).2, 0) := by unfold buildM; rw [if_neg h, if_neg (by rw [h2]; simp), if_neg h3]
end Go.Proofs.YtimbleaafoiidaaGreatDoor
