/-
  The links and objects of the next level of a map, by the reference. Conditions: the links lie there, and are right.
-/
import Derived.Test.YtimbleaafoiidaaGreatDoorL32PREnds
namespace Go.Proofs.YtimbleaafoiidaaGreatDoor
open Go.RowKit

/-- What has been gathered: whole groups, the one under way, the rest. -/
structure Gat {α : Type} (e : Nat → α → Bool) (ks : List α) (done : List (List α)) (cur rest : List α) : Prop where
  all : ks = done.flatten ++ (cur ++ rest)
  grp : gath e [] ks = done ++ gath e cur rest
  fin : rest = [] → cur = []
  small : cur.length < 64
theorem Gat.start {α : Type} (e : Nat → α → Bool) (ks : List α) : Gat e ks [] [] ks := ⟨rfl, rfl, fun _ => rfl, by simp⟩
theorem Gat.next {α : Type} {e : Nat → α → Bool} {ks : List α} {done : List (List α)} {cur r : List α} {x : α} (h : Gat e ks done cur (x :: r)) (h64 : ∀ y, e 64 y = true) (he : ¬ (e (cur.length + 1) x = true ∨ r = [])) : Gat e ks done (cur ++ [x]) r := by
  have h1 : ¬ e (cur.length + 1) x = true := fun q => he (.inl q)
  refine ⟨by rw [h.all]; simp, by rw [h.grp, gath, if_neg h1], fun q => absurd (.inr q) he, ?_⟩
  have : cur.length + 1 ≠ 64 := fun q => h1 (by rw [q]; exact h64 x)
  have := h.small
  simp
  omega
theorem Gat.stop {α : Type} {e : Nat → α → Bool} {ks : List α} {done : List (List α)} {cur : List α} (h : Gat e ks done cur []) : gath e [] ks = done := by
  rw [h.grp, h.fin rfl, gath]
  simp
theorem Gat.rest {α : Type} {e : Nat → α → Bool} {ks : List α} {done : List (List α)} {cur rest : List α} (h : Gat e ks done cur rest) {i : Nat} (hi : i = done.flatten.length + cur.length) : rest = ks.drop i := by
  have : ks = (done.flatten ++ cur) ++ rest := by rw [h.all]; simp
  rw [this, hi, ← List.length_append, List.drop_left]
theorem Gat.few {α : Type} {e : Nat → α → Bool} {ks : List α} {done : List (List α)} {cur rest : List α} (h : Gat e ks done cur rest) : done.length ≤ ks.length := by
  have h1 := gath_le e ks []
  rw [h.grp, List.length_append] at h1
  simp at h1
  omega
/-- The branch g under way: its kids; the links, the objects that stand. -/
structure AbL (B : Nat) (w : World) (g : Nat) (level : Int) (vk : Value) (cur : List Link) (vp : Value) (ks : List Link) (vo : Value) (os : List Pair) : Prop where
  le : B ≤ g
  cell : w.heap[g]? = some (.cells #[.int .i64 level, vk] 81)
  kids : Rw B w 66 3 linkC vk cur
  links : Rw B w 66 3 linkC vp ks
  objs : Rw B w 69 2 pairC vo os
  ne : vk.ownBlock = none ∨ vk.ownBlock ≠ vp.ownBlock
theorem AbL.below {B : Nat} {w w' : World} {g : Nat} {level : Int} {vk : Value} {cur : List Link} {vp : Value} {ks : List Link} {vo : Value} {os : List Pair} (h : AbL B w g level vk cur vp ks vo os) (hb : Below w.heap.size w w') : AbL B w' g level vk cur vp ks vo os :=
  ⟨h.le, (hb.block _ (lt_of_heap h.cell)).trans h.cell, own_below h.kids hb, own_below h.links hb, own_below h.objs hb, h.ne⟩
end Go.Proofs.YtimbleaafoiidaaGreatDoor
