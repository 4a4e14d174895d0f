/-
  What the reference's Sum answers. Condition: at most 1048576 bytes.
-/
import Derived.Test.YtimbleaafoiidaaGreatDoorL4HAdd
namespace Go.Proofs.YtimbleaafoiidaaGreatDoor
open Go.RowKit

/-- Only the block g has changed since w0, and it holds these numbers. -/
def RR (w0 : World) (g : Nat) (L : List UInt32) (wr : World) : Prop := w0.grownBy wr (some g) ∧ wr.heap[g]? = some (.cells (uc L) 168)
theorem grown_trans {a b c : World} {g : Nat} (h : a.grownBy b (some g)) (k : b.grownBy c (some g)) : a.grownBy c (some g) :=
  ⟨k.os.trans h.os, k.tape.trans h.tape, k.output.trans h.output, Nat.le_trans h.size k.size, fun i hi hg => (k.block i (Nat.lt_of_lt_of_le hi h.size) hg).trans (h.block i hi hg)⟩
theorem RR.keep {w0 wr : World} {g k : Nat} {L : List UInt32} {o : Obj} (h : RR w0 g L wr) (hk : w0.heap[k]? = some o) (hne : k ≠ g) : wr.heap[k]? = some o :=
  (h.1.block k (lt_of_heap hk) (by intro e; injection e with e; exact hne e)).trans hk
theorem RR.cell {w0 wr : World} {g : Nat} {L : List UInt32} (h : RR w0 g L wr) (j : Nat) (hj : j < L.length) : wr.cell? ⟨g, j, none⟩ = some (.int .u32 (u (L.getD j 0))) := by
  rw [cell_of_row _ _ _ _ _ _ h.2, uc_get _ _ hj]
theorem RR.free {w0 wr : World} {g : Nat} {L : List UInt32} (h : RR w0 g L wr) (j : Nat) : wr.frozen? ⟨g, j, none⟩ = false := by simp [World.frozen?, h.2]
theorem RR.drewN {w0 wr : World} {g : Nat} {L : List UInt32} (h : RR w0 g L wr) (n : Nat) : RR w0 g L (wr.drewN n) := by
  obtain ⟨⟨a, b, c, d, e⟩, f⟩ := h
  exact ⟨⟨a, b, c, d, e⟩, f⟩
theorem RR.drew {w0 wr : World} {g : Nat} {L : List UInt32} (h : RR w0 g L wr) : RR w0 g L wr.drew := by
  obtain ⟨⟨a, b, c, d, e⟩, f⟩ := h
  exact ⟨⟨a, b, c, d, e⟩, f⟩
theorem RR.whole {w0 wr w' : World} {g : Nat} {L M : List UInt32} (h : RR w0 g L wr) (h2 : w'.heap[g]? = some (.cells (uc M) 168)) (hg : wr.grownBy w' (some g)) : RR w0 g M w' := ⟨grown_trans h.1 hg, h2⟩
theorem RR.set {w0 wr : World} {g : Nat} {L : List UInt32} (h : RR w0 g L wr) (j : Nat) (x : UInt32) : RR w0 g (L.set j x) (wr.setCell ⟨g, j, none⟩ (.int .u32 (u x))) := by
  refine ⟨grown_trans h.1 ⟨rfl, rfl, rfl, by simp [World.setCell], fun k _ hk => Below.heap_setCell _ _ _ _ (fun e => hk (by simp [e]))⟩, ?_⟩
  rw [heap_setCell _ _ _ _ _ _ _ h.2, uc_set1]

end Go.Proofs.YtimbleaafoiidaaGreatDoor
