/-
  A disk and the reference's, both one plain disk, apart from one another. No condition.
-/
import Derived.Test.YtlejgdjkdbamkaaAlike
import Derived.Test.YtlejgdjkdbamkaaPlayed
namespace Go.Proofs.Ytlejgdjkdbamkaa
open Go.RowKit
section
variable {B d r : Nat} {w w1 : World} {F R : Nat → Prop} {S S' T : Dk} {G : Rg} {ks : List Int}
/-- Behind a call of the reference the disk stands as it did. -/
theorem two_ref (hs : Stands B w F d T) (ap : ∀ k, F k → ¬ R k) (h : RDone B w R r S' ks w1) : ∃ G' R', RR B w1 R' r S' G' ∧ G'.ks = ks ∧ Stands B w1 F d T ∧ (∀ k, F k → ¬ R' k) ∧ (∀ k, R' k → R k ∨ w.heap.size ≤ k) ∧ Chg R w w1 := by
  obtain ⟨G', R', hr, hk, hR, hc⟩ := h
  refine ⟨G', R', hr, hk, hs.keep hc ap, fun k hf hk => ?_, hR, hc⟩
  rcases hR k hk with h | h
  · exact ap k hf h
  · have := (hs.2.1 k hf).2
    omega
/-- Behind a call of the disk the reference's lies as it did. -/
theorem two_disk (hr : RR B w R r T G) (ap : ∀ k, F k → ¬ R k) (h : After B w F d S' w1) : ∃ F', Stands B w1 F' d S' ∧ RR B w1 R r T G ∧ (∀ k, F' k → ¬ R k) ∧ (∀ k, F' k → F k ∨ w.heap.size ≤ k) ∧ Chg F w w1 := by
  obtain ⟨F', hs, hF, hc⟩ := h
  refine ⟨F', hs, hr.keep hc (fun k hk hf => ap k hf hk), fun k hf hk => ?_, hF, hc⟩
  rcases hF k hf with h | h
  · exact ap k h hk
  · have := (hr.low k hk).2
    omega
/-- Both are S; the reference's failing operations are at most m. -/
def Two (B : Nat) (w : World) (d r : Nat) (S : Dk) (m : Nat) : Prop := ∃ F R G, Stands B w F d S ∧ RR B w R r S G ∧ G.ks.length ≤ m ∧ ∀ k, F k → ¬ R k
theorem Chg.belowOf (h : Chg F w w1) (hF : ∀ k, F k → B ≤ k) (hB : B ≤ w.heap.size) : Below B w w1 := h.below hF hB
end
end Go.Proofs.Ytlejgdjkdbamkaa
