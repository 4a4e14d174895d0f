/-
  A commit, made and read by the reference. Conditions: lengths within reach; what is made has at most a million bytes.
-/
import Derived.Test.YtdbmngbinhemeabGreatDoorRORCommit
import Derived.Deep.CutBlock
import Derived.Deep.CutRange
import Derived.Test.YtdbmngbinhemeabGreatDoorRQ5
namespace Go.Proofs.YtdbmngbinhemeabGreatDoor
open Go.RowKit

theorem flatId_le (xs : List Bs) (h : ∀ p ∈ xs, isIdB p = true) : (xs.flatMap idB).length ≤ 32 * xs.length := by
  induction xs with
  | nil => simp
  | cons y ys ih =>
    have h1 := ih (fun p hp => h p (by simp [hp]))
    have h2 := h y (by simp)
    unfold isIdB at h2
    have h2 := of_decide_eq_true h2
    rw [List.flatMap_cons, List.length_append, List.length_cons]
    unfold idB at h1 ⊢
    omega
theorem commitOk_ids {c : Commit} (h : commitOk c = true) : c.2.1.length ≤ 8 ∧ ∀ p ∈ c.2.1, isIdB p = true := by
  simp only [commitOk, Bool.and_eq_true, decide_eq_true_eq, List.all_eq_true] at h
  obtain ⟨⟨⟨⟨⟨⟨_, h2⟩, h3⟩, _⟩, _⟩, _⟩, _⟩ := h
  exact ⟨h2, h3⟩
end Go.Proofs.YtdbmngbinhemeabGreatDoor
