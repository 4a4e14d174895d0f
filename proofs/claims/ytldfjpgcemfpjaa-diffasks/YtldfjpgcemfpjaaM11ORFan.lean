/-
  A fan, looked at by the reference. Conditions: its parts lie there.
-/
import Derived.Test.YtldfjpgcemfpjaaM10OEntry2
namespace Go.Proofs.Ytldfjpgcemfpjaa
open Go.RowKit

theorem sum_ge {xs : List Int} (h : ∀ x ∈ xs, 1 ≤ x) : ∀ x ∈ xs, x ≤ xs.sum := by
  induction xs with
  | nil => intro x hx; simp at hx
  | cons y ys ih =>
    have h1 := ih (fun x hx => h x (by simp [hx]))
    have hy := h y (by simp)
    have h0 : ∀ zs : List Int, (∀ x ∈ zs, 1 ≤ x) → 0 ≤ zs.sum := by
      intro zs
      induction zs with
      | nil => intro _; simp
      | cons z zs ih2 => intro g; have g1 := ih2 (fun x hx => g x (by simp [hx])); have g2 := g z (by simp); simp; omega
    have h2 := h0 ys (fun x hx => h x (by simp [hx]))
    intro x hx
    rw [List.sum_cons]
    rcases List.mem_cons.1 hx with rfl | hx
    · omega
    · have := h1 x hx; omega
theorem within_alike (xs : List Int) (m : Int) (hm : 0 ≤ m) : within xs m = (xs.all (fun n => decide (1 ≤ n) && decide (n ≤ m)) && decide (xs.sum ≤ m)) := by
  rw [Bool.eq_iff_iff, within_iff xs m hm]
  simp only [Bool.and_eq_true, List.all_eq_true, decide_eq_true_eq]
  constructor
  · rintro ⟨h1, h2⟩
    exact ⟨fun x hx => ⟨h1 x hx, by have := sum_ge h1 x hx; omega⟩, h2⟩
  · rintro ⟨h1, h2⟩
    exact ⟨fun x hx => (h1 x hx).1, h2⟩
end Go.Proofs.Ytldfjpgcemfpjaa
