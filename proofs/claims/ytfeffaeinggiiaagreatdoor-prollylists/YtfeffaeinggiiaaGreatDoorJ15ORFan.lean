/-
  A fan, looked at by the reference. Conditions: its parts lie there.
-/
import Derived.Test.YtfeffaeinggiiaaGreatDoorJ14OEntry2
namespace Go.Proofs.YtfeffaeinggiiaaGreatDoor
open Go.RowKit

/-- A part, as the reference looks at it. -/
def rpartOk (p : Part) : Bool := isIdB p.1 && decide (1 ≤ p.2) && decide (p.2 ≤ 262144)
theorem sum_ge {xs : List Int} (h : ∀ x ∈ xs, 1 ≤ x) : ∀ x ∈ xs, x ≤ xs.sum := by
  induction xs with
  | nil => intro x hx; simp at hx
  | cons y ys ih =>
    have h1 := ih (fun x hx => h x (by simp [hx]))
    have hy := h y (by simp)
    have h0 : ∀ zs : List Int, (∀ x ∈ zs, 1 ≤ x) → 0 ≤ zs.sum := by
      intro zs
      induction zs with
      | nil => intro _; simp
      | cons z zs ih2 => intro g; have g1 := ih2 (fun x hx => g x (by simp [hx])); have g2 := g z (by simp); simp; omega
    have h2 := h0 ys (fun x hx => h x (by simp [hx]))
    intro x hx
    rw [List.sum_cons]
    rcases List.mem_cons.1 hx with rfl | hx
    · omega
    · have := h1 x hx; omega
theorem within_alike (xs : List Int) (m : Int) (hm : 0 ≤ m) : within xs m = (xs.all (fun n => decide (1 ≤ n) && decide (n ≤ m)) && decide (xs.sum ≤ m)) := by
  rw [Bool.eq_iff_iff, within_iff xs m hm]
  simp only [Bool.and_eq_true, List.all_eq_true, decide_eq_true_eq]
  constructor
  · rintro ⟨h1, h2⟩
    exact ⟨fun x hx => ⟨h1 x hx, by have := sum_ge h1 x hx; omega⟩, h2⟩
  · rintro ⟨h1, h2⟩
    exact ⟨fun x hx => (h1 x hx).1, h2⟩
theorem fanOk_alike (f : Fan) (h : levelB f.1 = true) (h1 : 1 ≤ f.2.length) (h2 : f.2.length ≤ 32) : fanOk f = (f.2.all rpartOk && decide ((f.2.map (·.2)).sum ≤ 262144)) := by
  unfold fanOk
  rw [within_alike _ _ (by omega), h, decide_eq_true (show 1 ≤ f.2.length ∧ f.2.length ≤ 32 from ⟨h1, h2⟩)]
  rw [Bool.eq_iff_iff]
  simp only [rpartOk, Bool.and_eq_true, List.all_eq_true, decide_eq_true_eq, List.mem_map, forall_exists_index, and_imp]
  constructor
  · rintro ⟨⟨_, g1⟩, g2, g3⟩
    exact ⟨fun x hx => ⟨⟨g1 x hx, (g2 _ x hx rfl).1⟩, (g2 _ x hx rfl).2⟩, g3⟩
  · rintro ⟨g1, g2⟩
    exact ⟨⟨by simp, fun x hx => (g1 x hx).1.1⟩, fun n x hx e => by subst e; exact ⟨(g1 x hx).1.2, (g1 x hx).2⟩, g2⟩
theorem sum_step (xs : List Part) (k : Nat) (h : k < xs.length) : ((xs.take (k + 1)).map (·.2)).sum = ((xs.take k).map (·.2)).sum + xs[k].2 := by
  rw [List.take_succ_eq_append_getElem h, List.map_append, List.sum_append]
  simp only [List.map_cons, List.map_nil, List.sum_cons, List.sum_nil, Int.add_zero]
theorem sum_small (xs : List Part) (k : Nat) (hk : k ≤ 32) (h : (xs.take k).all rpartOk = true) : 0 ≤ ((xs.take k).map (·.2)).sum ∧ ((xs.take k).map (·.2)).sum ≤ 262144 * 32 := by
  have key : ∀ ys : List Part, ys.all rpartOk = true → 0 ≤ (ys.map (·.2)).sum ∧ (ys.map (·.2)).sum ≤ 262144 * ys.length := by
    intro ys
    induction ys with
    | nil => intro _; simp
    | cons y ys ih =>
      intro g
      simp only [List.all_cons, Bool.and_eq_true] at g
      have g1 := ih g.2
      have g2 := g.1
      unfold rpartOk at g2
      simp only [Bool.and_eq_true, decide_eq_true_eq] at g2
      simp only [List.map_cons, List.sum_cons, List.length_cons]
      omega
  have h1 := key _ h
  have h2 : (xs.take k).length ≤ k := by rw [List.length_take]; omega
  omega
end Go.Proofs.YtfeffaeinggiiaaGreatDoor
