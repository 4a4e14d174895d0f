/-
  A fan read by the reference. Conditions: lengths within reach.
-/
import Derived.Test.YtldfjpgcemfpjaaM12ORFan2
namespace Go.Proofs.Ytldfjpgcemfpjaa
open Go.RowKit

theorem own_down {w : World} {B B' k n : Nat} {e : TypeId} {v : Value} {xs : List Value} (h : w.ownsRow B e k v n xs) (hle : B' ≤ B) : w.ownsRow B' e k v n xs := by
  refine ⟨h.1, ?_⟩
  rcases h.2 with h | ⟨g, cap, cur, h1, h2, h3⟩
  · exact .inl h
  · exact .inr ⟨g, cap, cur, h1, Nat.le_trans hle h2, h3⟩
theorem rN_dead {α : Type} {one : Pos → α × Pos} (h : (one none).2 = none) (s : Pos) (k : Nat) (hs : (rN one k s).2 = none) : ∀ j, (rN one (k + j) s).2 = none
  | 0 => hs
  | j + 1 => by rw [← Nat.add_assoc, rN_snoc]; simp only; rw [rN_dead h s k hs j, h]
theorem heap_set1 {w : World} {g : Nat} {v0 v1 u1 : Value} {t : TypeId} (h : w.heap[g]? = some (.cells #[v0, v1] t)) : (w.setCell ⟨g, 1, none⟩ u1).heap[g]? = some (.cells #[v0, u1] t) := by
  rw [heap_setCell _ _ _ _ _ _ _ h]
  simp
end Go.Proofs.Ytldfjpgcemfpjaa
