/-
  A fan read by the reference. Conditions: lengths within reach.
-/
import Derived.Test.YtldfjpgcemfpjaaS12ORFan2
namespace Go.Proofs.Ytldfjpgcemfpjaa
open Go.RowKit

theorem own_down {w : World} {B B' k n : Nat} {e : TypeId} {v : Value} {xs : List Value} (h : w.ownsRow B e k v n xs) (hle : B' ≤ B) : w.ownsRow B' e k v n xs := by
  refine ⟨h.1, ?_⟩
  rcases h.2 with h | ⟨g, cap, cur, h1, h2, h3⟩
  · exact .inl h
  · exact .inr ⟨g, cap, cur, h1, Nat.le_trans hle h2, h3⟩
end Go.Proofs.Ytldfjpgcemfpjaa
