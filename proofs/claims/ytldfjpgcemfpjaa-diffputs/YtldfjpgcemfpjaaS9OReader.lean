/-
  The reference's reader: numbers, ids, its end. Conditions: lengths within reach.
-/
import Derived.Test.YtldfjpgcemfpjaaS6ORise
import Derived.Test.YtldfjpgcemfpjaaS8WRefTake
namespace Go.Proofs.Ytldfjpgcemfpjaa
open Go.RowKit
variable {N : Nat}

/-- The reference's reader g goes through the bytes l, and stands at s. -/
def Rr (N : Nat) (w : World) (g : Nat) (l : Bs) (s : Pos) : Prop :=
  ∃ v p, w.heap[g]? = some (.cells #[v, .int .i64 p, .bool s.isNone] 143) ∧ (∀ w', Und N g w w' → Sl w' v l) ∧ (∀ a, s = some a → p = (a : Int) ∧ a ≤ l.length)
theorem Rr.lt {w : World} {g : Nat} {l : Bs} {s : Pos} (h : Rr N w g l s) : g < w.heap.size := by
  obtain ⟨v, p, h1, _⟩ := h
  exact lt_of_heap h1
theorem Rr.keep {w w' : World} {g : Nat} {l : Bs} {s : Pos} (h : Rr N w g l s) (hb : Below w.heap.size w w') : Rr N w' g l s := by
  have hl := h.lt
  obtain ⟨v, p, h1, h2, h3⟩ := h
  exact ⟨v, p, (hb.block g hl).trans h1, fun w2 hw => h2 w2 (und_trans (und_gb hl (gb_below hb)) hw), h3⟩
theorem Rr.set {w : World} {g : Nat} {l : Bs} {s : Pos} {n i : Nat} {u : Value} (h : Rr N w g l s) (hn : g < n ∨ n < N ∧ n ≠ g) : Rr N (w.setCell ⟨n, i, none⟩ u) g l s := by
  have hl := h.lt
  obtain ⟨v, p, h1, h2, h3⟩ := h
  exact ⟨v, p, ((gb_set w n i u).block g hl (fun e => by injection e with e; omega)).trans h1, fun w' hu => h2 w' (und_trans (und_set w u hl (by omega)) hu), h3⟩
end Go.Proofs.Ytldfjpgcemfpjaa
