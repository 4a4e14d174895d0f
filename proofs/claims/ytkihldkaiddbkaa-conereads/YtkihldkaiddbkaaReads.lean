/-
  What the document's own Parse answers, in one word. Conditions: lengths within reach.
-/
import Derived.Test.YtkihldkaiddbkaaSame
import Derived.Test.YtkihldkaiddbkaaRefParse
import Derived.OneCell
namespace Go.Proofs.Ytkihldkaiddbkaa
open Go.RowKit

/-- What Parse answers: the parts, and the error. -/
def ans (l : List UInt8) : List (List UInt8) := if Pt.path l = true then Pt.parts l else []
def err (l : List UInt8) : Int := if Pt.path l = true then 0 else 40
theorem ans_length (l : List UInt8) : (ans l).length ≤ 16 := by
  unfold ans
  split
  · next h => exact Pt.few_len h
  · simp
theorem rparse_all (w : World) (l : List UInt8) (hl : l.length ≤ 4611686018427387000) :
    Calls Try.prog 31 #[.string (strB l)] w fun e w' => ∃ v, e = .returned (.tuple #[v, .int .i64 (err l)]) ∧ w'.ownsRow w.heap.size 9 1 v (ans l).length (tc (ans l)) ∧ Below w.heap.size w w' := by
  have hr := rparse_any w l hl
  unfold ans err
  cases h : Pt.path l with
  | false =>
    rw [h] at hr
    refine hr.mono ?_
    rintro e w' ⟨he, hb⟩
    rw [if_neg (by simp)] at he
    subst he
    exact ⟨_, rfl, World.ownsRow_nil _ _ _ _, hb⟩
  | true =>
    rw [h] at hr
    refine hr.mono ?_
    rintro e w' ⟨he, hb⟩
    rw [if_pos rfl] at he
    obtain ⟨v, rfl, hv⟩ := he
    exact ⟨v, rfl, hv, hb⟩

theorem own_keep {w w' : World} {base : Nat} {e : TypeId} {s : Nat} {v : Value} {n : Nat} {xs : List Value} (h : w.ownsRow base e s v n xs) (hb : Below w.heap.size w w') : w'.ownsRow base e s v n xs := by
  obtain ⟨h1, h2⟩ := h
  refine ⟨h1, ?_⟩
  rcases h2 with h | ⟨g, cap, cur, hv, hg, hh, hr⟩
  · exact .inl h
  · exact .inr ⟨g, cap, cur, hv, hg, (hb.block g (Array.getElem?_eq_some_iff.1 hh).1).trans hh, hr⟩
end Go.Proofs.Ytkihldkaiddbkaa
