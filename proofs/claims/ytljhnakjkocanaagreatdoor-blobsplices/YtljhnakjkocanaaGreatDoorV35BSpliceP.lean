/-
  Bytes in the place of others, plainly: a file that is read whole has just its bytes. No program here.
-/
import Derived.Test.YtljhnakjkocanaaGreatDoorV30BRise
import Derived.Test.YtljhnakjkocanaaGreatDoorV34BRRead
namespace Go.Proofs.YtljhnakjkocanaaGreatDoor
open Go.RowKit

theorem eachP_full {f : Part → Int → Wk → Wk} {hi : Int} (hd : ∀ p a s, s.bad ≠ 0 → f p a s = s) (hf : ∀ p a s, 1 ≤ p.2 → 0 ≤ a → a + p.2 ≤ hi → s.bad = 0 → (f p a s).bad = 0 → (f p a s).data.length = s.data.length + p.2.toNat) :
    ∀ (l : List Part) (a : Int) (s : Wk), (∀ p ∈ l, 1 ≤ p.2) → 0 ≤ a → a + sizeP l ≤ hi → s.bad = 0 → (eachP f l a s).bad = 0 → (eachP f l a s).data.length = s.data.length + (sizeP l).toNat
  | [], a, s, _, _, _, _, _ => by simp [eachP, sizeP]
  | p :: r, a, s, h, ha, hs, hb, he => by
    have h4 := h p (by simp)
    have h3 := sizeP_nonneg r (fun q hq => h q (by simp [hq]))
    rw [sizeP_cons] at hs ⊢
    rw [eachP] at he ⊢
    have hb2 : (f p a s).bad = 0 := by
      by_cases hq : (f p a s).bad = 0
      · exact hq
      · rw [eachP_dead hd r _ _ hq] at he
        exact absurd he hq
    have h1 := hf p a s h4 ha (by omega) hb hb2
    have h2 := eachP_full hd hf r (a + p.2) (f p a s) (fun q hq => h q (by simp [hq])) (by omega) (by omega) hb2 he
    rw [h2, h1]
    omega
/-- All bytes of a part are read, or something is bad. -/
theorem goS_full (fd : Bs → Option Bs) (hi : Int) : ∀ (k : Nat) (p : Part) (a level : Int) (s : Wk), 1 ≤ p.2 → 0 ≤ a → a + p.2 ≤ hi → s.bad = 0 → ((level = -1 ∧ k = 21) ∨ (0 ≤ level ∧ level + 1 ≤ k)) → (goS fd 0 hi k p a level s).bad = 0 → (goS fd 0 hi k p a level s).data.length = s.data.length + p.2.toNat
  | 0, p, a, level, s, hp, ha, hh, hb, hl, he => by omega
  | k + 1, p, a, level, s, hp, ha, hh, hb, hl, he => by
    rw [goS] at he ⊢
    have h1 : ¬ (s.bad ≠ 0 ∨ min hi (a + p.2) ≤ max 0 a) := by omega
    rw [if_neg h1] at he ⊢
    by_cases h2 : (askN fd p level).1 ≠ 0
    · rw [if_pos h2] at he
      exact absurd he h2
    · rw [if_neg h2] at he ⊢
      obtain ⟨g1, g2, g4⟩ := askN_ok (by simpa using h2)
      generalize (askN fd p level).2 = n at *
      by_cases h3 : n.1 = 0
      · rw [if_pos h3]
        have g3 := g1.kids h3
        unfold sizeN at g2
        rw [g3, sizeP_nil] at g2
        simp only [List.length_append, List.length_drop, List.length_take]
        omega
      · rw [if_neg h3] at he ⊢
        have h4 : 1 ≤ n.1 := by have := g1.lo; omega
        have g3 := g1.none h4
        unfold sizeN at g2
        rw [g3] at g2
        simp only [List.length_nil] at g2
        have h6 := g1.hi
        have h5 := eachP_full (f := fun q b t => goS fd 0 hi k q b (n.1 - 1) t) (hi := hi) (fun q b t hq => goS_dead fd 0 hi k q b (n.1 - 1) t hq) (fun q b t q1 q2 q3 q4 q5 => goS_full fd hi k q b (n.1 - 1) t q1 q2 q3 q4 (.inr ⟨by omega, by omega⟩) q5) n.2.2 a ⟨s.asked ++ [p.1], s.data, s.parts, 0⟩ g1.each ha (by omega) rfl he
        rw [h5]
        simp only
        omega
theorem read_whole {fd : Bs → Option Bs} {p : Part} (h1 : 0 ≤ p.2) (hb : (readP fd p 0 p.2 []).bad = 0) : (readP fd p 0 p.2 []).data.length = p.2.toNat := by
  by_cases hz : p.2 = 0
  · rw [readP_skip (by unfold endP; omega) (Int.le_refl _), hz]
    rfl
  · unfold readP at hb ⊢
    have he : endP p.2 0 p.2 = p.2 := by unfold endP; omega
    rw [he] at hb ⊢
    have := goS_full fd p.2 21 p 0 (-1) ⟨[], [], [], 0⟩ (by omega) (Int.le_refl _) (by omega) rfl (.inl ⟨rfl, rfl⟩) hb
    rw [this]
    simp
/-- What is asked of Splice's arguments. -/
def spOk (p : Part) (f n : Int) : Prop := rightR p = true ∧ 0 ≤ f ∧ 0 ≤ n ∧ f ≤ p.2
/-- The bytes that are made. -/
def spB (s : Bs) (z f n : Int) (d : Bs) : Bs := s.take f.toNat ++ d ++ s.drop (endP z f n).toNat
/-- What Build answers: the root, the objects, the error. -/
def bldP (l : Bs) : Part × List Pair × Int := if l.length ≤ 262144 then ((fileP l).1, (fileP l).2, 0) else (([], 0), [], 100)
theorem bldP_yes {l : Bs} (h : l.length ≤ 262144) : bldP l = ((fileP l).1, (fileP l).2, 0) := if_pos h
theorem bldP_no {l : Bs} (h : ¬ l.length ≤ 262144) : bldP l = (([], 0), [], 100) := if_neg h
theorem end_within {z f n : Int} (_h1 : 0 ≤ f) (h2 : f ≤ z) (h3 : 0 ≤ n) : f ≤ endP z f n ∧ endP z f n ≤ z := by unfold endP; omega
end Go.Proofs.YtljhnakjkocanaaGreatDoor
