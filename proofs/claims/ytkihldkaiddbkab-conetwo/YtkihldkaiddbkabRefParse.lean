/-
  What the document's own Parse answers. Conditions: lengths within reach.
-/
import Derived.Test.YtkihldkaiddbkabRefName
import Derived.Laws.AppendOwn
import Derived.Maps.AppendAt
namespace Go.Proofs.Ytkihldkaiddbkab
open Go.RowKit

theorem cut_step {l : List UInt8} {f i : Nat} (hf : f ≤ i) (hi : i < l.length) (hno : 47 ∉ (l.drop f).take (i - f)) (h47 : l[i] = 47) : Pt.cut (l.drop f) = (l.drop f).take (i - f) :: Pt.cut (l.drop (i + 1)) := by
  have e : l.drop f = (l.drop f).take (i - f) ++ 47 :: l.drop (i + 1) := by
    conv => lhs; rw [← List.take_append_drop (i - f) (l.drop f)]
    congr 1
    rw [List.drop_drop, show f + (i - f) = i by omega, List.drop_eq_getElem_cons hi, h47]
  exact (congrArg Pt.cut e).trans (Pt.cut_app _ hno)
theorem cut_last {l : List UInt8} {f : Nat} (_hf : f ≤ l.length) (hno : 47 ∉ (l.drop f).take (l.length - f)) : Pt.cut (l.drop f) = [(l.drop f).take (l.length - f)] := by
  have e : (l.drop f).take (l.length - f) = l.drop f := List.take_of_length_le (by simp)
  rw [e] at hno ⊢
  exact Pt.cut_no hno
theorem few_hit {ps q : List (List UInt8)} {p : List UInt8} (h : Pt.name p = false ∨ ps.length = 16) : Pt.few (ps ++ p :: q) = false := by
  rcases h with h | h
  · exact few_bad (j := ps.length) (by simp) (by simpa using h)
  · exact few_long (by simp; omega)
theorem ext_mid (l : List UInt8) (f i : Nat) : (strB l).extract f i = strB ((l.drop f).take (i - f)) := by rw [ext_strB, List.drop_take]

/-- Between two rounds: out holds ps, from and i stand so. -/
def Scan (l : List UInt8) (ps : List (List UInt8)) (f i : Nat) : Prop :=
  ps.length ≤ 16 ∧ (∀ p ∈ ps, Pt.name p = true) ∧
    ((f ≤ i ∧ i ≤ l.length ∧ ps ++ Pt.cut (l.drop f) = Pt.cut l ∧ 47 ∉ (l.drop f).take (i - f)) ∨ (i = l.length + 1 ∧ f = i ∧ ps = Pt.cut l))
theorem Scan.start (l : List UInt8) : Scan l [] 0 0 := ⟨by simp, by simp, .inl ⟨Nat.le_refl _, Nat.zero_le _, by simp, by simp⟩⟩
theorem Scan.on {l : List UInt8} {ps : List (List UInt8)} {f i : Nat} (h : Scan l ps f i) (hi : i < l.length) (hc : l[i] ≠ 47) : Scan l ps f (i + 1) := by
  obtain ⟨h1, h2, ⟨h3, h4, h5, h6⟩ | ⟨h3, _⟩⟩ := h
  · refine ⟨h1, h2, .inl ⟨by omega, by omega, h5, ?_⟩⟩
    rw [show i + 1 - f = (i - f) + 1 by omega, List.take_add_one]
    rw [List.getElem?_drop, show f + (i - f) = i by omega, List.getElem?_eq_getElem hi]
    simp only [Option.toList_some, List.mem_append, List.mem_singleton, not_or]
    exact ⟨h6, fun e => hc e.symm⟩
  · omega
theorem Scan.cut {l : List UInt8} {ps : List (List UInt8)} {f i : Nat} (h : Scan l ps f i) (hi : i ≤ l.length) (hc : ∀ h : i < l.length, l[i] = 47) :
    f ≤ i ∧ (∃ q, ps ++ (l.drop f).take (i - f) :: q = Pt.cut l) ∧ (Pt.name ((l.drop f).take (i - f)) = true → ps.length < 16 → Scan l (ps ++ [(l.drop f).take (i - f)]) (i + 1) (i + 1)) := by
  obtain ⟨h1, h2, ⟨h3, h4, h5, h6⟩ | ⟨h3, _⟩⟩ := h
  · refine ⟨h3, ?_⟩
    by_cases hlt : i < l.length
    · have e := cut_step h3 hlt h6 (hc hlt)
      rw [e] at h5
      refine ⟨⟨_, h5⟩, fun hn hl => ⟨by simp; omega, fun p hp => ?_, .inl ⟨Nat.le_refl _, by omega, by rw [← h5]; simp, by simp⟩⟩⟩
      rcases List.mem_append.1 hp with hp | hp
      · exact h2 p hp
      · simp at hp; subst hp; exact hn
    · have hi' : i = l.length := by omega
      subst hi'
      have e := cut_last h3 h6
      rw [e] at h5
      refine ⟨⟨_, h5⟩, fun hn hl => ⟨by simp; omega, fun p hp => ?_, .inr ⟨rfl, rfl, h5⟩⟩⟩
      rcases List.mem_append.1 hp with hp | hp
      · exact h2 p hp
      · simp at hp; subst hp; exact hn
  · omega

end Go.Proofs.Ytkihldkaiddbkab
