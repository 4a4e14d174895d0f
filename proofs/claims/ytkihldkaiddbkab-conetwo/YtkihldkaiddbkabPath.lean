/-
  What fewNames answers of a path. Conditions: lengths within reach.
-/
import Derived.Test.YtkihldkaiddbkabCollect
namespace Go.Proofs.Ytkihldkaiddbkab
open Go.RowKit

theorem enter23 : ∀ args w, (callFunc 25 args).run Try.prog w = .ok (.enter 25 args) w := enters_of Try.func25 (by kernel_rfl) rfl
theorem enter37 : ∀ args w, (callFunc 21 args).run Try.prog w = .ok (.enter 21 args) w := enters_of Try.func21 (by kernel_rfl) rfl

theorem cut_length (l : List UInt8) : (Pt.cut l).length ≤ l.length + 1 := by
  induction l with
  | nil => simp [Pt.cut]
  | cons c t ih =>
    by_cases hc : c = 47
    · subst hc; rw [Pt.cut_slash]; simp; exact ih
    · cases he : Pt.cut t with
      | nil => exact absurd he (Pt.cut_ne t)
      | cons a b => rw [Pt.cut_cons hc he]; rw [he] at ih; simp at ih ⊢; omega
theorem parts_length (l : List UInt8) : (Pt.parts l).length ≤ l.length + 1 := by
  unfold Pt.parts
  split
  · simp
  · exact cut_length l

/-- fewNames of a text's parts. -/
theorem fewPath_any (w : World) (l : List UInt8) (hl : l.length ≤ 4611686018427387000) :
    Calls Try.prog 24 #[.func (.func 25) #[.string (strB l)] #[]] w fun e w' => e = .returned (.bool (Pt.path l)) ∧ Below w.heap.size w w' :=
  few_any w _ _ _ enter23 (Pt.parts l) (by have := parts_length l; omega) (parts_gives l (by omega) w)

theorem joined_length {ps : List (List UInt8)} (h : ∀ p ∈ ps, p.length ≤ 64) : (Pt.joined ps).length ≤ 65 * ps.length := by
  induction ps with
  | nil => simp [Pt.joined]
  | cons p q ih =>
    have h1 := h p (by simp)
    have h2 := ih fun x hx => h x (by simp [hx])
    by_cases hq : q = []
    · subst hq; simp [Pt.joined]; omega
    · rw [Pt.joined_cons hq]; simp; omega
theorem few_length {ps : List (List UInt8)} (h : Pt.few ps = true) : (Pt.joined ps).length ≤ 1040 := by
  have h1 := joined_length (ps := ps) fun p hp => Pt.name_le (Pt.few_all h p hp)
  have h2 := Pt.few_len h
  omega

end Go.Proofs.Ytkihldkaiddbkab
