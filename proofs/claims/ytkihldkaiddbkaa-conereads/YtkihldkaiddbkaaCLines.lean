/-
  Lines, plainly: a text cut at 0A, which lines say something, what they say. No program here but what lines answer. Conditions: none.
-/
import Derived.Test.YtkihldkaiddbkaaCBuild
namespace Go.Proofs.Ytkihldkaiddbkaa

/-- A text cut at 0A. -/
def cutN : Bs → List Bs
  | [] => [[]]
  | c :: t => if c = 10 then [] :: cutN t else
    match cutN t with
    | [] => [[c]]
    | h :: r => (c :: h) :: r
theorem cutN_ne (l : Bs) : cutN l ≠ [] := by
  cases l with
  | nil => simp [cutN]
  | cons c t =>
    unfold cutN
    split
    · simp
    · split <;> simp
theorem cutN_nl (t : Bs) : cutN (10 :: t) = [] :: cutN t := by simp [cutN]
theorem cutN_cons {c : UInt8} {t a : Bs} {b : List Bs} (hc : c ≠ 10) (he : cutN t = a :: b) : cutN (c :: t) = (c :: a) :: b := by
  rw [cutN, if_neg hc, he]
theorem cutN_no {p : Bs} (h : 10 ∉ p) : cutN p = [p] := by
  induction p with
  | nil => rfl
  | cons c t ih =>
    rw [List.mem_cons, not_or] at h
    exact cutN_cons (fun e => h.1 e.symm) (ih h.2)
theorem cutN_app {p : Bs} (l : Bs) (h : 10 ∉ p) : cutN (p ++ 10 :: l) = p :: cutN l := by
  induction p with
  | nil => exact cutN_nl l
  | cons c t ih =>
    rw [List.mem_cons, not_or] at h
    exact cutN_cons (fun e => h.1 e.symm) (ih h.2)
theorem first_nl (l : Bs) : 10 ∉ l ∨ ∃ p r, l = p ++ 10 :: r ∧ 10 ∉ p := by
  induction l with
  | nil => exact .inl (by simp)
  | cons c t ih =>
    by_cases hc : c = 10
    · subst hc
      exact .inr ⟨[], t, rfl, by simp⟩
    · rcases ih with h | ⟨p, r, rfl, h⟩
      · exact .inl (by rw [List.mem_cons, not_or]; exact ⟨fun e => hc e.symm, h⟩)
      · exact .inr ⟨c :: p, r, rfl, by rw [List.mem_cons, not_or]; exact ⟨fun e => hc e.symm, h⟩⟩
theorem cutN_len (l : Bs) : (cutN l).length ≤ l.length + 1 := by
  induction l with
  | nil => simp [cutN]
  | cons c t ih =>
    by_cases hc : c = 10
    · subst hc
      rw [cutN_nl]
      simp only [List.length_cons]
      omega
    · cases he : cutN t with
      | nil => exact absurd he (cutN_ne t)
      | cons a b =>
        rw [cutN_cons hc he]
        rw [he] at ih
        simp only [List.length_cons] at ih ⊢
        omega
theorem cutN_short (l : Bs) : ∀ x ∈ cutN l, x.length ≤ l.length := by
  induction l with
  | nil => intro x hx; simp [cutN] at hx; subst hx; simp
  | cons c t ih =>
    intro x hx
    by_cases hc : c = 10
    · subst hc
      rw [cutN_nl, List.mem_cons] at hx
      rcases hx with rfl | hx
      · simp
      · have := ih x hx
        simp only [List.length_cons]
        omega
    · cases he : cutN t with
      | nil => exact absurd he (cutN_ne t)
      | cons a b =>
        rw [cutN_cons hc he, List.mem_cons] at hx
        rcases hx with rfl | hx
        · have := ih a (by rw [he]; simp)
          simp only [List.length_cons]
          omega
        · have := ih x (by rw [he]; simp [hx])
          simp only [List.length_cons]
          omega

/-- The lines that say something, with their numbers. -/
def sayL : Nat → List Bs → List (Nat × Bs)
  | _, [] => []
  | n, l :: r => if silM l then sayL (n + 1) r else (n, l) :: sayL (n + 1) r
theorem sayL_len (ls : List Bs) : ∀ n, (sayL n ls).length ≤ ls.length := by
  induction ls with
  | nil => intro n; simp [sayL]
  | cons l r ih =>
    intro n
    unfold sayL
    split
    · have := ih (n + 1); simp only [List.length_cons]; omega
    · have := ih (n + 1); simp only [List.length_cons]; omega
theorem sayL_num (ls : List Bs) : ∀ n, ∀ x ∈ sayL n ls, x.1 < n + ls.length ∧ x.2 ∈ ls := by
  induction ls with
  | nil => intro n x hx; simp [sayL] at hx
  | cons l r ih =>
    intro n x hx
    unfold sayL at hx
    split at hx
    · have := ih (n + 1) x hx
      exact ⟨by simp only [List.length_cons]; omega, List.mem_cons_of_mem _ this.2⟩
    · rcases List.mem_cons.1 hx with rfl | hx
      · exact ⟨by simp only [List.length_cons]; omega, by simp⟩
      · have := ih (n + 1) x hx
        exact ⟨by simp only [List.length_cons]; omega, List.mem_cons_of_mem _ this.2⟩
/-- The number of the first line that says no path. -/
def badAt : Nat → List Bs → Option Nat
  | _, [] => none
  | n, l :: r => if silM l || okL l then badAt (n + 1) r else some n
/-- Which directories lines say. -/
def dirsL : List Bs → List Bs
  | [] => []
  | l :: r => if silM l then dirsL r else dirL l :: dirsL r
theorem badAt_app (r : List Bs) : ∀ (ls : List Bs) (n : Nat), badAt n ls = none → badAt n (ls ++ r) = badAt (n + ls.length) r
  | [], n, _ => by simp
  | l :: ls, n, h => by
    unfold badAt at h
    split at h
    · next hl =>
      rw [List.cons_append, badAt, if_pos hl, badAt_app r ls (n + 1) h, List.length_cons]
      congr 1
      omega
    · cases h
theorem dirsL_app (r : List Bs) : ∀ ls : List Bs, dirsL (ls ++ r) = dirsL ls ++ dirsL r
  | [] => rfl
  | l :: ls => by
    have ih := dirsL_app r ls
    have e : ∀ t, dirsL (l :: t) = if silM l then dirsL t else dirL l :: dirsL t := fun _ => rfl
    rw [List.cons_append, e, e, ih]
    split
    · rfl
    · rfl
theorem dirsL_len : ∀ ls : List Bs, (dirsL ls).length ≤ ls.length
  | [] => by simp [dirsL]
  | l :: ls => by
    have := dirsL_len ls
    unfold dirsL
    split
    · simp only [List.length_cons]; omega
    · simp only [List.length_cons]; omega
theorem dirL_short (l : Bs) : (dirL l).length ≤ l.length := by
  unfold dirL
  split <;> simp
theorem dirsL_short {ls : List Bs} {m : Nat} (h : ∀ x ∈ ls, x.length ≤ m) : ∀ x ∈ dirsL ls, x.length ≤ m := by
  induction ls with
  | nil => intro x hx; simp [dirsL] at hx
  | cons l r ih =>
    intro x hx
    unfold dirsL at hx
    split at hx
    · exact ih (fun y hy => h y (List.mem_cons_of_mem _ hy)) x hx
    · rcases List.mem_cons.1 hx with rfl | hx
      · exact Nat.le_trans (dirL_short l) (h l (by simp))
      · exact ih (fun y hy => h y (List.mem_cons_of_mem _ hy)) x hx
theorem dirsL_say (ls : List Bs) : ∀ n, dirsL ls = (sayL n ls).map fun x => dirL x.2 := by
  induction ls with
  | nil => intro n; rfl
  | cons l r ih =>
    intro n
    unfold dirsL sayL
    split
    · exact ih (n + 1)
    · rw [List.map_cons, ih (n + 1)]
theorem badAt_say (ls : List Bs) : ∀ n, badAt n ls = ((sayL n ls).find? fun x => !okL x.2).map (·.1) := by
  induction ls with
  | nil => intro n; rfl
  | cons l r ih =>
    intro n
    have e1 : badAt n (l :: r) = if silM l || okL l then badAt (n + 1) r else some n := rfl
    have e2 : sayL n (l :: r) = if silM l then sayL (n + 1) r else (n, l) :: sayL (n + 1) r := rfl
    rw [e1, e2]
    cases hs : silM l with
    | true => exact ih (n + 1)
    | false =>
      cases ho : okL l with
      | true =>
        show badAt (n + 1) r = (((n, l) :: sayL (n + 1) r).find? fun x => !okL x.2).map (·.1)
        rw [List.find?_cons_of_neg (by simp [ho])]
        exact ih (n + 1)
      | false =>
        show some n = (((n, l) :: sayL (n + 1) r).find? fun x => !okL x.2).map (·.1)
        rw [List.find?_cons_of_pos (by simp [ho])]
        rfl
/-- What Parse answers: directories, line, error. -/
def parseA (text : Bs) : List Bs × Int × Int :=
  match badAt 1 (cutN text) with
  | some n => ([], n, 180)
  | none => ((Pt.ofM (dirsL (cutN text))).1, 0, (Pt.ofM (dirsL (cutN text))).2)
theorem parseA_bad {text : Bs} {n : Nat} (h : badAt 1 (cutN text) = some n) : parseA text = ([], (n : Int), 180) := by unfold parseA; rw [h]
theorem parseA_ok {text : Bs} (h : badAt 1 (cutN text) = none) : parseA text = ((Pt.ofM (dirsL (cutN text))).1, 0, (Pt.ofM (dirsL (cutN text))).2) := by unfold parseA; rw [h]
/-- Told by the lines that say something: the first that says none. -/
theorem say_bad {xs : List (Nat × Bs)} {k : Nat} (hk : k < xs.length) (hb : okL xs[k].2 = false) (h : ∀ j (hj : j < xs.length), j < k → okL xs[j].2 = true) : (xs.find? fun x => !okL x.2).map (·.1) = some xs[k].1 := by
  have : xs.find? (fun x => !okL x.2) = some xs[k] := by
    rw [List.find?_eq_some_iff_getElem]
    refine ⟨by simp [hb], k, hk, rfl, fun j hj => ?_⟩
    simp [h j (by omega) hj]
  rw [this]
  rfl
theorem say_ok {xs : List (Nat × Bs)} (h : ∀ j (hj : j < xs.length), okL xs[j].2 = true) : (xs.find? fun x => !okL x.2).map (·.1) = none := by
  have : xs.find? (fun x => !okL x.2) = none := by
    rw [List.find?_eq_none]
    intro x hx
    obtain ⟨j, hj, rfl⟩ := List.getElem_of_mem hx
    simp [h j hj]
  rw [this]
  rfl
end Go.Proofs.Ytkihldkaiddbkaa
