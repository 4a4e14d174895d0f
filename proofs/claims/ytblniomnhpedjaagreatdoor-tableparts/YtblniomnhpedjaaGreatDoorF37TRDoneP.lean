/-
  What the reference's done makes of pairs, plainly: the put done. No program.
-/
import Derived.Test.YtblniomnhpedjaaGreatDoorF1Chg
namespace Go.Proofs.YtblniomnhpedjaaGreatDoor

/-- The reference's way: met: was the put laid already, or is it one that takes away? -/
def goD (p : PutM) : Bool → List Pair → List Pair
  | met, [] => if met then [] else [(p.1, p.2.1)]
  | met, x :: r => (if !met && !ltB x.1 p.1 then [(p.1, p.2.1)] else []) ++ ((if x.1 = p.1 then [] else [x]) ++ goD p (met || !ltB x.1 p.1) r)
theorem ltB_asymm {a b : Bs} (h : ltB a b = true) : ltB b a = false := by
  cases hq : ltB b a with
  | false => rfl
  | true =>
    have := ltB_trans _ _ _ h hq
    rw [ltB_irrefl] at this
    cases this
theorem ltB_ne {a b : Bs} (h : ltB a b = true) : a ≠ b := fun e => by
  rw [e, ltB_irrefl] at h
  cases h
theorem goD_ahead (p : PutM) (met : Bool) (r : List Pair) : ∀ (a : List Pair), (∀ x ∈ a, ltB x.1 p.1 = true) → goD p met (a ++ r) = a ++ goD p met r
  | [], _ => rfl
  | x :: a, h => by
    have hx := h x (by simp)
    rw [List.cons_append, goD, hx, if_neg (by simp), if_neg (ltB_ne hx)]
    simp only [Bool.not_true, Bool.or_false, List.nil_append, List.cons_append, List.cons.injEq, true_and]
    exact goD_ahead p met r a (fun y hy => h y (by simp [hy]))
theorem goD_met (p : PutM) : ∀ (b : List Pair), (∀ x ∈ b, ltB p.1 x.1 = true) → goD p true b = b
  | [], _ => rfl
  | x :: b, h => by
    have hx := h x (by simp)
    rw [goD, if_neg (by simp), if_neg (fun e => ltB_ne hx e.symm), Bool.true_or, goD_met p b (fun y hy => h y (by simp [hy]))]
    rfl
theorem goD_behind (p : PutM) (b : List Pair) (h : ∀ x ∈ b, ltB p.1 x.1 = true) : goD p false b = (p.1, p.2.1) :: b := by
  cases b with
  | nil => rfl
  | cons x b =>
    have hx := h x (by simp)
    rw [goD, ltB_asymm hx, if_pos (by rfl), if_neg (fun e => ltB_ne hx e.symm), show (false || !false) = true from rfl, goD_met p b (fun y hy => h y (by simp [hy]))]
    rfl
theorem goD_done {l : List Pair} (hr : Rises l) (p : PutM) : goD p p.2.2 l = doneM l p := by
  obtain ⟨a, b, ha, hb, hl, hd⟩ := done_split hr p
  rw [hd]
  rcases hl with rfl | ⟨v, rfl⟩
  · rw [goD_ahead p _ b a ha]
    cases hg : p.2.2 with
    | true => rw [goD_met p b hb]; rfl
    | false => rw [goD_behind p b hb]; rfl
  · rw [goD_ahead p _ _ a ha, goD, ltB_irrefl, if_pos (show ((p.1, v) : Pair).1 = p.1 from rfl)]
    cases hg : p.2.2 with
    | true => rw [if_neg (by simp), Bool.true_or, goD_met p b hb]; rfl
    | false => rw [if_pos (by rfl), show (false || !false) = true from rfl, goD_met p b hb]; rfl
theorem goD_step (p : PutM) (met : Bool) (x : Pair) (r : List Pair) : goD p met (x :: r) = (if !met && !ltB x.1 p.1 then [(p.1, p.2.1)] else []) ++ ((if x.1 = p.1 then [] else [x]) ++ goD p (met || !ltB x.1 p.1) r) := rfl
end Go.Proofs.YtblniomnhpedjaaGreatDoor
