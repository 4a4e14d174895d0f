/-
  What stands behind a link, plainly: a leaf's pairs, a branch's links. No program here. No condition.
-/
import Derived.Test.YtimbleaafoiidaaGreatDoorF21PPlain
namespace Go.Proofs.YtimbleaafoiidaaGreatDoor

/-- A node: its level, a leaf's pairs, a branch's links. -/
abbrev NodeM := Int × (List Pair × List Link)
def nodeM (b : Bs) : Option NodeM :=
  match takenLeaf b with
  | some l => some (0, l, [])
  | none => match takenBranch b with
    | some f => some (f.1, [], f.2)
    | none => none
def countM (n : NodeM) : Int := (n.2.1.length : Int) + manyL n.2.2
/-- Is a node the one that the link says, at a level? -/
def fitsM (n : NodeM) (k : Link) (level : Int) : Bool :=
  decide (n.1 = level) && decide (countM n = k.2.2) && (if n.1 = 0 then decide (1 ≤ n.2.1.length) && lastP n.2.1 == k.1 else lastL n.2.2 == k.1)
/-- What is answered where a link is gone to: an error's number, the node. -/
def askM (fd : Bs → Option Bs) (k : Link) (level : Int) : Int × NodeM :=
  match fd k.2.1 with
  | none => (3, 0, [], [])
  | some b => match nodeM b with
    | none => (122, 0, [], [])
    | some n => if level < 0 ∨ fitsM n k level = true then (0, n) else (122, 0, [], [])
/-- What holds of every node. -/
structure RightM (n : NodeM) : Prop where
  lo : 0 ≤ n.1
  hi : n.1 ≤ 20
  leaf : n.1 = 0 → n.2.2 = [] ∧ leafOk ltB n.2.1 = true
  branch : 1 ≤ n.1 → n.2.1 = [] ∧ branchOk ltB (n.1, n.2.2) = true
theorem branch_level {f : Branch} (h : branchOk ltB f = true) : 1 ≤ f.1 ∧ f.1 ≤ 20 ∧ 1 ≤ f.2.length := by
  simp only [branchOk, levelB, Bool.and_eq_true, decide_eq_true_eq] at h
  obtain ⟨⟨⟨⟨h1, h2⟩, -⟩, -⟩, -⟩ := h
  exact ⟨h1.1, h1.2, h2.1⟩
theorem nodeM_right {b : Bs} (hb : b.length ≤ 140737488355328) {n : NodeM} (h : nodeM b = some n) : RightM n := by
  unfold nodeM at h
  cases hc : takenLeaf b with
  | some l =>
    rw [hc] at h
    simp only [Option.some.injEq] at h
    subst h
    have := ((takenLeaf_iff b hb l).1 hc).1
    exact ⟨by simp, by simp, fun _ => ⟨rfl, this⟩, fun h => absurd h (by simp)⟩
  | none =>
    rw [hc] at h
    cases hf : takenBranch b with
    | some f =>
      rw [hf] at h
      simp only [Option.some.injEq] at h
      subst h
      have g := ((takenBranch_iff b hb f).1 hf).1
      have g2 := branch_level g
      exact ⟨by simp only; omega, g2.2.1, fun h => by simp only at h; omega, fun _ => ⟨rfl, g⟩⟩
    | none =>
      rw [hf] at h
      cases h
theorem nodeM_leaf {b : Bs} {l : List Pair} (h : takenLeaf b = some l) : nodeM b = some (0, l, []) := by unfold nodeM; rw [h]
theorem nodeM_branch {b : Bs} {f : Branch} (h0 : takenLeaf b = none) (h : takenBranch b = some f) : nodeM b = some (f.1, [], f.2) := by unfold nodeM; rw [h0, h]
theorem nodeM_none {b : Bs} (h0 : takenLeaf b = none) (h : takenBranch b = none) : nodeM b = none := by unfold nodeM; rw [h0, h]
theorem askM_miss {fd : Bs → Option Bs} {k : Link} {level : Int} (h : fd k.2.1 = none) : askM fd k level = (3, 0, [], []) := by unfold askM; rw [h]
theorem askM_odd {fd : Bs → Option Bs} {k : Link} {level : Int} {b : Bs} (h : fd k.2.1 = some b) (hn : nodeM b = none) : askM fd k level = (122, 0, [], []) := by unfold askM; rw [h]; simp only [hn]
theorem askM_yes {fd : Bs → Option Bs} {k : Link} {level : Int} {b : Bs} {n : NodeM} (h : fd k.2.1 = some b) (hn : nodeM b = some n) (hl : level < 0 ∨ fitsM n k level = true) : askM fd k level = (0, n) := by unfold askM; rw [h]; simp only [hn, if_pos hl]
theorem askM_no {fd : Bs → Option Bs} {k : Link} {level : Int} {b : Bs} {n : NodeM} (h : fd k.2.1 = some b) (hn : nodeM b = some n) (hl : ¬ level < 0) (h2 : fitsM n k level = false) : askM fd k level = (122, 0, [], []) := by unfold askM; rw [h]; simp only [hn]; rw [if_neg (by rw [h2]; simp [hl])]
theorem askM_ok {fd : Bs → Option Bs} {k : Link} {level : Int} (hs : ∀ id b, fd id = some b → b.length ≤ 140737488355328) (h : (askM fd k level).1 = 0) : RightM (askM fd k level).2 ∧ (level < 0 ∨ fitsM (askM fd k level).2 k level = true) := by
  unfold askM at h ⊢
  cases hf : fd k.2.1 with
  | none => rw [hf] at h; cases h
  | some b =>
    rw [hf] at h
    cases hn : nodeM b with
    | none => simp only [hn] at h; cases h
    | some n =>
      simp only [hn] at h ⊢
      by_cases hc : level < 0 ∨ fitsM n k level = true
      · rw [if_pos hc]
        exact ⟨nodeM_right (hs _ _ hf) hn, hc⟩
      · rw [if_neg hc] at h
        cases h
theorem fitsM_leaf (l : List Pair) (k : Link) (level : Int) : fitsM (0, l, []) k level = (decide (0 = level) && decide ((l.length : Int) = k.2.2) && (decide (1 ≤ l.length) && lastP l == k.1)) := by
  unfold fitsM countM
  simp [manyL]
theorem fitsM_branch (f : Branch) (k : Link) (level : Int) (h : 1 ≤ f.1) : fitsM (f.1, [], f.2) k level = (decide (f.1 = level) && decide (manyL f.2 = k.2.2) && lastL f.2 == k.1) := by
  unfold fitsM countM
  simp only [List.length_nil, Int.natCast_zero, Int.zero_add]
  rw [if_neg (by omega : ¬ f.1 = 0)]
end Go.Proofs.YtimbleaafoiidaaGreatDoor
