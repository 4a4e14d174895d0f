/-
  The five kinds of objects, and entries' values, plainly. No program. No condition.
-/
import Derived.Test.YtdbmngbinhemeabDoorCOPlain
namespace Go.Proofs.YtdbmngbinhemeabDoor

abbrev Bs := List UInt8
/-- A part: its id, its size. A pair: its key, its value. A link: its last key, its id, how many. -/
abbrev Part := Bs × Int
abbrev Pair := Bs × Bs
abbrev Link := Bs × (Bs × Int)
abbrev Fan := Int × List Part
abbrev Branch := Int × List Link
/-- Tree, parents, who, time, note. -/
abbrev Commit := Bs × (List Bs × (Bs × (Int × Bs)))
def idB (t : Bs) : Bs := t
def partB (p : Part) : Bs := p.1 ++ num p.2
def pairB (p : Pair) : Bs := txt p.1 ++ txt p.2
def linkB (p : Link) : Bs := txt p.1 ++ partB p.2
def fanB (f : Fan) : Bs := num f.1 ++ listB partB f.2
def leafB (l : List Pair) : Bs := listB pairB l
def branchB (f : Branch) : Bs := num f.1 ++ listB linkB f.2
def commitB (c : Commit) : Bs := c.1 ++ (listB idB c.2.1 ++ (txt c.2.2.1 ++ (num c.2.2.2.1 ++ txt c.2.2.2.2)))
/-- An entry's value: its kind, its id, its size. -/
abbrev Val := Int × Part
def valB (v : Val) : Bs := num v.1 ++ partB v.2

/-- All 1 or above, together at most so many. -/
def within : List Int → Int → Bool
  | [], _ => true
  | n :: r, most => !(decide (n < 1 ∨ most < n)) && within r (most - n)
theorem within_iff : ∀ (xs : List Int) (m : Int), 0 ≤ m → (within xs m = true ↔ (∀ x ∈ xs, 1 ≤ x) ∧ xs.sum ≤ m)
  | [], m, hm => by simp [within, hm]
  | n :: r, m, hm => by
    have nonneg : ∀ (ys : List Int), (∀ x ∈ ys, 1 ≤ x) → 0 ≤ ys.sum := by
      intro ys
      induction ys with
      | nil => intro _; simp
      | cons y ys ih => intro h; have h1 := ih (fun x hx => h x (by simp [hx])); have h2 := h y (by simp); simp; omega
    by_cases h : n < 1 ∨ m < n
    · simp only [within, h, decide_true, Bool.not_true, Bool.false_and, Bool.false_eq_true, false_iff]
      rintro ⟨h1, h2⟩
      have g1 := h1 n (by simp)
      have g2 := nonneg r (fun x hx => h1 x (by simp [hx]))
      rw [List.sum_cons] at h2
      omega
    · simp only [within, h, decide_false, Bool.not_false, Bool.true_and]
      rw [within_iff r (m - n) (by omega), List.sum_cons]
      constructor
      · rintro ⟨h1, h2⟩
        refine ⟨fun x hx => ?_, by omega⟩
        rcases List.mem_cons.1 hx with rfl | hx
        · omega
        · exact h1 x hx
      · rintro ⟨h1, h2⟩
        exact ⟨fun x hx => h1 x (by simp [hx]), by omega⟩
/-- Each ahead of the next one. -/
def rise (lt : Bs → Bs → Bool) : List Bs → Bool
  | [] => true
  | [_] => true
  | a :: b :: r => lt a b && rise lt (b :: r)
def isKeyB (k : Bs) : Bool := decide (1 ≤ k.length ∧ k.length ≤ 64)
def isIdB (k : Bs) : Bool := decide (k.length = 32)
def levelB (n : Int) : Bool := decide (1 ≤ n ∧ n ≤ 20)
def fanOk (f : Fan) : Bool := levelB f.1 && decide (1 ≤ f.2.length ∧ f.2.length ≤ 32) && f.2.all (fun p => isIdB p.1) && within (f.2.map (·.2)) 262144
def leafOk (lt : Bs → Bs → Bool) (l : List Pair) : Bool := decide (l.length ≤ 64) && l.all (fun p => isKeyB p.1 && decide (p.2.length ≤ 128)) && rise lt (l.map (·.1))
def branchOk (lt : Bs → Bs → Bool) (f : Branch) : Bool := levelB f.1 && decide (1 ≤ f.2.length ∧ f.2.length ≤ 64) && f.2.all (fun p => isKeyB p.1 && isIdB p.2.1) && rise lt (f.2.map (·.1)) && within (f.2.map (·.2.2)) 4096
/-- Each once, in the order in which they stand first. -/
def once : List Bs → List Bs → List Bs
  | acc, [] => acc
  | acc, x :: r => once (if acc.contains x then acc else acc ++ [x]) r
def commitOk (c : Commit) : Bool := isIdB c.1 && decide (c.2.1.length ≤ 8) && c.2.1.all isIdB && decide ((once [] c.2.1).length = c.2.1.length) && decide (c.2.2.1.length ≤ 64) && decide (c.2.2.2.2.length ≤ 1024) && decide (0 ≤ c.2.2.2.1 ∧ c.2.2.2.1 ≤ 4611686018427387904)
def sizeOk (kind size : Int) : Bool := if kind = 1 then decide (0 ≤ size ∧ size ≤ 262144) else if kind = 2 then decide (1 ≤ size ∧ size ≤ 4096) else false
def valOk (v : Val) : Bool := isIdB v.2.1 && sizeOk v.1 v.2.2

def rPart (l : Bs) : Pos → Part × Pos := rP (rD l) (rI l)
def rPair (l : Bs) (m n : Int) : Pos → Pair × Pos := rP (rT l m) (rT l n)
def rLink (l : Bs) (m : Int) : Pos → Link × Pos := rP (rT l m) (rPart l)
/-- As the program reads them. -/
def gFan (l : Bs) : Pos → Fan × Pos := rP (rC l 20) (rL l 32 (rPart l))
def gLeaf (l : Bs) : Pos → List Pair × Pos := rL l 64 (rPair l l.length l.length)
def gBranch (l : Bs) : Pos → Branch × Pos := rP (rC l 20) (rL l 64 (rLink l l.length))
def gCommit (l : Bs) : Pos → Commit × Pos := rP (rD l) (rP (rL l 8 (rD l)) (rP (rT l l.length) (rP (rI l) (rT l l.length))))
def gVal (l : Bs) : Pos → Val × Pos := rP (rC l 2) (rPart l)

theorem fmPart (l : Bs) : Fm l (rPart l) partB (fun p => p.1.length = 32 ∧ In64 p.2) := (fmD l).both (fmI l)
theorem fmFan (l : Bs) : Fm l (gFan l) fanB (fun f => (0 ≤ f.1 ∧ f.1 ≤ 20) ∧ ((f.2.length : Int) ≤ 32 ∧ ∀ p ∈ f.2, p.1.length = 32 ∧ In64 p.2)) := (fmC l 20 (by omega)).both ((fmPart l).many 32 (by omega))
theorem fmLeaf (l : Bs) (hl : (l.length : Int) ≤ 9223372036854775807) : Fm l (gLeaf l) leafB (fun f => ((f.length : Int) ≤ 64 ∧ ∀ p ∈ f, True ∧ True)) := ((fmT' l hl).both (fmT' l hl)).many 64 (by omega)
theorem fmBranch (l : Bs) (hl : (l.length : Int) ≤ 9223372036854775807) : Fm l (gBranch l) branchB (fun f => (0 ≤ f.1 ∧ f.1 ≤ 20) ∧ ((f.2.length : Int) ≤ 64 ∧ ∀ p ∈ f.2, True ∧ p.2.1.length = 32 ∧ In64 p.2.2)) := (fmC l 20 (by omega)).both (((fmT' l hl).both (fmPart l)).many 64 (by omega))
theorem fmCommit (l : Bs) (hl : (l.length : Int) ≤ 9223372036854775807) : Fm l (gCommit l) commitB (fun c => c.1.length = 32 ∧ (((c.2.1.length : Int) ≤ 8 ∧ ∀ p ∈ c.2.1, p.length = 32) ∧ (True ∧ (In64 c.2.2.2.1 ∧ True)))) :=
  (fmD l).both (((fmD l).many 8 (by omega)).both ((fmT' l hl).both ((fmI l).both (fmT' l hl))))
theorem fmVal (l : Bs) : Fm l (gVal l) valB (fun v => (0 ≤ v.1 ∧ v.1 ≤ 2) ∧ (v.2.1.length = 32 ∧ In64 v.2.2)) := (fmC l 2 (by omega)).both (fmPart l)

/-- What bytes behind a mark say, if all is read and right. -/
def said {α : Type} (one : Bs → Pos → α × Pos) (right : α → Bool) (l : Bs) : Option α := if (one l (some 0)).2 = some l.length ∧ right (one l (some 0)).1 = true then some (one l (some 0)).1 else none
theorem said_iff {α : Type} {one : Bs → Pos → α × Pos} {right : α → Bool} {l : Bs} {enc : α → Bs} {ok : α → Prop} (h : Fm l (one l) enc ok) (hr : ∀ x, right x = true → ok x) (x : α) : said one right l = some x ↔ right x = true ∧ l = enc x := by
  unfold said
  constructor
  · intro g
    split at g
    · rename_i g1
      injection g with g
      subst g
      exact ⟨g1.2, (h.read g1.1).1⟩
    · cases g
  · rintro ⟨h1, h2⟩
    have e := h.back (hr x h1) h2
    rw [if_pos (by rw [e]; exact ⟨rfl, h1⟩), e]
theorem within_64 {xs : List Int} {m : Int} (h : within xs m = true) (h0 : 0 ≤ m) (hm : m ≤ 9223372036854775807) : ∀ x ∈ xs, In64 x := by
  induction xs generalizing m with
  | nil => intro x hx; simp at hx
  | cons n r ih =>
    simp only [within, Bool.and_eq_true, Bool.not_eq_true', decide_eq_false_iff_not] at h
    intro x hx
    rcases List.mem_cons.1 hx with rfl | hx
    · exact ⟨by omega, by omega⟩
    · exact ih h.2 (by omega) (by omega) x hx
theorem fan_iff (l : Bs) (f : Fan) : said gFan fanOk l = some f ↔ fanOk f = true ∧ l = fanB f := by
  refine said_iff (fmFan l) (fun x hx => ?_) f
  simp only [fanOk, levelB, isIdB, Bool.and_eq_true, decide_eq_true_eq, List.all_eq_true] at hx
  obtain ⟨⟨⟨h1, h2⟩, h3⟩, h4⟩ := hx
  exact ⟨by omega, by omega, fun p hp => ⟨h3 p hp, within_64 h4 (by omega) (by omega) _ (List.mem_map_of_mem hp)⟩⟩
theorem leaf_iff (lt : Bs → Bs → Bool) (l : Bs) (hl : (l.length : Int) ≤ 9223372036854775807) (f : List Pair) : said gLeaf (leafOk lt) l = some f ↔ leafOk lt f = true ∧ l = leafB f := by
  refine said_iff (fmLeaf l hl) (fun x hx => ?_) f
  simp only [leafOk, Bool.and_eq_true, decide_eq_true_eq] at hx
  exact ⟨by omega, fun _ _ => ⟨trivial, trivial⟩⟩
theorem branch_iff (lt : Bs → Bs → Bool) (l : Bs) (hl : (l.length : Int) ≤ 9223372036854775807) (f : Branch) : said gBranch (branchOk lt) l = some f ↔ branchOk lt f = true ∧ l = branchB f := by
  refine said_iff (fmBranch l hl) (fun x hx => ?_) f
  simp only [branchOk, levelB, isIdB, Bool.and_eq_true, decide_eq_true_eq, List.all_eq_true] at hx
  obtain ⟨⟨⟨⟨h1, h2⟩, h3⟩, _⟩, h4⟩ := hx
  exact ⟨by omega, by omega, fun p hp => ⟨trivial, (h3 p hp).2, within_64 h4 (by omega) (by omega) _ (List.mem_map_of_mem (f := fun p : Link => p.2.2) hp)⟩⟩
theorem commit_iff (l : Bs) (hl : (l.length : Int) ≤ 9223372036854775807) (f : Commit) : said gCommit commitOk l = some f ↔ commitOk f = true ∧ l = commitB f := by
  refine said_iff (fmCommit l hl) (fun x hx => ?_) f
  simp only [commitOk, isIdB, Bool.and_eq_true, decide_eq_true_eq, List.all_eq_true] at hx
  obtain ⟨⟨⟨⟨⟨⟨h1, h2⟩, h3⟩, _⟩, _⟩, _⟩, h4⟩ := hx
  exact ⟨h1, ⟨by omega, h3⟩, trivial, ⟨by omega, by omega⟩, trivial⟩
theorem val_iff (l : Bs) (v : Val) : said gVal valOk l = some v ↔ valOk v = true ∧ l = valB v := by
  refine said_iff (fmVal l) (fun x hx => ?_) v
  simp only [valOk, isIdB, sizeOk, Bool.and_eq_true, decide_eq_true_eq] at hx
  obtain ⟨h1, h2⟩ := hx
  by_cases a : x.1 = 1
  · simp [a] at h2
    exact ⟨by omega, h1, by omega, by omega⟩
  · by_cases b : x.1 = 2
    · simp [b] at h2
      exact ⟨by omega, h1, by omega, by omega⟩
    · simp [a, b] at h2
end Go.Proofs.YtdbmngbinhemeabDoor
