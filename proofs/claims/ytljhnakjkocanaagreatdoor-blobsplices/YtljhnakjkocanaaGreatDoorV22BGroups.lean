/-
  Parts in groups, plainly; the parts and objects of the next level. No program here.
-/
import Derived.Test.YtljhnakjkocanaaGreatDoorV17ORTakeC
import Derived.Test.YtljhnakjkocanaaGreatDoorV21BLay
namespace Go.Proofs.YtljhnakjkocanaaGreatDoor
open Go.RowKit

theorem gFrom_bounds (e : Nat → Bool) (most : Nat) : ∀ (d n : Nat), most - n = d → gFrom e most n ≤ most ∧ (n ≤ most → n ≤ gFrom e most n) := by
  intro d
  induction d with
  | zero =>
    intro n hd
    rw [gFrom_end (by omega)]
    omega
  | succ d ih =>
    intro n hd
    have hlt : n < most := by omega
    cases he : e n with
    | true => rw [gFrom_hit hlt he]; omega
    | false =>
      have := ih (n + 1) (by omega)
      rw [gFrom_next hlt he]
      omega
theorem groupN_le (ps : List Part) : groupN ps ≤ ps.length ∧ groupN ps ≤ 32 := by
  have := (gFrom_bounds (fun n => (ps[n - 1]?.map fun p => endG p.1).getD false) (min ps.length 32) _ 2 rfl).1
  unfold groupN
  omega
theorem groupN_two {ps : List Part} (h : 2 ≤ ps.length) : 2 ≤ groupN ps := by
  have := (gFrom_bounds (fun n => (ps[n - 1]?.map fun p => endG p.1).getD false) (min ps.length 32) _ 2 rfl).2 (by omega)
  unfold groupN
  omega
theorem groupN_one {ps : List Part} (h : ps.length = 1) : groupN ps = 1 := by
  unfold groupN
  rw [gFrom_end (by omega), h]
  rfl
theorem groupN_pos {ps : List Part} (h : ps ≠ []) : 1 ≤ groupN ps := by
  have h1 : 1 ≤ ps.length := by
    rcases ps with _ | ⟨a, b⟩
    · exact absurd rfl h
    · simp
  by_cases h2 : ps.length = 1
  · rw [groupN_one h2]; exact Nat.le_refl _
  · have := groupN_two (ps := ps) (by omega)
    omega
/-- The groups of parts, one behind the other. -/
def groups : List Part → List (List Part)
  | [] => []
  | p :: ps => (p :: ps).take (groupN (p :: ps)) :: groups ((p :: ps).drop (groupN (p :: ps)))
termination_by l => l.length
decreasing_by
  have := groupN_pos (ps := p :: ps) (by simp)
  simp only [List.length_drop, List.length_cons]
  omega
theorem groups_nil : groups [] = [] := by rw [groups]
theorem groups_step {ps : List Part} (h : ps ≠ []) : groups ps = ps.take (groupN ps) :: groups (ps.drop (groupN ps)) := by
  rcases ps with _ | ⟨a, b⟩
  · exact absurd rfl h
  · rw [groups]
theorem groups_all : ∀ (n : Nat) (ps : List Part), ps.length = n → (groups ps).flatten = ps ∧ 2 * (groups ps).length ≤ ps.length + 1 ∧ ∀ g ∈ groups ps, 1 ≤ g.length ∧ g.length ≤ 32 := by
  intro n
  induction n using Nat.strongRecOn with
  | ind n ih =>
    intro ps hn
    by_cases h : ps = []
    · subst h
      rw [groups_nil]
      simp
    · have hp := groupN_pos h
      obtain ⟨hl, hl2⟩ := groupN_le ps
      have hd : (ps.drop (groupN ps)).length = ps.length - groupN ps := by simp
      obtain ⟨i1, i2, i3⟩ := ih (ps.length - groupN ps) (by omega) (ps.drop (groupN ps)) hd
      rw [groups_step h]
      refine ⟨?_, ?_, ?_⟩
      · rw [List.flatten_cons, i1, List.take_append_drop]
      · rw [List.length_cons]
        by_cases h2 : 2 ≤ ps.length
        · have := groupN_two h2
          omega
        · have h1 : ps.length = 1 := by omega
          have h3 := groupN_one h1
          have h0 : ps.drop (groupN ps) = [] := List.eq_nil_of_length_eq_zero (by omega)
          rw [h0, groups_nil]
          simp only [List.length_nil]
          omega
      · intro g hg
        rcases List.mem_cons.1 hg with rfl | hg
        · rw [List.length_take]; omega
        · exact i3 g hg
theorem groups_flatten (ps : List Part) : (groups ps).flatten = ps := (groups_all _ ps rfl).1
theorem groups_half (ps : List Part) : 2 * (groups ps).length ≤ ps.length + 1 := (groups_all _ ps rfl).2.1
theorem groups_len {ps g : List Part} (h : g ∈ groups ps) : 1 ≤ g.length ∧ g.length ≤ 32 := (groups_all _ ps rfl).2.2 g h
theorem groups_mem {ps g : List Part} (h : g ∈ groups ps) {p : Part} (hp : p ∈ g) : p ∈ ps := by
  rw [← groups_flatten ps]
  exact List.mem_flatten.2 ⟨g, h, hp⟩
/-- The object, the part of a group. -/
def fanO (level : Int) (ks : List Part) : Pair := (sha (70 :: fanB (level, ks)), 70 :: fanB (level, ks))
def fanP (level : Int) (ks : List Part) : Part := ((fanO level ks).1, sizeP ks)
def layF (level : Int) (os : List Pair) (gs : List (List Part)) : List Pair := gs.foldl (fun os ks => layP os (fanO level ks)) os
theorem layF_snoc (level : Int) (os : List Pair) (gs : List (List Part)) (g : List Part) : layF level os (gs ++ [g]) = layP (layF level os gs) (fanO level g) := by
  unfold layF
  rw [List.foldl_append]
  rfl
theorem layF_le (level : Int) : ∀ (gs : List (List Part)) (os : List Pair), (layF level os gs).length ≤ os.length + gs.length
  | [], os => by simp [layF]
  | g :: gs, os => by
    have h1 := layF_le level gs (layP os (fanO level g))
    have h2 := layP_le os (fanO level g)
    have h3 : layF level os (g :: gs) = layF level (layP os (fanO level g)) gs := rfl
    rw [h3, List.length_cons]
    omega
/-- All levels over some parts: the root, the objects. -/
def riseP : Nat → Int → List Part → List Pair → Part × List Pair
  | 0, _, ps, os => (ps.headD ([], 0), os)
  | n + 1, level, ps, os => if 1 < ps.length then riseP n (level + 1) ((groups ps).map (fanP level)) (layF level os (groups ps)) else (ps.headD ([], 0), os)
theorem sizeP_flat : ∀ (gs : List (List Part)) (level : Int), sizeP (gs.map (fanP level)) = sizeP gs.flatten
  | [], _ => rfl
  | g :: gs, level => by
    rw [List.map_cons, List.flatten_cons, sizeP_append, sizeP_cons, ← sizeP_flat gs level]
    rfl
theorem Ls.part {α : Type} {B : Nat} {w : World} {k : Nat} {cs : α → List Value} {b off n cap : Nat} {xs : List α} (h : Ls B w k cs (.slice (some ⟨b, off, none⟩) n cap) xs) {a z : Nat} (ha : a ≤ z) (hz : z ≤ xs.length) : Ls B w k cs (.slice (some ⟨b, off + a * k, none⟩) (z - a) (cap - a)) ((xs.take z).drop a) := by
  obtain ⟨ao, cp, hv, h1, h2, h4⟩ := h
  injection hv with e1 e2 e3
  subst e1 e2 e3
  have hl : ((xs.take z).drop a).length = z - a := by simp; omega
  refine ⟨_, _, by rw [hl], by rw [hl]; omega, by omega, fun hne => ?_⟩
  have hx : xs ≠ [] := by
    rintro rfl
    simp at hne
  obtain ⟨b', off', e, hb, hc⟩ := h4 hx
  injection e with e
  injection e with e1 e2 e3
  subst e1 e2
  refine ⟨_, _, rfl, hb, fun j hj i u hu => ?_⟩
  rw [hl] at hj
  have hu' : (cs (xs[a + j]'(by omega)))[i]? = some u := by simpa using hu
  have := hc (a + j) (by omega) i u hu'
  rwa [Nat.add_mul, ← Nat.add_assoc] at this
end Go.Proofs.YtljhnakjkocanaaGreatDoor
