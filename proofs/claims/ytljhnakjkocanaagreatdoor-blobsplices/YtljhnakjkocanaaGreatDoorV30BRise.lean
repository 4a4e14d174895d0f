/-
  Groups, gathered one part at a time; objects, each id once. No program here.
-/
import Derived.Test.YtljhnakjkocanaaGreatDoorV29BBuild2
namespace Go.Proofs.YtljhnakjkocanaaGreatDoor
open Go.RowKit

theorem gFrom_before (e : Nat → Bool) (most : Nat) : ∀ (d n : Nat), most - n = d → ∀ m, n ≤ m → m < gFrom e most n → e m = false := by
  intro d
  induction d with
  | zero =>
    intro n hd m h1 h2
    rw [gFrom_end (by omega)] at h2
    omega
  | succ d ih =>
    intro n hd m h1 h2
    have hlt : n < most := by omega
    cases he : e n with
    | true => rw [gFrom_hit hlt he] at h2; omega
    | false =>
      rw [gFrom_next hlt he] at h2
      by_cases hm : m = n
      · rw [hm]; exact he
      · exact ih (n + 1) (by omega) m (by omega) h2
theorem gFrom_at (e : Nat → Bool) (most : Nat) : ∀ (d n : Nat), most - n = d → gFrom e most n = most ∨ (e (gFrom e most n) = true ∧ n ≤ gFrom e most n) := by
  intro d
  induction d with
  | zero =>
    intro n hd
    exact .inl (gFrom_end (by omega))
  | succ d ih =>
    intro n hd
    have hlt : n < most := by omega
    cases he : e n with
    | true => rw [gFrom_hit hlt he]; exact .inr ⟨he, Nat.le_refl _⟩
    | false =>
      rw [gFrom_next hlt he]
      rcases ih (n + 1) (by omega) with h | ⟨h, h2⟩
      · exact .inl h
      · exact .inr ⟨h, by omega⟩
/-- Does a group end with the part that comes? -/
def endsG (n : Nat) (id : Bs) : Bool := decide (2 ≤ (n : Int)) && endG id || (n : Int) == 32
theorem group_end {cur r : List Part} {x : Part} (h : cur.length < groupN (cur ++ x :: r)) : (endsG (cur.length + 1) x.1 = true ∨ r = []) ↔ cur.length + 1 = groupN (cur ++ x :: r) := by
  have hl : (cur ++ x :: r).length = cur.length + 1 + r.length := by simp; omega
  obtain ⟨b1, b2⟩ := groupN_le (cur ++ x :: r)
  have hg : (cur ++ x :: r)[cur.length]? = some x := by simp
  have hbef := gFrom_before (fun n => ((cur ++ x :: r)[n - 1]?.map fun p => endG p.1).getD false) (min (cur ++ x :: r).length 32) _ 2 rfl (cur.length + 1)
  have hat := gFrom_at (fun n => ((cur ++ x :: r)[n - 1]?.map fun p => endG p.1).getD false) (min (cur ++ x :: r).length 32) _ 2 rfl
  rw [show gFrom (fun n => ((cur ++ x :: r)[n - 1]?.map fun p => endG p.1).getD false) (min (cur ++ x :: r).length 32) 2 = groupN (cur ++ x :: r) from rfl] at hbef hat
  simp only [Nat.add_sub_cancel, hg, Option.map_some, Option.getD_some] at hbef
  generalize groupN (cur ++ x :: r) = G at *
  have h32 : endsG (cur.length + 1) x.1 = true ↔ (2 ≤ cur.length + 1 ∧ endG x.1 = true) ∨ cur.length + 1 = 32 := by
    unfold endsG
    simp only [Bool.or_eq_true, Bool.and_eq_true, decide_eq_true_eq, beq_iff_eq]
    constructor
    · rintro (⟨h1, h2⟩ | h1)
      · exact .inl ⟨by omega, h2⟩
      · exact .inr (by omega)
    · rintro (⟨h1, h2⟩ | h1)
      · exact .inl ⟨by omega, h2⟩
      · exact .inr (by omega)
  have hr : r = [] ↔ r.length = 0 := List.length_eq_zero_iff.symm
  rw [h32, hr]
  constructor
  · rintro ((⟨h1, h2⟩ | h1) | h1)
    · rcases Nat.lt_or_ge (cur.length + 1) G with hc | hc
      · rw [hbef h1 hc] at h2; cases h2
      · omega
    · omega
    · omega
  · intro hG
    rcases hat with h1 | ⟨h1, h2⟩
    · rw [h1] at hG
      rw [hl] at hG
      omega
    · rw [← hG] at h1 h2
      simp only [Nat.add_sub_cancel, hg, Option.map_some, Option.getD_some] at h1
      exact .inl (.inl ⟨h2, h1⟩)
/-- What has been gathered of parts: whole groups, the one under way, the rest. -/
structure Gath (ps : List Part) (done : List (List Part)) (cur rest : List Part) : Prop where
  all : ps = done.flatten ++ (cur ++ rest)
  grp : groups ps = done ++ groups (cur ++ rest)
  go : rest ≠ [] → cur.length < groupN (cur ++ rest)
  fin : rest = [] → cur = []
theorem Gath.start {ps : List Part} (h : ps ≠ []) : Gath ps [] [] ps := ⟨rfl, rfl, fun _ => groupN_pos h, fun e => absurd e h⟩
theorem Gath.next {ps : List Part} {done : List (List Part)} {cur r : List Part} {x : Part} (h : Gath ps done cur (x :: r)) (he : ¬ (endsG (cur.length + 1) x.1 = true ∨ r = [])) : Gath ps done (cur ++ [x]) r := by
  have hg := h.go (by simp)
  rw [group_end hg] at he
  refine ⟨by rw [h.all]; simp, by rw [h.grp]; simp, fun _ => ?_, fun e => absurd ((group_end hg).1 (.inr e)) he⟩
  have : cur ++ [x] ++ r = cur ++ x :: r := by simp
  rw [this, List.length_append, List.length_singleton]
  omega
theorem Gath.close {ps : List Part} {done : List (List Part)} {cur r : List Part} {x : Part} (h : Gath ps done cur (x :: r)) (he : endsG (cur.length + 1) x.1 = true ∨ r = []) : Gath ps (done ++ [cur ++ [x]]) [] r := by
  have hg := h.go (by simp)
  rw [group_end hg] at he
  have hgr := groups_step (ps := cur ++ x :: r) (by simp)
  have e1 : (cur ++ x :: r) = (cur ++ [x]) ++ r := by simp
  have hl : (cur ++ [x]).length = groupN (cur ++ x :: r) := by simp; omega
  rw [← hl] at hgr
  rw [show (cur ++ x :: r).take (cur ++ [x]).length = cur ++ [x] from by rw [e1, List.take_left], show (cur ++ x :: r).drop (cur ++ [x]).length = r from by rw [e1, List.drop_left]] at hgr
  refine ⟨by rw [h.all]; simp, by rw [h.grp, hgr]; simp, fun hr => groupN_pos hr, fun _ => rfl⟩
theorem Gath.stop {ps : List Part} {done : List (List Part)} {cur : List Part} (h : Gath ps done cur []) : groups ps = done := by
  rw [h.grp, h.fin rfl]
  simp [groups_nil]
theorem Gath.rest {ps : List Part} {done : List (List Part)} {cur rest : List Part} (h : Gath ps done cur rest) {i : Nat} (hi : i = done.flatten.length + cur.length) : rest = ps.drop i := by
  have : ps = (done.flatten ++ cur) ++ rest := by rw [h.all]; simp
  rw [this, hi, ← List.length_append, List.drop_left]
theorem Gath.few {ps : List Part} {done : List (List Part)} {cur rest : List Part} (h : Gath ps done cur rest) : 2 * done.length ≤ ps.length + 1 ∧ cur.length ≤ 32 := by
  have h1 := groups_half ps
  have h2 := congrArg List.length h.grp
  rw [List.length_append] at h2
  refine ⟨by omega, ?_⟩
  by_cases hr : rest = []
  · rw [h.fin hr]; simp
  · have := h.go hr
    have := (groupN_le (cur ++ rest)).2
    omega
/-- Objects laid one behind the other, each id once. -/
def keptP (os raw : List Pair) : List Pair := raw.foldl layP os
theorem keptP_append (os a b : List Pair) : keptP os (a ++ b) = keptP (keptP os a) b := List.foldl_append
theorem layC_kept (os : List Pair) (cs : List Bs) : layC os cs = keptP os (cs.map objOf) := by
  unfold layC keptP
  rw [List.foldl_map]
theorem layF_kept (level : Int) (os : List Pair) (gs : List (List Part)) : layF level os gs = keptP os (gs.map (fanO level)) := by
  unfold layF keptP
  rw [List.foldl_map]
/-- All levels over some parts, as the reference goes: the root, the objects one behind the other. -/
def riseR : Nat → Int → List Part → List Pair → Part × List Pair
  | 0, _, ps, raw => (ps.headD ([], 0), raw)
  | n + 1, level, ps, raw => if 1 < ps.length then riseR n (level + 1) ((groups ps).map (fanP level)) (raw ++ (groups ps).map (fanO level)) else (ps.headD ([], 0), raw)
theorem riseR_one {n : Nat} {level : Int} {ps : List Part} {raw : List Pair} (h : ¬ 1 < ps.length) : riseR n level ps raw = (ps.headD ([], 0), raw) := by
  cases n with
  | zero => rfl
  | succ n => rw [riseR, if_neg h]
theorem rise_same : ∀ (n : Nat) (level : Int) (ps : List Part) (raw : List Pair), riseP n level ps (keptP [] raw) = ((riseR n level ps raw).1, keptP [] (riseR n level ps raw).2)
  | 0, _, _, _ => rfl
  | n + 1, level, ps, raw => by
    rw [riseP, riseR]
    by_cases h : 1 < ps.length
    · rw [if_pos h, if_pos h, layF_kept, ← keptP_append, rise_same n]
    · rw [if_neg h, if_neg h]
def fileR (l : Bs) : Part × List Pair := riseR 19 1 ((cutC l).map partOf) ((cutC l).map objOf)
theorem file_same (l : Bs) : fileP l = ((fileR l).1, keptP [] (fileR l).2) := by
  unfold fileP fileR
  rw [layC_kept, rise_same]
theorem keptP_le : ∀ (raw os : List Pair), (keptP os raw).length ≤ os.length + raw.length
  | [], os => by simp [keptP]
  | o :: raw, os => by
    have h1 := keptP_le raw (layP os o)
    have h2 := layP_le os o
    show (keptP (layP os o) raw).length ≤ _
    simp only [List.length_cons]
    omega
theorem keptP_step (os raw : List Pair) (j : Nat) (h : j < raw.length) : keptP os (raw.take (j + 1)) = layP (keptP os (raw.take j)) raw[j] := by
  unfold keptP
  rw [List.take_succ_eq_append_getElem h, List.foldl_append]
  rfl
end Go.Proofs.YtljhnakjkocanaaGreatDoor
