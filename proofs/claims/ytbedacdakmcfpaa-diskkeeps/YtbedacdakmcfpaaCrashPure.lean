/-
  What a crash leaves, plain. No condition.
-/
import Derived.Test.YtbedacdakmcfpaaODisk
namespace Go.Proofs.Ytbedacdakmcfpaa
open Go.RowKit

theorem torn_more (t : Nat) (ls : List Ac) : ∀ a ∈ torn t ls, isMore a = true := by
  intro a ha
  unfold torn at ha
  split at ha
  · simp at ha
    subst ha
    rfl
  · cases ha
theorem app_stay (l : Dir) (ls : List Ac) (keep t : Int) : appD l (stay ls keep t) = appD l (ls.take keep.toNat) := by
  unfold stay
  rw [appD_append, (more_only (torn_more _ _)).1]
theorem madeIds_take (ls : List Ac) (k : Nat) : (madeIds (ls.take k)).Sublist (madeIds ls) := (List.take_sublist k ls).filterMap _
theorem Ok.upto {S : Dk} (h : Ok S) (k : Nat) : Sorted (appD S.sure (S.acts.take k)) ∧ (ids (appD S.sure (S.acts.take k))).Nodup ∧ ∀ i ∈ ids (appD S.sure (S.acts.take k)), S.live i := by
  have hv : Valid S.sure (S.acts.take k) := by
    have := h.valid
    rw [← List.take_append_drop k S.acts] at this
    exact (valid_append.1 this).1
  refine ⟨sorted_app h.sortS hv, ?_, fun i hi => ?_⟩
  · have h1 : (ids S.sure ++ (madeIds (S.acts.take k) ++ [])).Nodup := by
      rw [List.append_nil]
      exact ((List.Sublist.refl _).append (madeIds_take _ _)).nodup h.one
    have := ids_app h.sortS hv h1
    rwa [List.append_nil] at this
  · rcases mem_app hi with h1 | h1
    · exact Or.inl h1
    · exact Or.inr ((madeIds_take _ _).subset h1)
theorem moreSum_torn (t : Nat) (ls : List Ac) (i : Nat) : moreSum (torn t ls) i ≤ moreSum ls i := by
  unfold torn
  split
  · rename_i f k r
    rw [moreSum_cons (.more f k) r]
    have : moreSum [.more f (min k t)] i ≤ moreSum [.more f k] i := by
      simp only [moreSum, List.map_cons, List.map_nil, List.sum_cons, List.sum_nil]
      split <;> omega
    omega
  · simp [moreSum]
theorem moreSum_stay (ls : List Ac) (keep t : Int) (i : Nat) : moreSum (stay ls keep t) i ≤ moreSum ls i := by
  unfold stay
  rw [moreSum_append]
  have h1 : moreSum ls i = moreSum (ls.take keep.toNat) i + moreSum (ls.drop keep.toNat) i := by
    rw [← moreSum_append, List.take_append_drop]
  have := moreSum_torn t.toNat (ls.drop keep.toNat) i
  omega
theorem Ok.quota {S : Dk} (h : Ok S) (keep t : Int) {i : Nat} {x : Fl} (hx : S.files[i]? = some x) : x.sure + moreSum (stay S.acts keep t) i ≤ x.b.length := by
  have h1 := h.lens i x hx
  have h2 := moreSum_stay S.acts keep t i
  omega
theorem crash_file {S : Dk} {keep t : Int} {i : Nat} {y : Fl} (h : (S.crash keep t).files[i]? = some y) : ∃ x, S.files[i]? = some x ∧ y = ⟨x.b.take (x.sure + moreSum (stay S.acts keep t) i), x.sure + moreSum (stay S.acts keep t) i⟩ := by
  have h1 : (S.files.mapIdx fun i x => (⟨x.b.take (x.sure + moreSum (stay S.acts keep t) i), x.sure + moreSum (stay S.acts keep t) i⟩ : Fl))[i]? = some y := h
  rw [List.getElem?_mapIdx] at h1
  cases hx : S.files[i]? with
  | none => rw [hx] at h1; cases h1
  | some x =>
    rw [hx] at h1
    simp at h1
    exact ⟨x, rfl, h1.symm⟩
theorem Ok.crash {S : Dk} (h : Ok S) (keep t : Int) : Ok (S.crash keep t) where
  sortS := by
    show Sorted (appD S.sure (stay S.acts keep t))
    rw [app_stay]
    exact (h.upto _).1
  valid := trivial
  dir := rfl
  one := by
    show (ids (appD S.sure (stay S.acts keep t)) ++ madeIds []).Nodup
    rw [app_stay]
    simpa [madeIds] using (h.upto keep.toNat).2.1
  idS i hi := by
    show i < (S.files.mapIdx _).length
    have hi' : i ∈ ids (appD S.sure (stay S.acts keep t)) := hi
    rw [app_stay] at hi'
    rw [List.length_mapIdx]
    exact h.liveLt ((h.upto _).2.2 i hi')
  idA i hi := by cases hi
  idM i hi := by cases hi
  lens i y hy := by
    obtain ⟨x, hx, rfl⟩ := crash_file hy
    have := h.quota keep t hx
    show (x.b.take _).length = (x.sure + moreSum (stay S.acts keep t) i) + 0
    rw [List.length_take, Nat.min_eq_left this, Nat.add_zero]
end Go.Proofs.Ytbedacdakmcfpaa
