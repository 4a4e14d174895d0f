/-
  Pairs and puts within bounds, plainly. No program.
-/
import Derived.Test.YtblniomnhpedjaaGreatDoorF22TRight
import Derived.Test.YtblniomnhpedjaaGreatDoorF25TKeys
namespace Go.Proofs.YtblniomnhpedjaaGreatDoor

/-- A pair that a table may have. -/
def okP (p : Pair) : Prop := p.1.length ≤ 2048 ∧ p.2.length ≤ 4096
theorem putOk_len {p : PutM} (h : putOkT p = true) : p.1.length ≤ 2048 ∧ p.2.1.length ≤ 4096 := by
  unfold putOkT at h
  simp only [Bool.and_eq_true, Bool.not_eq_true', decide_eq_false_iff_not] at h
  omega
theorem done_each {l : List Pair} (h : ∀ x ∈ l, okP x) {p : PutM} (hp : putOkT p = true) : ∀ x ∈ doneM l p, okP x := by
  intro x hx
  unfold doneM at hx
  rcases List.mem_append.1 hx with hx | hx
  · rcases List.mem_append.1 hx with hx | hx
    · exact h x (List.mem_of_mem_take hx)
    · by_cases hg : p.2.2 = true
      · rw [if_pos hg] at hx; cases hx
      · rw [if_neg hg] at hx
        simp at hx
        subst hx
        exact putOk_len hp
  · exact h x (List.mem_of_mem_drop hx)
theorem doneA_each : ∀ (ps : List PutM) {l : List Pair}, (∀ x ∈ l, okP x) → ps.all putOkT = true → ∀ x ∈ doneA l ps, okP x
  | [], _, h, _ => h
  | p :: r, l, h, hp => by
    rw [List.all_cons, Bool.and_eq_true] at hp
    exact doneA_each r (done_each h hp.1) hp.2
theorem right_all {ps : List PutM} (h : rightT ps = true) : ps.length ≤ 2000 ∧ ps.all putOkT = true ∧ textT ps ≤ 1048576 := by
  unfold rightT at h
  simp only [Bool.and_eq_true, decide_eq_true_eq] at h
  exact ⟨h.1.1, h.1.2, h.2⟩
theorem rec_len (p : PutM) : (recT p).length ≤ p.1.length + p.2.1.length + 20 := by
  unfold recT
  have h1 := txt_le p.1
  have h2 := txt_le p.2.1
  split
  · rw [List.append_nil]; omega
  · rw [List.length_append]; omega
theorem most_le (ps : List PutM) : mostT (ps.map recT) ≤ 30 + 30 * ps.length + textT ps := by
  unfold mostT textT
  induction ps with
  | nil => simp
  | cons p r ih =>
    have := rec_len p
    simp only [List.map_cons, List.sum_cons, List.length_cons] at ih ⊢
    omega
end Go.Proofs.YtblniomnhpedjaaGreatDoor
