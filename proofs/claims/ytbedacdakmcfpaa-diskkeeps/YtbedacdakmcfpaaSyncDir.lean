/-
  What SyncDir answers, and does. Condition: a disk within bounds.
-/
import Derived.Test.YtbedacdakmcfpaaUndoDir
namespace Go.Proofs.Ytbedacdakmcfpaa
open Go.RowKit

section
variable {w w' : World} {F : Nat → Prop} {d : Nat} {S : Dk} {G : Gh}

set_option maxRecDepth 20000 in
set_option maxHeartbeats 400000 in
/-- SyncDir. -/
theorem syncDir_rep (h : Rep w F d S G) (hb : S.bulk + 1 < 1099511627776) : Calls Try.prog 21 #[.pointer (some ⟨d, 0, none⟩)] w fun e w' => e = .returned (.int .i64 S.syncDir.2) ∧ ∃ G', Rep w' (Fx F w w') d S.syncDir.1 G' ∧ Chg F w w' := by
  have hnl := n_le S
  have hbb := bulk_next S
  unfold Dk.syncDir
  by_cases hon : S.on = false
  · simp only [if_pos hon]
    have hbeg := beginOff_rep h hon
    go_enter Try.func21, Try.ntmps21
    go_wp2_with (go_at_call 45; refine hbeg.mono ?_; rintro e w1 ⟨rfl, hr1, hc1⟩)
    go_ret
    exact ⟨rfl, G, hr1.mono fun k hk => Or.inl hk, hc1.mono fun _ _ f => f.elim⟩
  simp only [if_neg hon]
  have hon' : S.on = true := by simpa using hon
  have hbeg := beginOn_rep0 h hon' (by omega)
  by_cases hf : S.fails S.n = true
  · simp only [if_pos hf]
    rw [hf] at hbeg
    have hun : ∀ {w1 : World} {G' : Gh}, Rep w1 (Fx F w w1) d S.next G' → G'.now ≠ none → _ := fun {w1 G'} hr hne => undoDir_rep hr (Option.ne_none_iff_exists'.1 hne).choose_spec (by omega)
    go_enter Try.func21, Try.ntmps21
    go_wp2_with (first
      | (go_at_call 45; refine hbeg.mono ?_; rintro e w1 ⟨rfl, now, sure, hne, hr1, hc1⟩)
      | (go_at_call 52; refine (hun hr1 hne).mono ?_; rintro e w2 ⟨rfl, ⟨G2, hr2⟩, hc2⟩))
    go_ret
    exact ⟨rfl, G2, hr2.mono (Fx.trans hc1.size hc2.size), hc1.fx hc2⟩
  · simp only [if_neg hf]
    rw [show S.fails S.n = false by simpa using hf] at hbeg
    have hun : ∀ {w1 : World} {G' : Gh}, Rep w1 (Fx F w w1) d S.next G' → _ := fun {w1 G'} hr => keepDir_rep hr (by omega)
    go_enter Try.func21, Try.ntmps21
    go_wp2_with (first
      | (go_at_call 45; refine hbeg.mono ?_; rintro e w1 ⟨rfl, now, sure, hne, hr1, hc1⟩)
      | (go_at_call 53; refine (hun hr1).mono ?_; rintro e w2 ⟨rfl, ⟨G2, hr2⟩, hc2⟩))
    go_ret
    exact ⟨rfl, G2, hr2.mono (Fx.trans hc1.size hc2.size), hc1.fx hc2⟩
end
end Go.Proofs.Ytbedacdakmcfpaa
