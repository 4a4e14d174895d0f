/-
  What the statements lean on, plainly: names are names; how much a disk has behind each call. No program; no condition.
-/
import Derived.Test.YtbedacdakmcfpaaAppend
import Derived.Test.YtbedacdakmcfpaaCrashPure
namespace Go.Proofs.Ytbedacdakmcfpaa
variable {S : Dk}

def actNm : Ac → Prop
  | .made n _ => isNm n = true
  | .ren _ b => isNm b = true
  | _ => True
/-- All names that a disk has, or may come to, are names. -/
def Named (S : Dk) : Prop := (∀ p ∈ S.sure, isNm p.1 = true) ∧ ∀ a ∈ S.acts, actNm a
theorem done_named {l : Dir} {a : Ac} (hl : ∀ p ∈ l, isNm p.1 = true) (ha : actNm a) : ∀ p ∈ doneD l a, isNm p.1 = true := by
  intro p hp
  cases a with
  | made n f =>
    rcases mem_ins.1 hp with rfl | hp
    · exact ha
    · exact hl p hp
  | ren x y =>
    simp only [doneD] at hp
    cases hk : look l x with
    | none => rw [hk] at hp; exact hl p hp
    | some f =>
      rw [hk] at hp
      rcases mem_ins.1 hp with rfl | hp
      · exact ha
      · exact hl p (List.mem_filter.1 (List.mem_filter.1 hp).1).1
  | rem n => exact hl p (List.mem_filter.1 hp).1
  | more f k => exact hl p hp
theorem app_named (cs : List Ac) : ∀ {l : Dir}, (∀ p ∈ l, isNm p.1 = true) → (∀ a ∈ cs, actNm a) → ∀ p ∈ appD l cs, isNm p.1 = true := by
  induction cs with
  | nil => exact fun hl _ => hl
  | cons a r ih => exact fun hl ha => ih (done_named hl (ha a (by simp))) (fun x hx => ha x (by simp [hx]))
theorem Named.dir (h : Named S) (hk : Ok S) : ∀ p ∈ S.dir, isNm p.1 = true := by
  rw [hk.dir]
  exact app_named _ h.1 h.2
theorem named_new (r : Nat) : Named (Dk.new r) := ⟨by simp [Dk.new], by simp [Dk.new]⟩
theorem Named.same {T : Dk} (h : Named S) (h1 : T.sure = S.sure) (h2 : T.acts = S.acts) : Named T := by unfold Named; rw [h1, h2]; exact h
theorem Named.next (h : Named S) : Named S.next := h
theorem Named.begun (h : Named S) : Named S.begun := by
  unfold Dk.begun
  split
  · exact h
  · exact h
theorem Named.keepF (h : Named S) (f : Nat) : Named (S.keepF f) := ⟨h.1, fun a ha => h.2 a (List.mem_filter.1 ha).1⟩
theorem Named.undoF (h : Named S) (f : Nat) : Named (S.undoF f) := ⟨h.1, fun a ha => h.2 a (List.mem_filter.1 ha).1⟩
theorem Named.keepD (h : Named S) (hk : Ok S) : Named S.keepD := ⟨h.dir hk, fun a ha => h.2 a (List.mem_filter.1 ha).1⟩
theorem Named.undoD (h : Named S) : Named S.undoD := ⟨h.1, fun a ha => h.2 a (List.mem_filter.1 ha).1⟩
theorem Named.act (h : Named S) {a : Ac} (ha : actNm a) : Named (S.act a) := ⟨h.1, fun x hx => by
  rcases List.mem_append.1 hx with hx | hx
  · exact h.2 x hx
  · simp at hx; subst hx; exact ha⟩
theorem Named.mk1 (h : Named S) {n : Nm} (hn : isNm n = true) : Named (S.mk1 n) := ⟨h.1, fun x hx => by
  rcases List.mem_append.1 hx with hx | hx
  · exact h.2 x hx
  · simp at hx; subst hx; exact hn⟩
theorem Named.ext (h : Named S) (f : Nat) (b : List UInt8) : Named (S.ext f b) := ⟨h.1, fun x hx => by
  rcases List.mem_append.1 hx with hx | hx
  · exact h.2 x hx
  · simp at hx; subst hx; trivial⟩
theorem Named.append (h : Named S) (n : Nm) (b : List UInt8) : Named (S.append n b).1 := by
  unfold Dk.append
  by_cases h1 : S.on = false
  · rw [if_pos h1]; exact h
  rw [if_neg h1]
  by_cases h2 : isNm n = false
  · rw [if_pos h2]; exact h
  rw [if_neg h2]
  by_cases h3 : b ≠ [] ∧ S.room < S.used + b.length
  · rw [if_pos h3]; exact h
  rw [if_neg h3]
  by_cases h4 : S.fails S.n = true
  · rw [if_pos h4]; exact h
  rw [if_neg h4]
  have hn : isNm n = true := by simpa using h2
  show Named (S.next.app n b)
  unfold Dk.app
  split
  · split
    · exact h
    · exact Named.ext (S := S.next) h _ _
  · split
    · exact Named.mk1 (S := S.next) h hn
    · exact (Named.mk1 (S := S.next) h hn).ext _ _
theorem Named.sync (h : Named S) (n : Nm) : Named (S.sync n).1 := by
  unfold Dk.sync
  split
  · exact h.begun
  · split
    · exact h.begun.undoF _
    · exact h.begun.keepF _
theorem Named.syncDir (h : Named S) (hk : Ok S) : Named S.syncDir.1 := by
  unfold Dk.syncDir
  split
  · exact h
  · split
    · exact Named.undoD (S := S.next) h
    · exact Named.keepD (S := S.next) h hk.next
theorem Named.rename (h : Named S) (a b : Nm) : Named (S.rename a b).1 := by
  unfold Dk.rename
  by_cases h1 : S.on = false
  · rw [if_pos h1]; exact h
  rw [if_neg h1]
  by_cases h2 : isNm a = false ∨ isNm b = false
  · rw [if_pos h2]; exact h
  rw [if_neg h2]
  split
  · exact h
  split
  · exact h
  split
  · exact h
  · exact Named.act (S := S.next) h (show isNm b = true by simpa using fun e => h2 (Or.inr e))
theorem Named.remove (h : Named S) (n : Nm) : Named (S.remove n).1 := by
  unfold Dk.remove
  split
  · exact h.begun
  · split
    · exact h.begun
    · exact h.begun.act trivial
theorem Named.crash (h : Named S) (keep t : Int) : Named (S.crash keep t) := by
  refine ⟨app_named _ h.1 fun a ha => ?_, by simp [Dk.crash]⟩
  unfold stay at ha
  rcases List.mem_append.1 ha with ha | ha
  · exact h.2 a (List.mem_of_mem_take ha)
  · unfold torn at ha
    split at ha
    · simp at ha; subst ha; trivial
    · simp at ha

/-! ### how much -/
theorem bulk_modify_b (files : List Fl) (f : Nat) (g : Fl → Fl) (k : Nat) (hg : ∀ x, (g x).b.length ≤ x.b.length + k) : ((files.modify f g).map fun x => x.b.length).sum ≤ (files.map fun x => x.b.length).sum + k := by
  induction files generalizing f with
  | nil => simp
  | cons x r ih =>
    cases f with
    | zero => have := hg x; simp [List.modify_zero_cons]; omega
    | succ f => have := ih f; simp [List.modify_succ_cons] at this ⊢; omega
theorem bulk_ext (f : Nat) (b : List UInt8) : (S.ext f b).bulk ≤ S.bulk + b.length + 1 := by
  have := bulk_modify_b S.files f (fun x => { x with b := x.b ++ b }) b.length (fun x => by simp)
  unfold Dk.bulk Dk.ext
  simp only [List.length_append, List.length_modify, List.length_singleton]
  omega
theorem bulk_nx : S.next.bulk = S.bulk + 1 := by unfold Dk.bulk Dk.next; simp; omega
theorem bulk_bg : S.begun.bulk ≤ S.bulk + 1 := by
  unfold Dk.begun
  split
  · omega
  · rw [bulk_nx]
    exact Nat.le_refl _
theorem bulk_append (n : Nm) (b : List UInt8) : (S.append n b).1.bulk ≤ S.bulk + b.length + 4 := by
  have h1 := bulk_nx (S := S)
  unfold Dk.append
  split
  · show S.bulk ≤ _; omega
  split
  · show S.next.bulk ≤ _; omega
  split
  · show S.next.bulk ≤ _; omega
  split
  · show S.next.bulk ≤ _; omega
  show (S.next.app n b).bulk ≤ _
  unfold Dk.app
  split
  · split
    · omega
    · have := bulk_ext (S := S.next) (by assumption) b; omega
  · have h2 := bulk_mk1 S.next n
    split
    · omega
    · have := bulk_ext (S := S.next.mk1 n) S.next.files.length b
      omega
theorem bulk_keepF (f : Nat) : (S.keepF f).bulk ≤ S.bulk := by
  have := bulk_modify_b S.files f (fun x => { x with sure := x.b.length }) 0 (fun x => by simp)
  have h2 : (S.acts.filter fun a => !isOf f a).length ≤ S.acts.length := List.length_filter_le _ _
  unfold Dk.bulk Dk.keepF
  simp only [List.length_modify]
  omega
theorem bulk_undoF (f : Nat) : (S.undoF f).bulk ≤ S.bulk := by
  have := bulk_modify_b S.files f (fun x => { x with b := x.b.take x.sure }) 0 (fun x => by simp; omega)
  have h2 : (S.acts.filter fun a => !isOf f a).length ≤ S.acts.length := List.length_filter_le _ _
  unfold Dk.bulk Dk.undoF
  simp only [List.length_modify]
  omega
theorem bulk_sync (n : Nm) : (S.sync n).1.bulk ≤ S.bulk + 1 := by
  have h := bulk_bg (S := S)
  unfold Dk.sync
  split
  · exact h
  · split
    · exact Nat.le_trans (bulk_undoF (S := S.begun) _) h
    · exact Nat.le_trans (bulk_keepF (S := S.begun) _) h
theorem bulk_syncDir : S.syncDir.1.bulk ≤ S.bulk + 1 := by
  have h := bulk_nx (S := S)
  have h2 : (S.next.acts.filter isMore).length ≤ S.next.acts.length := List.length_filter_le _ _
  unfold Dk.syncDir
  split
  · show S.bulk ≤ _; omega
  · split
    · show S.next.undoD.bulk ≤ _
      unfold Dk.undoD
      unfold Dk.bulk at h ⊢
      simp only at h h2 ⊢
      omega
    · show S.next.keepD.bulk ≤ _
      unfold Dk.keepD
      unfold Dk.bulk at h ⊢
      simp only at h h2 ⊢
      omega
theorem bulk_act (a : Ac) : (S.act a).bulk = S.bulk + 1 := by unfold Dk.bulk Dk.act; simp; omega
theorem bulk_rename (a b : Nm) : (S.rename a b).1.bulk ≤ S.bulk + 2 := by
  have h := bulk_nx (S := S)
  unfold Dk.rename
  split
  · show S.bulk ≤ _; omega
  split
  · show S.next.bulk ≤ _; omega
  split
  · show S.next.bulk ≤ _; omega
  split
  · show S.next.bulk ≤ _; omega
  split
  · show S.next.bulk ≤ _; omega
  · show (S.next.act _).bulk ≤ _; rw [bulk_act]; omega
theorem bulk_remove (n : Nm) : (S.remove n).1.bulk ≤ S.bulk + 2 := by
  have h := bulk_bg (S := S)
  unfold Dk.remove
  split
  · show S.begun.bulk ≤ _; omega
  · split
    · show S.begun.bulk ≤ _; omega
    · show (S.begun.act _).bulk ≤ _; rw [bulk_act]; omega
theorem bulk_crash (keep t : Int) : (S.crash keep t).bulk ≤ S.bulk := by
  have key : ∀ (l : List Fl) (g : Nat → Nat → Nat) (k : Nat), ((l.mapIdx fun i x => (⟨x.b.take (g (i + k) x.sure), g (i + k) x.sure⟩ : Fl)).map fun x => x.b.length).sum ≤ (l.map fun x => x.b.length).sum := by
    intro l
    induction l with
    | nil => intro g k; simp
    | cons x r ih =>
      intro g k
      have := ih g (k + 1)
      rw [List.mapIdx_cons]
      simp only [List.map_cons, List.sum_cons, List.length_take]
      have e : (fun (i : Nat) (x : Fl) => (⟨x.b.take (g (i + 1 + k) x.sure), g (i + 1 + k) x.sure⟩ : Fl)) = fun i x => ⟨x.b.take (g (i + (k + 1)) x.sure), g (i + (k + 1)) x.sure⟩ := by
        funext i x
        rw [show i + 1 + k = i + (k + 1) by omega]
      rw [e]
      omega
  have := key S.files (fun i s => s + moreSum (stay S.acts keep t) i) 0
  unfold Dk.bulk Dk.crash
  simp only [List.length_mapIdx, List.length_nil]
  simp only [Nat.add_zero] at this
  omega
end Go.Proofs.Ytbedacdakmcfpaa
