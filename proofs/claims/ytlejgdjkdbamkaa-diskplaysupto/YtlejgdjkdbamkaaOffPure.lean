/-
  What DiskCrashes' and DiskOff's calls do, plainly. No program; no condition.
-/
import Derived.Test.YtlejgdjkdbamkaaJBegin
import Derived.Test.YtlejgdjkdbamkaaJCrash
namespace Go.Proofs.Ytlejgdjkdbamkaa
variable {S : Dk}

/-! ### a crash that keeps all; a crash of what a crash left -/
theorem stay_all (cs : List Ac) : stay cs (cs.length : Int) 0 = cs := by
  unfold stay
  simp [torn]
theorem stay_none (keep t : Int) : stay [] keep t = [] := by
  unfold stay
  simp [torn]
theorem crash_all_dir (h : Ok S) : (S.crash (S.acts.length : Int) 0).dir = S.dir := by
  show appD S.sure (stay S.acts _ 0) = _
  rw [stay_all, ← h.dir]
theorem crash_bytes (keep t : Int) (f : Nat) : (S.crash keep t).bytes f = (S.bytes f).take (((S.files[f]?).map (·.sure)).getD 0 + moreSum (stay S.acts keep t) f) := by
  unfold Dk.bytes Dk.crash
  simp only [List.getElem?_mapIdx]
  cases S.files[f]? with
  | none => simp
  | some x => simp
theorem crash_all_bytes (h : Ok S) (f : Nat) : (S.crash (S.acts.length : Int) 0).bytes f = S.bytes f := by
  rw [crash_bytes, stay_all]
  cases hf : S.files[f]? with
  | none => simp [Dk.bytes, hf]
  | some x =>
    have := h.lens f x hf
    have e : S.bytes f = x.b := by simp [Dk.bytes, hf]
    rw [e]
    refine List.take_of_length_le ?_
    simp
    omega
theorem crash_all_size (h : Ok S) (n : Nm) : (S.crash (S.acts.length : Int) 0).size n = S.size n := by
  unfold Dk.size
  rw [crash_all_dir h]
  cases look S.dir n with
  | none => rfl
  | some f =>
    show (((S.crash (S.acts.length : Int) 0).bytes f).length : Int) = _
    rw [crash_all_bytes h]
theorem crash_again_dir (keep t k2 t2 : Int) : ((S.crash keep t).crash k2 t2).dir = (S.crash keep t).dir := by
  show appD (appD S.sure (stay S.acts keep t)) (stay [] k2 t2) = _
  rw [stay_none]
  rfl
theorem crash_again_bytes (keep t k2 t2 : Int) (f : Nat) : ((S.crash keep t).crash k2 t2).bytes f = (S.crash keep t).bytes f := by
  rw [crash_bytes]
  have e : (S.crash keep t).acts = [] := rfl
  rw [e, stay_none, crash_bytes]
  have e2 : (((S.crash keep t).files[f]?).map (·.sure)).getD 0 = (match S.files[f]? with | none => 0 | some x => x.sure + moreSum (stay S.acts keep t) f) := by
    unfold Dk.crash
    simp only [List.getElem?_mapIdx]
    cases S.files[f]? <;> simp
  rw [e2]
  cases hf : S.files[f]? with
  | none => simp [Dk.bytes, hf]
  | some x =>
    simp only [Option.map_some, Option.getD_some]
    rw [List.take_take]
    simp [moreSum]
/-- A disk on, of which nothing fails, read. -/
def Calm (S : Dk) : Prop := S.cut = none ∧ ∀ k, S.fails k = false
theorem calm_crash (keep t : Int) : Calm (S.crash keep t) := ⟨rfl, fun _ => rfl⟩
theorem Calm.begun (h : Calm S) : Calm S.begun ∧ S.begun.dir = S.dir ∧ (∀ f, S.begun.bytes f = S.bytes f) ∧ S.begun.n = S.n + 1 := by
  unfold Dk.begun
  rw [if_neg (by simp [Dk.on, h.1])]
  exact ⟨h, rfl, fun _ => rfl, rfl⟩
theorem Calm.read (h : Calm S) {n : Nm} {f : Nat} (hn : isNm n = true) (hl : look S.dir n = some f) : S.read n = (S.bytes f, 0) := by
  have e : S.onFile n = .ok (f, false) := by
    unfold Dk.onFile
    rw [if_neg (by simp [Dk.on, h.1]), if_neg (by rw [hn]; decide), hl]
    simp [h.2]
  unfold Dk.read
  rw [e]
  rfl

/-! ### the power gone -/
theorem off_on (h : S.cut = some S.n) : S.on = false := by simp [Dk.on, h]
theorem off_file (h : S.on = false) (n : Nm) : S.onFile n = .error 35 := by unfold Dk.onFile; rw [if_pos h]
theorem off_begun (h : S.on = false) : S.begun = S := by unfold Dk.begun; rw [if_pos h]
theorem off_append (h : S.on = false) (n : Nm) (b : List UInt8) : S.append n b = (S, 35) := by unfold Dk.append; rw [if_pos h]
theorem off_read (h : S.on = false) (n : Nm) : S.read n = ([], 35) := by unfold Dk.read; rw [off_file h]
theorem off_sync (h : S.on = false) (n : Nm) : S.sync n = (S, 35) := by unfold Dk.sync; rw [off_file h]; simp only [off_begun h]
theorem off_syncDir (h : S.on = false) : S.syncDir = (S, 35) := by unfold Dk.syncDir; rw [if_pos h]
theorem off_rename (h : S.on = false) (a b : Nm) : S.rename a b = (S, 35) := by unfold Dk.rename; rw [if_pos h]
theorem off_remove (h : S.on = false) (n : Nm) : S.remove n = (S, 35) := by unfold Dk.remove; rw [off_file h]; simp only [off_begun h]
end Go.Proofs.Ytlejgdjkdbamkaa
