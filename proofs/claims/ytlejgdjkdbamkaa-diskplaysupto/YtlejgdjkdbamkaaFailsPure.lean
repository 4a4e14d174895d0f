/-
  What DiskFails' calls do, plainly. No program; no condition.
-/
import Derived.Test.YtlejgdjkdbamkaaJStands
namespace Go.Proofs.Ytlejgdjkdbamkaa

def kept : Nm := [107, 101, 112, 116]
def other : Nm := [111, 116, 104, 101, 114]
theorem kept_nm : isNm kept = true := by decide
theorem look_kept (l : Dir) : look ((kept, 0) :: l) kept = some 0 := by simp [look]
/-- A disk whose one sure name is kept; more bytes came behind its sure ones. -/
def held (o x : List UInt8) (acts : List Ac) (n : Nat) (fails : Nat → Bool) : Dk :=
  { files := [⟨o ++ x, o.length⟩], dir := [(kept, 0)], sure := [(kept, 0)], acts := acts, room := 1048576, n := n, cut := none, fails := fails }

theorem first_append (o : List UInt8) (ho : o.length ≤ 1000) : ((Dk.new 1048576).append kept o).2 = 0 ∧ ((Dk.new 1048576).append kept o).1 = (Dk.new 1048576).next.app kept o := by
  have h3 : ¬ (o ≠ [] ∧ (Dk.new 1048576).room < (Dk.new 1048576).used + o.length) := by
    rintro ⟨_, h⟩
    have e : (Dk.new 1048576).used = 0 := rfl
    rw [e] at h
    simp [Dk.new] at h
    omega
  unfold Dk.append
  rw [if_neg (by decide), if_neg (by rw [kept_nm]; decide), if_neg h3, if_neg (by simp [Dk.new])]
  exact ⟨rfl, rfl⟩
theorem first_sync (o : List UInt8) : let S := (Dk.new 1048576).next.app kept o
    (S.sync kept).2 = 0 ∧ ((S.sync kept).1.syncDir).2 = 0 ∧ ((S.sync kept).1.syncDir).1 = held o [] [] 3 (fun _ => false) := by
  by_cases h : o = []
  · subst h
    exact ⟨by decide, by decide, rfl⟩
  · have e : (Dk.new 1048576).next.app kept o = { files := [⟨o, 0⟩], dir := [(kept, 0)], sure := [], acts := [.made kept 0, .more 0 o.length], room := 1048576, n := 1, cut := none, fails := fun _ => false } := by
      unfold Dk.app
      rw [show look (Dk.new 1048576).next.dir kept = none from rfl]
      show (if o = [] then _ else _) = _
      rw [if_neg h]
      rfl
    intro S
    have eS : S = _ := e
    have hs : S.sync kept = ({ files := [⟨o, o.length⟩], dir := [(kept, 0)], sure := [], acts := [.made kept 0], room := 1048576, n := 2, cut := none, fails := fun _ => false }, 0) := by
      rw [eS]
      rfl
    rw [hs]
    exact ⟨rfl, rfl, by simp [held]; rfl⟩
theorem held_used (o x : List UInt8) (acts : List Ac) (n : Nat) (f : Nat → Bool) : (held o x acts n f).used = o.length + x.length := by
  show ([lenOf _ 0]).sum = _
  simp [held, lenOf]
theorem held_bulk (o x : List UInt8) (acts : List Ac) (n : Nat) (f : Nat → Bool) : (held o x acts n f).bulk = o.length + x.length + acts.length + 1 + n := by
  simp [held, Dk.bulk]
theorem held_append (o x m : List UInt8) (acts : List Ac) (n : Nat) (h : o.length + x.length + m.length ≤ 1048576) :
    ((held o x acts n fun _ => false).append kept m).2 = 0 ∧ ∃ y cs, ((held o x acts n fun _ => false).append kept m).1 = held o (x ++ y) (acts ++ cs) (n + 1) (fun _ => false) ∧ y.length = m.length ∧ cs.length ≤ 1 ∧ ∀ a ∈ cs, ∃ k, a = .more 0 k := by
  have h3 : ¬ (m ≠ [] ∧ (held o x acts n fun _ => false).room < (held o x acts n fun _ => false).used + m.length) := by
    rintro ⟨_, h4⟩
    rw [held_used] at h4
    simp [held] at h4
    omega
  have e : (held o x acts n fun _ => false).append kept m = ((held o x acts n fun _ => false).next.app kept m, 0) := by
    unfold Dk.append
    rw [if_neg (by simp [held, Dk.on]), if_neg (by rw [kept_nm]; decide), if_neg h3, if_neg (by simp [held])]
  rw [e]
  refine ⟨rfl, ?_⟩
  show ∃ y cs, (held o x acts n fun _ => false).next.app kept m = _ ∧ _
  unfold Dk.app
  rw [show look (held o x acts n fun _ => false).next.dir kept = some 0 from look_kept _]
  by_cases hm : m = []
  · subst hm
    refine ⟨[], [], ?_, rfl, by simp, by simp⟩
    simp [held, Dk.next]
  · refine ⟨m, [.more 0 m.length], ?_, rfl, by simp, by simp⟩
    show (if m = [] then _ else _) = _
    rw [if_neg hm]
    simp [held, Dk.next, Dk.ext]
theorem held_sync (o x : List UInt8) (acts : List Ac) (n : Nat) (ha : ∀ a ∈ acts, ∃ k, a = .more 0 k) :
    (((held o x acts n fun _ => false).failAt [(n : Int)]).sync kept).2 = 34 ∧ (((held o x acts n fun _ => false).failAt [(n : Int)]).sync kept).1 = held o [] [] (n + 1) (fun k => false || [(n : Int)].contains (k : Int)) := by
  have hon : ((held o x acts n fun _ => false).failAt [(n : Int)]).onFile kept = .ok (0, true) := by
    unfold Dk.onFile
    rw [if_neg (by simp [held, Dk.failAt, Dk.on]), if_neg (by rw [kept_nm]; decide)]
    rw [show look ((held o x acts n fun _ => false).failAt [(n : Int)]).dir kept = some 0 from look_kept _]
    simp [held, Dk.failAt]
  unfold Dk.sync
  rw [hon]
  refine ⟨rfl, ?_⟩
  show (((held o x acts n fun _ => false).failAt [(n : Int)]).begun.undoF 0) = _
  have hf : acts.filter (fun a => !isOf 0 a) = [] := List.filter_eq_nil_iff.2 fun a h => by
    obtain ⟨k, rfl⟩ := ha a h
    simp [isOf]
  unfold Dk.begun
  rw [if_neg (by simp [held, Dk.failAt, Dk.on])]
  simp [held, Dk.failAt, Dk.next, Dk.undoF, hf]
theorem held_crash (o : List UInt8) (n : Nat) (f : Nat → Bool) (keep t : Int) : ((held o [] [] n f).crash keep t).read kept = (o, 0) ∧ ((held o [] [] n f).crash keep t).begun.bulk ≤ o.length + 2 := by
  have e : (held o [] [] n f).crash keep t = held o [] [] 0 (fun _ => false) := by
    simp [held, Dk.crash, stay, torn, moreSum, appD]
  rw [e]
  refine ⟨?_, ?_⟩
  · unfold Dk.read Dk.onFile
    rw [if_neg (by simp [held, Dk.on]), if_neg (by rw [kept_nm]; decide)]
    rw [show look (held o [] [] 0 fun _ => false).dir kept = some 0 from look_kept _]
    simp [held, Dk.bytes]
  · unfold Dk.begun
    rw [if_neg (by simp [held, Dk.on])]
    simp [held, Dk.next, Dk.bulk]
theorem held_size (o : List UInt8) (n : Nat) (f : Nat → Bool) : (held o [] [] n f).size kept = (o.length : Int) := by
  unfold Dk.size
  rw [show look (held o [] [] n f).dir kept = some 0 from look_kept _]
  simp [held, Dk.bytes]

/-! ### what stays -/
section
variable (S : Dk)
theorem stay_append (n : Nm) (b : List UInt8) : (S.append n b).1.sure = S.sure ∧ (S.append n b).1.cut = S.cut := by
  unfold Dk.append
  split
  · exact ⟨rfl, rfl⟩
  split
  · exact ⟨rfl, rfl⟩
  split
  · exact ⟨rfl, rfl⟩
  split
  · exact ⟨rfl, rfl⟩
  show (S.next.app n b).sure = _ ∧ (S.next.app n b).cut = _
  unfold Dk.app
  split
  · split <;> exact ⟨rfl, rfl⟩
  · split <;> exact ⟨rfl, rfl⟩
theorem stay_begun : S.begun.sure = S.sure ∧ S.begun.cut = S.cut := by
  unfold Dk.begun
  split <;> exact ⟨rfl, rfl⟩
theorem stay_sync (n : Nm) : (S.sync n).1.sure = S.sure ∧ (S.sync n).1.cut = S.cut := by
  unfold Dk.sync
  split
  · exact stay_begun S
  · split <;> exact stay_begun S
theorem stay_rename (a b : Nm) : (S.rename a b).1.sure = S.sure ∧ (S.rename a b).1.cut = S.cut := by
  unfold Dk.rename
  split
  · exact ⟨rfl, rfl⟩
  split
  · exact ⟨rfl, rfl⟩
  split
  · exact ⟨rfl, rfl⟩
  split
  · exact ⟨rfl, rfl⟩
  split <;> exact ⟨rfl, rfl⟩
theorem fails_dir (hc : S.cut = none) : ((S.failAt [(S.n : Int)]).syncDir).2 = 34 ∧ ((S.failAt [(S.n : Int)]).syncDir).1.dir = S.sure ∧ ∀ keep t, (((S.failAt [(S.n : Int)]).syncDir).1.crash keep t).dir = S.sure := by
  have e : (S.failAt [(S.n : Int)]).syncDir = ((S.failAt [(S.n : Int)]).next.undoD, 34) := by
    unfold Dk.syncDir
    rw [if_neg (by simp [Dk.failAt, Dk.on, hc]), if_pos (by simp [Dk.failAt])]
  rw [e]
  refine ⟨rfl, rfl, fun keep t => ?_⟩
  show appD S.sure (stay (S.acts.filter isMore) keep t) = S.sure
  refine (more_only fun a ha => ?_).1 _
  unfold stay at ha
  rcases List.mem_append.1 ha with ha | ha
  · exact filter_isMore _ a (List.mem_of_mem_take ha)
  · unfold torn at ha
    split at ha
    · simp at ha; subst ha; rfl
    · simp at ha
end
end Go.Proofs.Ytlejgdjkdbamkaa
