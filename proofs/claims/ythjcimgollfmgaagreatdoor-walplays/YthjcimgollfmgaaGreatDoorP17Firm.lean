/-
  Texts joined: Firm, Firm2, Log, Name.
-/
import Derived.Test.YthjcimgollfmgaaGreatDoorP9ODisk
import Derived.Test.YthjcimgollfmgaaGreatDoorP16File2
import Derived.Test.YthjcimgollfmgaaGreatDoorP15File
/-
  How a log's bytes lie on a disk for good, plainly, and what extend makes of that. No program here. Conditions: none.
-/
namespace Go.Proofs.YthjcimgollfmgaaGreatDoor
variable {z : Nm} {S : Dk} {all b : List UInt8}

/-- The name z has these bytes, for good: whatever crashes, it has them. -/
def Firm (z : Nm) (S : Dk) (all : List UInt8) : Prop := (Gone z S ∧ all = []) ∨ ∃ f, Kx z S f all.length all
theorem anew_ne (z : Nm) : z ≠ z ++ anewB := fun e => by
  have := congrArg List.length e
  simp [anewB] at this
theorem Firm.begun (h : Firm z S all) : Firm z S.begun all := by
  rcases h with ⟨h, e⟩ | ⟨f, h⟩
  · exact .inl ⟨h.begun, e⟩
  · exact .inr ⟨f, h.begun⟩
theorem Firm.append (h : Firm z S all) (hk : Ok S) {n : Nm} (hn : z ≠ n) (b : List UInt8) : Firm z (S.append n b).1 all := by
  rcases h with ⟨h, e⟩ | ⟨f, h⟩
  · exact .inl ⟨h.append hn b, e⟩
  · exact .inr ⟨f, h.append hk hn b⟩
theorem Firm.sync (h : Firm z S all) (hk : Ok S) {n : Nm} (hn : z ≠ n) : Firm z (S.sync n).1 all := by
  rcases h with ⟨h, e⟩ | ⟨f, h⟩
  · exact .inl ⟨h.sync n, e⟩
  · exact .inr ⟨f, h.sync hk hn⟩
theorem Firm.syncDir (h : Firm z S all) : Firm z S.syncDir.1 all := by
  rcases h with ⟨h, e⟩ | ⟨f, h⟩
  · exact .inl ⟨h.syncDir, e⟩
  · exact .inr ⟨f, h.syncDir⟩
theorem Firm.remove (h : Firm z S all) {n : Nm} (hn : z ≠ n) : Firm z (S.remove n).1 all := by
  rcases h with ⟨h, e⟩ | ⟨f, h⟩
  · exact .inl ⟨h.remove hn, e⟩
  · exact .inr ⟨f, h.remove hn⟩
theorem Firm.tidy (h : Firm z S all) : Firm z (tidyW S z).1 all := by
  unfold tidyW
  split
  · exact h
  · exact h.remove (anew_ne z)
theorem Firm.settle (h : Firm z S all) (s : Bool) : Firm z (settleW S s).1 all := by
  unfold settleW
  split
  · exact h
  · exact h.syncDir
theorem Firm.crash (h : Firm z S all) (hk : Ok S) (keep t : Int) : Firm z (S.crash keep t) all := by
  rcases h with ⟨h, e⟩ | ⟨f, h⟩
  · exact .inl ⟨h.crash keep t, e⟩
  · obtain ⟨k, h1, h2⟩ := h.crash hk keep t
    have e : all.take k = all := List.take_of_length_le (by rw [List.length_take] at h1; omega)
    rw [e] at h2
    exact .inr ⟨f, h2⟩
/-- What is read. -/
theorem Firm.read (h : Firm z S all) (hz : isNm z = true) (hon : S.on = true) (hf : S.fails S.n = false) : readW S z = (all, 0) := by
  have hof : S.onFile z = match look S.dir z with
      | none => .error 32
      | some f => .ok (f, S.fails S.n) := by
    unfold Dk.onFile
    rw [if_neg (by simp [hon]), if_neg (by simp [hz])]
    cases look S.dir z <;> rfl
  unfold readW Dk.read
  rw [hof]
  rcases h with ⟨h, e⟩ | ⟨f, h⟩
  · rw [h.lookD, e]
    rfl
  · rw [h.lookD]
    obtain ⟨x, h1, h2, h3⟩ := h.file
    have hb : S.bytes f = all := by simp [Dk.bytes, h1, h2]
    simp only [hf, hb]
    rfl
theorem Firm.size (h : Firm z S all) : max (S.size z) 0 = (all.length : Int) := by
  unfold Dk.size
  rcases h with ⟨h, e⟩ | ⟨f, h⟩
  · rw [h.lookD, e]
    rfl
  · rw [h.lookD]
    obtain ⟨x, h1, h2, h3⟩ := h.file
    have hb : S.bytes f = all := by simp [Dk.bytes, h1, h2]
    simp only [hb]
    omega
theorem ok_append (hk : Ok S) (n : Nm) (b : List UInt8) : Ok (S.append n b).1 := by
  unfold Dk.append
  split
  · exact hk
  split
  · exact hk.next
  split
  · exact hk.next
  split
  · exact hk.next
  show Ok (S.next.app n b)
  unfold Dk.app
  cases hl : look S.next.dir n with
  | some f =>
    dsimp only
    split
    · exact hk.next
    · exact hk.next.ext (hk.next.idD (look_id hl)) b
  | none =>
    dsimp only
    split
    · exact hk.next.mk1 hl
    · exact (hk.next.mk1 hl).ext (by show S.next.files.length < (S.next.files ++ [_]).length; simp) b
theorem ok_sync (hk : Ok S) (n : Nm) : Ok (S.sync n).1 := by
  unfold Dk.sync
  split
  · exact hk.begun
  · split
    · exact hk.begun.undoF _
    · exact hk.begun.keepF _
theorem ok_syncDir (hk : Ok S) : Ok S.syncDir.1 := by
  unfold Dk.syncDir
  split
  · exact hk
  split
  · exact hk.next.undoD
  · exact hk.next.keepD
theorem ok_rename (hk : Ok S) (a b : Nm) : Ok (S.rename a b).1 := by
  unfold Dk.rename
  split
  · exact hk
  split
  · exact hk.next
  split
  · exact hk.next
  · next hl =>
    split
    · exact hk.next
    split
    · exact hk.next
    · next he => exact hk.next.ren hl he
theorem ok_remove (hk : Ok S) (n : Nm) : Ok (S.remove n).1 := by
  unfold Dk.remove
  split
  · exact hk.begun
  · next g fl hon =>
    split
    · exact hk.begun
    · refine hk.begun.rem ?_
      rw [(begun_dir S).1, (onFile_look hon).1]
      simp
theorem ok_tidy (hk : Ok S) (n : Nm) : Ok (tidyW S n).1 := by
  unfold tidyW
  split
  · exact hk
  · exact ok_remove hk _
theorem ok_settle (hk : Ok S) (s : Bool) : Ok (settleW S s).1 := by
  unfold settleW
  split
  · exact hk
  · exact ok_syncDir hk
theorem Kx.sync_code {f was : Nat} (h : Kx z S f was all) (hz : isNm z = true) : (S.sync z).2 = 0 ∨ (S.sync z).2 = 34 ∨ (S.sync z).2 = 35 := by
  unfold Dk.sync
  split
  · rename_i e he
    unfold Dk.onFile at he
    split at he
    · cases he; exact .inr (.inr rfl)
    split at he
    · next hb => rw [hz] at hb; cases hb
    split at he
    · next hl => rw [h.lookD] at hl; cases hl
    · cases he
  · split
    · exact .inr (.inl rfl)
    · exact .inl rfl
/-- Behind extend: done, refused, or cut off. -/
theorem firm_extend {f : Nat} (h : Kx z S f all.length all) (_hk : Ok S) (hz : isNm z = true) (s : Bool) (b : List UInt8) :
    ((extendW S z s b).2.2 = 0 → Kx z (extendW S z s b).1 f (all ++ b).length (all ++ b)) ∧ ((extendW S z s b).2.2 ≠ 0 → Kx z (extendW S z s b).1 f all.length all ∨ (extendW S z s b).2.2 = 35 ∧ Kx z (extendW S z s b).1 f all.length (all ++ b)) := by
  have h1 : Kx z (tidyW S z).1 f all.length all := by
    unfold tidyW
    split
    · exact h
    · exact h.remove (anew_ne z)
  unfold extendW
  generalize tidyW S z = T at *
  split
  · next hne => exact ⟨fun e => absurd e hne, fun _ => .inl h1⟩
  · have h2 : Kx z (settleW T.1 s).1 f all.length all := by
      unfold settleW
      split
      · exact h1
      · exact h1.syncDir
    unfold extend2
    generalize settleW T.1 s = U at *
    split
    · next hne => exact ⟨fun e => absurd e hne, fun _ => .inl h2⟩
    · have h3 := h2.append_own b
      unfold extend3
      generalize U.1.append z b = V at *
      split
      · next hne => exact ⟨fun e => absurd e hne, fun _ => .inl (h3.2 hne)⟩
      · next he0 =>
        have he : V.2 = 0 := by simpa using he0
        have h4 := h3.1 he
        have h5 := h4.sync_own
        have h6 := h4.sync_code hz
        refine ⟨fun e => h5.1 e, fun e => ?_⟩
        rcases h6 with h6 | h6 | h6
        · exact absurd h6 e
        · have := h5.2.1 h6
          rw [List.take_left] at this
          exact .inl this
        · exact .inr ⟨h6, h5.2.2 e (by rw [h6]; decide)⟩
end Go.Proofs.YthjcimgollfmgaaGreatDoor

/-
  What replace makes of bytes that lie for good, plainly: done, refused, or cut off, and then the old or the new ones. No program here. Conditions: none.
-/
namespace Go.Proofs.YthjcimgollfmgaaGreatDoor
variable {z a : Nm} {S : Dk} {all b : List UInt8} {g : Nat}

/-- The name a has a file of these bytes, all of them sure. -/
def Fresh (a : Nm) (S : Dk) (g : Nat) (b : List UInt8) : Prop := look S.dir a = some g ∧ ∃ x, S.files[g]? = some x ∧ x.b = b ∧ x.sure = b.length
theorem tidy_none (h : (tidyW S z).2 = 0) : look (tidyW S z).1.dir (z ++ anewB) = none := by
  unfold tidyW at h ⊢
  split
  · next hs =>
    unfold Dk.size at hs
    split at hs
    · next hl => exact hl
    · omega
  · next hs =>
    rw [if_neg hs] at h
    unfold Dk.remove at h ⊢
    split
    · next e he =>
      rw [he] at h
      unfold Dk.onFile at he
      dsimp only at h
      split at he
      · cases he; cases h
      split at he
      · cases he; cases h
      split at he
      · cases he; cases h
      · cases he
    · next g fl he =>
      rw [he] at h
      dsimp only at h
      split
      · next hf => rw [if_pos hf] at h; cases h
      · show look (del (z ++ anewB) S.begun.dir) (z ++ anewB) = none
        rw [look_del, if_pos rfl]
theorem append_new (hl : look S.dir a = none) (hb : b ≠ []) (h : (S.append a b).2 = 0) : look (S.append a b).1.dir a = some S.files.length ∧ (S.append a b).1.files[S.files.length]? = some ⟨b, 0⟩ := by
  unfold Dk.append at h ⊢
  split
  · next e => rw [if_pos e] at h; cases h
  next e1 =>
  rw [if_neg e1] at h
  split
  · next e => rw [if_pos e] at h; cases h
  next e2 =>
  rw [if_neg e2] at h
  split
  · next e => rw [if_pos e] at h; cases h
  next e3 =>
  rw [if_neg e3] at h
  split
  · next e => rw [if_pos e] at h; cases h
  have e : S.next.app a b = (S.next.mk1 a).ext S.next.files.length b := by
    unfold Dk.app
    rw [show look S.next.dir a = none from hl]
    exact if_neg hb
  show look (S.next.app a b).dir a = _ ∧ (S.next.app a b).files[_]? = _
  rw [e]
  constructor
  · show look (ins a S.files.length S.dir) a = _
    rw [look_ins hl, if_pos rfl]
  · show ((S.files ++ [(⟨[], 0⟩ : Fl)]).modify S.files.length _)[S.files.length]? = _
    simp
theorem sync_fresh (hl : look S.dir a = some g) (hf : S.files[g]? = some ⟨b, 0⟩) (h : (S.sync a).2 = 0) : Fresh a (S.sync a).1 g b := by
  unfold Dk.sync at h ⊢
  split
  · next e he =>
    rw [he] at h
    unfold Dk.onFile at he
    dsimp only at h
    split at he
    · cases he; cases h
    split at he
    · cases he; cases h
    split at he
    · cases he; cases h
    · cases he
  · next g' fl he =>
    rw [he] at h
    dsimp only at h
    have hg := (onFile_look he).1
    rw [hl] at hg
    injection hg with hg
    subst hg
    split
    · next hf => rw [if_pos hf] at h; cases h
    · refine ⟨(by show look S.begun.dir a = _; rw [(begun_dir S).1]; exact hl), ⟨b, b.length⟩, ?_, rfl, rfl⟩
      show (S.begun.files.modify g _)[g]? = _
      rw [(begun_dir S).2.1]
      simp [hf]
theorem rename_done {n m : Nm} (hne : n ≠ m) (h : (S.rename n m).2 = 0) : S.rename n m = (S.next.act (.ren n m), 0) := by
  unfold Dk.rename at h ⊢
  split
  · next e => rw [if_pos e] at h; cases h
  next e1 =>
  rw [if_neg e1] at h
  split
  · next e => rw [if_pos e] at h; cases h
  next e2 =>
  rw [if_neg e2] at h
  split
  · next e => rw [if_pos e] at h; cases h
  next e3 =>
  rw [if_neg e3] at h
  split
  · next e => rw [if_pos e] at h; cases h
  rfl
theorem rename_not {n m : Nm} (h : (S.rename n m).2 ≠ 0) : (S.rename n m).1 = S ∨ (S.rename n m).1 = S.next := by
  unfold Dk.rename at h ⊢
  split
  · exact .inl rfl
  next e1 =>
  rw [if_neg e1] at h
  split
  · exact .inr rfl
  next e2 =>
  rw [if_neg e2] at h
  split
  · exact .inr rfl
  next e3 =>
  rw [if_neg e3] at h
  split
  · exact .inr rfl
  next e4 =>
  rw [if_neg e4] at h
  split
  · exact .inr rfl
  next e5 =>
  rw [if_neg e5] at h
  exact absurd rfl h
theorem Firm.next (h : Firm z S all) : Firm z S.next all := by
  rcases h with ⟨h, e⟩ | ⟨f, h⟩
  · exact .inl ⟨h.next, e⟩
  · exact .inr ⟨f, h.next⟩
theorem look_ren (l : Dir) (h : look l a = some g) : look (doneD l (.ren a z)) z = some g := by
  show look (match look l a with | some f => ins z f (del z (del a l)) | none => l) z = _
  rw [h]
  show look (ins z g (del z (del a l))) z = _
  rw [look_ins (by rw [look_del, if_pos rfl]), if_pos rfl]
/-- The new file has the name, for good. -/
theorem renamed_keep (hf : Fresh a S g b) : Kx z (S.act (.ren a z)).next.keepD g b.length b := by
  obtain ⟨h1, x, h2, h3, h4⟩ := hf
  refine ⟨look_ren _ h1, look_ren _ h1, fun c hc => ?_, x, h2, h3, h4⟩
  have := (List.mem_filter.1 hc).2
  cases c <;> first | trivial | cases this
theorem renamed_undo (h : Firm z S all) : Firm z (S.act (.ren a z)).next.undoD all := by
  have hm : ∀ c ∈ (S.act (.ren a z)).next.undoD.acts, avoids z c := fun c hc => by
    have := (List.mem_filter.1 hc).2
    cases c <;> first | trivial | cases this
  rcases h with ⟨h, e⟩ | ⟨f, h⟩
  · exact .inl ⟨⟨h.lookS, h.lookS, hm⟩, e⟩
  · exact .inr ⟨f, h.lookS, h.lookS, hm, h.file⟩
theorem stay_pre (pre : List Ac) (n m : Nm) (keep t : Int) (h : keep.toNat ≤ pre.length) : stay (pre ++ [.ren n m]) keep t = stay pre keep t := by
  unfold stay
  rw [List.take_append_of_le_length h, List.drop_append_of_le_length h]
  cases pre.drop keep.toNat with
  | nil => rfl
  | cons c r => cases c <;> rfl
theorem stay_full (cs : List Ac) (keep t : Int) (h : cs.length ≤ keep.toNat) : stay cs keep t = cs := by
  unfold stay
  rw [List.take_of_length_le h, List.drop_of_length_le h]
  simp [torn]
/-- Cut off between the renaming and the directory's sync: the one or the other. -/
theorem renamed_crash (h : Firm z S all) (hk : Ok S) (hr : Ok (S.act (.ren a z))) (hf : Fresh a S g b) (keep t : Int) : Firm z ((S.act (.ren a z)).crash keep t) all ∨ Firm z ((S.act (.ren a z)).crash keep t) b := by
  by_cases hc : keep.toNat ≤ S.acts.length
  · have e : (S.act (.ren a z)).crash keep t = S.crash keep t := by
      unfold Dk.crash
      rw [show (S.act (.ren a z)).acts = S.acts ++ [.ren a z] from rfl, stay_pre _ _ _ _ _ hc]
      rfl
    rw [e]
    exact .inl (h.crash hk keep t)
  · right
    obtain ⟨h1, x, h2, h3, h4⟩ := hf
    have hs : stay (S.act (.ren a z)).acts keep t = (S.act (.ren a z)).acts := stay_full _ _ _ (by
      show (S.acts ++ [_]).length ≤ _
      rw [List.length_append, List.length_singleton]
      omega)
    have hl := hr.lens g x h2
    have hd : look ((S.act (.ren a z)).crash keep t).dir z = some g := by
      show look (appD _ (stay (S.act (.ren a z)).acts keep t)) z = _
      rw [hs, ← hr.dir]
      exact look_ren _ h1
    have hfl : ((S.act (.ren a z)).crash keep t).files[g]? = some ⟨x.b.take (x.sure + moreSum (S.act (.ren a z)).acts g), x.sure + moreSum (S.act (.ren a z)).acts g⟩ := by
      show (S.files.mapIdx _)[g]? = _
      rw [List.getElem?_mapIdx, h2]
      simp only [Option.map_some, hs]
    refine .inr ⟨g, hd, hd, (fun c hc => by cases hc), _, hfl, ?_, ?_⟩
    · dsimp only
      rw [← hl, List.take_length, h3]
    · dsimp only
      rw [← hl, h3]
theorem tidy_off (h : S.on = false) (z : Nm) : (tidyW S z).1 = S := by
  unfold tidyW
  split
  · rfl
  · rw [off_remove h]
/-- Behind replace: done, refused, or cut off. -/
def Replaced (z : Nm) (R : Dk × Bool × Int) (all b : List UInt8) : Prop :=
  (R.2.2 = 0 → ∃ g, Kx z R.1 g b.length b) ∧ (R.2.2 ≠ 0 → Firm z R.1 all ∨ R.2.2 = 35 ∧ R.1.on = false ∧ ∀ keep t, Firm z (R.1.crash keep t) all ∨ Firm z (R.1.crash keep t) b)
theorem replaced_not {e : Int} {s : Bool} (h : Firm z S all) (he : e ≠ 0) : Replaced z (tidied S z s e) all b := ⟨fun e0 => absurd e0 he, fun _ => .inl h.tidy⟩
theorem firm_replace (h : Firm z S all) (hk : Ok S) (hb : b ≠ []) (s : Bool) : Replaced z (replaceW S z s b) all b := by
  have ha : z ++ anewB ≠ z := fun e => anew_ne z e.symm
  have h1 := h.tidy
  have k1 := ok_tidy hk z
  have n1 := tidy_none (S := S) (z := z)
  unfold replaceW
  generalize tidyW S z = T at *
  split
  · next hne => exact ⟨fun e => absurd e hne, fun _ => .inl h1⟩
  next he1 =>
  have n1 := n1 (by simpa using he1)
  have h2 := h1.append k1 (anew_ne z) b
  have k2 := ok_append k1 (z ++ anewB) b
  have n2 := append_new n1 hb
  unfold rep2
  generalize T.1.append (z ++ anewB) b = V at *
  split
  · next hne => exact replaced_not h2 hne
  next he2 =>
  have n2 := n2 (by simpa using he2)
  have h3 := h2.sync k2 (anew_ne z)
  have k3 := ok_sync k2 (z ++ anewB)
  have n3 := sync_fresh n2.1 n2.2
  unfold rep3
  generalize V.1.sync (z ++ anewB) = Y at *
  split
  · next hne => exact replaced_not h3 hne
  next he3 =>
  have n3 := n3 (by simpa using he3)
  have r4 := rename_done (S := Y.1) ha
  have q4 := rename_not (S := Y.1) (n := z ++ anewB) (m := z)
  have k4 := ok_rename k3 (z ++ anewB) z
  unfold rep4
  generalize Y.1.rename (z ++ anewB) z = N at *
  split
  · next hne =>
    refine replaced_not ?_ hne
    rcases q4 hne with q | q
    · rw [q]; exact h3
    · rw [q]; exact h3.next
  next he4 =>
  have r4 := r4 (by simpa using he4)
  subst r4
  dsimp only at k4
  have hset : ∀ M : Dk, settleW M false = (M.syncDir.1, M.syncDir.2 == 0, M.syncDir.2) := fun _ => rfl
  by_cases hon : (Y.1.next.act (.ren (z ++ anewB) z)).on = false
  · have hU : settleW (Y.1.next.act (.ren (z ++ anewB) z)) false = (Y.1.next.act (.ren (z ++ anewB) z), false, 35) := by
      rw [hset, off_syncDir hon]
      rfl
    rw [hU]
    unfold rep5
    rw [if_pos (show (35 : Int) ≠ 0 by decide)]
    refine ⟨fun e => absurd (show (35 : Int) = 0 from e) (by decide), fun _ => .inr ⟨rfl, ?_, ?_⟩⟩
    · show (tidyW (Y.1.next.act (.ren (z ++ anewB) z)) z).1.on = false
      rw [tidy_off hon]
      exact hon
    · intro keep t
      show Firm z ((tidyW (Y.1.next.act (.ren (z ++ anewB) z)) z).1.crash keep t) all ∨ Firm z ((tidyW (Y.1.next.act (.ren (z ++ anewB) z)) z).1.crash keep t) b
      rw [tidy_off hon]
      exact renamed_crash h3.next k3.next k4 n3 keep t
  · by_cases hf : (Y.1.next.act (.ren (z ++ anewB) z)).fails (Y.1.next.act (.ren (z ++ anewB) z)).n = true
    · have hU : settleW (Y.1.next.act (.ren (z ++ anewB) z)) false = ((Y.1.next.act (.ren (z ++ anewB) z)).next.undoD, false, 34) := by
        rw [hset]
        unfold Dk.syncDir
        rw [if_neg hon, if_pos hf]
        rfl
      rw [hU]
      unfold rep5
      rw [if_pos (show (34 : Int) ≠ 0 by decide)]
      exact replaced_not (renamed_undo h3.next) (show (34 : Int) ≠ 0 by decide)
    · have hU : settleW (Y.1.next.act (.ren (z ++ anewB) z)) false = ((Y.1.next.act (.ren (z ++ anewB) z)).next.keepD, true, 0) := by
        rw [hset]
        unfold Dk.syncDir
        rw [if_neg hon, if_neg hf]
        rfl
      rw [hU]
      unfold rep5
      rw [if_neg (show ¬ (0 : Int) ≠ 0 by decide)]
      exact ⟨fun _ => ⟨_, renamed_keep n3⟩, fun e => absurd rfl e⟩
end Go.Proofs.YthjcimgollfmgaaGreatDoor

/-
  What a log's own small ones do: look, has, Bytes. Conditions: the disk stands, within bounds; the log lies beside it; the table holds its numbers.
-/
namespace Go.Proofs.YthjcimgollfmgaaGreatDoor
open Go.RowKit
variable {B : Nat} {w w' : World} {F : Nat → Prop} {d l : Nat} {S : Dk} {L : Lw}

theorem TabW.low (h : TabW w) (hb : Below B w w') (hB : 0 < B) : TabW w' := ⟨Nat.lt_of_lt_of_le h.1 hb.size, fun j hj => (hb.cell (p := ⟨0, j, none⟩) hB).trans (h.2 j hj)⟩
theorem mem_sumN {xs : List Nat} {x : Nat} (h : x ∈ xs) : x ≤ xs.sum := by
  induction xs with
  | nil => cases h
  | cons y r ih =>
    rw [List.sum_cons]
    rcases List.mem_cons.1 h with rfl | h
    · omega
    · have := ih h; omega
theorem bytes_le (S : Dk) (f : Nat) : (S.bytes f).length ≤ S.bulk := by
  unfold Dk.bytes
  cases h : S.files[f]? with
  | none => simp
  | some x =>
    have : x.b.length ≤ (S.files.map fun x => x.b.length).sum := mem_sumN (List.mem_map.2 ⟨x, List.mem_of_getElem? h, rfl⟩)
    unfold Dk.bulk
    simp only [Option.map_some, Option.getD_some]
    omega
theorem read_le (S : Dk) (n : Nm) : (S.read n).1.length ≤ S.bulk := by
  unfold Dk.read
  split
  · simp
  · split
    · simp
    · exact bytes_le S _
theorem readW_le (S : Dk) (n : Nm) : (readW S n).1.length ≤ S.bulk := by
  unfold readW
  split
  · simp
  · exact read_le S n
/-- What look finds: the error; the groups, how many bytes they have, how many there are. -/
def lookG (b : List UInt8) : Option (List (List (List UInt8)) × Nat) → Int × Option (List (List (List UInt8)) × Nat × Nat)
  | none => (52, none)
  | some x => (0, some (x.1, x.2, b.length))
def lookW (S : Dk) (n : Nm) : Int × Option (List (List (List UInt8)) × Nat × Nat) :=
  if (readW S n).2 ≠ 0 then ((readW S n).2, none) else lookG (readW S n).1 (groupsW sum4 ((readW S n).1.length + 1) (readW S n).1 0)
theorem Lg.put2 (h : Lg B w F d l S L) (a b : Int) : Lg B ((w.setCell ⟨l, 3, none⟩ (.int .i64 a)).setCell ⟨l, 4, none⟩ (.int .i64 b)) F d l S { L with wh := a, sz := b } ∧ Chg (fun k => k = l) w ((w.setCell ⟨l, 3, none⟩ (.int .i64 a)).setCell ⟨l, 4, none⟩ (.int .i64 b)) := by
  have hc : Chg (fun k => k = l) w ((w.setCell ⟨l, 3, none⟩ (.int .i64 a)).setCell ⟨l, 4, none⟩ (.int .i64 b)) := ((Chg.refl (fun k => k = l) w).setCell (p := ⟨l, 3, none⟩) (.inl rfl) _).setCell (p := ⟨l, 4, none⟩) (.inl rfl) _
  exact ⟨⟨h.1.keep hc (fun k hk e => h.2.2.1 (e ▸ hk)), heap_set (heap_set h.2.1 3 (.int .i64 a)) 4 (.int .i64 b), h.2.2⟩, hc⟩
theorem own_chg {X : Nat → Prop} {base size n : Nat} {e : TypeId} {v : Value} {xs : List Value} (h : w.ownsRow base e size v n xs) (hc : Chg X w w') (hX : ∀ k, base ≤ k → ¬ X k) : w'.ownsRow base e size v n xs := own_keep h hc fun k hk => hX k (h.lt k hk).1
theorem Gs.chg {X : Nat → Prop} {base : Nat} {v : Value} {gs : List (List (List UInt8))} (h : Gs w base v gs) (hc : Chg X w w') (hX : ∀ k, base ≤ k → ¬ X k) : Gs w' base v gs := by
  obtain ⟨vs, h1, h2⟩ := h
  exact ⟨vs, own_chg h1 hc hX, fun i x g hx hg => own_chg (h2 i x g hx hg) hc hX⟩

/-- Behind look. -/
def Looked (B : Nat) (w : World) (F : Nat → Prop) (d l : Nat) (S : Dk) (L : Lw) (w' : World) (v : Value) : Option (List (List (List UInt8)) × Nat × Nat) → Prop
  | none => v = .slice none 0 0 ∧ Then B w F d l S.begun L w'
  | some x => ∃ F' b1, Lg B w' F' d l S.begun { L with wh := (x.2.1 : Int), sz := (x.2.2 : Int) } ∧ (∀ k, F' k → F k ∨ w.heap.size ≤ k) ∧ Chg (fun k => F k ∨ k = l) w w' ∧ Gs w' b1 v x.1 ∧ w.heap.size ≤ b1 ∧ ∀ k, F' k → k < b1

set_option maxRecDepth 20000 in
set_option maxHeartbeats 1600000 in
theorem look_lg (h : Lg B w F d l S L) (hB0 : 0 < B) (hT : TabW w) (hb : S.bulk < 1000000000) :
    Calls Tryz.prog 29 #[.pointer (some ⟨l, 0, none⟩)] w fun e w' => ∃ v, e = .returned (.tuple #[v, .int .i64 (lookW S L.n).1]) ∧ Looked B w F d l S L w' v (lookW S L.n).2 := by
  have hrd := read_lg h (by omega)
  have hle := readW_le S L.n
  have H := hide h
  have HT := hide hT
  clear h hT
  unfold lookW
  generalize readW S L.n = R at *
  obtain ⟨b, e0⟩ := R
  dsimp only at hrd hle ⊢
  by_cases he : e0 ≠ 0
  · rw [if_pos he]
    have heb : (e0 == 0) = false := by simp [he]
    clear he
    go_enter Tryz.func29, Tryz.ntmps29
    go_wp2_with fail
    refine hrd.mono ?_
    rintro e w1 ⟨v, F1, rfl, ho, hg1, hf1, hc1, hv1⟩
    go_wp2
    go_ret2
    exact ⟨_, rfl, rfl, F1, hg1, hf1, hc1.mono fun _ _ h => .inl h⟩
  rw [if_neg he]
  obtain rfl : e0 = 0 := by simpa using he
  clear he
  generalize hG : groupsW sum4 (b.length + 1) b 0 = G
  have HG := hide hG
  clear hG
  go_enter Tryz.func29, Tryz.ntmps29
  go_wp2_with fail
  refine hrd.mono ?_
  rintro e w1 ⟨v, F1, rfl, ho, hg1, hf1, hc1, hv1⟩
  have hbl : Below B w w1 := hc1.below (fun k hk => (H.out.1.2.1 k hk).1) H.out.size
  have htg := takeGroups_any w1 v b (sl_of_own ho) (by omega) (HT.out.low hbl hB0)
  rw [HG.out] at htg
  obtain ⟨ao, cap, rfl, -⟩ := own_form ho
  clear ho hv1
  cases G with
  | none =>
    go_wp2_with fail
    refine htg.mono ?_
    rintro e w2 ⟨hb2, h2⟩
    have hc2 : Chg (fun _ => False) w1 w2 := (Chg.of_below hb2).mono fun k h1 h2 => by omega
    rcases h2 with ⟨-, rfl⟩ | ⟨gs, n, v', h2, -⟩
    · go_wp2
      go_ret2
      exact ⟨_, rfl, rfl, F1, hg1.keep hc2 (fun _ _ h => h) (fun h => h), hf1, (hc1.mono fun _ _ h => .inl h).trans hc2 (fun _ _ h => h.elim)⟩
    · cases h2
  | some x =>
    obtain ⟨gs, n⟩ := x
    go_wp2_with fail
    refine htg.mono ?_
    rintro e w2 ⟨hb2, h2⟩
    have hc2 : Chg (fun _ => False) w1 w2 := (Chg.of_below hb2).mono fun k h1 h2 => by omega
    rcases h2 with ⟨h2, -⟩ | ⟨gs, n, v', h2, hn1, hn2, rfl, hgs⟩
    · cases h2
    · injection h2 with h2
      injection h2 with h3 h4
      subst h3 h4
      have hg2 := hg1.keep hc2 (fun _ _ h => h) (fun h => h)
      obtain ⟨a3, c3, rfl, -⟩ := hgs.form
      have HGS := hide hgs
      have u1 := thawed hg2.2.1 3
      have u2 := cell_of hg2.2.1 3
      have u3 := thawed (heap_set hg2.2.1 3 (.int .i64 (n : Int))) 4
      have u4 := cell_of (heap_set hg2.2.1 3 (.int .i64 (n : Int))) 4
      obtain ⟨hg3, hc3⟩ := hg2.put2 (n : Int) (b.length : Int)
      have hlt := hg1.lt
      clear hgs
      go_wp2
      go_ret2
      refine ⟨_, rfl, F1, w1.heap.size, hg3, hf1, ?_, HGS.out.chg hc3 fun k hk e => ?_, hc1.size, fun k hk => (hg1.1.2.1 k hk).2⟩
      · exact ((hc1.mono fun _ _ h => .inl h).trans hc2 (fun _ _ h => h.elim)).trans hc3 (fun _ _ h => .inr h)
      · subst e; omega
set_option maxRecDepth 20000 in
theorem has_lg (h : Lg B w F d l S L) (k : Int) :
    Calls Tryz.prog 39 #[.pointer (some ⟨l, 0, none⟩), .int .i64 k] w fun e w' => e = .returned (.tuple #[]) ∧ Lg B w' F d l S { L with wh := k, sz := k } ∧ Chg (fun x => x = l) w w' := by
  have u1 := thawed h.2.1 3
  have u2 := cell_of h.2.1 3
  have u3 := thawed (heap_set h.2.1 3 (.int .i64 k)) 4
  have u4 := cell_of (heap_set h.2.1 3 (.int .i64 k)) 4
  have hp := h.put2 k k
  clear h
  go_enter Tryz.func39, Tryz.ntmps39
  go_wp2
  exact ⟨rfl, _, results_none rfl _ _ _, rfl, hp⟩
set_option maxRecDepth 20000 in
theorem bytes_lg (h : Lg B w F d l S L) : Calls Tryz.prog 21 #[.pointer (some ⟨l, 0, none⟩)] w fun e w' => e = .returned (.int .i64 L.wh) ∧ w' = w := by
  have u1 := cell_of h.2.1 3
  clear h
  go_enter Tryz.func21, Tryz.ntmps21
  go_wp2
  go_ret
  exact ⟨rfl, rfl⟩
set_option maxRecDepth 20000 in
theorem bytes_nil (w : World) : Calls Tryz.prog 21 #[.pointer none] w fun e w' => e = .returned (.int .i64 0) ∧ w' = w := by
  go_enter Tryz.func21, Tryz.ntmps21
  go_wp2
  go_ret
  exact ⟨rfl, rfl⟩
set_option maxRecDepth 20000 in
theorem append_nil (w : World) (v : Value) : Calls Tryz.prog 23 #[.pointer none, v] w fun e w' => e = .returned (.int .i64 1) ∧ w' = w := by
  go_enter Tryz.func23, Tryz.ntmps23
  go_wp2
  go_ret
  exact ⟨rfl, rfl⟩
set_option maxRecDepth 20000 in
theorem reset_nil (w : World) (v : Value) : Calls Tryz.prog 26 #[.pointer none, v] w fun e w' => e = .returned (.int .i64 1) ∧ w' = w := by
  go_enter Tryz.func26, Tryz.ntmps26
  go_wp2
  go_ret
  exact ⟨rfl, rfl⟩
set_option maxRecDepth 20000 in
theorem open_nil (w : World) (v : Value) : Calls Tryz.prog 10 #[.pointer none, v] w fun e w' => e = .returned (.tuple #[.pointer none, .slice none 0 0, .int .i64 1]) ∧ w' = w := by
  go_enter Tryz.func10, Tryz.ntmps10
  go_wp2
  go_ret3
  exact ⟨rfl, rfl⟩
end Go.Proofs.YthjcimgollfmgaaGreatDoor

/-
  What a log's name is, and that isName tells it. Conditions: none.
-/
namespace Go.Proofs.YthjcimgollfmgaaGreatDoor
open Go.RowKit
def isLg (n : Nm) : Bool := decide (1 ≤ n.length) && decide (n.length ≤ 70) && n.all fun c => decide (33 ≤ c.toNat) && decide (c.toNat ≤ 126)
theorem isLg_false {l : List UInt8} {k : Nat} (h : k < l.length) (hc : (l.getD k 0).toNat < 33 ∨ 126 < (l.getD k 0).toNat) : isLg l = false := by
  have hin : l.getD k 0 ∈ l := by simp [List.getD, List.getElem?_eq_getElem h]
  cases hb : isLg l with
  | false => rfl
  | true =>
    exfalso
    simp only [isLg, Bool.and_eq_true, decide_eq_true_eq, List.all_eq_true] at hb
    have := hb.2 _ hin
    omega
theorem isLg_true {l : List UInt8} (h1 : 1 ≤ l.length) (h2 : l.length ≤ 70) (h : ∀ j, j < l.length → 33 ≤ (l.getD j 0).toNat ∧ (l.getD j 0).toNat ≤ 126) : isLg l = true := by
  simp only [isLg, Bool.and_eq_true, decide_eq_true_eq, List.all_eq_true]
  refine ⟨⟨h1, h2⟩, fun x hx => ?_⟩
  obtain ⟨j, hj, rfl⟩ := List.getElem_of_mem hx
  have := h j hj
  simpa [List.getD, List.getElem?_eq_getElem hj] using this
theorem isLg_len {l : List UInt8} (h : isLg l = true) : 1 ≤ l.length ∧ l.length ≤ 70 := by
  simp only [isLg, Bool.and_eq_true, decide_eq_true_eq] at h
  exact h.1

set_option maxRecDepth 20000 in
theorem isLog_any (w : World) (l : List UInt8) :
    Calls Tryz.prog 27 #[.string (strB l)] w fun e w' => e = .returned (.bool (isLg l)) ∧ w' = w := by
  have hsz := strB_size l
  by_cases h1 : l.length < 1
  · have : isLg l = false := by simp [isLg]; omega
    rw [this]
    go_enter Tryz.func27, Tryz.ntmps27
    go_wp2
    go_ret
    exact ⟨rfl, rfl⟩
  by_cases h2 : 70 < l.length
  · have : isLg l = false := by simp [isLg]; omega
    rw [this]
    go_enter Tryz.func27, Tryz.ntmps27
    go_wp2
    go_ret
    exact ⟨rfl, rfl⟩
  go_enter Tryz.func27, Tryz.ntmps27
  go_wp2
  go_loop [14] (fun x => ∃ k : Nat, k ≤ l.length ∧ x = .int .i64 (k : Int) ∧ ∀ j, j < k → 33 ≤ (l.getD j 0).toNat ∧ (l.getD j 0).toNat ≤ 126) (fun x => l.length - (intOf x).toNat)
  case atStart => exact ⟨0, Nat.zero_le _, rfl, fun j hj => absurd hj (Nat.not_lt_zero j)⟩
  case round =>
    obtain ⟨k, hk, rfl, hall⟩ := hrel
    by_cases hlt : k < l.length
    · have hi := index_str w l .i64 k hlt
      have hc := (l.getD k 0).toNat_lt
      by_cases hlo : (l.getD k 0).toNat < 33
      · have hf := isLg_false hlt (Or.inl hlo)
        have HF := hide hf
        clear hf
        generalize l.getD k 0 = c at *
        go_wp2
        go_ret
        exact ⟨ret_bool HF.out.symm, rfl⟩
      by_cases hhi : 126 < (l.getD k 0).toNat
      · have hf := isLg_false hlt (Or.inr hhi)
        have HF := hide hf
        clear hf
        generalize l.getD k 0 = c at *
        go_wp2
        go_ret
        exact ⟨ret_bool HF.out.symm, rfl⟩
      have HK : Hid (33 ≤ (l.getD k 0).toNat ∧ (l.getD k 0).toNat ≤ 126) := ⟨by omega, by omega⟩
      have HA := hide hall
      clear hall
      generalize hcc : l.getD k 0 = c at *
      have HCC := hide hcc
      clear hcc
      go_wp2
      go_round
      case rel =>
        refine ⟨k + 1, by omega, by go_num, fun j hj => ?_⟩
        by_cases e : j = k
        · subst e; rw [HCC.out]; exact HK.out
        · exact HA.out j (by omega)
      case measure => simp [intOf]; omega
    · have hkl : k = l.length := by omega
      subst hkl
      have HF := hide (isLg_true (by omega) (by omega) hall)
      clear hall
      go_wp2
      go_ret
      exact ⟨ret_bool HF.out.symm, rfl⟩
end Go.Proofs.YthjcimgollfmgaaGreatDoor
