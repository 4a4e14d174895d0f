/-
  A file whose bytes and name are sure, under calls that name others; plainly. No program; no condition.
-/
import Derived.Test.YtbedacdakmcfpaaOffPure
import Derived.Test.YtbedacdakmcfpaaOnFile
namespace Go.Proofs.Ytbedacdakmcfpaa

/-- 'zz-kept' -/
def zz : Nm := [122, 122, 45, 107, 101, 112, 116]
/-- An act that leaves a name alone. -/
def avoids (z : Nm) : Ac → Prop
  | .made n _ => z ≠ n
  | .ren a b => z ≠ a ∧ z ≠ b
  | .rem n => z ≠ n
  | .more _ _ => True
theorem look_ins_ne (l : Dir) {n m : Nm} (h : m ≠ n) (f : Nat) : look (ins n f l) m = look l m := by
  induction l with
  | nil =>
    show look [(n, f)] m = _
    rw [look_cons, if_neg (fun e => h e.symm)]
  | cons q r ih =>
    unfold ins
    split
    · rw [look_cons, if_neg (fun e => h e.symm)]
    · rw [look_cons, look_cons, ih]
theorem look_done {z : Nm} {a : Ac} (l : Dir) (h : avoids z a) : look (doneD l a) z = look l z := by
  cases a with
  | made n f => exact look_ins_ne l h f
  | ren x y =>
    simp only [doneD]
    cases hk : look l x with
    | none => rfl
    | some f =>
      show look (ins y f (del y (del x l))) z = _
      rw [look_ins_ne _ h.2, look_del, if_neg h.2, look_del, if_neg h.1]
  | rem n =>
    show look (del n l) z = _
    rw [look_del, if_neg h]
  | more f k => rfl
theorem look_app {z : Nm} (cs : List Ac) : ∀ (l : Dir), (∀ a ∈ cs, avoids z a) → look (appD l cs) z = look l z := by
  induction cs with
  | nil => exact fun _ _ => rfl
  | cons a r ih =>
    intro l h
    show look (appD (doneD l a) r) z = _
    rw [ih _ fun x hx => h x (by simp [hx]), look_done l (h a (by simp))]
theorem same_id : ∀ {l : Dir} {n m : Nm} {f : Nat}, (ids l).Nodup → (n, f) ∈ l → (m, f) ∈ l → n = m := by
  intro l
  induction l with
  | nil => intro n m f _ h; cases h
  | cons p r ih =>
    intro n m f hn h1 h2
    have hn' := List.nodup_cons.1 (show (p.2 :: ids r).Nodup from hn)
    have hi : ∀ {x : Nm}, (x, f) ∈ r → f ∈ ids r := fun hx => List.mem_map.2 ⟨_, hx, rfl⟩
    rcases List.mem_cons.1 h1 with e1 | e1 <;> rcases List.mem_cons.1 h2 with e2 | e2
    · rw [← e1] at e2
      exact (congrArg Prod.fst e2).symm
    · rw [← e1] at hn'
      exact absurd (hi e2) hn'.1
    · rw [← e2] at hn'
      exact absurd (hi e1) hn'.1
    · exact ih hn'.2 e1 e2

structure Kept (z : Nm) (S : Dk) (f : Nat) (was : Nat) (all : List UInt8) : Prop where
  lookS : look S.sure z = some f
  lookD : look S.dir z = some f
  acts : ∀ a ∈ S.acts, avoids z a
  file : ∃ x, S.files[f]? = some x ∧ x.b = all ∧ was ≤ x.sure
section
variable {z : Nm} {S : Dk} {f was : Nat} {all : List UInt8}
theorem Kept.next (h : Kept z S f was all) : Kept z S.next f was all := ⟨h.lookS, h.lookD, h.acts, h.file⟩
theorem Kept.failAt (h : Kept z S f was all) (ks : List Int) : Kept z (S.failAt ks) f was all := ⟨h.lookS, h.lookD, h.acts, h.file⟩
theorem Kept.begun (h : Kept z S f was all) : Kept z S.begun f was all := by
  unfold Dk.begun
  split
  · exact h
  · exact h.next
theorem Kept.ne (h : Kept z S f was all) (hk : Ok S) {n : Nm} (hn : z ≠ n) {g : Nat} (hg : look S.dir n = some g) : g ≠ f := by
  rintro rfl
  exact hn (same_id hk.oneD (look_mem h.lookD) (look_mem hg))
theorem Kept.modify (h : Kept z S f was all) {g : Nat} (hg : g ≠ f) (fn : Fl → Fl) : ∃ x, (S.files.modify g fn)[f]? = some x ∧ x.b = all ∧ was ≤ x.sure := by
  have e : (S.files.modify g fn)[f]? = S.files[f]? := by simp [hg]
  rw [e]
  exact h.file
theorem Kept.ext (h : Kept z S f was all) {g : Nat} (hg : g ≠ f) (b : List UInt8) : Kept z (S.ext g b) f was all :=
  ⟨h.lookS, h.lookD, fun a ha => by
    rcases List.mem_append.1 ha with ha | ha
    · exact h.acts a ha
    · simp at ha; subst ha; trivial, h.modify hg _⟩
theorem Kept.ext_own (h : Kept z S f was all) (b : List UInt8) : Kept z (S.ext f b) f was (all ++ b) :=
  ⟨h.lookS, h.lookD, fun a ha => by
    rcases List.mem_append.1 ha with ha | ha
    · exact h.acts a ha
    · simp at ha; subst ha; trivial, by
    obtain ⟨x, h1, h2, h3⟩ := h.file
    refine ⟨{ x with b := x.b ++ b }, ?_, by simp [h2], h3⟩
    show (S.files.modify f _)[f]? = _
    simp [h1]⟩
theorem Kept.mk1 (h : Kept z S f was all) {n : Nm} (hn : z ≠ n) : Kept z (S.mk1 n) f was all :=
  ⟨h.lookS, (look_ins_ne _ hn _).trans h.lookD, fun a ha => by
    rcases List.mem_append.1 ha with ha | ha
    · exact h.acts a ha
    · simp at ha; subst ha; exact hn, by
    obtain ⟨x, h1, h2⟩ := h.file
    refine ⟨x, ?_, h2⟩
    show (S.files ++ [_])[f]? = _
    rw [List.getElem?_append_left (List.getElem?_eq_some_iff.1 h1).1]
    exact h1⟩
theorem Kept.append (h : Kept z S f was all) (hk : Ok S) {n : Nm} (hn : z ≠ n) (b : List UInt8) : Kept z (S.append n b).1 f was all := by
  unfold Dk.append
  split
  · exact h
  split
  · exact h.next
  split
  · exact h.next
  split
  · exact h.next
  show Kept z (S.next.app n b) f was all
  unfold Dk.app
  split
  · rename_i g hg
    split
    · exact h.next
    · exact h.next.ext (h.ne hk hn hg) b
  · have hlt : S.next.files.length ≠ f := by
      obtain ⟨x, h1, _⟩ := h.file
      have := (List.getElem?_eq_some_iff.1 h1).1
      exact fun e => by rw [← e] at this; exact Nat.lt_irrefl _ this
    split
    · exact h.next.mk1 hn
    · exact (h.next.mk1 hn).ext hlt b
theorem Kept.append_own (h : Kept z S f was all) (b : List UInt8) : ((S.append z b).2 = 0 → Kept z (S.append z b).1 f was (all ++ b)) ∧ ((S.append z b).2 ≠ 0 → Kept z (S.append z b).1 f was all) := by
  unfold Dk.append
  split
  · exact ⟨fun e => absurd e (by simp), fun _ => h⟩
  split
  · exact ⟨fun e => absurd e (by simp), fun _ => h.next⟩
  split
  · exact ⟨fun e => absurd e (by simp), fun _ => h.next⟩
  split
  · exact ⟨fun e => absurd e (by simp), fun _ => h.next⟩
  refine ⟨fun _ => ?_, fun e => absurd rfl e⟩
  show Kept z (S.next.app z b) f was (all ++ b)
  unfold Dk.app
  rw [show look S.next.dir z = some f from h.lookD]
  show Kept z (if b = [] then S.next else S.next.ext f b) f was (all ++ b)
  split
  · rename_i hb
    subst hb
    rw [List.append_nil]
    exact h.next
  · exact h.next.ext_own b
theorem Kept.sync (h : Kept z S f was all) (hk : Ok S) {n : Nm} (hn : z ≠ n) : Kept z (S.sync n).1 f was all := by
  unfold Dk.sync
  split
  · exact h.begun
  · rename_i g fl hon
    have hg : look S.dir n = some g := by
      unfold Dk.onFile at hon
      split at hon
      · cases hon
      split at hon
      · cases hon
      split at hon
      · cases hon
      · rename_i g' hl
        cases hon
        exact hl
    have hne := h.ne hk hn hg
    have hb := h.begun
    split
    · exact ⟨hb.lookS, hb.lookD, fun a ha => hb.acts a (List.mem_filter.1 ha).1, hb.modify hne _⟩
    · exact ⟨hb.lookS, hb.lookD, fun a ha => hb.acts a (List.mem_filter.1 ha).1, hb.modify hne _⟩
theorem Kept.syncDir (h : Kept z S f was all) : Kept z S.syncDir.1 f was all := by
  unfold Dk.syncDir
  split
  · exact h
  split
  · exact ⟨h.lookS, h.lookS, fun a ha => h.acts a (List.mem_filter.1 ha).1, h.file⟩
  · exact ⟨h.lookD, h.lookD, fun a ha => h.acts a (List.mem_filter.1 ha).1, h.file⟩
theorem Kept.act (h : Kept z S f was all) {a : Ac} (ha : avoids z a) : Kept z (S.act a) f was all :=
  ⟨h.lookS, (look_done _ ha).trans h.lookD, fun x hx => by
    rcases List.mem_append.1 hx with hx | hx
    · exact h.acts x hx
    · simp at hx; subst hx; exact ha, h.file⟩
theorem Kept.rename (h : Kept z S f was all) {a b : Nm} (ha : z ≠ a) (hb : z ≠ b) : Kept z (S.rename a b).1 f was all := by
  unfold Dk.rename
  split
  · exact h
  split
  · exact h.next
  split
  · exact h.next
  split
  · exact h.next
  split
  · exact h.next
  · exact h.next.act ⟨ha, hb⟩
theorem Kept.remove (h : Kept z S f was all) {n : Nm} (hn : z ≠ n) : Kept z (S.remove n).1 f was all := by
  unfold Dk.remove
  split
  · exact h.begun
  split
  · exact h.begun
  · exact h.begun.act hn
/-- Behind a crash. -/
theorem Kept.crash (h : Kept z S f was all) (keep t : Int) (hw : was ≤ all.length) : look (S.crash keep t).dir z = some f ∧ ∃ k, (S.crash keep t).bytes f = all.take k ∧ was ≤ (all.take k).length := by
  constructor
  · show look (appD S.sure (stay S.acts keep t)) z = _
    rw [look_app _ _ fun a ha => ?_]
    · exact h.lookS
    · unfold stay at ha
      rcases List.mem_append.1 ha with ha | ha
      · exact h.acts a (List.mem_of_mem_take ha)
      · unfold torn at ha
        split at ha
        · simp at ha; subst ha; trivial
        · simp at ha
  · obtain ⟨x, h1, h2, h3⟩ := h.file
    rw [crash_bytes, h1, show S.bytes f = all by simp [Dk.bytes, h1, h2]]
    refine ⟨_, rfl, ?_⟩
    simp only [List.length_take, Option.map_some, Option.getD_some]
    omega
/-- A file that was read, then synced, its directory behind it. -/
theorem kept_start {z : Nm} {S : Dk} (hk : Ok S) (h0 : (S.read z).2 = 0) (h1 : (S.begun.sync z).2 = 0) (h2 : ((S.begun.sync z).1.syncDir).2 = 0) :
    ∃ f, Kept z ((S.begun.sync z).1.syncDir).1 f (S.read z).1.length (S.read z).1 := by
  obtain ⟨f, hf, hr⟩ : ∃ f, look S.dir z = some f ∧ (S.read z).1 = S.bytes f := by
    unfold Dk.read at h0 ⊢
    unfold Dk.onFile at h0 ⊢
    by_cases e1 : S.on = false
    · rw [if_pos e1] at h0; exact absurd h0 (by simp)
    rw [if_neg e1] at h0 ⊢
    by_cases e2 : isNm z = false
    · rw [if_pos e2] at h0; exact absurd h0 (by simp)
    rw [if_neg e2] at h0 ⊢
    cases e3 : look S.dir z with
    | none => rw [e3] at h0; exact absurd h0 (by simp)
    | some f =>
      rw [e3] at h0
      refine ⟨f, rfl, ?_⟩
      cases e4 : S.fails S.n with
      | true => rw [e4] at h0; exact absurd h0 (by simp)
      | false => rfl
  have hd : S.begun.dir = S.dir ∧ S.begun.files = S.files := ⟨(begun_dir S).1, (begun_dir S).2.1⟩
  have hlk : look S.begun.dir z = some f := by rw [hd.1]; exact hf
  obtain ⟨U, hU, hUd, hUf⟩ : ∃ U : Dk, U = (S.begun.sync z).1 ∧ U.dir = S.dir ∧ U.files = S.files.modify f fun x => { x with sure := x.b.length } := by
    refine ⟨_, rfl, ?_⟩
    unfold Dk.sync at h1 ⊢
    unfold Dk.onFile at h1 ⊢
    by_cases e1 : S.begun.on = false
    · rw [if_pos e1] at h1; exact absurd h1 (by simp)
    rw [if_neg e1] at h1 ⊢
    by_cases e2 : isNm z = false
    · rw [if_pos e2] at h1; exact absurd h1 (by simp)
    rw [if_neg e2, hlk] at h1 ⊢
    cases e4 : S.begun.fails S.begun.n with
    | true => rw [e4] at h1; exact absurd h1 (by simp)
    | false =>
      show (S.begun.begun.keepF f).dir = _ ∧ (S.begun.begun.keepF f).files = _
      refine ⟨?_, ?_⟩
      · show S.begun.begun.dir = _
        rw [(begun_dir S.begun).1, hd.1]
      · show S.begun.begun.files.modify f _ = _
        rw [(begun_dir S.begun).2.1, hd.2]
  rw [← hU] at h2 ⊢
  unfold Dk.syncDir at h2 ⊢
  by_cases e1 : U.on = false
  · rw [if_pos e1] at h2; exact absurd h2 (by simp)
  rw [if_neg e1] at h2 ⊢
  by_cases e2 : U.fails U.n = true
  · rw [if_pos e2] at h2; exact absurd h2 (by simp)
  rw [if_neg e2]
  refine ⟨f, ?_, ?_, fun a ha => ?_, ?_⟩
  · show look U.dir z = _
    rw [hUd]; exact hf
  · show look U.dir z = _
    rw [hUd]; exact hf
  · have : isMore a = true := (List.mem_filter.1 ha).2
    cases a <;> simp [isMore] at this ⊢ <;> trivial
  · show ∃ x, U.files[f]? = some x ∧ x.b = (S.read z).1 ∧ (S.read z).1.length ≤ x.sure
    obtain ⟨x, hx⟩ : ∃ x, S.files[f]? = some x := ⟨_, List.getElem?_eq_getElem (hk.idD (look_id hf))⟩
    rw [hUf, hr, bytes_of hx]
    exact ⟨{ x with sure := x.b.length }, by simp [hx], rfl, Nat.le_refl _⟩
end
end Go.Proofs.Ytbedacdakmcfpaa
