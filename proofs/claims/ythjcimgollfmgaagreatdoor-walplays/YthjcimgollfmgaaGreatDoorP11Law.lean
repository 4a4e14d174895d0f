/-
  Texts joined: Law, NewRep, Stands, ReadAt, WPlain, WFold.
-/
import Derived.Test.YthjcimgollfmgaaGreatDoorP5BeginRep
import Derived.Test.YthjcimgollfmgaaGreatDoorP9ODisk
import Derived.Test.YthjcimgollfmgaaGreatDoorP10Crash
import Derived.Test.YthjcimgollfmgaaGreatDoorP8DirEnd
import Derived.Test.YthjcimgollfmgaaGreatDoorP7Remove
import Derived.Test.YthjcimgollfmgaaGreatDoorRows
import Derived.WalkKit
import Derived.ProofKit
import Derived.Lib.BitFns
/-
  What the statements lean on, plainly: names are names; how much a disk has behind each call. No program; no condition.
-/
namespace Go.Proofs.YthjcimgollfmgaaGreatDoor
variable {S : Dk}

def actNm : Ac → Prop
  | .made n _ => isNm n = true
  | .ren _ b => isNm b = true
  | _ => True
/-- All names that a disk has, or may come to, are names. -/
def Named (S : Dk) : Prop := (∀ p ∈ S.sure, isNm p.1 = true) ∧ ∀ a ∈ S.acts, actNm a
theorem done_named {l : Dir} {a : Ac} (hl : ∀ p ∈ l, isNm p.1 = true) (ha : actNm a) : ∀ p ∈ doneD l a, isNm p.1 = true := by
  intro p hp
  cases a with
  | made n f =>
    rcases mem_ins.1 hp with rfl | hp
    · exact ha
    · exact hl p hp
  | ren x y =>
    simp only [doneD] at hp
    cases hk : look l x with
    | none => rw [hk] at hp; exact hl p hp
    | some f =>
      rw [hk] at hp
      rcases mem_ins.1 hp with rfl | hp
      · exact ha
      · exact hl p (List.mem_filter.1 (List.mem_filter.1 hp).1).1
  | rem n => exact hl p (List.mem_filter.1 hp).1
  | more f k => exact hl p hp
theorem app_named (cs : List Ac) : ∀ {l : Dir}, (∀ p ∈ l, isNm p.1 = true) → (∀ a ∈ cs, actNm a) → ∀ p ∈ appD l cs, isNm p.1 = true := by
  induction cs with
  | nil => exact fun hl _ => hl
  | cons a r ih => exact fun hl ha => ih (done_named hl (ha a (by simp))) (fun x hx => ha x (by simp [hx]))
theorem Named.dir (h : Named S) (hk : Ok S) : ∀ p ∈ S.dir, isNm p.1 = true := by
  rw [hk.dir]
  exact app_named _ h.1 h.2
theorem named_new (r : Nat) : Named (Dk.new r) := ⟨by simp [Dk.new], by simp [Dk.new]⟩
theorem Named.same {T : Dk} (h : Named S) (h1 : T.sure = S.sure) (h2 : T.acts = S.acts) : Named T := by unfold Named; rw [h1, h2]; exact h
theorem Named.next (h : Named S) : Named S.next := h
theorem Named.begun (h : Named S) : Named S.begun := by
  unfold Dk.begun
  split
  · exact h
  · exact h
theorem Named.keepF (h : Named S) (f : Nat) : Named (S.keepF f) := ⟨h.1, fun a ha => h.2 a (List.mem_filter.1 ha).1⟩
theorem Named.undoF (h : Named S) (f : Nat) : Named (S.undoF f) := ⟨h.1, fun a ha => h.2 a (List.mem_filter.1 ha).1⟩
theorem Named.keepD (h : Named S) (hk : Ok S) : Named S.keepD := ⟨h.dir hk, fun a ha => h.2 a (List.mem_filter.1 ha).1⟩
theorem Named.undoD (h : Named S) : Named S.undoD := ⟨h.1, fun a ha => h.2 a (List.mem_filter.1 ha).1⟩
theorem Named.act (h : Named S) {a : Ac} (ha : actNm a) : Named (S.act a) := ⟨h.1, fun x hx => by
  rcases List.mem_append.1 hx with hx | hx
  · exact h.2 x hx
  · simp at hx; subst hx; exact ha⟩
theorem Named.mk1 (h : Named S) {n : Nm} (hn : isNm n = true) : Named (S.mk1 n) := ⟨h.1, fun x hx => by
  rcases List.mem_append.1 hx with hx | hx
  · exact h.2 x hx
  · simp at hx; subst hx; exact hn⟩
theorem Named.ext (h : Named S) (f : Nat) (b : List UInt8) : Named (S.ext f b) := ⟨h.1, fun x hx => by
  rcases List.mem_append.1 hx with hx | hx
  · exact h.2 x hx
  · simp at hx; subst hx; trivial⟩
theorem Named.append (h : Named S) (n : Nm) (b : List UInt8) : Named (S.append n b).1 := by
  unfold Dk.append
  by_cases h1 : S.on = false
  · rw [if_pos h1]; exact h
  rw [if_neg h1]
  by_cases h2 : isNm n = false
  · rw [if_pos h2]; exact h
  rw [if_neg h2]
  by_cases h3 : b ≠ [] ∧ S.room < S.used + b.length
  · rw [if_pos h3]; exact h
  rw [if_neg h3]
  by_cases h4 : S.fails S.n = true
  · rw [if_pos h4]; exact h
  rw [if_neg h4]
  have hn : isNm n = true := by simpa using h2
  show Named (S.next.app n b)
  unfold Dk.app
  split
  · split
    · exact h
    · exact Named.ext (S := S.next) h _ _
  · split
    · exact Named.mk1 (S := S.next) h hn
    · exact (Named.mk1 (S := S.next) h hn).ext _ _
theorem Named.sync (h : Named S) (n : Nm) : Named (S.sync n).1 := by
  unfold Dk.sync
  split
  · exact h.begun
  · split
    · exact h.begun.undoF _
    · exact h.begun.keepF _
theorem Named.syncDir (h : Named S) (hk : Ok S) : Named S.syncDir.1 := by
  unfold Dk.syncDir
  split
  · exact h
  · split
    · exact Named.undoD (S := S.next) h
    · exact Named.keepD (S := S.next) h hk.next
theorem Named.rename (h : Named S) (a b : Nm) : Named (S.rename a b).1 := by
  unfold Dk.rename
  by_cases h1 : S.on = false
  · rw [if_pos h1]; exact h
  rw [if_neg h1]
  by_cases h2 : isNm a = false ∨ isNm b = false
  · rw [if_pos h2]; exact h
  rw [if_neg h2]
  split
  · exact h
  split
  · exact h
  split
  · exact h
  · exact Named.act (S := S.next) h (show isNm b = true by simpa using fun e => h2 (Or.inr e))
theorem Named.remove (h : Named S) (n : Nm) : Named (S.remove n).1 := by
  unfold Dk.remove
  split
  · exact h.begun
  · split
    · exact h.begun
    · exact h.begun.act trivial
theorem Named.crash (h : Named S) (keep t : Int) : Named (S.crash keep t) := by
  refine ⟨app_named _ h.1 fun a ha => ?_, by simp [Dk.crash]⟩
  unfold stay at ha
  rcases List.mem_append.1 ha with ha | ha
  · exact h.2 a (List.mem_of_mem_take ha)
  · unfold torn at ha
    split at ha
    · simp at ha; subst ha; trivial
    · simp at ha

/-! ### how much -/
theorem bulk_modify_b (files : List Fl) (f : Nat) (g : Fl → Fl) (k : Nat) (hg : ∀ x, (g x).b.length ≤ x.b.length + k) : ((files.modify f g).map fun x => x.b.length).sum ≤ (files.map fun x => x.b.length).sum + k := by
  induction files generalizing f with
  | nil => simp
  | cons x r ih =>
    cases f with
    | zero => have := hg x; simp [List.modify_zero_cons]; omega
    | succ f => have := ih f; simp [List.modify_succ_cons] at this ⊢; omega
theorem bulk_ext (f : Nat) (b : List UInt8) : (S.ext f b).bulk ≤ S.bulk + b.length + 1 := by
  have := bulk_modify_b S.files f (fun x => { x with b := x.b ++ b }) b.length (fun x => by simp)
  unfold Dk.bulk Dk.ext
  simp only [List.length_append, List.length_modify, List.length_singleton]
  omega
theorem bulk_nx : S.next.bulk = S.bulk + 1 := by unfold Dk.bulk Dk.next; simp; omega
theorem bulk_bg : S.begun.bulk ≤ S.bulk + 1 := by
  unfold Dk.begun
  split
  · omega
  · rw [bulk_nx]
    exact Nat.le_refl _
theorem bulk_append (n : Nm) (b : List UInt8) : (S.append n b).1.bulk ≤ S.bulk + b.length + 4 := by
  have h1 := bulk_nx (S := S)
  unfold Dk.append
  split
  · show S.bulk ≤ _; omega
  split
  · show S.next.bulk ≤ _; omega
  split
  · show S.next.bulk ≤ _; omega
  split
  · show S.next.bulk ≤ _; omega
  show (S.next.app n b).bulk ≤ _
  unfold Dk.app
  split
  · split
    · omega
    · have := bulk_ext (S := S.next) (by assumption) b; omega
  · have h2 := bulk_mk1 S.next n
    split
    · omega
    · have := bulk_ext (S := S.next.mk1 n) S.next.files.length b
      omega
theorem bulk_keepF (f : Nat) : (S.keepF f).bulk ≤ S.bulk := by
  have := bulk_modify_b S.files f (fun x => { x with sure := x.b.length }) 0 (fun x => by simp)
  have h2 : (S.acts.filter fun a => !isOf f a).length ≤ S.acts.length := List.length_filter_le _ _
  unfold Dk.bulk Dk.keepF
  simp only [List.length_modify]
  omega
theorem bulk_undoF (f : Nat) : (S.undoF f).bulk ≤ S.bulk := by
  have := bulk_modify_b S.files f (fun x => { x with b := x.b.take x.sure }) 0 (fun x => by simp; omega)
  have h2 : (S.acts.filter fun a => !isOf f a).length ≤ S.acts.length := List.length_filter_le _ _
  unfold Dk.bulk Dk.undoF
  simp only [List.length_modify]
  omega
theorem bulk_sync (n : Nm) : (S.sync n).1.bulk ≤ S.bulk + 1 := by
  have h := bulk_bg (S := S)
  unfold Dk.sync
  split
  · exact h
  · split
    · exact Nat.le_trans (bulk_undoF (S := S.begun) _) h
    · exact Nat.le_trans (bulk_keepF (S := S.begun) _) h
theorem bulk_syncDir : S.syncDir.1.bulk ≤ S.bulk + 1 := by
  have h := bulk_nx (S := S)
  have h2 : (S.next.acts.filter isMore).length ≤ S.next.acts.length := List.length_filter_le _ _
  unfold Dk.syncDir
  split
  · show S.bulk ≤ _; omega
  · split
    · show S.next.undoD.bulk ≤ _
      unfold Dk.undoD
      unfold Dk.bulk at h ⊢
      simp only at h h2 ⊢
      omega
    · show S.next.keepD.bulk ≤ _
      unfold Dk.keepD
      unfold Dk.bulk at h ⊢
      simp only at h h2 ⊢
      omega
theorem bulk_act (a : Ac) : (S.act a).bulk = S.bulk + 1 := by unfold Dk.bulk Dk.act; simp; omega
theorem bulk_rename (a b : Nm) : (S.rename a b).1.bulk ≤ S.bulk + 2 := by
  have h := bulk_nx (S := S)
  unfold Dk.rename
  split
  · show S.bulk ≤ _; omega
  split
  · show S.next.bulk ≤ _; omega
  split
  · show S.next.bulk ≤ _; omega
  split
  · show S.next.bulk ≤ _; omega
  split
  · show S.next.bulk ≤ _; omega
  · show (S.next.act _).bulk ≤ _; rw [bulk_act]; omega
theorem bulk_remove (n : Nm) : (S.remove n).1.bulk ≤ S.bulk + 2 := by
  have h := bulk_bg (S := S)
  unfold Dk.remove
  split
  · show S.begun.bulk ≤ _; omega
  · split
    · show S.begun.bulk ≤ _; omega
    · show (S.begun.act _).bulk ≤ _; rw [bulk_act]; omega
theorem bulk_crash (keep t : Int) : (S.crash keep t).bulk ≤ S.bulk := by
  have key : ∀ (l : List Fl) (g : Nat → Nat → Nat) (k : Nat), ((l.mapIdx fun i x => (⟨x.b.take (g (i + k) x.sure), g (i + k) x.sure⟩ : Fl)).map fun x => x.b.length).sum ≤ (l.map fun x => x.b.length).sum := by
    intro l
    induction l with
    | nil => intro g k; simp
    | cons x r ih =>
      intro g k
      have := ih g (k + 1)
      rw [List.mapIdx_cons]
      simp only [List.map_cons, List.sum_cons, List.length_take]
      have e : (fun (i : Nat) (x : Fl) => (⟨x.b.take (g (i + 1 + k) x.sure), g (i + 1 + k) x.sure⟩ : Fl)) = fun i x => ⟨x.b.take (g (i + (k + 1)) x.sure), g (i + (k + 1)) x.sure⟩ := by
        funext i x
        rw [show i + 1 + k = i + (k + 1) by omega]
      rw [e]
      omega
  have := key S.files (fun i s => s + moreSum (stay S.acts keep t) i) 0
  unfold Dk.bulk Dk.crash
  simp only [List.length_mapIdx, List.length_nil]
  simp only [Nat.add_zero] at this
  omega
end Go.Proofs.YthjcimgollfmgaaGreatDoor

/-
  What New answers. No condition.
-/
namespace Go.Proofs.YthjcimgollfmgaaGreatDoor
open Go.RowKit

def newCells (room : Int) : Array Value := #[.int .i64 room, .int .i64 0, .map none, .map none, .slice none 0 0, .int .i64 0, .bool false, .int .i64 0, .map none]
theorem new_lies (w : World) (room : Nat) (hr : room < 9223372036854775808) : ∃ G, Rep (w.alloc (.cells (newCells room) 63)) (· = w.heap.size) w.heap.size (Dk.new room) G :=
  ⟨{ fb := fun _ => 0, rv := fun _ => .nilFunc, sv := fun _ => .nilFunc, now := none, sure := none, fls := none, lv := .slice none 0 0, cv := 0, vs := [] },
    { ok := ok_new room
      disk := heap_last w _
      inD := rfl
      roomy := hr
      cutv := fun c e => by cases e
      now := rfl
      sure := rfl
      both := Iff.rfl
      bare := fun _ => rfl
      fails := ⟨[], rfl, fun k _ => by show false = true ↔ _; simp⟩
      two := fun b e => by cases e
      three := fun b e => by cases e
      row := ⟨rfl, Or.inl ⟨rfl, rfl⟩⟩
      rowF := fun k hk => by cases hk
      many := rfl
      acts := fun j a p ha => by cases ha
      files := fun i hi => by rcases hi with (hi | hi) | hi <;> cases hi
      inj := fun i j hi => by rcases hi with (hi | hi) | hi <;> cases hi
      bytes := fun i f hi => by rcases hi with hi | hi <;> cases hi
      apart := fun i j k hi => by rcases hi with hi | hi <;> cases hi }⟩

set_option maxRecDepth 20000 in
theorem new_bad (w : World) (room : Int) (hr : room < 0) : Calls Tryz.prog 25 #[.int .i64 room] w fun e w' => e = .returned (.tuple #[.pointer none, .int .i64 2]) ∧ w' = w := by
  go_enter Tryz.func25, Tryz.ntmps25
  go_wp2
  go_ret2
  exact ⟨rfl, rfl⟩

set_option maxRecDepth 20000 in
theorem new_rep (w : World) (room : Nat) (hr : room < 9223372036854775808) : Calls Tryz.prog 25 #[.int .i64 (room : Int)] w fun e w' => ∃ G, e = .returned (.tuple #[.pointer (some ⟨w.heap.size, 0, none⟩), .int .i64 0]) ∧ Rep w' (· = w.heap.size) w.heap.size (Dk.new room) G ∧ Chg (fun _ => False) w w' := by
  obtain ⟨G, hG⟩ := new_lies w room hr
  unfold newCells at hG
  have HG := hide hG
  have h0 : ¬ ((room : Int) < 0) := by omega
  clear hG
  go_enter Tryz.func25, Tryz.ntmps25
  go_wp2
  go_ret2
  exact ⟨rfl, ⟨G, HG.out⟩, (Chg.refl _ w).alloc _⟩
end Go.Proofs.YthjcimgollfmgaaGreatDoor

/-
  The disk's methods as the statements use them: a disk lies in memory made since the call began; other disks beside it stay. Conditions: how much the disk has.
-/
namespace Go.Proofs.YthjcimgollfmgaaGreatDoor
open Go.RowKit
variable {B : Nat} {w w' : World} {F : Nat → Prop} {d : Nat} {S : Dk}

variable {G : Gh}
/-- Append, told once more: only bytes that are there must lie beside the disk. -/
theorem append_rep2 (h : Rep w F d S G) (n : Nm) {v : Value} {b : List UInt8} (hb : S.bulk + b.length + 3 < 1099511627776) (hv : Sl w v b) (hvF : b ≠ [] → ∀ g, v.ownBlock = some g → ¬ F g) :
    Calls Tryz.prog 55 #[.pointer (some ⟨d, 0, none⟩), .string (strB n), v] w fun e w' => e = .returned (.int .i64 (S.append n b).2) ∧ ∃ G', Rep w' (Fx F w w') d (S.append n b).1 G' ∧ Chg F w w' := by
  have hnl := n_le S
  unfold Dk.append
  by_cases hon : S.on = false
  · rw [if_pos hon]
    refine (append_off h hon n v).mono ?_
    rintro e w' ⟨he, hr, hc⟩
    exact ⟨he, G, hr.mono fun k hk => Or.inl hk, hc.mono fun _ _ f => f.elim⟩
  rw [if_neg hon]
  have hon' : S.on = true := by simpa using hon
  by_cases hn : isNm n = false
  · rw [if_pos hn]
    exact append_name h hon' (by omega) n hn v
  rw [if_neg hn]
  have hn' : isNm n = true := by simpa using hn
  by_cases hf : b ≠ [] ∧ S.room < S.used + b.length
  · rw [if_pos hf]
    exact append_full h hon' n hn' (by omega) hv hf.1 hf.2
  rw [if_neg hf]
  by_cases hne : b = []
  · subst hne
    obtain ⟨ao, cap, rfl, _⟩ := hv
    by_cases hfl : S.fails S.n = true
    · rw [if_pos hfl]
      exact append_io_nil h hon' n hn' (by omega) ao cap hfl
    rw [if_neg hfl]
    have hfl' : S.fails S.n = false := by simpa using hfl
    unfold Dk.app
    cases hl : look S.next.dir n with
    | none =>
      simp only [if_true]
      exact append_nil_new h hon' n hn' (by simp at hb; omega) ao cap hfl' hl
    | some f =>
      simp only [if_true]
      exact append_nil_old h hon' n hn' (by omega) ao cap hfl' hl
  · have hroom : S.used + b.length ≤ S.room := by
      refine Nat.le_of_not_lt fun hh => hf ⟨hne, hh⟩
    by_cases hfl : S.fails S.n = true
    · rw [if_pos hfl]
      exact append_io_some h hon' n hn' (by omega) hv hne hroom hfl
    rw [if_neg hfl]
    have hfl' : S.fails S.n = false := by simpa using hfl
    unfold Dk.app
    cases hl : look S.next.dir n with
    | none =>
      simp only [if_neg hne]
      exact append_some_new h hon' n hn' hb hv (hvF hne) hne hroom hfl' hl
    | some f =>
      simp only [if_neg hne]
      exact append_some_old h hon' n hn' hb hv (hvF hne) hne hroom hfl' hl
/-- At d lies a disk that is S, in blocks F, made since B. -/
def Stands (B : Nat) (w : World) (F : Nat → Prop) (d : Nat) (S : Dk) : Prop := (∃ G, Rep w F d S G) ∧ (∀ k, F k → B ≤ k ∧ k < w.heap.size) ∧ Named S
/-- Behind a call on it. -/
def After (B : Nat) (w : World) (F : Nat → Prop) (d : Nat) (S : Dk) (w' : World) : Prop := ∃ F', Stands B w' F' d S ∧ (∀ k, F' k → F k ∨ w.heap.size ≤ k) ∧ Chg F w w'

theorem Stands.ok (h : Stands B w F d S) : Ok S := by
  obtain ⟨⟨G, h⟩, _⟩ := h
  exact h.ok
theorem Stands.keep {X : Nat → Prop} (h : Stands B w F d S) (hc : Chg X w w') (hX : ∀ k, F k → ¬ X k) : Stands B w' F d S := by
  obtain ⟨⟨G, h1⟩, h2, h3⟩ := h
  exact ⟨⟨G, h1.keep hc hX (fun _ h => h)⟩, fun k hk => ⟨(h2 k hk).1, Nat.lt_of_lt_of_le (h2 k hk).2 hc.size⟩, h3⟩
theorem Chg.belowB (h : Chg F w w') (hF : ∀ k, F k → B ≤ k) (hB : B ≤ w.heap.size) : Below B w w' := h.below hF hB
theorem Stands.below (h : Stands B w F d S) (hB : B ≤ w.heap.size) (hc : Chg F w w') : Below B w w' := hc.below (fun k hk => (h.2.1 k hk).1) hB

theorem after_of {G' : Gh} {S' : Dk} (h : Stands B w F d S) (hB : B ≤ w.heap.size) (hr : Rep w' (Fx F w w') d S' G') (hc : Chg F w w') (hn : Named S') : After B w F d S' w' := by
  refine ⟨Fx F w w', ⟨⟨G', hr⟩, fun k hk => ?_, hn⟩, fun k hk => ?_, hc⟩
  · rcases hk with hk | hk
    · exact ⟨(h.2.1 k hk).1, Nat.lt_of_lt_of_le (h.2.1 k hk).2 hc.size⟩
    · exact ⟨Nat.le_trans hB hk.1, hk.2⟩
  · rcases hk with hk | hk
    · exact Or.inl hk
    · exact Or.inr hk.1

theorem append_lies (h : Stands B w F d S) (hB : B ≤ w.heap.size) (n : Nm) {v : Value} {b : List UInt8} (hb : S.bulk + b.length + 3 < 1099511627776) (hv : Sl w v b) (hvF : b ≠ [] → ∀ g, v.ownBlock = some g → ¬ F g) :
    Calls Tryz.prog 55 #[.pointer (some ⟨d, 0, none⟩), .string (strB n), v] w fun e w' => e = .returned (.int .i64 (S.append n b).2) ∧ After B w F d (S.append n b).1 w' := by
  have h0 := h
  obtain ⟨⟨G, hr⟩, h2, h3⟩ := h
  refine (append_rep2 hr n hb hv hvF).mono ?_
  rintro e w' ⟨rfl, G', hr', hc⟩
  exact ⟨rfl, after_of h0 hB hr' hc (h3.append n b)⟩
theorem sync_lies (h : Stands B w F d S) (hB : B ≤ w.heap.size) (n : Nm) (hb : S.bulk + 1 < 1099511627776) :
    Calls Tryz.prog 56 #[.pointer (some ⟨d, 0, none⟩), .string (strB n)] w fun e w' => e = .returned (.int .i64 (S.sync n).2) ∧ After B w F d (S.sync n).1 w' := by
  have h0 := h
  obtain ⟨⟨G, hr⟩, h2, h3⟩ := h
  refine (sync_rep hr hb n).mono ?_
  rintro e w' ⟨rfl, G', hr', hc⟩
  exact ⟨rfl, after_of h0 hB hr' hc (h3.sync n)⟩
theorem syncDir_lies (h : Stands B w F d S) (hB : B ≤ w.heap.size) (hb : S.bulk + 1 < 1099511627776) :
    Calls Tryz.prog 83 #[.pointer (some ⟨d, 0, none⟩)] w fun e w' => e = .returned (.int .i64 S.syncDir.2) ∧ After B w F d S.syncDir.1 w' := by
  have h0 := h
  obtain ⟨⟨G, hr⟩, h2, h3⟩ := h
  refine (syncDir_rep hr hb).mono ?_
  rintro e w' ⟨rfl, G', hr', hc⟩
  exact ⟨rfl, after_of h0 hB hr' hc (h3.syncDir hr.ok)⟩
theorem rename_lies (h : Stands B w F d S) (hB : B ≤ w.heap.size) (a b : Nm) (hb : S.bulk + 1 < 1099511627776) :
    Calls Tryz.prog 57 #[.pointer (some ⟨d, 0, none⟩), .string (strB a), .string (strB b)] w fun e w' => e = .returned (.int .i64 (S.rename a b).2) ∧ After B w F d (S.rename a b).1 w' := by
  have h0 := h
  obtain ⟨⟨G, hr⟩, h2, h3⟩ := h
  refine (rename_rep hr (fun k hk => (h2 k hk).2) hb a b).mono ?_
  rintro e w' ⟨rfl, G', hr', hc⟩
  exact ⟨rfl, after_of h0 hB hr' hc (h3.rename a b)⟩
theorem remove_lies (h : Stands B w F d S) (hB : B ≤ w.heap.size) (n : Nm) (hb : S.bulk + 1 < 1099511627776) :
    Calls Tryz.prog 72 #[.pointer (some ⟨d, 0, none⟩), .string (strB n)] w fun e w' => e = .returned (.int .i64 (S.remove n).2) ∧ After B w F d (S.remove n).1 w' := by
  have h0 := h
  obtain ⟨⟨G, hr⟩, h2, h3⟩ := h
  refine (remove_rep hr (fun k hk => (h2 k hk).2) hb n).mono ?_
  rintro e w' ⟨rfl, G', hr', hc⟩
  exact ⟨rfl, after_of h0 hB hr' hc (h3.remove n)⟩
theorem cutAt_lies (h : Stands B w F d S) (hB : B ≤ w.heap.size) (op : Int) :
    Calls Tryz.prog 22 #[.pointer (some ⟨d, 0, none⟩), .int .i64 op] w fun e w' => e = .returned (.tuple #[]) ∧ After B w F d (S.cutAt op) w' := by
  have h0 := h
  obtain ⟨⟨G, hr⟩, h2, h3⟩ := h
  refine (cutAt_rep hr op).mono ?_
  rintro e w' ⟨rfl, ⟨G', hr'⟩, hc⟩
  exact ⟨rfl, after_of h0 hB (hr'.mono fun k hk => Or.inl hk) hc (h3.same rfl rfl)⟩
theorem ops_lies (h : Stands B w F d S) : Calls Tryz.prog 9 #[.pointer (some ⟨d, 0, none⟩)] w fun e w' => e = .returned (.int .i64 (S.n : Int)) ∧ w' = w := by
  obtain ⟨⟨G, hr⟩, _⟩ := h
  exact ops_rep hr
theorem size_lies (h : Stands B w F d S) (n : Nm) : Calls Tryz.prog 15 #[.pointer (some ⟨d, 0, none⟩), .string (strB n)] w fun e w' => e = .returned (.int .i64 (S.size n)) ∧ w' = w := by
  obtain ⟨⟨G, hr⟩, _⟩ := h
  exact size_rep hr n
theorem crash_lies (h : Stands B w F d S) (hB : B ≤ w.heap.size) (keep t : Int) (hb : S.bulk < 1099511627776) :
    Calls Tryz.prog 20 #[.pointer (some ⟨d, 0, none⟩), .int .i64 keep, .int .i64 t] w fun e w' => ∃ d2 F2, e = .returned (.pointer (some ⟨d2, 0, none⟩)) ∧ Stands B w' F2 d2 (S.crash keep t) ∧ (∀ k, F2 k → w.heap.size ≤ k) ∧ Chg (fun _ => False) w w' := by
  obtain ⟨⟨G, hr⟩, h2, h3⟩ := h
  refine (crash_rep hr hb keep t).mono ?_
  rintro e w' ⟨d2, G2, rfl, hr2, hc⟩
  exact ⟨d2, _, rfl, ⟨⟨G2, hr2⟩, fun k hk => ⟨Nat.le_trans hB hk.1, hk.2⟩, h3.crash keep t⟩, fun k hk => hk.1, hc⟩
theorem new_lies2 (w : World) (hB : B ≤ w.heap.size) (room : Nat) (hr : room < 9223372036854775808) : Calls Tryz.prog 25 #[.int .i64 (room : Int)] w fun e w' => e = .returned (.tuple #[.pointer (some ⟨w.heap.size, 0, none⟩), .int .i64 0]) ∧ Stands B w' (· = w.heap.size) w.heap.size (Dk.new room) ∧ Chg (fun _ => False) w w' := by
  refine (new_rep w room hr).mono ?_
  rintro e w' ⟨G, rfl, hr, hc⟩
  exact ⟨rfl, ⟨⟨G, hr⟩, fun k hk => by rw [hk]; exact ⟨hB, hr.lt⟩, named_new room⟩, hc⟩
theorem read_lies (h : Stands B w F d S) (hB : B ≤ w.heap.size) (n : Nm) (hb : S.bulk < 1099511627776) :
    Calls Tryz.prog 59 #[.pointer (some ⟨d, 0, none⟩), .string (strB n)] w fun e w' => ∃ v, e = .returned (.tuple #[v, .int .i64 (S.read n).2]) ∧ w'.ownsRow w.heap.size 5 1 v (S.read n).1.length (bc (S.read n).1) ∧
      ∃ F', Stands B w' F' d S.begun ∧ (∀ k, F' k → F k ∨ w.heap.size ≤ k) ∧ Chg F w w' ∧ ∀ k, v.ownBlock = some k → ¬ F' k := by
  obtain ⟨⟨G, hr⟩, h2, h3⟩ := h
  refine (read_rep hr (fun k hk => (h2 k hk).2) hb n).mono ?_
  rintro e w' ⟨v, G', rfl, F', hr', hc, hF', hown, hnot⟩
  refine ⟨v, rfl, hown, F', ⟨⟨G', hr'⟩, fun k hk => ?_, h3.begun⟩, fun k hk => ?_, hc, hnot⟩
  · rcases hF' k hk with h | h
    · exact ⟨(h2 k h).1, Nat.lt_of_lt_of_le (h2 k h).2 hc.size⟩
    · exact ⟨Nat.le_trans hB h.1, h.2⟩
  · rcases hF' k hk with h | h
    · exact Or.inl h
    · exact Or.inr h.1
end Go.Proofs.YthjcimgollfmgaaGreatDoor

/-
  What ReadAt, Turn, SetRoom do, of a disk that stands. Conditions: a disk within bounds.
-/
namespace Go.Proofs.YthjcimgollfmgaaGreatDoor
open Go.RowKit
section
variable {w w' : World} {F : Nat → Prop} {d : Nat} {S : Dk} {G : Gh}
theorem own_cap {w : World} {base n size cap m : Nat} {e : TypeId} {ao : Option Addr} {xs : List Value} (h : w.ownsRow base e size (.slice ao m cap) n xs) : n ≤ cap := by
  rcases h.2 with ⟨hv, hn⟩ | ⟨g', cap', cur, hv, _, _, hc, _⟩
  · omega
  · injection hv with e1 e2 e3
    omega
theorem sl_cut {w : World} {ra : Option Addr} {rc : Nat} {l : List UInt8} (h : w.ownsRow 0 5 1 (.slice ra l.length rc) l.length (bc l)) {i j : Nat} (hij : i + j ≤ l.length) (hlt : i < rc) : Sl w (.slice (ra.map fun x => x.add i) j (rc - i)) ((l.drop i).take j) := by
  have hlen : ((l.drop i).take j).length = j := by simp; omega
  have h0 := h
  rcases h.2 with ⟨hv, hn⟩ | ⟨g, cap', cur, hv, -, hh, h1, h2, -⟩
  · injection hv with e1 e2 e3
    omega
  · injection hv with e1 e2 e3
    subst e1 e3
    refine ⟨some ⟨g, 0 + i, none⟩, rc - i, ?_, by omega, by omega, (fun e => by cases e), fun _ => ⟨g, 0 + i, rfl, lt_of_heap hh, fun q hq => ?_⟩⟩
    · rw [hlen, Option.map_some, Addr.add_lit]
    · rw [hlen] at hq
      have := World.ownsRow.cells h0 (g := g) rfl (i + q) _ (bc_get l (i + q) (by omega))
      rw [Addr.add_lit] at this
      rw [show 0 + i + q = 0 + (i + q) by omega, this]
      simp
theorem sl_cut0 {w : World} {ra : Option Addr} {rc : Nat} {l : List UInt8} (h : w.ownsRow 0 5 1 (.slice ra l.length rc) l.length (bc l)) {i j : Nat} (hij : i + j ≤ l.length) (hlt : rc ≤ i) : Sl w (.slice ra j 0) ((l.drop i).take j) := by
  have hc := own_cap h
  have hj : j = 0 := by omega
  subst hj
  have e : (l.drop i).take 0 = [] := by simp
  rw [e]
  exact ⟨ra, 0, rfl, Nat.le_refl _, by simp, fun _ => rfl, fun h => absurd rfl h⟩
set_option maxRecDepth 20000 in
set_option maxHeartbeats 1600000 in
theorem readAt_rep (h : Rep w F d S G) (hlow : ∀ k, F k → k < w.heap.size) (hb : S.bulk < 1099511627776) (n : Nm) (a m : Int) (ha : -9223372036854775808 ≤ a ∧ a ≤ 9223372036854775807) (hm : -9223372036854775808 ≤ m ∧ m ≤ 9223372036854775807) :
    Calls Tryz.prog 71 #[.pointer (some ⟨d, 0, none⟩), .string (strB n), .int .i64 a, .int .i64 m] w fun e w' => ∃ v G', e = .returned (.tuple #[v, .int .i64 (S.readAt n a m).2]) ∧ ∃ F', Rep w' F' d S.begun G' ∧ Chg F w w' ∧ (∀ k, F' k → F k ∨ (w.heap.size ≤ k ∧ k < w'.heap.size)) ∧
    w'.ownsRow w.heap.size 5 1 v (S.readAt n a m).1.length (bc (S.readAt n a m).1) ∧ ∀ k, v.ownBlock = some k → ¬ F' k := by
  have hon := on_rep h hb n
  go_enter Tryz.func71, Tryz.ntmps71
  go_wp2_with fail
  refine hon.mono ?_
  rintro e w1 ⟨G', hr, hc, ⟨er, he, hne, rfl⟩ | ⟨f, fl, he, hl, rfl⟩⟩
  · have hnb : (er != 0) = true := by simp [hne]
    have HE := hide (show S.readAt n a m = ([], er) by unfold Dk.readAt; rw [he])
    have HR := hide hr
    clear he hne hr hon
    go_wp2
    go_ret2
    rw [HE.out]
    exact ⟨_, G', rfl, _, HR.out, hc, fun k hk => hk, World.ownsRow_nil _ _ _ _, fun k hk => by cases hk⟩
  · obtain ⟨x, hx, hbx, hlx, hfx, hrx⟩ := hr.file (n := n) (f := f) (by rw [(begun_dir S).1]; exact hl)
    have c0 := cell_of hfx 0
    have hby : S.bytes f = x.b := by
      rw [(begun_dir S).2.1] at hx
      exact bytes_of hx
    have hxl : x.b.length ≤ S.bulk := by
      rw [(begun_dir S).2.1] at hx
      exact file_le hx
    have HRD := hide (show S.readAt n a m = (if a < 0 ∨ m < 0 ∨ (x.b.length : Int) < a ∨ (x.b.length : Int) - a < m then ([], 2) else if fl = true then ([], 34) else ((x.b.drop a.toNat).take m.toNat, 0)) by
      unfold Dk.readAt
      rw [he]
      show (if _ then _ else _) = _
      rw [hby])
    have HR := hide hr
    obtain ⟨ra, rc, hrv⟩ := own_shape hrx
    rw [hrv] at hrx c0
    have HRX := hide hrx
    have hcap := own_cap hrx
    clear he hon hr hx hbx hlx hfx hrx hby hl
    by_cases b1 : a < 0
    · have HE := hide (HRD.out.trans (if_pos (Or.inl b1)))
      go_wp2
      go_ret2
      rw [HE.out]
      exact ⟨_, G', rfl, _, HR.out, hc, fun k hk => hk, World.ownsRow_nil _ _ _ _, fun k hk => by cases hk⟩
    by_cases b2 : m < 0
    · have HE := hide (HRD.out.trans (if_pos (Or.inr (Or.inl b2))))
      go_wp2
      go_ret2
      rw [HE.out]
      exact ⟨_, G', rfl, _, HR.out, hc, fun k hk => hk, World.ownsRow_nil _ _ _ _, fun k hk => by cases hk⟩
    by_cases b3 : (x.b.length : Int) < a
    · have HE := hide (HRD.out.trans (if_pos (Or.inr (Or.inr (Or.inl b3)))))
      go_wp2
      go_ret2
      rw [HE.out]
      exact ⟨_, G', rfl, _, HR.out, hc, fun k hk => hk, World.ownsRow_nil _ _ _ _, fun k hk => by cases hk⟩
    have hwr : IntKind.i64.wrap ((x.b.length : Int) - a) = (x.b.length : Int) - a := by rw [IntKind.wrap_i64]; omega
    by_cases b4 : (x.b.length : Int) - a < m
    · have HE := hide (HRD.out.trans (if_pos (Or.inr (Or.inr (Or.inr b4)))))
      go_wp2
      go_ret2
      rw [HE.out]
      exact ⟨_, G', rfl, _, HR.out, hc, fun k hk => hk, World.ownsRow_nil _ _ _ _, fun k hk => by cases hk⟩
    have HN := hide (show ¬ (a < 0 ∨ m < 0 ∨ (x.b.length : Int) < a ∨ (x.b.length : Int) - a < m) by omega)
    cases fl with
    | true =>
      have HE := hide (HRD.out.trans ((if_neg HN.out).trans (if_pos rfl)))
      go_wp2
      go_ret2
      rw [HE.out]
      exact ⟨_, G', rfl, _, HR.out, hc, fun k hk => hk, World.ownsRow_nil _ _ _ _, fun k hk => by cases hk⟩
    | false =>
      have HE := hide (HRD.out.trans ((if_neg HN.out).trans (if_neg (by simp))))
      obtain ⟨i, rfl⟩ : ∃ i : Nat, a = (i : Int) := ⟨a.toNat, by omega⟩
      obtain ⟨j, rfl⟩ : ∃ j : Nat, m = (j : Int) := ⟨m.toNat, by omega⟩
      have hwr2 : IntKind.i64.wrap ((i : Int) + (j : Int)) = (i : Int) + (j : Int) := by rw [IntKind.wrap_i64]; omega
      have hij1 : (i : Int) ≤ (i : Int) + (j : Int) := by omega
      have hij2 : (i : Int) + (j : Int) ≤ (rc : Int) := by omega
      have hbl : ((x.b.drop i).take j).length ≤ 70368744177664 := by simp; omega
      have hcut1 := fun hlt => sl_cut HRX.out (i := i) (j := j) (by omega) hlt
      have hcut2 := fun hlt => sl_cut0 HRX.out (i := i) (j := j) (by omega) hlt
      have HC1 := hide hcut1
      have HC2 := hide hcut2
      clear hcut1 hcut2
      by_cases hic : i < rc
      · have HLT := hide (HC1.out hic)
        have hz : ¬ rc - i = 0 := by omega
        go_wp2_with fail
        refine (clone_any _ _ _ HLT.out hbl).mono ?_
        rintro e w2 ⟨v', rfl, hown, hbel⟩
        have hcb := Chg.of_below hbel
        have hfin : ∃ F', Rep w2 F' d S.begun G' ∧ Chg F w w2 ∧ (∀ k, F' k → F k ∨ (w.heap.size ≤ k ∧ k < w2.heap.size)) ∧ w2.ownsRow w.heap.size 5 1 v' ((x.b.drop i).take j).length (bc ((x.b.drop i).take j)) ∧ ∀ k, v'.ownBlock = some k → ¬ F' k := by
          refine ⟨Fx F w w1, HR.out.keep hcb (fun k hk hle => ?_) (fun _ h => h), hc.trans hcb (fun i hi hle => ?_), fun k hk => hk.imp_right fun h => ⟨h.1, Nat.lt_of_lt_of_le h.2 hbel.size⟩, ownsRow_base_le hown hc.size, fun k hk hF => ?_⟩
          · have h0 := hc.size
            rcases hk with h1 | h1
            · have := hlow k h1
              omega
            · omega
          · have := hc.size
            omega
          · have h1 := (hown.lt k hk).1
            rcases hF with h2 | h2
            · have := hlow k h2
              have := hc.size
              omega
            · omega
        have HFIN := hide hfin
        clear hfin hown hbel hcb
        go_wp2
        go_ret2
        rw [HE.out]
        exact ⟨_, G', rfl, HFIN.out⟩
      · have HLT := hide (HC2.out (by omega))
        have hz : rc - i = 0 := by omega
        go_wp2_with fail
        refine (clone_any _ _ _ HLT.out hbl).mono ?_
        rintro e w2 ⟨v', rfl, hown, hbel⟩
        have hcb := Chg.of_below hbel
        have hfin : ∃ F', Rep w2 F' d S.begun G' ∧ Chg F w w2 ∧ (∀ k, F' k → F k ∨ (w.heap.size ≤ k ∧ k < w2.heap.size)) ∧ w2.ownsRow w.heap.size 5 1 v' ((x.b.drop i).take j).length (bc ((x.b.drop i).take j)) ∧ ∀ k, v'.ownBlock = some k → ¬ F' k := by
          refine ⟨Fx F w w1, HR.out.keep hcb (fun k hk hle => ?_) (fun _ h => h), hc.trans hcb (fun i hi hle => ?_), fun k hk => hk.imp_right fun h => ⟨h.1, Nat.lt_of_lt_of_le h.2 hbel.size⟩, ownsRow_base_le hown hc.size, fun k hk hF => ?_⟩
          · have h0 := hc.size
            rcases hk with h1 | h1
            · have := hlow k h1
              omega
            · omega
          · have := hc.size
            omega
          · have h1 := (hown.lt k hk).1
            rcases hF with h2 | h2
            · have := hlow k h2
              have := hc.size
              omega
            · omega
        have HFIN := hide hfin
        clear hfin hown hbel hcb
        go_wp2
        go_ret2
        rw [HE.out]
        exact ⟨_, G', rfl, HFIN.out⟩
end
variable {B : Nat} {w w' : World} {F : Nat → Prop} {d : Nat} {S : Dk}
theorem readAt_lies (h : Stands B w F d S) (hB : B ≤ w.heap.size) (n : Nm) (a m : Int) (ha : -9223372036854775808 ≤ a ∧ a ≤ 9223372036854775807) (hm : -9223372036854775808 ≤ m ∧ m ≤ 9223372036854775807) (hb : S.bulk < 1099511627776) :
    Calls Tryz.prog 71 #[.pointer (some ⟨d, 0, none⟩), .string (strB n), .int .i64 a, .int .i64 m] w fun e w' => ∃ v, e = .returned (.tuple #[v, .int .i64 (S.readAt n a m).2]) ∧ w'.ownsRow w.heap.size 5 1 v (S.readAt n a m).1.length (bc (S.readAt n a m).1) ∧
      ∃ F', Stands B w' F' d S.begun ∧ (∀ k, F' k → F k ∨ w.heap.size ≤ k) ∧ Chg F w w' ∧ ∀ k, v.ownBlock = some k → ¬ F' k := by
  obtain ⟨⟨G, hr⟩, h2, h3⟩ := h
  refine (readAt_rep hr (fun k hk => (h2 k hk).2) hb n a m ha hm).mono ?_
  rintro e w' ⟨v, G', rfl, F', hr', hc, hF, hown, hv⟩
  refine ⟨v, rfl, hown, F', ⟨⟨G', hr'⟩, fun k hk => ?_, h3.begun⟩, fun k hk => (hF k hk).imp_right (·.1), hc, hv⟩
  rcases hF k hk with h | h
  · exact ⟨(h2 k h).1, Nat.lt_of_lt_of_le (h2 k h).2 hc.size⟩
  · exact ⟨Nat.le_trans hB h.1, h.2⟩
end Go.Proofs.YthjcimgollfmgaaGreatDoor

/-
  Plain facts on numbers' bytes, without any program: the bytes of a number by sevens, what bytes say, and that the two are one to one. No condition.
-/
namespace Go.Proofs.YthjcimgollfmgaaGreatDoor.Pl

def zz (n : Int) : Nat := if 0 ≤ n then (2 * n).toNat else (-2 * n - 1).toNat
def unzz (u : Nat) : Int := if u % 2 = 0 then ((u / 2 : Nat) : Int) else -((u / 2 : Nat) : Int) - 1

def encF : Nat → Nat → List UInt8
  | 0, u => [UInt8.ofNat u]
  | k + 1, u => if u < 128 then [UInt8.ofNat u] else UInt8.ofNat (u % 128 + 128) :: encF k (u / 128)
def enc (u : Nat) : List UInt8 := encF 9 u

def dec : List UInt8 → Nat → Nat → Option (Nat × Nat)
  | [], _, _ => none
  | c :: r, k, acc =>
    if k = 9 ∧ 1 < c.toNat then none
    else if 0 < k ∧ c.toNat = 0 then none
    else if c.toNat < 128 then some (acc + c.toNat * 2 ^ (7 * k), k + 1)
    else dec r (k + 1) (acc + (c.toNat - 128) * 2 ^ (7 * k))

theorem zz_lt (n : Int) (h0 : -9223372036854775808 ≤ n) (h1 : n ≤ 9223372036854775807) : zz n < 18446744073709551616 := by
  unfold zz; split <;> omega
theorem unzz_zz (n : Int) : unzz (zz n) = n := by
  unfold unzz zz
  by_cases h : 0 ≤ n
  · rw [if_pos h, if_pos (by omega)]; omega
  · rw [if_neg h, if_neg (by omega)]; omega
theorem zz_unzz (u : Nat) : zz (unzz u) = u := by
  unfold unzz zz
  by_cases h : u % 2 = 0
  · rw [if_pos h, if_pos (by omega)]; omega
  · rw [if_neg h, if_neg (by omega)]; omega
theorem unzz_bd (u : Nat) (h : u < 18446744073709551616) : -9223372036854775808 ≤ unzz u ∧ unzz u ≤ 9223372036854775807 := by
  unfold unzz; split <;> omega

theorem byte_small {u : Nat} (h : u < 256) : (UInt8.ofNat u).toNat = u := by
  rw [UInt8.toNat_ofNat']; exact Nat.mod_eq_of_lt h

theorem encF_length (f : Nat) : ∀ u, 1 ≤ (encF f u).length ∧ (encF f u).length ≤ f + 1 := by
  induction f with
  | zero => intro u; simp [encF]
  | succ f ih =>
    intro u
    unfold encF
    split
    · simp
    · have := ih (u / 128); simp; omega
theorem enc_length (u : Nat) : 1 ≤ (enc u).length ∧ (enc u).length ≤ 10 := encF_length 9 u

theorem encF_fits (f : Nat) : ∀ u m : Nat, 1 ≤ m → u < 2 ^ (7 * m) → (encF f u).length ≤ m := by
  induction f with
  | zero => intro u m h _; simpa [encF] using h
  | succ f ih =>
    intro u m h hu
    unfold encF
    split
    · simpa using h
    · rename_i h1
      cases m with
      | zero => omega
      | succ m =>
        have hm : 1 ≤ m := by
          cases m with
          | zero => simp at hu; omega
          | succ m => omega
        have := ih (u / 128) m hm (by rw [Nat.mul_add, Nat.pow_add] at hu; omega)
        simp; omega
theorem enc_fits (u m : Nat) (h : 1 ≤ m) (hu : u < 2 ^ (7 * m)) : (enc u).length ≤ m := encF_fits 9 u m h hu

theorem p7 (k : Nat) : 2 ^ (7 * (k + 1)) = 128 * 2 ^ (7 * k) := by
  rw [Nat.mul_add, Nat.pow_add]; omega

theorem dec_encF (f : Nat) : ∀ (u k acc : Nat) (r : List UInt8), f + k = 9 → u * 2 ^ (7 * k) < 18446744073709551616 → (0 < k → 0 < u) →
    dec (encF f u ++ r) k acc = some (acc + u * 2 ^ (7 * k), k + (encF f u).length) := by
  induction f with
  | zero =>
    intro u k acc r hk hu hp
    obtain rfl : k = 9 := by omega
    have hu2 : u < 2 := by
      have : (2 : Nat) ^ (7 * 9) = 9223372036854775808 := by decide
      rw [this] at hu; omega
    have hb : (UInt8.ofNat u).toNat = u := byte_small (by omega)
    have h0 : 0 < u := hp (by omega)
    simp only [encF, List.cons_append, dec, hb]
    rw [if_neg (by omega), if_neg (by omega), if_pos (by omega)]
    rfl
  | succ f ih =>
    intro u k acc r hk hu hp
    unfold encF
    by_cases h : u < 128
    · have hb : (UInt8.ofNat u).toNat = u := byte_small (by omega)
      rw [if_pos h]
      simp only [List.cons_append, dec, hb]
      rw [if_neg (by omega), if_neg (by omega), if_pos h]
      rfl
    · have hb : (UInt8.ofNat (u % 128 + 128)).toNat = u % 128 + 128 := byte_small (by omega)
      rw [if_neg h]
      simp only [List.cons_append, dec, hb]
      have hsp : u * 2 ^ (7 * k) = (u % 128) * 2 ^ (7 * k) + (u / 128) * 2 ^ (7 * (k + 1)) := by
        rw [p7, ← Nat.mul_assoc, ← Nat.add_mul]; congr 1; omega
      rw [if_neg (by omega), if_neg (by omega), if_neg (by omega), ih (u / 128) (k + 1) _ r (by omega) (by omega) (by omega)]
      simp only [List.length_cons, Option.some.injEq, Prod.mk.injEq]
      refine ⟨?_, by omega⟩
      rw [hsp, Nat.add_sub_cancel, Nat.add_assoc]
theorem dec_enc (u : Nat) (r : List UInt8) (h : u < 18446744073709551616) : dec (enc u ++ r) 0 0 = some (u, (enc u).length) := by
  have := dec_encF 9 u 0 0 r (by omega) (by simpa using h) (by omega)
  simpa [enc] using this

theorem encF_small (f u : Nat) (h : u < 128) : encF f u = [UInt8.ofNat u] := by
  cases f with
  | zero => rfl
  | succ f => unfold encF; rw [if_pos h]

theorem dec_sound : ∀ (l : List UInt8) (k acc u c : Nat), k ≤ 9 → dec l k acc = some (u, c) →
    ∃ x m, u = acc + x * 2 ^ (7 * k) ∧ c = k + m ∧ m ≤ l.length ∧ l.take m = encF (9 - k) x ∧ (0 < k → 0 < x) ∧ x * 2 ^ (7 * k) < 18446744073709551616 := by
  intro l
  induction l with
  | nil => intro k acc u c _ h; simp [dec] at h
  | cons b r ih =>
    intro k acc u c hk h
    have hb : b.toNat < 256 := b.toNat_lt
    simp only [dec] at h
    split at h
    · cases h
    split at h
    · cases h
    split at h
    · rename_i h1 h2 h3
      simp only [Option.some.injEq, Prod.mk.injEq] at h
      refine ⟨b.toNat, 1, h.1.symm, h.2.symm, by simp, ?_, by omega, ?_⟩
      · rw [encF_small _ _ h3]; simp
      · by_cases e : k = 9
        · subst e; have e2 : (2 : Nat) ^ (7 * 9) = 9223372036854775808 := by decide
          rw [e2]; omega
        · have : (2 : Nat) ^ (7 * k) ≤ 2 ^ 56 := Nat.pow_le_pow_right (by omega) (by omega)
          have e3 : (2 : Nat) ^ 56 = 72057594037927936 := by decide
          rw [e3] at this
          have := Nat.mul_le_mul (show b.toNat ≤ 127 by omega) this
          omega
    · rename_i h1 h2 h3
      obtain ⟨x, m, hu, hc, hm, ht, hx, hlt⟩ := ih (k + 1) _ u c (by omega) h
      have hx0 := hx (by omega)
      refine ⟨b.toNat - 128 + 128 * x, m + 1, ?_, by omega, by simp; omega, ?_, by omega, ?_⟩
      · rw [hu, p7, Nat.add_mul, Nat.add_assoc]; congr 2; rw [Nat.mul_comm 128 x, Nat.mul_assoc]
      · rw [List.take_succ_cons, ht, show 9 - k = (9 - (k + 1)) + 1 from by omega]
        conv => rhs; unfold encF
        rw [if_neg (by omega)]
        have e1 : (b.toNat - 128 + 128 * x) % 128 + 128 = b.toNat := by omega
        have e2 : (b.toNat - 128 + 128 * x) / 128 = x := by omega
        rw [e1, e2]
        simp
      · rw [p7] at hlt
        have e : (b.toNat - 128 + 128 * x) * 2 ^ (7 * k) = (b.toNat - 128) * 2 ^ (7 * k) + x * (128 * 2 ^ (7 * k)) := by
          rw [Nat.add_mul]; congr 1; rw [Nat.mul_comm 128 x, Nat.mul_assoc]
        have hk8 : k ≤ 8 := by omega
        have key : (b.toNat - 128) * 2 ^ (7 * k) < 128 * 2 ^ (7 * k) := Nat.mul_lt_mul_of_pos_right (by omega) (Nat.two_pow_pos _)
        rw [e]
        have hd : x * (128 * 2 ^ (7 * k)) + 128 * 2 ^ (7 * k) ≤ 18446744073709551616 := by
          have hpw : 18446744073709551616 = 2 ^ (64 - 7 * (k + 1)) * (128 * 2 ^ (7 * k)) := by
            rw [← p7, ← Nat.pow_add, show 64 - 7 * (k + 1) + 7 * (k + 1) = 64 from by omega]
          rw [hpw] at hlt ⊢
          have := Nat.lt_of_mul_lt_mul_right hlt
          rw [← Nat.succ_mul]
          exact Nat.mul_le_mul_right _ this
        omega

theorem dec_take {l : List UInt8} {u c : Nat} (h : dec l 0 0 = some (u, c)) : u < 18446744073709551616 ∧ c ≤ l.length ∧ l.take c = enc u ∧ c = (enc u).length := by
  obtain ⟨x, m, hu, hc, hm, ht, _, hlt⟩ := dec_sound l 0 0 u c (by omega) h
  simp at hu hc hlt
  subst hu hc
  refine ⟨hlt, hm, ht, ?_⟩
  have := congrArg List.length ht
  simp at this
  unfold enc
  omega

/-- No number's bytes are the beginning of another one's. -/
theorem enc_prefix {u v : Nat} {r : List UInt8} (hu : u < 18446744073709551616) (hv : v < 18446744073709551616) (h : enc v = enc u ++ r) : u = v ∧ r = [] := by
  have h1 := dec_enc v [] hv
  rw [List.append_nil, h, dec_enc u r hu] at h1
  simp only [Option.some.injEq, Prod.mk.injEq] at h1
  refine ⟨h1.1, ?_⟩
  have := h1.2
  simp at this
  exact this

theorem dec_cut {u j : Nat} (hu : u < 18446744073709551616) (hj : j < (enc u).length) : dec ((enc u).take j) 0 0 = none := by
  cases h : dec ((enc u).take j) 0 0 with
  | none => rfl
  | some p =>
    obtain ⟨v, c⟩ := p
    obtain ⟨hv, hc, ht, he⟩ := dec_take h
    have hc' : c ≤ j := by simp at hc; omega
    rw [List.take_take, Nat.min_eq_left hc'] at ht
    have e : enc u = enc v ++ (enc u).drop c := by rw [← ht, List.take_append_drop]
    have := (enc_prefix hv hu e).2
    simp at this
    omega

end Go.Proofs.YthjcimgollfmgaaGreatDoor.Pl

/-
  What the program's small functions on numbers answer: fold, unfold, Len64, width. Conditions: arguments within their kinds.
-/
namespace Go.Proofs.YthjcimgollfmgaaGreatDoor
open Go.RowKit

theorem xor_ones64 (b : Nat) (hb : b < 18446744073709551616) : 18446744073709551615 ^^^ b = 18446744073709551615 - b := by
  have hb' : b < 2 ^ 64 := by simpa using hb
  have e : ((2 ^ 64 - 1 : Nat)) ^^^ b = 2 ^ 64 - 1 - b := by
    apply Nat.eq_of_testBit_eq
    intro i
    rw [Nat.testBit_xor, Nat.testBit_two_pow_sub_one, show 2 ^ 64 - 1 - b = 2 ^ 64 - (b + 1) by omega, Nat.testBit_two_pow_sub_succ hb']
    by_cases hi : i < 64
    · simp [hi]
    · have : b.testBit i = false := Nat.testBit_lt_two_pow (Nat.lt_of_lt_of_le hb' (Nat.pow_le_pow_right (by decide) (by omega)))
      simp [hi, this]
  simpa using e

theorem fold_eq (n : Int) (h0 : -9223372036854775808 ≤ n) (h1 : n ≤ 9223372036854775807) :
    bits .xor .u64 (IntKind.u64.wrap (IntKind.u64.wrap n * 2)) (IntKind.u64.wrap (n / 9223372036854775808)) = ((Pl.zz n : Nat) : Int) := by
  by_cases h : 0 ≤ n
  · have e1 : IntKind.u64.wrap (IntKind.u64.wrap n * 2) = ((2 * n).toNat : Int) := by
      rw [IntKind.wrap_u64, IntKind.wrap_u64]; omega
    have e2 : IntKind.u64.wrap (n / 9223372036854775808) = ((0 : Nat) : Int) := by
      rw [IntKind.wrap_u64]; omega
    rw [e1, e2, bits_xor_u64_nat _ _ (by omega) (by omega), Nat.xor_zero]
    unfold Pl.zz; rw [if_pos h]
  · have e1 : IntKind.u64.wrap (IntKind.u64.wrap n * 2) = ((2 * n + 18446744073709551616).toNat : Int) := by
      rw [IntKind.wrap_u64, IntKind.wrap_u64]; omega
    have e2 : IntKind.u64.wrap (n / 9223372036854775808) = ((18446744073709551615 : Nat) : Int) := by
      rw [IntKind.wrap_u64]; omega
    rw [e1, e2, bits_xor_u64_nat _ _ (by omega) (by omega), Nat.xor_comm, xor_ones64 _ (by omega)]
    unfold Pl.zz; rw [if_neg h]
    omega

theorem ret_intW {k : IntKind} {a b : Int} (h : a = b) : Ending.returned (.int k a) = .returned (.int k b) := by rw [h]

theorem fold_any (n : Int) (w : World) (h0 : -9223372036854775808 ≤ n) (h1 : n ≤ 9223372036854775807) :
    Calls Tryz.prog 65 #[.int .i64 n] w fun e w' => e = .returned (.int .u64 (Pl.zz n)) ∧ w' = w := by
  go_enter Tryz.func65, Tryz.ntmps65
  go_wp2
  go_ret
  exact ⟨ret_intW (fold_eq n h0 h1), rfl⟩

theorem i64_not (x : Nat) (hx : x < 9223372036854775808) : bits .xor .i64 (x : Int) (-1) = -(x : Int) - 1 := by
  show IntKind.i64.wrap ((BitVec.ofInt 64 (x : Int) ^^^ BitVec.ofInt 64 (-1)).toNat : Int) = _
  have h1 : (BitVec.ofInt 64 (-1)).toNat = 18446744073709551615 := by decide
  have h2 : (BitVec.ofInt 64 (x : Int)).toNat = x := by
    rw [BitVec.ofInt_natCast, BitVec.toNat_ofNat]; exact Nat.mod_eq_of_lt (by omega)
  rw [BitVec.toNat_xor, h1, h2, Nat.xor_comm, xor_ones64 x (by omega), IntKind.wrap_i64]
  omega
theorem i64_xor0 (x : Nat) (hx : x < 9223372036854775808) : bits .xor .i64 (x : Int) 0 = (x : Int) := by
  show IntKind.i64.wrap ((BitVec.ofInt 64 (x : Int) ^^^ BitVec.ofInt 64 0).toNat : Int) = _
  have h1 : (BitVec.ofInt 64 0).toNat = 0 := by decide
  have h2 : (BitVec.ofInt 64 (x : Int)).toNat = x := by
    rw [BitVec.ofInt_natCast, BitVec.toNat_ofNat]; exact Nat.mod_eq_of_lt (by omega)
  rw [BitVec.toNat_xor, h1, h2, Nat.xor_zero, IntKind.wrap_i64]
  omega
theorem wraps_u64 (n : Int) (h₀ : 0 ≤ n) (h₁ : n < 2 ^ 64) : IntKind.u64.wrap n = n := by rw [IntKind.wrap_u64]; omega
theorem u64_and1 (x : Int) (h₀ : 0 ≤ x) (h₁ : x < 18446744073709551616) : bits .and .u64 x 1 = x % 2 := by
  have h := bits_mask .u64 64 (by decide) wraps_u64 1 (by decide) x h₀ (by omega)
  simpa using h

theorem unfold_eq (u : Nat) (h1 : u < 18446744073709551616) :
    bits .xor .i64 ((u : Int) / 2) (wrap64 (-wrap64 (bits .and .u64 (u : Int) 1))) = Pl.unzz u := by
  rw [u64_and1 _ (by omega) (by omega)]
  have e0 : ((u : Int) / 2) = ((u / 2 : Nat) : Int) := by omega
  unfold Pl.unzz
  by_cases h : u % 2 = 0
  · have e : ((u : Int) % 2) = 0 := by omega
    rw [if_pos h, e, show wrap64 (-wrap64 0) = 0 from by unfold wrap64; omega, e0, i64_xor0 _ (by omega)]
  · have e : ((u : Int) % 2) = 1 := by omega
    rw [if_neg h, e, show wrap64 (-wrap64 1) = -1 from by unfold wrap64; omega, e0, i64_not _ (by omega)]

theorem unfold_any (u : Nat) (w : World) (h1 : u < 18446744073709551616) :
    Calls Tryz.prog 125 #[.int .u64 u] w fun e w' => e = .returned (.int .i64 (Pl.unzz u)) ∧ w' = w := by
  go_enter Tryz.func125, Tryz.ntmps125
  go_wp2
  go_ret
  exact ⟨ret_intW (unfold_eq u h1), rfl⟩

theorem len8_at (y : Int) (h : y.toNat < Lib.len8tab.size) : ((Lib.len8tab[y.toNat]'h).toNat : Int) = Lib.len8 y := by
  unfold Lib.len8
  rw [getElem?_pos Lib.len8tab y.toNat h]
  rfl
theorem bitLenAux_gt : ∀ f x : Nat, x < 2 ^ f → x < 2 ^ Lib.bitLenAux f x := by
  intro f
  induction f with
  | zero => intro x h; simpa [Lib.bitLenAux] using h
  | succ f ih =>
    intro x h
    unfold Lib.bitLenAux
    split
    · subst_vars; simp
    · have := ih (x / 2) (by rw [Nat.pow_succ] at h; omega)
      rw [Nat.add_comm, Nat.pow_succ]
      omega
theorem tab_fact (y : Int) (h0 : 0 ≤ y) (h1 : y ≤ 255) (h : y.toNat < Lib.len8tab.size) : ∃ m : Nat, ((Lib.len8tab[y.toNat]'h).toNat : Int) = (m : Int) ∧ m ≤ 8 ∧ y + 1 ≤ 2 ^ m := by
  have e := (len8_at y h).trans (Lib.len8_of y h0 h1)
  have f1 := Lib.bitLen_le8' y h0 h1
  have f2 : y.toNat < 2 ^ Lib.bitLen y.toNat := bitLenAux_gt 64 _ (by omega)
  generalize Lib.bitLen y.toNat = m at *
  refine ⟨m, e, f1, ?_⟩
  clear e
  have h3 : ((y.toNat : Nat) : Int) < ((2 ^ m : Nat) : Int) := by omega
  rw [Int.natCast_pow] at h3
  have h4 : (((2 : Nat) : Int)) = 2 := rfl
  rw [h4] at h3
  omega
theorem len_end (x y : Int) (b : Nat) (w : World) (hb : b ≤ 56) (h0 : 0 ≤ y) (h1 : y ≤ 255) (h : y.toNat < Lib.len8tab.size) (hx : x < (y + 1) * 2 ^ b) :
    ∃ n : Nat, Ending.returned (.int .i64 (wrap64 ((b : Int) + wrap64 ((Lib.len8tab[y.toNat]'h).toNat : Int)))) = Ending.returned (.int .i64 n) ∧ n ≤ 64 ∧ x < 2 ^ n ∧ w = w := by
  obtain ⟨m, e, f1, f2⟩ := tab_fact y h0 h1 h
  rw [e]
  clear e
  refine ⟨b + m, ret_intW ?_, by omega, ?_, rfl⟩
  · unfold wrap64; omega
  · rw [Int.pow_add]
    have hp : (0 : Int) ≤ 2 ^ b := Int.pow_nonneg (by omega)
    have := Int.mul_le_mul_of_nonneg_right f2 hp
    rw [Int.mul_comm (2 ^ b)]
    omega
theorem len_end0 (x : Int) (w : World) (h0 : 0 ≤ x) (h1 : x ≤ 255) (h : x.toNat < Lib.len8tab.size) :
    ∃ n : Nat, Ending.returned (.int .i64 (wrap64 (wrap64 ((Lib.len8tab[x.toNat]'h).toNat : Int)))) = Ending.returned (.int .i64 n) ∧ n ≤ 64 ∧ x < 2 ^ n ∧ w = w := by
  obtain ⟨m, e, f1, f2⟩ := tab_fact x h0 h1 h
  rw [e]
  clear e
  refine ⟨m, ret_intW ?_, by omega, by omega, rfl⟩
  unfold wrap64; omega

set_option maxRecDepth 100000 in
set_option maxHeartbeats 1000000 in
theorem len64_any (x : Int) (w : World) (h0 : 0 ≤ x) (h1 : x ≤ 18446744073709551615) :
    Calls Tryz.prog 98 #[.int .u64 x] w fun e w' => ∃ n : Nat, e = .returned (.int .i64 n) ∧ n ≤ 64 ∧ x < 2 ^ n ∧ w' = w := by
  have hsz : (Lib.len8tab.size : Int) = 256 := by rw [Lib.len8tab_size]; rfl
  have HS : Hid ((Lib.len8tab.size : Int) = 256) := hsz
  clear hsz
  go_enter Tryz.func98, Tryz.ntmps98
  go_wp2
  · go_ret; exact len_end x (x / 4294967296 / 65536 / 256) 56 _ (by omega) (by omega) (by omega) _ (by omega)
  · exfalso; have hs := HS.out; omega
  · go_ret; exact len_end x (x / 4294967296 / 65536) 48 _ (by omega) (by omega) (by omega) _ (by omega)
  · exfalso; have hs := HS.out; omega
  · go_ret; exact len_end x (x / 4294967296 / 256) 40 _ (by omega) (by omega) (by omega) _ (by omega)
  · exfalso; have hs := HS.out; omega
  · go_ret; exact len_end x (x / 4294967296) 32 _ (by omega) (by omega) (by omega) _ (by omega)
  · exfalso; have hs := HS.out; omega
  · go_ret; exact len_end x (x / 65536 / 256) 24 _ (by omega) (by omega) (by omega) _ (by omega)
  · exfalso; have hs := HS.out; omega
  · go_ret; exact len_end x (x / 65536) 16 _ (by omega) (by omega) (by omega) _ (by omega)
  · exfalso; have hs := HS.out; omega
  · go_ret; exact len_end x (x / 256) 8 _ (by omega) (by omega) (by omega) _ (by omega)
  · exfalso; have hs := HS.out; omega
  · go_ret; exact len_end0 x _ (by omega) (by omega) _

theorem or1_le (x : Int) (h0 : 0 ≤ x) (h1 : x ≤ 18446744073709551615) : x ≤ bits .or .u64 x 1 ∧ bits .or .u64 x 1 ≤ 18446744073709551615 := by
  have e := u64_or x 1 h0 (by omega) (by omega) (by omega)
  rw [e]
  have h2 : x.toNat ≤ x.toNat ||| (1 : Int).toNat := Nat.left_le_or
  have h3 : x.toNat ||| (1 : Int).toNat < 2 ^ 64 := Nat.or_lt_two_pow (by omega) (by decide)
  omega
theorem or1_pos (x : Int) (h0 : 0 ≤ x) (h1 : x ≤ 18446744073709551615) : 1 ≤ bits .or .u64 x 1 := by
  have e := u64_or x 1 h0 (by omega) (by omega) (by omega)
  rw [e]
  have h2 : (1 : Int).toNat ≤ x.toNat ||| (1 : Int).toNat := Nat.right_le_or
  have h3 : (1 : Int).toNat = 1 := rfl
  omega

theorem width_end (x y : Int) (n : Nat) (w : World) (hb : x ≤ y) (hp : 1 ≤ y) (hn : n ≤ 64) (hx : y < 2 ^ n) :
    ∃ m : Nat, Ending.returned (.int .i64 (((n : Int) + 7 - 1) / 7)) = Ending.returned (.int .i64 m) ∧ 1 ≤ m ∧ m ≤ 10 ∧ x.toNat < 2 ^ (7 * m) ∧ w = w := by
  have h0 : n ≠ 0 := by rintro rfl; simp at hx; omega
  have h2 : y.toNat < 2 ^ n := by
    have e : ((2 ^ n : Nat) : Int) = 2 ^ n := Int.natCast_pow 2 n
    rw [← e] at hx
    omega
  have h3 : (2 : Nat) ^ n ≤ 2 ^ (7 * ((n + 6) / 7)) := Nat.pow_le_pow_right (by omega) (by omega)
  exact ⟨(n + 6) / 7, ret_intW (by omega), by omega, by omega, by omega, rfl⟩
theorem width_any (x : Int) (w : World) (h0 : 0 ≤ x) (h1 : x ≤ 18446744073709551615) :
    Calls Tryz.prog 68 #[.int .u64 x] w fun e w' => ∃ n : Nat, e = .returned (.int .i64 n) ∧ 1 ≤ n ∧ n ≤ 10 ∧ x.toNat < 2 ^ (7 * n) ∧ w' = w := by
  have hb := or1_le x h0 h1
  have hp := or1_pos x h0 h1
  go_enter Tryz.func68, Tryz.ntmps68
  go_wp2_with fail
  refine (len64_any _ _ (by omega) hb.2).mono ?_
  rintro e w' ⟨n, rfl, hn, hx, rfl⟩
  go_wp2
  go_ret
  exact width_end x _ n _ hb.1 hp hn hx
end Go.Proofs.YthjcimgollfmgaaGreatDoor
