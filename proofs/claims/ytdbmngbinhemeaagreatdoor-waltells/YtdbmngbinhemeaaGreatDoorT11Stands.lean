/-
  The disk's methods as the statements use them: a disk lies in memory made since the call began; other disks beside it stay. Conditions: how much the disk has.
-/
import Derived.Test.YtdbmngbinhemeaaGreatDoorT10CrashRun
import Derived.Test.YtdbmngbinhemeaaGreatDoorT8DirEnd
import Derived.Test.YtdbmngbinhemeaaGreatDoorT7Remove
namespace Go.Proofs.YtdbmngbinhemeaaGreatDoor
open Go.RowKit
variable {B : Nat} {w w' : World} {F : Nat → Prop} {d : Nat} {S : Dk}

variable {G : Gh}
/-- Append, told once more: only bytes that are there must lie beside the disk. -/
theorem append_rep2 (h : Rep w F d S G) (n : Nm) {v : Value} {b : List UInt8} (hb : S.bulk + b.length + 3 < 1099511627776) (hv : Sl w v b) (hvF : b ≠ [] → ∀ g, v.ownBlock = some g → ¬ F g) :
    Calls Tryz.prog 55 #[.pointer (some ⟨d, 0, none⟩), .string (strB n), v] w fun e w' => e = .returned (.int .i64 (S.append n b).2) ∧ ∃ G', Rep w' (Fx F w w') d (S.append n b).1 G' ∧ Chg F w w' := by
  have hnl := n_le S
  unfold Dk.append
  by_cases hon : S.on = false
  · rw [if_pos hon]
    refine (append_off h hon n v).mono ?_
    rintro e w' ⟨he, hr, hc⟩
    exact ⟨he, G, hr.mono fun k hk => Or.inl hk, hc.mono fun _ _ f => f.elim⟩
  rw [if_neg hon]
  have hon' : S.on = true := by simpa using hon
  by_cases hn : isNm n = false
  · rw [if_pos hn]
    exact append_name h hon' (by omega) n hn v
  rw [if_neg hn]
  have hn' : isNm n = true := by simpa using hn
  by_cases hf : b ≠ [] ∧ S.room < S.used + b.length
  · rw [if_pos hf]
    exact append_full h hon' n hn' (by omega) hv hf.1 hf.2
  rw [if_neg hf]
  by_cases hne : b = []
  · subst hne
    obtain ⟨ao, cap, rfl, _⟩ := hv
    by_cases hfl : S.fails S.n = true
    · rw [if_pos hfl]
      exact append_io_nil h hon' n hn' (by omega) ao cap hfl
    rw [if_neg hfl]
    have hfl' : S.fails S.n = false := by simpa using hfl
    unfold Dk.app
    cases hl : look S.next.dir n with
    | none =>
      simp only [if_true]
      exact append_nil_new h hon' n hn' (by simp at hb; omega) ao cap hfl' hl
    | some f =>
      simp only [if_true]
      exact append_nil_old h hon' n hn' (by omega) ao cap hfl' hl
  · have hroom : S.used + b.length ≤ S.room := by
      refine Nat.le_of_not_lt fun hh => hf ⟨hne, hh⟩
    by_cases hfl : S.fails S.n = true
    · rw [if_pos hfl]
      exact append_io_some h hon' n hn' (by omega) hv hne hroom hfl
    rw [if_neg hfl]
    have hfl' : S.fails S.n = false := by simpa using hfl
    unfold Dk.app
    cases hl : look S.next.dir n with
    | none =>
      simp only [if_neg hne]
      exact append_some_new h hon' n hn' hb hv (hvF hne) hne hroom hfl' hl
    | some f =>
      simp only [if_neg hne]
      exact append_some_old h hon' n hn' hb hv (hvF hne) hne hroom hfl' hl
/-- At d lies a disk that is S, in blocks F, made since B. -/
def Stands (B : Nat) (w : World) (F : Nat → Prop) (d : Nat) (S : Dk) : Prop := (∃ G, Rep w F d S G) ∧ (∀ k, F k → B ≤ k ∧ k < w.heap.size) ∧ Named S
/-- Behind a call on it. -/
def After (B : Nat) (w : World) (F : Nat → Prop) (d : Nat) (S : Dk) (w' : World) : Prop := ∃ F', Stands B w' F' d S ∧ (∀ k, F' k → F k ∨ w.heap.size ≤ k) ∧ Chg F w w'

theorem Stands.ok (h : Stands B w F d S) : Ok S := by
  obtain ⟨⟨G, h⟩, _⟩ := h
  exact h.ok
theorem Stands.keep {X : Nat → Prop} (h : Stands B w F d S) (hc : Chg X w w') (hX : ∀ k, F k → ¬ X k) : Stands B w' F d S := by
  obtain ⟨⟨G, h1⟩, h2, h3⟩ := h
  exact ⟨⟨G, h1.keep hc hX (fun _ h => h)⟩, fun k hk => ⟨(h2 k hk).1, Nat.lt_of_lt_of_le (h2 k hk).2 hc.size⟩, h3⟩
theorem Chg.belowB (h : Chg F w w') (hF : ∀ k, F k → B ≤ k) (hB : B ≤ w.heap.size) : Below B w w' := h.below hF hB
theorem Stands.below (h : Stands B w F d S) (hB : B ≤ w.heap.size) (hc : Chg F w w') : Below B w w' := hc.below (fun k hk => (h.2.1 k hk).1) hB

theorem after_of {G' : Gh} {S' : Dk} (h : Stands B w F d S) (hB : B ≤ w.heap.size) (hr : Rep w' (Fx F w w') d S' G') (hc : Chg F w w') (hn : Named S') : After B w F d S' w' := by
  refine ⟨Fx F w w', ⟨⟨G', hr⟩, fun k hk => ?_, hn⟩, fun k hk => ?_, hc⟩
  · rcases hk with hk | hk
    · exact ⟨(h.2.1 k hk).1, Nat.lt_of_lt_of_le (h.2.1 k hk).2 hc.size⟩
    · exact ⟨Nat.le_trans hB hk.1, hk.2⟩
  · rcases hk with hk | hk
    · exact Or.inl hk
    · exact Or.inr hk.1

theorem append_lies (h : Stands B w F d S) (hB : B ≤ w.heap.size) (n : Nm) {v : Value} {b : List UInt8} (hb : S.bulk + b.length + 3 < 1099511627776) (hv : Sl w v b) (hvF : b ≠ [] → ∀ g, v.ownBlock = some g → ¬ F g) :
    Calls Tryz.prog 55 #[.pointer (some ⟨d, 0, none⟩), .string (strB n), v] w fun e w' => e = .returned (.int .i64 (S.append n b).2) ∧ After B w F d (S.append n b).1 w' := by
  have h0 := h
  obtain ⟨⟨G, hr⟩, h2, h3⟩ := h
  refine (append_rep2 hr n hb hv hvF).mono ?_
  rintro e w' ⟨rfl, G', hr', hc⟩
  exact ⟨rfl, after_of h0 hB hr' hc (h3.append n b)⟩
theorem sync_lies (h : Stands B w F d S) (hB : B ≤ w.heap.size) (n : Nm) (hb : S.bulk + 1 < 1099511627776) :
    Calls Tryz.prog 56 #[.pointer (some ⟨d, 0, none⟩), .string (strB n)] w fun e w' => e = .returned (.int .i64 (S.sync n).2) ∧ After B w F d (S.sync n).1 w' := by
  have h0 := h
  obtain ⟨⟨G, hr⟩, h2, h3⟩ := h
  refine (sync_rep hr hb n).mono ?_
  rintro e w' ⟨rfl, G', hr', hc⟩
  exact ⟨rfl, after_of h0 hB hr' hc (h3.sync n)⟩
theorem syncDir_lies (h : Stands B w F d S) (hB : B ≤ w.heap.size) (hb : S.bulk + 1 < 1099511627776) :
    Calls Tryz.prog 83 #[.pointer (some ⟨d, 0, none⟩)] w fun e w' => e = .returned (.int .i64 S.syncDir.2) ∧ After B w F d S.syncDir.1 w' := by
  have h0 := h
  obtain ⟨⟨G, hr⟩, h2, h3⟩ := h
  refine (syncDir_rep hr hb).mono ?_
  rintro e w' ⟨rfl, G', hr', hc⟩
  exact ⟨rfl, after_of h0 hB hr' hc (h3.syncDir hr.ok)⟩
theorem rename_lies (h : Stands B w F d S) (hB : B ≤ w.heap.size) (a b : Nm) (hb : S.bulk + 1 < 1099511627776) :
    Calls Tryz.prog 57 #[.pointer (some ⟨d, 0, none⟩), .string (strB a), .string (strB b)] w fun e w' => e = .returned (.int .i64 (S.rename a b).2) ∧ After B w F d (S.rename a b).1 w' := by
  have h0 := h
  obtain ⟨⟨G, hr⟩, h2, h3⟩ := h
  refine (rename_rep hr (fun k hk => (h2 k hk).2) hb a b).mono ?_
  rintro e w' ⟨rfl, G', hr', hc⟩
  exact ⟨rfl, after_of h0 hB hr' hc (h3.rename a b)⟩
theorem remove_lies (h : Stands B w F d S) (hB : B ≤ w.heap.size) (n : Nm) (hb : S.bulk + 1 < 1099511627776) :
    Calls Tryz.prog 72 #[.pointer (some ⟨d, 0, none⟩), .string (strB n)] w fun e w' => e = .returned (.int .i64 (S.remove n).2) ∧ After B w F d (S.remove n).1 w' := by
  have h0 := h
  obtain ⟨⟨G, hr⟩, h2, h3⟩ := h
  refine (remove_rep hr (fun k hk => (h2 k hk).2) hb n).mono ?_
  rintro e w' ⟨rfl, G', hr', hc⟩
  exact ⟨rfl, after_of h0 hB hr' hc (h3.remove n)⟩
theorem cutAt_lies (h : Stands B w F d S) (hB : B ≤ w.heap.size) (op : Int) :
    Calls Tryz.prog 22 #[.pointer (some ⟨d, 0, none⟩), .int .i64 op] w fun e w' => e = .returned (.tuple #[]) ∧ After B w F d (S.cutAt op) w' := by
  have h0 := h
  obtain ⟨⟨G, hr⟩, h2, h3⟩ := h
  refine (cutAt_rep hr op).mono ?_
  rintro e w' ⟨rfl, ⟨G', hr'⟩, hc⟩
  exact ⟨rfl, after_of h0 hB (hr'.mono fun k hk => Or.inl hk) hc (h3.same rfl rfl)⟩
theorem ops_lies (h : Stands B w F d S) : Calls Tryz.prog 9 #[.pointer (some ⟨d, 0, none⟩)] w fun e w' => e = .returned (.int .i64 (S.n : Int)) ∧ w' = w := by
  obtain ⟨⟨G, hr⟩, _⟩ := h
  exact ops_rep hr
theorem size_lies (h : Stands B w F d S) (n : Nm) : Calls Tryz.prog 15 #[.pointer (some ⟨d, 0, none⟩), .string (strB n)] w fun e w' => e = .returned (.int .i64 (S.size n)) ∧ w' = w := by
  obtain ⟨⟨G, hr⟩, _⟩ := h
  exact size_rep hr n
theorem crash_lies (h : Stands B w F d S) (hB : B ≤ w.heap.size) (keep t : Int) (hb : S.bulk < 1099511627776) :
    Calls Tryz.prog 20 #[.pointer (some ⟨d, 0, none⟩), .int .i64 keep, .int .i64 t] w fun e w' => ∃ d2 F2, e = .returned (.pointer (some ⟨d2, 0, none⟩)) ∧ Stands B w' F2 d2 (S.crash keep t) ∧ (∀ k, F2 k → w.heap.size ≤ k) ∧ Chg (fun _ => False) w w' := by
  obtain ⟨⟨G, hr⟩, h2, h3⟩ := h
  refine (crash_rep hr hb keep t).mono ?_
  rintro e w' ⟨d2, G2, rfl, hr2, hc⟩
  exact ⟨d2, _, rfl, ⟨⟨G2, hr2⟩, fun k hk => ⟨Nat.le_trans hB hk.1, hk.2⟩, h3.crash keep t⟩, fun k hk => hk.1, hc⟩
theorem new_lies2 (w : World) (hB : B ≤ w.heap.size) (room : Nat) (hr : room < 9223372036854775808) : Calls Tryz.prog 25 #[.int .i64 (room : Int)] w fun e w' => e = .returned (.tuple #[.pointer (some ⟨w.heap.size, 0, none⟩), .int .i64 0]) ∧ Stands B w' (· = w.heap.size) w.heap.size (Dk.new room) ∧ Chg (fun _ => False) w w' := by
  refine (new_rep w room hr).mono ?_
  rintro e w' ⟨G, rfl, hr, hc⟩
  exact ⟨rfl, ⟨⟨G, hr⟩, fun k hk => by rw [hk]; exact ⟨hB, hr.lt⟩, named_new room⟩, hc⟩
theorem read_lies (h : Stands B w F d S) (hB : B ≤ w.heap.size) (n : Nm) (hb : S.bulk < 1099511627776) :
    Calls Tryz.prog 59 #[.pointer (some ⟨d, 0, none⟩), .string (strB n)] w fun e w' => ∃ v, e = .returned (.tuple #[v, .int .i64 (S.read n).2]) ∧ w'.ownsRow w.heap.size 5 1 v (S.read n).1.length (bc (S.read n).1) ∧
      ∃ F', Stands B w' F' d S.begun ∧ (∀ k, F' k → F k ∨ w.heap.size ≤ k) ∧ Chg F w w' ∧ ∀ k, v.ownBlock = some k → ¬ F' k := by
  obtain ⟨⟨G, hr⟩, h2, h3⟩ := h
  refine (read_rep hr (fun k hk => (h2 k hk).2) hb n).mono ?_
  rintro e w' ⟨v, G', rfl, F', hr', hc, hF', hown, hnot⟩
  refine ⟨v, rfl, hown, F', ⟨⟨G', hr'⟩, fun k hk => ?_, h3.begun⟩, fun k hk => ?_, hc, hnot⟩
  · rcases hF' k hk with h | h
    · exact ⟨(h2 k h).1, Nat.lt_of_lt_of_le (h2 k h).2 hc.size⟩
    · exact ⟨Nat.le_trans hB h.1, h.2⟩
  · rcases hF' k hk with h | h
    · exact Or.inl h
    · exact Or.inr h.1
end Go.Proofs.YtdbmngbinhemeaaGreatDoor
