/-
  What Rename answers, and does. Condition: a disk within bounds.
-/
import Derived.Test.YtbedacdakmcfpaaRemove
namespace Go.Proofs.Ytbedacdakmcfpaa
open Go.RowKit

section
variable {w w' : World} {F : Nat → Prop} {d : Nat} {S : Dk} {G : Gh}

/-- The two names in their boxes. -/
def boxed (w : World) (a b : Nm) : World := (w.alloc (.cells #[.string (strB a)] 9)).alloc (.cells #[.string (strB b)] 9)
theorem boxed_chg (w : World) (a b : Nm) : Chg (fun _ => False) w (boxed w a b) := ((Chg.refl _ w).alloc _).alloc _
theorem boxed_size (w : World) (a b : Nm) : (boxed w a b).heap.size = w.heap.size + 2 := by simp [boxed]
theorem boxed_a (w : World) (a b : Nm) : (boxed w a b).heap[w.heap.size]? = some (.cells #[.string (strB a)] 9) := heap_past _ (heap_last w _)
theorem boxed_b (w : World) (a b : Nm) : (boxed w a b).heap[w.heap.size + 1]? = some (.cells #[.string (strB b)] 9) := by
  have := heap_last (w.alloc (.cells #[.string (strB a)] 9)) (.cells #[.string (strB b)] 9)
  rw [show (w.alloc (.cells #[.string (strB a)] 9)).heap.size = w.heap.size + 1 by simp] at this
  exact this
theorem boxed_fx {w w1 : World} {a b : Nm} (_hs : (boxed w a b).heap.size ≤ w1.heap.size) : ∀ k, Fx F (boxed w a b) w1 k → Fx F w w1 k := fun k hk => by
  rcases hk with hk | ⟨x, y⟩
  · exact Or.inl hk
  · exact Or.inr ⟨by rw [boxed_size] at x; omega, y⟩

set_option maxRecDepth 20000 in
theorem rename_off (h : Rep w F d S G) (hon : S.on = false) (a b : Nm) : Calls Try.prog 23 #[.pointer (some ⟨d, 0, none⟩), .string (strB a), .string (strB b)] w fun e w' => e = .returned (.int .i64 35) ∧
    ∃ G', Rep w' (Fx F w w') d S G' ∧ Chg F w w' := by
  have hbeg := beginOff_rep (h.keep (boxed_chg w a b) (fun _ _ h => h) (fun _ h => h)) hon
  have hB := boxed_chg w a b
  have hsz := boxed_size w a b
  unfold boxed at hbeg hB hsz
  go_enter Try.func23, Try.ntmps23
  go_wp2_with (go_at_call 45; refine hbeg.mono ?_; rintro e w1 ⟨rfl, hr1, hc1⟩)
  go_ret
  exact ⟨rfl, G, hr1.mono fun k hk => Or.inl hk, (hB.then hc1).mono fun _ _ f => f.elim⟩

set_option maxRecDepth 20000 in
theorem rename_name (h : Rep w F d S G) (hlow : ∀ k, F k → k < w.heap.size) (hon : S.on = true) (hb : S.n < 4611686018427387904) (a b : Nm) (hn : isNm a = false ∨ isNm b = false) : Calls Try.prog 23 #[.pointer (some ⟨d, 0, none⟩), .string (strB a), .string (strB b)] w fun e w' => e = .returned (.int .i64 30) ∧
    ∃ G', Rep w' (Fx F w w') d S.next G' ∧ Chg F w w' := by
  have hbeg := beginOn_rep0 (h.keep (boxed_chg w a b) (fun _ _ h => h) (fun _ h => h)) hon hb
  have hB := boxed_chg w a b
  have ha := boxed_a w a b
  have hb' := boxed_b w a b
  have HFX : Hid (∀ w1 : World, (boxed w a b).heap.size ≤ w1.heap.size → ∀ k, Fx F (boxed w a b) w1 k → Fx F w w1 k) := hide fun w1 => boxed_fx
  unfold boxed at hbeg hB ha hb' HFX
  rcases Bool.eq_false_or_eq_true (isNm a) with h1 | h1 <;> rcases Bool.eq_false_or_eq_true (isNm b) with h2 | h2
  · rw [h1, h2] at hn
    rcases hn with hn | hn <;> cases hn
  all_goals
    go_enter Try.func23, Try.ntmps23
    go_wp2_with (first
      | (go_at_call 45; refine hbeg.mono ?_; rintro e w1 ⟨rfl, now, sure, hne, hr1, hc1⟩; have xa := cell_of (hc1.keep ha (fun hF => Nat.lt_irrefl _ (hlow _ hF))) 0; have xb := cell_of (hc1.keep hb' (fun hF => by have := hlow _ hF; omega)) 0)
      | (go_at_call 46; refine (isName_any _ _).mono ?_; rintro e w2 ⟨rfl, hw2⟩; subst hw2))
    go_ret
    exact ⟨rfl, _, hr1.mono (HFX.out w2 hc1.size), (hB.mono fun _ _ f => f.elim).then hc1⟩

set_option maxRecDepth 20000 in
theorem rename_none (h : Rep w F d S G) (hlow : ∀ k, F k → k < w.heap.size) (hon : S.on = true) (hb : S.n < 4611686018427387904) (a b : Nm) (h1 : isNm a = true) (h2 : isNm b = true) (hl : look S.dir a = none) : Calls Try.prog 23 #[.pointer (some ⟨d, 0, none⟩), .string (strB a), .string (strB b)] w fun e w' => e = .returned (.int .i64 32) ∧
    ∃ G', Rep w' (Fx F w w') d S.next G' ∧ Chg F w w' := by
  have hbeg := beginOn_rep0 (h.keep (boxed_chg w a b) (fun _ _ h => h) (fun _ h => h)) hon hb
  have hB := boxed_chg w a b
  have ha := boxed_a w a b
  have hb' := boxed_b w a b
  have HFX : Hid (∀ w1 : World, (boxed w a b).heap.size ≤ w1.heap.size → ∀ k, Fx F (boxed w a b) w1 k → Fx F w w1 k) := hide fun w1 => boxed_fx
  unfold boxed at hbeg hB ha hb' HFX
  go_enter Try.func23, Try.ntmps23
  go_wp2_with (first
    | (go_at_call 45; refine hbeg.mono ?_; rintro e w1 ⟨rfl, now, sure, hne, hr1, hc1⟩; have xa := cell_of (hc1.keep ha (fun hF => Nat.lt_irrefl _ (hlow _ hF))) 0; have xb := cell_of (hc1.keep hb' (fun hF => by have := hlow _ hF; omega)) 0)
    | (go_at_call 46; refine (isName_any _ _).mono ?_; rintro e w2 ⟨rfl, hw2⟩; subst hw2))
  obtain ⟨bn, rfl⟩ := Option.ne_none_iff_exists'.1 hne
  have hr2 := hr1.keep ((Chg.refl (fun _ => False) w2).drew) (fun _ _ h => h) (fun _ h => h)
  have hd1 := hr2.disk
  rw [next_cells] at hd1
  have x2 := cell_of hd1 2
  have hlk := now_map hr2 rfl a
  rw [show look S.next.dir a = none from hl] at hlk
  have HR2 := hide (hr2.mono (HFX.out w2 hc1.size))
  have HC2 := hide ((hB.mono fun _ _ f => f.elim).then hc1).drew
  clear hr1 hc1 hd1 hr2
  refine wp_region_held_drew (S := fun W => W.cell? ⟨d, 2, none⟩ = some (.map (some bn)) ∧ W.cell? ⟨w.heap.size, 0, none⟩ = some (.string (strB a)) ∧ (Instr.lookup 62 (.map (some bn)) (.string (strB a)) false).run Try.prog W = .ok (.pointer none) W) (by kernel_rfl) (⟨x2, xa, hlk⟩) (fun hHeld => ?_)
  refine takeH (i := 0) (v := ?_) rfl (by kernel_rfl) (by kernel_rfl) (by kernel_rfl) (fun _ _ _ h => h) rfl ?_ hHeld ?_
  rotate_left
  · intro w hS; (try dsimp only at hS); obtain ⟨hS0, hS1, hS2⟩ := hS; go_simp; first | done | (with_reducible rfl)
  try simp only [Act.put, List.setIfInBounds_toArray, List.set_cons_zero, List.set_cons_succ]
  refine takeH (i := 1) (v := ?_) rfl (by kernel_rfl) (by kernel_rfl) (by kernel_rfl) (fun _ _ _ h => h) rfl ?_ hHeld ?_
  rotate_left
  · intro w hS; (try dsimp only at hS); obtain ⟨hS0, hS1, hS2⟩ := hS; go_simp; first | done | (with_reducible rfl)
  try simp only [Act.put, List.setIfInBounds_toArray, List.set_cons_zero, List.set_cons_succ]
  refine takeH (i := 2) (v := ?_) rfl (by kernel_rfl) (by kernel_rfl) (by kernel_rfl) (fun _ _ _ h => h) rfl ?_ hHeld ?_
  rotate_left
  · intro w hS; (try dsimp only at hS); obtain ⟨hS0, hS1, hS2⟩ := hS; go_simp; first | done | (with_reducible rfl)
  try simp only [Act.put, List.setIfInBounds_toArray, List.set_cons_zero, List.set_cons_succ]
  refine takeH (i := 3) (v := ?_) rfl (by kernel_rfl) (by kernel_rfl) (by kernel_rfl) (fun _ _ _ h => h) rfl ?_ hHeld ?_
  rotate_left
  · intro w hS; (try dsimp only at hS); obtain ⟨hS0, hS1, hS2⟩ := hS; go_simp; first | done | (with_reducible rfl)
  try simp only [Act.put, List.setIfInBounds_toArray, List.set_cons_zero, List.set_cons_succ]
  refine takeH (i := 4) (v := ?_) rfl (by kernel_rfl) (by kernel_rfl) (by kernel_rfl) (fun _ _ _ h => h) rfl ?_ hHeld ?_
  rotate_left
  · intro w hS; (try dsimp only at hS); obtain ⟨hS0, hS1, hS2⟩ := hS; go_simp; first | done | (with_reducible rfl)
  try simp only [Act.put, List.setIfInBounds_toArray, List.set_cons_zero, List.set_cons_succ]
  refine takeH (i := 5) (v := ?_) rfl (by kernel_rfl) (by kernel_rfl) (by kernel_rfl) (fun _ _ _ h => h) rfl ?_ hHeld ?_
  rotate_left
  · intro w hS; (try dsimp only at hS); obtain ⟨hS0, hS1, hS2⟩ := hS; go_simp; first | done | (with_reducible rfl)
  try simp only [Act.put, List.setIfInBounds_toArray, List.set_cons_zero, List.set_cons_succ]
  refine takeH (i := 6) (v := ?_) rfl (by kernel_rfl) (by kernel_rfl) (by kernel_rfl) (fun _ _ _ h => h) rfl ?_ hHeld ?_
  rotate_left
  · intro w hS; (try dsimp only at hS); obtain ⟨hS0, hS1, hS2⟩ := hS; go_simp; first | done | (with_reducible rfl)
  try simp only [Act.put, List.setIfInBounds_toArray, List.set_cons_zero, List.set_cons_succ]
  refine takeH (i := 7) (v := ?_) rfl (by kernel_rfl) (by kernel_rfl) (by kernel_rfl) (fun _ _ _ h => h) rfl ?_ hHeld ?_
  rotate_left
  · intro w hS; (try dsimp only at hS); obtain ⟨hS0, hS1, hS2⟩ := hS; go_simp; first | done | (with_reducible rfl)
  try simp only [Act.put, List.setIfInBounds_toArray, List.set_cons_zero, List.set_cons_succ]
  refine wpAnyH_done (by kernel_rfl) ?_ _
  clear hHeld
  go_wp2
  go_ret
  exact ⟨rfl, ⟨_, HR2.out⟩, HC2.out⟩

set_option maxRecDepth 20000 in
theorem rename_io (h : Rep w F d S G) (hlow : ∀ k, F k → k < w.heap.size) (hon : S.on = true) (hb : S.n < 4611686018427387904) (a b : Nm) (h1 : isNm a = true) (h2 : isNm b = true) {f : Nat} (hl : look S.dir a = some f) (r : Int)
    (hr : S.fails S.n = true ∧ r = 34 ∨ S.fails S.n = false ∧ a = b ∧ r = 0) : Calls Try.prog 23 #[.pointer (some ⟨d, 0, none⟩), .string (strB a), .string (strB b)] w fun e w' => e = .returned (.int .i64 r) ∧
    ∃ G', Rep w' (Fx F w w') d S.next G' ∧ Chg F w w' := by
  have hbeg := beginOn_rep0 (h.keep (boxed_chg w a b) (fun _ _ h => h) (fun _ h => h)) hon hb
  have hB := boxed_chg w a b
  have ha := boxed_a w a b
  have hb' := boxed_b w a b
  have HFX : Hid (∀ w1 : World, (boxed w a b).heap.size ≤ w1.heap.size → ∀ k, Fx F (boxed w a b) w1 k → Fx F w w1 k) := hide fun w1 => boxed_fx
  unfold boxed at hbeg hB ha hb' HFX
  rcases hr with ⟨hf, rfl⟩ | ⟨hf, rfl, rfl⟩
  all_goals
    rw [hf] at hbeg
    go_enter Try.func23, Try.ntmps23
    go_wp2_with (first
      | (go_at_call 45; refine hbeg.mono ?_; rintro e w1 ⟨rfl, now, sure, hne, hr1, hc1⟩; have xa := cell_of (hc1.keep ha (fun hF => Nat.lt_irrefl _ (hlow _ hF))) 0; have xb := cell_of (hc1.keep hb' (fun hF => by have := hlow _ hF; omega)) 0)
      | (go_at_call 46; refine (isName_any _ _).mono ?_; rintro e w2 ⟨rfl, hw2⟩; subst hw2))
    obtain ⟨bn, rfl⟩ := Option.ne_none_iff_exists'.1 hne
    have hr2 := hr1.keep ((Chg.refl (fun _ => False) w2).drew) (fun _ _ h => h) (fun _ h => h)
    have hd1 := hr2.disk
    rw [next_cells] at hd1
    have x2 := cell_of hd1 2
    have hlk := now_map hr2 rfl a
    rw [show look S.next.dir a = some f from hl] at hlk
    have HR2 := hide (hr2.mono (HFX.out w2 hc1.size))
    have HC2 := hide ((hB.mono fun _ _ f => f.elim).then hc1).drew
    clear hr1 hc1 hd1 hr2
    refine wp_region_held_drew (S := fun W => W.cell? ⟨d, 2, none⟩ = some (.map (some bn)) ∧ W.cell? ⟨w.heap.size, 0, none⟩ = some (.string (strB a)) ∧ (Instr.lookup 62 (.map (some bn)) (.string (strB a)) false).run Try.prog W = .ok (.pointer (some ⟨G.fb f, 0, none⟩)) W) (by kernel_rfl) (⟨x2, xa, hlk⟩) (fun hHeld => ?_)
    refine takeH (i := 0) (v := ?_) rfl (by kernel_rfl) (by kernel_rfl) (by kernel_rfl) (fun _ _ _ h => h) rfl ?_ hHeld ?_
    rotate_left
    · intro w hS; (try dsimp only at hS); obtain ⟨hS0, hS1, hS2⟩ := hS; go_simp; first | done | (with_reducible rfl)
    try simp only [Act.put, List.setIfInBounds_toArray, List.set_cons_zero, List.set_cons_succ]
    refine takeH (i := 1) (v := ?_) rfl (by kernel_rfl) (by kernel_rfl) (by kernel_rfl) (fun _ _ _ h => h) rfl ?_ hHeld ?_
    rotate_left
    · intro w hS; (try dsimp only at hS); obtain ⟨hS0, hS1, hS2⟩ := hS; go_simp; first | done | (with_reducible rfl)
    try simp only [Act.put, List.setIfInBounds_toArray, List.set_cons_zero, List.set_cons_succ]
    refine takeH (i := 2) (v := ?_) rfl (by kernel_rfl) (by kernel_rfl) (by kernel_rfl) (fun _ _ _ h => h) rfl ?_ hHeld ?_
    rotate_left
    · intro w hS; (try dsimp only at hS); obtain ⟨hS0, hS1, hS2⟩ := hS; go_simp; first | done | (with_reducible rfl)
    try simp only [Act.put, List.setIfInBounds_toArray, List.set_cons_zero, List.set_cons_succ]
    refine takeH (i := 3) (v := ?_) rfl (by kernel_rfl) (by kernel_rfl) (by kernel_rfl) (fun _ _ _ h => h) rfl ?_ hHeld ?_
    rotate_left
    · intro w hS; (try dsimp only at hS); obtain ⟨hS0, hS1, hS2⟩ := hS; go_simp; first | done | (with_reducible rfl)
    try simp only [Act.put, List.setIfInBounds_toArray, List.set_cons_zero, List.set_cons_succ]
    refine takeH (i := 4) (v := ?_) rfl (by kernel_rfl) (by kernel_rfl) (by kernel_rfl) (fun _ _ _ h => h) rfl ?_ hHeld ?_
    rotate_left
    · intro w hS; (try dsimp only at hS); obtain ⟨hS0, hS1, hS2⟩ := hS; go_simp; first | done | (with_reducible rfl)
    try simp only [Act.put, List.setIfInBounds_toArray, List.set_cons_zero, List.set_cons_succ]
    refine takeH (i := 5) (v := ?_) rfl (by kernel_rfl) (by kernel_rfl) (by kernel_rfl) (fun _ _ _ h => h) rfl ?_ hHeld ?_
    rotate_left
    · intro w hS; (try dsimp only at hS); obtain ⟨hS0, hS1, hS2⟩ := hS; go_simp; first | done | (with_reducible rfl)
    try simp only [Act.put, List.setIfInBounds_toArray, List.set_cons_zero, List.set_cons_succ]
    refine takeH (i := 6) (v := ?_) rfl (by kernel_rfl) (by kernel_rfl) (by kernel_rfl) (fun _ _ _ h => h) rfl ?_ hHeld ?_
    rotate_left
    · intro w hS; (try dsimp only at hS); obtain ⟨hS0, hS1, hS2⟩ := hS; go_simp; first | done | (with_reducible rfl)
    try simp only [Act.put, List.setIfInBounds_toArray, List.set_cons_zero, List.set_cons_succ]
    refine takeH (i := 7) (v := ?_) rfl (by kernel_rfl) (by kernel_rfl) (by kernel_rfl) (fun _ _ _ h => h) rfl ?_ hHeld ?_
    rotate_left
    · intro w hS; (try dsimp only at hS); obtain ⟨hS0, hS1, hS2⟩ := hS; go_simp; first | done | (with_reducible rfl)
    try simp only [Act.put, List.setIfInBounds_toArray, List.set_cons_zero, List.set_cons_succ]
    refine wpAnyH_done (by kernel_rfl) ?_ _
    clear hHeld
    go_wp2
    go_ret
    exact ⟨rfl, ⟨_, HR2.out⟩, HC2.out⟩
end
end Go.Proofs.Ytbedacdakmcfpaa
