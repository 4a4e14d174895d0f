/-
  The reference's reader: numbers, ids, its end. Conditions: lengths within reach.
  Entries' values made; what the reference says of entries. Conditions: lengths within reach.
  Entries' values made, by the program and by the reference; values read by the reference. Conditions: lengths within reach.
  Values read by the reference; entries held against each other. Conditions: lengths within reach.
  Values read by the reference. Conditions: lengths within reach.
-/
import Derived.Test.YtdbmngbinhemeabGreatDoorROEntry
import Derived.Test.YtdbmngbinhemeabGreatDoorRQ1
namespace Go.Proofs.YtdbmngbinhemeabGreatDoor
open Go.RowKit
variable {N : Nat}

/-- The reference's reader g goes through the bytes l, and stands at s. -/
def Rr (N : Nat) (w : World) (g : Nat) (l : Bs) (s : Pos) : Prop :=
  ∃ v p, w.heap[g]? = some (.cells #[v, .int .i64 p, .bool s.isNone] 90) ∧ (∀ w', Und N g w w' → Sl w' v l) ∧ (∀ a, s = some a → p = (a : Int) ∧ a ≤ l.length)
theorem Rr.lt {w : World} {g : Nat} {l : Bs} {s : Pos} (h : Rr N w g l s) : g < w.heap.size := by
  obtain ⟨v, p, h1, _⟩ := h
  exact lt_of_heap h1
theorem Rr.keep {w w' : World} {g : Nat} {l : Bs} {s : Pos} (h : Rr N w g l s) (hb : Below w.heap.size w w') : Rr N w' g l s := by
  have hl := h.lt
  obtain ⟨v, p, h1, h2, h3⟩ := h
  exact ⟨v, p, (hb.block g hl).trans h1, fun w2 hw => h2 w2 (und_trans (und_gb hl (gb_below hb)) hw), h3⟩
theorem Rr.set {w : World} {g : Nat} {l : Bs} {s : Pos} {n i : Nat} {u : Value} (h : Rr N w g l s) (hn : g < n ∨ n < N ∧ n ≠ g) : Rr N (w.setCell ⟨n, i, none⟩ u) g l s := by
  have hl := h.lt
  obtain ⟨v, p, h1, h2, h3⟩ := h
  exact ⟨v, p, ((gb_set w n i u).block g hl (fun e => by injection e with e; omega)).trans h1, fun w' hu => h2 w' (und_trans (und_set w u hl (by omega)) hu), h3⟩
set_option maxRecDepth 20000 in
theorem rint_any (w : World) (g : Nat) (l : Bs) (s : Pos) (h : Rr N w g l s) (hl : l.length ≤ 140737488351232) :
    Calls Tryz.prog 43 #[.pointer (some ⟨g, 0, none⟩)] w fun e w' => e = .returned (.int .i64 (rI l s).1) ∧ Rr N w' g l (rI l s).2 ∧ w.grownBy w' (some g) := by
  have hR := h
  obtain ⟨v, p, h1, h2, h3⟩ := h
  have c0 := rc (i := 0) h1 rfl
  have c1 := rc (i := 1) h1 rfl
  have c2 := rc (i := 2) h1 rfl
  cases s with
  | none =>
    simp only [Option.isNone_none] at c2
    rw [show rI l none = (0, none) from rfl]
    go_enter Tryz.func43, Tryz.ntmps43
    go_wp2
    go_ret
    exact ⟨rfl, hR, gb_refl _ _⟩
  | some a =>
    simp only [Option.isNone_some] at c2 h1
    obtain ⟨rfl, ha⟩ := h3 a rfl
    have hs := h2 w.drew (und_gb (lt_of_heap h1) (gb_drew _ _))
    have hT := refTake_any w.drew v l a hs hl
    have hd : w.drew.heap[g]? = some (.cells #[v, .int .i64 (a : Int), .bool false] 90) := h1
    have HD := hide hd
    have H2 := hide h2
    have hlt := lt_of_heap h1
    clear hd h2 hR h3 h1
    cases ht : takeI l (a : Int) with
    | none =>
      have hr : rI l (some a) = (0, none) := by simp only [rI]; rw [ht]
      rw [hr]
      rw [ht] at hT
      simp only [tkI] at hT
      clear ht hr
      go_enter Tryz.func43, Tryz.ntmps43
      go_wp2_with fail
      refine wp_region_held_drew (S := fun W => W.cell? ⟨g, 0, none⟩ = some v ∧ W.cell? ⟨g, 1, none⟩ = some (.int .i64 (a : Int))) (by kernel_rfl) (⟨c0, c1⟩) (fun hHeld => ?_)
      refine takeH (i := 0) (v := ?_) rfl (by kernel_rfl) (by kernel_rfl) (by kernel_rfl) (fun _ _ _ h => h) rfl ?_ hHeld ?_
      rotate_left
      · intro w hS; (try dsimp only at hS); obtain ⟨hS0, hS1⟩ := hS; go_simp; first | done | (with_reducible rfl)
      try simp only [Act.put, List.setIfInBounds_toArray, List.set_cons_zero, List.set_cons_succ]
      refine takeH (i := 1) (v := ?_) rfl (by kernel_rfl) (by kernel_rfl) (by kernel_rfl) (fun _ _ _ h => h) rfl ?_ hHeld ?_
      rotate_left
      · intro w hS; (try dsimp only at hS); obtain ⟨hS0, hS1⟩ := hS; go_simp; first | done | (with_reducible rfl)
      try simp only [Act.put, List.setIfInBounds_toArray, List.set_cons_zero, List.set_cons_succ]
      refine takeH (i := 2) (v := ?_) rfl (by kernel_rfl) (by kernel_rfl) (by kernel_rfl) (fun _ _ _ h => h) rfl ?_ hHeld ?_
      rotate_left
      · intro w hS; (try dsimp only at hS); obtain ⟨hS0, hS1⟩ := hS; go_simp; first | done | (with_reducible rfl)
      try simp only [Act.put, List.setIfInBounds_toArray, List.set_cons_zero, List.set_cons_succ]
      refine takeH (i := 3) (v := ?_) rfl (by kernel_rfl) (by kernel_rfl) (by kernel_rfl) (fun _ _ _ h => h) rfl ?_ hHeld ?_
      rotate_left
      · intro w hS; (try dsimp only at hS); obtain ⟨hS0, hS1⟩ := hS; go_simp; first | done | (with_reducible rfl)
      try simp only [Act.put, List.setIfInBounds_toArray, List.set_cons_zero, List.set_cons_succ]
      refine takeH (i := 4) (v := ?_) rfl (by kernel_rfl) (by kernel_rfl) (by kernel_rfl) (fun _ _ _ h => h) rfl ?_ hHeld ?_
      rotate_left
      · intro w hS; (try dsimp only at hS); obtain ⟨hS0, hS1⟩ := hS; go_simp; first | done | (with_reducible rfl)
      try simp only [Act.put, List.setIfInBounds_toArray, List.set_cons_zero, List.set_cons_succ]
      refine takeH (i := 5) (v := ?_) rfl (by kernel_rfl) (by kernel_rfl) (by kernel_rfl) (fun _ _ _ h => h) rfl ?_ hHeld ?_
      rotate_left
      · intro w hS; (try dsimp only at hS); obtain ⟨hS0, hS1⟩ := hS; go_simp; first | done | (with_reducible rfl)
      try simp only [Act.put, List.setIfInBounds_toArray, List.set_cons_zero, List.set_cons_succ]
      refine takeH (i := 6) (v := ?_) rfl (by kernel_rfl) (by kernel_rfl) (by kernel_rfl) (fun _ _ _ h => h) rfl ?_ hHeld ?_
      rotate_left
      · intro w hS; (try dsimp only at hS); obtain ⟨hS0, hS1⟩ := hS; go_simp; first | done | (with_reducible rfl)
      try simp only [Act.put, List.setIfInBounds_toArray, List.set_cons_zero, List.set_cons_succ]
      refine takeH (i := 7) (v := ?_) rfl (by kernel_rfl) (by kernel_rfl) (by kernel_rfl) (fun _ _ _ h => h) rfl ?_ hHeld ?_
      rotate_left
      · intro w hS; (try dsimp only at hS); obtain ⟨hS0, hS1⟩ := hS; go_simp; first | done | (with_reducible rfl)
      try simp only [Act.put, List.setIfInBounds_toArray, List.set_cons_zero, List.set_cons_succ]
      refine onlyH (i := 8) rfl (by kernel_rfl) rfl (fun K hK => ?_)
      go_simp
      refine hT.mono ?_
      rintro e w1 ⟨rfl, hb1⟩
      have h5 := (hb1.block g hlt).trans HD.out
      have d0 := rc (i := 0) h5 rfl
      have d1 := rc (i := 1) h5 rfl
      have d2 := rc (i := 2) h5 rfl
      have f2 := frozen0 (j := 2) h5
      have h6 := heap_set3b (u2 := .bool true) h5
      have f1 := frozen0 (j := 1) h6
      have k1 := rc (i := 1) h6 rfl
      refine hK.out _ _ (⟨d0, d1⟩) (fun hHeld => ?_)
      clear hK K
      try simp only [Act.put, List.setIfInBounds_toArray, List.set_cons_zero, List.set_cons_succ]
      refine takeH (i := 9) (v := ?_) rfl (by kernel_rfl) (by kernel_rfl) (by kernel_rfl) (fun _ _ _ h => h) rfl ?_ hHeld ?_
      rotate_left
      · intro w hS; (try dsimp only at hS); obtain ⟨hS0, hS1⟩ := hS; go_simp; first | done | (with_reducible rfl)
      try simp only [Act.put, List.setIfInBounds_toArray, List.set_cons_zero, List.set_cons_succ]
      refine takeH (i := 10) (v := ?_) rfl (by kernel_rfl) (by kernel_rfl) (by kernel_rfl) (fun _ _ _ h => h) rfl ?_ hHeld ?_
      rotate_left
      · intro w hS; (try dsimp only at hS); obtain ⟨hS0, hS1⟩ := hS; go_simp; first | done | (with_reducible rfl)
      try simp only [Act.put, List.setIfInBounds_toArray, List.set_cons_zero, List.set_cons_succ]
      refine takeH (i := 11) (v := ?_) rfl (by kernel_rfl) (by kernel_rfl) (by kernel_rfl) (fun _ _ _ h => h) rfl ?_ hHeld ?_
      rotate_left
      · intro w hS; (try dsimp only at hS); obtain ⟨hS0, hS1⟩ := hS; go_simp; first | done | (with_reducible rfl)
      try simp only [Act.put, List.setIfInBounds_toArray, List.set_cons_zero, List.set_cons_succ]
      refine takeH (i := 12) (v := ?_) rfl (by kernel_rfl) (by kernel_rfl) (by kernel_rfl) (fun _ _ _ h => h) rfl ?_ hHeld ?_
      rotate_left
      · intro w hS; (try dsimp only at hS); obtain ⟨hS0, hS1⟩ := hS; go_simp; first | done | (with_reducible rfl)
      try simp only [Act.put, List.setIfInBounds_toArray, List.set_cons_zero, List.set_cons_succ]
      refine takeH (i := 13) (v := ?_) rfl (by kernel_rfl) (by kernel_rfl) (by kernel_rfl) (fun _ _ _ h => h) rfl ?_ hHeld ?_
      rotate_left
      · intro w hS; (try dsimp only at hS); obtain ⟨hS0, hS1⟩ := hS; go_simp; first | done | (with_reducible rfl)
      try simp only [Act.put, List.setIfInBounds_toArray, List.set_cons_zero, List.set_cons_succ]
      refine takeH (i := 14) (v := ?_) rfl (by kernel_rfl) (by kernel_rfl) (by kernel_rfl) (fun _ _ _ h => h) rfl ?_ hHeld ?_
      rotate_left
      · intro w hS; (try dsimp only at hS); obtain ⟨hS0, hS1⟩ := hS; go_simp; first | done | (with_reducible rfl)
      try simp only [Act.put, List.setIfInBounds_toArray, List.set_cons_zero, List.set_cons_succ]
      refine takeH (i := 15) (v := ?_) rfl (by kernel_rfl) (by kernel_rfl) (by kernel_rfl) (fun _ _ _ h => h) rfl ?_ hHeld ?_
      rotate_left
      · intro w hS; (try dsimp only at hS); obtain ⟨hS0, hS1⟩ := hS; go_simp; first | done | (with_reducible rfl)
      try simp only [Act.put, List.setIfInBounds_toArray, List.set_cons_zero, List.set_cons_succ]
      refine wpAnyH_done (by kernel_rfl) ?_ _
      clear hHeld
      go_wp2
      go_ret
      have hg : w.grownBy w1 (some g) := gb_trans (gb_drew _ _) (gb_below hb1)
      have hg2 := gb_trans (gb_trans hg (gb_set w1 g 2 (.bool true))) (gb_set _ g 1 (.int .i64 0))
      exact ⟨rfl, ⟨v, _, heap_set3 h6, fun w' hu => H2.out w' (und_trans (und_gb hlt hg2) hu), fun b hb => by cases hb⟩, hg2⟩
    | some x =>
      obtain ⟨n, q⟩ := x
      have hr : rI l (some a) = (n, some q) := by simp only [rI]; rw [ht]
      have hq := (takeI_sound ht).2.2.1
      rw [hr]
      rw [ht] at hT
      simp only [tkI] at hT
      clear ht hr
      go_enter Tryz.func43, Tryz.ntmps43
      go_wp2_with fail
      refine wp_region_held_drew (S := fun W => W.cell? ⟨g, 0, none⟩ = some v ∧ W.cell? ⟨g, 1, none⟩ = some (.int .i64 (a : Int))) (by kernel_rfl) (⟨c0, c1⟩) (fun hHeld => ?_)
      refine takeH (i := 0) (v := ?_) rfl (by kernel_rfl) (by kernel_rfl) (by kernel_rfl) (fun _ _ _ h => h) rfl ?_ hHeld ?_
      rotate_left
      · intro w hS; (try dsimp only at hS); obtain ⟨hS0, hS1⟩ := hS; go_simp; first | done | (with_reducible rfl)
      try simp only [Act.put, List.setIfInBounds_toArray, List.set_cons_zero, List.set_cons_succ]
      refine takeH (i := 1) (v := ?_) rfl (by kernel_rfl) (by kernel_rfl) (by kernel_rfl) (fun _ _ _ h => h) rfl ?_ hHeld ?_
      rotate_left
      · intro w hS; (try dsimp only at hS); obtain ⟨hS0, hS1⟩ := hS; go_simp; first | done | (with_reducible rfl)
      try simp only [Act.put, List.setIfInBounds_toArray, List.set_cons_zero, List.set_cons_succ]
      refine takeH (i := 2) (v := ?_) rfl (by kernel_rfl) (by kernel_rfl) (by kernel_rfl) (fun _ _ _ h => h) rfl ?_ hHeld ?_
      rotate_left
      · intro w hS; (try dsimp only at hS); obtain ⟨hS0, hS1⟩ := hS; go_simp; first | done | (with_reducible rfl)
      try simp only [Act.put, List.setIfInBounds_toArray, List.set_cons_zero, List.set_cons_succ]
      refine takeH (i := 3) (v := ?_) rfl (by kernel_rfl) (by kernel_rfl) (by kernel_rfl) (fun _ _ _ h => h) rfl ?_ hHeld ?_
      rotate_left
      · intro w hS; (try dsimp only at hS); obtain ⟨hS0, hS1⟩ := hS; go_simp; first | done | (with_reducible rfl)
      try simp only [Act.put, List.setIfInBounds_toArray, List.set_cons_zero, List.set_cons_succ]
      refine takeH (i := 4) (v := ?_) rfl (by kernel_rfl) (by kernel_rfl) (by kernel_rfl) (fun _ _ _ h => h) rfl ?_ hHeld ?_
      rotate_left
      · intro w hS; (try dsimp only at hS); obtain ⟨hS0, hS1⟩ := hS; go_simp; first | done | (with_reducible rfl)
      try simp only [Act.put, List.setIfInBounds_toArray, List.set_cons_zero, List.set_cons_succ]
      refine takeH (i := 5) (v := ?_) rfl (by kernel_rfl) (by kernel_rfl) (by kernel_rfl) (fun _ _ _ h => h) rfl ?_ hHeld ?_
      rotate_left
      · intro w hS; (try dsimp only at hS); obtain ⟨hS0, hS1⟩ := hS; go_simp; first | done | (with_reducible rfl)
      try simp only [Act.put, List.setIfInBounds_toArray, List.set_cons_zero, List.set_cons_succ]
      refine takeH (i := 6) (v := ?_) rfl (by kernel_rfl) (by kernel_rfl) (by kernel_rfl) (fun _ _ _ h => h) rfl ?_ hHeld ?_
      rotate_left
      · intro w hS; (try dsimp only at hS); obtain ⟨hS0, hS1⟩ := hS; go_simp; first | done | (with_reducible rfl)
      try simp only [Act.put, List.setIfInBounds_toArray, List.set_cons_zero, List.set_cons_succ]
      refine takeH (i := 7) (v := ?_) rfl (by kernel_rfl) (by kernel_rfl) (by kernel_rfl) (fun _ _ _ h => h) rfl ?_ hHeld ?_
      rotate_left
      · intro w hS; (try dsimp only at hS); obtain ⟨hS0, hS1⟩ := hS; go_simp; first | done | (with_reducible rfl)
      try simp only [Act.put, List.setIfInBounds_toArray, List.set_cons_zero, List.set_cons_succ]
      refine onlyH (i := 8) rfl (by kernel_rfl) rfl (fun K hK => ?_)
      go_simp
      refine hT.mono ?_
      rintro e w1 ⟨rfl, hb1⟩
      have h5 := (hb1.block g hlt).trans HD.out
      have d0 := rc (i := 0) h5 rfl
      have d1 := rc (i := 1) h5 rfl
      have d2 := rc (i := 2) h5 rfl
      have f2 := frozen0 (j := 2) h5
      have h6 := heap_set3b (u2 := .bool false) h5
      have f1 := frozen0 (j := 1) h6
      have k1 := rc (i := 1) h6 rfl
      refine hK.out _ _ (⟨d0, d1⟩) (fun hHeld => ?_)
      clear hK K
      try simp only [Act.put, List.setIfInBounds_toArray, List.set_cons_zero, List.set_cons_succ]
      refine takeH (i := 9) (v := ?_) rfl (by kernel_rfl) (by kernel_rfl) (by kernel_rfl) (fun _ _ _ h => h) rfl ?_ hHeld ?_
      rotate_left
      · intro w hS; (try dsimp only at hS); obtain ⟨hS0, hS1⟩ := hS; go_simp; first | done | (with_reducible rfl)
      try simp only [Act.put, List.setIfInBounds_toArray, List.set_cons_zero, List.set_cons_succ]
      refine takeH (i := 10) (v := ?_) rfl (by kernel_rfl) (by kernel_rfl) (by kernel_rfl) (fun _ _ _ h => h) rfl ?_ hHeld ?_
      rotate_left
      · intro w hS; (try dsimp only at hS); obtain ⟨hS0, hS1⟩ := hS; go_simp; first | done | (with_reducible rfl)
      try simp only [Act.put, List.setIfInBounds_toArray, List.set_cons_zero, List.set_cons_succ]
      refine takeH (i := 11) (v := ?_) rfl (by kernel_rfl) (by kernel_rfl) (by kernel_rfl) (fun _ _ _ h => h) rfl ?_ hHeld ?_
      rotate_left
      · intro w hS; (try dsimp only at hS); obtain ⟨hS0, hS1⟩ := hS; go_simp; first | done | (with_reducible rfl)
      try simp only [Act.put, List.setIfInBounds_toArray, List.set_cons_zero, List.set_cons_succ]
      refine takeH (i := 12) (v := ?_) rfl (by kernel_rfl) (by kernel_rfl) (by kernel_rfl) (fun _ _ _ h => h) rfl ?_ hHeld ?_
      rotate_left
      · intro w hS; (try dsimp only at hS); obtain ⟨hS0, hS1⟩ := hS; go_simp; first | done | (with_reducible rfl)
      try simp only [Act.put, List.setIfInBounds_toArray, List.set_cons_zero, List.set_cons_succ]
      refine takeH (i := 13) (v := ?_) rfl (by kernel_rfl) (by kernel_rfl) (by kernel_rfl) (fun _ _ _ h => h) rfl ?_ hHeld ?_
      rotate_left
      · intro w hS; (try dsimp only at hS); obtain ⟨hS0, hS1⟩ := hS; go_simp; first | done | (with_reducible rfl)
      try simp only [Act.put, List.setIfInBounds_toArray, List.set_cons_zero, List.set_cons_succ]
      refine takeH (i := 14) (v := ?_) rfl (by kernel_rfl) (by kernel_rfl) (by kernel_rfl) (fun _ _ _ h => h) rfl ?_ hHeld ?_
      rotate_left
      · intro w hS; (try dsimp only at hS); obtain ⟨hS0, hS1⟩ := hS; go_simp; first | done | (with_reducible rfl)
      try simp only [Act.put, List.setIfInBounds_toArray, List.set_cons_zero, List.set_cons_succ]
      refine takeH (i := 15) (v := ?_) rfl (by kernel_rfl) (by kernel_rfl) (by kernel_rfl) (fun _ _ _ h => h) rfl ?_ hHeld ?_
      rotate_left
      · intro w hS; (try dsimp only at hS); obtain ⟨hS0, hS1⟩ := hS; go_simp; first | done | (with_reducible rfl)
      try simp only [Act.put, List.setIfInBounds_toArray, List.set_cons_zero, List.set_cons_succ]
      refine wpAnyH_done (by kernel_rfl) ?_ _
      clear hHeld
      go_wp2
      go_ret
      have hg : w.grownBy w1 (some g) := gb_trans (gb_drew _ _) (gb_below hb1)
      have hg2 := gb_trans (gb_trans hg (gb_set w1 g 2 (.bool false))) (gb_set _ g 1 (.int .i64 (q : Int)))
      exact ⟨rfl, ⟨v, _, heap_set3 h6, fun w' hu => H2.out w' (und_trans (und_gb hlt hg2) hu), fun b hb => by injection hb with hb; subst hb; exact ⟨rfl, hq⟩⟩, hg2⟩
set_option maxRecDepth 20000 in
theorem rends_any (w : World) (g : Nat) (l : Bs) (s : Pos) (h : Rr N w g l s) :
    Calls Tryz.prog 46 #[.pointer (some ⟨g, 0, none⟩)] w fun e w' => e = .returned (.bool (decide (s = some l.length))) ∧ Below w.heap.size w w' := by
  obtain ⟨v, p, h1, h2, h3⟩ := h
  have c0 := rc (i := 0) h1 rfl
  have c1 := rc (i := 1) h1 rfl
  have c2 := rc (i := 2) h1 rfl
  have hs := h2 w.drew (und_gb (lt_of_heap h1) (gb_drew _ _))
  obtain ⟨ao, cap, rfl, -⟩ := hs
  clear h1 h2
  cases s with
  | none =>
    simp only [Option.isNone_none] at c2
    go_enter Tryz.func46, Tryz.ntmps46
    go_wp2_with fail
    refine wp_region_held_drew (S := fun W => W.cell? ⟨g, 0, none⟩ = some (.slice ao l.length cap) ∧ W.cell? ⟨g, 1, none⟩ = some (.int .i64 p) ∧ W.cell? ⟨g, 2, none⟩ = some (.bool true)) (by kernel_rfl) (⟨c0, c1, c2⟩) (fun hHeld => ?_)
    refine takeH (i := 0) (v := ?_) rfl (by kernel_rfl) (by kernel_rfl) (by kernel_rfl) (fun _ _ _ h => h) rfl ?_ hHeld ?_
    rotate_left
    · intro w hS; (try dsimp only at hS); obtain ⟨hS0, hS1, hS2⟩ := hS; go_simp; first | done | (with_reducible rfl)
    try simp only [Act.put, List.setIfInBounds_toArray, List.set_cons_zero, List.set_cons_succ]
    refine takeH (i := 1) (v := ?_) rfl (by kernel_rfl) (by kernel_rfl) (by kernel_rfl) (fun _ _ _ h => h) rfl ?_ hHeld ?_
    rotate_left
    · intro w hS; (try dsimp only at hS); obtain ⟨hS0, hS1, hS2⟩ := hS; go_simp; first | done | (with_reducible rfl)
    try simp only [Act.put, List.setIfInBounds_toArray, List.set_cons_zero, List.set_cons_succ]
    refine takeH (i := 2) (v := ?_) rfl (by kernel_rfl) (by kernel_rfl) (by kernel_rfl) (fun _ _ _ h => h) rfl ?_ hHeld ?_
    rotate_left
    · intro w hS; (try dsimp only at hS); obtain ⟨hS0, hS1, hS2⟩ := hS; go_simp; first | done | (with_reducible rfl)
    try simp only [Act.put, List.setIfInBounds_toArray, List.set_cons_zero, List.set_cons_succ]
    refine takeH (i := 3) (v := ?_) rfl (by kernel_rfl) (by kernel_rfl) (by kernel_rfl) (fun _ _ _ h => h) rfl ?_ hHeld ?_
    rotate_left
    · intro w hS; (try dsimp only at hS); obtain ⟨hS0, hS1, hS2⟩ := hS; go_simp; first | done | (with_reducible rfl)
    try simp only [Act.put, List.setIfInBounds_toArray, List.set_cons_zero, List.set_cons_succ]
    refine takeH (i := 4) (v := ?_) rfl (by kernel_rfl) (by kernel_rfl) (by kernel_rfl) (fun _ _ _ h => h) rfl ?_ hHeld ?_
    rotate_left
    · intro w hS; (try dsimp only at hS); obtain ⟨hS0, hS1, hS2⟩ := hS; go_simp; first | done | (with_reducible rfl)
    try simp only [Act.put, List.setIfInBounds_toArray, List.set_cons_zero, List.set_cons_succ]
    refine takeH (i := 5) (v := ?_) rfl (by kernel_rfl) (by kernel_rfl) (by kernel_rfl) (fun _ _ _ h => h) rfl ?_ hHeld ?_
    rotate_left
    · intro w hS; (try dsimp only at hS); obtain ⟨hS0, hS1, hS2⟩ := hS; go_simp; first | done | (with_reducible rfl)
    try simp only [Act.put, List.setIfInBounds_toArray, List.set_cons_zero, List.set_cons_succ]
    refine skipH (i := 6) rfl (by kernel_rfl) (by kernel_rfl) (by kernel_rfl) (fun _ _ _ h => h) rfl hHeld ?_
    try simp only [Act.put, List.setIfInBounds_toArray, List.set_cons_zero, List.set_cons_succ]
    refine skipH (i := 7) rfl (by kernel_rfl) (by kernel_rfl) (by kernel_rfl) (fun _ _ _ h => h) rfl hHeld ?_
    try simp only [Act.put, List.setIfInBounds_toArray, List.set_cons_zero, List.set_cons_succ]
    refine skipH (i := 8) rfl (by kernel_rfl) (by kernel_rfl) (by kernel_rfl) (fun _ _ _ h => h) rfl hHeld ?_
    try simp only [Act.put, List.setIfInBounds_toArray, List.set_cons_zero, List.set_cons_succ]
    refine skipH (i := 9) rfl (by kernel_rfl) (by kernel_rfl) (by kernel_rfl) (fun _ _ _ h => h) rfl hHeld ?_
    try simp only [Act.put, List.setIfInBounds_toArray, List.set_cons_zero, List.set_cons_succ]
    refine skipH (i := 10) rfl (by kernel_rfl) (by kernel_rfl) (by kernel_rfl) (fun _ _ _ h => h) rfl hHeld ?_
    try simp only [Act.put, List.setIfInBounds_toArray, List.set_cons_zero, List.set_cons_succ]
    refine skipH (i := 11) rfl (by kernel_rfl) (by kernel_rfl) (by kernel_rfl) (fun _ _ _ h => h) rfl hHeld ?_
    try simp only [Act.put, List.setIfInBounds_toArray, List.set_cons_zero, List.set_cons_succ]
    refine skipH (i := 12) rfl (by kernel_rfl) (by kernel_rfl) (by kernel_rfl) (fun _ _ _ h => h) rfl hHeld ?_
    try simp only [Act.put, List.setIfInBounds_toArray, List.set_cons_zero, List.set_cons_succ]
    refine skipH (i := 13) rfl (by kernel_rfl) (by kernel_rfl) (by kernel_rfl) (fun _ _ _ h => h) rfl hHeld ?_
    try simp only [Act.put, List.setIfInBounds_toArray, List.set_cons_zero, List.set_cons_succ]
    refine skipH (i := 14) rfl (by kernel_rfl) (by kernel_rfl) (by kernel_rfl) (fun _ _ _ h => h) rfl hHeld ?_
    try simp only [Act.put, List.setIfInBounds_toArray, List.set_cons_zero, List.set_cons_succ]
    refine skipH (i := 15) rfl (by kernel_rfl) (by kernel_rfl) (by kernel_rfl) (fun _ _ _ h => h) rfl hHeld ?_
    try simp only [Act.put, List.setIfInBounds_toArray, List.set_cons_zero, List.set_cons_succ]
    refine takeH (i := 16) (v := ?_) rfl (by kernel_rfl) (by kernel_rfl) (by kernel_rfl) (fun _ _ _ h => h) rfl ?_ hHeld ?_
    rotate_left
    · intro w hS; (try dsimp only at hS); obtain ⟨hS0, hS1, hS2⟩ := hS; go_simp; first | done | (with_reducible rfl)
    try simp only [Act.put, List.setIfInBounds_toArray, List.set_cons_zero, List.set_cons_succ]
    refine takeH (i := 17) (v := ?_) rfl (by kernel_rfl) (by kernel_rfl) (by kernel_rfl) (fun _ _ _ h => h) rfl ?_ hHeld ?_
    rotate_left
    · intro w hS; (try dsimp only at hS); obtain ⟨hS0, hS1, hS2⟩ := hS; go_simp; first | done | (with_reducible rfl)
    try simp only [Act.put, List.setIfInBounds_toArray, List.set_cons_zero, List.set_cons_succ]
    refine wpAnyH_done (by kernel_rfl) ?_ _
    clear hHeld
    go_wp2
    go_ret
    exact ⟨ret_bool (by simp), (Below.refl _ _).drew⟩
  | some a =>
    obtain ⟨rfl, ha⟩ := h3 a rfl
    simp only [Option.isNone_some] at c2
    go_enter Tryz.func46, Tryz.ntmps46
    go_wp2_with fail
    refine wp_region_held_drew (S := fun W => W.cell? ⟨g, 0, none⟩ = some (.slice ao l.length cap) ∧ W.cell? ⟨g, 1, none⟩ = some (.int .i64 (a : Int)) ∧ W.cell? ⟨g, 2, none⟩ = some (.bool false)) (by kernel_rfl) (⟨c0, c1, c2⟩) (fun hHeld => ?_)
    refine takeH (i := 0) (v := ?_) rfl (by kernel_rfl) (by kernel_rfl) (by kernel_rfl) (fun _ _ _ h => h) rfl ?_ hHeld ?_
    rotate_left
    · intro w hS; (try dsimp only at hS); obtain ⟨hS0, hS1, hS2⟩ := hS; go_simp; first | done | (with_reducible rfl)
    try simp only [Act.put, List.setIfInBounds_toArray, List.set_cons_zero, List.set_cons_succ]
    refine takeH (i := 1) (v := ?_) rfl (by kernel_rfl) (by kernel_rfl) (by kernel_rfl) (fun _ _ _ h => h) rfl ?_ hHeld ?_
    rotate_left
    · intro w hS; (try dsimp only at hS); obtain ⟨hS0, hS1, hS2⟩ := hS; go_simp; first | done | (with_reducible rfl)
    try simp only [Act.put, List.setIfInBounds_toArray, List.set_cons_zero, List.set_cons_succ]
    refine takeH (i := 2) (v := ?_) rfl (by kernel_rfl) (by kernel_rfl) (by kernel_rfl) (fun _ _ _ h => h) rfl ?_ hHeld ?_
    rotate_left
    · intro w hS; (try dsimp only at hS); obtain ⟨hS0, hS1, hS2⟩ := hS; go_simp; first | done | (with_reducible rfl)
    try simp only [Act.put, List.setIfInBounds_toArray, List.set_cons_zero, List.set_cons_succ]
    refine takeH (i := 3) (v := ?_) rfl (by kernel_rfl) (by kernel_rfl) (by kernel_rfl) (fun _ _ _ h => h) rfl ?_ hHeld ?_
    rotate_left
    · intro w hS; (try dsimp only at hS); obtain ⟨hS0, hS1, hS2⟩ := hS; go_simp; first | done | (with_reducible rfl)
    try simp only [Act.put, List.setIfInBounds_toArray, List.set_cons_zero, List.set_cons_succ]
    refine takeH (i := 4) (v := ?_) rfl (by kernel_rfl) (by kernel_rfl) (by kernel_rfl) (fun _ _ _ h => h) rfl ?_ hHeld ?_
    rotate_left
    · intro w hS; (try dsimp only at hS); obtain ⟨hS0, hS1, hS2⟩ := hS; go_simp; first | done | (with_reducible rfl)
    try simp only [Act.put, List.setIfInBounds_toArray, List.set_cons_zero, List.set_cons_succ]
    refine takeH (i := 5) (v := ?_) rfl (by kernel_rfl) (by kernel_rfl) (by kernel_rfl) (fun _ _ _ h => h) rfl ?_ hHeld ?_
    rotate_left
    · intro w hS; (try dsimp only at hS); obtain ⟨hS0, hS1, hS2⟩ := hS; go_simp; first | done | (with_reducible rfl)
    try simp only [Act.put, List.setIfInBounds_toArray, List.set_cons_zero, List.set_cons_succ]
    refine takeH (i := 6) (v := ?_) rfl (by kernel_rfl) (by kernel_rfl) (by kernel_rfl) (fun _ _ _ h => h) rfl ?_ hHeld ?_
    rotate_left
    · intro w hS; (try dsimp only at hS); obtain ⟨hS0, hS1, hS2⟩ := hS; go_simp; first | done | (with_reducible rfl)
    try simp only [Act.put, List.setIfInBounds_toArray, List.set_cons_zero, List.set_cons_succ]
    refine takeH (i := 7) (v := ?_) rfl (by kernel_rfl) (by kernel_rfl) (by kernel_rfl) (fun _ _ _ h => h) rfl ?_ hHeld ?_
    rotate_left
    · intro w hS; (try dsimp only at hS); obtain ⟨hS0, hS1, hS2⟩ := hS; go_simp; first | done | (with_reducible rfl)
    try simp only [Act.put, List.setIfInBounds_toArray, List.set_cons_zero, List.set_cons_succ]
    refine takeH (i := 8) (v := ?_) rfl (by kernel_rfl) (by kernel_rfl) (by kernel_rfl) (fun _ _ _ h => h) rfl ?_ hHeld ?_
    rotate_left
    · intro w hS; (try dsimp only at hS); obtain ⟨hS0, hS1, hS2⟩ := hS; go_simp; first | done | (with_reducible rfl)
    try simp only [Act.put, List.setIfInBounds_toArray, List.set_cons_zero, List.set_cons_succ]
    refine takeH (i := 9) (v := ?_) rfl (by kernel_rfl) (by kernel_rfl) (by kernel_rfl) (fun _ _ _ h => h) rfl ?_ hHeld ?_
    rotate_left
    · intro w hS; (try dsimp only at hS); obtain ⟨hS0, hS1, hS2⟩ := hS; go_simp; first | done | (with_reducible rfl)
    try simp only [Act.put, List.setIfInBounds_toArray, List.set_cons_zero, List.set_cons_succ]
    refine takeH (i := 10) (v := ?_) rfl (by kernel_rfl) (by kernel_rfl) (by kernel_rfl) (fun _ _ _ h => h) rfl ?_ hHeld ?_
    rotate_left
    · intro w hS; (try dsimp only at hS); obtain ⟨hS0, hS1, hS2⟩ := hS; go_simp; first | done | (with_reducible rfl)
    try simp only [Act.put, List.setIfInBounds_toArray, List.set_cons_zero, List.set_cons_succ]
    refine takeH (i := 11) (v := ?_) rfl (by kernel_rfl) (by kernel_rfl) (by kernel_rfl) (fun _ _ _ h => h) rfl ?_ hHeld ?_
    rotate_left
    · intro w hS; (try dsimp only at hS); obtain ⟨hS0, hS1, hS2⟩ := hS; go_simp; first | done | (with_reducible rfl)
    try simp only [Act.put, List.setIfInBounds_toArray, List.set_cons_zero, List.set_cons_succ]
    refine takeH (i := 12) (v := ?_) rfl (by kernel_rfl) (by kernel_rfl) (by kernel_rfl) (fun _ _ _ h => h) rfl ?_ hHeld ?_
    rotate_left
    · intro w hS; (try dsimp only at hS); obtain ⟨hS0, hS1, hS2⟩ := hS; go_simp; first | done | (with_reducible rfl)
    try simp only [Act.put, List.setIfInBounds_toArray, List.set_cons_zero, List.set_cons_succ]
    refine takeH (i := 13) (v := ?_) rfl (by kernel_rfl) (by kernel_rfl) (by kernel_rfl) (fun _ _ _ h => h) rfl ?_ hHeld ?_
    rotate_left
    · intro w hS; (try dsimp only at hS); obtain ⟨hS0, hS1, hS2⟩ := hS; go_simp; first | done | (with_reducible rfl)
    try simp only [Act.put, List.setIfInBounds_toArray, List.set_cons_zero, List.set_cons_succ]
    refine takeH (i := 14) (v := ?_) rfl (by kernel_rfl) (by kernel_rfl) (by kernel_rfl) (fun _ _ _ h => h) rfl ?_ hHeld ?_
    rotate_left
    · intro w hS; (try dsimp only at hS); obtain ⟨hS0, hS1, hS2⟩ := hS; go_simp; first | done | (with_reducible rfl)
    try simp only [Act.put, List.setIfInBounds_toArray, List.set_cons_zero, List.set_cons_succ]
    refine takeH (i := 15) (v := ?_) rfl (by kernel_rfl) (by kernel_rfl) (by kernel_rfl) (fun _ _ _ h => h) rfl ?_ hHeld ?_
    rotate_left
    · intro w hS; (try dsimp only at hS); obtain ⟨hS0, hS1, hS2⟩ := hS; go_simp; first | done | (with_reducible rfl)
    try simp only [Act.put, List.setIfInBounds_toArray, List.set_cons_zero, List.set_cons_succ]
    refine takeH (i := 16) (v := ?_) rfl (by kernel_rfl) (by kernel_rfl) (by kernel_rfl) (fun _ _ _ h => h) rfl ?_ hHeld ?_
    rotate_left
    · intro w hS; (try dsimp only at hS); obtain ⟨hS0, hS1, hS2⟩ := hS; go_simp; first | done | (with_reducible rfl)
    try simp only [Act.put, List.setIfInBounds_toArray, List.set_cons_zero, List.set_cons_succ]
    refine takeH (i := 17) (v := ?_) rfl (by kernel_rfl) (by kernel_rfl) (by kernel_rfl) (fun _ _ _ h => h) rfl ?_ hHeld ?_
    rotate_left
    · intro w hS; (try dsimp only at hS); obtain ⟨hS0, hS1, hS2⟩ := hS; go_simp; first | done | (with_reducible rfl)
    try simp only [Act.put, List.setIfInBounds_toArray, List.set_cons_zero, List.set_cons_succ]
    refine wpAnyH_done (by kernel_rfl) ?_ _
    clear hHeld
    go_wp2
    go_ret
    refine ⟨ret_bool ?_, (Below.refl _ _).drew⟩
    rw [Bool.eq_iff_iff]; simp <;> omega
set_option maxRecDepth 20000 in
theorem rid_any (w : World) (g : Nat) (l : Bs) (s : Pos) (h : Rr N w g l s) (hl : l.length ≤ 140737488351232) :
    Calls Tryz.prog 45 #[.pointer (some ⟨g, 0, none⟩)] w fun e w' => e = .returned (.string (strB (rD l s).1)) ∧ Rr N w' g l (rD l s).2 ∧ w.grownBy w' (some g) := by
  have hR := h
  obtain ⟨v, p, h1, h2, h3⟩ := h
  have c0 := rc (i := 0) h1 rfl
  have c1 := rc (i := 1) h1 rfl
  have c2 := rc (i := 2) h1 rfl
  have hs := h2 w.drew (und_gb (lt_of_heap h1) (gb_drew _ _))
  have hlt := lt_of_heap h1
  have hd : w.drew.heap[g]? = some (.cells #[v, .int .i64 p, .bool s.isNone] 90) := h1
  have f2 := frozen0 (j := 2) hd
  have f1 := frozen0 (j := 1) hd
  have d2 := rc (i := 2) hd rfl
  have d1 := rc (i := 1) hd rfl
  have hs' := hs
  obtain ⟨ao, cap, rfl, q1, q2, q3, q4⟩ := hs'
  unfold maxLen at q2
  have H2 := hide h2
  have HD := hide hd
  clear h2 h1 hd
  by_cases hc : ∃ a, s = some a ∧ a + 32 ≤ l.length
  · obtain ⟨a, rfl, hle⟩ := hc
    obtain ⟨rfl, ha⟩ := h3 a rfl
    simp only [Option.isNone_some] at c2 d2 HD
    have hr : rD l (some a) = ((l.drop a).take 32, some (a + 32)) := by simp only [rD]; rw [if_pos hle]
    rw [hr]
    obtain ⟨b, off, rfl, hbl, hcl⟩ := q4 (by rintro rfl; simp at hle)
    have hlt' : ¬ ((l.length : Int) - (a : Int) < 32) := by omega
    have hwr : IntKind.i64.wrap ((l.length : Int) - (a : Int)) = (l.length : Int) - (a : Int) := by rw [IntKind.wrap_i64]; omega
    have hw2 : IntKind.i64.wrap (a : Int) = (a : Int) := by rw [IntKind.wrap_i64]; omega
    have hle2 : (a : Int) + 32 ≤ (cap : Int) := by omega
    have ha32 : (a : Int) ≤ (a : Int) + 32 := by omega
    have hca : ¬ cap = a := by omega
    have hta : ((a : Int) + 32).toNat - a = 32 := by omega
    have h6 := heap_set3 (u1 := .int .i64 ((a : Int) + 32)) HD.out
    have k0 := rc (i := 0) h6 rfl
    have k1 := rc (i := 1) h6 rfl
    have hS2 := H2.out ((w.drew.setCell ⟨g, 1, none⟩ (.int .i64 ((a : Int) + 32))).drew) (und_gb hlt (gb_trans (gb_trans (gb_drew _ _) (gb_set _ g 1 _)) (gb_drew _ _)))
    have hcv := run_str _ _ _ (Sl.cutAt (r := a) (m := 32) hle (by omega) hS2)
    simp only [Option.map_some, Addr.add_lit] at hcv
    have hx : ((a : Int) + 32 - 32) = (a : Int) := by omega
    clear hcl hs hS2 hr h3 hR
    go_enter Tryz.func45, Tryz.ntmps45
    go_wp2_with fail
    refine wp_region_held_drew (S := fun W => W.cell? ⟨g, 0, none⟩ = some (.slice (some ⟨b, off, none⟩) l.length cap) ∧ W.cell? ⟨g, 1, none⟩ = some (.int .i64 (a : Int)) ∧ W.cell? ⟨g, 2, none⟩ = some (.bool false)) (by kernel_rfl) (⟨c0, c1, c2⟩) (fun hHeld => ?_)
    refine takeH (i := 0) (v := ?_) rfl (by kernel_rfl) (by kernel_rfl) (by kernel_rfl) (fun _ _ _ h => h) rfl ?_ hHeld ?_
    rotate_left
    · intro w hS; (try dsimp only at hS); obtain ⟨hS0, hS1, hS2⟩ := hS; go_simp; first | done | (with_reducible rfl)
    try simp only [Act.put, List.setIfInBounds_toArray, List.set_cons_zero, List.set_cons_succ]
    refine takeH (i := 1) (v := ?_) rfl (by kernel_rfl) (by kernel_rfl) (by kernel_rfl) (fun _ _ _ h => h) rfl ?_ hHeld ?_
    rotate_left
    · intro w hS; (try dsimp only at hS); obtain ⟨hS0, hS1, hS2⟩ := hS; go_simp; first | done | (with_reducible rfl)
    try simp only [Act.put, List.setIfInBounds_toArray, List.set_cons_zero, List.set_cons_succ]
    refine takeH (i := 2) (v := ?_) rfl (by kernel_rfl) (by kernel_rfl) (by kernel_rfl) (fun _ _ _ h => h) rfl ?_ hHeld ?_
    rotate_left
    · intro w hS; (try dsimp only at hS); obtain ⟨hS0, hS1, hS2⟩ := hS; go_simp; first | done | (with_reducible rfl)
    try simp only [Act.put, List.setIfInBounds_toArray, List.set_cons_zero, List.set_cons_succ]
    refine takeH (i := 3) (v := ?_) rfl (by kernel_rfl) (by kernel_rfl) (by kernel_rfl) (fun _ _ _ h => h) rfl ?_ hHeld ?_
    rotate_left
    · intro w hS; (try dsimp only at hS); obtain ⟨hS0, hS1, hS2⟩ := hS; go_simp; first | done | (with_reducible rfl)
    try simp only [Act.put, List.setIfInBounds_toArray, List.set_cons_zero, List.set_cons_succ]
    refine takeH (i := 4) (v := ?_) rfl (by kernel_rfl) (by kernel_rfl) (by kernel_rfl) (fun _ _ _ h => h) rfl ?_ hHeld ?_
    rotate_left
    · intro w hS; (try dsimp only at hS); obtain ⟨hS0, hS1, hS2⟩ := hS; go_simp; first | done | (with_reducible rfl)
    try simp only [Act.put, List.setIfInBounds_toArray, List.set_cons_zero, List.set_cons_succ]
    refine takeH (i := 5) (v := ?_) rfl (by kernel_rfl) (by kernel_rfl) (by kernel_rfl) (fun _ _ _ h => h) rfl ?_ hHeld ?_
    rotate_left
    · intro w hS; (try dsimp only at hS); obtain ⟨hS0, hS1, hS2⟩ := hS; go_simp; first | done | (with_reducible rfl)
    try simp only [Act.put, List.setIfInBounds_toArray, List.set_cons_zero, List.set_cons_succ]
    refine takeH (i := 6) (v := ?_) rfl (by kernel_rfl) (by kernel_rfl) (by kernel_rfl) (fun _ _ _ h => h) rfl ?_ hHeld ?_
    rotate_left
    · intro w hS; (try dsimp only at hS); obtain ⟨hS0, hS1, hS2⟩ := hS; go_simp; first | done | (with_reducible rfl)
    try simp only [Act.put, List.setIfInBounds_toArray, List.set_cons_zero, List.set_cons_succ]
    refine takeH (i := 7) (v := ?_) rfl (by kernel_rfl) (by kernel_rfl) (by kernel_rfl) (fun _ _ _ h => h) rfl ?_ hHeld ?_
    rotate_left
    · intro w hS; (try dsimp only at hS); obtain ⟨hS0, hS1, hS2⟩ := hS; go_simp; first | done | (with_reducible rfl)
    try simp only [Act.put, List.setIfInBounds_toArray, List.set_cons_zero, List.set_cons_succ]
    refine takeH (i := 8) (v := ?_) rfl (by kernel_rfl) (by kernel_rfl) (by kernel_rfl) (fun _ _ _ h => h) rfl ?_ hHeld ?_
    rotate_left
    · intro w hS; (try dsimp only at hS); obtain ⟨hS0, hS1, hS2⟩ := hS; go_simp; first | done | (with_reducible rfl)
    try simp only [Act.put, List.setIfInBounds_toArray, List.set_cons_zero, List.set_cons_succ]
    refine takeH (i := 9) (v := ?_) rfl (by kernel_rfl) (by kernel_rfl) (by kernel_rfl) (fun _ _ _ h => h) rfl ?_ hHeld ?_
    rotate_left
    · intro w hS; (try dsimp only at hS); obtain ⟨hS0, hS1, hS2⟩ := hS; go_simp; first | done | (with_reducible rfl)
    try simp only [Act.put, List.setIfInBounds_toArray, List.set_cons_zero, List.set_cons_succ]
    refine takeH (i := 10) (v := ?_) rfl (by kernel_rfl) (by kernel_rfl) (by kernel_rfl) (fun _ _ _ h => h) rfl ?_ hHeld ?_
    rotate_left
    · intro w hS; (try dsimp only at hS); obtain ⟨hS0, hS1, hS2⟩ := hS; go_simp; first | done | (with_reducible rfl)
    try simp only [Act.put, List.setIfInBounds_toArray, List.set_cons_zero, List.set_cons_succ]
    refine takeH (i := 11) (v := ?_) rfl (by kernel_rfl) (by kernel_rfl) (by kernel_rfl) (fun _ _ _ h => h) rfl ?_ hHeld ?_
    rotate_left
    · intro w hS; (try dsimp only at hS); obtain ⟨hS0, hS1, hS2⟩ := hS; go_simp; first | done | (with_reducible rfl)
    try simp only [Act.put, List.setIfInBounds_toArray, List.set_cons_zero, List.set_cons_succ]
    refine takeH (i := 12) (v := ?_) rfl (by kernel_rfl) (by kernel_rfl) (by kernel_rfl) (fun _ _ _ h => h) rfl ?_ hHeld ?_
    rotate_left
    · intro w hS; (try dsimp only at hS); obtain ⟨hS0, hS1, hS2⟩ := hS; go_simp; first | done | (with_reducible rfl)
    try simp only [Act.put, List.setIfInBounds_toArray, List.set_cons_zero, List.set_cons_succ]
    refine takeH (i := 13) (v := ?_) rfl (by kernel_rfl) (by kernel_rfl) (by kernel_rfl) (fun _ _ _ h => h) rfl ?_ hHeld ?_
    rotate_left
    · intro w hS; (try dsimp only at hS); obtain ⟨hS0, hS1, hS2⟩ := hS; go_simp; first | done | (with_reducible rfl)
    try simp only [Act.put, List.setIfInBounds_toArray, List.set_cons_zero, List.set_cons_succ]
    refine takeH (i := 14) (v := ?_) rfl (by kernel_rfl) (by kernel_rfl) (by kernel_rfl) (fun _ _ _ h => h) rfl ?_ hHeld ?_
    rotate_left
    · intro w hS; (try dsimp only at hS); obtain ⟨hS0, hS1, hS2⟩ := hS; go_simp; first | done | (with_reducible rfl)
    try simp only [Act.put, List.setIfInBounds_toArray, List.set_cons_zero, List.set_cons_succ]
    refine takeH (i := 15) (v := ?_) rfl (by kernel_rfl) (by kernel_rfl) (by kernel_rfl) (fun _ _ _ h => h) rfl ?_ hHeld ?_
    rotate_left
    · intro w hS; (try dsimp only at hS); obtain ⟨hS0, hS1, hS2⟩ := hS; go_simp; first | done | (with_reducible rfl)
    try simp only [Act.put, List.setIfInBounds_toArray, List.set_cons_zero, List.set_cons_succ]
    refine takeH (i := 16) (v := ?_) rfl (by kernel_rfl) (by kernel_rfl) (by kernel_rfl) (fun _ _ _ h => h) rfl ?_ hHeld ?_
    rotate_left
    · intro w hS; (try dsimp only at hS); obtain ⟨hS0, hS1, hS2⟩ := hS; go_simp; first | done | (with_reducible rfl)
    try simp only [Act.put, List.setIfInBounds_toArray, List.set_cons_zero, List.set_cons_succ]
    refine wpAnyH_done (by kernel_rfl) ?_ _
    clear hHeld
    rw [show decide ((l.length : Int) - (a : Int) < 32) = false from decide_eq_false (by omega)]
    go_wp2_with fail
    refine wp_region_held_drew (S := fun W => W.cell? ⟨g, 0, none⟩ = some (.slice (some ⟨b, off, none⟩) l.length cap) ∧ W.cell? ⟨g, 1, none⟩ = some (.int .i64 ((a : Int) + 32)) ∧ (convert 28 9 (.slice (some ⟨b, off + a, none⟩) 32 (cap - a))).run Tryz.prog W = .ok (.string (strB ((l.drop a).take 32))) W) (by kernel_rfl) (⟨k0, k1, hcv⟩) (fun hHeld => ?_)
    refine takeH (i := 0) (v := ?_) rfl (by kernel_rfl) (by kernel_rfl) (by kernel_rfl) (fun _ _ _ h => h) rfl ?_ hHeld ?_
    rotate_left
    · intro w hS; (try dsimp only at hS); obtain ⟨hS0, hS1, hS2⟩ := hS; go_simp; first | done | (with_reducible rfl)
    try simp only [Act.put, List.setIfInBounds_toArray, List.set_cons_zero, List.set_cons_succ]
    refine takeH (i := 1) (v := ?_) rfl (by kernel_rfl) (by kernel_rfl) (by kernel_rfl) (fun _ _ _ h => h) rfl ?_ hHeld ?_
    rotate_left
    · intro w hS; (try dsimp only at hS); obtain ⟨hS0, hS1, hS2⟩ := hS; go_simp; first | done | (with_reducible rfl)
    try simp only [Act.put, List.setIfInBounds_toArray, List.set_cons_zero, List.set_cons_succ]
    refine takeH (i := 2) (v := ?_) rfl (by kernel_rfl) (by kernel_rfl) (by kernel_rfl) (fun _ _ _ h => h) rfl ?_ hHeld ?_
    rotate_left
    · intro w hS; (try dsimp only at hS); obtain ⟨hS0, hS1, hS2⟩ := hS; go_simp; first | done | (with_reducible rfl)
    try simp only [Act.put, List.setIfInBounds_toArray, List.set_cons_zero, List.set_cons_succ]
    refine takeH (i := 3) (v := ?_) rfl (by kernel_rfl) (by kernel_rfl) (by kernel_rfl) (fun _ _ _ h => h) rfl ?_ hHeld ?_
    rotate_left
    · intro w hS; (try dsimp only at hS); obtain ⟨hS0, hS1, hS2⟩ := hS; go_simp; first | done | (with_reducible rfl)
    try simp only [Act.put, List.setIfInBounds_toArray, List.set_cons_zero, List.set_cons_succ]
    refine takeH (i := 4) (v := ?_) rfl (by kernel_rfl) (by kernel_rfl) (by kernel_rfl) (fun _ _ _ h => h) rfl ?_ hHeld ?_
    rotate_left
    · intro w hS; (try dsimp only at hS); obtain ⟨hS0, hS1, hS2⟩ := hS; go_simp; first | done | (with_reducible rfl)
    try simp only [Act.put, List.setIfInBounds_toArray, List.set_cons_zero, List.set_cons_succ]
    refine takeH (i := 5) (v := ?_) rfl (by kernel_rfl) (by kernel_rfl) (by kernel_rfl) (fun _ _ _ h => h) rfl ?_ hHeld ?_
    rotate_left
    · intro w hS; (try dsimp only at hS); obtain ⟨hS0, hS1, hS2⟩ := hS; go_simp; first | done | (with_reducible rfl)
    try simp only [Act.put, List.setIfInBounds_toArray, List.set_cons_zero, List.set_cons_succ]
    refine takeH (i := 6) (v := ?_) rfl (by kernel_rfl) (by kernel_rfl) (by kernel_rfl) (fun _ _ _ h => h) rfl ?_ hHeld ?_
    rotate_left
    · intro w hS; (try dsimp only at hS); obtain ⟨hS0, hS1, hS2⟩ := hS; go_simp; first | done | (with_reducible rfl)
    try simp only [Act.put, List.setIfInBounds_toArray, List.set_cons_zero, List.set_cons_succ]
    refine takeH (i := 7) (v := ?_) rfl (by kernel_rfl) (by kernel_rfl) (by kernel_rfl) (fun _ _ _ h => h) rfl ?_ hHeld ?_
    rotate_left
    · intro w hS; (try dsimp only at hS); obtain ⟨hS0, hS1, hS2⟩ := hS; go_simp; first | done | (with_reducible rfl)
    try simp only [Act.put, List.setIfInBounds_toArray, List.set_cons_zero, List.set_cons_succ]
    refine takeH (i := 8) (v := ?_) rfl (by kernel_rfl) (by kernel_rfl) (by kernel_rfl) (fun _ _ _ h => h) rfl ?_ hHeld ?_
    rotate_left
    · intro w hS; (try dsimp only at hS); obtain ⟨hS0, hS1, hS2⟩ := hS; go_simp; first | done | (with_reducible rfl)
    try simp only [Act.put, List.setIfInBounds_toArray, List.set_cons_zero, List.set_cons_succ]
    refine takeH (i := 9) (v := ?_) rfl (by kernel_rfl) (by kernel_rfl) (by kernel_rfl) (fun _ _ _ h => h) rfl ?_ hHeld ?_
    rotate_left
    · intro w hS; (try dsimp only at hS); obtain ⟨hS0, hS1, hS2⟩ := hS; go_simp; first | done | (with_reducible rfl)
    try simp only [Act.put, List.setIfInBounds_toArray, List.set_cons_zero, List.set_cons_succ]
    refine takeH (i := 10) (v := ?_) rfl (by kernel_rfl) (by kernel_rfl) (by kernel_rfl) (fun _ _ _ h => h) rfl ?_ hHeld ?_
    rotate_left
    · intro w hS; (try dsimp only at hS); obtain ⟨hS0, hS1, hS2⟩ := hS; go_simp; first | done | (with_reducible rfl)
    try simp only [Act.put, List.setIfInBounds_toArray, List.set_cons_zero, List.set_cons_succ]
    refine takeH (i := 11) (v := ?_) rfl (by kernel_rfl) (by kernel_rfl) (by kernel_rfl) (fun _ _ _ h => h) rfl ?_ hHeld ?_
    rotate_left
    · intro w hS; (try dsimp only at hS); obtain ⟨hS0, hS1, hS2⟩ := hS; go_simp; first | done | (with_reducible rfl)
    try simp only [Act.put, List.setIfInBounds_toArray, List.set_cons_zero, List.set_cons_succ]
    refine takeH (i := 12) (v := ?_) rfl (by kernel_rfl) (by kernel_rfl) (by kernel_rfl) (fun _ _ _ h => h) rfl ?_ hHeld ?_
    rotate_left
    · intro w hS; (try dsimp only at hS); obtain ⟨hS0, hS1, hS2⟩ := hS; go_simp; first | done | (with_reducible rfl)
    try simp only [Act.put, List.setIfInBounds_toArray, List.set_cons_zero, List.set_cons_succ]
    refine takeH (i := 13) (v := ?_) rfl (by kernel_rfl) (by kernel_rfl) (by kernel_rfl) (fun _ _ _ h => h) rfl ?_ hHeld ?_
    rotate_left
    · intro w hS; (try dsimp only at hS); obtain ⟨hS0, hS1, hS2⟩ := hS; go_simp; first | done | (with_reducible rfl)
    try simp only [Act.put, List.setIfInBounds_toArray, List.set_cons_zero, List.set_cons_succ]
    refine takeH (i := 14) (v := ?_) rfl (by kernel_rfl) (by kernel_rfl) (by kernel_rfl) (fun _ _ _ h => h) rfl ?_ hHeld ?_
    rotate_left
    · intro w hS; (try dsimp only at hS); obtain ⟨hS0, hS1, hS2⟩ := hS; go_simp; first | done | (with_reducible rfl)
    try simp only [Act.put, List.setIfInBounds_toArray, List.set_cons_zero, List.set_cons_succ]
    refine takeH (i := 15) (v := ?_) rfl (by kernel_rfl) (by kernel_rfl) (by kernel_rfl) (fun _ _ _ h => h) rfl ?_ hHeld ?_
    rotate_left
    · intro w hS; (try dsimp only at hS); obtain ⟨hS0, hS1, hS2⟩ := hS; go_simp; first | done | (with_reducible rfl)
    try simp only [Act.put, List.setIfInBounds_toArray, List.set_cons_zero, List.set_cons_succ]
    refine wpAnyH_done (by kernel_rfl) ?_ _
    clear hHeld
    go_wp2
    go_ret
    have hg2 : w.grownBy ((w.drew.setCell ⟨g, 1, none⟩ (.int .i64 ((a : Int) + 32))).drew) (some g) := gb_trans (gb_trans (gb_drew _ _) (gb_set _ g 1 _)) (gb_drew _ _)
    exact ⟨rfl, ⟨_, _, h6, fun w' hu => H2.out w' (und_trans (und_gb hlt hg2) hu), fun c hc => by injection hc with hc; subst hc; exact ⟨by omega, hle⟩⟩, hg2⟩
  · have hr : rD l s = ([], none) := by
      cases s with
      | none => rfl
      | some a => simp only [rD]; rw [if_neg (fun h => hc ⟨a, rfl, h⟩)]
    rw [hr]
    have h6 := heap_set3b (u2 := .bool true) HD.out
    have hg2 : w.grownBy (w.drew.setCell ⟨g, 2, none⟩ (.bool true)) (some g) := gb_trans (gb_drew _ _) (gb_set _ g 2 _)
    clear hs hr q4 q3
    cases s with
    | none =>
      simp only [Option.isNone_none] at c2 d2
      go_enter Tryz.func45, Tryz.ntmps45
      go_wp2_with fail
      refine wp_region_held_drew (S := fun W => W.cell? ⟨g, 0, none⟩ = some (.slice ao l.length cap) ∧ W.cell? ⟨g, 1, none⟩ = some (.int .i64 p) ∧ W.cell? ⟨g, 2, none⟩ = some (.bool true)) (by kernel_rfl) (⟨c0, c1, c2⟩) (fun hHeld => ?_)
      refine takeH (i := 0) (v := ?_) rfl (by kernel_rfl) (by kernel_rfl) (by kernel_rfl) (fun _ _ _ h => h) rfl ?_ hHeld ?_
      rotate_left
      · intro w hS; (try dsimp only at hS); obtain ⟨hS0, hS1, hS2⟩ := hS; go_simp; first | done | (with_reducible rfl)
      try simp only [Act.put, List.setIfInBounds_toArray, List.set_cons_zero, List.set_cons_succ]
      refine takeH (i := 1) (v := ?_) rfl (by kernel_rfl) (by kernel_rfl) (by kernel_rfl) (fun _ _ _ h => h) rfl ?_ hHeld ?_
      rotate_left
      · intro w hS; (try dsimp only at hS); obtain ⟨hS0, hS1, hS2⟩ := hS; go_simp; first | done | (with_reducible rfl)
      try simp only [Act.put, List.setIfInBounds_toArray, List.set_cons_zero, List.set_cons_succ]
      refine takeH (i := 2) (v := ?_) rfl (by kernel_rfl) (by kernel_rfl) (by kernel_rfl) (fun _ _ _ h => h) rfl ?_ hHeld ?_
      rotate_left
      · intro w hS; (try dsimp only at hS); obtain ⟨hS0, hS1, hS2⟩ := hS; go_simp; first | done | (with_reducible rfl)
      try simp only [Act.put, List.setIfInBounds_toArray, List.set_cons_zero, List.set_cons_succ]
      refine takeH (i := 3) (v := ?_) rfl (by kernel_rfl) (by kernel_rfl) (by kernel_rfl) (fun _ _ _ h => h) rfl ?_ hHeld ?_
      rotate_left
      · intro w hS; (try dsimp only at hS); obtain ⟨hS0, hS1, hS2⟩ := hS; go_simp; first | done | (with_reducible rfl)
      try simp only [Act.put, List.setIfInBounds_toArray, List.set_cons_zero, List.set_cons_succ]
      refine takeH (i := 4) (v := ?_) rfl (by kernel_rfl) (by kernel_rfl) (by kernel_rfl) (fun _ _ _ h => h) rfl ?_ hHeld ?_
      rotate_left
      · intro w hS; (try dsimp only at hS); obtain ⟨hS0, hS1, hS2⟩ := hS; go_simp; first | done | (with_reducible rfl)
      try simp only [Act.put, List.setIfInBounds_toArray, List.set_cons_zero, List.set_cons_succ]
      refine skipH (i := 5) rfl (by kernel_rfl) (by kernel_rfl) (by kernel_rfl) (fun _ _ _ h => h) rfl hHeld ?_
      try simp only [Act.put, List.setIfInBounds_toArray, List.set_cons_zero, List.set_cons_succ]
      refine skipH (i := 6) rfl (by kernel_rfl) (by kernel_rfl) (by kernel_rfl) (fun _ _ _ h => h) rfl hHeld ?_
      try simp only [Act.put, List.setIfInBounds_toArray, List.set_cons_zero, List.set_cons_succ]
      refine skipH (i := 7) rfl (by kernel_rfl) (by kernel_rfl) (by kernel_rfl) (fun _ _ _ h => h) rfl hHeld ?_
      try simp only [Act.put, List.setIfInBounds_toArray, List.set_cons_zero, List.set_cons_succ]
      refine skipH (i := 8) rfl (by kernel_rfl) (by kernel_rfl) (by kernel_rfl) (fun _ _ _ h => h) rfl hHeld ?_
      try simp only [Act.put, List.setIfInBounds_toArray, List.set_cons_zero, List.set_cons_succ]
      refine skipH (i := 9) rfl (by kernel_rfl) (by kernel_rfl) (by kernel_rfl) (fun _ _ _ h => h) rfl hHeld ?_
      try simp only [Act.put, List.setIfInBounds_toArray, List.set_cons_zero, List.set_cons_succ]
      refine skipH (i := 10) rfl (by kernel_rfl) (by kernel_rfl) (by kernel_rfl) (fun _ _ _ h => h) rfl hHeld ?_
      try simp only [Act.put, List.setIfInBounds_toArray, List.set_cons_zero, List.set_cons_succ]
      refine skipH (i := 11) rfl (by kernel_rfl) (by kernel_rfl) (by kernel_rfl) (fun _ _ _ h => h) rfl hHeld ?_
      try simp only [Act.put, List.setIfInBounds_toArray, List.set_cons_zero, List.set_cons_succ]
      refine skipH (i := 12) rfl (by kernel_rfl) (by kernel_rfl) (by kernel_rfl) (fun _ _ _ h => h) rfl hHeld ?_
      try simp only [Act.put, List.setIfInBounds_toArray, List.set_cons_zero, List.set_cons_succ]
      refine skipH (i := 13) rfl (by kernel_rfl) (by kernel_rfl) (by kernel_rfl) (fun _ _ _ h => h) rfl hHeld ?_
      try simp only [Act.put, List.setIfInBounds_toArray, List.set_cons_zero, List.set_cons_succ]
      refine skipH (i := 14) rfl (by kernel_rfl) (by kernel_rfl) (by kernel_rfl) (fun _ _ _ h => h) rfl hHeld ?_
      try simp only [Act.put, List.setIfInBounds_toArray, List.set_cons_zero, List.set_cons_succ]
      refine skipH (i := 15) rfl (by kernel_rfl) (by kernel_rfl) (by kernel_rfl) (fun _ _ _ h => h) rfl hHeld ?_
      try simp only [Act.put, List.setIfInBounds_toArray, List.set_cons_zero, List.set_cons_succ]
      refine takeH (i := 16) (v := ?_) rfl (by kernel_rfl) (by kernel_rfl) (by kernel_rfl) (fun _ _ _ h => h) rfl ?_ hHeld ?_
      rotate_left
      · intro w hS; (try dsimp only at hS); obtain ⟨hS0, hS1, hS2⟩ := hS; go_simp; first | done | (with_reducible rfl)
      try simp only [Act.put, List.setIfInBounds_toArray, List.set_cons_zero, List.set_cons_succ]
      refine wpAnyH_done (by kernel_rfl) ?_ _
      clear hHeld
      go_wp2
      go_ret
      exact ⟨rfl, ⟨_, _, h6, fun w' hu => H2.out w' (und_trans (und_gb hlt hg2) hu), fun c hc => by cases hc⟩, hg2⟩
    | some a =>
      obtain ⟨rfl, ha⟩ := h3 a rfl
      simp only [Option.isNone_some] at c2 d2
      have hlt' : (l.length : Int) - (a : Int) < 32 := by
        have : ¬ (a + 32 ≤ l.length) := fun h => hc ⟨a, rfl, h⟩
        omega
      have hwr : IntKind.i64.wrap ((l.length : Int) - (a : Int)) = (l.length : Int) - (a : Int) := by rw [IntKind.wrap_i64]; omega
      clear hc h3 hR
      go_enter Tryz.func45, Tryz.ntmps45
      go_wp2_with fail
      refine wp_region_held_drew (S := fun W => W.cell? ⟨g, 0, none⟩ = some (.slice ao l.length cap) ∧ W.cell? ⟨g, 1, none⟩ = some (.int .i64 (a : Int)) ∧ W.cell? ⟨g, 2, none⟩ = some (.bool false)) (by kernel_rfl) (⟨c0, c1, c2⟩) (fun hHeld => ?_)
      refine takeH (i := 0) (v := ?_) rfl (by kernel_rfl) (by kernel_rfl) (by kernel_rfl) (fun _ _ _ h => h) rfl ?_ hHeld ?_
      rotate_left
      · intro w hS; (try dsimp only at hS); obtain ⟨hS0, hS1, hS2⟩ := hS; go_simp; first | done | (with_reducible rfl)
      try simp only [Act.put, List.setIfInBounds_toArray, List.set_cons_zero, List.set_cons_succ]
      refine takeH (i := 1) (v := ?_) rfl (by kernel_rfl) (by kernel_rfl) (by kernel_rfl) (fun _ _ _ h => h) rfl ?_ hHeld ?_
      rotate_left
      · intro w hS; (try dsimp only at hS); obtain ⟨hS0, hS1, hS2⟩ := hS; go_simp; first | done | (with_reducible rfl)
      try simp only [Act.put, List.setIfInBounds_toArray, List.set_cons_zero, List.set_cons_succ]
      refine takeH (i := 2) (v := ?_) rfl (by kernel_rfl) (by kernel_rfl) (by kernel_rfl) (fun _ _ _ h => h) rfl ?_ hHeld ?_
      rotate_left
      · intro w hS; (try dsimp only at hS); obtain ⟨hS0, hS1, hS2⟩ := hS; go_simp; first | done | (with_reducible rfl)
      try simp only [Act.put, List.setIfInBounds_toArray, List.set_cons_zero, List.set_cons_succ]
      refine takeH (i := 3) (v := ?_) rfl (by kernel_rfl) (by kernel_rfl) (by kernel_rfl) (fun _ _ _ h => h) rfl ?_ hHeld ?_
      rotate_left
      · intro w hS; (try dsimp only at hS); obtain ⟨hS0, hS1, hS2⟩ := hS; go_simp; first | done | (with_reducible rfl)
      try simp only [Act.put, List.setIfInBounds_toArray, List.set_cons_zero, List.set_cons_succ]
      refine takeH (i := 4) (v := ?_) rfl (by kernel_rfl) (by kernel_rfl) (by kernel_rfl) (fun _ _ _ h => h) rfl ?_ hHeld ?_
      rotate_left
      · intro w hS; (try dsimp only at hS); obtain ⟨hS0, hS1, hS2⟩ := hS; go_simp; first | done | (with_reducible rfl)
      try simp only [Act.put, List.setIfInBounds_toArray, List.set_cons_zero, List.set_cons_succ]
      refine takeH (i := 5) (v := ?_) rfl (by kernel_rfl) (by kernel_rfl) (by kernel_rfl) (fun _ _ _ h => h) rfl ?_ hHeld ?_
      rotate_left
      · intro w hS; (try dsimp only at hS); obtain ⟨hS0, hS1, hS2⟩ := hS; go_simp; first | done | (with_reducible rfl)
      try simp only [Act.put, List.setIfInBounds_toArray, List.set_cons_zero, List.set_cons_succ]
      refine takeH (i := 6) (v := ?_) rfl (by kernel_rfl) (by kernel_rfl) (by kernel_rfl) (fun _ _ _ h => h) rfl ?_ hHeld ?_
      rotate_left
      · intro w hS; (try dsimp only at hS); obtain ⟨hS0, hS1, hS2⟩ := hS; go_simp; first | done | (with_reducible rfl)
      try simp only [Act.put, List.setIfInBounds_toArray, List.set_cons_zero, List.set_cons_succ]
      refine takeH (i := 7) (v := ?_) rfl (by kernel_rfl) (by kernel_rfl) (by kernel_rfl) (fun _ _ _ h => h) rfl ?_ hHeld ?_
      rotate_left
      · intro w hS; (try dsimp only at hS); obtain ⟨hS0, hS1, hS2⟩ := hS; go_simp; first | done | (with_reducible rfl)
      try simp only [Act.put, List.setIfInBounds_toArray, List.set_cons_zero, List.set_cons_succ]
      refine takeH (i := 8) (v := ?_) rfl (by kernel_rfl) (by kernel_rfl) (by kernel_rfl) (fun _ _ _ h => h) rfl ?_ hHeld ?_
      rotate_left
      · intro w hS; (try dsimp only at hS); obtain ⟨hS0, hS1, hS2⟩ := hS; go_simp; first | done | (with_reducible rfl)
      try simp only [Act.put, List.setIfInBounds_toArray, List.set_cons_zero, List.set_cons_succ]
      refine takeH (i := 9) (v := ?_) rfl (by kernel_rfl) (by kernel_rfl) (by kernel_rfl) (fun _ _ _ h => h) rfl ?_ hHeld ?_
      rotate_left
      · intro w hS; (try dsimp only at hS); obtain ⟨hS0, hS1, hS2⟩ := hS; go_simp; first | done | (with_reducible rfl)
      try simp only [Act.put, List.setIfInBounds_toArray, List.set_cons_zero, List.set_cons_succ]
      refine takeH (i := 10) (v := ?_) rfl (by kernel_rfl) (by kernel_rfl) (by kernel_rfl) (fun _ _ _ h => h) rfl ?_ hHeld ?_
      rotate_left
      · intro w hS; (try dsimp only at hS); obtain ⟨hS0, hS1, hS2⟩ := hS; go_simp; first | done | (with_reducible rfl)
      try simp only [Act.put, List.setIfInBounds_toArray, List.set_cons_zero, List.set_cons_succ]
      refine takeH (i := 11) (v := ?_) rfl (by kernel_rfl) (by kernel_rfl) (by kernel_rfl) (fun _ _ _ h => h) rfl ?_ hHeld ?_
      rotate_left
      · intro w hS; (try dsimp only at hS); obtain ⟨hS0, hS1, hS2⟩ := hS; go_simp; first | done | (with_reducible rfl)
      try simp only [Act.put, List.setIfInBounds_toArray, List.set_cons_zero, List.set_cons_succ]
      refine takeH (i := 12) (v := ?_) rfl (by kernel_rfl) (by kernel_rfl) (by kernel_rfl) (fun _ _ _ h => h) rfl ?_ hHeld ?_
      rotate_left
      · intro w hS; (try dsimp only at hS); obtain ⟨hS0, hS1, hS2⟩ := hS; go_simp; first | done | (with_reducible rfl)
      try simp only [Act.put, List.setIfInBounds_toArray, List.set_cons_zero, List.set_cons_succ]
      refine takeH (i := 13) (v := ?_) rfl (by kernel_rfl) (by kernel_rfl) (by kernel_rfl) (fun _ _ _ h => h) rfl ?_ hHeld ?_
      rotate_left
      · intro w hS; (try dsimp only at hS); obtain ⟨hS0, hS1, hS2⟩ := hS; go_simp; first | done | (with_reducible rfl)
      try simp only [Act.put, List.setIfInBounds_toArray, List.set_cons_zero, List.set_cons_succ]
      refine takeH (i := 14) (v := ?_) rfl (by kernel_rfl) (by kernel_rfl) (by kernel_rfl) (fun _ _ _ h => h) rfl ?_ hHeld ?_
      rotate_left
      · intro w hS; (try dsimp only at hS); obtain ⟨hS0, hS1, hS2⟩ := hS; go_simp; first | done | (with_reducible rfl)
      try simp only [Act.put, List.setIfInBounds_toArray, List.set_cons_zero, List.set_cons_succ]
      refine takeH (i := 15) (v := ?_) rfl (by kernel_rfl) (by kernel_rfl) (by kernel_rfl) (fun _ _ _ h => h) rfl ?_ hHeld ?_
      rotate_left
      · intro w hS; (try dsimp only at hS); obtain ⟨hS0, hS1, hS2⟩ := hS; go_simp; first | done | (with_reducible rfl)
      try simp only [Act.put, List.setIfInBounds_toArray, List.set_cons_zero, List.set_cons_succ]
      refine takeH (i := 16) (v := ?_) rfl (by kernel_rfl) (by kernel_rfl) (by kernel_rfl) (fun _ _ _ h => h) rfl ?_ hHeld ?_
      rotate_left
      · intro w hS; (try dsimp only at hS); obtain ⟨hS0, hS1, hS2⟩ := hS; go_simp; first | done | (with_reducible rfl)
      try simp only [Act.put, List.setIfInBounds_toArray, List.set_cons_zero, List.set_cons_succ]
      refine wpAnyH_done (by kernel_rfl) ?_ _
      clear hHeld
      try rw [show decide ((l.length : Int) - (a : Int) < 32) = true from decide_eq_true (by omega)]
      go_wp2
      go_ret
      exact ⟨rfl, ⟨_, _, h6, fun w' hu => H2.out w' (und_trans (und_gb hlt hg2) hu), fun c hc => by cases hc⟩, hg2⟩
end Go.Proofs.YtdbmngbinhemeabGreatDoor
namespace Go.Proofs.YtdbmngbinhemeabGreatDoor
open Go.RowKit
variable {N : Nat}

theorem index_str (w : World) (l : List UInt8) (kd : IntKind) (k : Nat) (h : k < l.length) : (Instr.index 9 (.string (strB l)) (.int kd (k : Int))).run Tryz.prog w = .ok (.int .u8 ((l[k]'h).toNat : Int)) w := by
  have a1 : (0 : Int) ≤ (k : Int) := by omega
  have h1 : (strB l)[k]? = some (l[k]'h) := by
    have hs : k < (strB l).size := by rw [strB_size]; exact h
    rw [getElem?_pos (strB l) k hs]
    rfl
  unfold Instr.index
  simp only [asIntOf, Sem.run_bind, Sem.run_pure, Result.andThen_ok, run_underlying Tryz.underlying9 w]
  rw [if_pos a1, Int.toNat_natCast, h1]
  rfl
theorem name_false {l : List UInt8} {k : Nat} (hk : k < l.length) (h : l[k] = 47 ∨ l[k] = 0) : Pt.name l = false := by
  have hm := List.getElem_mem hk
  unfold Pt.name
  refine decide_eq_false ?_
  rintro ⟨_, _, _, _, h1, h2⟩
  rcases h with h | h
  · exact h1 (h ▸ hm)
  · exact h2 (h ▸ hm)
theorem name_true {l : List UInt8} (h1 : 1 ≤ l.length) (h2 : l.length ≤ 64) (h3 : l ≠ [46]) (h4 : l ≠ [46, 46]) (h : ∀ j (hj : j < l.length), l[j] ≠ 47 ∧ l[j] ≠ 0) : Pt.name l = true := by
  unfold Pt.name
  refine decide_eq_true ⟨h1, h2, h3, h4, fun hm => ?_, fun hm => ?_⟩
  · obtain ⟨j, hj, e⟩ := List.getElem_of_mem hm
    exact (h j hj).1 e
  · obtain ⟨j, hj, e⟩ := List.getElem_of_mem hm
    exact (h j hj).2 e
set_option maxRecDepth 20000 in
theorem rname_any (w : World) (l : List UInt8) :
    Calls Tryz.prog 88 #[.string (strB l)] w fun e w' => e = .returned (.bool (Pt.name l)) ∧ w' = w := by
  have hsz := strB_size l
  have hl := toL l
  by_cases h1 : l.length < 1
  · go_enter Tryz.func88, Tryz.ntmps88
    go_wp2
    go_ret
    exact ⟨ret_bool (by simp [Pt.name]; omega), rfl⟩
  by_cases h2 : 64 < l.length
  · go_enter Tryz.func88, Tryz.ntmps88
    go_wp2
    go_ret
    exact ⟨ret_bool (by simp [Pt.name]; omega), rfl⟩
  by_cases h3 : l = [46]
  · subst h3
    go_enter Tryz.func88, Tryz.ntmps88
    go_wp2
    go_ret
    exact ⟨ret_bool (by simp [Pt.name]), rfl⟩
  by_cases h4 : l = [46, 46]
  · subst h4
    go_enter Tryz.func88, Tryz.ntmps88
    go_wp2
    go_ret
    exact ⟨ret_bool (by simp [Pt.name]), rfl⟩
  have b3 : (l == [46]) = false := by simp [h3]
  have b4 : (l == [46, 46]) = false := by simp [h4]
  have q1 : 1 ≤ l.length := by omega
  have q2 : l.length ≤ 64 := by omega
  go_enter Tryz.func88, Tryz.ntmps88
  go_wp2
  go_loopw [3, 2] (fun v r wr => ∃ k : Nat, v = .int .i64 (k : Int) ∧ r = .bool false ∧ k ≤ l.length ∧ (∀ j (hj : j < l.length), j < k → l[j] ≠ 47 ∧ l[j] ≠ 0) ∧ wr = w)
    (fun v _ _ => l.length - (intOf v).toNat)
  case atStart => exact ⟨0, rfl, rfl, by omega, (fun j _ hj => by omega), rfl⟩
  case round =>
    obtain ⟨k, rfl, rfl, hk, hn, rfl⟩ := hrel
    by_cases hlt : k < l.length
    · have hix := fun W => index_str W l .i64 k hlt
      have hf := name_false hlt
      by_cases c1 : l[k] = 47
      · have hf := hf (.inl c1)
        rw [c1] at hix
        go_wp2
        go_ret
        exact ⟨ret_bool hf.symm, rfl⟩
      by_cases c2 : l[k] = 0
      · have hf := hf (.inr c2)
        rw [c2] at hix
        go_wp2
        go_ret
        exact ⟨ret_bool hf.symm, rfl⟩
      · have c1' : ¬ (l[k].toNat : Int) = 47 := fun e => c1 (UInt8.toNat_inj.1 (by simpa using Int.ofNat.inj e))
        have c2' : ¬ (l[k].toNat : Int) = 0 := fun e => c2 (UInt8.toNat_inj.1 (by simpa using Int.ofNat.inj e))
        have c1'' : ((l[k].toNat : Int) == 47) = false := by simpa using c1'
        have c2'' : ((l[k].toNat : Int) == 0) = false := beq_eq_false_iff_ne.2 c2'
        clear hf c1' c2'
        have hstep : ∀ j (hj : j < l.length), j < k + 1 → l[j] ≠ 47 ∧ l[j] ≠ 0 := fun j hj hjk => by
          by_cases e : j = k
          · subst e; exact ⟨c1, c2⟩
          · exact hn j hj (by omega)
        generalize l[k] = c at *
        go_wp2_with fail
        exact ⟨⟨k + 1, by go_num, rfl, by omega, hstep, trivial⟩, by simp [intOf]; omega⟩
    · have ht := name_true q1 q2 h3 h4 (fun j hj => hn j hj (by omega))
      have : k = l.length := by omega
      subst this
      go_wp2
      go_ret
      exact ⟨ret_bool ht.symm, rfl⟩
theorem risId_any (w : World) (s : Bs) : Calls Tryz.prog 85 #[.string (strB s)] w fun e w' => e = .returned (.bool (isIdB s)) ∧ w' = w := by
  have hs := strB_size s
  go_enter Tryz.func85, Tryz.ntmps85
  go_wp2
  go_ret
  refine ⟨ret_bool ?_, rfl⟩
  unfold isIdB
  (try rw [Bool.eq_iff_iff]); simp <;> omega
set_option maxRecDepth 20000 in
set_option maxHeartbeats 800000 in
theorem rentryRight_any (w : World) (name : Bs) (v : Val) :
    Calls Tryz.prog 51 #[.agg #[.string (strB name), .int .i64 v.1, .string (strB v.2.1), .int .i64 v.2.2]] w fun e w' => e = .returned (.bool (entryOk name v)) ∧ Below w.heap.size w w' := by
  have hb : Below w.heap.size w (w.alloc (.cells #[.string (strB name), .int .i64 v.1, .string (strB v.2.1), .int .i64 v.2.2] 60)) := (Below.refl _ _).alloc (Nat.le_refl _) _
  have hn := fun W => rname_any W name
  have hi := fun W => risId_any W v.2.1
  unfold entryOk valOk
  obtain ⟨k, i, n⟩ := v
  simp only at *
  generalize Pt.name name = q0 at *
  generalize isIdB i = q1 at *
  cases q0
  · go_enter Tryz.func51, Tryz.ntmps51
    go_wp2_with fail
    refine (hn _).mono ?_
    rintro e w1 ⟨rfl, rfl⟩
    go_wp2_with fail
    refine (hi _).mono ?_
    rintro e w1 ⟨rfl, rfl⟩
    go_wp2
    go_ret
    exact ⟨ret_bool (by simp), hb⟩
  cases q1
  · go_enter Tryz.func51, Tryz.ntmps51
    go_wp2_with fail
    refine (hn _).mono ?_
    rintro e w1 ⟨rfl, rfl⟩
    go_wp2_with fail
    refine (hi _).mono ?_
    rintro e w1 ⟨rfl, rfl⟩
    go_wp2
    go_ret
    exact ⟨ret_bool (by simp), hb⟩
  by_cases h1 : k = 1
  · subst h1
    by_cases h2 : 0 ≤ n
    · by_cases h3 : n ≤ 262144
      all_goals
        go_enter Tryz.func51, Tryz.ntmps51
        go_wp2_with fail
        refine (hn _).mono ?_
        rintro e w1 ⟨rfl, rfl⟩
        go_wp2_with fail
        refine (hi _).mono ?_
        rintro e w1 ⟨rfl, rfl⟩
        go_wp2
        go_ret
        exact ⟨ret_bool (by simp [sizeOk, h2, h3]), hb⟩
    · go_enter Tryz.func51, Tryz.ntmps51
      go_wp2_with fail
      refine (hn _).mono ?_
      rintro e w1 ⟨rfl, rfl⟩
      go_wp2_with fail
      refine (hi _).mono ?_
      rintro e w1 ⟨rfl, rfl⟩
      go_wp2
      go_ret
      exact ⟨ret_bool (by simp [sizeOk]; omega), hb⟩
  · have b1 : (k == 1) = false := by simpa using h1
    by_cases h2 : k = 2
    · subst h2
      by_cases h3 : 1 ≤ n
      · by_cases h4 : n ≤ 4096
        all_goals
          go_enter Tryz.func51, Tryz.ntmps51
          go_wp2_with fail
          refine (hn _).mono ?_
          rintro e w1 ⟨rfl, rfl⟩
          go_wp2_with fail
          refine (hi _).mono ?_
          rintro e w1 ⟨rfl, rfl⟩
          go_wp2
          go_ret
          exact ⟨ret_bool (by simp [sizeOk, h3, h4]), hb⟩
      · go_enter Tryz.func51, Tryz.ntmps51
        go_wp2_with fail
        refine (hn _).mono ?_
        rintro e w1 ⟨rfl, rfl⟩
        go_wp2_with fail
        refine (hi _).mono ?_
        rintro e w1 ⟨rfl, rfl⟩
        go_wp2
        go_ret
        exact ⟨ret_bool (by simp [sizeOk]; omega), hb⟩
    · have b2 : (k == 2) = false := by simpa using h2
      go_enter Tryz.func51, Tryz.ntmps51
      go_wp2_with fail
      refine (hn _).mono ?_
      rintro e w1 ⟨rfl, rfl⟩
      go_wp2_with fail
      refine (hi _).mono ?_
      rintro e w1 ⟨rfl, rfl⟩
      go_wp2
      go_ret
      exact ⟨ret_bool (by simp [sizeOk, h1, h2]), hb⟩
/-- What Entry answers. -/
def entryV (ok : Bool) (v : Val) : Value := if ok then .tuple #[.string (strB (valB v)), .int .i64 0] else .tuple #[.string (strB []), .int .i64 80]
theorem entryOk_64 {name : Bs} {v : Val} (h : entryOk name v = true) : In64 v.1 ∧ In64 v.2.2 ∧ v.2.1.length = 32 := by
  unfold entryOk valOk at h
  simp only [Bool.and_eq_true, isIdB, decide_eq_true_eq] at h
  obtain ⟨_, h1, h2⟩ := h
  unfold sizeOk at h2
  unfold In64
  split at h2
  · rename_i h3
    simp only [decide_eq_true_eq] at h2
    exact ⟨by omega, by omega, h1⟩
  · split at h2
    · rename_i h3
      simp only [decide_eq_true_eq] at h2
      exact ⟨by omega, by omega, h1⟩
    · cases h2
end Go.Proofs.YtdbmngbinhemeabGreatDoor
namespace Go.Proofs.YtdbmngbinhemeabGreatDoor
open Go.RowKit

theorem wp_append_run2 {P : Program} {o : Oper} {a : Act} {w : World} {K : Act → World → Prop} {Q : Exit → Act → World → Prop} (s x : Operand) (t u : TypeId)
    (ho : o.op = .call { callee := .builtin .append, args := #[s, x], argTypes := #[t, u] }) {v1 v2 v' : Value} {w' : World} (hs : a.eval s = v1) (hx : a.eval x = v2)
    (hrun : (Builtin.append_ #[t, u] o.type #[v1, v2]).run P w = .ok v' w') (hK : K (a.put o.dst v') w') : o.wp P a w K Q := by
  unfold Oper.wp
  simp [execOp, ho, resolve, invoke, builtin, hs, hx, hrun, Result.andThen]
  exact hK
theorem entryV_yes (v : Val) : entryV true v = .tuple #[.string (strB (valB v)), .int .i64 0] := rfl
theorem entryV_no (v : Val) : entryV false v = .tuple #[.string (strB []), .int .i64 80] := rfl
end Go.Proofs.YtdbmngbinhemeabGreatDoor
namespace Go.Proofs.YtdbmngbinhemeabGreatDoor
open Go.RowKit

/-- As the reference reads them. -/
def hVal (l : Bs) : Pos → Val × Pos := rP (rI l) (rPart l)
theorem fmValI (l : Bs) : Fm l (hVal l) valB (fun v => In64 v.1 ∧ (v.2.1.length = 32 ∧ In64 v.2.2)) := (fmI l).both (fmPart l)
theorem entryOk_kind {name : Bs} {v : Val} (h : entryOk name v = true) : 0 ≤ v.1 ∧ v.1 ≤ 2 := by
  unfold entryOk valOk sizeOk at h
  simp only [Bool.and_eq_true] at h
  obtain ⟨_, _, h2⟩ := h
  split at h2
  · omega
  · split at h2
    · omega
    · cases h2
theorem takenEntry_said (name val : Bs) : takenEntry name val = said gVal (entryOk name) val := rfl
theorem taken_alike (name val : Bs) : said hVal (entryOk name) val = takenEntry name val := by
  rw [takenEntry_said]
  refine Option.ext fun v => ?_
  rw [said_iff (fmValI val) (fun x hx => ?_) v, said_iff (fmVal val) (fun x hx => ?_) v]
  · obtain ⟨_, h2, h3⟩ := entryOk_64 hx
    exact ⟨entryOk_kind hx, h3, h2⟩
  · obtain ⟨h1, h2, h3⟩ := entryOk_64 hx
    exact ⟨h1, h3, h2⟩

theorem Tryz.eqEnt : Tryz.prog.underlying 60 = some (.struct (Tryz.prog.fieldsOf 60)) ∧ Tryz.prog.stoodInHeld 60 = false ∧ Tryz.prog.eqGuardType Tryz.prog.depth 60 = false := ⟨by kernel_rfl, by kernel_rfl, by kernel_rfl⟩
theorem eql_Ent (W : World) (a0 : Bs) (a1 : Int) (a2 : Bs) (a3 : Int) : (binOp .eql 60 (.agg #[.string (strB a0), .int .i64 a1, .string (strB a2), .int .i64 a3]) (.agg #[.string (strB a0), .int .i64 a1, .string (strB a2), .int .i64 a3])).run Tryz.prog W = .ok (.bool true) W := by
  obtain ⟨h1, h2, h3⟩ := Tryz.eqEnt
  rw [run_eql_struct, run_equalIn_agg _ _ _ _ _ h1 h2]
  simp only [Program.fieldsOf, Tryz.underlying60]
  simp [Op.eqFields, go_sem, Tryz.underlying9, Tryz.underlying2, Tryz.underlying3, toL]
end Go.Proofs.YtdbmngbinhemeabGreatDoor
namespace Go.Proofs.YtdbmngbinhemeabGreatDoor
open Go.RowKit

/-- What TakeEntry answers, of what was read. -/
def tookV (ok : Bool) (name : Bs) (v : Val) : Value := if ok then .tuple #[.agg #[.string (strB name), .int .i64 v.1, .string (strB v.2.1), .int .i64 v.2.2], .int .i64 0] else .tuple #[.agg #[.string ⟨#[]⟩, .int .i64 0, .string ⟨#[]⟩, .int .i64 0], .int .i64 81]
theorem tookV_yes (name : Bs) (v : Val) : tookV true name v = .tuple #[.agg #[.string (strB name), .int .i64 v.1, .string (strB v.2.1), .int .i64 v.2.2], .int .i64 0] := rfl
theorem tookV_no (name : Bs) (v : Val) : tookV false name v = .tuple #[.agg #[.string ⟨#[]⟩, .int .i64 0, .string ⟨#[]⟩, .int .i64 0], .int .i64 81] := rfl
theorem said_took {name val : Bs} {v : Val} {s : Pos} (h : hVal val (some 0) = (v, s)) {e : Ending} (he : e = .returned (tookV (decide (s = some val.length) && entryOk name v) name v)) : entrySaid name val e := by
  unfold entrySaid
  rw [← taken_alike]
  unfold said
  rw [h]
  simp only
  subst he
  by_cases h1 : s = some val.length
  · by_cases h2 : entryOk name v = true
    · rw [if_pos ⟨h1, h2⟩]
      simp [h1, h2, tookV]
    · rw [if_neg (fun h => h2 h.2)]
      simp [h2, tookV]
  · rw [if_neg (fun h => h1 h.1)]
    simp [h1, tookV]
theorem heap_at2 {w : World} {g : Nat} {v0 v1 v2 v3 u : Value} {t : TypeId} (h : w.heap[g]? = some (.cells #[v0, v1, v2, v3] t)) : (w.setCell ⟨g, 2, none⟩ u).heap[g]? = some (.cells #[v0, v1, u, v3] t) := by
  rw [heap_setCell _ _ _ _ _ _ _ h]
  simp
theorem heap_at3 {w : World} {g : Nat} {v0 v1 v2 v3 u : Value} {t : TypeId} (h : w.heap[g]? = some (.cells #[v0, v1, v2, v3] t)) : (w.setCell ⟨g, 3, none⟩ u).heap[g]? = some (.cells #[v0, v1, v2, u] t) := by
  rw [heap_setCell _ _ _ _ _ _ _ h]
  simp
set_option maxRecDepth 20000 in
set_option maxHeartbeats 1600000 in
theorem rtakeEntry_any (w : World) (name val : Bs) (hv : val.length ≤ 140737488351232) :
    Calls Tryz.prog 19 #[.string (strB name), .string (strB val)] w fun e w' => entrySaid name val e ∧ Below w.heap.size w w' := by
  obtain ⟨kind, s1, ht1⟩ : ∃ t s1, rI val (some 0) = (t, s1) := ⟨_, _, rfl⟩
  obtain ⟨id, s2, ht2⟩ : ∃ t s2, rD val s1 = (t, s2) := ⟨_, _, rfl⟩
  obtain ⟨size, s3, ht3⟩ : ∃ t s3, rI val s2 = (t, s3) := ⟨_, _, rfl⟩
  have hg : hVal val (some 0) = ((kind, (id, size)), s3) := by
    unfold hVal rPart
    simp only [rP, ht1, ht2, ht3]
  have H1 := hide ht1
  have H2 := hide ht2
  have H3 := hide ht3
  suffices key : Calls Tryz.prog 19 #[.string (strB name), .string (strB val)] w fun e w' => e = .returned (tookV (decide (s3 = some val.length) && entryOk name (kind, (id, size))) name (kind, (id, size))) ∧ Below w.heap.size w w' from
    key.mono (fun e w' h => ⟨said_took hg h.1, h.2⟩)
  clear hg ht1 ht2 ht3
  obtain ⟨q1, hq1⟩ : ∃ q, decide (s3 = some val.length) = q := ⟨_, rfl⟩
  obtain ⟨q2, hq2⟩ : ∃ q, entryOk name (kind, (id, size)) = q := ⟨_, rfl⟩
  rw [hq1, hq2]
  have Q1 := hide hq1
  have Q2 := hide hq2
  clear hq1 hq2
  have hbE : Below w.heap.size w (w.alloc (.cells #[.string ⟨#[]⟩, .int .i64 0, .string ⟨#[]⟩, .int .i64 0] 60)) := (Below.refl _ _).alloc (Nat.le_refl _) _
  have hx0 := heap_last w (.cells #[.string ⟨#[]⟩, .int .i64 0, .string ⟨#[]⟩, .int .i64 0] 60) _ rfl
  have hn0 : (w.alloc (.cells #[.string ⟨#[]⟩, .int .i64 0, .string ⟨#[]⟩, .int .i64 0] 60)).heap.size = w.heap.size + 1 := by simp
  have HV := hide hv
  clear hv
  go_enter Tryz.func19, Tryz.ntmps19
  go_wp2_with (refine wpList_tobytes _ rfl (.tmp 10) rfl (strB val) (by have := HV.out; rw [strB_size]; unfold maxLen; omega) rfl ?_; intro v2 w2 hsl2 hb2 hbk2; rw [strB_list] at hsl2; have HS := hide hsl2; have HBK := hide hbk2; clear hbk2; have HB := hide hb2; obtain ⟨ao, cap, rfl, -⟩ := hsl2; clear hb2)
  have B2 := hbE.trans (HB.out.mono hbE.size)
  have x2 := (HB.out.block _ (lt_of_heap hx0)).trans hx0
  have R3 : Rr (w.heap.size + 1) (w2.alloc (.cells #[.slice ao val.length cap, .int .i64 0, .bool false] 90)) w2.heap.size val (some 0) :=
    ⟨_, 0, heap_last w2 _ _ rfl, fun w' hu => HS.out.und (N := w.heap.size + 1) (fun b off n c e => by have := HBK.out b off n c e; omega) ⟨Nat.le_trans (by simp) hu.1, fun k hN hk => (hu.2 k hN hk).trans (heap_past w2 _ k hk)⟩, fun a ha => by injection ha with ha; subst ha; exact ⟨rfl, Nat.zero_le _⟩⟩
  have hb3 : Below w2.heap.size w2 (w2.alloc (.cells #[.slice ao val.length cap, .int .i64 0, .bool false] 90)) := (Below.refl _ _).alloc (Nat.le_refl _) _
  have x3 := (hb3.block _ (lt_of_heap x2)).trans x2
  have B3 := B2.trans (hb3.mono B2.size)
  have hs2 := HB.out.size
  clear HB HS HBK hb3 x2 B2 hbE hx0
  go_wp2_with fail
  generalize hw3 : w2.alloc (.cells #[.slice ao val.length cap, .int .i64 0, .bool false] 90) = w3 at *
  have hT := rint_any w3 w2.heap.size val (some 0) R3 HV.out
  rw [H1.out] at hT
  simp only at hT
  generalize hgg : w2.heap.size = g at *
  refine hT.mono ?_
  rintro e w4 ⟨rfl, R4, gb4⟩
  have x4 := (gb4.block _ (lt_of_heap x3) (fun e => by injection e with e; omega)).trans x3
  have B4 := B3.grown gb4 B3.size (fun k hk => by injection hk with hk; omega)
  have hqA : Below w4.heap.size w4 (w4.alloc (.cells #[.string (strB name), .int .i64 kind, .string ⟨#[]⟩, .int .i64 0] 60)) := (Below.refl _ _).alloc (Nat.le_refl _) _
  have z5 := heap_last w4 (.cells #[.string (strB name), .int .i64 kind, .string ⟨#[]⟩, .int .i64 0] 60) _ rfl
  have R5 := R4.keep hqA
  have x5 := (hqA.block _ (lt_of_heap x4)).trans x4
  have B5 := B4.trans (hqA.mono B4.size)
  have g4 := R4.lt
  have y4 := lt_of_heap x4
  clear hT gb4 R4 x3 B3 R3 x4 B4 hqA hw3 hgg
  go_wp2_with fail
  generalize hw5 : w4.alloc (.cells #[.string (strB name), .int .i64 kind, .string ⟨#[]⟩, .int .i64 0] 60) = w5 at *
  generalize hn5 : w4.heap.size = n5 at *
  have hT := rid_any w5 g val s1 R5 HV.out
  rw [H2.out] at hT
  simp only at hT
  refine hT.mono ?_
  rintro e w6 ⟨rfl, R6, gb6⟩
  have z6 := (gb6.block _ (lt_of_heap z5) (fun e => by injection e with e; omega)).trans z5
  have x6 := (gb6.block _ (lt_of_heap x5) (fun e => by injection e with e; omega)).trans x5
  have B6 := B5.grown gb6 B5.size (fun k hk => by injection hk with hk; omega)
  have d6 := rc (i := 2) z6 rfl
  have f6 := frozen0 (j := 2) z6
  have z7 := heap_at2 (u := .string (strB id)) z6
  have R7 := R6.set (n := n5) (i := 2) (u := .string (strB id)) (.inl (by omega))
  have x7 := ((gb_set w6 n5 2 (.string (strB id))).block _ (lt_of_heap x6) (fun e => by injection e with e; omega)).trans x6
  have B7 := B6.setCell (p := ⟨n5, 2, none⟩) (by simp; omega) (.string (strB id))
  clear hT gb6 R5 R6 x5 x6 B5 B6 z5 z6 hw5 hn5
  go_wp2_with fail
  generalize hw7 : w6.setCell ⟨n5, 2, none⟩ (.string (strB id)) = w7 at *
  have hT := rint_any w7 g val s2 R7 HV.out
  rw [H3.out] at hT
  simp only at hT
  clear d6 f6
  refine hT.mono ?_
  rintro e w8 ⟨rfl, R8, gb8⟩
  have z8 := (gb8.block _ (lt_of_heap z7) (fun e => by injection e with e; omega)).trans z7
  have x8 := (gb8.block _ (lt_of_heap x7) (fun e => by injection e with e; omega)).trans x7
  have B8 := B7.grown gb8 B7.size (fun k hk => by injection hk with hk; omega)
  have d8 := rc (i := 3) z8 rfl
  have f8 := frozen0 (j := 3) z8
  have z9 := heap_at3 (u := .int .i64 size) z8
  have R9 := R8.set (n := n5) (i := 3) (u := .int .i64 size) (.inl (by omega))
  have x9 := ((gb_set w8 n5 3 (.int .i64 size)).block _ (lt_of_heap x8) (fun e => by injection e with e; omega)).trans x8
  have B9 := B8.setCell (p := ⟨n5, 3, none⟩) (by simp; omega) (.int .i64 size)
  clear hT gb8 R7 R8 x7 x8 B7 B8 z7 z8 hw7
  go_wp2_with fail
  generalize hw9 : w8.setCell ⟨n5, 3, none⟩ (.int .i64 size) = w9 at *
  have hT := rends_any w9 g val s3 R9
  clear d8 f8
  rw [Q1.out] at hT
  refine hT.mono ?_
  rintro e wa ⟨rfl, hba⟩
  have za := (hba.block _ (lt_of_heap z9)).trans z9
  have xa := (hba.block _ (lt_of_heap x9)).trans x9
  have Ba := B9.trans (hba.mono B9.size)
  have l0 := rc (i := 0) za rfl
  have l1 := rc (i := 1) za rfl
  have l2 := rc (i := 2) za rfl
  have l3 := rc (i := 3) za rfl
  clear hT hba R9 x9 B9 z9 hw9
  have hr := rentryRight_any wa name (kind, (id, size))
  simp only at hr
  rw [Q2.out] at hr
  go_wp2_with fail
  refine hr.mono ?_
  rintro e wb ⟨rfl, hbb⟩
  have zb := (hbb.block _ (lt_of_heap za)).trans za
  have xb := (hbb.block _ (lt_of_heap xa)).trans xa
  have Bb := Ba.trans (hbb.mono Ba.size)
  clear hr hbb za xa Ba l0 l1 l2 l3
  have m0 := rc (i := 0) zb rfl
  have m1 := rc (i := 1) zb rfl
  have m2 := rc (i := 2) zb rfl
  have m3 := rc (i := 3) zb rfl
  have n0 := rc (i := 0) xb rfl
  have f0 := frozen0 (j := 0) xb
  have n1 := rc (i := 1) xb rfl
  have f1 := frozen0 (j := 1) xb
  have n2 := rc (i := 2) xb rfl
  have f2 := frozen0 (j := 2) xb
  have n3 := rc (i := 3) xb rfl
  have f3 := frozen0 (j := 3) xb
  cases q1
  · cases q2
    all_goals
      go_wp2
      exact bodyPost_ret (results_cell_tmp_row rfl _ _ _ _ _ _ _ rfl (heap_set4 xb) Tryz.underlying60 rfl Tryz.infoEntry) rfl ⟨rfl, ((((Bb.setCell (p := ⟨w.heap.size, 0, none⟩) (by simp) _).setCell (p := ⟨w.heap.size, 1, none⟩) (by simp) _).setCell (p := ⟨w.heap.size, 2, none⟩) (by simp) _).setCell (p := ⟨w.heap.size, 3, none⟩) (by simp) _)⟩
  · cases q2
    all_goals
      go_wp2
      exact bodyPost_ret (results_cell_tmp_row rfl _ _ _ _ _ _ _ rfl (heap_set4 xb) Tryz.underlying60 rfl Tryz.infoEntry) rfl ⟨rfl, ((((Bb.setCell (p := ⟨w.heap.size, 0, none⟩) (by simp) _).setCell (p := ⟨w.heap.size, 1, none⟩) (by simp) _).setCell (p := ⟨w.heap.size, 2, none⟩) (by simp) _).setCell (p := ⟨w.heap.size, 3, none⟩) (by simp) _)⟩
end Go.Proofs.YtdbmngbinhemeabGreatDoor
