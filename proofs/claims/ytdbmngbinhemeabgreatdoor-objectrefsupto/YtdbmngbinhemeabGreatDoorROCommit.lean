/-
  Whether a commit is right. Condition: its parents lie there.
-/
import Derived.Test.YtdbmngbinhemeabGreatDoorRP4
namespace Go.Proofs.YtdbmngbinhemeabGreatDoor
open Go.RowKit

theorem commitOk_eq (c : Commit) : commitOk c = ((isIdB c.1) && (decide ((c.2.1.length : Int) ≤ 8)) && (c.2.1.all isIdB) && (((once [] c.2.1).length : Int) == (c.2.1.length : Int)) && (decide ((c.2.2.1.length : Int) ≤ 64)) && (decide ((c.2.2.2.2.length : Int) ≤ 1024)) && (decide (0 ≤ c.2.2.2.1)) && (decide (c.2.2.2.1 ≤ 4611686018427387904))) := by
  unfold commitOk
  rw [Bool.eq_iff_iff]
  simp only [Bool.and_eq_true, decide_eq_true_eq, beq_iff_eq]
  constructor
  · rintro ⟨⟨⟨⟨⟨⟨h0, h1⟩, h2⟩, h3⟩, h4⟩, h5⟩, h6, h7⟩
    exact ⟨⟨⟨⟨⟨⟨⟨h0, by omega⟩, h2⟩, by omega⟩, by omega⟩, by omega⟩, h6⟩, h7⟩
  · rintro ⟨⟨⟨⟨⟨⟨⟨h0, h1⟩, h2⟩, h3⟩, h4⟩, h5⟩, h6⟩, h7⟩
    exact ⟨⟨⟨⟨⟨⟨h0, by omega⟩, h2⟩, by omega⟩, by omega⟩, by omega⟩, h6, h7⟩
set_option maxRecDepth 20000 in
set_option maxHeartbeats 1600000 in
theorem commitRight_any (w : World) (c : Commit) (v : Value) (hv : Ls w.heap.size w 1 idC v c.2.1) :
    Calls Tryz.prog 82 #[.agg #[.string (strB c.1), v, .string (strB c.2.2.1), .int .i64 c.2.2.2.1, .string (strB c.2.2.2.2)]] w fun e w' => e = .returned (.bool (commitOk c)) ∧ Below w.heap.size w w' := by
  have hL0 := hv.alloc (.cells #[.string (strB c.1), v, .string (strB c.2.2.1), .int .i64 c.2.2.2.1, .string (strB c.2.2.2.2)] 64)
  have hbA0 : Below w.heap.size w (w.alloc (.cells #[.string (strB c.1), v, .string (strB c.2.2.1), .int .i64 c.2.2.2.1, .string (strB c.2.2.2.2)] 64)) := (Below.refl _ _).alloc (Nat.le_refl _) _
  have y0 := heap_last w (.cells #[.string (strB c.1), v, .string (strB c.2.2.1), .int .i64 c.2.2.2.1, .string (strB c.2.2.2.2)] 64) _ rfl
  have k00 := cell_of_row _ w.heap.size 0 _ _ _ y0
  have k01 := cell_of_row _ w.heap.size 1 _ _ _ y0
  have k02 := cell_of_row _ w.heap.size 2 _ _ _ y0
  have k03 := cell_of_row _ w.heap.size 3 _ _ _ y0
  have k04 := cell_of_row _ w.heap.size 4 _ _ _ y0
  simp only [List.getElem?_toArray, List.getElem?_cons_zero, List.getElem?_cons_succ] at k00 k01 k02 k03 k04
  obtain ⟨ao, cap, rfl, g1, g2, -⟩ := hv
  unfold maxLen at g2
  have s2 := strB_size c.2.2.1
  have s4 := strB_size c.2.2.2.2
  have hok := commitOk_eq c
  by_cases h0 : (isIdB c.1) = true
  rotate_left
  · have h0 := Bool.eq_false_iff.2 h0
    have hF : commitOk c = false := by rw [hok]; simp only [h0, Bool.false_and]
    clear hok
    rw [hF]
    go_enter Tryz.func82, Tryz.ntmps82
    go_wp2_with fail
    generalize hw0 : w.alloc (.cells #[.string (strB c.1), .slice ao c.2.1.length cap, .string (strB c.2.2.1), .int .i64 c.2.2.2.1, .string (strB c.2.2.2.2)] 64) = w0 at *
    refine wp_region_held_drew (S := fun W => W.cell? ⟨w.heap.size, 0, none⟩ = some (.string (strB c.1)) ∧ W.cell? ⟨w.heap.size, 1, none⟩ = some (.slice ao c.2.1.length cap) ∧ W.cell? ⟨w.heap.size, 2, none⟩ = some (.string (strB c.2.2.1)) ∧ W.cell? ⟨w.heap.size, 3, none⟩ = some (.int .i64 c.2.2.2.1) ∧ W.cell? ⟨w.heap.size, 4, none⟩ = some (.string (strB c.2.2.2.2))) (by kernel_rfl) (⟨k00, k01, k02, k03, k04⟩) (fun hHeld => ?_)
    refine takeH (i := 0) (v := ?_) rfl (by kernel_rfl) (by kernel_rfl) (by kernel_rfl) (fun _ _ _ h => h) rfl ?_ hHeld ?_
    rotate_left
    · intro w hS; (try dsimp only at hS); obtain ⟨hS0, hS1, hS2, hS3, hS4⟩ := hS; go_simp; first | done | (with_reducible rfl)
    try simp only [Act.put, List.setIfInBounds_toArray, List.set_cons_zero, List.set_cons_succ]
    refine takeH (i := 1) (v := ?_) rfl (by kernel_rfl) (by kernel_rfl) (by kernel_rfl) (fun _ _ _ h => h) rfl ?_ hHeld ?_
    rotate_left
    · intro w hS; (try dsimp only at hS); obtain ⟨hS0, hS1, hS2, hS3, hS4⟩ := hS; go_simp; first | done | (with_reducible rfl)
    try simp only [Act.put, List.setIfInBounds_toArray, List.set_cons_zero, List.set_cons_succ]
    refine onlyH (i := 2) rfl (by kernel_rfl) rfl (fun K hK => ?_)
    go_simp
    refine (id1_any w0.drew c.1).mono ?_
    rintro e w1 ⟨rfl, hb1⟩
    have hb1 : Below w0.heap.size w0 w1 := (Below.refl _ _).drew.trans hb1
    rw [h0]
    have y1 := (hb1.block _ (lt_of_heap y0)).trans y0
    have k10 := cell_of_row w1 w.heap.size 0 _ _ _ y1
    have k11 := cell_of_row w1 w.heap.size 1 _ _ _ y1
    have k12 := cell_of_row w1 w.heap.size 2 _ _ _ y1
    have k13 := cell_of_row w1 w.heap.size 3 _ _ _ y1
    have k14 := cell_of_row w1 w.heap.size 4 _ _ _ y1
    simp only [List.getElem?_toArray, List.getElem?_cons_zero, List.getElem?_cons_succ] at k10 k11 k12 k13 k14
    have hbA1 := hbA0.trans (hb1.mono hbA0.size)
    have hL1 := hL0.past hb1
    refine hK.out _ _ (⟨k10, k11, k12, k13, k14⟩) (fun hHeld => ?_)
    clear hK K
    try simp only [Act.put, List.setIfInBounds_toArray, List.set_cons_zero, List.set_cons_succ]
    refine takeH (i := 3) (v := ?_) rfl (by kernel_rfl) (by kernel_rfl) (by kernel_rfl) (fun _ _ _ h => h) rfl ?_ hHeld ?_
    rotate_left
    · intro w hS; (try dsimp only at hS); obtain ⟨hS0, hS1, hS2, hS3, hS4⟩ := hS; go_simp; first | done | (with_reducible rfl)
    try simp only [Act.put, List.setIfInBounds_toArray, List.set_cons_zero, List.set_cons_succ]
    refine skipH (i := 4) rfl (by kernel_rfl) (by kernel_rfl) (by kernel_rfl) (fun _ _ _ h => h) rfl hHeld ?_
    try simp only [Act.put, List.setIfInBounds_toArray, List.set_cons_zero, List.set_cons_succ]
    refine skipH (i := 5) rfl (by kernel_rfl) (by kernel_rfl) (by kernel_rfl) (fun _ _ _ h => h) rfl hHeld ?_
    try simp only [Act.put, List.setIfInBounds_toArray, List.set_cons_zero, List.set_cons_succ]
    refine skipH (i := 6) rfl (by kernel_rfl) (by kernel_rfl) (by kernel_rfl) (fun _ _ _ h => h) rfl hHeld ?_
    try simp only [Act.put, List.setIfInBounds_toArray, List.set_cons_zero, List.set_cons_succ]
    refine skipH (i := 7) rfl (by kernel_rfl) (by kernel_rfl) (by kernel_rfl) (fun _ _ _ h => h) rfl hHeld ?_
    try simp only [Act.put, List.setIfInBounds_toArray, List.set_cons_zero, List.set_cons_succ]
    refine takeH (i := 8) (v := ?_) rfl (by kernel_rfl) (by kernel_rfl) (by kernel_rfl) (fun _ _ _ h => h) rfl ?_ hHeld ?_
    rotate_left
    · intro w hS; (try dsimp only at hS); obtain ⟨hS0, hS1, hS2, hS3, hS4⟩ := hS; go_simp; first | done | (with_reducible rfl)
    try simp only [Act.put, List.setIfInBounds_toArray, List.set_cons_zero, List.set_cons_succ]
    refine takeH (i := 9) (v := ?_) rfl (by kernel_rfl) (by kernel_rfl) (by kernel_rfl) (fun _ _ _ h => h) rfl ?_ hHeld ?_
    rotate_left
    · intro w hS; (try dsimp only at hS); obtain ⟨hS0, hS1, hS2, hS3, hS4⟩ := hS; go_simp; first | done | (with_reducible rfl)
    try simp only [Act.put, List.setIfInBounds_toArray, List.set_cons_zero, List.set_cons_succ]
    refine skipH (i := 10) rfl (by kernel_rfl) (by kernel_rfl) (by kernel_rfl) (fun _ _ _ h => h) rfl hHeld ?_
    try simp only [Act.put, List.setIfInBounds_toArray, List.set_cons_zero, List.set_cons_succ]
    refine skipH (i := 11) rfl (by kernel_rfl) (by kernel_rfl) (by kernel_rfl) (fun _ _ _ h => h) rfl hHeld ?_
    try simp only [Act.put, List.setIfInBounds_toArray, List.set_cons_zero, List.set_cons_succ]
    refine skipH (i := 12) rfl (by kernel_rfl) (by kernel_rfl) (by kernel_rfl) (fun _ _ _ h => h) rfl hHeld ?_
    try simp only [Act.put, List.setIfInBounds_toArray, List.set_cons_zero, List.set_cons_succ]
    refine takeH (i := 13) (v := ?_) rfl (by kernel_rfl) (by kernel_rfl) (by kernel_rfl) (fun _ _ _ h => h) rfl ?_ hHeld ?_
    rotate_left
    · intro w hS; (try dsimp only at hS); obtain ⟨hS0, hS1, hS2, hS3, hS4⟩ := hS; go_simp; first | done | (with_reducible rfl)
    try simp only [Act.put, List.setIfInBounds_toArray, List.set_cons_zero, List.set_cons_succ]
    refine takeH (i := 14) (v := ?_) rfl (by kernel_rfl) (by kernel_rfl) (by kernel_rfl) (fun _ _ _ h => h) rfl ?_ hHeld ?_
    rotate_left
    · intro w hS; (try dsimp only at hS); obtain ⟨hS0, hS1, hS2, hS3, hS4⟩ := hS; go_simp; first | done | (with_reducible rfl)
    try simp only [Act.put, List.setIfInBounds_toArray, List.set_cons_zero, List.set_cons_succ]
    refine skipH (i := 15) rfl (by kernel_rfl) (by kernel_rfl) (by kernel_rfl) (fun _ _ _ h => h) rfl hHeld ?_
    try simp only [Act.put, List.setIfInBounds_toArray, List.set_cons_zero, List.set_cons_succ]
    refine skipH (i := 16) rfl (by kernel_rfl) (by kernel_rfl) (by kernel_rfl) (fun _ _ _ h => h) rfl hHeld ?_
    try simp only [Act.put, List.setIfInBounds_toArray, List.set_cons_zero, List.set_cons_succ]
    refine skipH (i := 19) rfl (by kernel_rfl) (by kernel_rfl) (by kernel_rfl) (fun _ _ _ h => h) rfl hHeld ?_
    try simp only [Act.put, List.setIfInBounds_toArray, List.set_cons_zero, List.set_cons_succ]
    refine skipH (i := 20) rfl (by kernel_rfl) (by kernel_rfl) (by kernel_rfl) (fun _ _ _ h => h) rfl hHeld ?_
    try simp only [Act.put, List.setIfInBounds_toArray, List.set_cons_zero, List.set_cons_succ]
    refine skipH (i := 21) rfl (by kernel_rfl) (by kernel_rfl) (by kernel_rfl) (fun _ _ _ h => h) rfl hHeld ?_
    try simp only [Act.put, List.setIfInBounds_toArray, List.set_cons_zero, List.set_cons_succ]
    refine skipH (i := 17) rfl (by kernel_rfl) (by kernel_rfl) (by kernel_rfl) (fun _ _ _ h => h) rfl hHeld ?_
    try simp only [Act.put, List.setIfInBounds_toArray, List.set_cons_zero, List.set_cons_succ]
    refine skipH (i := 18) rfl (by kernel_rfl) (by kernel_rfl) (by kernel_rfl) (fun _ _ _ h => h) rfl hHeld ?_
    try simp only [Act.put, List.setIfInBounds_toArray, List.set_cons_zero, List.set_cons_succ]
    refine skipH (i := 22) rfl (by kernel_rfl) (by kernel_rfl) (by kernel_rfl) (fun _ _ _ h => h) rfl hHeld ?_
    try simp only [Act.put, List.setIfInBounds_toArray, List.set_cons_zero, List.set_cons_succ]
    refine takeH (i := 23) (v := ?_) rfl (by kernel_rfl) (by kernel_rfl) (by kernel_rfl) (fun _ _ _ h => h) rfl ?_ hHeld ?_
    rotate_left
    · intro w hS; (try dsimp only at hS); obtain ⟨hS0, hS1, hS2, hS3, hS4⟩ := hS; go_simp; first | done | (with_reducible rfl)
    try simp only [Act.put, List.setIfInBounds_toArray, List.set_cons_zero, List.set_cons_succ]
    refine takeH (i := 24) (v := ?_) rfl (by kernel_rfl) (by kernel_rfl) (by kernel_rfl) (fun _ _ _ h => h) rfl ?_ hHeld ?_
    rotate_left
    · intro w hS; (try dsimp only at hS); obtain ⟨hS0, hS1, hS2, hS3, hS4⟩ := hS; go_simp; first | done | (with_reducible rfl)
    try simp only [Act.put, List.setIfInBounds_toArray, List.set_cons_zero, List.set_cons_succ]
    refine skipH (i := 25) rfl (by kernel_rfl) (by kernel_rfl) (by kernel_rfl) (fun _ _ _ h => h) rfl hHeld ?_
    try simp only [Act.put, List.setIfInBounds_toArray, List.set_cons_zero, List.set_cons_succ]
    refine skipH (i := 26) rfl (by kernel_rfl) (by kernel_rfl) (by kernel_rfl) (fun _ _ _ h => h) rfl hHeld ?_
    try simp only [Act.put, List.setIfInBounds_toArray, List.set_cons_zero, List.set_cons_succ]
    refine skipH (i := 27) rfl (by kernel_rfl) (by kernel_rfl) (by kernel_rfl) (fun _ _ _ h => h) rfl hHeld ?_
    try simp only [Act.put, List.setIfInBounds_toArray, List.set_cons_zero, List.set_cons_succ]
    refine skipH (i := 28) rfl (by kernel_rfl) (by kernel_rfl) (by kernel_rfl) (fun _ _ _ h => h) rfl hHeld ?_
    try simp only [Act.put, List.setIfInBounds_toArray, List.set_cons_zero, List.set_cons_succ]
    refine takeH (i := 29) (v := ?_) rfl (by kernel_rfl) (by kernel_rfl) (by kernel_rfl) (fun _ _ _ h => h) rfl ?_ hHeld ?_
    rotate_left
    · intro w hS; (try dsimp only at hS); obtain ⟨hS0, hS1, hS2, hS3, hS4⟩ := hS; go_simp; first | done | (with_reducible rfl)
    try simp only [Act.put, List.setIfInBounds_toArray, List.set_cons_zero, List.set_cons_succ]
    refine takeH (i := 30) (v := ?_) rfl (by kernel_rfl) (by kernel_rfl) (by kernel_rfl) (fun _ _ _ h => h) rfl ?_ hHeld ?_
    rotate_left
    · intro w hS; (try dsimp only at hS); obtain ⟨hS0, hS1, hS2, hS3, hS4⟩ := hS; go_simp; first | done | (with_reducible rfl)
    try simp only [Act.put, List.setIfInBounds_toArray, List.set_cons_zero, List.set_cons_succ]
    refine skipH (i := 31) rfl (by kernel_rfl) (by kernel_rfl) (by kernel_rfl) (fun _ _ _ h => h) rfl hHeld ?_
    try simp only [Act.put, List.setIfInBounds_toArray, List.set_cons_zero, List.set_cons_succ]
    refine skipH (i := 32) rfl (by kernel_rfl) (by kernel_rfl) (by kernel_rfl) (fun _ _ _ h => h) rfl hHeld ?_
    try simp only [Act.put, List.setIfInBounds_toArray, List.set_cons_zero, List.set_cons_succ]
    refine skipH (i := 33) rfl (by kernel_rfl) (by kernel_rfl) (by kernel_rfl) (fun _ _ _ h => h) rfl hHeld ?_
    try simp only [Act.put, List.setIfInBounds_toArray, List.set_cons_zero, List.set_cons_succ]
    refine skipH (i := 34) rfl (by kernel_rfl) (by kernel_rfl) (by kernel_rfl) (fun _ _ _ h => h) rfl hHeld ?_
    try simp only [Act.put, List.setIfInBounds_toArray, List.set_cons_zero, List.set_cons_succ]
    refine takeH (i := 35) (v := ?_) rfl (by kernel_rfl) (by kernel_rfl) (by kernel_rfl) (fun _ _ _ h => h) rfl ?_ hHeld ?_
    rotate_left
    · intro w hS; (try dsimp only at hS); obtain ⟨hS0, hS1, hS2, hS3, hS4⟩ := hS; go_simp; first | done | (with_reducible rfl)
    try simp only [Act.put, List.setIfInBounds_toArray, List.set_cons_zero, List.set_cons_succ]
    refine takeH (i := 36) (v := ?_) rfl (by kernel_rfl) (by kernel_rfl) (by kernel_rfl) (fun _ _ _ h => h) rfl ?_ hHeld ?_
    rotate_left
    · intro w hS; (try dsimp only at hS); obtain ⟨hS0, hS1, hS2, hS3, hS4⟩ := hS; go_simp; first | done | (with_reducible rfl)
    try simp only [Act.put, List.setIfInBounds_toArray, List.set_cons_zero, List.set_cons_succ]
    refine skipH (i := 37) rfl (by kernel_rfl) (by kernel_rfl) (by kernel_rfl) (fun _ _ _ h => h) rfl hHeld ?_
    try simp only [Act.put, List.setIfInBounds_toArray, List.set_cons_zero, List.set_cons_succ]
    refine skipH (i := 38) rfl (by kernel_rfl) (by kernel_rfl) (by kernel_rfl) (fun _ _ _ h => h) rfl hHeld ?_
    try simp only [Act.put, List.setIfInBounds_toArray, List.set_cons_zero, List.set_cons_succ]
    refine skipH (i := 39) rfl (by kernel_rfl) (by kernel_rfl) (by kernel_rfl) (fun _ _ _ h => h) rfl hHeld ?_
    try simp only [Act.put, List.setIfInBounds_toArray, List.set_cons_zero, List.set_cons_succ]
    refine takeH (i := 40) (v := ?_) rfl (by kernel_rfl) (by kernel_rfl) (by kernel_rfl) (fun _ _ _ h => h) rfl ?_ hHeld ?_
    rotate_left
    · intro w hS; (try dsimp only at hS); obtain ⟨hS0, hS1, hS2, hS3, hS4⟩ := hS; go_simp; first | done | (with_reducible rfl)
    try simp only [Act.put, List.setIfInBounds_toArray, List.set_cons_zero, List.set_cons_succ]
    refine takeH (i := 41) (v := ?_) rfl (by kernel_rfl) (by kernel_rfl) (by kernel_rfl) (fun _ _ _ h => h) rfl ?_ hHeld ?_
    rotate_left
    · intro w hS; (try dsimp only at hS); obtain ⟨hS0, hS1, hS2, hS3, hS4⟩ := hS; go_simp; first | done | (with_reducible rfl)
    try simp only [Act.put, List.setIfInBounds_toArray, List.set_cons_zero, List.set_cons_succ]
    refine skipH (i := 42) rfl (by kernel_rfl) (by kernel_rfl) (by kernel_rfl) (fun _ _ _ h => h) rfl hHeld ?_
    try simp only [Act.put, List.setIfInBounds_toArray, List.set_cons_zero, List.set_cons_succ]
    refine skipH (i := 43) rfl (by kernel_rfl) (by kernel_rfl) (by kernel_rfl) (fun _ _ _ h => h) rfl hHeld ?_
    try simp only [Act.put, List.setIfInBounds_toArray, List.set_cons_zero, List.set_cons_succ]
    refine skipH (i := 44) rfl (by kernel_rfl) (by kernel_rfl) (by kernel_rfl) (fun _ _ _ h => h) rfl hHeld ?_
    try simp only [Act.put, List.setIfInBounds_toArray, List.set_cons_zero, List.set_cons_succ]
    refine takeH (i := 45) (v := ?_) rfl (by kernel_rfl) (by kernel_rfl) (by kernel_rfl) (fun _ _ _ h => h) rfl ?_ hHeld ?_
    rotate_left
    · intro w hS; (try dsimp only at hS); obtain ⟨hS0, hS1, hS2, hS3, hS4⟩ := hS; go_simp; first | done | (with_reducible rfl)
    try simp only [Act.put, List.setIfInBounds_toArray, List.set_cons_zero, List.set_cons_succ]
    refine takeH (i := 46) (v := ?_) rfl (by kernel_rfl) (by kernel_rfl) (by kernel_rfl) (fun _ _ _ h => h) rfl ?_ hHeld ?_
    rotate_left
    · intro w hS; (try dsimp only at hS); obtain ⟨hS0, hS1, hS2, hS3, hS4⟩ := hS; go_simp; first | done | (with_reducible rfl)
    try simp only [Act.put, List.setIfInBounds_toArray, List.set_cons_zero, List.set_cons_succ]
    refine wpAnyH_done (by kernel_rfl) ?_ _
    clear hHeld
    go_wp2
    go_ret
    exact ⟨ret_bool (by first | rfl | assumption), hbA1⟩
  by_cases h1 : (decide ((c.2.1.length : Int) ≤ 8)) = true
  rotate_left
  · have h1 := Bool.eq_false_iff.2 h1
    have hF : commitOk c = false := by rw [hok]; simp only [h0, h1, Bool.and_false, Bool.false_and]
    clear hok
    rw [hF]
    go_enter Tryz.func82, Tryz.ntmps82
    go_wp2_with fail
    generalize hw0 : w.alloc (.cells #[.string (strB c.1), .slice ao c.2.1.length cap, .string (strB c.2.2.1), .int .i64 c.2.2.2.1, .string (strB c.2.2.2.2)] 64) = w0 at *
    refine wp_region_held_drew (S := fun W => W.cell? ⟨w.heap.size, 0, none⟩ = some (.string (strB c.1)) ∧ W.cell? ⟨w.heap.size, 1, none⟩ = some (.slice ao c.2.1.length cap) ∧ W.cell? ⟨w.heap.size, 2, none⟩ = some (.string (strB c.2.2.1)) ∧ W.cell? ⟨w.heap.size, 3, none⟩ = some (.int .i64 c.2.2.2.1) ∧ W.cell? ⟨w.heap.size, 4, none⟩ = some (.string (strB c.2.2.2.2))) (by kernel_rfl) (⟨k00, k01, k02, k03, k04⟩) (fun hHeld => ?_)
    refine takeH (i := 0) (v := ?_) rfl (by kernel_rfl) (by kernel_rfl) (by kernel_rfl) (fun _ _ _ h => h) rfl ?_ hHeld ?_
    rotate_left
    · intro w hS; (try dsimp only at hS); obtain ⟨hS0, hS1, hS2, hS3, hS4⟩ := hS; go_simp; first | done | (with_reducible rfl)
    try simp only [Act.put, List.setIfInBounds_toArray, List.set_cons_zero, List.set_cons_succ]
    refine takeH (i := 1) (v := ?_) rfl (by kernel_rfl) (by kernel_rfl) (by kernel_rfl) (fun _ _ _ h => h) rfl ?_ hHeld ?_
    rotate_left
    · intro w hS; (try dsimp only at hS); obtain ⟨hS0, hS1, hS2, hS3, hS4⟩ := hS; go_simp; first | done | (with_reducible rfl)
    try simp only [Act.put, List.setIfInBounds_toArray, List.set_cons_zero, List.set_cons_succ]
    refine onlyH (i := 2) rfl (by kernel_rfl) rfl (fun K hK => ?_)
    go_simp
    refine (id1_any w0.drew c.1).mono ?_
    rintro e w1 ⟨rfl, hb1⟩
    have hb1 : Below w0.heap.size w0 w1 := (Below.refl _ _).drew.trans hb1
    rw [h0]
    have y1 := (hb1.block _ (lt_of_heap y0)).trans y0
    have k10 := cell_of_row w1 w.heap.size 0 _ _ _ y1
    have k11 := cell_of_row w1 w.heap.size 1 _ _ _ y1
    have k12 := cell_of_row w1 w.heap.size 2 _ _ _ y1
    have k13 := cell_of_row w1 w.heap.size 3 _ _ _ y1
    have k14 := cell_of_row w1 w.heap.size 4 _ _ _ y1
    simp only [List.getElem?_toArray, List.getElem?_cons_zero, List.getElem?_cons_succ] at k10 k11 k12 k13 k14
    have hbA1 := hbA0.trans (hb1.mono hbA0.size)
    have hL1 := hL0.past hb1
    refine hK.out _ _ (⟨k10, k11, k12, k13, k14⟩) (fun hHeld => ?_)
    clear hK K
    try simp only [Act.put, List.setIfInBounds_toArray, List.set_cons_zero, List.set_cons_succ]
    refine takeH (i := 3) (v := ?_) rfl (by kernel_rfl) (by kernel_rfl) (by kernel_rfl) (fun _ _ _ h => h) rfl ?_ hHeld ?_
    rotate_left
    · intro w hS; (try dsimp only at hS); obtain ⟨hS0, hS1, hS2, hS3, hS4⟩ := hS; go_simp; first | done | (with_reducible rfl)
    try simp only [Act.put, List.setIfInBounds_toArray, List.set_cons_zero, List.set_cons_succ]
    refine takeH (i := 4) (v := ?_) rfl (by kernel_rfl) (by kernel_rfl) (by kernel_rfl) (fun _ _ _ h => h) rfl ?_ hHeld ?_
    rotate_left
    · intro w hS; (try dsimp only at hS); obtain ⟨hS0, hS1, hS2, hS3, hS4⟩ := hS; go_simp; first | done | (with_reducible rfl)
    try simp only [Act.put, List.setIfInBounds_toArray, List.set_cons_zero, List.set_cons_succ]
    refine takeH (i := 5) (v := ?_) rfl (by kernel_rfl) (by kernel_rfl) (by kernel_rfl) (fun _ _ _ h => h) rfl ?_ hHeld ?_
    rotate_left
    · intro w hS; (try dsimp only at hS); obtain ⟨hS0, hS1, hS2, hS3, hS4⟩ := hS; go_simp; first | done | (with_reducible rfl)
    try simp only [Act.put, List.setIfInBounds_toArray, List.set_cons_zero, List.set_cons_succ]
    refine takeH (i := 6) (v := ?_) rfl (by kernel_rfl) (by kernel_rfl) (by kernel_rfl) (fun _ _ _ h => h) rfl ?_ hHeld ?_
    rotate_left
    · intro w hS; (try dsimp only at hS); obtain ⟨hS0, hS1, hS2, hS3, hS4⟩ := hS; go_simp; first | done | (with_reducible rfl)
    try simp only [Act.put, List.setIfInBounds_toArray, List.set_cons_zero, List.set_cons_succ]
    refine takeH (i := 7) (v := ?_) rfl (by kernel_rfl) (by kernel_rfl) (by kernel_rfl) (fun _ _ _ h => h) rfl ?_ hHeld ?_
    rotate_left
    · intro w hS; (try dsimp only at hS); obtain ⟨hS0, hS1, hS2, hS3, hS4⟩ := hS; go_simp; first | done | (with_reducible rfl)
    try simp only [Act.put, List.setIfInBounds_toArray, List.set_cons_zero, List.set_cons_succ]
    refine takeH (i := 8) (v := ?_) rfl (by kernel_rfl) (by kernel_rfl) (by kernel_rfl) (fun _ _ _ h => h) rfl ?_ hHeld ?_
    rotate_left
    · intro w hS; (try dsimp only at hS); obtain ⟨hS0, hS1, hS2, hS3, hS4⟩ := hS; go_simp; first | done | (with_reducible rfl)
    try simp only [Act.put, List.setIfInBounds_toArray, List.set_cons_zero, List.set_cons_succ]
    refine takeH (i := 9) (v := ?_) rfl (by kernel_rfl) (by kernel_rfl) (by kernel_rfl) (fun _ _ _ h => h) rfl ?_ hHeld ?_
    rotate_left
    · intro w hS; (try dsimp only at hS); obtain ⟨hS0, hS1, hS2, hS3, hS4⟩ := hS; go_simp; first | done | (with_reducible rfl)
    try simp only [Act.put, List.setIfInBounds_toArray, List.set_cons_zero, List.set_cons_succ]
    refine skipH (i := 10) rfl (by kernel_rfl) (by kernel_rfl) (by kernel_rfl) (fun _ _ _ h => h) rfl hHeld ?_
    try simp only [Act.put, List.setIfInBounds_toArray, List.set_cons_zero, List.set_cons_succ]
    refine skipH (i := 11) rfl (by kernel_rfl) (by kernel_rfl) (by kernel_rfl) (fun _ _ _ h => h) rfl hHeld ?_
    try simp only [Act.put, List.setIfInBounds_toArray, List.set_cons_zero, List.set_cons_succ]
    refine skipH (i := 12) rfl (by kernel_rfl) (by kernel_rfl) (by kernel_rfl) (fun _ _ _ h => h) rfl hHeld ?_
    try simp only [Act.put, List.setIfInBounds_toArray, List.set_cons_zero, List.set_cons_succ]
    refine takeH (i := 13) (v := ?_) rfl (by kernel_rfl) (by kernel_rfl) (by kernel_rfl) (fun _ _ _ h => h) rfl ?_ hHeld ?_
    rotate_left
    · intro w hS; (try dsimp only at hS); obtain ⟨hS0, hS1, hS2, hS3, hS4⟩ := hS; go_simp; first | done | (with_reducible rfl)
    try simp only [Act.put, List.setIfInBounds_toArray, List.set_cons_zero, List.set_cons_succ]
    refine takeH (i := 14) (v := ?_) rfl (by kernel_rfl) (by kernel_rfl) (by kernel_rfl) (fun _ _ _ h => h) rfl ?_ hHeld ?_
    rotate_left
    · intro w hS; (try dsimp only at hS); obtain ⟨hS0, hS1, hS2, hS3, hS4⟩ := hS; go_simp; first | done | (with_reducible rfl)
    try simp only [Act.put, List.setIfInBounds_toArray, List.set_cons_zero, List.set_cons_succ]
    refine skipH (i := 15) rfl (by kernel_rfl) (by kernel_rfl) (by kernel_rfl) (fun _ _ _ h => h) rfl hHeld ?_
    try simp only [Act.put, List.setIfInBounds_toArray, List.set_cons_zero, List.set_cons_succ]
    refine skipH (i := 16) rfl (by kernel_rfl) (by kernel_rfl) (by kernel_rfl) (fun _ _ _ h => h) rfl hHeld ?_
    try simp only [Act.put, List.setIfInBounds_toArray, List.set_cons_zero, List.set_cons_succ]
    refine skipH (i := 19) rfl (by kernel_rfl) (by kernel_rfl) (by kernel_rfl) (fun _ _ _ h => h) rfl hHeld ?_
    try simp only [Act.put, List.setIfInBounds_toArray, List.set_cons_zero, List.set_cons_succ]
    refine skipH (i := 20) rfl (by kernel_rfl) (by kernel_rfl) (by kernel_rfl) (fun _ _ _ h => h) rfl hHeld ?_
    try simp only [Act.put, List.setIfInBounds_toArray, List.set_cons_zero, List.set_cons_succ]
    refine skipH (i := 21) rfl (by kernel_rfl) (by kernel_rfl) (by kernel_rfl) (fun _ _ _ h => h) rfl hHeld ?_
    try simp only [Act.put, List.setIfInBounds_toArray, List.set_cons_zero, List.set_cons_succ]
    refine skipH (i := 17) rfl (by kernel_rfl) (by kernel_rfl) (by kernel_rfl) (fun _ _ _ h => h) rfl hHeld ?_
    try simp only [Act.put, List.setIfInBounds_toArray, List.set_cons_zero, List.set_cons_succ]
    refine skipH (i := 18) rfl (by kernel_rfl) (by kernel_rfl) (by kernel_rfl) (fun _ _ _ h => h) rfl hHeld ?_
    try simp only [Act.put, List.setIfInBounds_toArray, List.set_cons_zero, List.set_cons_succ]
    refine skipH (i := 22) rfl (by kernel_rfl) (by kernel_rfl) (by kernel_rfl) (fun _ _ _ h => h) rfl hHeld ?_
    try simp only [Act.put, List.setIfInBounds_toArray, List.set_cons_zero, List.set_cons_succ]
    refine takeH (i := 23) (v := ?_) rfl (by kernel_rfl) (by kernel_rfl) (by kernel_rfl) (fun _ _ _ h => h) rfl ?_ hHeld ?_
    rotate_left
    · intro w hS; (try dsimp only at hS); obtain ⟨hS0, hS1, hS2, hS3, hS4⟩ := hS; go_simp; first | done | (with_reducible rfl)
    try simp only [Act.put, List.setIfInBounds_toArray, List.set_cons_zero, List.set_cons_succ]
    refine takeH (i := 24) (v := ?_) rfl (by kernel_rfl) (by kernel_rfl) (by kernel_rfl) (fun _ _ _ h => h) rfl ?_ hHeld ?_
    rotate_left
    · intro w hS; (try dsimp only at hS); obtain ⟨hS0, hS1, hS2, hS3, hS4⟩ := hS; go_simp; first | done | (with_reducible rfl)
    try simp only [Act.put, List.setIfInBounds_toArray, List.set_cons_zero, List.set_cons_succ]
    refine skipH (i := 25) rfl (by kernel_rfl) (by kernel_rfl) (by kernel_rfl) (fun _ _ _ h => h) rfl hHeld ?_
    try simp only [Act.put, List.setIfInBounds_toArray, List.set_cons_zero, List.set_cons_succ]
    refine skipH (i := 26) rfl (by kernel_rfl) (by kernel_rfl) (by kernel_rfl) (fun _ _ _ h => h) rfl hHeld ?_
    try simp only [Act.put, List.setIfInBounds_toArray, List.set_cons_zero, List.set_cons_succ]
    refine skipH (i := 27) rfl (by kernel_rfl) (by kernel_rfl) (by kernel_rfl) (fun _ _ _ h => h) rfl hHeld ?_
    try simp only [Act.put, List.setIfInBounds_toArray, List.set_cons_zero, List.set_cons_succ]
    refine skipH (i := 28) rfl (by kernel_rfl) (by kernel_rfl) (by kernel_rfl) (fun _ _ _ h => h) rfl hHeld ?_
    try simp only [Act.put, List.setIfInBounds_toArray, List.set_cons_zero, List.set_cons_succ]
    refine takeH (i := 29) (v := ?_) rfl (by kernel_rfl) (by kernel_rfl) (by kernel_rfl) (fun _ _ _ h => h) rfl ?_ hHeld ?_
    rotate_left
    · intro w hS; (try dsimp only at hS); obtain ⟨hS0, hS1, hS2, hS3, hS4⟩ := hS; go_simp; first | done | (with_reducible rfl)
    try simp only [Act.put, List.setIfInBounds_toArray, List.set_cons_zero, List.set_cons_succ]
    refine takeH (i := 30) (v := ?_) rfl (by kernel_rfl) (by kernel_rfl) (by kernel_rfl) (fun _ _ _ h => h) rfl ?_ hHeld ?_
    rotate_left
    · intro w hS; (try dsimp only at hS); obtain ⟨hS0, hS1, hS2, hS3, hS4⟩ := hS; go_simp; first | done | (with_reducible rfl)
    try simp only [Act.put, List.setIfInBounds_toArray, List.set_cons_zero, List.set_cons_succ]
    refine skipH (i := 31) rfl (by kernel_rfl) (by kernel_rfl) (by kernel_rfl) (fun _ _ _ h => h) rfl hHeld ?_
    try simp only [Act.put, List.setIfInBounds_toArray, List.set_cons_zero, List.set_cons_succ]
    refine skipH (i := 32) rfl (by kernel_rfl) (by kernel_rfl) (by kernel_rfl) (fun _ _ _ h => h) rfl hHeld ?_
    try simp only [Act.put, List.setIfInBounds_toArray, List.set_cons_zero, List.set_cons_succ]
    refine skipH (i := 33) rfl (by kernel_rfl) (by kernel_rfl) (by kernel_rfl) (fun _ _ _ h => h) rfl hHeld ?_
    try simp only [Act.put, List.setIfInBounds_toArray, List.set_cons_zero, List.set_cons_succ]
    refine skipH (i := 34) rfl (by kernel_rfl) (by kernel_rfl) (by kernel_rfl) (fun _ _ _ h => h) rfl hHeld ?_
    try simp only [Act.put, List.setIfInBounds_toArray, List.set_cons_zero, List.set_cons_succ]
    refine takeH (i := 35) (v := ?_) rfl (by kernel_rfl) (by kernel_rfl) (by kernel_rfl) (fun _ _ _ h => h) rfl ?_ hHeld ?_
    rotate_left
    · intro w hS; (try dsimp only at hS); obtain ⟨hS0, hS1, hS2, hS3, hS4⟩ := hS; go_simp; first | done | (with_reducible rfl)
    try simp only [Act.put, List.setIfInBounds_toArray, List.set_cons_zero, List.set_cons_succ]
    refine takeH (i := 36) (v := ?_) rfl (by kernel_rfl) (by kernel_rfl) (by kernel_rfl) (fun _ _ _ h => h) rfl ?_ hHeld ?_
    rotate_left
    · intro w hS; (try dsimp only at hS); obtain ⟨hS0, hS1, hS2, hS3, hS4⟩ := hS; go_simp; first | done | (with_reducible rfl)
    try simp only [Act.put, List.setIfInBounds_toArray, List.set_cons_zero, List.set_cons_succ]
    refine skipH (i := 37) rfl (by kernel_rfl) (by kernel_rfl) (by kernel_rfl) (fun _ _ _ h => h) rfl hHeld ?_
    try simp only [Act.put, List.setIfInBounds_toArray, List.set_cons_zero, List.set_cons_succ]
    refine skipH (i := 38) rfl (by kernel_rfl) (by kernel_rfl) (by kernel_rfl) (fun _ _ _ h => h) rfl hHeld ?_
    try simp only [Act.put, List.setIfInBounds_toArray, List.set_cons_zero, List.set_cons_succ]
    refine skipH (i := 39) rfl (by kernel_rfl) (by kernel_rfl) (by kernel_rfl) (fun _ _ _ h => h) rfl hHeld ?_
    try simp only [Act.put, List.setIfInBounds_toArray, List.set_cons_zero, List.set_cons_succ]
    refine takeH (i := 40) (v := ?_) rfl (by kernel_rfl) (by kernel_rfl) (by kernel_rfl) (fun _ _ _ h => h) rfl ?_ hHeld ?_
    rotate_left
    · intro w hS; (try dsimp only at hS); obtain ⟨hS0, hS1, hS2, hS3, hS4⟩ := hS; go_simp; first | done | (with_reducible rfl)
    try simp only [Act.put, List.setIfInBounds_toArray, List.set_cons_zero, List.set_cons_succ]
    refine takeH (i := 41) (v := ?_) rfl (by kernel_rfl) (by kernel_rfl) (by kernel_rfl) (fun _ _ _ h => h) rfl ?_ hHeld ?_
    rotate_left
    · intro w hS; (try dsimp only at hS); obtain ⟨hS0, hS1, hS2, hS3, hS4⟩ := hS; go_simp; first | done | (with_reducible rfl)
    try simp only [Act.put, List.setIfInBounds_toArray, List.set_cons_zero, List.set_cons_succ]
    refine skipH (i := 42) rfl (by kernel_rfl) (by kernel_rfl) (by kernel_rfl) (fun _ _ _ h => h) rfl hHeld ?_
    try simp only [Act.put, List.setIfInBounds_toArray, List.set_cons_zero, List.set_cons_succ]
    refine skipH (i := 43) rfl (by kernel_rfl) (by kernel_rfl) (by kernel_rfl) (fun _ _ _ h => h) rfl hHeld ?_
    try simp only [Act.put, List.setIfInBounds_toArray, List.set_cons_zero, List.set_cons_succ]
    refine skipH (i := 44) rfl (by kernel_rfl) (by kernel_rfl) (by kernel_rfl) (fun _ _ _ h => h) rfl hHeld ?_
    try simp only [Act.put, List.setIfInBounds_toArray, List.set_cons_zero, List.set_cons_succ]
    refine takeH (i := 45) (v := ?_) rfl (by kernel_rfl) (by kernel_rfl) (by kernel_rfl) (fun _ _ _ h => h) rfl ?_ hHeld ?_
    rotate_left
    · intro w hS; (try dsimp only at hS); obtain ⟨hS0, hS1, hS2, hS3, hS4⟩ := hS; go_simp; first | done | (with_reducible rfl)
    try simp only [Act.put, List.setIfInBounds_toArray, List.set_cons_zero, List.set_cons_succ]
    refine takeH (i := 46) (v := ?_) rfl (by kernel_rfl) (by kernel_rfl) (by kernel_rfl) (fun _ _ _ h => h) rfl ?_ hHeld ?_
    rotate_left
    · intro w hS; (try dsimp only at hS); obtain ⟨hS0, hS1, hS2, hS3, hS4⟩ := hS; go_simp; first | done | (with_reducible rfl)
    try simp only [Act.put, List.setIfInBounds_toArray, List.set_cons_zero, List.set_cons_succ]
    refine wpAnyH_done (by kernel_rfl) ?_ _
    clear hHeld
    go_wp2
    go_ret
    exact ⟨ret_bool (by first | rfl | assumption), hbA1⟩
  by_cases h2 : (c.2.1.all isIdB) = true
  rotate_left
  · have h2 := Bool.eq_false_iff.2 h2
    have hF : commitOk c = false := by rw [hok]; simp only [h0, h1, h2, Bool.and_false, Bool.false_and, Bool.and_true]
    clear hok
    rw [hF]
    go_enter Tryz.func82, Tryz.ntmps82
    go_wp2_with fail
    generalize hw0 : w.alloc (.cells #[.string (strB c.1), .slice ao c.2.1.length cap, .string (strB c.2.2.1), .int .i64 c.2.2.2.1, .string (strB c.2.2.2.2)] 64) = w0 at *
    refine wp_region_held_drew (S := fun W => W.cell? ⟨w.heap.size, 0, none⟩ = some (.string (strB c.1)) ∧ W.cell? ⟨w.heap.size, 1, none⟩ = some (.slice ao c.2.1.length cap) ∧ W.cell? ⟨w.heap.size, 2, none⟩ = some (.string (strB c.2.2.1)) ∧ W.cell? ⟨w.heap.size, 3, none⟩ = some (.int .i64 c.2.2.2.1) ∧ W.cell? ⟨w.heap.size, 4, none⟩ = some (.string (strB c.2.2.2.2))) (by kernel_rfl) (⟨k00, k01, k02, k03, k04⟩) (fun hHeld => ?_)
    refine takeH (i := 0) (v := ?_) rfl (by kernel_rfl) (by kernel_rfl) (by kernel_rfl) (fun _ _ _ h => h) rfl ?_ hHeld ?_
    rotate_left
    · intro w hS; (try dsimp only at hS); obtain ⟨hS0, hS1, hS2, hS3, hS4⟩ := hS; go_simp; first | done | (with_reducible rfl)
    try simp only [Act.put, List.setIfInBounds_toArray, List.set_cons_zero, List.set_cons_succ]
    refine takeH (i := 1) (v := ?_) rfl (by kernel_rfl) (by kernel_rfl) (by kernel_rfl) (fun _ _ _ h => h) rfl ?_ hHeld ?_
    rotate_left
    · intro w hS; (try dsimp only at hS); obtain ⟨hS0, hS1, hS2, hS3, hS4⟩ := hS; go_simp; first | done | (with_reducible rfl)
    try simp only [Act.put, List.setIfInBounds_toArray, List.set_cons_zero, List.set_cons_succ]
    refine onlyH (i := 2) rfl (by kernel_rfl) rfl (fun K hK => ?_)
    go_simp
    refine (id1_any w0.drew c.1).mono ?_
    rintro e w1 ⟨rfl, hb1⟩
    have hb1 : Below w0.heap.size w0 w1 := (Below.refl _ _).drew.trans hb1
    rw [h0]
    have y1 := (hb1.block _ (lt_of_heap y0)).trans y0
    have k10 := cell_of_row w1 w.heap.size 0 _ _ _ y1
    have k11 := cell_of_row w1 w.heap.size 1 _ _ _ y1
    have k12 := cell_of_row w1 w.heap.size 2 _ _ _ y1
    have k13 := cell_of_row w1 w.heap.size 3 _ _ _ y1
    have k14 := cell_of_row w1 w.heap.size 4 _ _ _ y1
    simp only [List.getElem?_toArray, List.getElem?_cons_zero, List.getElem?_cons_succ] at k10 k11 k12 k13 k14
    have hbA1 := hbA0.trans (hb1.mono hbA0.size)
    have hL1 := hL0.past hb1
    refine hK.out _ _ (⟨k10, k11, k12, k13, k14⟩) (fun hHeld => ?_)
    clear hK K
    try simp only [Act.put, List.setIfInBounds_toArray, List.set_cons_zero, List.set_cons_succ]
    refine takeH (i := 3) (v := ?_) rfl (by kernel_rfl) (by kernel_rfl) (by kernel_rfl) (fun _ _ _ h => h) rfl ?_ hHeld ?_
    rotate_left
    · intro w hS; (try dsimp only at hS); obtain ⟨hS0, hS1, hS2, hS3, hS4⟩ := hS; go_simp; first | done | (with_reducible rfl)
    try simp only [Act.put, List.setIfInBounds_toArray, List.set_cons_zero, List.set_cons_succ]
    refine takeH (i := 4) (v := ?_) rfl (by kernel_rfl) (by kernel_rfl) (by kernel_rfl) (fun _ _ _ h => h) rfl ?_ hHeld ?_
    rotate_left
    · intro w hS; (try dsimp only at hS); obtain ⟨hS0, hS1, hS2, hS3, hS4⟩ := hS; go_simp; first | done | (with_reducible rfl)
    try simp only [Act.put, List.setIfInBounds_toArray, List.set_cons_zero, List.set_cons_succ]
    refine takeH (i := 5) (v := ?_) rfl (by kernel_rfl) (by kernel_rfl) (by kernel_rfl) (fun _ _ _ h => h) rfl ?_ hHeld ?_
    rotate_left
    · intro w hS; (try dsimp only at hS); obtain ⟨hS0, hS1, hS2, hS3, hS4⟩ := hS; go_simp; first | done | (with_reducible rfl)
    try simp only [Act.put, List.setIfInBounds_toArray, List.set_cons_zero, List.set_cons_succ]
    refine takeH (i := 6) (v := ?_) rfl (by kernel_rfl) (by kernel_rfl) (by kernel_rfl) (fun _ _ _ h => h) rfl ?_ hHeld ?_
    rotate_left
    · intro w hS; (try dsimp only at hS); obtain ⟨hS0, hS1, hS2, hS3, hS4⟩ := hS; go_simp; first | done | (with_reducible rfl)
    try simp only [Act.put, List.setIfInBounds_toArray, List.set_cons_zero, List.set_cons_succ]
    refine takeH (i := 7) (v := ?_) rfl (by kernel_rfl) (by kernel_rfl) (by kernel_rfl) (fun _ _ _ h => h) rfl ?_ hHeld ?_
    rotate_left
    · intro w hS; (try dsimp only at hS); obtain ⟨hS0, hS1, hS2, hS3, hS4⟩ := hS; go_simp; first | done | (with_reducible rfl)
    try simp only [Act.put, List.setIfInBounds_toArray, List.set_cons_zero, List.set_cons_succ]
    refine takeH (i := 8) (v := ?_) rfl (by kernel_rfl) (by kernel_rfl) (by kernel_rfl) (fun _ _ _ h => h) rfl ?_ hHeld ?_
    rotate_left
    · intro w hS; (try dsimp only at hS); obtain ⟨hS0, hS1, hS2, hS3, hS4⟩ := hS; go_simp; first | done | (with_reducible rfl)
    try simp only [Act.put, List.setIfInBounds_toArray, List.set_cons_zero, List.set_cons_succ]
    refine takeH (i := 9) (v := ?_) rfl (by kernel_rfl) (by kernel_rfl) (by kernel_rfl) (fun _ _ _ h => h) rfl ?_ hHeld ?_
    rotate_left
    · intro w hS; (try dsimp only at hS); obtain ⟨hS0, hS1, hS2, hS3, hS4⟩ := hS; go_simp; first | done | (with_reducible rfl)
    try simp only [Act.put, List.setIfInBounds_toArray, List.set_cons_zero, List.set_cons_succ]
    refine takeH (i := 10) (v := ?_) rfl (by kernel_rfl) (by kernel_rfl) (by kernel_rfl) (fun _ _ _ h => h) rfl ?_ hHeld ?_
    rotate_left
    · intro w hS; (try dsimp only at hS); obtain ⟨hS0, hS1, hS2, hS3, hS4⟩ := hS; go_simp; first | done | (with_reducible rfl)
    try simp only [Act.put, List.setIfInBounds_toArray, List.set_cons_zero, List.set_cons_succ]
    refine takeH (i := 11) (v := ?_) rfl (by kernel_rfl) (by kernel_rfl) (by kernel_rfl) (fun _ _ _ h => h) rfl ?_ hHeld ?_
    rotate_left
    · intro w hS; (try dsimp only at hS); obtain ⟨hS0, hS1, hS2, hS3, hS4⟩ := hS; go_simp; first | done | (with_reducible rfl)
    try simp only [Act.put, List.setIfInBounds_toArray, List.set_cons_zero, List.set_cons_succ]
    refine onlyH (i := 12) rfl (by kernel_rfl) rfl (fun K hK => ?_)
    go_simp
    refine (eachIds_any w1 _ c.2.1 hL1).mono ?_
    rintro e w2 ⟨rfl, hb2⟩
    rw [h2]
    have y2 := (hb2.block _ (lt_of_heap y1)).trans y1
    have k20 := cell_of_row w2 w.heap.size 0 _ _ _ y2
    have k21 := cell_of_row w2 w.heap.size 1 _ _ _ y2
    have k22 := cell_of_row w2 w.heap.size 2 _ _ _ y2
    have k23 := cell_of_row w2 w.heap.size 3 _ _ _ y2
    have k24 := cell_of_row w2 w.heap.size 4 _ _ _ y2
    simp only [List.getElem?_toArray, List.getElem?_cons_zero, List.getElem?_cons_succ] at k20 k21 k22 k23 k24
    have hbA2 := hbA1.trans (hb2.mono hbA1.size)
    have hL2 := hL1.past hb2
    refine hK.out _ _ (⟨k20, k21, k22, k23, k24⟩) (fun hHeld => ?_)
    clear hK K
    try simp only [Act.put, List.setIfInBounds_toArray, List.set_cons_zero, List.set_cons_succ]
    refine takeH (i := 13) (v := ?_) rfl (by kernel_rfl) (by kernel_rfl) (by kernel_rfl) (fun _ _ _ h => h) rfl ?_ hHeld ?_
    rotate_left
    · intro w hS; (try dsimp only at hS); obtain ⟨hS0, hS1, hS2, hS3, hS4⟩ := hS; go_simp; first | done | (with_reducible rfl)
    try simp only [Act.put, List.setIfInBounds_toArray, List.set_cons_zero, List.set_cons_succ]
    refine takeH (i := 14) (v := ?_) rfl (by kernel_rfl) (by kernel_rfl) (by kernel_rfl) (fun _ _ _ h => h) rfl ?_ hHeld ?_
    rotate_left
    · intro w hS; (try dsimp only at hS); obtain ⟨hS0, hS1, hS2, hS3, hS4⟩ := hS; go_simp; first | done | (with_reducible rfl)
    try simp only [Act.put, List.setIfInBounds_toArray, List.set_cons_zero, List.set_cons_succ]
    refine skipH (i := 15) rfl (by kernel_rfl) (by kernel_rfl) (by kernel_rfl) (fun _ _ _ h => h) rfl hHeld ?_
    try simp only [Act.put, List.setIfInBounds_toArray, List.set_cons_zero, List.set_cons_succ]
    refine skipH (i := 16) rfl (by kernel_rfl) (by kernel_rfl) (by kernel_rfl) (fun _ _ _ h => h) rfl hHeld ?_
    try simp only [Act.put, List.setIfInBounds_toArray, List.set_cons_zero, List.set_cons_succ]
    refine skipH (i := 19) rfl (by kernel_rfl) (by kernel_rfl) (by kernel_rfl) (fun _ _ _ h => h) rfl hHeld ?_
    try simp only [Act.put, List.setIfInBounds_toArray, List.set_cons_zero, List.set_cons_succ]
    refine skipH (i := 20) rfl (by kernel_rfl) (by kernel_rfl) (by kernel_rfl) (fun _ _ _ h => h) rfl hHeld ?_
    try simp only [Act.put, List.setIfInBounds_toArray, List.set_cons_zero, List.set_cons_succ]
    refine skipH (i := 21) rfl (by kernel_rfl) (by kernel_rfl) (by kernel_rfl) (fun _ _ _ h => h) rfl hHeld ?_
    try simp only [Act.put, List.setIfInBounds_toArray, List.set_cons_zero, List.set_cons_succ]
    refine skipH (i := 17) rfl (by kernel_rfl) (by kernel_rfl) (by kernel_rfl) (fun _ _ _ h => h) rfl hHeld ?_
    try simp only [Act.put, List.setIfInBounds_toArray, List.set_cons_zero, List.set_cons_succ]
    refine skipH (i := 18) rfl (by kernel_rfl) (by kernel_rfl) (by kernel_rfl) (fun _ _ _ h => h) rfl hHeld ?_
    try simp only [Act.put, List.setIfInBounds_toArray, List.set_cons_zero, List.set_cons_succ]
    refine skipH (i := 22) rfl (by kernel_rfl) (by kernel_rfl) (by kernel_rfl) (fun _ _ _ h => h) rfl hHeld ?_
    try simp only [Act.put, List.setIfInBounds_toArray, List.set_cons_zero, List.set_cons_succ]
    refine takeH (i := 23) (v := ?_) rfl (by kernel_rfl) (by kernel_rfl) (by kernel_rfl) (fun _ _ _ h => h) rfl ?_ hHeld ?_
    rotate_left
    · intro w hS; (try dsimp only at hS); obtain ⟨hS0, hS1, hS2, hS3, hS4⟩ := hS; go_simp; first | done | (with_reducible rfl)
    try simp only [Act.put, List.setIfInBounds_toArray, List.set_cons_zero, List.set_cons_succ]
    refine takeH (i := 24) (v := ?_) rfl (by kernel_rfl) (by kernel_rfl) (by kernel_rfl) (fun _ _ _ h => h) rfl ?_ hHeld ?_
    rotate_left
    · intro w hS; (try dsimp only at hS); obtain ⟨hS0, hS1, hS2, hS3, hS4⟩ := hS; go_simp; first | done | (with_reducible rfl)
    try simp only [Act.put, List.setIfInBounds_toArray, List.set_cons_zero, List.set_cons_succ]
    refine skipH (i := 25) rfl (by kernel_rfl) (by kernel_rfl) (by kernel_rfl) (fun _ _ _ h => h) rfl hHeld ?_
    try simp only [Act.put, List.setIfInBounds_toArray, List.set_cons_zero, List.set_cons_succ]
    refine skipH (i := 26) rfl (by kernel_rfl) (by kernel_rfl) (by kernel_rfl) (fun _ _ _ h => h) rfl hHeld ?_
    try simp only [Act.put, List.setIfInBounds_toArray, List.set_cons_zero, List.set_cons_succ]
    refine skipH (i := 27) rfl (by kernel_rfl) (by kernel_rfl) (by kernel_rfl) (fun _ _ _ h => h) rfl hHeld ?_
    try simp only [Act.put, List.setIfInBounds_toArray, List.set_cons_zero, List.set_cons_succ]
    refine skipH (i := 28) rfl (by kernel_rfl) (by kernel_rfl) (by kernel_rfl) (fun _ _ _ h => h) rfl hHeld ?_
    try simp only [Act.put, List.setIfInBounds_toArray, List.set_cons_zero, List.set_cons_succ]
    refine takeH (i := 29) (v := ?_) rfl (by kernel_rfl) (by kernel_rfl) (by kernel_rfl) (fun _ _ _ h => h) rfl ?_ hHeld ?_
    rotate_left
    · intro w hS; (try dsimp only at hS); obtain ⟨hS0, hS1, hS2, hS3, hS4⟩ := hS; go_simp; first | done | (with_reducible rfl)
    try simp only [Act.put, List.setIfInBounds_toArray, List.set_cons_zero, List.set_cons_succ]
    refine takeH (i := 30) (v := ?_) rfl (by kernel_rfl) (by kernel_rfl) (by kernel_rfl) (fun _ _ _ h => h) rfl ?_ hHeld ?_
    rotate_left
    · intro w hS; (try dsimp only at hS); obtain ⟨hS0, hS1, hS2, hS3, hS4⟩ := hS; go_simp; first | done | (with_reducible rfl)
    try simp only [Act.put, List.setIfInBounds_toArray, List.set_cons_zero, List.set_cons_succ]
    refine skipH (i := 31) rfl (by kernel_rfl) (by kernel_rfl) (by kernel_rfl) (fun _ _ _ h => h) rfl hHeld ?_
    try simp only [Act.put, List.setIfInBounds_toArray, List.set_cons_zero, List.set_cons_succ]
    refine skipH (i := 32) rfl (by kernel_rfl) (by kernel_rfl) (by kernel_rfl) (fun _ _ _ h => h) rfl hHeld ?_
    try simp only [Act.put, List.setIfInBounds_toArray, List.set_cons_zero, List.set_cons_succ]
    refine skipH (i := 33) rfl (by kernel_rfl) (by kernel_rfl) (by kernel_rfl) (fun _ _ _ h => h) rfl hHeld ?_
    try simp only [Act.put, List.setIfInBounds_toArray, List.set_cons_zero, List.set_cons_succ]
    refine skipH (i := 34) rfl (by kernel_rfl) (by kernel_rfl) (by kernel_rfl) (fun _ _ _ h => h) rfl hHeld ?_
    try simp only [Act.put, List.setIfInBounds_toArray, List.set_cons_zero, List.set_cons_succ]
    refine takeH (i := 35) (v := ?_) rfl (by kernel_rfl) (by kernel_rfl) (by kernel_rfl) (fun _ _ _ h => h) rfl ?_ hHeld ?_
    rotate_left
    · intro w hS; (try dsimp only at hS); obtain ⟨hS0, hS1, hS2, hS3, hS4⟩ := hS; go_simp; first | done | (with_reducible rfl)
    try simp only [Act.put, List.setIfInBounds_toArray, List.set_cons_zero, List.set_cons_succ]
    refine takeH (i := 36) (v := ?_) rfl (by kernel_rfl) (by kernel_rfl) (by kernel_rfl) (fun _ _ _ h => h) rfl ?_ hHeld ?_
    rotate_left
    · intro w hS; (try dsimp only at hS); obtain ⟨hS0, hS1, hS2, hS3, hS4⟩ := hS; go_simp; first | done | (with_reducible rfl)
    try simp only [Act.put, List.setIfInBounds_toArray, List.set_cons_zero, List.set_cons_succ]
    refine skipH (i := 37) rfl (by kernel_rfl) (by kernel_rfl) (by kernel_rfl) (fun _ _ _ h => h) rfl hHeld ?_
    try simp only [Act.put, List.setIfInBounds_toArray, List.set_cons_zero, List.set_cons_succ]
    refine skipH (i := 38) rfl (by kernel_rfl) (by kernel_rfl) (by kernel_rfl) (fun _ _ _ h => h) rfl hHeld ?_
    try simp only [Act.put, List.setIfInBounds_toArray, List.set_cons_zero, List.set_cons_succ]
    refine skipH (i := 39) rfl (by kernel_rfl) (by kernel_rfl) (by kernel_rfl) (fun _ _ _ h => h) rfl hHeld ?_
    try simp only [Act.put, List.setIfInBounds_toArray, List.set_cons_zero, List.set_cons_succ]
    refine takeH (i := 40) (v := ?_) rfl (by kernel_rfl) (by kernel_rfl) (by kernel_rfl) (fun _ _ _ h => h) rfl ?_ hHeld ?_
    rotate_left
    · intro w hS; (try dsimp only at hS); obtain ⟨hS0, hS1, hS2, hS3, hS4⟩ := hS; go_simp; first | done | (with_reducible rfl)
    try simp only [Act.put, List.setIfInBounds_toArray, List.set_cons_zero, List.set_cons_succ]
    refine takeH (i := 41) (v := ?_) rfl (by kernel_rfl) (by kernel_rfl) (by kernel_rfl) (fun _ _ _ h => h) rfl ?_ hHeld ?_
    rotate_left
    · intro w hS; (try dsimp only at hS); obtain ⟨hS0, hS1, hS2, hS3, hS4⟩ := hS; go_simp; first | done | (with_reducible rfl)
    try simp only [Act.put, List.setIfInBounds_toArray, List.set_cons_zero, List.set_cons_succ]
    refine skipH (i := 42) rfl (by kernel_rfl) (by kernel_rfl) (by kernel_rfl) (fun _ _ _ h => h) rfl hHeld ?_
    try simp only [Act.put, List.setIfInBounds_toArray, List.set_cons_zero, List.set_cons_succ]
    refine skipH (i := 43) rfl (by kernel_rfl) (by kernel_rfl) (by kernel_rfl) (fun _ _ _ h => h) rfl hHeld ?_
    try simp only [Act.put, List.setIfInBounds_toArray, List.set_cons_zero, List.set_cons_succ]
    refine skipH (i := 44) rfl (by kernel_rfl) (by kernel_rfl) (by kernel_rfl) (fun _ _ _ h => h) rfl hHeld ?_
    try simp only [Act.put, List.setIfInBounds_toArray, List.set_cons_zero, List.set_cons_succ]
    refine takeH (i := 45) (v := ?_) rfl (by kernel_rfl) (by kernel_rfl) (by kernel_rfl) (fun _ _ _ h => h) rfl ?_ hHeld ?_
    rotate_left
    · intro w hS; (try dsimp only at hS); obtain ⟨hS0, hS1, hS2, hS3, hS4⟩ := hS; go_simp; first | done | (with_reducible rfl)
    try simp only [Act.put, List.setIfInBounds_toArray, List.set_cons_zero, List.set_cons_succ]
    refine takeH (i := 46) (v := ?_) rfl (by kernel_rfl) (by kernel_rfl) (by kernel_rfl) (fun _ _ _ h => h) rfl ?_ hHeld ?_
    rotate_left
    · intro w hS; (try dsimp only at hS); obtain ⟨hS0, hS1, hS2, hS3, hS4⟩ := hS; go_simp; first | done | (with_reducible rfl)
    try simp only [Act.put, List.setIfInBounds_toArray, List.set_cons_zero, List.set_cons_succ]
    refine wpAnyH_done (by kernel_rfl) ?_ _
    clear hHeld
    go_wp2
    go_ret
    exact ⟨ret_bool (by first | rfl | assumption), hbA2⟩
  by_cases h3 : (((once [] c.2.1).length : Int) == (c.2.1.length : Int)) = true
  rotate_left
  · have h3 := Bool.eq_false_iff.2 h3
    have hF : commitOk c = false := by rw [hok]; simp only [h0, h1, h2, h3, Bool.and_false, Bool.false_and, Bool.and_true]
    clear hok
    rw [hF]
    go_enter Tryz.func82, Tryz.ntmps82
    go_wp2_with fail
    generalize hw0 : w.alloc (.cells #[.string (strB c.1), .slice ao c.2.1.length cap, .string (strB c.2.2.1), .int .i64 c.2.2.2.1, .string (strB c.2.2.2.2)] 64) = w0 at *
    refine wp_region_held_drew (S := fun W => W.cell? ⟨w.heap.size, 0, none⟩ = some (.string (strB c.1)) ∧ W.cell? ⟨w.heap.size, 1, none⟩ = some (.slice ao c.2.1.length cap) ∧ W.cell? ⟨w.heap.size, 2, none⟩ = some (.string (strB c.2.2.1)) ∧ W.cell? ⟨w.heap.size, 3, none⟩ = some (.int .i64 c.2.2.2.1) ∧ W.cell? ⟨w.heap.size, 4, none⟩ = some (.string (strB c.2.2.2.2))) (by kernel_rfl) (⟨k00, k01, k02, k03, k04⟩) (fun hHeld => ?_)
    refine takeH (i := 0) (v := ?_) rfl (by kernel_rfl) (by kernel_rfl) (by kernel_rfl) (fun _ _ _ h => h) rfl ?_ hHeld ?_
    rotate_left
    · intro w hS; (try dsimp only at hS); obtain ⟨hS0, hS1, hS2, hS3, hS4⟩ := hS; go_simp; first | done | (with_reducible rfl)
    try simp only [Act.put, List.setIfInBounds_toArray, List.set_cons_zero, List.set_cons_succ]
    refine takeH (i := 1) (v := ?_) rfl (by kernel_rfl) (by kernel_rfl) (by kernel_rfl) (fun _ _ _ h => h) rfl ?_ hHeld ?_
    rotate_left
    · intro w hS; (try dsimp only at hS); obtain ⟨hS0, hS1, hS2, hS3, hS4⟩ := hS; go_simp; first | done | (with_reducible rfl)
    try simp only [Act.put, List.setIfInBounds_toArray, List.set_cons_zero, List.set_cons_succ]
    refine onlyH (i := 2) rfl (by kernel_rfl) rfl (fun K hK => ?_)
    go_simp
    refine (id1_any w0.drew c.1).mono ?_
    rintro e w1 ⟨rfl, hb1⟩
    have hb1 : Below w0.heap.size w0 w1 := (Below.refl _ _).drew.trans hb1
    rw [h0]
    have y1 := (hb1.block _ (lt_of_heap y0)).trans y0
    have k10 := cell_of_row w1 w.heap.size 0 _ _ _ y1
    have k11 := cell_of_row w1 w.heap.size 1 _ _ _ y1
    have k12 := cell_of_row w1 w.heap.size 2 _ _ _ y1
    have k13 := cell_of_row w1 w.heap.size 3 _ _ _ y1
    have k14 := cell_of_row w1 w.heap.size 4 _ _ _ y1
    simp only [List.getElem?_toArray, List.getElem?_cons_zero, List.getElem?_cons_succ] at k10 k11 k12 k13 k14
    have hbA1 := hbA0.trans (hb1.mono hbA0.size)
    have hL1 := hL0.past hb1
    refine hK.out _ _ (⟨k10, k11, k12, k13, k14⟩) (fun hHeld => ?_)
    clear hK K
    try simp only [Act.put, List.setIfInBounds_toArray, List.set_cons_zero, List.set_cons_succ]
    refine takeH (i := 3) (v := ?_) rfl (by kernel_rfl) (by kernel_rfl) (by kernel_rfl) (fun _ _ _ h => h) rfl ?_ hHeld ?_
    rotate_left
    · intro w hS; (try dsimp only at hS); obtain ⟨hS0, hS1, hS2, hS3, hS4⟩ := hS; go_simp; first | done | (with_reducible rfl)
    try simp only [Act.put, List.setIfInBounds_toArray, List.set_cons_zero, List.set_cons_succ]
    refine takeH (i := 4) (v := ?_) rfl (by kernel_rfl) (by kernel_rfl) (by kernel_rfl) (fun _ _ _ h => h) rfl ?_ hHeld ?_
    rotate_left
    · intro w hS; (try dsimp only at hS); obtain ⟨hS0, hS1, hS2, hS3, hS4⟩ := hS; go_simp; first | done | (with_reducible rfl)
    try simp only [Act.put, List.setIfInBounds_toArray, List.set_cons_zero, List.set_cons_succ]
    refine takeH (i := 5) (v := ?_) rfl (by kernel_rfl) (by kernel_rfl) (by kernel_rfl) (fun _ _ _ h => h) rfl ?_ hHeld ?_
    rotate_left
    · intro w hS; (try dsimp only at hS); obtain ⟨hS0, hS1, hS2, hS3, hS4⟩ := hS; go_simp; first | done | (with_reducible rfl)
    try simp only [Act.put, List.setIfInBounds_toArray, List.set_cons_zero, List.set_cons_succ]
    refine takeH (i := 6) (v := ?_) rfl (by kernel_rfl) (by kernel_rfl) (by kernel_rfl) (fun _ _ _ h => h) rfl ?_ hHeld ?_
    rotate_left
    · intro w hS; (try dsimp only at hS); obtain ⟨hS0, hS1, hS2, hS3, hS4⟩ := hS; go_simp; first | done | (with_reducible rfl)
    try simp only [Act.put, List.setIfInBounds_toArray, List.set_cons_zero, List.set_cons_succ]
    refine takeH (i := 7) (v := ?_) rfl (by kernel_rfl) (by kernel_rfl) (by kernel_rfl) (fun _ _ _ h => h) rfl ?_ hHeld ?_
    rotate_left
    · intro w hS; (try dsimp only at hS); obtain ⟨hS0, hS1, hS2, hS3, hS4⟩ := hS; go_simp; first | done | (with_reducible rfl)
    try simp only [Act.put, List.setIfInBounds_toArray, List.set_cons_zero, List.set_cons_succ]
    refine takeH (i := 8) (v := ?_) rfl (by kernel_rfl) (by kernel_rfl) (by kernel_rfl) (fun _ _ _ h => h) rfl ?_ hHeld ?_
    rotate_left
    · intro w hS; (try dsimp only at hS); obtain ⟨hS0, hS1, hS2, hS3, hS4⟩ := hS; go_simp; first | done | (with_reducible rfl)
    try simp only [Act.put, List.setIfInBounds_toArray, List.set_cons_zero, List.set_cons_succ]
    refine takeH (i := 9) (v := ?_) rfl (by kernel_rfl) (by kernel_rfl) (by kernel_rfl) (fun _ _ _ h => h) rfl ?_ hHeld ?_
    rotate_left
    · intro w hS; (try dsimp only at hS); obtain ⟨hS0, hS1, hS2, hS3, hS4⟩ := hS; go_simp; first | done | (with_reducible rfl)
    try simp only [Act.put, List.setIfInBounds_toArray, List.set_cons_zero, List.set_cons_succ]
    refine takeH (i := 10) (v := ?_) rfl (by kernel_rfl) (by kernel_rfl) (by kernel_rfl) (fun _ _ _ h => h) rfl ?_ hHeld ?_
    rotate_left
    · intro w hS; (try dsimp only at hS); obtain ⟨hS0, hS1, hS2, hS3, hS4⟩ := hS; go_simp; first | done | (with_reducible rfl)
    try simp only [Act.put, List.setIfInBounds_toArray, List.set_cons_zero, List.set_cons_succ]
    refine takeH (i := 11) (v := ?_) rfl (by kernel_rfl) (by kernel_rfl) (by kernel_rfl) (fun _ _ _ h => h) rfl ?_ hHeld ?_
    rotate_left
    · intro w hS; (try dsimp only at hS); obtain ⟨hS0, hS1, hS2, hS3, hS4⟩ := hS; go_simp; first | done | (with_reducible rfl)
    try simp only [Act.put, List.setIfInBounds_toArray, List.set_cons_zero, List.set_cons_succ]
    refine onlyH (i := 12) rfl (by kernel_rfl) rfl (fun K hK => ?_)
    go_simp
    refine (eachIds_any w1 _ c.2.1 hL1).mono ?_
    rintro e w2 ⟨rfl, hb2⟩
    rw [h2]
    have y2 := (hb2.block _ (lt_of_heap y1)).trans y1
    have k20 := cell_of_row w2 w.heap.size 0 _ _ _ y2
    have k21 := cell_of_row w2 w.heap.size 1 _ _ _ y2
    have k22 := cell_of_row w2 w.heap.size 2 _ _ _ y2
    have k23 := cell_of_row w2 w.heap.size 3 _ _ _ y2
    have k24 := cell_of_row w2 w.heap.size 4 _ _ _ y2
    simp only [List.getElem?_toArray, List.getElem?_cons_zero, List.getElem?_cons_succ] at k20 k21 k22 k23 k24
    have hbA2 := hbA1.trans (hb2.mono hbA1.size)
    have hL2 := hL1.past hb2
    refine hK.out _ _ (⟨k20, k21, k22, k23, k24⟩) (fun hHeld => ?_)
    clear hK K
    try simp only [Act.put, List.setIfInBounds_toArray, List.set_cons_zero, List.set_cons_succ]
    refine takeH (i := 13) (v := ?_) rfl (by kernel_rfl) (by kernel_rfl) (by kernel_rfl) (fun _ _ _ h => h) rfl ?_ hHeld ?_
    rotate_left
    · intro w hS; (try dsimp only at hS); obtain ⟨hS0, hS1, hS2, hS3, hS4⟩ := hS; go_simp; first | done | (with_reducible rfl)
    try simp only [Act.put, List.setIfInBounds_toArray, List.set_cons_zero, List.set_cons_succ]
    refine takeH (i := 14) (v := ?_) rfl (by kernel_rfl) (by kernel_rfl) (by kernel_rfl) (fun _ _ _ h => h) rfl ?_ hHeld ?_
    rotate_left
    · intro w hS; (try dsimp only at hS); obtain ⟨hS0, hS1, hS2, hS3, hS4⟩ := hS; go_simp; first | done | (with_reducible rfl)
    try simp only [Act.put, List.setIfInBounds_toArray, List.set_cons_zero, List.set_cons_succ]
    refine takeH (i := 15) (v := ?_) rfl (by kernel_rfl) (by kernel_rfl) (by kernel_rfl) (fun _ _ _ h => h) rfl ?_ hHeld ?_
    rotate_left
    · intro w hS; (try dsimp only at hS); obtain ⟨hS0, hS1, hS2, hS3, hS4⟩ := hS; go_simp; first | done | (with_reducible rfl)
    try simp only [Act.put, List.setIfInBounds_toArray, List.set_cons_zero, List.set_cons_succ]
    refine takeH (i := 16) (v := ?_) rfl (by kernel_rfl) (by kernel_rfl) (by kernel_rfl) (fun _ _ _ h => h) rfl ?_ hHeld ?_
    rotate_left
    · intro w hS; (try dsimp only at hS); obtain ⟨hS0, hS1, hS2, hS3, hS4⟩ := hS; go_simp; first | done | (with_reducible rfl)
    try simp only [Act.put, List.setIfInBounds_toArray, List.set_cons_zero, List.set_cons_succ]
    refine takeH (i := 19) (v := ?_) rfl (by kernel_rfl) (by kernel_rfl) (by kernel_rfl) (fun _ _ _ h => h) rfl ?_ hHeld ?_
    rotate_left
    · intro w hS; (try dsimp only at hS); obtain ⟨hS0, hS1, hS2, hS3, hS4⟩ := hS; go_simp; first | done | (with_reducible rfl)
    try simp only [Act.put, List.setIfInBounds_toArray, List.set_cons_zero, List.set_cons_succ]
    refine takeH (i := 20) (v := ?_) rfl (by kernel_rfl) (by kernel_rfl) (by kernel_rfl) (fun _ _ _ h => h) rfl ?_ hHeld ?_
    rotate_left
    · intro w hS; (try dsimp only at hS); obtain ⟨hS0, hS1, hS2, hS3, hS4⟩ := hS; go_simp; first | done | (with_reducible rfl)
    try simp only [Act.put, List.setIfInBounds_toArray, List.set_cons_zero, List.set_cons_succ]
    refine takeH (i := 21) (v := ?_) rfl (by kernel_rfl) (by kernel_rfl) (by kernel_rfl) (fun _ _ _ h => h) rfl ?_ hHeld ?_
    rotate_left
    · intro w hS; (try dsimp only at hS); obtain ⟨hS0, hS1, hS2, hS3, hS4⟩ := hS; go_simp; first | done | (with_reducible rfl)
    try simp only [Act.put, List.setIfInBounds_toArray, List.set_cons_zero, List.set_cons_succ]
    refine onlyH (i := 17) rfl (by kernel_rfl) rfl (fun K hK => ?_)
    go_simp
    refine (eachOnce_any w2 _ c.2.1 hL2 (by simp at h1; omega)).mono ?_
    rintro e w3 ⟨v3, rfl, hown3, hb3⟩
    obtain ⟨a3, c3, rfl, -⟩ := own_form hown3
    clear hown3
    have y3 := (hb3.block _ (lt_of_heap y2)).trans y2
    have k30 := cell_of_row w3 w.heap.size 0 _ _ _ y3
    have k31 := cell_of_row w3 w.heap.size 1 _ _ _ y3
    have k32 := cell_of_row w3 w.heap.size 2 _ _ _ y3
    have k33 := cell_of_row w3 w.heap.size 3 _ _ _ y3
    have k34 := cell_of_row w3 w.heap.size 4 _ _ _ y3
    simp only [List.getElem?_toArray, List.getElem?_cons_zero, List.getElem?_cons_succ] at k30 k31 k32 k33 k34
    have hbA3 := hbA2.trans (hb3.mono hbA2.size)
    have hL3 := hL2.past hb3
    refine hK.out _ _ (⟨k30, k31, k32, k33, k34⟩) (fun hHeld => ?_)
    clear hK K
    try simp only [Act.put, List.setIfInBounds_toArray, List.set_cons_zero, List.set_cons_succ]
    refine takeH (i := 18) (v := ?_) rfl (by kernel_rfl) (by kernel_rfl) (by kernel_rfl) (fun _ _ _ h => h) rfl ?_ hHeld ?_
    rotate_left
    · intro w hS; (try dsimp only at hS); obtain ⟨hS0, hS1, hS2, hS3, hS4⟩ := hS; go_simp; first | done | (with_reducible rfl)
    try simp only [Act.put, List.setIfInBounds_toArray, List.set_cons_zero, List.set_cons_succ]
    refine takeH (i := 22) (v := ?_) rfl (by kernel_rfl) (by kernel_rfl) (by kernel_rfl) (fun _ _ _ h => h) rfl ?_ hHeld ?_
    rotate_left
    · intro w hS; (try dsimp only at hS); obtain ⟨hS0, hS1, hS2, hS3, hS4⟩ := hS; go_simp; first | done | (with_reducible rfl)
    try simp only [Act.put, List.setIfInBounds_toArray, List.set_cons_zero, List.set_cons_succ]
    refine takeH (i := 23) (v := ?_) rfl (by kernel_rfl) (by kernel_rfl) (by kernel_rfl) (fun _ _ _ h => h) rfl ?_ hHeld ?_
    rotate_left
    · intro w hS; (try dsimp only at hS); obtain ⟨hS0, hS1, hS2, hS3, hS4⟩ := hS; go_simp; first | done | (with_reducible rfl)
    try simp only [Act.put, List.setIfInBounds_toArray, List.set_cons_zero, List.set_cons_succ]
    refine takeH (i := 24) (v := ?_) rfl (by kernel_rfl) (by kernel_rfl) (by kernel_rfl) (fun _ _ _ h => h) rfl ?_ hHeld ?_
    rotate_left
    · intro w hS; (try dsimp only at hS); obtain ⟨hS0, hS1, hS2, hS3, hS4⟩ := hS; go_simp; first | done | (with_reducible rfl)
    try simp only [Act.put, List.setIfInBounds_toArray, List.set_cons_zero, List.set_cons_succ]
    refine skipH (i := 25) rfl (by kernel_rfl) (by kernel_rfl) (by kernel_rfl) (fun _ _ _ h => h) rfl hHeld ?_
    try simp only [Act.put, List.setIfInBounds_toArray, List.set_cons_zero, List.set_cons_succ]
    refine skipH (i := 26) rfl (by kernel_rfl) (by kernel_rfl) (by kernel_rfl) (fun _ _ _ h => h) rfl hHeld ?_
    try simp only [Act.put, List.setIfInBounds_toArray, List.set_cons_zero, List.set_cons_succ]
    refine skipH (i := 27) rfl (by kernel_rfl) (by kernel_rfl) (by kernel_rfl) (fun _ _ _ h => h) rfl hHeld ?_
    try simp only [Act.put, List.setIfInBounds_toArray, List.set_cons_zero, List.set_cons_succ]
    refine skipH (i := 28) rfl (by kernel_rfl) (by kernel_rfl) (by kernel_rfl) (fun _ _ _ h => h) rfl hHeld ?_
    try simp only [Act.put, List.setIfInBounds_toArray, List.set_cons_zero, List.set_cons_succ]
    refine takeH (i := 29) (v := ?_) rfl (by kernel_rfl) (by kernel_rfl) (by kernel_rfl) (fun _ _ _ h => h) rfl ?_ hHeld ?_
    rotate_left
    · intro w hS; (try dsimp only at hS); obtain ⟨hS0, hS1, hS2, hS3, hS4⟩ := hS; go_simp; first | done | (with_reducible rfl)
    try simp only [Act.put, List.setIfInBounds_toArray, List.set_cons_zero, List.set_cons_succ]
    refine takeH (i := 30) (v := ?_) rfl (by kernel_rfl) (by kernel_rfl) (by kernel_rfl) (fun _ _ _ h => h) rfl ?_ hHeld ?_
    rotate_left
    · intro w hS; (try dsimp only at hS); obtain ⟨hS0, hS1, hS2, hS3, hS4⟩ := hS; go_simp; first | done | (with_reducible rfl)
    try simp only [Act.put, List.setIfInBounds_toArray, List.set_cons_zero, List.set_cons_succ]
    refine skipH (i := 31) rfl (by kernel_rfl) (by kernel_rfl) (by kernel_rfl) (fun _ _ _ h => h) rfl hHeld ?_
    try simp only [Act.put, List.setIfInBounds_toArray, List.set_cons_zero, List.set_cons_succ]
    refine skipH (i := 32) rfl (by kernel_rfl) (by kernel_rfl) (by kernel_rfl) (fun _ _ _ h => h) rfl hHeld ?_
    try simp only [Act.put, List.setIfInBounds_toArray, List.set_cons_zero, List.set_cons_succ]
    refine skipH (i := 33) rfl (by kernel_rfl) (by kernel_rfl) (by kernel_rfl) (fun _ _ _ h => h) rfl hHeld ?_
    try simp only [Act.put, List.setIfInBounds_toArray, List.set_cons_zero, List.set_cons_succ]
    refine skipH (i := 34) rfl (by kernel_rfl) (by kernel_rfl) (by kernel_rfl) (fun _ _ _ h => h) rfl hHeld ?_
    try simp only [Act.put, List.setIfInBounds_toArray, List.set_cons_zero, List.set_cons_succ]
    refine takeH (i := 35) (v := ?_) rfl (by kernel_rfl) (by kernel_rfl) (by kernel_rfl) (fun _ _ _ h => h) rfl ?_ hHeld ?_
    rotate_left
    · intro w hS; (try dsimp only at hS); obtain ⟨hS0, hS1, hS2, hS3, hS4⟩ := hS; go_simp; first | done | (with_reducible rfl)
    try simp only [Act.put, List.setIfInBounds_toArray, List.set_cons_zero, List.set_cons_succ]
    refine takeH (i := 36) (v := ?_) rfl (by kernel_rfl) (by kernel_rfl) (by kernel_rfl) (fun _ _ _ h => h) rfl ?_ hHeld ?_
    rotate_left
    · intro w hS; (try dsimp only at hS); obtain ⟨hS0, hS1, hS2, hS3, hS4⟩ := hS; go_simp; first | done | (with_reducible rfl)
    try simp only [Act.put, List.setIfInBounds_toArray, List.set_cons_zero, List.set_cons_succ]
    refine skipH (i := 37) rfl (by kernel_rfl) (by kernel_rfl) (by kernel_rfl) (fun _ _ _ h => h) rfl hHeld ?_
    try simp only [Act.put, List.setIfInBounds_toArray, List.set_cons_zero, List.set_cons_succ]
    refine skipH (i := 38) rfl (by kernel_rfl) (by kernel_rfl) (by kernel_rfl) (fun _ _ _ h => h) rfl hHeld ?_
    try simp only [Act.put, List.setIfInBounds_toArray, List.set_cons_zero, List.set_cons_succ]
    refine skipH (i := 39) rfl (by kernel_rfl) (by kernel_rfl) (by kernel_rfl) (fun _ _ _ h => h) rfl hHeld ?_
    try simp only [Act.put, List.setIfInBounds_toArray, List.set_cons_zero, List.set_cons_succ]
    refine takeH (i := 40) (v := ?_) rfl (by kernel_rfl) (by kernel_rfl) (by kernel_rfl) (fun _ _ _ h => h) rfl ?_ hHeld ?_
    rotate_left
    · intro w hS; (try dsimp only at hS); obtain ⟨hS0, hS1, hS2, hS3, hS4⟩ := hS; go_simp; first | done | (with_reducible rfl)
    try simp only [Act.put, List.setIfInBounds_toArray, List.set_cons_zero, List.set_cons_succ]
    refine takeH (i := 41) (v := ?_) rfl (by kernel_rfl) (by kernel_rfl) (by kernel_rfl) (fun _ _ _ h => h) rfl ?_ hHeld ?_
    rotate_left
    · intro w hS; (try dsimp only at hS); obtain ⟨hS0, hS1, hS2, hS3, hS4⟩ := hS; go_simp; first | done | (with_reducible rfl)
    try simp only [Act.put, List.setIfInBounds_toArray, List.set_cons_zero, List.set_cons_succ]
    refine skipH (i := 42) rfl (by kernel_rfl) (by kernel_rfl) (by kernel_rfl) (fun _ _ _ h => h) rfl hHeld ?_
    try simp only [Act.put, List.setIfInBounds_toArray, List.set_cons_zero, List.set_cons_succ]
    refine skipH (i := 43) rfl (by kernel_rfl) (by kernel_rfl) (by kernel_rfl) (fun _ _ _ h => h) rfl hHeld ?_
    try simp only [Act.put, List.setIfInBounds_toArray, List.set_cons_zero, List.set_cons_succ]
    refine skipH (i := 44) rfl (by kernel_rfl) (by kernel_rfl) (by kernel_rfl) (fun _ _ _ h => h) rfl hHeld ?_
    try simp only [Act.put, List.setIfInBounds_toArray, List.set_cons_zero, List.set_cons_succ]
    refine takeH (i := 45) (v := ?_) rfl (by kernel_rfl) (by kernel_rfl) (by kernel_rfl) (fun _ _ _ h => h) rfl ?_ hHeld ?_
    rotate_left
    · intro w hS; (try dsimp only at hS); obtain ⟨hS0, hS1, hS2, hS3, hS4⟩ := hS; go_simp; first | done | (with_reducible rfl)
    try simp only [Act.put, List.setIfInBounds_toArray, List.set_cons_zero, List.set_cons_succ]
    refine takeH (i := 46) (v := ?_) rfl (by kernel_rfl) (by kernel_rfl) (by kernel_rfl) (fun _ _ _ h => h) rfl ?_ hHeld ?_
    rotate_left
    · intro w hS; (try dsimp only at hS); obtain ⟨hS0, hS1, hS2, hS3, hS4⟩ := hS; go_simp; first | done | (with_reducible rfl)
    try simp only [Act.put, List.setIfInBounds_toArray, List.set_cons_zero, List.set_cons_succ]
    refine wpAnyH_done (by kernel_rfl) ?_ _
    clear hHeld
    go_wp2
    go_ret
    exact ⟨ret_bool (by first | rfl | assumption), hbA3⟩
  by_cases h4 : (decide ((c.2.2.1.length : Int) ≤ 64)) = true
  rotate_left
  · have h4 := Bool.eq_false_iff.2 h4
    have hF : commitOk c = false := by rw [hok]; simp only [h0, h1, h2, h3, h4, Bool.and_false, Bool.false_and, Bool.and_true]
    clear hok
    rw [hF]
    go_enter Tryz.func82, Tryz.ntmps82
    go_wp2_with fail
    generalize hw0 : w.alloc (.cells #[.string (strB c.1), .slice ao c.2.1.length cap, .string (strB c.2.2.1), .int .i64 c.2.2.2.1, .string (strB c.2.2.2.2)] 64) = w0 at *
    refine wp_region_held_drew (S := fun W => W.cell? ⟨w.heap.size, 0, none⟩ = some (.string (strB c.1)) ∧ W.cell? ⟨w.heap.size, 1, none⟩ = some (.slice ao c.2.1.length cap) ∧ W.cell? ⟨w.heap.size, 2, none⟩ = some (.string (strB c.2.2.1)) ∧ W.cell? ⟨w.heap.size, 3, none⟩ = some (.int .i64 c.2.2.2.1) ∧ W.cell? ⟨w.heap.size, 4, none⟩ = some (.string (strB c.2.2.2.2))) (by kernel_rfl) (⟨k00, k01, k02, k03, k04⟩) (fun hHeld => ?_)
    refine takeH (i := 0) (v := ?_) rfl (by kernel_rfl) (by kernel_rfl) (by kernel_rfl) (fun _ _ _ h => h) rfl ?_ hHeld ?_
    rotate_left
    · intro w hS; (try dsimp only at hS); obtain ⟨hS0, hS1, hS2, hS3, hS4⟩ := hS; go_simp; first | done | (with_reducible rfl)
    try simp only [Act.put, List.setIfInBounds_toArray, List.set_cons_zero, List.set_cons_succ]
    refine takeH (i := 1) (v := ?_) rfl (by kernel_rfl) (by kernel_rfl) (by kernel_rfl) (fun _ _ _ h => h) rfl ?_ hHeld ?_
    rotate_left
    · intro w hS; (try dsimp only at hS); obtain ⟨hS0, hS1, hS2, hS3, hS4⟩ := hS; go_simp; first | done | (with_reducible rfl)
    try simp only [Act.put, List.setIfInBounds_toArray, List.set_cons_zero, List.set_cons_succ]
    refine onlyH (i := 2) rfl (by kernel_rfl) rfl (fun K hK => ?_)
    go_simp
    refine (id1_any w0.drew c.1).mono ?_
    rintro e w1 ⟨rfl, hb1⟩
    have hb1 : Below w0.heap.size w0 w1 := (Below.refl _ _).drew.trans hb1
    rw [h0]
    have y1 := (hb1.block _ (lt_of_heap y0)).trans y0
    have k10 := cell_of_row w1 w.heap.size 0 _ _ _ y1
    have k11 := cell_of_row w1 w.heap.size 1 _ _ _ y1
    have k12 := cell_of_row w1 w.heap.size 2 _ _ _ y1
    have k13 := cell_of_row w1 w.heap.size 3 _ _ _ y1
    have k14 := cell_of_row w1 w.heap.size 4 _ _ _ y1
    simp only [List.getElem?_toArray, List.getElem?_cons_zero, List.getElem?_cons_succ] at k10 k11 k12 k13 k14
    have hbA1 := hbA0.trans (hb1.mono hbA0.size)
    have hL1 := hL0.past hb1
    refine hK.out _ _ (⟨k10, k11, k12, k13, k14⟩) (fun hHeld => ?_)
    clear hK K
    try simp only [Act.put, List.setIfInBounds_toArray, List.set_cons_zero, List.set_cons_succ]
    refine takeH (i := 3) (v := ?_) rfl (by kernel_rfl) (by kernel_rfl) (by kernel_rfl) (fun _ _ _ h => h) rfl ?_ hHeld ?_
    rotate_left
    · intro w hS; (try dsimp only at hS); obtain ⟨hS0, hS1, hS2, hS3, hS4⟩ := hS; go_simp; first | done | (with_reducible rfl)
    try simp only [Act.put, List.setIfInBounds_toArray, List.set_cons_zero, List.set_cons_succ]
    refine takeH (i := 4) (v := ?_) rfl (by kernel_rfl) (by kernel_rfl) (by kernel_rfl) (fun _ _ _ h => h) rfl ?_ hHeld ?_
    rotate_left
    · intro w hS; (try dsimp only at hS); obtain ⟨hS0, hS1, hS2, hS3, hS4⟩ := hS; go_simp; first | done | (with_reducible rfl)
    try simp only [Act.put, List.setIfInBounds_toArray, List.set_cons_zero, List.set_cons_succ]
    refine takeH (i := 5) (v := ?_) rfl (by kernel_rfl) (by kernel_rfl) (by kernel_rfl) (fun _ _ _ h => h) rfl ?_ hHeld ?_
    rotate_left
    · intro w hS; (try dsimp only at hS); obtain ⟨hS0, hS1, hS2, hS3, hS4⟩ := hS; go_simp; first | done | (with_reducible rfl)
    try simp only [Act.put, List.setIfInBounds_toArray, List.set_cons_zero, List.set_cons_succ]
    refine takeH (i := 6) (v := ?_) rfl (by kernel_rfl) (by kernel_rfl) (by kernel_rfl) (fun _ _ _ h => h) rfl ?_ hHeld ?_
    rotate_left
    · intro w hS; (try dsimp only at hS); obtain ⟨hS0, hS1, hS2, hS3, hS4⟩ := hS; go_simp; first | done | (with_reducible rfl)
    try simp only [Act.put, List.setIfInBounds_toArray, List.set_cons_zero, List.set_cons_succ]
    refine takeH (i := 7) (v := ?_) rfl (by kernel_rfl) (by kernel_rfl) (by kernel_rfl) (fun _ _ _ h => h) rfl ?_ hHeld ?_
    rotate_left
    · intro w hS; (try dsimp only at hS); obtain ⟨hS0, hS1, hS2, hS3, hS4⟩ := hS; go_simp; first | done | (with_reducible rfl)
    try simp only [Act.put, List.setIfInBounds_toArray, List.set_cons_zero, List.set_cons_succ]
    refine takeH (i := 8) (v := ?_) rfl (by kernel_rfl) (by kernel_rfl) (by kernel_rfl) (fun _ _ _ h => h) rfl ?_ hHeld ?_
    rotate_left
    · intro w hS; (try dsimp only at hS); obtain ⟨hS0, hS1, hS2, hS3, hS4⟩ := hS; go_simp; first | done | (with_reducible rfl)
    try simp only [Act.put, List.setIfInBounds_toArray, List.set_cons_zero, List.set_cons_succ]
    refine takeH (i := 9) (v := ?_) rfl (by kernel_rfl) (by kernel_rfl) (by kernel_rfl) (fun _ _ _ h => h) rfl ?_ hHeld ?_
    rotate_left
    · intro w hS; (try dsimp only at hS); obtain ⟨hS0, hS1, hS2, hS3, hS4⟩ := hS; go_simp; first | done | (with_reducible rfl)
    try simp only [Act.put, List.setIfInBounds_toArray, List.set_cons_zero, List.set_cons_succ]
    refine takeH (i := 10) (v := ?_) rfl (by kernel_rfl) (by kernel_rfl) (by kernel_rfl) (fun _ _ _ h => h) rfl ?_ hHeld ?_
    rotate_left
    · intro w hS; (try dsimp only at hS); obtain ⟨hS0, hS1, hS2, hS3, hS4⟩ := hS; go_simp; first | done | (with_reducible rfl)
    try simp only [Act.put, List.setIfInBounds_toArray, List.set_cons_zero, List.set_cons_succ]
    refine takeH (i := 11) (v := ?_) rfl (by kernel_rfl) (by kernel_rfl) (by kernel_rfl) (fun _ _ _ h => h) rfl ?_ hHeld ?_
    rotate_left
    · intro w hS; (try dsimp only at hS); obtain ⟨hS0, hS1, hS2, hS3, hS4⟩ := hS; go_simp; first | done | (with_reducible rfl)
    try simp only [Act.put, List.setIfInBounds_toArray, List.set_cons_zero, List.set_cons_succ]
    refine onlyH (i := 12) rfl (by kernel_rfl) rfl (fun K hK => ?_)
    go_simp
    refine (eachIds_any w1 _ c.2.1 hL1).mono ?_
    rintro e w2 ⟨rfl, hb2⟩
    rw [h2]
    have y2 := (hb2.block _ (lt_of_heap y1)).trans y1
    have k20 := cell_of_row w2 w.heap.size 0 _ _ _ y2
    have k21 := cell_of_row w2 w.heap.size 1 _ _ _ y2
    have k22 := cell_of_row w2 w.heap.size 2 _ _ _ y2
    have k23 := cell_of_row w2 w.heap.size 3 _ _ _ y2
    have k24 := cell_of_row w2 w.heap.size 4 _ _ _ y2
    simp only [List.getElem?_toArray, List.getElem?_cons_zero, List.getElem?_cons_succ] at k20 k21 k22 k23 k24
    have hbA2 := hbA1.trans (hb2.mono hbA1.size)
    have hL2 := hL1.past hb2
    refine hK.out _ _ (⟨k20, k21, k22, k23, k24⟩) (fun hHeld => ?_)
    clear hK K
    try simp only [Act.put, List.setIfInBounds_toArray, List.set_cons_zero, List.set_cons_succ]
    refine takeH (i := 13) (v := ?_) rfl (by kernel_rfl) (by kernel_rfl) (by kernel_rfl) (fun _ _ _ h => h) rfl ?_ hHeld ?_
    rotate_left
    · intro w hS; (try dsimp only at hS); obtain ⟨hS0, hS1, hS2, hS3, hS4⟩ := hS; go_simp; first | done | (with_reducible rfl)
    try simp only [Act.put, List.setIfInBounds_toArray, List.set_cons_zero, List.set_cons_succ]
    refine takeH (i := 14) (v := ?_) rfl (by kernel_rfl) (by kernel_rfl) (by kernel_rfl) (fun _ _ _ h => h) rfl ?_ hHeld ?_
    rotate_left
    · intro w hS; (try dsimp only at hS); obtain ⟨hS0, hS1, hS2, hS3, hS4⟩ := hS; go_simp; first | done | (with_reducible rfl)
    try simp only [Act.put, List.setIfInBounds_toArray, List.set_cons_zero, List.set_cons_succ]
    refine takeH (i := 15) (v := ?_) rfl (by kernel_rfl) (by kernel_rfl) (by kernel_rfl) (fun _ _ _ h => h) rfl ?_ hHeld ?_
    rotate_left
    · intro w hS; (try dsimp only at hS); obtain ⟨hS0, hS1, hS2, hS3, hS4⟩ := hS; go_simp; first | done | (with_reducible rfl)
    try simp only [Act.put, List.setIfInBounds_toArray, List.set_cons_zero, List.set_cons_succ]
    refine takeH (i := 16) (v := ?_) rfl (by kernel_rfl) (by kernel_rfl) (by kernel_rfl) (fun _ _ _ h => h) rfl ?_ hHeld ?_
    rotate_left
    · intro w hS; (try dsimp only at hS); obtain ⟨hS0, hS1, hS2, hS3, hS4⟩ := hS; go_simp; first | done | (with_reducible rfl)
    try simp only [Act.put, List.setIfInBounds_toArray, List.set_cons_zero, List.set_cons_succ]
    refine takeH (i := 19) (v := ?_) rfl (by kernel_rfl) (by kernel_rfl) (by kernel_rfl) (fun _ _ _ h => h) rfl ?_ hHeld ?_
    rotate_left
    · intro w hS; (try dsimp only at hS); obtain ⟨hS0, hS1, hS2, hS3, hS4⟩ := hS; go_simp; first | done | (with_reducible rfl)
    try simp only [Act.put, List.setIfInBounds_toArray, List.set_cons_zero, List.set_cons_succ]
    refine takeH (i := 20) (v := ?_) rfl (by kernel_rfl) (by kernel_rfl) (by kernel_rfl) (fun _ _ _ h => h) rfl ?_ hHeld ?_
    rotate_left
    · intro w hS; (try dsimp only at hS); obtain ⟨hS0, hS1, hS2, hS3, hS4⟩ := hS; go_simp; first | done | (with_reducible rfl)
    try simp only [Act.put, List.setIfInBounds_toArray, List.set_cons_zero, List.set_cons_succ]
    refine takeH (i := 21) (v := ?_) rfl (by kernel_rfl) (by kernel_rfl) (by kernel_rfl) (fun _ _ _ h => h) rfl ?_ hHeld ?_
    rotate_left
    · intro w hS; (try dsimp only at hS); obtain ⟨hS0, hS1, hS2, hS3, hS4⟩ := hS; go_simp; first | done | (with_reducible rfl)
    try simp only [Act.put, List.setIfInBounds_toArray, List.set_cons_zero, List.set_cons_succ]
    refine onlyH (i := 17) rfl (by kernel_rfl) rfl (fun K hK => ?_)
    go_simp
    refine (eachOnce_any w2 _ c.2.1 hL2 (by simp at h1; omega)).mono ?_
    rintro e w3 ⟨v3, rfl, hown3, hb3⟩
    obtain ⟨a3, c3, rfl, -⟩ := own_form hown3
    clear hown3
    have y3 := (hb3.block _ (lt_of_heap y2)).trans y2
    have k30 := cell_of_row w3 w.heap.size 0 _ _ _ y3
    have k31 := cell_of_row w3 w.heap.size 1 _ _ _ y3
    have k32 := cell_of_row w3 w.heap.size 2 _ _ _ y3
    have k33 := cell_of_row w3 w.heap.size 3 _ _ _ y3
    have k34 := cell_of_row w3 w.heap.size 4 _ _ _ y3
    simp only [List.getElem?_toArray, List.getElem?_cons_zero, List.getElem?_cons_succ] at k30 k31 k32 k33 k34
    have hbA3 := hbA2.trans (hb3.mono hbA2.size)
    have hL3 := hL2.past hb3
    refine hK.out _ _ (⟨k30, k31, k32, k33, k34⟩) (fun hHeld => ?_)
    clear hK K
    try simp only [Act.put, List.setIfInBounds_toArray, List.set_cons_zero, List.set_cons_succ]
    refine takeH (i := 18) (v := ?_) rfl (by kernel_rfl) (by kernel_rfl) (by kernel_rfl) (fun _ _ _ h => h) rfl ?_ hHeld ?_
    rotate_left
    · intro w hS; (try dsimp only at hS); obtain ⟨hS0, hS1, hS2, hS3, hS4⟩ := hS; go_simp; first | done | (with_reducible rfl)
    try simp only [Act.put, List.setIfInBounds_toArray, List.set_cons_zero, List.set_cons_succ]
    refine takeH (i := 22) (v := ?_) rfl (by kernel_rfl) (by kernel_rfl) (by kernel_rfl) (fun _ _ _ h => h) rfl ?_ hHeld ?_
    rotate_left
    · intro w hS; (try dsimp only at hS); obtain ⟨hS0, hS1, hS2, hS3, hS4⟩ := hS; go_simp; first | done | (with_reducible rfl)
    try simp only [Act.put, List.setIfInBounds_toArray, List.set_cons_zero, List.set_cons_succ]
    refine takeH (i := 23) (v := ?_) rfl (by kernel_rfl) (by kernel_rfl) (by kernel_rfl) (fun _ _ _ h => h) rfl ?_ hHeld ?_
    rotate_left
    · intro w hS; (try dsimp only at hS); obtain ⟨hS0, hS1, hS2, hS3, hS4⟩ := hS; go_simp; first | done | (with_reducible rfl)
    try simp only [Act.put, List.setIfInBounds_toArray, List.set_cons_zero, List.set_cons_succ]
    refine takeH (i := 24) (v := ?_) rfl (by kernel_rfl) (by kernel_rfl) (by kernel_rfl) (fun _ _ _ h => h) rfl ?_ hHeld ?_
    rotate_left
    · intro w hS; (try dsimp only at hS); obtain ⟨hS0, hS1, hS2, hS3, hS4⟩ := hS; go_simp; first | done | (with_reducible rfl)
    try simp only [Act.put, List.setIfInBounds_toArray, List.set_cons_zero, List.set_cons_succ]
    refine takeH (i := 25) (v := ?_) rfl (by kernel_rfl) (by kernel_rfl) (by kernel_rfl) (fun _ _ _ h => h) rfl ?_ hHeld ?_
    rotate_left
    · intro w hS; (try dsimp only at hS); obtain ⟨hS0, hS1, hS2, hS3, hS4⟩ := hS; go_simp; first | done | (with_reducible rfl)
    try simp only [Act.put, List.setIfInBounds_toArray, List.set_cons_zero, List.set_cons_succ]
    refine takeH (i := 26) (v := ?_) rfl (by kernel_rfl) (by kernel_rfl) (by kernel_rfl) (fun _ _ _ h => h) rfl ?_ hHeld ?_
    rotate_left
    · intro w hS; (try dsimp only at hS); obtain ⟨hS0, hS1, hS2, hS3, hS4⟩ := hS; go_simp; first | done | (with_reducible rfl)
    try simp only [Act.put, List.setIfInBounds_toArray, List.set_cons_zero, List.set_cons_succ]
    refine takeH (i := 27) (v := ?_) rfl (by kernel_rfl) (by kernel_rfl) (by kernel_rfl) (fun _ _ _ h => h) rfl ?_ hHeld ?_
    rotate_left
    · intro w hS; (try dsimp only at hS); obtain ⟨hS0, hS1, hS2, hS3, hS4⟩ := hS; go_simp; first | done | (with_reducible rfl)
    try simp only [Act.put, List.setIfInBounds_toArray, List.set_cons_zero, List.set_cons_succ]
    refine takeH (i := 28) (v := ?_) rfl (by kernel_rfl) (by kernel_rfl) (by kernel_rfl) (fun _ _ _ h => h) rfl ?_ hHeld ?_
    rotate_left
    · intro w hS; (try dsimp only at hS); obtain ⟨hS0, hS1, hS2, hS3, hS4⟩ := hS; go_simp; first | done | (with_reducible rfl)
    try simp only [Act.put, List.setIfInBounds_toArray, List.set_cons_zero, List.set_cons_succ]
    refine takeH (i := 29) (v := ?_) rfl (by kernel_rfl) (by kernel_rfl) (by kernel_rfl) (fun _ _ _ h => h) rfl ?_ hHeld ?_
    rotate_left
    · intro w hS; (try dsimp only at hS); obtain ⟨hS0, hS1, hS2, hS3, hS4⟩ := hS; go_simp; first | done | (with_reducible rfl)
    try simp only [Act.put, List.setIfInBounds_toArray, List.set_cons_zero, List.set_cons_succ]
    refine takeH (i := 30) (v := ?_) rfl (by kernel_rfl) (by kernel_rfl) (by kernel_rfl) (fun _ _ _ h => h) rfl ?_ hHeld ?_
    rotate_left
    · intro w hS; (try dsimp only at hS); obtain ⟨hS0, hS1, hS2, hS3, hS4⟩ := hS; go_simp; first | done | (with_reducible rfl)
    try simp only [Act.put, List.setIfInBounds_toArray, List.set_cons_zero, List.set_cons_succ]
    refine skipH (i := 31) rfl (by kernel_rfl) (by kernel_rfl) (by kernel_rfl) (fun _ _ _ h => h) rfl hHeld ?_
    try simp only [Act.put, List.setIfInBounds_toArray, List.set_cons_zero, List.set_cons_succ]
    refine skipH (i := 32) rfl (by kernel_rfl) (by kernel_rfl) (by kernel_rfl) (fun _ _ _ h => h) rfl hHeld ?_
    try simp only [Act.put, List.setIfInBounds_toArray, List.set_cons_zero, List.set_cons_succ]
    refine skipH (i := 33) rfl (by kernel_rfl) (by kernel_rfl) (by kernel_rfl) (fun _ _ _ h => h) rfl hHeld ?_
    try simp only [Act.put, List.setIfInBounds_toArray, List.set_cons_zero, List.set_cons_succ]
    refine skipH (i := 34) rfl (by kernel_rfl) (by kernel_rfl) (by kernel_rfl) (fun _ _ _ h => h) rfl hHeld ?_
    try simp only [Act.put, List.setIfInBounds_toArray, List.set_cons_zero, List.set_cons_succ]
    refine takeH (i := 35) (v := ?_) rfl (by kernel_rfl) (by kernel_rfl) (by kernel_rfl) (fun _ _ _ h => h) rfl ?_ hHeld ?_
    rotate_left
    · intro w hS; (try dsimp only at hS); obtain ⟨hS0, hS1, hS2, hS3, hS4⟩ := hS; go_simp; first | done | (with_reducible rfl)
    try simp only [Act.put, List.setIfInBounds_toArray, List.set_cons_zero, List.set_cons_succ]
    refine takeH (i := 36) (v := ?_) rfl (by kernel_rfl) (by kernel_rfl) (by kernel_rfl) (fun _ _ _ h => h) rfl ?_ hHeld ?_
    rotate_left
    · intro w hS; (try dsimp only at hS); obtain ⟨hS0, hS1, hS2, hS3, hS4⟩ := hS; go_simp; first | done | (with_reducible rfl)
    try simp only [Act.put, List.setIfInBounds_toArray, List.set_cons_zero, List.set_cons_succ]
    refine skipH (i := 37) rfl (by kernel_rfl) (by kernel_rfl) (by kernel_rfl) (fun _ _ _ h => h) rfl hHeld ?_
    try simp only [Act.put, List.setIfInBounds_toArray, List.set_cons_zero, List.set_cons_succ]
    refine skipH (i := 38) rfl (by kernel_rfl) (by kernel_rfl) (by kernel_rfl) (fun _ _ _ h => h) rfl hHeld ?_
    try simp only [Act.put, List.setIfInBounds_toArray, List.set_cons_zero, List.set_cons_succ]
    refine skipH (i := 39) rfl (by kernel_rfl) (by kernel_rfl) (by kernel_rfl) (fun _ _ _ h => h) rfl hHeld ?_
    try simp only [Act.put, List.setIfInBounds_toArray, List.set_cons_zero, List.set_cons_succ]
    refine takeH (i := 40) (v := ?_) rfl (by kernel_rfl) (by kernel_rfl) (by kernel_rfl) (fun _ _ _ h => h) rfl ?_ hHeld ?_
    rotate_left
    · intro w hS; (try dsimp only at hS); obtain ⟨hS0, hS1, hS2, hS3, hS4⟩ := hS; go_simp; first | done | (with_reducible rfl)
    try simp only [Act.put, List.setIfInBounds_toArray, List.set_cons_zero, List.set_cons_succ]
    refine takeH (i := 41) (v := ?_) rfl (by kernel_rfl) (by kernel_rfl) (by kernel_rfl) (fun _ _ _ h => h) rfl ?_ hHeld ?_
    rotate_left
    · intro w hS; (try dsimp only at hS); obtain ⟨hS0, hS1, hS2, hS3, hS4⟩ := hS; go_simp; first | done | (with_reducible rfl)
    try simp only [Act.put, List.setIfInBounds_toArray, List.set_cons_zero, List.set_cons_succ]
    refine skipH (i := 42) rfl (by kernel_rfl) (by kernel_rfl) (by kernel_rfl) (fun _ _ _ h => h) rfl hHeld ?_
    try simp only [Act.put, List.setIfInBounds_toArray, List.set_cons_zero, List.set_cons_succ]
    refine skipH (i := 43) rfl (by kernel_rfl) (by kernel_rfl) (by kernel_rfl) (fun _ _ _ h => h) rfl hHeld ?_
    try simp only [Act.put, List.setIfInBounds_toArray, List.set_cons_zero, List.set_cons_succ]
    refine skipH (i := 44) rfl (by kernel_rfl) (by kernel_rfl) (by kernel_rfl) (fun _ _ _ h => h) rfl hHeld ?_
    try simp only [Act.put, List.setIfInBounds_toArray, List.set_cons_zero, List.set_cons_succ]
    refine takeH (i := 45) (v := ?_) rfl (by kernel_rfl) (by kernel_rfl) (by kernel_rfl) (fun _ _ _ h => h) rfl ?_ hHeld ?_
    rotate_left
    · intro w hS; (try dsimp only at hS); obtain ⟨hS0, hS1, hS2, hS3, hS4⟩ := hS; go_simp; first | done | (with_reducible rfl)
    try simp only [Act.put, List.setIfInBounds_toArray, List.set_cons_zero, List.set_cons_succ]
    refine takeH (i := 46) (v := ?_) rfl (by kernel_rfl) (by kernel_rfl) (by kernel_rfl) (fun _ _ _ h => h) rfl ?_ hHeld ?_
    rotate_left
    · intro w hS; (try dsimp only at hS); obtain ⟨hS0, hS1, hS2, hS3, hS4⟩ := hS; go_simp; first | done | (with_reducible rfl)
    try simp only [Act.put, List.setIfInBounds_toArray, List.set_cons_zero, List.set_cons_succ]
    refine wpAnyH_done (by kernel_rfl) ?_ _
    clear hHeld
    go_wp2
    go_ret
    exact ⟨ret_bool (by first | rfl | assumption), hbA3⟩
  by_cases h5 : (decide ((c.2.2.2.2.length : Int) ≤ 1024)) = true
  rotate_left
  · have h5 := Bool.eq_false_iff.2 h5
    have hF : commitOk c = false := by rw [hok]; simp only [h0, h1, h2, h3, h4, h5, Bool.and_false, Bool.false_and, Bool.and_true]
    clear hok
    rw [hF]
    go_enter Tryz.func82, Tryz.ntmps82
    go_wp2_with fail
    generalize hw0 : w.alloc (.cells #[.string (strB c.1), .slice ao c.2.1.length cap, .string (strB c.2.2.1), .int .i64 c.2.2.2.1, .string (strB c.2.2.2.2)] 64) = w0 at *
    refine wp_region_held_drew (S := fun W => W.cell? ⟨w.heap.size, 0, none⟩ = some (.string (strB c.1)) ∧ W.cell? ⟨w.heap.size, 1, none⟩ = some (.slice ao c.2.1.length cap) ∧ W.cell? ⟨w.heap.size, 2, none⟩ = some (.string (strB c.2.2.1)) ∧ W.cell? ⟨w.heap.size, 3, none⟩ = some (.int .i64 c.2.2.2.1) ∧ W.cell? ⟨w.heap.size, 4, none⟩ = some (.string (strB c.2.2.2.2))) (by kernel_rfl) (⟨k00, k01, k02, k03, k04⟩) (fun hHeld => ?_)
    refine takeH (i := 0) (v := ?_) rfl (by kernel_rfl) (by kernel_rfl) (by kernel_rfl) (fun _ _ _ h => h) rfl ?_ hHeld ?_
    rotate_left
    · intro w hS; (try dsimp only at hS); obtain ⟨hS0, hS1, hS2, hS3, hS4⟩ := hS; go_simp; first | done | (with_reducible rfl)
    try simp only [Act.put, List.setIfInBounds_toArray, List.set_cons_zero, List.set_cons_succ]
    refine takeH (i := 1) (v := ?_) rfl (by kernel_rfl) (by kernel_rfl) (by kernel_rfl) (fun _ _ _ h => h) rfl ?_ hHeld ?_
    rotate_left
    · intro w hS; (try dsimp only at hS); obtain ⟨hS0, hS1, hS2, hS3, hS4⟩ := hS; go_simp; first | done | (with_reducible rfl)
    try simp only [Act.put, List.setIfInBounds_toArray, List.set_cons_zero, List.set_cons_succ]
    refine onlyH (i := 2) rfl (by kernel_rfl) rfl (fun K hK => ?_)
    go_simp
    refine (id1_any w0.drew c.1).mono ?_
    rintro e w1 ⟨rfl, hb1⟩
    have hb1 : Below w0.heap.size w0 w1 := (Below.refl _ _).drew.trans hb1
    rw [h0]
    have y1 := (hb1.block _ (lt_of_heap y0)).trans y0
    have k10 := cell_of_row w1 w.heap.size 0 _ _ _ y1
    have k11 := cell_of_row w1 w.heap.size 1 _ _ _ y1
    have k12 := cell_of_row w1 w.heap.size 2 _ _ _ y1
    have k13 := cell_of_row w1 w.heap.size 3 _ _ _ y1
    have k14 := cell_of_row w1 w.heap.size 4 _ _ _ y1
    simp only [List.getElem?_toArray, List.getElem?_cons_zero, List.getElem?_cons_succ] at k10 k11 k12 k13 k14
    have hbA1 := hbA0.trans (hb1.mono hbA0.size)
    have hL1 := hL0.past hb1
    refine hK.out _ _ (⟨k10, k11, k12, k13, k14⟩) (fun hHeld => ?_)
    clear hK K
    try simp only [Act.put, List.setIfInBounds_toArray, List.set_cons_zero, List.set_cons_succ]
    refine takeH (i := 3) (v := ?_) rfl (by kernel_rfl) (by kernel_rfl) (by kernel_rfl) (fun _ _ _ h => h) rfl ?_ hHeld ?_
    rotate_left
    · intro w hS; (try dsimp only at hS); obtain ⟨hS0, hS1, hS2, hS3, hS4⟩ := hS; go_simp; first | done | (with_reducible rfl)
    try simp only [Act.put, List.setIfInBounds_toArray, List.set_cons_zero, List.set_cons_succ]
    refine takeH (i := 4) (v := ?_) rfl (by kernel_rfl) (by kernel_rfl) (by kernel_rfl) (fun _ _ _ h => h) rfl ?_ hHeld ?_
    rotate_left
    · intro w hS; (try dsimp only at hS); obtain ⟨hS0, hS1, hS2, hS3, hS4⟩ := hS; go_simp; first | done | (with_reducible rfl)
    try simp only [Act.put, List.setIfInBounds_toArray, List.set_cons_zero, List.set_cons_succ]
    refine takeH (i := 5) (v := ?_) rfl (by kernel_rfl) (by kernel_rfl) (by kernel_rfl) (fun _ _ _ h => h) rfl ?_ hHeld ?_
    rotate_left
    · intro w hS; (try dsimp only at hS); obtain ⟨hS0, hS1, hS2, hS3, hS4⟩ := hS; go_simp; first | done | (with_reducible rfl)
    try simp only [Act.put, List.setIfInBounds_toArray, List.set_cons_zero, List.set_cons_succ]
    refine takeH (i := 6) (v := ?_) rfl (by kernel_rfl) (by kernel_rfl) (by kernel_rfl) (fun _ _ _ h => h) rfl ?_ hHeld ?_
    rotate_left
    · intro w hS; (try dsimp only at hS); obtain ⟨hS0, hS1, hS2, hS3, hS4⟩ := hS; go_simp; first | done | (with_reducible rfl)
    try simp only [Act.put, List.setIfInBounds_toArray, List.set_cons_zero, List.set_cons_succ]
    refine takeH (i := 7) (v := ?_) rfl (by kernel_rfl) (by kernel_rfl) (by kernel_rfl) (fun _ _ _ h => h) rfl ?_ hHeld ?_
    rotate_left
    · intro w hS; (try dsimp only at hS); obtain ⟨hS0, hS1, hS2, hS3, hS4⟩ := hS; go_simp; first | done | (with_reducible rfl)
    try simp only [Act.put, List.setIfInBounds_toArray, List.set_cons_zero, List.set_cons_succ]
    refine takeH (i := 8) (v := ?_) rfl (by kernel_rfl) (by kernel_rfl) (by kernel_rfl) (fun _ _ _ h => h) rfl ?_ hHeld ?_
    rotate_left
    · intro w hS; (try dsimp only at hS); obtain ⟨hS0, hS1, hS2, hS3, hS4⟩ := hS; go_simp; first | done | (with_reducible rfl)
    try simp only [Act.put, List.setIfInBounds_toArray, List.set_cons_zero, List.set_cons_succ]
    refine takeH (i := 9) (v := ?_) rfl (by kernel_rfl) (by kernel_rfl) (by kernel_rfl) (fun _ _ _ h => h) rfl ?_ hHeld ?_
    rotate_left
    · intro w hS; (try dsimp only at hS); obtain ⟨hS0, hS1, hS2, hS3, hS4⟩ := hS; go_simp; first | done | (with_reducible rfl)
    try simp only [Act.put, List.setIfInBounds_toArray, List.set_cons_zero, List.set_cons_succ]
    refine takeH (i := 10) (v := ?_) rfl (by kernel_rfl) (by kernel_rfl) (by kernel_rfl) (fun _ _ _ h => h) rfl ?_ hHeld ?_
    rotate_left
    · intro w hS; (try dsimp only at hS); obtain ⟨hS0, hS1, hS2, hS3, hS4⟩ := hS; go_simp; first | done | (with_reducible rfl)
    try simp only [Act.put, List.setIfInBounds_toArray, List.set_cons_zero, List.set_cons_succ]
    refine takeH (i := 11) (v := ?_) rfl (by kernel_rfl) (by kernel_rfl) (by kernel_rfl) (fun _ _ _ h => h) rfl ?_ hHeld ?_
    rotate_left
    · intro w hS; (try dsimp only at hS); obtain ⟨hS0, hS1, hS2, hS3, hS4⟩ := hS; go_simp; first | done | (with_reducible rfl)
    try simp only [Act.put, List.setIfInBounds_toArray, List.set_cons_zero, List.set_cons_succ]
    refine onlyH (i := 12) rfl (by kernel_rfl) rfl (fun K hK => ?_)
    go_simp
    refine (eachIds_any w1 _ c.2.1 hL1).mono ?_
    rintro e w2 ⟨rfl, hb2⟩
    rw [h2]
    have y2 := (hb2.block _ (lt_of_heap y1)).trans y1
    have k20 := cell_of_row w2 w.heap.size 0 _ _ _ y2
    have k21 := cell_of_row w2 w.heap.size 1 _ _ _ y2
    have k22 := cell_of_row w2 w.heap.size 2 _ _ _ y2
    have k23 := cell_of_row w2 w.heap.size 3 _ _ _ y2
    have k24 := cell_of_row w2 w.heap.size 4 _ _ _ y2
    simp only [List.getElem?_toArray, List.getElem?_cons_zero, List.getElem?_cons_succ] at k20 k21 k22 k23 k24
    have hbA2 := hbA1.trans (hb2.mono hbA1.size)
    have hL2 := hL1.past hb2
    refine hK.out _ _ (⟨k20, k21, k22, k23, k24⟩) (fun hHeld => ?_)
    clear hK K
    try simp only [Act.put, List.setIfInBounds_toArray, List.set_cons_zero, List.set_cons_succ]
    refine takeH (i := 13) (v := ?_) rfl (by kernel_rfl) (by kernel_rfl) (by kernel_rfl) (fun _ _ _ h => h) rfl ?_ hHeld ?_
    rotate_left
    · intro w hS; (try dsimp only at hS); obtain ⟨hS0, hS1, hS2, hS3, hS4⟩ := hS; go_simp; first | done | (with_reducible rfl)
    try simp only [Act.put, List.setIfInBounds_toArray, List.set_cons_zero, List.set_cons_succ]
    refine takeH (i := 14) (v := ?_) rfl (by kernel_rfl) (by kernel_rfl) (by kernel_rfl) (fun _ _ _ h => h) rfl ?_ hHeld ?_
    rotate_left
    · intro w hS; (try dsimp only at hS); obtain ⟨hS0, hS1, hS2, hS3, hS4⟩ := hS; go_simp; first | done | (with_reducible rfl)
    try simp only [Act.put, List.setIfInBounds_toArray, List.set_cons_zero, List.set_cons_succ]
    refine takeH (i := 15) (v := ?_) rfl (by kernel_rfl) (by kernel_rfl) (by kernel_rfl) (fun _ _ _ h => h) rfl ?_ hHeld ?_
    rotate_left
    · intro w hS; (try dsimp only at hS); obtain ⟨hS0, hS1, hS2, hS3, hS4⟩ := hS; go_simp; first | done | (with_reducible rfl)
    try simp only [Act.put, List.setIfInBounds_toArray, List.set_cons_zero, List.set_cons_succ]
    refine takeH (i := 16) (v := ?_) rfl (by kernel_rfl) (by kernel_rfl) (by kernel_rfl) (fun _ _ _ h => h) rfl ?_ hHeld ?_
    rotate_left
    · intro w hS; (try dsimp only at hS); obtain ⟨hS0, hS1, hS2, hS3, hS4⟩ := hS; go_simp; first | done | (with_reducible rfl)
    try simp only [Act.put, List.setIfInBounds_toArray, List.set_cons_zero, List.set_cons_succ]
    refine takeH (i := 19) (v := ?_) rfl (by kernel_rfl) (by kernel_rfl) (by kernel_rfl) (fun _ _ _ h => h) rfl ?_ hHeld ?_
    rotate_left
    · intro w hS; (try dsimp only at hS); obtain ⟨hS0, hS1, hS2, hS3, hS4⟩ := hS; go_simp; first | done | (with_reducible rfl)
    try simp only [Act.put, List.setIfInBounds_toArray, List.set_cons_zero, List.set_cons_succ]
    refine takeH (i := 20) (v := ?_) rfl (by kernel_rfl) (by kernel_rfl) (by kernel_rfl) (fun _ _ _ h => h) rfl ?_ hHeld ?_
    rotate_left
    · intro w hS; (try dsimp only at hS); obtain ⟨hS0, hS1, hS2, hS3, hS4⟩ := hS; go_simp; first | done | (with_reducible rfl)
    try simp only [Act.put, List.setIfInBounds_toArray, List.set_cons_zero, List.set_cons_succ]
    refine takeH (i := 21) (v := ?_) rfl (by kernel_rfl) (by kernel_rfl) (by kernel_rfl) (fun _ _ _ h => h) rfl ?_ hHeld ?_
    rotate_left
    · intro w hS; (try dsimp only at hS); obtain ⟨hS0, hS1, hS2, hS3, hS4⟩ := hS; go_simp; first | done | (with_reducible rfl)
    try simp only [Act.put, List.setIfInBounds_toArray, List.set_cons_zero, List.set_cons_succ]
    refine onlyH (i := 17) rfl (by kernel_rfl) rfl (fun K hK => ?_)
    go_simp
    refine (eachOnce_any w2 _ c.2.1 hL2 (by simp at h1; omega)).mono ?_
    rintro e w3 ⟨v3, rfl, hown3, hb3⟩
    obtain ⟨a3, c3, rfl, -⟩ := own_form hown3
    clear hown3
    have y3 := (hb3.block _ (lt_of_heap y2)).trans y2
    have k30 := cell_of_row w3 w.heap.size 0 _ _ _ y3
    have k31 := cell_of_row w3 w.heap.size 1 _ _ _ y3
    have k32 := cell_of_row w3 w.heap.size 2 _ _ _ y3
    have k33 := cell_of_row w3 w.heap.size 3 _ _ _ y3
    have k34 := cell_of_row w3 w.heap.size 4 _ _ _ y3
    simp only [List.getElem?_toArray, List.getElem?_cons_zero, List.getElem?_cons_succ] at k30 k31 k32 k33 k34
    have hbA3 := hbA2.trans (hb3.mono hbA2.size)
    have hL3 := hL2.past hb3
    refine hK.out _ _ (⟨k30, k31, k32, k33, k34⟩) (fun hHeld => ?_)
    clear hK K
    try simp only [Act.put, List.setIfInBounds_toArray, List.set_cons_zero, List.set_cons_succ]
    refine takeH (i := 18) (v := ?_) rfl (by kernel_rfl) (by kernel_rfl) (by kernel_rfl) (fun _ _ _ h => h) rfl ?_ hHeld ?_
    rotate_left
    · intro w hS; (try dsimp only at hS); obtain ⟨hS0, hS1, hS2, hS3, hS4⟩ := hS; go_simp; first | done | (with_reducible rfl)
    try simp only [Act.put, List.setIfInBounds_toArray, List.set_cons_zero, List.set_cons_succ]
    refine takeH (i := 22) (v := ?_) rfl (by kernel_rfl) (by kernel_rfl) (by kernel_rfl) (fun _ _ _ h => h) rfl ?_ hHeld ?_
    rotate_left
    · intro w hS; (try dsimp only at hS); obtain ⟨hS0, hS1, hS2, hS3, hS4⟩ := hS; go_simp; first | done | (with_reducible rfl)
    try simp only [Act.put, List.setIfInBounds_toArray, List.set_cons_zero, List.set_cons_succ]
    refine takeH (i := 23) (v := ?_) rfl (by kernel_rfl) (by kernel_rfl) (by kernel_rfl) (fun _ _ _ h => h) rfl ?_ hHeld ?_
    rotate_left
    · intro w hS; (try dsimp only at hS); obtain ⟨hS0, hS1, hS2, hS3, hS4⟩ := hS; go_simp; first | done | (with_reducible rfl)
    try simp only [Act.put, List.setIfInBounds_toArray, List.set_cons_zero, List.set_cons_succ]
    refine takeH (i := 24) (v := ?_) rfl (by kernel_rfl) (by kernel_rfl) (by kernel_rfl) (fun _ _ _ h => h) rfl ?_ hHeld ?_
    rotate_left
    · intro w hS; (try dsimp only at hS); obtain ⟨hS0, hS1, hS2, hS3, hS4⟩ := hS; go_simp; first | done | (with_reducible rfl)
    try simp only [Act.put, List.setIfInBounds_toArray, List.set_cons_zero, List.set_cons_succ]
    refine takeH (i := 25) (v := ?_) rfl (by kernel_rfl) (by kernel_rfl) (by kernel_rfl) (fun _ _ _ h => h) rfl ?_ hHeld ?_
    rotate_left
    · intro w hS; (try dsimp only at hS); obtain ⟨hS0, hS1, hS2, hS3, hS4⟩ := hS; go_simp; first | done | (with_reducible rfl)
    try simp only [Act.put, List.setIfInBounds_toArray, List.set_cons_zero, List.set_cons_succ]
    refine takeH (i := 26) (v := ?_) rfl (by kernel_rfl) (by kernel_rfl) (by kernel_rfl) (fun _ _ _ h => h) rfl ?_ hHeld ?_
    rotate_left
    · intro w hS; (try dsimp only at hS); obtain ⟨hS0, hS1, hS2, hS3, hS4⟩ := hS; go_simp; first | done | (with_reducible rfl)
    try simp only [Act.put, List.setIfInBounds_toArray, List.set_cons_zero, List.set_cons_succ]
    refine takeH (i := 27) (v := ?_) rfl (by kernel_rfl) (by kernel_rfl) (by kernel_rfl) (fun _ _ _ h => h) rfl ?_ hHeld ?_
    rotate_left
    · intro w hS; (try dsimp only at hS); obtain ⟨hS0, hS1, hS2, hS3, hS4⟩ := hS; go_simp; first | done | (with_reducible rfl)
    try simp only [Act.put, List.setIfInBounds_toArray, List.set_cons_zero, List.set_cons_succ]
    refine takeH (i := 28) (v := ?_) rfl (by kernel_rfl) (by kernel_rfl) (by kernel_rfl) (fun _ _ _ h => h) rfl ?_ hHeld ?_
    rotate_left
    · intro w hS; (try dsimp only at hS); obtain ⟨hS0, hS1, hS2, hS3, hS4⟩ := hS; go_simp; first | done | (with_reducible rfl)
    try simp only [Act.put, List.setIfInBounds_toArray, List.set_cons_zero, List.set_cons_succ]
    refine takeH (i := 29) (v := ?_) rfl (by kernel_rfl) (by kernel_rfl) (by kernel_rfl) (fun _ _ _ h => h) rfl ?_ hHeld ?_
    rotate_left
    · intro w hS; (try dsimp only at hS); obtain ⟨hS0, hS1, hS2, hS3, hS4⟩ := hS; go_simp; first | done | (with_reducible rfl)
    try simp only [Act.put, List.setIfInBounds_toArray, List.set_cons_zero, List.set_cons_succ]
    refine takeH (i := 30) (v := ?_) rfl (by kernel_rfl) (by kernel_rfl) (by kernel_rfl) (fun _ _ _ h => h) rfl ?_ hHeld ?_
    rotate_left
    · intro w hS; (try dsimp only at hS); obtain ⟨hS0, hS1, hS2, hS3, hS4⟩ := hS; go_simp; first | done | (with_reducible rfl)
    try simp only [Act.put, List.setIfInBounds_toArray, List.set_cons_zero, List.set_cons_succ]
    refine takeH (i := 31) (v := ?_) rfl (by kernel_rfl) (by kernel_rfl) (by kernel_rfl) (fun _ _ _ h => h) rfl ?_ hHeld ?_
    rotate_left
    · intro w hS; (try dsimp only at hS); obtain ⟨hS0, hS1, hS2, hS3, hS4⟩ := hS; go_simp; first | done | (with_reducible rfl)
    try simp only [Act.put, List.setIfInBounds_toArray, List.set_cons_zero, List.set_cons_succ]
    refine takeH (i := 32) (v := ?_) rfl (by kernel_rfl) (by kernel_rfl) (by kernel_rfl) (fun _ _ _ h => h) rfl ?_ hHeld ?_
    rotate_left
    · intro w hS; (try dsimp only at hS); obtain ⟨hS0, hS1, hS2, hS3, hS4⟩ := hS; go_simp; first | done | (with_reducible rfl)
    try simp only [Act.put, List.setIfInBounds_toArray, List.set_cons_zero, List.set_cons_succ]
    refine takeH (i := 33) (v := ?_) rfl (by kernel_rfl) (by kernel_rfl) (by kernel_rfl) (fun _ _ _ h => h) rfl ?_ hHeld ?_
    rotate_left
    · intro w hS; (try dsimp only at hS); obtain ⟨hS0, hS1, hS2, hS3, hS4⟩ := hS; go_simp; first | done | (with_reducible rfl)
    try simp only [Act.put, List.setIfInBounds_toArray, List.set_cons_zero, List.set_cons_succ]
    refine takeH (i := 34) (v := ?_) rfl (by kernel_rfl) (by kernel_rfl) (by kernel_rfl) (fun _ _ _ h => h) rfl ?_ hHeld ?_
    rotate_left
    · intro w hS; (try dsimp only at hS); obtain ⟨hS0, hS1, hS2, hS3, hS4⟩ := hS; go_simp; first | done | (with_reducible rfl)
    try simp only [Act.put, List.setIfInBounds_toArray, List.set_cons_zero, List.set_cons_succ]
    refine takeH (i := 35) (v := ?_) rfl (by kernel_rfl) (by kernel_rfl) (by kernel_rfl) (fun _ _ _ h => h) rfl ?_ hHeld ?_
    rotate_left
    · intro w hS; (try dsimp only at hS); obtain ⟨hS0, hS1, hS2, hS3, hS4⟩ := hS; go_simp; first | done | (with_reducible rfl)
    try simp only [Act.put, List.setIfInBounds_toArray, List.set_cons_zero, List.set_cons_succ]
    refine takeH (i := 36) (v := ?_) rfl (by kernel_rfl) (by kernel_rfl) (by kernel_rfl) (fun _ _ _ h => h) rfl ?_ hHeld ?_
    rotate_left
    · intro w hS; (try dsimp only at hS); obtain ⟨hS0, hS1, hS2, hS3, hS4⟩ := hS; go_simp; first | done | (with_reducible rfl)
    try simp only [Act.put, List.setIfInBounds_toArray, List.set_cons_zero, List.set_cons_succ]
    refine skipH (i := 37) rfl (by kernel_rfl) (by kernel_rfl) (by kernel_rfl) (fun _ _ _ h => h) rfl hHeld ?_
    try simp only [Act.put, List.setIfInBounds_toArray, List.set_cons_zero, List.set_cons_succ]
    refine skipH (i := 38) rfl (by kernel_rfl) (by kernel_rfl) (by kernel_rfl) (fun _ _ _ h => h) rfl hHeld ?_
    try simp only [Act.put, List.setIfInBounds_toArray, List.set_cons_zero, List.set_cons_succ]
    refine skipH (i := 39) rfl (by kernel_rfl) (by kernel_rfl) (by kernel_rfl) (fun _ _ _ h => h) rfl hHeld ?_
    try simp only [Act.put, List.setIfInBounds_toArray, List.set_cons_zero, List.set_cons_succ]
    refine takeH (i := 40) (v := ?_) rfl (by kernel_rfl) (by kernel_rfl) (by kernel_rfl) (fun _ _ _ h => h) rfl ?_ hHeld ?_
    rotate_left
    · intro w hS; (try dsimp only at hS); obtain ⟨hS0, hS1, hS2, hS3, hS4⟩ := hS; go_simp; first | done | (with_reducible rfl)
    try simp only [Act.put, List.setIfInBounds_toArray, List.set_cons_zero, List.set_cons_succ]
    refine takeH (i := 41) (v := ?_) rfl (by kernel_rfl) (by kernel_rfl) (by kernel_rfl) (fun _ _ _ h => h) rfl ?_ hHeld ?_
    rotate_left
    · intro w hS; (try dsimp only at hS); obtain ⟨hS0, hS1, hS2, hS3, hS4⟩ := hS; go_simp; first | done | (with_reducible rfl)
    try simp only [Act.put, List.setIfInBounds_toArray, List.set_cons_zero, List.set_cons_succ]
    refine skipH (i := 42) rfl (by kernel_rfl) (by kernel_rfl) (by kernel_rfl) (fun _ _ _ h => h) rfl hHeld ?_
    try simp only [Act.put, List.setIfInBounds_toArray, List.set_cons_zero, List.set_cons_succ]
    refine skipH (i := 43) rfl (by kernel_rfl) (by kernel_rfl) (by kernel_rfl) (fun _ _ _ h => h) rfl hHeld ?_
    try simp only [Act.put, List.setIfInBounds_toArray, List.set_cons_zero, List.set_cons_succ]
    refine skipH (i := 44) rfl (by kernel_rfl) (by kernel_rfl) (by kernel_rfl) (fun _ _ _ h => h) rfl hHeld ?_
    try simp only [Act.put, List.setIfInBounds_toArray, List.set_cons_zero, List.set_cons_succ]
    refine takeH (i := 45) (v := ?_) rfl (by kernel_rfl) (by kernel_rfl) (by kernel_rfl) (fun _ _ _ h => h) rfl ?_ hHeld ?_
    rotate_left
    · intro w hS; (try dsimp only at hS); obtain ⟨hS0, hS1, hS2, hS3, hS4⟩ := hS; go_simp; first | done | (with_reducible rfl)
    try simp only [Act.put, List.setIfInBounds_toArray, List.set_cons_zero, List.set_cons_succ]
    refine takeH (i := 46) (v := ?_) rfl (by kernel_rfl) (by kernel_rfl) (by kernel_rfl) (fun _ _ _ h => h) rfl ?_ hHeld ?_
    rotate_left
    · intro w hS; (try dsimp only at hS); obtain ⟨hS0, hS1, hS2, hS3, hS4⟩ := hS; go_simp; first | done | (with_reducible rfl)
    try simp only [Act.put, List.setIfInBounds_toArray, List.set_cons_zero, List.set_cons_succ]
    refine wpAnyH_done (by kernel_rfl) ?_ _
    clear hHeld
    go_wp2
    go_ret
    exact ⟨ret_bool (by first | rfl | assumption), hbA3⟩
  by_cases h6 : (decide (0 ≤ c.2.2.2.1)) = true
  rotate_left
  · have h6 := Bool.eq_false_iff.2 h6
    have hF : commitOk c = false := by rw [hok]; simp only [h0, h1, h2, h3, h4, h5, h6, Bool.and_false, Bool.false_and, Bool.and_true]
    clear hok
    rw [hF]
    go_enter Tryz.func82, Tryz.ntmps82
    go_wp2_with fail
    generalize hw0 : w.alloc (.cells #[.string (strB c.1), .slice ao c.2.1.length cap, .string (strB c.2.2.1), .int .i64 c.2.2.2.1, .string (strB c.2.2.2.2)] 64) = w0 at *
    refine wp_region_held_drew (S := fun W => W.cell? ⟨w.heap.size, 0, none⟩ = some (.string (strB c.1)) ∧ W.cell? ⟨w.heap.size, 1, none⟩ = some (.slice ao c.2.1.length cap) ∧ W.cell? ⟨w.heap.size, 2, none⟩ = some (.string (strB c.2.2.1)) ∧ W.cell? ⟨w.heap.size, 3, none⟩ = some (.int .i64 c.2.2.2.1) ∧ W.cell? ⟨w.heap.size, 4, none⟩ = some (.string (strB c.2.2.2.2))) (by kernel_rfl) (⟨k00, k01, k02, k03, k04⟩) (fun hHeld => ?_)
    refine takeH (i := 0) (v := ?_) rfl (by kernel_rfl) (by kernel_rfl) (by kernel_rfl) (fun _ _ _ h => h) rfl ?_ hHeld ?_
    rotate_left
    · intro w hS; (try dsimp only at hS); obtain ⟨hS0, hS1, hS2, hS3, hS4⟩ := hS; go_simp; first | done | (with_reducible rfl)
    try simp only [Act.put, List.setIfInBounds_toArray, List.set_cons_zero, List.set_cons_succ]
    refine takeH (i := 1) (v := ?_) rfl (by kernel_rfl) (by kernel_rfl) (by kernel_rfl) (fun _ _ _ h => h) rfl ?_ hHeld ?_
    rotate_left
    · intro w hS; (try dsimp only at hS); obtain ⟨hS0, hS1, hS2, hS3, hS4⟩ := hS; go_simp; first | done | (with_reducible rfl)
    try simp only [Act.put, List.setIfInBounds_toArray, List.set_cons_zero, List.set_cons_succ]
    refine onlyH (i := 2) rfl (by kernel_rfl) rfl (fun K hK => ?_)
    go_simp
    refine (id1_any w0.drew c.1).mono ?_
    rintro e w1 ⟨rfl, hb1⟩
    have hb1 : Below w0.heap.size w0 w1 := (Below.refl _ _).drew.trans hb1
    rw [h0]
    have y1 := (hb1.block _ (lt_of_heap y0)).trans y0
    have k10 := cell_of_row w1 w.heap.size 0 _ _ _ y1
    have k11 := cell_of_row w1 w.heap.size 1 _ _ _ y1
    have k12 := cell_of_row w1 w.heap.size 2 _ _ _ y1
    have k13 := cell_of_row w1 w.heap.size 3 _ _ _ y1
    have k14 := cell_of_row w1 w.heap.size 4 _ _ _ y1
    simp only [List.getElem?_toArray, List.getElem?_cons_zero, List.getElem?_cons_succ] at k10 k11 k12 k13 k14
    have hbA1 := hbA0.trans (hb1.mono hbA0.size)
    have hL1 := hL0.past hb1
    refine hK.out _ _ (⟨k10, k11, k12, k13, k14⟩) (fun hHeld => ?_)
    clear hK K
    try simp only [Act.put, List.setIfInBounds_toArray, List.set_cons_zero, List.set_cons_succ]
    refine takeH (i := 3) (v := ?_) rfl (by kernel_rfl) (by kernel_rfl) (by kernel_rfl) (fun _ _ _ h => h) rfl ?_ hHeld ?_
    rotate_left
    · intro w hS; (try dsimp only at hS); obtain ⟨hS0, hS1, hS2, hS3, hS4⟩ := hS; go_simp; first | done | (with_reducible rfl)
    try simp only [Act.put, List.setIfInBounds_toArray, List.set_cons_zero, List.set_cons_succ]
    refine takeH (i := 4) (v := ?_) rfl (by kernel_rfl) (by kernel_rfl) (by kernel_rfl) (fun _ _ _ h => h) rfl ?_ hHeld ?_
    rotate_left
    · intro w hS; (try dsimp only at hS); obtain ⟨hS0, hS1, hS2, hS3, hS4⟩ := hS; go_simp; first | done | (with_reducible rfl)
    try simp only [Act.put, List.setIfInBounds_toArray, List.set_cons_zero, List.set_cons_succ]
    refine takeH (i := 5) (v := ?_) rfl (by kernel_rfl) (by kernel_rfl) (by kernel_rfl) (fun _ _ _ h => h) rfl ?_ hHeld ?_
    rotate_left
    · intro w hS; (try dsimp only at hS); obtain ⟨hS0, hS1, hS2, hS3, hS4⟩ := hS; go_simp; first | done | (with_reducible rfl)
    try simp only [Act.put, List.setIfInBounds_toArray, List.set_cons_zero, List.set_cons_succ]
    refine takeH (i := 6) (v := ?_) rfl (by kernel_rfl) (by kernel_rfl) (by kernel_rfl) (fun _ _ _ h => h) rfl ?_ hHeld ?_
    rotate_left
    · intro w hS; (try dsimp only at hS); obtain ⟨hS0, hS1, hS2, hS3, hS4⟩ := hS; go_simp; first | done | (with_reducible rfl)
    try simp only [Act.put, List.setIfInBounds_toArray, List.set_cons_zero, List.set_cons_succ]
    refine takeH (i := 7) (v := ?_) rfl (by kernel_rfl) (by kernel_rfl) (by kernel_rfl) (fun _ _ _ h => h) rfl ?_ hHeld ?_
    rotate_left
    · intro w hS; (try dsimp only at hS); obtain ⟨hS0, hS1, hS2, hS3, hS4⟩ := hS; go_simp; first | done | (with_reducible rfl)
    try simp only [Act.put, List.setIfInBounds_toArray, List.set_cons_zero, List.set_cons_succ]
    refine takeH (i := 8) (v := ?_) rfl (by kernel_rfl) (by kernel_rfl) (by kernel_rfl) (fun _ _ _ h => h) rfl ?_ hHeld ?_
    rotate_left
    · intro w hS; (try dsimp only at hS); obtain ⟨hS0, hS1, hS2, hS3, hS4⟩ := hS; go_simp; first | done | (with_reducible rfl)
    try simp only [Act.put, List.setIfInBounds_toArray, List.set_cons_zero, List.set_cons_succ]
    refine takeH (i := 9) (v := ?_) rfl (by kernel_rfl) (by kernel_rfl) (by kernel_rfl) (fun _ _ _ h => h) rfl ?_ hHeld ?_
    rotate_left
    · intro w hS; (try dsimp only at hS); obtain ⟨hS0, hS1, hS2, hS3, hS4⟩ := hS; go_simp; first | done | (with_reducible rfl)
    try simp only [Act.put, List.setIfInBounds_toArray, List.set_cons_zero, List.set_cons_succ]
    refine takeH (i := 10) (v := ?_) rfl (by kernel_rfl) (by kernel_rfl) (by kernel_rfl) (fun _ _ _ h => h) rfl ?_ hHeld ?_
    rotate_left
    · intro w hS; (try dsimp only at hS); obtain ⟨hS0, hS1, hS2, hS3, hS4⟩ := hS; go_simp; first | done | (with_reducible rfl)
    try simp only [Act.put, List.setIfInBounds_toArray, List.set_cons_zero, List.set_cons_succ]
    refine takeH (i := 11) (v := ?_) rfl (by kernel_rfl) (by kernel_rfl) (by kernel_rfl) (fun _ _ _ h => h) rfl ?_ hHeld ?_
    rotate_left
    · intro w hS; (try dsimp only at hS); obtain ⟨hS0, hS1, hS2, hS3, hS4⟩ := hS; go_simp; first | done | (with_reducible rfl)
    try simp only [Act.put, List.setIfInBounds_toArray, List.set_cons_zero, List.set_cons_succ]
    refine onlyH (i := 12) rfl (by kernel_rfl) rfl (fun K hK => ?_)
    go_simp
    refine (eachIds_any w1 _ c.2.1 hL1).mono ?_
    rintro e w2 ⟨rfl, hb2⟩
    rw [h2]
    have y2 := (hb2.block _ (lt_of_heap y1)).trans y1
    have k20 := cell_of_row w2 w.heap.size 0 _ _ _ y2
    have k21 := cell_of_row w2 w.heap.size 1 _ _ _ y2
    have k22 := cell_of_row w2 w.heap.size 2 _ _ _ y2
    have k23 := cell_of_row w2 w.heap.size 3 _ _ _ y2
    have k24 := cell_of_row w2 w.heap.size 4 _ _ _ y2
    simp only [List.getElem?_toArray, List.getElem?_cons_zero, List.getElem?_cons_succ] at k20 k21 k22 k23 k24
    have hbA2 := hbA1.trans (hb2.mono hbA1.size)
    have hL2 := hL1.past hb2
    refine hK.out _ _ (⟨k20, k21, k22, k23, k24⟩) (fun hHeld => ?_)
    clear hK K
    try simp only [Act.put, List.setIfInBounds_toArray, List.set_cons_zero, List.set_cons_succ]
    refine takeH (i := 13) (v := ?_) rfl (by kernel_rfl) (by kernel_rfl) (by kernel_rfl) (fun _ _ _ h => h) rfl ?_ hHeld ?_
    rotate_left
    · intro w hS; (try dsimp only at hS); obtain ⟨hS0, hS1, hS2, hS3, hS4⟩ := hS; go_simp; first | done | (with_reducible rfl)
    try simp only [Act.put, List.setIfInBounds_toArray, List.set_cons_zero, List.set_cons_succ]
    refine takeH (i := 14) (v := ?_) rfl (by kernel_rfl) (by kernel_rfl) (by kernel_rfl) (fun _ _ _ h => h) rfl ?_ hHeld ?_
    rotate_left
    · intro w hS; (try dsimp only at hS); obtain ⟨hS0, hS1, hS2, hS3, hS4⟩ := hS; go_simp; first | done | (with_reducible rfl)
    try simp only [Act.put, List.setIfInBounds_toArray, List.set_cons_zero, List.set_cons_succ]
    refine takeH (i := 15) (v := ?_) rfl (by kernel_rfl) (by kernel_rfl) (by kernel_rfl) (fun _ _ _ h => h) rfl ?_ hHeld ?_
    rotate_left
    · intro w hS; (try dsimp only at hS); obtain ⟨hS0, hS1, hS2, hS3, hS4⟩ := hS; go_simp; first | done | (with_reducible rfl)
    try simp only [Act.put, List.setIfInBounds_toArray, List.set_cons_zero, List.set_cons_succ]
    refine takeH (i := 16) (v := ?_) rfl (by kernel_rfl) (by kernel_rfl) (by kernel_rfl) (fun _ _ _ h => h) rfl ?_ hHeld ?_
    rotate_left
    · intro w hS; (try dsimp only at hS); obtain ⟨hS0, hS1, hS2, hS3, hS4⟩ := hS; go_simp; first | done | (with_reducible rfl)
    try simp only [Act.put, List.setIfInBounds_toArray, List.set_cons_zero, List.set_cons_succ]
    refine takeH (i := 19) (v := ?_) rfl (by kernel_rfl) (by kernel_rfl) (by kernel_rfl) (fun _ _ _ h => h) rfl ?_ hHeld ?_
    rotate_left
    · intro w hS; (try dsimp only at hS); obtain ⟨hS0, hS1, hS2, hS3, hS4⟩ := hS; go_simp; first | done | (with_reducible rfl)
    try simp only [Act.put, List.setIfInBounds_toArray, List.set_cons_zero, List.set_cons_succ]
    refine takeH (i := 20) (v := ?_) rfl (by kernel_rfl) (by kernel_rfl) (by kernel_rfl) (fun _ _ _ h => h) rfl ?_ hHeld ?_
    rotate_left
    · intro w hS; (try dsimp only at hS); obtain ⟨hS0, hS1, hS2, hS3, hS4⟩ := hS; go_simp; first | done | (with_reducible rfl)
    try simp only [Act.put, List.setIfInBounds_toArray, List.set_cons_zero, List.set_cons_succ]
    refine takeH (i := 21) (v := ?_) rfl (by kernel_rfl) (by kernel_rfl) (by kernel_rfl) (fun _ _ _ h => h) rfl ?_ hHeld ?_
    rotate_left
    · intro w hS; (try dsimp only at hS); obtain ⟨hS0, hS1, hS2, hS3, hS4⟩ := hS; go_simp; first | done | (with_reducible rfl)
    try simp only [Act.put, List.setIfInBounds_toArray, List.set_cons_zero, List.set_cons_succ]
    refine onlyH (i := 17) rfl (by kernel_rfl) rfl (fun K hK => ?_)
    go_simp
    refine (eachOnce_any w2 _ c.2.1 hL2 (by simp at h1; omega)).mono ?_
    rintro e w3 ⟨v3, rfl, hown3, hb3⟩
    obtain ⟨a3, c3, rfl, -⟩ := own_form hown3
    clear hown3
    have y3 := (hb3.block _ (lt_of_heap y2)).trans y2
    have k30 := cell_of_row w3 w.heap.size 0 _ _ _ y3
    have k31 := cell_of_row w3 w.heap.size 1 _ _ _ y3
    have k32 := cell_of_row w3 w.heap.size 2 _ _ _ y3
    have k33 := cell_of_row w3 w.heap.size 3 _ _ _ y3
    have k34 := cell_of_row w3 w.heap.size 4 _ _ _ y3
    simp only [List.getElem?_toArray, List.getElem?_cons_zero, List.getElem?_cons_succ] at k30 k31 k32 k33 k34
    have hbA3 := hbA2.trans (hb3.mono hbA2.size)
    have hL3 := hL2.past hb3
    refine hK.out _ _ (⟨k30, k31, k32, k33, k34⟩) (fun hHeld => ?_)
    clear hK K
    try simp only [Act.put, List.setIfInBounds_toArray, List.set_cons_zero, List.set_cons_succ]
    refine takeH (i := 18) (v := ?_) rfl (by kernel_rfl) (by kernel_rfl) (by kernel_rfl) (fun _ _ _ h => h) rfl ?_ hHeld ?_
    rotate_left
    · intro w hS; (try dsimp only at hS); obtain ⟨hS0, hS1, hS2, hS3, hS4⟩ := hS; go_simp; first | done | (with_reducible rfl)
    try simp only [Act.put, List.setIfInBounds_toArray, List.set_cons_zero, List.set_cons_succ]
    refine takeH (i := 22) (v := ?_) rfl (by kernel_rfl) (by kernel_rfl) (by kernel_rfl) (fun _ _ _ h => h) rfl ?_ hHeld ?_
    rotate_left
    · intro w hS; (try dsimp only at hS); obtain ⟨hS0, hS1, hS2, hS3, hS4⟩ := hS; go_simp; first | done | (with_reducible rfl)
    try simp only [Act.put, List.setIfInBounds_toArray, List.set_cons_zero, List.set_cons_succ]
    refine takeH (i := 23) (v := ?_) rfl (by kernel_rfl) (by kernel_rfl) (by kernel_rfl) (fun _ _ _ h => h) rfl ?_ hHeld ?_
    rotate_left
    · intro w hS; (try dsimp only at hS); obtain ⟨hS0, hS1, hS2, hS3, hS4⟩ := hS; go_simp; first | done | (with_reducible rfl)
    try simp only [Act.put, List.setIfInBounds_toArray, List.set_cons_zero, List.set_cons_succ]
    refine takeH (i := 24) (v := ?_) rfl (by kernel_rfl) (by kernel_rfl) (by kernel_rfl) (fun _ _ _ h => h) rfl ?_ hHeld ?_
    rotate_left
    · intro w hS; (try dsimp only at hS); obtain ⟨hS0, hS1, hS2, hS3, hS4⟩ := hS; go_simp; first | done | (with_reducible rfl)
    try simp only [Act.put, List.setIfInBounds_toArray, List.set_cons_zero, List.set_cons_succ]
    refine takeH (i := 25) (v := ?_) rfl (by kernel_rfl) (by kernel_rfl) (by kernel_rfl) (fun _ _ _ h => h) rfl ?_ hHeld ?_
    rotate_left
    · intro w hS; (try dsimp only at hS); obtain ⟨hS0, hS1, hS2, hS3, hS4⟩ := hS; go_simp; first | done | (with_reducible rfl)
    try simp only [Act.put, List.setIfInBounds_toArray, List.set_cons_zero, List.set_cons_succ]
    refine takeH (i := 26) (v := ?_) rfl (by kernel_rfl) (by kernel_rfl) (by kernel_rfl) (fun _ _ _ h => h) rfl ?_ hHeld ?_
    rotate_left
    · intro w hS; (try dsimp only at hS); obtain ⟨hS0, hS1, hS2, hS3, hS4⟩ := hS; go_simp; first | done | (with_reducible rfl)
    try simp only [Act.put, List.setIfInBounds_toArray, List.set_cons_zero, List.set_cons_succ]
    refine takeH (i := 27) (v := ?_) rfl (by kernel_rfl) (by kernel_rfl) (by kernel_rfl) (fun _ _ _ h => h) rfl ?_ hHeld ?_
    rotate_left
    · intro w hS; (try dsimp only at hS); obtain ⟨hS0, hS1, hS2, hS3, hS4⟩ := hS; go_simp; first | done | (with_reducible rfl)
    try simp only [Act.put, List.setIfInBounds_toArray, List.set_cons_zero, List.set_cons_succ]
    refine takeH (i := 28) (v := ?_) rfl (by kernel_rfl) (by kernel_rfl) (by kernel_rfl) (fun _ _ _ h => h) rfl ?_ hHeld ?_
    rotate_left
    · intro w hS; (try dsimp only at hS); obtain ⟨hS0, hS1, hS2, hS3, hS4⟩ := hS; go_simp; first | done | (with_reducible rfl)
    try simp only [Act.put, List.setIfInBounds_toArray, List.set_cons_zero, List.set_cons_succ]
    refine takeH (i := 29) (v := ?_) rfl (by kernel_rfl) (by kernel_rfl) (by kernel_rfl) (fun _ _ _ h => h) rfl ?_ hHeld ?_
    rotate_left
    · intro w hS; (try dsimp only at hS); obtain ⟨hS0, hS1, hS2, hS3, hS4⟩ := hS; go_simp; first | done | (with_reducible rfl)
    try simp only [Act.put, List.setIfInBounds_toArray, List.set_cons_zero, List.set_cons_succ]
    refine takeH (i := 30) (v := ?_) rfl (by kernel_rfl) (by kernel_rfl) (by kernel_rfl) (fun _ _ _ h => h) rfl ?_ hHeld ?_
    rotate_left
    · intro w hS; (try dsimp only at hS); obtain ⟨hS0, hS1, hS2, hS3, hS4⟩ := hS; go_simp; first | done | (with_reducible rfl)
    try simp only [Act.put, List.setIfInBounds_toArray, List.set_cons_zero, List.set_cons_succ]
    refine takeH (i := 31) (v := ?_) rfl (by kernel_rfl) (by kernel_rfl) (by kernel_rfl) (fun _ _ _ h => h) rfl ?_ hHeld ?_
    rotate_left
    · intro w hS; (try dsimp only at hS); obtain ⟨hS0, hS1, hS2, hS3, hS4⟩ := hS; go_simp; first | done | (with_reducible rfl)
    try simp only [Act.put, List.setIfInBounds_toArray, List.set_cons_zero, List.set_cons_succ]
    refine takeH (i := 32) (v := ?_) rfl (by kernel_rfl) (by kernel_rfl) (by kernel_rfl) (fun _ _ _ h => h) rfl ?_ hHeld ?_
    rotate_left
    · intro w hS; (try dsimp only at hS); obtain ⟨hS0, hS1, hS2, hS3, hS4⟩ := hS; go_simp; first | done | (with_reducible rfl)
    try simp only [Act.put, List.setIfInBounds_toArray, List.set_cons_zero, List.set_cons_succ]
    refine takeH (i := 33) (v := ?_) rfl (by kernel_rfl) (by kernel_rfl) (by kernel_rfl) (fun _ _ _ h => h) rfl ?_ hHeld ?_
    rotate_left
    · intro w hS; (try dsimp only at hS); obtain ⟨hS0, hS1, hS2, hS3, hS4⟩ := hS; go_simp; first | done | (with_reducible rfl)
    try simp only [Act.put, List.setIfInBounds_toArray, List.set_cons_zero, List.set_cons_succ]
    refine takeH (i := 34) (v := ?_) rfl (by kernel_rfl) (by kernel_rfl) (by kernel_rfl) (fun _ _ _ h => h) rfl ?_ hHeld ?_
    rotate_left
    · intro w hS; (try dsimp only at hS); obtain ⟨hS0, hS1, hS2, hS3, hS4⟩ := hS; go_simp; first | done | (with_reducible rfl)
    try simp only [Act.put, List.setIfInBounds_toArray, List.set_cons_zero, List.set_cons_succ]
    refine takeH (i := 35) (v := ?_) rfl (by kernel_rfl) (by kernel_rfl) (by kernel_rfl) (fun _ _ _ h => h) rfl ?_ hHeld ?_
    rotate_left
    · intro w hS; (try dsimp only at hS); obtain ⟨hS0, hS1, hS2, hS3, hS4⟩ := hS; go_simp; first | done | (with_reducible rfl)
    try simp only [Act.put, List.setIfInBounds_toArray, List.set_cons_zero, List.set_cons_succ]
    refine takeH (i := 36) (v := ?_) rfl (by kernel_rfl) (by kernel_rfl) (by kernel_rfl) (fun _ _ _ h => h) rfl ?_ hHeld ?_
    rotate_left
    · intro w hS; (try dsimp only at hS); obtain ⟨hS0, hS1, hS2, hS3, hS4⟩ := hS; go_simp; first | done | (with_reducible rfl)
    try simp only [Act.put, List.setIfInBounds_toArray, List.set_cons_zero, List.set_cons_succ]
    refine takeH (i := 37) (v := ?_) rfl (by kernel_rfl) (by kernel_rfl) (by kernel_rfl) (fun _ _ _ h => h) rfl ?_ hHeld ?_
    rotate_left
    · intro w hS; (try dsimp only at hS); obtain ⟨hS0, hS1, hS2, hS3, hS4⟩ := hS; go_simp; first | done | (with_reducible rfl)
    try simp only [Act.put, List.setIfInBounds_toArray, List.set_cons_zero, List.set_cons_succ]
    refine takeH (i := 38) (v := ?_) rfl (by kernel_rfl) (by kernel_rfl) (by kernel_rfl) (fun _ _ _ h => h) rfl ?_ hHeld ?_
    rotate_left
    · intro w hS; (try dsimp only at hS); obtain ⟨hS0, hS1, hS2, hS3, hS4⟩ := hS; go_simp; first | done | (with_reducible rfl)
    try simp only [Act.put, List.setIfInBounds_toArray, List.set_cons_zero, List.set_cons_succ]
    refine takeH (i := 39) (v := ?_) rfl (by kernel_rfl) (by kernel_rfl) (by kernel_rfl) (fun _ _ _ h => h) rfl ?_ hHeld ?_
    rotate_left
    · intro w hS; (try dsimp only at hS); obtain ⟨hS0, hS1, hS2, hS3, hS4⟩ := hS; go_simp; first | done | (with_reducible rfl)
    try simp only [Act.put, List.setIfInBounds_toArray, List.set_cons_zero, List.set_cons_succ]
    refine takeH (i := 40) (v := ?_) rfl (by kernel_rfl) (by kernel_rfl) (by kernel_rfl) (fun _ _ _ h => h) rfl ?_ hHeld ?_
    rotate_left
    · intro w hS; (try dsimp only at hS); obtain ⟨hS0, hS1, hS2, hS3, hS4⟩ := hS; go_simp; first | done | (with_reducible rfl)
    try simp only [Act.put, List.setIfInBounds_toArray, List.set_cons_zero, List.set_cons_succ]
    refine takeH (i := 41) (v := ?_) rfl (by kernel_rfl) (by kernel_rfl) (by kernel_rfl) (fun _ _ _ h => h) rfl ?_ hHeld ?_
    rotate_left
    · intro w hS; (try dsimp only at hS); obtain ⟨hS0, hS1, hS2, hS3, hS4⟩ := hS; go_simp; first | done | (with_reducible rfl)
    try simp only [Act.put, List.setIfInBounds_toArray, List.set_cons_zero, List.set_cons_succ]
    refine skipH (i := 42) rfl (by kernel_rfl) (by kernel_rfl) (by kernel_rfl) (fun _ _ _ h => h) rfl hHeld ?_
    try simp only [Act.put, List.setIfInBounds_toArray, List.set_cons_zero, List.set_cons_succ]
    refine skipH (i := 43) rfl (by kernel_rfl) (by kernel_rfl) (by kernel_rfl) (fun _ _ _ h => h) rfl hHeld ?_
    try simp only [Act.put, List.setIfInBounds_toArray, List.set_cons_zero, List.set_cons_succ]
    refine skipH (i := 44) rfl (by kernel_rfl) (by kernel_rfl) (by kernel_rfl) (fun _ _ _ h => h) rfl hHeld ?_
    try simp only [Act.put, List.setIfInBounds_toArray, List.set_cons_zero, List.set_cons_succ]
    refine takeH (i := 45) (v := ?_) rfl (by kernel_rfl) (by kernel_rfl) (by kernel_rfl) (fun _ _ _ h => h) rfl ?_ hHeld ?_
    rotate_left
    · intro w hS; (try dsimp only at hS); obtain ⟨hS0, hS1, hS2, hS3, hS4⟩ := hS; go_simp; first | done | (with_reducible rfl)
    try simp only [Act.put, List.setIfInBounds_toArray, List.set_cons_zero, List.set_cons_succ]
    refine takeH (i := 46) (v := ?_) rfl (by kernel_rfl) (by kernel_rfl) (by kernel_rfl) (fun _ _ _ h => h) rfl ?_ hHeld ?_
    rotate_left
    · intro w hS; (try dsimp only at hS); obtain ⟨hS0, hS1, hS2, hS3, hS4⟩ := hS; go_simp; first | done | (with_reducible rfl)
    try simp only [Act.put, List.setIfInBounds_toArray, List.set_cons_zero, List.set_cons_succ]
    refine wpAnyH_done (by kernel_rfl) ?_ _
    clear hHeld
    go_wp2
    go_ret
    exact ⟨ret_bool (by first | rfl | assumption), hbA3⟩
  by_cases h7 : (decide (c.2.2.2.1 ≤ 4611686018427387904)) = true
  rotate_left
  · have h7 := Bool.eq_false_iff.2 h7
    have hF : commitOk c = false := by rw [hok]; simp only [h0, h1, h2, h3, h4, h5, h6, h7, Bool.and_false, Bool.and_true]
    clear hok
    rw [hF]
    go_enter Tryz.func82, Tryz.ntmps82
    go_wp2_with fail
    generalize hw0 : w.alloc (.cells #[.string (strB c.1), .slice ao c.2.1.length cap, .string (strB c.2.2.1), .int .i64 c.2.2.2.1, .string (strB c.2.2.2.2)] 64) = w0 at *
    refine wp_region_held_drew (S := fun W => W.cell? ⟨w.heap.size, 0, none⟩ = some (.string (strB c.1)) ∧ W.cell? ⟨w.heap.size, 1, none⟩ = some (.slice ao c.2.1.length cap) ∧ W.cell? ⟨w.heap.size, 2, none⟩ = some (.string (strB c.2.2.1)) ∧ W.cell? ⟨w.heap.size, 3, none⟩ = some (.int .i64 c.2.2.2.1) ∧ W.cell? ⟨w.heap.size, 4, none⟩ = some (.string (strB c.2.2.2.2))) (by kernel_rfl) (⟨k00, k01, k02, k03, k04⟩) (fun hHeld => ?_)
    refine takeH (i := 0) (v := ?_) rfl (by kernel_rfl) (by kernel_rfl) (by kernel_rfl) (fun _ _ _ h => h) rfl ?_ hHeld ?_
    rotate_left
    · intro w hS; (try dsimp only at hS); obtain ⟨hS0, hS1, hS2, hS3, hS4⟩ := hS; go_simp; first | done | (with_reducible rfl)
    try simp only [Act.put, List.setIfInBounds_toArray, List.set_cons_zero, List.set_cons_succ]
    refine takeH (i := 1) (v := ?_) rfl (by kernel_rfl) (by kernel_rfl) (by kernel_rfl) (fun _ _ _ h => h) rfl ?_ hHeld ?_
    rotate_left
    · intro w hS; (try dsimp only at hS); obtain ⟨hS0, hS1, hS2, hS3, hS4⟩ := hS; go_simp; first | done | (with_reducible rfl)
    try simp only [Act.put, List.setIfInBounds_toArray, List.set_cons_zero, List.set_cons_succ]
    refine onlyH (i := 2) rfl (by kernel_rfl) rfl (fun K hK => ?_)
    go_simp
    refine (id1_any w0.drew c.1).mono ?_
    rintro e w1 ⟨rfl, hb1⟩
    have hb1 : Below w0.heap.size w0 w1 := (Below.refl _ _).drew.trans hb1
    rw [h0]
    have y1 := (hb1.block _ (lt_of_heap y0)).trans y0
    have k10 := cell_of_row w1 w.heap.size 0 _ _ _ y1
    have k11 := cell_of_row w1 w.heap.size 1 _ _ _ y1
    have k12 := cell_of_row w1 w.heap.size 2 _ _ _ y1
    have k13 := cell_of_row w1 w.heap.size 3 _ _ _ y1
    have k14 := cell_of_row w1 w.heap.size 4 _ _ _ y1
    simp only [List.getElem?_toArray, List.getElem?_cons_zero, List.getElem?_cons_succ] at k10 k11 k12 k13 k14
    have hbA1 := hbA0.trans (hb1.mono hbA0.size)
    have hL1 := hL0.past hb1
    refine hK.out _ _ (⟨k10, k11, k12, k13, k14⟩) (fun hHeld => ?_)
    clear hK K
    try simp only [Act.put, List.setIfInBounds_toArray, List.set_cons_zero, List.set_cons_succ]
    refine takeH (i := 3) (v := ?_) rfl (by kernel_rfl) (by kernel_rfl) (by kernel_rfl) (fun _ _ _ h => h) rfl ?_ hHeld ?_
    rotate_left
    · intro w hS; (try dsimp only at hS); obtain ⟨hS0, hS1, hS2, hS3, hS4⟩ := hS; go_simp; first | done | (with_reducible rfl)
    try simp only [Act.put, List.setIfInBounds_toArray, List.set_cons_zero, List.set_cons_succ]
    refine takeH (i := 4) (v := ?_) rfl (by kernel_rfl) (by kernel_rfl) (by kernel_rfl) (fun _ _ _ h => h) rfl ?_ hHeld ?_
    rotate_left
    · intro w hS; (try dsimp only at hS); obtain ⟨hS0, hS1, hS2, hS3, hS4⟩ := hS; go_simp; first | done | (with_reducible rfl)
    try simp only [Act.put, List.setIfInBounds_toArray, List.set_cons_zero, List.set_cons_succ]
    refine takeH (i := 5) (v := ?_) rfl (by kernel_rfl) (by kernel_rfl) (by kernel_rfl) (fun _ _ _ h => h) rfl ?_ hHeld ?_
    rotate_left
    · intro w hS; (try dsimp only at hS); obtain ⟨hS0, hS1, hS2, hS3, hS4⟩ := hS; go_simp; first | done | (with_reducible rfl)
    try simp only [Act.put, List.setIfInBounds_toArray, List.set_cons_zero, List.set_cons_succ]
    refine takeH (i := 6) (v := ?_) rfl (by kernel_rfl) (by kernel_rfl) (by kernel_rfl) (fun _ _ _ h => h) rfl ?_ hHeld ?_
    rotate_left
    · intro w hS; (try dsimp only at hS); obtain ⟨hS0, hS1, hS2, hS3, hS4⟩ := hS; go_simp; first | done | (with_reducible rfl)
    try simp only [Act.put, List.setIfInBounds_toArray, List.set_cons_zero, List.set_cons_succ]
    refine takeH (i := 7) (v := ?_) rfl (by kernel_rfl) (by kernel_rfl) (by kernel_rfl) (fun _ _ _ h => h) rfl ?_ hHeld ?_
    rotate_left
    · intro w hS; (try dsimp only at hS); obtain ⟨hS0, hS1, hS2, hS3, hS4⟩ := hS; go_simp; first | done | (with_reducible rfl)
    try simp only [Act.put, List.setIfInBounds_toArray, List.set_cons_zero, List.set_cons_succ]
    refine takeH (i := 8) (v := ?_) rfl (by kernel_rfl) (by kernel_rfl) (by kernel_rfl) (fun _ _ _ h => h) rfl ?_ hHeld ?_
    rotate_left
    · intro w hS; (try dsimp only at hS); obtain ⟨hS0, hS1, hS2, hS3, hS4⟩ := hS; go_simp; first | done | (with_reducible rfl)
    try simp only [Act.put, List.setIfInBounds_toArray, List.set_cons_zero, List.set_cons_succ]
    refine takeH (i := 9) (v := ?_) rfl (by kernel_rfl) (by kernel_rfl) (by kernel_rfl) (fun _ _ _ h => h) rfl ?_ hHeld ?_
    rotate_left
    · intro w hS; (try dsimp only at hS); obtain ⟨hS0, hS1, hS2, hS3, hS4⟩ := hS; go_simp; first | done | (with_reducible rfl)
    try simp only [Act.put, List.setIfInBounds_toArray, List.set_cons_zero, List.set_cons_succ]
    refine takeH (i := 10) (v := ?_) rfl (by kernel_rfl) (by kernel_rfl) (by kernel_rfl) (fun _ _ _ h => h) rfl ?_ hHeld ?_
    rotate_left
    · intro w hS; (try dsimp only at hS); obtain ⟨hS0, hS1, hS2, hS3, hS4⟩ := hS; go_simp; first | done | (with_reducible rfl)
    try simp only [Act.put, List.setIfInBounds_toArray, List.set_cons_zero, List.set_cons_succ]
    refine takeH (i := 11) (v := ?_) rfl (by kernel_rfl) (by kernel_rfl) (by kernel_rfl) (fun _ _ _ h => h) rfl ?_ hHeld ?_
    rotate_left
    · intro w hS; (try dsimp only at hS); obtain ⟨hS0, hS1, hS2, hS3, hS4⟩ := hS; go_simp; first | done | (with_reducible rfl)
    try simp only [Act.put, List.setIfInBounds_toArray, List.set_cons_zero, List.set_cons_succ]
    refine onlyH (i := 12) rfl (by kernel_rfl) rfl (fun K hK => ?_)
    go_simp
    refine (eachIds_any w1 _ c.2.1 hL1).mono ?_
    rintro e w2 ⟨rfl, hb2⟩
    rw [h2]
    have y2 := (hb2.block _ (lt_of_heap y1)).trans y1
    have k20 := cell_of_row w2 w.heap.size 0 _ _ _ y2
    have k21 := cell_of_row w2 w.heap.size 1 _ _ _ y2
    have k22 := cell_of_row w2 w.heap.size 2 _ _ _ y2
    have k23 := cell_of_row w2 w.heap.size 3 _ _ _ y2
    have k24 := cell_of_row w2 w.heap.size 4 _ _ _ y2
    simp only [List.getElem?_toArray, List.getElem?_cons_zero, List.getElem?_cons_succ] at k20 k21 k22 k23 k24
    have hbA2 := hbA1.trans (hb2.mono hbA1.size)
    have hL2 := hL1.past hb2
    refine hK.out _ _ (⟨k20, k21, k22, k23, k24⟩) (fun hHeld => ?_)
    clear hK K
    try simp only [Act.put, List.setIfInBounds_toArray, List.set_cons_zero, List.set_cons_succ]
    refine takeH (i := 13) (v := ?_) rfl (by kernel_rfl) (by kernel_rfl) (by kernel_rfl) (fun _ _ _ h => h) rfl ?_ hHeld ?_
    rotate_left
    · intro w hS; (try dsimp only at hS); obtain ⟨hS0, hS1, hS2, hS3, hS4⟩ := hS; go_simp; first | done | (with_reducible rfl)
    try simp only [Act.put, List.setIfInBounds_toArray, List.set_cons_zero, List.set_cons_succ]
    refine takeH (i := 14) (v := ?_) rfl (by kernel_rfl) (by kernel_rfl) (by kernel_rfl) (fun _ _ _ h => h) rfl ?_ hHeld ?_
    rotate_left
    · intro w hS; (try dsimp only at hS); obtain ⟨hS0, hS1, hS2, hS3, hS4⟩ := hS; go_simp; first | done | (with_reducible rfl)
    try simp only [Act.put, List.setIfInBounds_toArray, List.set_cons_zero, List.set_cons_succ]
    refine takeH (i := 15) (v := ?_) rfl (by kernel_rfl) (by kernel_rfl) (by kernel_rfl) (fun _ _ _ h => h) rfl ?_ hHeld ?_
    rotate_left
    · intro w hS; (try dsimp only at hS); obtain ⟨hS0, hS1, hS2, hS3, hS4⟩ := hS; go_simp; first | done | (with_reducible rfl)
    try simp only [Act.put, List.setIfInBounds_toArray, List.set_cons_zero, List.set_cons_succ]
    refine takeH (i := 16) (v := ?_) rfl (by kernel_rfl) (by kernel_rfl) (by kernel_rfl) (fun _ _ _ h => h) rfl ?_ hHeld ?_
    rotate_left
    · intro w hS; (try dsimp only at hS); obtain ⟨hS0, hS1, hS2, hS3, hS4⟩ := hS; go_simp; first | done | (with_reducible rfl)
    try simp only [Act.put, List.setIfInBounds_toArray, List.set_cons_zero, List.set_cons_succ]
    refine takeH (i := 19) (v := ?_) rfl (by kernel_rfl) (by kernel_rfl) (by kernel_rfl) (fun _ _ _ h => h) rfl ?_ hHeld ?_
    rotate_left
    · intro w hS; (try dsimp only at hS); obtain ⟨hS0, hS1, hS2, hS3, hS4⟩ := hS; go_simp; first | done | (with_reducible rfl)
    try simp only [Act.put, List.setIfInBounds_toArray, List.set_cons_zero, List.set_cons_succ]
    refine takeH (i := 20) (v := ?_) rfl (by kernel_rfl) (by kernel_rfl) (by kernel_rfl) (fun _ _ _ h => h) rfl ?_ hHeld ?_
    rotate_left
    · intro w hS; (try dsimp only at hS); obtain ⟨hS0, hS1, hS2, hS3, hS4⟩ := hS; go_simp; first | done | (with_reducible rfl)
    try simp only [Act.put, List.setIfInBounds_toArray, List.set_cons_zero, List.set_cons_succ]
    refine takeH (i := 21) (v := ?_) rfl (by kernel_rfl) (by kernel_rfl) (by kernel_rfl) (fun _ _ _ h => h) rfl ?_ hHeld ?_
    rotate_left
    · intro w hS; (try dsimp only at hS); obtain ⟨hS0, hS1, hS2, hS3, hS4⟩ := hS; go_simp; first | done | (with_reducible rfl)
    try simp only [Act.put, List.setIfInBounds_toArray, List.set_cons_zero, List.set_cons_succ]
    refine onlyH (i := 17) rfl (by kernel_rfl) rfl (fun K hK => ?_)
    go_simp
    refine (eachOnce_any w2 _ c.2.1 hL2 (by simp at h1; omega)).mono ?_
    rintro e w3 ⟨v3, rfl, hown3, hb3⟩
    obtain ⟨a3, c3, rfl, -⟩ := own_form hown3
    clear hown3
    have y3 := (hb3.block _ (lt_of_heap y2)).trans y2
    have k30 := cell_of_row w3 w.heap.size 0 _ _ _ y3
    have k31 := cell_of_row w3 w.heap.size 1 _ _ _ y3
    have k32 := cell_of_row w3 w.heap.size 2 _ _ _ y3
    have k33 := cell_of_row w3 w.heap.size 3 _ _ _ y3
    have k34 := cell_of_row w3 w.heap.size 4 _ _ _ y3
    simp only [List.getElem?_toArray, List.getElem?_cons_zero, List.getElem?_cons_succ] at k30 k31 k32 k33 k34
    have hbA3 := hbA2.trans (hb3.mono hbA2.size)
    have hL3 := hL2.past hb3
    refine hK.out _ _ (⟨k30, k31, k32, k33, k34⟩) (fun hHeld => ?_)
    clear hK K
    try simp only [Act.put, List.setIfInBounds_toArray, List.set_cons_zero, List.set_cons_succ]
    refine takeH (i := 18) (v := ?_) rfl (by kernel_rfl) (by kernel_rfl) (by kernel_rfl) (fun _ _ _ h => h) rfl ?_ hHeld ?_
    rotate_left
    · intro w hS; (try dsimp only at hS); obtain ⟨hS0, hS1, hS2, hS3, hS4⟩ := hS; go_simp; first | done | (with_reducible rfl)
    try simp only [Act.put, List.setIfInBounds_toArray, List.set_cons_zero, List.set_cons_succ]
    refine takeH (i := 22) (v := ?_) rfl (by kernel_rfl) (by kernel_rfl) (by kernel_rfl) (fun _ _ _ h => h) rfl ?_ hHeld ?_
    rotate_left
    · intro w hS; (try dsimp only at hS); obtain ⟨hS0, hS1, hS2, hS3, hS4⟩ := hS; go_simp; first | done | (with_reducible rfl)
    try simp only [Act.put, List.setIfInBounds_toArray, List.set_cons_zero, List.set_cons_succ]
    refine takeH (i := 23) (v := ?_) rfl (by kernel_rfl) (by kernel_rfl) (by kernel_rfl) (fun _ _ _ h => h) rfl ?_ hHeld ?_
    rotate_left
    · intro w hS; (try dsimp only at hS); obtain ⟨hS0, hS1, hS2, hS3, hS4⟩ := hS; go_simp; first | done | (with_reducible rfl)
    try simp only [Act.put, List.setIfInBounds_toArray, List.set_cons_zero, List.set_cons_succ]
    refine takeH (i := 24) (v := ?_) rfl (by kernel_rfl) (by kernel_rfl) (by kernel_rfl) (fun _ _ _ h => h) rfl ?_ hHeld ?_
    rotate_left
    · intro w hS; (try dsimp only at hS); obtain ⟨hS0, hS1, hS2, hS3, hS4⟩ := hS; go_simp; first | done | (with_reducible rfl)
    try simp only [Act.put, List.setIfInBounds_toArray, List.set_cons_zero, List.set_cons_succ]
    refine takeH (i := 25) (v := ?_) rfl (by kernel_rfl) (by kernel_rfl) (by kernel_rfl) (fun _ _ _ h => h) rfl ?_ hHeld ?_
    rotate_left
    · intro w hS; (try dsimp only at hS); obtain ⟨hS0, hS1, hS2, hS3, hS4⟩ := hS; go_simp; first | done | (with_reducible rfl)
    try simp only [Act.put, List.setIfInBounds_toArray, List.set_cons_zero, List.set_cons_succ]
    refine takeH (i := 26) (v := ?_) rfl (by kernel_rfl) (by kernel_rfl) (by kernel_rfl) (fun _ _ _ h => h) rfl ?_ hHeld ?_
    rotate_left
    · intro w hS; (try dsimp only at hS); obtain ⟨hS0, hS1, hS2, hS3, hS4⟩ := hS; go_simp; first | done | (with_reducible rfl)
    try simp only [Act.put, List.setIfInBounds_toArray, List.set_cons_zero, List.set_cons_succ]
    refine takeH (i := 27) (v := ?_) rfl (by kernel_rfl) (by kernel_rfl) (by kernel_rfl) (fun _ _ _ h => h) rfl ?_ hHeld ?_
    rotate_left
    · intro w hS; (try dsimp only at hS); obtain ⟨hS0, hS1, hS2, hS3, hS4⟩ := hS; go_simp; first | done | (with_reducible rfl)
    try simp only [Act.put, List.setIfInBounds_toArray, List.set_cons_zero, List.set_cons_succ]
    refine takeH (i := 28) (v := ?_) rfl (by kernel_rfl) (by kernel_rfl) (by kernel_rfl) (fun _ _ _ h => h) rfl ?_ hHeld ?_
    rotate_left
    · intro w hS; (try dsimp only at hS); obtain ⟨hS0, hS1, hS2, hS3, hS4⟩ := hS; go_simp; first | done | (with_reducible rfl)
    try simp only [Act.put, List.setIfInBounds_toArray, List.set_cons_zero, List.set_cons_succ]
    refine takeH (i := 29) (v := ?_) rfl (by kernel_rfl) (by kernel_rfl) (by kernel_rfl) (fun _ _ _ h => h) rfl ?_ hHeld ?_
    rotate_left
    · intro w hS; (try dsimp only at hS); obtain ⟨hS0, hS1, hS2, hS3, hS4⟩ := hS; go_simp; first | done | (with_reducible rfl)
    try simp only [Act.put, List.setIfInBounds_toArray, List.set_cons_zero, List.set_cons_succ]
    refine takeH (i := 30) (v := ?_) rfl (by kernel_rfl) (by kernel_rfl) (by kernel_rfl) (fun _ _ _ h => h) rfl ?_ hHeld ?_
    rotate_left
    · intro w hS; (try dsimp only at hS); obtain ⟨hS0, hS1, hS2, hS3, hS4⟩ := hS; go_simp; first | done | (with_reducible rfl)
    try simp only [Act.put, List.setIfInBounds_toArray, List.set_cons_zero, List.set_cons_succ]
    refine takeH (i := 31) (v := ?_) rfl (by kernel_rfl) (by kernel_rfl) (by kernel_rfl) (fun _ _ _ h => h) rfl ?_ hHeld ?_
    rotate_left
    · intro w hS; (try dsimp only at hS); obtain ⟨hS0, hS1, hS2, hS3, hS4⟩ := hS; go_simp; first | done | (with_reducible rfl)
    try simp only [Act.put, List.setIfInBounds_toArray, List.set_cons_zero, List.set_cons_succ]
    refine takeH (i := 32) (v := ?_) rfl (by kernel_rfl) (by kernel_rfl) (by kernel_rfl) (fun _ _ _ h => h) rfl ?_ hHeld ?_
    rotate_left
    · intro w hS; (try dsimp only at hS); obtain ⟨hS0, hS1, hS2, hS3, hS4⟩ := hS; go_simp; first | done | (with_reducible rfl)
    try simp only [Act.put, List.setIfInBounds_toArray, List.set_cons_zero, List.set_cons_succ]
    refine takeH (i := 33) (v := ?_) rfl (by kernel_rfl) (by kernel_rfl) (by kernel_rfl) (fun _ _ _ h => h) rfl ?_ hHeld ?_
    rotate_left
    · intro w hS; (try dsimp only at hS); obtain ⟨hS0, hS1, hS2, hS3, hS4⟩ := hS; go_simp; first | done | (with_reducible rfl)
    try simp only [Act.put, List.setIfInBounds_toArray, List.set_cons_zero, List.set_cons_succ]
    refine takeH (i := 34) (v := ?_) rfl (by kernel_rfl) (by kernel_rfl) (by kernel_rfl) (fun _ _ _ h => h) rfl ?_ hHeld ?_
    rotate_left
    · intro w hS; (try dsimp only at hS); obtain ⟨hS0, hS1, hS2, hS3, hS4⟩ := hS; go_simp; first | done | (with_reducible rfl)
    try simp only [Act.put, List.setIfInBounds_toArray, List.set_cons_zero, List.set_cons_succ]
    refine takeH (i := 35) (v := ?_) rfl (by kernel_rfl) (by kernel_rfl) (by kernel_rfl) (fun _ _ _ h => h) rfl ?_ hHeld ?_
    rotate_left
    · intro w hS; (try dsimp only at hS); obtain ⟨hS0, hS1, hS2, hS3, hS4⟩ := hS; go_simp; first | done | (with_reducible rfl)
    try simp only [Act.put, List.setIfInBounds_toArray, List.set_cons_zero, List.set_cons_succ]
    refine takeH (i := 36) (v := ?_) rfl (by kernel_rfl) (by kernel_rfl) (by kernel_rfl) (fun _ _ _ h => h) rfl ?_ hHeld ?_
    rotate_left
    · intro w hS; (try dsimp only at hS); obtain ⟨hS0, hS1, hS2, hS3, hS4⟩ := hS; go_simp; first | done | (with_reducible rfl)
    try simp only [Act.put, List.setIfInBounds_toArray, List.set_cons_zero, List.set_cons_succ]
    refine takeH (i := 37) (v := ?_) rfl (by kernel_rfl) (by kernel_rfl) (by kernel_rfl) (fun _ _ _ h => h) rfl ?_ hHeld ?_
    rotate_left
    · intro w hS; (try dsimp only at hS); obtain ⟨hS0, hS1, hS2, hS3, hS4⟩ := hS; go_simp; first | done | (with_reducible rfl)
    try simp only [Act.put, List.setIfInBounds_toArray, List.set_cons_zero, List.set_cons_succ]
    refine takeH (i := 38) (v := ?_) rfl (by kernel_rfl) (by kernel_rfl) (by kernel_rfl) (fun _ _ _ h => h) rfl ?_ hHeld ?_
    rotate_left
    · intro w hS; (try dsimp only at hS); obtain ⟨hS0, hS1, hS2, hS3, hS4⟩ := hS; go_simp; first | done | (with_reducible rfl)
    try simp only [Act.put, List.setIfInBounds_toArray, List.set_cons_zero, List.set_cons_succ]
    refine takeH (i := 39) (v := ?_) rfl (by kernel_rfl) (by kernel_rfl) (by kernel_rfl) (fun _ _ _ h => h) rfl ?_ hHeld ?_
    rotate_left
    · intro w hS; (try dsimp only at hS); obtain ⟨hS0, hS1, hS2, hS3, hS4⟩ := hS; go_simp; first | done | (with_reducible rfl)
    try simp only [Act.put, List.setIfInBounds_toArray, List.set_cons_zero, List.set_cons_succ]
    refine takeH (i := 40) (v := ?_) rfl (by kernel_rfl) (by kernel_rfl) (by kernel_rfl) (fun _ _ _ h => h) rfl ?_ hHeld ?_
    rotate_left
    · intro w hS; (try dsimp only at hS); obtain ⟨hS0, hS1, hS2, hS3, hS4⟩ := hS; go_simp; first | done | (with_reducible rfl)
    try simp only [Act.put, List.setIfInBounds_toArray, List.set_cons_zero, List.set_cons_succ]
    refine takeH (i := 41) (v := ?_) rfl (by kernel_rfl) (by kernel_rfl) (by kernel_rfl) (fun _ _ _ h => h) rfl ?_ hHeld ?_
    rotate_left
    · intro w hS; (try dsimp only at hS); obtain ⟨hS0, hS1, hS2, hS3, hS4⟩ := hS; go_simp; first | done | (with_reducible rfl)
    try simp only [Act.put, List.setIfInBounds_toArray, List.set_cons_zero, List.set_cons_succ]
    refine takeH (i := 42) (v := ?_) rfl (by kernel_rfl) (by kernel_rfl) (by kernel_rfl) (fun _ _ _ h => h) rfl ?_ hHeld ?_
    rotate_left
    · intro w hS; (try dsimp only at hS); obtain ⟨hS0, hS1, hS2, hS3, hS4⟩ := hS; go_simp; first | done | (with_reducible rfl)
    try simp only [Act.put, List.setIfInBounds_toArray, List.set_cons_zero, List.set_cons_succ]
    refine takeH (i := 43) (v := ?_) rfl (by kernel_rfl) (by kernel_rfl) (by kernel_rfl) (fun _ _ _ h => h) rfl ?_ hHeld ?_
    rotate_left
    · intro w hS; (try dsimp only at hS); obtain ⟨hS0, hS1, hS2, hS3, hS4⟩ := hS; go_simp; first | done | (with_reducible rfl)
    try simp only [Act.put, List.setIfInBounds_toArray, List.set_cons_zero, List.set_cons_succ]
    refine takeH (i := 44) (v := ?_) rfl (by kernel_rfl) (by kernel_rfl) (by kernel_rfl) (fun _ _ _ h => h) rfl ?_ hHeld ?_
    rotate_left
    · intro w hS; (try dsimp only at hS); obtain ⟨hS0, hS1, hS2, hS3, hS4⟩ := hS; go_simp; first | done | (with_reducible rfl)
    try simp only [Act.put, List.setIfInBounds_toArray, List.set_cons_zero, List.set_cons_succ]
    refine takeH (i := 45) (v := ?_) rfl (by kernel_rfl) (by kernel_rfl) (by kernel_rfl) (fun _ _ _ h => h) rfl ?_ hHeld ?_
    rotate_left
    · intro w hS; (try dsimp only at hS); obtain ⟨hS0, hS1, hS2, hS3, hS4⟩ := hS; go_simp; first | done | (with_reducible rfl)
    try simp only [Act.put, List.setIfInBounds_toArray, List.set_cons_zero, List.set_cons_succ]
    refine takeH (i := 46) (v := ?_) rfl (by kernel_rfl) (by kernel_rfl) (by kernel_rfl) (fun _ _ _ h => h) rfl ?_ hHeld ?_
    rotate_left
    · intro w hS; (try dsimp only at hS); obtain ⟨hS0, hS1, hS2, hS3, hS4⟩ := hS; go_simp; first | done | (with_reducible rfl)
    try simp only [Act.put, List.setIfInBounds_toArray, List.set_cons_zero, List.set_cons_succ]
    refine wpAnyH_done (by kernel_rfl) ?_ _
    clear hHeld
    go_wp2
    go_ret
    exact ⟨ret_bool (by first | rfl | assumption), hbA3⟩
  have hF : commitOk c = true := by rw [hok]; simp only [h0, h1, h2, h3, h4, h5, h6, h7, Bool.and_true]
  clear hok
  rw [hF]
  go_enter Tryz.func82, Tryz.ntmps82
  go_wp2_with fail
  generalize hw0 : w.alloc (.cells #[.string (strB c.1), .slice ao c.2.1.length cap, .string (strB c.2.2.1), .int .i64 c.2.2.2.1, .string (strB c.2.2.2.2)] 64) = w0 at *
  refine wp_region_held_drew (S := fun W => W.cell? ⟨w.heap.size, 0, none⟩ = some (.string (strB c.1)) ∧ W.cell? ⟨w.heap.size, 1, none⟩ = some (.slice ao c.2.1.length cap) ∧ W.cell? ⟨w.heap.size, 2, none⟩ = some (.string (strB c.2.2.1)) ∧ W.cell? ⟨w.heap.size, 3, none⟩ = some (.int .i64 c.2.2.2.1) ∧ W.cell? ⟨w.heap.size, 4, none⟩ = some (.string (strB c.2.2.2.2))) (by kernel_rfl) (⟨k00, k01, k02, k03, k04⟩) (fun hHeld => ?_)
  refine takeH (i := 0) (v := ?_) rfl (by kernel_rfl) (by kernel_rfl) (by kernel_rfl) (fun _ _ _ h => h) rfl ?_ hHeld ?_
  rotate_left
  · intro w hS; (try dsimp only at hS); obtain ⟨hS0, hS1, hS2, hS3, hS4⟩ := hS; go_simp; first | done | (with_reducible rfl)
  try simp only [Act.put, List.setIfInBounds_toArray, List.set_cons_zero, List.set_cons_succ]
  refine takeH (i := 1) (v := ?_) rfl (by kernel_rfl) (by kernel_rfl) (by kernel_rfl) (fun _ _ _ h => h) rfl ?_ hHeld ?_
  rotate_left
  · intro w hS; (try dsimp only at hS); obtain ⟨hS0, hS1, hS2, hS3, hS4⟩ := hS; go_simp; first | done | (with_reducible rfl)
  try simp only [Act.put, List.setIfInBounds_toArray, List.set_cons_zero, List.set_cons_succ]
  refine onlyH (i := 2) rfl (by kernel_rfl) rfl (fun K hK => ?_)
  go_simp
  refine (id1_any w0.drew c.1).mono ?_
  rintro e w1 ⟨rfl, hb1⟩
  have hb1 : Below w0.heap.size w0 w1 := (Below.refl _ _).drew.trans hb1
  rw [h0]
  have y1 := (hb1.block _ (lt_of_heap y0)).trans y0
  have k10 := cell_of_row w1 w.heap.size 0 _ _ _ y1
  have k11 := cell_of_row w1 w.heap.size 1 _ _ _ y1
  have k12 := cell_of_row w1 w.heap.size 2 _ _ _ y1
  have k13 := cell_of_row w1 w.heap.size 3 _ _ _ y1
  have k14 := cell_of_row w1 w.heap.size 4 _ _ _ y1
  simp only [List.getElem?_toArray, List.getElem?_cons_zero, List.getElem?_cons_succ] at k10 k11 k12 k13 k14
  have hbA1 := hbA0.trans (hb1.mono hbA0.size)
  have hL1 := hL0.past hb1
  refine hK.out _ _ (⟨k10, k11, k12, k13, k14⟩) (fun hHeld => ?_)
  clear hK K
  try simp only [Act.put, List.setIfInBounds_toArray, List.set_cons_zero, List.set_cons_succ]
  refine takeH (i := 3) (v := ?_) rfl (by kernel_rfl) (by kernel_rfl) (by kernel_rfl) (fun _ _ _ h => h) rfl ?_ hHeld ?_
  rotate_left
  · intro w hS; (try dsimp only at hS); obtain ⟨hS0, hS1, hS2, hS3, hS4⟩ := hS; go_simp; first | done | (with_reducible rfl)
  try simp only [Act.put, List.setIfInBounds_toArray, List.set_cons_zero, List.set_cons_succ]
  refine takeH (i := 4) (v := ?_) rfl (by kernel_rfl) (by kernel_rfl) (by kernel_rfl) (fun _ _ _ h => h) rfl ?_ hHeld ?_
  rotate_left
  · intro w hS; (try dsimp only at hS); obtain ⟨hS0, hS1, hS2, hS3, hS4⟩ := hS; go_simp; first | done | (with_reducible rfl)
  try simp only [Act.put, List.setIfInBounds_toArray, List.set_cons_zero, List.set_cons_succ]
  refine takeH (i := 5) (v := ?_) rfl (by kernel_rfl) (by kernel_rfl) (by kernel_rfl) (fun _ _ _ h => h) rfl ?_ hHeld ?_
  rotate_left
  · intro w hS; (try dsimp only at hS); obtain ⟨hS0, hS1, hS2, hS3, hS4⟩ := hS; go_simp; first | done | (with_reducible rfl)
  try simp only [Act.put, List.setIfInBounds_toArray, List.set_cons_zero, List.set_cons_succ]
  refine takeH (i := 6) (v := ?_) rfl (by kernel_rfl) (by kernel_rfl) (by kernel_rfl) (fun _ _ _ h => h) rfl ?_ hHeld ?_
  rotate_left
  · intro w hS; (try dsimp only at hS); obtain ⟨hS0, hS1, hS2, hS3, hS4⟩ := hS; go_simp; first | done | (with_reducible rfl)
  try simp only [Act.put, List.setIfInBounds_toArray, List.set_cons_zero, List.set_cons_succ]
  refine takeH (i := 7) (v := ?_) rfl (by kernel_rfl) (by kernel_rfl) (by kernel_rfl) (fun _ _ _ h => h) rfl ?_ hHeld ?_
  rotate_left
  · intro w hS; (try dsimp only at hS); obtain ⟨hS0, hS1, hS2, hS3, hS4⟩ := hS; go_simp; first | done | (with_reducible rfl)
  try simp only [Act.put, List.setIfInBounds_toArray, List.set_cons_zero, List.set_cons_succ]
  refine takeH (i := 8) (v := ?_) rfl (by kernel_rfl) (by kernel_rfl) (by kernel_rfl) (fun _ _ _ h => h) rfl ?_ hHeld ?_
  rotate_left
  · intro w hS; (try dsimp only at hS); obtain ⟨hS0, hS1, hS2, hS3, hS4⟩ := hS; go_simp; first | done | (with_reducible rfl)
  try simp only [Act.put, List.setIfInBounds_toArray, List.set_cons_zero, List.set_cons_succ]
  refine takeH (i := 9) (v := ?_) rfl (by kernel_rfl) (by kernel_rfl) (by kernel_rfl) (fun _ _ _ h => h) rfl ?_ hHeld ?_
  rotate_left
  · intro w hS; (try dsimp only at hS); obtain ⟨hS0, hS1, hS2, hS3, hS4⟩ := hS; go_simp; first | done | (with_reducible rfl)
  try simp only [Act.put, List.setIfInBounds_toArray, List.set_cons_zero, List.set_cons_succ]
  refine takeH (i := 10) (v := ?_) rfl (by kernel_rfl) (by kernel_rfl) (by kernel_rfl) (fun _ _ _ h => h) rfl ?_ hHeld ?_
  rotate_left
  · intro w hS; (try dsimp only at hS); obtain ⟨hS0, hS1, hS2, hS3, hS4⟩ := hS; go_simp; first | done | (with_reducible rfl)
  try simp only [Act.put, List.setIfInBounds_toArray, List.set_cons_zero, List.set_cons_succ]
  refine takeH (i := 11) (v := ?_) rfl (by kernel_rfl) (by kernel_rfl) (by kernel_rfl) (fun _ _ _ h => h) rfl ?_ hHeld ?_
  rotate_left
  · intro w hS; (try dsimp only at hS); obtain ⟨hS0, hS1, hS2, hS3, hS4⟩ := hS; go_simp; first | done | (with_reducible rfl)
  try simp only [Act.put, List.setIfInBounds_toArray, List.set_cons_zero, List.set_cons_succ]
  refine onlyH (i := 12) rfl (by kernel_rfl) rfl (fun K hK => ?_)
  go_simp
  refine (eachIds_any w1 _ c.2.1 hL1).mono ?_
  rintro e w2 ⟨rfl, hb2⟩
  rw [h2]
  have y2 := (hb2.block _ (lt_of_heap y1)).trans y1
  have k20 := cell_of_row w2 w.heap.size 0 _ _ _ y2
  have k21 := cell_of_row w2 w.heap.size 1 _ _ _ y2
  have k22 := cell_of_row w2 w.heap.size 2 _ _ _ y2
  have k23 := cell_of_row w2 w.heap.size 3 _ _ _ y2
  have k24 := cell_of_row w2 w.heap.size 4 _ _ _ y2
  simp only [List.getElem?_toArray, List.getElem?_cons_zero, List.getElem?_cons_succ] at k20 k21 k22 k23 k24
  have hbA2 := hbA1.trans (hb2.mono hbA1.size)
  have hL2 := hL1.past hb2
  refine hK.out _ _ (⟨k20, k21, k22, k23, k24⟩) (fun hHeld => ?_)
  clear hK K
  try simp only [Act.put, List.setIfInBounds_toArray, List.set_cons_zero, List.set_cons_succ]
  refine takeH (i := 13) (v := ?_) rfl (by kernel_rfl) (by kernel_rfl) (by kernel_rfl) (fun _ _ _ h => h) rfl ?_ hHeld ?_
  rotate_left
  · intro w hS; (try dsimp only at hS); obtain ⟨hS0, hS1, hS2, hS3, hS4⟩ := hS; go_simp; first | done | (with_reducible rfl)
  try simp only [Act.put, List.setIfInBounds_toArray, List.set_cons_zero, List.set_cons_succ]
  refine takeH (i := 14) (v := ?_) rfl (by kernel_rfl) (by kernel_rfl) (by kernel_rfl) (fun _ _ _ h => h) rfl ?_ hHeld ?_
  rotate_left
  · intro w hS; (try dsimp only at hS); obtain ⟨hS0, hS1, hS2, hS3, hS4⟩ := hS; go_simp; first | done | (with_reducible rfl)
  try simp only [Act.put, List.setIfInBounds_toArray, List.set_cons_zero, List.set_cons_succ]
  refine takeH (i := 15) (v := ?_) rfl (by kernel_rfl) (by kernel_rfl) (by kernel_rfl) (fun _ _ _ h => h) rfl ?_ hHeld ?_
  rotate_left
  · intro w hS; (try dsimp only at hS); obtain ⟨hS0, hS1, hS2, hS3, hS4⟩ := hS; go_simp; first | done | (with_reducible rfl)
  try simp only [Act.put, List.setIfInBounds_toArray, List.set_cons_zero, List.set_cons_succ]
  refine takeH (i := 16) (v := ?_) rfl (by kernel_rfl) (by kernel_rfl) (by kernel_rfl) (fun _ _ _ h => h) rfl ?_ hHeld ?_
  rotate_left
  · intro w hS; (try dsimp only at hS); obtain ⟨hS0, hS1, hS2, hS3, hS4⟩ := hS; go_simp; first | done | (with_reducible rfl)
  try simp only [Act.put, List.setIfInBounds_toArray, List.set_cons_zero, List.set_cons_succ]
  refine takeH (i := 19) (v := ?_) rfl (by kernel_rfl) (by kernel_rfl) (by kernel_rfl) (fun _ _ _ h => h) rfl ?_ hHeld ?_
  rotate_left
  · intro w hS; (try dsimp only at hS); obtain ⟨hS0, hS1, hS2, hS3, hS4⟩ := hS; go_simp; first | done | (with_reducible rfl)
  try simp only [Act.put, List.setIfInBounds_toArray, List.set_cons_zero, List.set_cons_succ]
  refine takeH (i := 20) (v := ?_) rfl (by kernel_rfl) (by kernel_rfl) (by kernel_rfl) (fun _ _ _ h => h) rfl ?_ hHeld ?_
  rotate_left
  · intro w hS; (try dsimp only at hS); obtain ⟨hS0, hS1, hS2, hS3, hS4⟩ := hS; go_simp; first | done | (with_reducible rfl)
  try simp only [Act.put, List.setIfInBounds_toArray, List.set_cons_zero, List.set_cons_succ]
  refine takeH (i := 21) (v := ?_) rfl (by kernel_rfl) (by kernel_rfl) (by kernel_rfl) (fun _ _ _ h => h) rfl ?_ hHeld ?_
  rotate_left
  · intro w hS; (try dsimp only at hS); obtain ⟨hS0, hS1, hS2, hS3, hS4⟩ := hS; go_simp; first | done | (with_reducible rfl)
  try simp only [Act.put, List.setIfInBounds_toArray, List.set_cons_zero, List.set_cons_succ]
  refine onlyH (i := 17) rfl (by kernel_rfl) rfl (fun K hK => ?_)
  go_simp
  refine (eachOnce_any w2 _ c.2.1 hL2 (by simp at h1; omega)).mono ?_
  rintro e w3 ⟨v3, rfl, hown3, hb3⟩
  obtain ⟨a3, c3, rfl, -⟩ := own_form hown3
  clear hown3
  have y3 := (hb3.block _ (lt_of_heap y2)).trans y2
  have k30 := cell_of_row w3 w.heap.size 0 _ _ _ y3
  have k31 := cell_of_row w3 w.heap.size 1 _ _ _ y3
  have k32 := cell_of_row w3 w.heap.size 2 _ _ _ y3
  have k33 := cell_of_row w3 w.heap.size 3 _ _ _ y3
  have k34 := cell_of_row w3 w.heap.size 4 _ _ _ y3
  simp only [List.getElem?_toArray, List.getElem?_cons_zero, List.getElem?_cons_succ] at k30 k31 k32 k33 k34
  have hbA3 := hbA2.trans (hb3.mono hbA2.size)
  have hL3 := hL2.past hb3
  refine hK.out _ _ (⟨k30, k31, k32, k33, k34⟩) (fun hHeld => ?_)
  clear hK K
  try simp only [Act.put, List.setIfInBounds_toArray, List.set_cons_zero, List.set_cons_succ]
  refine takeH (i := 18) (v := ?_) rfl (by kernel_rfl) (by kernel_rfl) (by kernel_rfl) (fun _ _ _ h => h) rfl ?_ hHeld ?_
  rotate_left
  · intro w hS; (try dsimp only at hS); obtain ⟨hS0, hS1, hS2, hS3, hS4⟩ := hS; go_simp; first | done | (with_reducible rfl)
  try simp only [Act.put, List.setIfInBounds_toArray, List.set_cons_zero, List.set_cons_succ]
  refine takeH (i := 22) (v := ?_) rfl (by kernel_rfl) (by kernel_rfl) (by kernel_rfl) (fun _ _ _ h => h) rfl ?_ hHeld ?_
  rotate_left
  · intro w hS; (try dsimp only at hS); obtain ⟨hS0, hS1, hS2, hS3, hS4⟩ := hS; go_simp; first | done | (with_reducible rfl)
  try simp only [Act.put, List.setIfInBounds_toArray, List.set_cons_zero, List.set_cons_succ]
  refine takeH (i := 23) (v := ?_) rfl (by kernel_rfl) (by kernel_rfl) (by kernel_rfl) (fun _ _ _ h => h) rfl ?_ hHeld ?_
  rotate_left
  · intro w hS; (try dsimp only at hS); obtain ⟨hS0, hS1, hS2, hS3, hS4⟩ := hS; go_simp; first | done | (with_reducible rfl)
  try simp only [Act.put, List.setIfInBounds_toArray, List.set_cons_zero, List.set_cons_succ]
  refine takeH (i := 24) (v := ?_) rfl (by kernel_rfl) (by kernel_rfl) (by kernel_rfl) (fun _ _ _ h => h) rfl ?_ hHeld ?_
  rotate_left
  · intro w hS; (try dsimp only at hS); obtain ⟨hS0, hS1, hS2, hS3, hS4⟩ := hS; go_simp; first | done | (with_reducible rfl)
  try simp only [Act.put, List.setIfInBounds_toArray, List.set_cons_zero, List.set_cons_succ]
  refine takeH (i := 25) (v := ?_) rfl (by kernel_rfl) (by kernel_rfl) (by kernel_rfl) (fun _ _ _ h => h) rfl ?_ hHeld ?_
  rotate_left
  · intro w hS; (try dsimp only at hS); obtain ⟨hS0, hS1, hS2, hS3, hS4⟩ := hS; go_simp; first | done | (with_reducible rfl)
  try simp only [Act.put, List.setIfInBounds_toArray, List.set_cons_zero, List.set_cons_succ]
  refine takeH (i := 26) (v := ?_) rfl (by kernel_rfl) (by kernel_rfl) (by kernel_rfl) (fun _ _ _ h => h) rfl ?_ hHeld ?_
  rotate_left
  · intro w hS; (try dsimp only at hS); obtain ⟨hS0, hS1, hS2, hS3, hS4⟩ := hS; go_simp; first | done | (with_reducible rfl)
  try simp only [Act.put, List.setIfInBounds_toArray, List.set_cons_zero, List.set_cons_succ]
  refine takeH (i := 27) (v := ?_) rfl (by kernel_rfl) (by kernel_rfl) (by kernel_rfl) (fun _ _ _ h => h) rfl ?_ hHeld ?_
  rotate_left
  · intro w hS; (try dsimp only at hS); obtain ⟨hS0, hS1, hS2, hS3, hS4⟩ := hS; go_simp; first | done | (with_reducible rfl)
  try simp only [Act.put, List.setIfInBounds_toArray, List.set_cons_zero, List.set_cons_succ]
  refine takeH (i := 28) (v := ?_) rfl (by kernel_rfl) (by kernel_rfl) (by kernel_rfl) (fun _ _ _ h => h) rfl ?_ hHeld ?_
  rotate_left
  · intro w hS; (try dsimp only at hS); obtain ⟨hS0, hS1, hS2, hS3, hS4⟩ := hS; go_simp; first | done | (with_reducible rfl)
  try simp only [Act.put, List.setIfInBounds_toArray, List.set_cons_zero, List.set_cons_succ]
  refine takeH (i := 29) (v := ?_) rfl (by kernel_rfl) (by kernel_rfl) (by kernel_rfl) (fun _ _ _ h => h) rfl ?_ hHeld ?_
  rotate_left
  · intro w hS; (try dsimp only at hS); obtain ⟨hS0, hS1, hS2, hS3, hS4⟩ := hS; go_simp; first | done | (with_reducible rfl)
  try simp only [Act.put, List.setIfInBounds_toArray, List.set_cons_zero, List.set_cons_succ]
  refine takeH (i := 30) (v := ?_) rfl (by kernel_rfl) (by kernel_rfl) (by kernel_rfl) (fun _ _ _ h => h) rfl ?_ hHeld ?_
  rotate_left
  · intro w hS; (try dsimp only at hS); obtain ⟨hS0, hS1, hS2, hS3, hS4⟩ := hS; go_simp; first | done | (with_reducible rfl)
  try simp only [Act.put, List.setIfInBounds_toArray, List.set_cons_zero, List.set_cons_succ]
  refine takeH (i := 31) (v := ?_) rfl (by kernel_rfl) (by kernel_rfl) (by kernel_rfl) (fun _ _ _ h => h) rfl ?_ hHeld ?_
  rotate_left
  · intro w hS; (try dsimp only at hS); obtain ⟨hS0, hS1, hS2, hS3, hS4⟩ := hS; go_simp; first | done | (with_reducible rfl)
  try simp only [Act.put, List.setIfInBounds_toArray, List.set_cons_zero, List.set_cons_succ]
  refine takeH (i := 32) (v := ?_) rfl (by kernel_rfl) (by kernel_rfl) (by kernel_rfl) (fun _ _ _ h => h) rfl ?_ hHeld ?_
  rotate_left
  · intro w hS; (try dsimp only at hS); obtain ⟨hS0, hS1, hS2, hS3, hS4⟩ := hS; go_simp; first | done | (with_reducible rfl)
  try simp only [Act.put, List.setIfInBounds_toArray, List.set_cons_zero, List.set_cons_succ]
  refine takeH (i := 33) (v := ?_) rfl (by kernel_rfl) (by kernel_rfl) (by kernel_rfl) (fun _ _ _ h => h) rfl ?_ hHeld ?_
  rotate_left
  · intro w hS; (try dsimp only at hS); obtain ⟨hS0, hS1, hS2, hS3, hS4⟩ := hS; go_simp; first | done | (with_reducible rfl)
  try simp only [Act.put, List.setIfInBounds_toArray, List.set_cons_zero, List.set_cons_succ]
  refine takeH (i := 34) (v := ?_) rfl (by kernel_rfl) (by kernel_rfl) (by kernel_rfl) (fun _ _ _ h => h) rfl ?_ hHeld ?_
  rotate_left
  · intro w hS; (try dsimp only at hS); obtain ⟨hS0, hS1, hS2, hS3, hS4⟩ := hS; go_simp; first | done | (with_reducible rfl)
  try simp only [Act.put, List.setIfInBounds_toArray, List.set_cons_zero, List.set_cons_succ]
  refine takeH (i := 35) (v := ?_) rfl (by kernel_rfl) (by kernel_rfl) (by kernel_rfl) (fun _ _ _ h => h) rfl ?_ hHeld ?_
  rotate_left
  · intro w hS; (try dsimp only at hS); obtain ⟨hS0, hS1, hS2, hS3, hS4⟩ := hS; go_simp; first | done | (with_reducible rfl)
  try simp only [Act.put, List.setIfInBounds_toArray, List.set_cons_zero, List.set_cons_succ]
  refine takeH (i := 36) (v := ?_) rfl (by kernel_rfl) (by kernel_rfl) (by kernel_rfl) (fun _ _ _ h => h) rfl ?_ hHeld ?_
  rotate_left
  · intro w hS; (try dsimp only at hS); obtain ⟨hS0, hS1, hS2, hS3, hS4⟩ := hS; go_simp; first | done | (with_reducible rfl)
  try simp only [Act.put, List.setIfInBounds_toArray, List.set_cons_zero, List.set_cons_succ]
  refine takeH (i := 37) (v := ?_) rfl (by kernel_rfl) (by kernel_rfl) (by kernel_rfl) (fun _ _ _ h => h) rfl ?_ hHeld ?_
  rotate_left
  · intro w hS; (try dsimp only at hS); obtain ⟨hS0, hS1, hS2, hS3, hS4⟩ := hS; go_simp; first | done | (with_reducible rfl)
  try simp only [Act.put, List.setIfInBounds_toArray, List.set_cons_zero, List.set_cons_succ]
  refine takeH (i := 38) (v := ?_) rfl (by kernel_rfl) (by kernel_rfl) (by kernel_rfl) (fun _ _ _ h => h) rfl ?_ hHeld ?_
  rotate_left
  · intro w hS; (try dsimp only at hS); obtain ⟨hS0, hS1, hS2, hS3, hS4⟩ := hS; go_simp; first | done | (with_reducible rfl)
  try simp only [Act.put, List.setIfInBounds_toArray, List.set_cons_zero, List.set_cons_succ]
  refine takeH (i := 39) (v := ?_) rfl (by kernel_rfl) (by kernel_rfl) (by kernel_rfl) (fun _ _ _ h => h) rfl ?_ hHeld ?_
  rotate_left
  · intro w hS; (try dsimp only at hS); obtain ⟨hS0, hS1, hS2, hS3, hS4⟩ := hS; go_simp; first | done | (with_reducible rfl)
  try simp only [Act.put, List.setIfInBounds_toArray, List.set_cons_zero, List.set_cons_succ]
  refine takeH (i := 40) (v := ?_) rfl (by kernel_rfl) (by kernel_rfl) (by kernel_rfl) (fun _ _ _ h => h) rfl ?_ hHeld ?_
  rotate_left
  · intro w hS; (try dsimp only at hS); obtain ⟨hS0, hS1, hS2, hS3, hS4⟩ := hS; go_simp; first | done | (with_reducible rfl)
  try simp only [Act.put, List.setIfInBounds_toArray, List.set_cons_zero, List.set_cons_succ]
  refine takeH (i := 41) (v := ?_) rfl (by kernel_rfl) (by kernel_rfl) (by kernel_rfl) (fun _ _ _ h => h) rfl ?_ hHeld ?_
  rotate_left
  · intro w hS; (try dsimp only at hS); obtain ⟨hS0, hS1, hS2, hS3, hS4⟩ := hS; go_simp; first | done | (with_reducible rfl)
  try simp only [Act.put, List.setIfInBounds_toArray, List.set_cons_zero, List.set_cons_succ]
  refine takeH (i := 42) (v := ?_) rfl (by kernel_rfl) (by kernel_rfl) (by kernel_rfl) (fun _ _ _ h => h) rfl ?_ hHeld ?_
  rotate_left
  · intro w hS; (try dsimp only at hS); obtain ⟨hS0, hS1, hS2, hS3, hS4⟩ := hS; go_simp; first | done | (with_reducible rfl)
  try simp only [Act.put, List.setIfInBounds_toArray, List.set_cons_zero, List.set_cons_succ]
  refine takeH (i := 43) (v := ?_) rfl (by kernel_rfl) (by kernel_rfl) (by kernel_rfl) (fun _ _ _ h => h) rfl ?_ hHeld ?_
  rotate_left
  · intro w hS; (try dsimp only at hS); obtain ⟨hS0, hS1, hS2, hS3, hS4⟩ := hS; go_simp; first | done | (with_reducible rfl)
  try simp only [Act.put, List.setIfInBounds_toArray, List.set_cons_zero, List.set_cons_succ]
  refine takeH (i := 44) (v := ?_) rfl (by kernel_rfl) (by kernel_rfl) (by kernel_rfl) (fun _ _ _ h => h) rfl ?_ hHeld ?_
  rotate_left
  · intro w hS; (try dsimp only at hS); obtain ⟨hS0, hS1, hS2, hS3, hS4⟩ := hS; go_simp; first | done | (with_reducible rfl)
  try simp only [Act.put, List.setIfInBounds_toArray, List.set_cons_zero, List.set_cons_succ]
  refine takeH (i := 45) (v := ?_) rfl (by kernel_rfl) (by kernel_rfl) (by kernel_rfl) (fun _ _ _ h => h) rfl ?_ hHeld ?_
  rotate_left
  · intro w hS; (try dsimp only at hS); obtain ⟨hS0, hS1, hS2, hS3, hS4⟩ := hS; go_simp; first | done | (with_reducible rfl)
  try simp only [Act.put, List.setIfInBounds_toArray, List.set_cons_zero, List.set_cons_succ]
  refine takeH (i := 46) (v := ?_) rfl (by kernel_rfl) (by kernel_rfl) (by kernel_rfl) (fun _ _ _ h => h) rfl ?_ hHeld ?_
  rotate_left
  · intro w hS; (try dsimp only at hS); obtain ⟨hS0, hS1, hS2, hS3, hS4⟩ := hS; go_simp; first | done | (with_reducible rfl)
  try simp only [Act.put, List.setIfInBounds_toArray, List.set_cons_zero, List.set_cons_succ]
  refine wpAnyH_done (by kernel_rfl) ?_ _
  clear hHeld
  go_wp2
  go_ret
  exact ⟨ret_bool (by first | rfl | assumption), hbA3⟩
end Go.Proofs.YtdbmngbinhemeabGreatDoor
