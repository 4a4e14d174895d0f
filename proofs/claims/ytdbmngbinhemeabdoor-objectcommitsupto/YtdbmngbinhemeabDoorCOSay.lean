/-
  Whether a fan, a leaf, a branch is right. Condition: lists lie there.
-/
import Derived.Test.YtdbmngbinhemeabDoorCORise
namespace Go.Proofs.YtdbmngbinhemeabDoor
open Go.RowKit

theorem Ls.alloc {α : Type} {w : World} {k : Nat} {cs : α → List Value} {v : Value} {xs : List α} (h : Ls w.heap.size w k cs v xs) (o : Obj) : Ls (w.alloc o).heap.size (w.alloc o) k cs v xs :=
  (h.keep ((Below.refl _ _).alloc (Nat.le_refl _) o)).up (by simp)
theorem Ls.past {α : Type} {w w' : World} {k : Nat} {cs : α → List Value} {v : Value} {xs : List α} (h : Ls w.heap.size w k cs v xs) (hb : Below w.heap.size w w') : Ls w'.heap.size w' k cs v xs := (h.keep hb).up hb.size
theorem sizeRight_any (w : World) (k n : Int) : Calls Tryd.prog 123 #[.int .i64 k, .int .i64 n] w fun e w' => e = .returned (.bool (sizeOk k n)) ∧ w' = w := by
  by_cases h1 : k = 1
  · subst h1
    by_cases h : 0 ≤ n
    all_goals
      go_enter Tryd.func123, Tryd.ntmps123
      go_wp2
      go_ret
      refine ⟨ret_bool ?_, rfl⟩
      rw [Bool.eq_iff_iff]; simp [sizeOk]; omega
  · by_cases h2 : k = 2
    · subst h2
      by_cases h : 1 ≤ n
      all_goals
        go_enter Tryd.func123, Tryd.ntmps123
        go_wp2
        go_ret
        refine ⟨ret_bool ?_, rfl⟩
        rw [Bool.eq_iff_iff]; simp [sizeOk]; omega
    · have b1 : (k == 1) = false := by simpa using h1
      have b2 : (k == 2) = false := by simpa using h2
      go_enter Tryd.func123, Tryd.ntmps123
      go_wp2
      go_ret
      refine ⟨ret_bool ?_, rfl⟩
      simp [sizeOk, h1, h2]

set_option maxRecDepth 20000 in
theorem fanRight_any (w : World) (f : Fan) (v : Value) (hv : Ls w.heap.size w 2 partC v f.2) :
    Calls Tryd.prog 39 #[.agg #[.int .i64 f.1, v]] w fun e w' => e = .returned (.bool (fanOk f)) ∧ Below w.heap.size w w' := by
  have hL0 := hv.alloc (.cells #[.int .i64 f.1, v] 24)
  have hbA0 : Below w.heap.size w (w.alloc (.cells #[.int .i64 f.1, v] 24)) := (Below.refl _ _).alloc (Nat.le_refl _) _
  have x0 := heap_last w (.cells #[.int .i64 f.1, v] 24) _ rfl
  obtain ⟨ao, cap, rfl, g1, g2, -⟩ := hv
  unfold maxLen at g2
  by_cases h0 : levelB f.1 = true
  rotate_left
  · have h0 := Bool.eq_false_iff.2 h0
    go_enter Tryd.func39, Tryd.ntmps39
    go_wp2_with fail
    refine (isLevel_any _ f.1).mono ?_
    rintro e w1 ⟨rfl, rfl⟩
    rw [h0]
    go_wp2
    go_ret
    exact ⟨ret_bool (by simp [fanOk, h0]), hbA0⟩
  by_cases h1p : 1 ≤ f.2.length
  rotate_left
  · have h1 : decide (1 ≤ f.2.length) = false := by simpa using h1p
    go_enter Tryd.func39, Tryd.ntmps39
    go_wp2_with fail
    refine (isLevel_any _ f.1).mono ?_
    rintro e w1 ⟨rfl, rfl⟩
    rw [h0]
    go_wp2
    go_ret
    exact ⟨ret_bool (by simp [fanOk, h0, h1]), hbA0⟩
  have h1 : decide (1 ≤ f.2.length) = true := by simpa using h1p
  by_cases h2p : f.2.length ≤ 32
  rotate_left
  · have h2 : decide (f.2.length ≤ 32) = false := by simpa using h2p
    go_enter Tryd.func39, Tryd.ntmps39
    go_wp2_with fail
    refine (isLevel_any _ f.1).mono ?_
    rintro e w1 ⟨rfl, rfl⟩
    rw [h0]
    go_wp2
    go_ret
    exact ⟨ret_bool (by simp [fanOk, h0, h1, h2]), hbA0⟩
  have h2 : decide (f.2.length ≤ 32) = true := by simpa using h2p
  by_cases h3 : f.2.all (fun p => isIdB p.1) = true
  rotate_left
  · have h3 := Bool.eq_false_iff.2 h3
    go_enter Tryd.func39, Tryd.ntmps39
    go_wp2_with fail
    refine (isLevel_any _ f.1).mono ?_
    rintro e w1 ⟨rfl, rfl⟩
    rw [h0]
    go_wp2_with fail
    refine (eachParts_any _ _ f.2 hL0).mono ?_
    rintro e w1 ⟨rfl, hb1⟩
    rw [h3]
    have hbA1 := hbA0.trans (hb1.mono hbA0.size)
    have x1 := (hb1.block _ (lt_of_heap x0)).trans x0
    have c10 := cell_of_row w1 w.heap.size 0 _ _ _ x1
    simp only [List.getElem?_toArray, List.getElem?_cons_zero] at c10
    have c11 := cell_of_row w1 w.heap.size 1 _ _ _ x1
    simp only [List.getElem?_toArray, List.getElem?_cons_zero, List.getElem?_cons_succ] at c11
    have hL1 := hL0.past hb1
    clear hb1 hL0
    go_wp2
    go_ret
    exact ⟨ret_bool (by simp [fanOk, h0, h1, h2, h3]), hbA1⟩
  by_cases h4 : within (f.2.map (fun p => p.2)) 262144 = true
  rotate_left
  · have h4 := Bool.eq_false_iff.2 h4
    go_enter Tryd.func39, Tryd.ntmps39
    go_wp2_with fail
    refine (isLevel_any _ f.1).mono ?_
    rintro e w1 ⟨rfl, rfl⟩
    rw [h0]
    go_wp2_with fail
    refine (eachParts_any _ _ f.2 hL0).mono ?_
    rintro e w1 ⟨rfl, hb1⟩
    rw [h3]
    have hbA1 := hbA0.trans (hb1.mono hbA0.size)
    have x1 := (hb1.block _ (lt_of_heap x0)).trans x0
    have c10 := cell_of_row w1 w.heap.size 0 _ _ _ x1
    simp only [List.getElem?_toArray, List.getElem?_cons_zero] at c10
    have c11 := cell_of_row w1 w.heap.size 1 _ _ _ x1
    simp only [List.getElem?_toArray, List.getElem?_cons_zero, List.getElem?_cons_succ] at c11
    have hL1 := hL0.past hb1
    clear hb1 hL0
    go_wp2_with fail
    refine (sumParts_any _ _ f.2 hL1).mono ?_
    rintro e w2 ⟨rfl, hb2⟩
    rw [h4]
    have hbA2 := hbA1.trans (hb2.mono hbA1.size)
    have x2 := (hb2.block _ (lt_of_heap x1)).trans x1
    have c20 := cell_of_row w2 w.heap.size 0 _ _ _ x2
    simp only [List.getElem?_toArray, List.getElem?_cons_zero] at c20
    have c21 := cell_of_row w2 w.heap.size 1 _ _ _ x2
    simp only [List.getElem?_toArray, List.getElem?_cons_zero, List.getElem?_cons_succ] at c21
    have hL2 := hL1.past hb2
    clear hb2 hL1
    go_wp2
    go_ret
    exact ⟨ret_bool (by simp [fanOk, h0, h1, h2, h3, h4]), hbA2⟩
  go_enter Tryd.func39, Tryd.ntmps39
  go_wp2_with fail
  refine (isLevel_any _ f.1).mono ?_
  rintro e w1 ⟨rfl, rfl⟩
  rw [h0]
  go_wp2_with fail
  refine (eachParts_any _ _ f.2 hL0).mono ?_
  rintro e w1 ⟨rfl, hb1⟩
  rw [h3]
  have hbA1 := hbA0.trans (hb1.mono hbA0.size)
  have x1 := (hb1.block _ (lt_of_heap x0)).trans x0
  have c10 := cell_of_row w1 w.heap.size 0 _ _ _ x1
  simp only [List.getElem?_toArray, List.getElem?_cons_zero] at c10
  have c11 := cell_of_row w1 w.heap.size 1 _ _ _ x1
  simp only [List.getElem?_toArray, List.getElem?_cons_zero, List.getElem?_cons_succ] at c11
  have hL1 := hL0.past hb1
  clear hb1 hL0
  go_wp2_with fail
  refine (sumParts_any _ _ f.2 hL1).mono ?_
  rintro e w2 ⟨rfl, hb2⟩
  rw [h4]
  have hbA2 := hbA1.trans (hb2.mono hbA1.size)
  have x2 := (hb2.block _ (lt_of_heap x1)).trans x1
  have c20 := cell_of_row w2 w.heap.size 0 _ _ _ x2
  simp only [List.getElem?_toArray, List.getElem?_cons_zero] at c20
  have c21 := cell_of_row w2 w.heap.size 1 _ _ _ x2
  simp only [List.getElem?_toArray, List.getElem?_cons_zero, List.getElem?_cons_succ] at c21
  have hL2 := hL1.past hb2
  clear hb2 hL1
  go_wp2
  go_ret
  exact ⟨ret_bool (by simp [fanOk, h0, h1, h2, h3, h4]), hbA2⟩

set_option maxRecDepth 20000 in
theorem leafRight_any (w : World) (f : List Pair) (v : Value) (hv : Ls w.heap.size w 2 pairC v f) :
    Calls Tryd.prog 59 #[v] w fun e w' => e = .returned (.bool (leafOk ltB f)) ∧ Below w.heap.size w w' := by
  have hL0 := hv
  have hbA0 : Below w.heap.size w w := Below.refl _ _
  obtain ⟨ao, cap, rfl, g1, g2, -⟩ := hv
  unfold maxLen at g2
  by_cases h0p : f.length ≤ 64
  rotate_left
  · have h0 : decide (f.length ≤ 64) = false := by simpa using h0p
    go_enter Tryd.func59, Tryd.ntmps59
    go_wp2
    go_ret
    exact ⟨ret_bool (by simp [leafOk, h0]), hbA0⟩
  have h0 : decide (f.length ≤ 64) = true := by simpa using h0p
  by_cases h1 : f.all (fun p => isKeyB p.1 && decide (p.2.length ≤ 128)) = true
  rotate_left
  · have h1 := Bool.eq_false_iff.2 h1
    go_enter Tryd.func59, Tryd.ntmps59
    go_wp2_with fail
    refine (eachPairs_any _ _ f hL0).mono ?_
    rintro e w1 ⟨rfl, hb1⟩
    rw [h1]
    have hbA1 := hbA0.trans (hb1.mono hbA0.size)
    have hL1 := hL0.past hb1
    clear hb1 hL0
    go_wp2
    go_ret
    exact ⟨ret_bool (by simp [leafOk, h0, h1]), hbA1⟩
  by_cases h2 : rise ltB (f.map (fun p => p.1)) = true
  rotate_left
  · have h2 := Bool.eq_false_iff.2 h2
    go_enter Tryd.func59, Tryd.ntmps59
    go_wp2_with fail
    refine (eachPairs_any _ _ f hL0).mono ?_
    rintro e w1 ⟨rfl, hb1⟩
    rw [h1]
    have hbA1 := hbA0.trans (hb1.mono hbA0.size)
    have hL1 := hL0.past hb1
    clear hb1 hL0
    go_wp2_with fail
    refine (risePairs_any _ _ f hL1).mono ?_
    rintro e w2 ⟨rfl, hb2⟩
    rw [h2]
    have hbA2 := hbA1.trans (hb2.mono hbA1.size)
    have hL2 := hL1.past hb2
    clear hb2 hL1
    go_wp2
    go_ret
    exact ⟨ret_bool (by simp [leafOk, h0, h1, h2]), hbA2⟩
  go_enter Tryd.func59, Tryd.ntmps59
  go_wp2_with fail
  refine (eachPairs_any _ _ f hL0).mono ?_
  rintro e w1 ⟨rfl, hb1⟩
  rw [h1]
  have hbA1 := hbA0.trans (hb1.mono hbA0.size)
  have hL1 := hL0.past hb1
  clear hb1 hL0
  go_wp2_with fail
  refine (risePairs_any _ _ f hL1).mono ?_
  rintro e w2 ⟨rfl, hb2⟩
  rw [h2]
  have hbA2 := hbA1.trans (hb2.mono hbA1.size)
  have hL2 := hL1.past hb2
  clear hb2 hL1
  go_wp2
  go_ret
  exact ⟨ret_bool (by simp [leafOk, h0, h1, h2]), hbA2⟩

set_option maxRecDepth 20000 in
theorem branchRight_any (w : World) (f : Branch) (v : Value) (hv : Ls w.heap.size w 3 linkC v f.2) :
    Calls Tryd.prog 64 #[.agg #[.int .i64 f.1, v]] w fun e w' => e = .returned (.bool (branchOk ltB f)) ∧ Below w.heap.size w w' := by
  have hL0 := hv.alloc (.cells #[.int .i64 f.1, v] 41)
  have hbA0 : Below w.heap.size w (w.alloc (.cells #[.int .i64 f.1, v] 41)) := (Below.refl _ _).alloc (Nat.le_refl _) _
  have x0 := heap_last w (.cells #[.int .i64 f.1, v] 41) _ rfl
  obtain ⟨ao, cap, rfl, g1, g2, -⟩ := hv
  unfold maxLen at g2
  by_cases h0 : levelB f.1 = true
  rotate_left
  · have h0 := Bool.eq_false_iff.2 h0
    go_enter Tryd.func64, Tryd.ntmps64
    go_wp2_with fail
    refine (isLevel_any _ f.1).mono ?_
    rintro e w1 ⟨rfl, rfl⟩
    rw [h0]
    go_wp2
    go_ret
    exact ⟨ret_bool (by simp [branchOk, h0]), hbA0⟩
  by_cases h1p : 1 ≤ f.2.length
  rotate_left
  · have h1 : decide (1 ≤ f.2.length) = false := by simpa using h1p
    go_enter Tryd.func64, Tryd.ntmps64
    go_wp2_with fail
    refine (isLevel_any _ f.1).mono ?_
    rintro e w1 ⟨rfl, rfl⟩
    rw [h0]
    go_wp2
    go_ret
    exact ⟨ret_bool (by simp [branchOk, h0, h1]), hbA0⟩
  have h1 : decide (1 ≤ f.2.length) = true := by simpa using h1p
  by_cases h2p : f.2.length ≤ 64
  rotate_left
  · have h2 : decide (f.2.length ≤ 64) = false := by simpa using h2p
    go_enter Tryd.func64, Tryd.ntmps64
    go_wp2_with fail
    refine (isLevel_any _ f.1).mono ?_
    rintro e w1 ⟨rfl, rfl⟩
    rw [h0]
    go_wp2
    go_ret
    exact ⟨ret_bool (by simp [branchOk, h0, h1, h2]), hbA0⟩
  have h2 : decide (f.2.length ≤ 64) = true := by simpa using h2p
  by_cases h3 : f.2.all (fun p => isKeyB p.1 && isIdB p.2.1) = true
  rotate_left
  · have h3 := Bool.eq_false_iff.2 h3
    go_enter Tryd.func64, Tryd.ntmps64
    go_wp2_with fail
    refine (isLevel_any _ f.1).mono ?_
    rintro e w1 ⟨rfl, rfl⟩
    rw [h0]
    go_wp2_with fail
    refine (eachLinks_any _ _ f.2 hL0).mono ?_
    rintro e w1 ⟨rfl, hb1⟩
    rw [h3]
    have hbA1 := hbA0.trans (hb1.mono hbA0.size)
    have x1 := (hb1.block _ (lt_of_heap x0)).trans x0
    have c10 := cell_of_row w1 w.heap.size 0 _ _ _ x1
    simp only [List.getElem?_toArray, List.getElem?_cons_zero] at c10
    have c11 := cell_of_row w1 w.heap.size 1 _ _ _ x1
    simp only [List.getElem?_toArray, List.getElem?_cons_zero, List.getElem?_cons_succ] at c11
    have hL1 := hL0.past hb1
    clear hb1 hL0
    go_wp2
    go_ret
    exact ⟨ret_bool (by simp [branchOk, h0, h1, h2, h3]), hbA1⟩
  by_cases h4 : rise ltB (f.2.map (fun p => p.1)) = true
  rotate_left
  · have h4 := Bool.eq_false_iff.2 h4
    go_enter Tryd.func64, Tryd.ntmps64
    go_wp2_with fail
    refine (isLevel_any _ f.1).mono ?_
    rintro e w1 ⟨rfl, rfl⟩
    rw [h0]
    go_wp2_with fail
    refine (eachLinks_any _ _ f.2 hL0).mono ?_
    rintro e w1 ⟨rfl, hb1⟩
    rw [h3]
    have hbA1 := hbA0.trans (hb1.mono hbA0.size)
    have x1 := (hb1.block _ (lt_of_heap x0)).trans x0
    have c10 := cell_of_row w1 w.heap.size 0 _ _ _ x1
    simp only [List.getElem?_toArray, List.getElem?_cons_zero] at c10
    have c11 := cell_of_row w1 w.heap.size 1 _ _ _ x1
    simp only [List.getElem?_toArray, List.getElem?_cons_zero, List.getElem?_cons_succ] at c11
    have hL1 := hL0.past hb1
    clear hb1 hL0
    go_wp2_with fail
    refine (riseLinks_any _ _ f.2 hL1).mono ?_
    rintro e w2 ⟨rfl, hb2⟩
    rw [h4]
    have hbA2 := hbA1.trans (hb2.mono hbA1.size)
    have x2 := (hb2.block _ (lt_of_heap x1)).trans x1
    have c20 := cell_of_row w2 w.heap.size 0 _ _ _ x2
    simp only [List.getElem?_toArray, List.getElem?_cons_zero] at c20
    have c21 := cell_of_row w2 w.heap.size 1 _ _ _ x2
    simp only [List.getElem?_toArray, List.getElem?_cons_zero, List.getElem?_cons_succ] at c21
    have hL2 := hL1.past hb2
    clear hb2 hL1
    go_wp2
    go_ret
    exact ⟨ret_bool (by simp [branchOk, h0, h1, h2, h3, h4]), hbA2⟩
  by_cases h5 : within (f.2.map (fun p => p.2.2)) 4096 = true
  rotate_left
  · have h5 := Bool.eq_false_iff.2 h5
    go_enter Tryd.func64, Tryd.ntmps64
    go_wp2_with fail
    refine (isLevel_any _ f.1).mono ?_
    rintro e w1 ⟨rfl, rfl⟩
    rw [h0]
    go_wp2_with fail
    refine (eachLinks_any _ _ f.2 hL0).mono ?_
    rintro e w1 ⟨rfl, hb1⟩
    rw [h3]
    have hbA1 := hbA0.trans (hb1.mono hbA0.size)
    have x1 := (hb1.block _ (lt_of_heap x0)).trans x0
    have c10 := cell_of_row w1 w.heap.size 0 _ _ _ x1
    simp only [List.getElem?_toArray, List.getElem?_cons_zero] at c10
    have c11 := cell_of_row w1 w.heap.size 1 _ _ _ x1
    simp only [List.getElem?_toArray, List.getElem?_cons_zero, List.getElem?_cons_succ] at c11
    have hL1 := hL0.past hb1
    clear hb1 hL0
    go_wp2_with fail
    refine (riseLinks_any _ _ f.2 hL1).mono ?_
    rintro e w2 ⟨rfl, hb2⟩
    rw [h4]
    have hbA2 := hbA1.trans (hb2.mono hbA1.size)
    have x2 := (hb2.block _ (lt_of_heap x1)).trans x1
    have c20 := cell_of_row w2 w.heap.size 0 _ _ _ x2
    simp only [List.getElem?_toArray, List.getElem?_cons_zero] at c20
    have c21 := cell_of_row w2 w.heap.size 1 _ _ _ x2
    simp only [List.getElem?_toArray, List.getElem?_cons_zero, List.getElem?_cons_succ] at c21
    have hL2 := hL1.past hb2
    clear hb2 hL1
    go_wp2_with fail
    refine (sumLinks_any _ _ f.2 hL2).mono ?_
    rintro e w3 ⟨rfl, hb3⟩
    rw [h5]
    have hbA3 := hbA2.trans (hb3.mono hbA2.size)
    have x3 := (hb3.block _ (lt_of_heap x2)).trans x2
    have c30 := cell_of_row w3 w.heap.size 0 _ _ _ x3
    simp only [List.getElem?_toArray, List.getElem?_cons_zero] at c30
    have c31 := cell_of_row w3 w.heap.size 1 _ _ _ x3
    simp only [List.getElem?_toArray, List.getElem?_cons_zero, List.getElem?_cons_succ] at c31
    have hL3 := hL2.past hb3
    clear hb3 hL2
    go_wp2
    go_ret
    exact ⟨ret_bool (by simp [branchOk, h0, h1, h2, h3, h4, h5]), hbA3⟩
  go_enter Tryd.func64, Tryd.ntmps64
  go_wp2_with fail
  refine (isLevel_any _ f.1).mono ?_
  rintro e w1 ⟨rfl, rfl⟩
  rw [h0]
  go_wp2_with fail
  refine (eachLinks_any _ _ f.2 hL0).mono ?_
  rintro e w1 ⟨rfl, hb1⟩
  rw [h3]
  have hbA1 := hbA0.trans (hb1.mono hbA0.size)
  have x1 := (hb1.block _ (lt_of_heap x0)).trans x0
  have c10 := cell_of_row w1 w.heap.size 0 _ _ _ x1
  simp only [List.getElem?_toArray, List.getElem?_cons_zero] at c10
  have c11 := cell_of_row w1 w.heap.size 1 _ _ _ x1
  simp only [List.getElem?_toArray, List.getElem?_cons_zero, List.getElem?_cons_succ] at c11
  have hL1 := hL0.past hb1
  clear hb1 hL0
  go_wp2_with fail
  refine (riseLinks_any _ _ f.2 hL1).mono ?_
  rintro e w2 ⟨rfl, hb2⟩
  rw [h4]
  have hbA2 := hbA1.trans (hb2.mono hbA1.size)
  have x2 := (hb2.block _ (lt_of_heap x1)).trans x1
  have c20 := cell_of_row w2 w.heap.size 0 _ _ _ x2
  simp only [List.getElem?_toArray, List.getElem?_cons_zero] at c20
  have c21 := cell_of_row w2 w.heap.size 1 _ _ _ x2
  simp only [List.getElem?_toArray, List.getElem?_cons_zero, List.getElem?_cons_succ] at c21
  have hL2 := hL1.past hb2
  clear hb2 hL1
  go_wp2_with fail
  refine (sumLinks_any _ _ f.2 hL2).mono ?_
  rintro e w3 ⟨rfl, hb3⟩
  rw [h5]
  have hbA3 := hbA2.trans (hb3.mono hbA2.size)
  have x3 := (hb3.block _ (lt_of_heap x2)).trans x2
  have c30 := cell_of_row w3 w.heap.size 0 _ _ _ x3
  simp only [List.getElem?_toArray, List.getElem?_cons_zero] at c30
  have c31 := cell_of_row w3 w.heap.size 1 _ _ _ x3
  simp only [List.getElem?_toArray, List.getElem?_cons_zero, List.getElem?_cons_succ] at c31
  have hL3 := hL2.past hb3
  clear hb3 hL2
  go_wp2
  go_ret
  exact ⟨ret_bool (by simp [branchOk, h0, h1, h2, h3, h4, h5]), hbA3⟩
end Go.Proofs.YtdbmngbinhemeabDoor
