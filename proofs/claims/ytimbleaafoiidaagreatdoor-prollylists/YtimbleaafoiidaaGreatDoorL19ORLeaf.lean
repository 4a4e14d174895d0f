/-
  A leaf, looked at and made by the reference. Conditions: its pairs lie there.
-/
import Derived.Test.YtimbleaafoiidaaGreatDoorL18ORText
namespace Go.Proofs.YtimbleaafoiidaaGreatDoor
open Go.RowKit

def pairOk (p : Pair) : Bool := isKeyB p.1 && decide (p.2.length ≤ 128)
theorem pairOk_no {p : Pair} (h : isKeyB p.1 = false ∨ 128 < p.2.length) : pairOk p = false := by
  unfold pairOk
  rcases h with h | h
  · rw [h]; rfl
  · rw [decide_eq_false (by omega : ¬ p.2.length ≤ 128)]; simp
theorem leafOk_alike (xs : List Pair) (h : xs.length ≤ 64) : leafOk ltB xs = (xs.all pairOk && rise ltB (xs.map (·.1))) := by
  unfold leafOk
  rw [decide_eq_true h]
  rfl
theorem rise_end {α : Type} (f : α → Bs) (xs : List α) (k : Nat) (h : xs.length ≤ k + 1) : rise ltB ((xs.drop k).map f) = true := by
  have hl : (xs.drop k).length ≤ 1 := by rw [List.length_drop]; omega
  match xs.drop k, hl with
  | [], _ => rfl
  | [_], _ => rfl
theorem rise_next {α : Type} (f : α → Bs) (xs : List α) (m : Nat) (hlt : m + 1 < xs.length) : rise ltB ((xs.drop m).map f) = (ltB (f (xs[m]'(by omega))) (f (xs[m + 1]'hlt)) && rise ltB ((xs.drop (m + 1)).map f)) := by
  rw [List.drop_eq_getElem_cons (show m < xs.length by omega), List.drop_eq_getElem_cons hlt]
  rfl
theorem risKey_any (w : World) (s : Bs) : Calls Tryz.prog 73 #[.string (strB s)] w fun e w' => e = .returned (.bool (isKeyB s)) ∧ w' = w := by
  have hs := strB_size s
  by_cases h : 1 ≤ s.length
  · go_enter Tryz.func73, Tryz.ntmps73
    go_wp2
    go_ret
    refine ⟨ret_bool ?_, rfl⟩
    unfold isKeyB; rw [Bool.eq_iff_iff]; simp; omega
  · go_enter Tryz.func73, Tryz.ntmps73
    go_wp2
    go_ret
    refine ⟨ret_bool ?_, rfl⟩
    unfold isKeyB; rw [Bool.eq_iff_iff]; simp; omega
set_option maxRecDepth 20000 in
set_option maxHeartbeats 1600000 in
theorem rleafRight_any (w : World) (xs : List Pair) (v : Value) (hv : Ls w.heap.size w 2 pairC v xs) :
    Calls Tryz.prog 51 #[v] w fun e w' => e = .returned (.bool (leafOk ltB xs)) ∧ Below w.heap.size w w' := by
  obtain ⟨ao, cap, rfl, g1, g2, h4⟩ := hv
  unfold maxLen at g2
  by_cases hd : 64 < xs.length
  · have hok : leafOk ltB xs = false := by unfold leafOk; rw [decide_eq_false (by omega : ¬ xs.length ≤ 64)]; rfl
    rw [hok]
    go_enter Tryz.func51, Tryz.ntmps51
    go_wp2
    go_ret
    exact ⟨rfl, Below.refl _ _⟩
  rw [leafOk_alike xs (by omega)]
  go_enter Tryz.func51, Tryz.ntmps51
  go_wp2_with fail
  go_loopw [3] (fun t wr => ∃ k : Nat, k ≤ xs.length ∧ t = .int .i64 k ∧ (xs.take k).all pairOk = true ∧ rise ltB (xs.map (·.1)) = rise ltB ((xs.drop (k - 1)).map (·.1)) ∧ Below w.heap.size w wr)
    (fun t _ => xs.length - (intOf t).toNat)
  case atStart => exact ⟨0, by omega, rfl, by simp, by simp, Below.refl _ _⟩
  case round =>
    obtain ⟨k, hk, rfl, hall, hri, hb⟩ := hrel
    have HA := hide hall
    have HR := hide hri
    have HB := hide hb
    clear hall hri hb
    by_cases hlt : k < xs.length
    · obtain ⟨b, off, rfl, hbB, hcl⟩ := h4 (by rintro rfl; simp at hlt)
      have hst := all_step pairOk xs k hlt HA.out
      have hno := all_false pairOk xs k hlt
      have k0 := (HB.out.cell (p := ⟨b, off + k * 2 + 0, none⟩) hbB).trans (hcl k hlt 0 _ rfl)
      have k1 := (HB.out.cell (p := ⟨b, off + k * 2 + 1, none⟩) hbB).trans (hcl k hlt 1 _ rfl)
      simp only [Nat.add_zero] at k0
      have HST := hide hst
      have HNO := hide hno
      clear hst hno
      have BD : Below w.heap.size w wr.drew := HB.out.drew
      cases k with
      | zero =>
        simp only [Nat.zero_mul, Nat.add_zero] at k0 k1
        generalize xs[0] = x at *
        clear hcl h4
        have hsx := strB_size x.2
        by_cases q0 : isKeyB x.1 = true
        · by_cases q1 : 128 < x.2.length
          · have hf := pairOk_no (.inr q1)
            have q1' : (128 : Int) < (x.2.length : Int) := by omega
            go_wp2_with fail
            refine (risKey_any _ x.1).mono ?_
            rintro e w2 ⟨rfl, rfl⟩
            rw [q0]
            go_wp2_with fail
            refine wp_region_held_drew (S := fun W => W.cell? ⟨b, off, none⟩ = some (.string (strB x.1)) ∧ W.cell? ⟨b, off + 1, none⟩ = some (.string (strB x.2))) (by kernel_rfl) (⟨k0, k1⟩) (fun hHeld => ?_)
            refine takeJ 0 (v := ?_) ?_ hHeld ?_
            rotate_left
            · rintro w ⟨_, _⟩; go_simp; try with_reducible rfl
            refine takeJ 1 (v := ?_) ?_ hHeld ?_
            rotate_left
            · rintro w ⟨_, _⟩; go_simp; try with_reducible rfl
            refine takeJ 2 (v := ?_) ?_ hHeld ?_
            rotate_left
            · rintro w ⟨_, _⟩; go_simp; try with_reducible rfl
            refine takeJ 3 (v := ?_) ?_ hHeld ?_
            rotate_left
            · rintro w ⟨_, _⟩; go_simp; try with_reducible rfl
            refine takeJ 4 (v := ?_) ?_ hHeld ?_
            rotate_left
            · rintro w ⟨_, _⟩; go_simp; try with_reducible rfl
            refine takeJ 5 (v := ?_) ?_ hHeld ?_
            rotate_left
            · rintro w ⟨_, _⟩; go_simp; try with_reducible rfl
            refine takeJ 6 (v := ?_) ?_ hHeld ?_
            rotate_left
            · rintro w ⟨_, _⟩; go_simp; try with_reducible rfl
            refine takeJ 7 (v := ?_) ?_ hHeld ?_
            rotate_left
            · rintro w ⟨_, _⟩; go_simp; try with_reducible rfl
            refine takeJ 8 (v := ?_) ?_ hHeld ?_
            rotate_left
            · rintro w ⟨_, _⟩; go_simp; try with_reducible rfl
            refine takeJ 9 (v := ?_) ?_ hHeld ?_
            rotate_left
            · rintro w ⟨_, _⟩; go_simp; try with_reducible rfl
            refine takeJ 10 (v := ?_) ?_ hHeld ?_
            rotate_left
            · rintro w ⟨_, _⟩; go_simp; try with_reducible rfl
            refine takeJ 11 (v := ?_) ?_ hHeld ?_
            rotate_left
            · rintro w ⟨_, _⟩; go_simp; try with_reducible rfl
            refine skipH (i := 12) rfl (by kernel_rfl) (by kernel_rfl) (by kernel_rfl) (fun _ _ _ h => h) rfl hHeld ?_
            try simp only [Act.put, List.setIfInBounds_toArray, List.set_cons_zero, List.set_cons_succ]
            refine skipH (i := 13) rfl (by kernel_rfl) (by kernel_rfl) (by kernel_rfl) (fun _ _ _ h => h) rfl hHeld ?_
            try simp only [Act.put, List.setIfInBounds_toArray, List.set_cons_zero, List.set_cons_succ]
            refine skipH (i := 14) rfl (by kernel_rfl) (by kernel_rfl) (by kernel_rfl) (fun _ _ _ h => h) rfl hHeld ?_
            try simp only [Act.put, List.setIfInBounds_toArray, List.set_cons_zero, List.set_cons_succ]
            refine skipH (i := 15) rfl (by kernel_rfl) (by kernel_rfl) (by kernel_rfl) (fun _ _ _ h => h) rfl hHeld ?_
            try simp only [Act.put, List.setIfInBounds_toArray, List.set_cons_zero, List.set_cons_succ]
            refine skipH (i := 16) rfl (by kernel_rfl) (by kernel_rfl) (by kernel_rfl) (fun _ _ _ h => h) rfl hHeld ?_
            try simp only [Act.put, List.setIfInBounds_toArray, List.set_cons_zero, List.set_cons_succ]
            refine skipH (i := 17) rfl (by kernel_rfl) (by kernel_rfl) (by kernel_rfl) (fun _ _ _ h => h) rfl hHeld ?_
            try simp only [Act.put, List.setIfInBounds_toArray, List.set_cons_zero, List.set_cons_succ]
            refine skipH (i := 18) rfl (by kernel_rfl) (by kernel_rfl) (by kernel_rfl) (fun _ _ _ h => h) rfl hHeld ?_
            try simp only [Act.put, List.setIfInBounds_toArray, List.set_cons_zero, List.set_cons_succ]
            refine skipH (i := 19) rfl (by kernel_rfl) (by kernel_rfl) (by kernel_rfl) (fun _ _ _ h => h) rfl hHeld ?_
            try simp only [Act.put, List.setIfInBounds_toArray, List.set_cons_zero, List.set_cons_succ]
            refine skipH (i := 20) rfl (by kernel_rfl) (by kernel_rfl) (by kernel_rfl) (fun _ _ _ h => h) rfl hHeld ?_
            try simp only [Act.put, List.setIfInBounds_toArray, List.set_cons_zero, List.set_cons_succ]
            refine skipH (i := 21) rfl (by kernel_rfl) (by kernel_rfl) (by kernel_rfl) (fun _ _ _ h => h) rfl hHeld ?_
            try simp only [Act.put, List.setIfInBounds_toArray, List.set_cons_zero, List.set_cons_succ]
            refine skipH (i := 22) rfl (by kernel_rfl) (by kernel_rfl) (by kernel_rfl) (fun _ _ _ h => h) rfl hHeld ?_
            try simp only [Act.put, List.setIfInBounds_toArray, List.set_cons_zero, List.set_cons_succ]
            refine skipH (i := 23) rfl (by kernel_rfl) (by kernel_rfl) (by kernel_rfl) (fun _ _ _ h => h) rfl hHeld ?_
            try simp only [Act.put, List.setIfInBounds_toArray, List.set_cons_zero, List.set_cons_succ]
            refine skipH (i := 24) rfl (by kernel_rfl) (by kernel_rfl) (by kernel_rfl) (fun _ _ _ h => h) rfl hHeld ?_
            try simp only [Act.put, List.setIfInBounds_toArray, List.set_cons_zero, List.set_cons_succ]
            refine skipH (i := 25) rfl (by kernel_rfl) (by kernel_rfl) (by kernel_rfl) (fun _ _ _ h => h) rfl hHeld ?_
            try simp only [Act.put, List.setIfInBounds_toArray, List.set_cons_zero, List.set_cons_succ]
            refine skipH (i := 26) rfl (by kernel_rfl) (by kernel_rfl) (by kernel_rfl) (fun _ _ _ h => h) rfl hHeld ?_
            try simp only [Act.put, List.setIfInBounds_toArray, List.set_cons_zero, List.set_cons_succ]
            refine skipH (i := 27) rfl (by kernel_rfl) (by kernel_rfl) (by kernel_rfl) (fun _ _ _ h => h) rfl hHeld ?_
            try simp only [Act.put, List.setIfInBounds_toArray, List.set_cons_zero, List.set_cons_succ]
            refine takeJ 28 (v := ?_) ?_ hHeld ?_
            rotate_left
            · rintro w ⟨_, _⟩; go_simp; try with_reducible rfl
            refine wpAnyH_done (by kernel_rfl) ?_ _
            clear hHeld
            go_wp2
            go_ret
            exact ⟨ret_bool (by rw [← HNO.out hf]; rfl), BD⟩
          · have hf : pairOk x = true := by unfold pairOk; rw [q0, decide_eq_true (by omega : x.2.length ≤ 128)]; rfl
            have q1' : decide ((128 : Int) < (x.2.length : Int)) = false := decide_eq_false (by omega)
            go_wp2_with fail
            refine (risKey_any _ x.1).mono ?_
            rintro e w2 ⟨rfl, rfl⟩
            rw [q0]
            go_wp2_with fail
            refine wp_region_held_drew (S := fun W => W.cell? ⟨b, off, none⟩ = some (.string (strB x.1)) ∧ W.cell? ⟨b, off + 1, none⟩ = some (.string (strB x.2))) (by kernel_rfl) (⟨k0, k1⟩) (fun hHeld => ?_)
            refine takeJ 0 (v := ?_) ?_ hHeld ?_
            rotate_left
            · rintro w ⟨_, _⟩; go_simp; try with_reducible rfl
            refine takeJ 1 (v := ?_) ?_ hHeld ?_
            rotate_left
            · rintro w ⟨_, _⟩; go_simp; try with_reducible rfl
            refine takeJ 2 (v := ?_) ?_ hHeld ?_
            rotate_left
            · rintro w ⟨_, _⟩; go_simp; try with_reducible rfl
            refine takeJ 3 (v := ?_) ?_ hHeld ?_
            rotate_left
            · rintro w ⟨_, _⟩; go_simp; try with_reducible rfl
            refine takeJ 4 (v := ?_) ?_ hHeld ?_
            rotate_left
            · rintro w ⟨_, _⟩; go_simp; try with_reducible rfl
            refine takeJ 5 (v := ?_) ?_ hHeld ?_
            rotate_left
            · rintro w ⟨_, _⟩; go_simp; try with_reducible rfl
            refine takeJ 6 (v := ?_) ?_ hHeld ?_
            rotate_left
            · rintro w ⟨_, _⟩; go_simp; try with_reducible rfl
            refine takeJ 7 (v := ?_) ?_ hHeld ?_
            rotate_left
            · rintro w ⟨_, _⟩; go_simp; try with_reducible rfl
            refine takeJ 8 (v := ?_) ?_ hHeld ?_
            rotate_left
            · rintro w ⟨_, _⟩; go_simp; try with_reducible rfl
            refine takeJ 9 (v := ?_) ?_ hHeld ?_
            rotate_left
            · rintro w ⟨_, _⟩; go_simp; try with_reducible rfl
            refine takeJ 10 (v := ?_) ?_ hHeld ?_
            rotate_left
            · rintro w ⟨_, _⟩; go_simp; try with_reducible rfl
            refine takeJ 11 (v := ?_) ?_ hHeld ?_
            rotate_left
            · rintro w ⟨_, _⟩; go_simp; try with_reducible rfl
            refine takeJ 12 (v := ?_) ?_ hHeld ?_
            rotate_left
            · rintro w ⟨_, _⟩; go_simp; try with_reducible rfl
            refine takeJ 13 (v := ?_) ?_ hHeld ?_
            rotate_left
            · rintro w ⟨_, _⟩; go_simp; try with_reducible rfl
            refine takeJ 14 (v := ?_) ?_ hHeld ?_
            rotate_left
            · rintro w ⟨_, _⟩; go_simp; try with_reducible rfl
            refine skipH (i := 15) rfl (by kernel_rfl) (by kernel_rfl) (by kernel_rfl) (fun _ _ _ h => h) rfl hHeld ?_
            try simp only [Act.put, List.setIfInBounds_toArray, List.set_cons_zero, List.set_cons_succ]
            refine skipH (i := 16) rfl (by kernel_rfl) (by kernel_rfl) (by kernel_rfl) (fun _ _ _ h => h) rfl hHeld ?_
            try simp only [Act.put, List.setIfInBounds_toArray, List.set_cons_zero, List.set_cons_succ]
            refine skipH (i := 17) rfl (by kernel_rfl) (by kernel_rfl) (by kernel_rfl) (fun _ _ _ h => h) rfl hHeld ?_
            try simp only [Act.put, List.setIfInBounds_toArray, List.set_cons_zero, List.set_cons_succ]
            refine skipH (i := 18) rfl (by kernel_rfl) (by kernel_rfl) (by kernel_rfl) (fun _ _ _ h => h) rfl hHeld ?_
            try simp only [Act.put, List.setIfInBounds_toArray, List.set_cons_zero, List.set_cons_succ]
            refine skipH (i := 19) rfl (by kernel_rfl) (by kernel_rfl) (by kernel_rfl) (fun _ _ _ h => h) rfl hHeld ?_
            try simp only [Act.put, List.setIfInBounds_toArray, List.set_cons_zero, List.set_cons_succ]
            refine skipH (i := 20) rfl (by kernel_rfl) (by kernel_rfl) (by kernel_rfl) (fun _ _ _ h => h) rfl hHeld ?_
            try simp only [Act.put, List.setIfInBounds_toArray, List.set_cons_zero, List.set_cons_succ]
            refine skipH (i := 21) rfl (by kernel_rfl) (by kernel_rfl) (by kernel_rfl) (fun _ _ _ h => h) rfl hHeld ?_
            try simp only [Act.put, List.setIfInBounds_toArray, List.set_cons_zero, List.set_cons_succ]
            refine skipH (i := 22) rfl (by kernel_rfl) (by kernel_rfl) (by kernel_rfl) (fun _ _ _ h => h) rfl hHeld ?_
            try simp only [Act.put, List.setIfInBounds_toArray, List.set_cons_zero, List.set_cons_succ]
            refine skipH (i := 23) rfl (by kernel_rfl) (by kernel_rfl) (by kernel_rfl) (fun _ _ _ h => h) rfl hHeld ?_
            try simp only [Act.put, List.setIfInBounds_toArray, List.set_cons_zero, List.set_cons_succ]
            refine skipH (i := 24) rfl (by kernel_rfl) (by kernel_rfl) (by kernel_rfl) (fun _ _ _ h => h) rfl hHeld ?_
            try simp only [Act.put, List.setIfInBounds_toArray, List.set_cons_zero, List.set_cons_succ]
            refine skipH (i := 25) rfl (by kernel_rfl) (by kernel_rfl) (by kernel_rfl) (fun _ _ _ h => h) rfl hHeld ?_
            try simp only [Act.put, List.setIfInBounds_toArray, List.set_cons_zero, List.set_cons_succ]
            refine skipH (i := 26) rfl (by kernel_rfl) (by kernel_rfl) (by kernel_rfl) (fun _ _ _ h => h) rfl hHeld ?_
            try simp only [Act.put, List.setIfInBounds_toArray, List.set_cons_zero, List.set_cons_succ]
            refine takeJ 27 (v := ?_) ?_ hHeld ?_
            rotate_left
            · rintro w ⟨_, _⟩; go_simp; try with_reducible rfl
            refine takeJ 28 (v := ?_) ?_ hHeld ?_
            rotate_left
            · rintro w ⟨_, _⟩; go_simp; try with_reducible rfl
            refine wpAnyH_done (by kernel_rfl) ?_ _
            clear hHeld
            go_wp2
            go_roundw
            case rel => exact ⟨1, by omega, by go_num, HST.out hf, HR.out, BD⟩
            case measure => simp [intOf]; omega
        · have q0 := Bool.eq_false_iff.2 q0
          have hf := pairOk_no (.inl q0)
          go_wp2_with fail
          refine (risKey_any _ x.1).mono ?_
          rintro e w2 ⟨rfl, rfl⟩
          rw [q0]
          go_wp2_with fail
          refine wp_region_held_drew (S := fun W => W.cell? ⟨b, off, none⟩ = some (.string (strB x.1)) ∧ W.cell? ⟨b, off + 1, none⟩ = some (.string (strB x.2))) (by kernel_rfl) (⟨k0, k1⟩) (fun hHeld => ?_)
          refine takeJ 0 (v := ?_) ?_ hHeld ?_
          rotate_left
          · rintro w ⟨_, _⟩; go_simp; try with_reducible rfl
          refine takeJ 1 (v := ?_) ?_ hHeld ?_
          rotate_left
          · rintro w ⟨_, _⟩; go_simp; try with_reducible rfl
          refine takeJ 2 (v := ?_) ?_ hHeld ?_
          rotate_left
          · rintro w ⟨_, _⟩; go_simp; try with_reducible rfl
          refine skipH (i := 3) rfl (by kernel_rfl) (by kernel_rfl) (by kernel_rfl) (fun _ _ _ h => h) rfl hHeld ?_
          try simp only [Act.put, List.setIfInBounds_toArray, List.set_cons_zero, List.set_cons_succ]
          refine skipH (i := 4) rfl (by kernel_rfl) (by kernel_rfl) (by kernel_rfl) (fun _ _ _ h => h) rfl hHeld ?_
          try simp only [Act.put, List.setIfInBounds_toArray, List.set_cons_zero, List.set_cons_succ]
          refine skipH (i := 5) rfl (by kernel_rfl) (by kernel_rfl) (by kernel_rfl) (fun _ _ _ h => h) rfl hHeld ?_
          try simp only [Act.put, List.setIfInBounds_toArray, List.set_cons_zero, List.set_cons_succ]
          refine skipH (i := 6) rfl (by kernel_rfl) (by kernel_rfl) (by kernel_rfl) (fun _ _ _ h => h) rfl hHeld ?_
          try simp only [Act.put, List.setIfInBounds_toArray, List.set_cons_zero, List.set_cons_succ]
          refine skipH (i := 7) rfl (by kernel_rfl) (by kernel_rfl) (by kernel_rfl) (fun _ _ _ h => h) rfl hHeld ?_
          try simp only [Act.put, List.setIfInBounds_toArray, List.set_cons_zero, List.set_cons_succ]
          refine skipH (i := 8) rfl (by kernel_rfl) (by kernel_rfl) (by kernel_rfl) (fun _ _ _ h => h) rfl hHeld ?_
          try simp only [Act.put, List.setIfInBounds_toArray, List.set_cons_zero, List.set_cons_succ]
          refine skipH (i := 9) rfl (by kernel_rfl) (by kernel_rfl) (by kernel_rfl) (fun _ _ _ h => h) rfl hHeld ?_
          try simp only [Act.put, List.setIfInBounds_toArray, List.set_cons_zero, List.set_cons_succ]
          refine takeJ 10 (v := ?_) ?_ hHeld ?_
          rotate_left
          · rintro w ⟨_, _⟩; go_simp; try with_reducible rfl
          refine takeJ 11 (v := ?_) ?_ hHeld ?_
          rotate_left
          · rintro w ⟨_, _⟩; go_simp; try with_reducible rfl
          refine skipH (i := 12) rfl (by kernel_rfl) (by kernel_rfl) (by kernel_rfl) (fun _ _ _ h => h) rfl hHeld ?_
          try simp only [Act.put, List.setIfInBounds_toArray, List.set_cons_zero, List.set_cons_succ]
          refine skipH (i := 13) rfl (by kernel_rfl) (by kernel_rfl) (by kernel_rfl) (fun _ _ _ h => h) rfl hHeld ?_
          try simp only [Act.put, List.setIfInBounds_toArray, List.set_cons_zero, List.set_cons_succ]
          refine skipH (i := 14) rfl (by kernel_rfl) (by kernel_rfl) (by kernel_rfl) (fun _ _ _ h => h) rfl hHeld ?_
          try simp only [Act.put, List.setIfInBounds_toArray, List.set_cons_zero, List.set_cons_succ]
          refine skipH (i := 15) rfl (by kernel_rfl) (by kernel_rfl) (by kernel_rfl) (fun _ _ _ h => h) rfl hHeld ?_
          try simp only [Act.put, List.setIfInBounds_toArray, List.set_cons_zero, List.set_cons_succ]
          refine skipH (i := 16) rfl (by kernel_rfl) (by kernel_rfl) (by kernel_rfl) (fun _ _ _ h => h) rfl hHeld ?_
          try simp only [Act.put, List.setIfInBounds_toArray, List.set_cons_zero, List.set_cons_succ]
          refine skipH (i := 17) rfl (by kernel_rfl) (by kernel_rfl) (by kernel_rfl) (fun _ _ _ h => h) rfl hHeld ?_
          try simp only [Act.put, List.setIfInBounds_toArray, List.set_cons_zero, List.set_cons_succ]
          refine skipH (i := 18) rfl (by kernel_rfl) (by kernel_rfl) (by kernel_rfl) (fun _ _ _ h => h) rfl hHeld ?_
          try simp only [Act.put, List.setIfInBounds_toArray, List.set_cons_zero, List.set_cons_succ]
          refine skipH (i := 19) rfl (by kernel_rfl) (by kernel_rfl) (by kernel_rfl) (fun _ _ _ h => h) rfl hHeld ?_
          try simp only [Act.put, List.setIfInBounds_toArray, List.set_cons_zero, List.set_cons_succ]
          refine skipH (i := 20) rfl (by kernel_rfl) (by kernel_rfl) (by kernel_rfl) (fun _ _ _ h => h) rfl hHeld ?_
          try simp only [Act.put, List.setIfInBounds_toArray, List.set_cons_zero, List.set_cons_succ]
          refine skipH (i := 21) rfl (by kernel_rfl) (by kernel_rfl) (by kernel_rfl) (fun _ _ _ h => h) rfl hHeld ?_
          try simp only [Act.put, List.setIfInBounds_toArray, List.set_cons_zero, List.set_cons_succ]
          refine skipH (i := 22) rfl (by kernel_rfl) (by kernel_rfl) (by kernel_rfl) (fun _ _ _ h => h) rfl hHeld ?_
          try simp only [Act.put, List.setIfInBounds_toArray, List.set_cons_zero, List.set_cons_succ]
          refine skipH (i := 23) rfl (by kernel_rfl) (by kernel_rfl) (by kernel_rfl) (fun _ _ _ h => h) rfl hHeld ?_
          try simp only [Act.put, List.setIfInBounds_toArray, List.set_cons_zero, List.set_cons_succ]
          refine skipH (i := 24) rfl (by kernel_rfl) (by kernel_rfl) (by kernel_rfl) (fun _ _ _ h => h) rfl hHeld ?_
          try simp only [Act.put, List.setIfInBounds_toArray, List.set_cons_zero, List.set_cons_succ]
          refine skipH (i := 25) rfl (by kernel_rfl) (by kernel_rfl) (by kernel_rfl) (fun _ _ _ h => h) rfl hHeld ?_
          try simp only [Act.put, List.setIfInBounds_toArray, List.set_cons_zero, List.set_cons_succ]
          refine skipH (i := 26) rfl (by kernel_rfl) (by kernel_rfl) (by kernel_rfl) (fun _ _ _ h => h) rfl hHeld ?_
          try simp only [Act.put, List.setIfInBounds_toArray, List.set_cons_zero, List.set_cons_succ]
          refine skipH (i := 27) rfl (by kernel_rfl) (by kernel_rfl) (by kernel_rfl) (fun _ _ _ h => h) rfl hHeld ?_
          try simp only [Act.put, List.setIfInBounds_toArray, List.set_cons_zero, List.set_cons_succ]
          refine takeJ 28 (v := ?_) ?_ hHeld ?_
          rotate_left
          · rintro w ⟨_, _⟩; go_simp; try with_reducible rfl
          refine wpAnyH_done (by kernel_rfl) ?_ _
          clear hHeld
          go_wp2
          go_ret
          exact ⟨ret_bool (by rw [← HNO.out hf]; rfl), BD⟩
      | succ m =>
        have hnx := rise_next (fun p : Pair => p.1) xs m hlt
        have HNX := hide hnx
        clear hnx
        have d0 := (HB.out.cell (p := ⟨b, off + m * 2 + 0, none⟩) hbB).trans (hcl m (by omega) 0 _ rfl)
        simp only [Nat.add_zero] at d0
        have hm0 : (0 : Int) ≤ (m : Int) + 1 := by omega
        have hw : IntKind.i64.wrap (m : Int) = (m : Int) := by rw [IntKind.wrap_i64]; omega
        have hk1' : ((m + 1 : Nat) : Int) - 1 = (m : Int) := by omega
        have hml : m < xs.length := by omega
        have hpos : (0 : Int) < (m : Int) + 1 := by omega
        generalize hx : xs[m + 1] = x at *
        generalize hy : xs[m] = y at *
        have hge := geq_str 9 y.1 x.1
        clear hcl h4 hx hy
        have hsx := strB_size x.2
        by_cases q0 : isKeyB x.1 = true
        · by_cases q1 : 128 < x.2.length
          · have hf := pairOk_no (.inr q1)
            have q1' : (128 : Int) < (x.2.length : Int) := by omega
            go_wp2_with fail
            refine (risKey_any _ x.1).mono ?_
            rintro e w2 ⟨rfl, rfl⟩
            rw [q0]
            go_wp2_with fail
            refine wp_region_held_drew (S := fun W => W.cell? ⟨b, off + (m + 1) * 2, none⟩ = some (.string (strB x.1)) ∧ W.cell? ⟨b, off + (m + 1) * 2 + 1, none⟩ = some (.string (strB x.2)) ∧ W.cell? ⟨b, off + m * 2, none⟩ = some (.string (strB y.1))) (by kernel_rfl) (⟨k0, k1, d0⟩) (fun hHeld => ?_)
            refine takeJ 0 (v := ?_) ?_ hHeld ?_
            rotate_left
            · rintro w ⟨_, _, _⟩; go_simp; try with_reducible rfl
            refine takeJ 1 (v := ?_) ?_ hHeld ?_
            rotate_left
            · rintro w ⟨_, _, _⟩; go_simp; try with_reducible rfl
            refine takeJ 2 (v := ?_) ?_ hHeld ?_
            rotate_left
            · rintro w ⟨_, _, _⟩; go_simp; try with_reducible rfl
            refine takeJ 3 (v := ?_) ?_ hHeld ?_
            rotate_left
            · rintro w ⟨_, _, _⟩; go_simp; try with_reducible rfl
            refine takeJ 4 (v := ?_) ?_ hHeld ?_
            rotate_left
            · rintro w ⟨_, _, _⟩; go_simp; try with_reducible rfl
            refine takeJ 5 (v := ?_) ?_ hHeld ?_
            rotate_left
            · rintro w ⟨_, _, _⟩; go_simp; try with_reducible rfl
            refine takeJ 6 (v := ?_) ?_ hHeld ?_
            rotate_left
            · rintro w ⟨_, _, _⟩; go_simp; try with_reducible rfl
            refine takeJ 7 (v := ?_) ?_ hHeld ?_
            rotate_left
            · rintro w ⟨_, _, _⟩; go_simp; try with_reducible rfl
            refine takeJ 8 (v := ?_) ?_ hHeld ?_
            rotate_left
            · rintro w ⟨_, _, _⟩; go_simp; try with_reducible rfl
            refine takeJ 9 (v := ?_) ?_ hHeld ?_
            rotate_left
            · rintro w ⟨_, _, _⟩; go_simp; try with_reducible rfl
            refine takeJ 10 (v := ?_) ?_ hHeld ?_
            rotate_left
            · rintro w ⟨_, _, _⟩; go_simp; try with_reducible rfl
            refine takeJ 11 (v := ?_) ?_ hHeld ?_
            rotate_left
            · rintro w ⟨_, _, _⟩; go_simp; try with_reducible rfl
            refine skipH (i := 12) rfl (by kernel_rfl) (by kernel_rfl) (by kernel_rfl) (fun _ _ _ h => h) rfl hHeld ?_
            try simp only [Act.put, List.setIfInBounds_toArray, List.set_cons_zero, List.set_cons_succ]
            refine skipH (i := 13) rfl (by kernel_rfl) (by kernel_rfl) (by kernel_rfl) (fun _ _ _ h => h) rfl hHeld ?_
            try simp only [Act.put, List.setIfInBounds_toArray, List.set_cons_zero, List.set_cons_succ]
            refine skipH (i := 14) rfl (by kernel_rfl) (by kernel_rfl) (by kernel_rfl) (fun _ _ _ h => h) rfl hHeld ?_
            try simp only [Act.put, List.setIfInBounds_toArray, List.set_cons_zero, List.set_cons_succ]
            refine skipH (i := 15) rfl (by kernel_rfl) (by kernel_rfl) (by kernel_rfl) (fun _ _ _ h => h) rfl hHeld ?_
            try simp only [Act.put, List.setIfInBounds_toArray, List.set_cons_zero, List.set_cons_succ]
            refine skipH (i := 16) rfl (by kernel_rfl) (by kernel_rfl) (by kernel_rfl) (fun _ _ _ h => h) rfl hHeld ?_
            try simp only [Act.put, List.setIfInBounds_toArray, List.set_cons_zero, List.set_cons_succ]
            refine skipH (i := 17) rfl (by kernel_rfl) (by kernel_rfl) (by kernel_rfl) (fun _ _ _ h => h) rfl hHeld ?_
            try simp only [Act.put, List.setIfInBounds_toArray, List.set_cons_zero, List.set_cons_succ]
            refine skipH (i := 18) rfl (by kernel_rfl) (by kernel_rfl) (by kernel_rfl) (fun _ _ _ h => h) rfl hHeld ?_
            try simp only [Act.put, List.setIfInBounds_toArray, List.set_cons_zero, List.set_cons_succ]
            refine skipH (i := 19) rfl (by kernel_rfl) (by kernel_rfl) (by kernel_rfl) (fun _ _ _ h => h) rfl hHeld ?_
            try simp only [Act.put, List.setIfInBounds_toArray, List.set_cons_zero, List.set_cons_succ]
            refine skipH (i := 20) rfl (by kernel_rfl) (by kernel_rfl) (by kernel_rfl) (fun _ _ _ h => h) rfl hHeld ?_
            try simp only [Act.put, List.setIfInBounds_toArray, List.set_cons_zero, List.set_cons_succ]
            refine skipH (i := 21) rfl (by kernel_rfl) (by kernel_rfl) (by kernel_rfl) (fun _ _ _ h => h) rfl hHeld ?_
            try simp only [Act.put, List.setIfInBounds_toArray, List.set_cons_zero, List.set_cons_succ]
            refine skipH (i := 22) rfl (by kernel_rfl) (by kernel_rfl) (by kernel_rfl) (fun _ _ _ h => h) rfl hHeld ?_
            try simp only [Act.put, List.setIfInBounds_toArray, List.set_cons_zero, List.set_cons_succ]
            refine skipH (i := 23) rfl (by kernel_rfl) (by kernel_rfl) (by kernel_rfl) (fun _ _ _ h => h) rfl hHeld ?_
            try simp only [Act.put, List.setIfInBounds_toArray, List.set_cons_zero, List.set_cons_succ]
            refine skipH (i := 24) rfl (by kernel_rfl) (by kernel_rfl) (by kernel_rfl) (fun _ _ _ h => h) rfl hHeld ?_
            try simp only [Act.put, List.setIfInBounds_toArray, List.set_cons_zero, List.set_cons_succ]
            refine skipH (i := 25) rfl (by kernel_rfl) (by kernel_rfl) (by kernel_rfl) (fun _ _ _ h => h) rfl hHeld ?_
            try simp only [Act.put, List.setIfInBounds_toArray, List.set_cons_zero, List.set_cons_succ]
            refine skipH (i := 26) rfl (by kernel_rfl) (by kernel_rfl) (by kernel_rfl) (fun _ _ _ h => h) rfl hHeld ?_
            try simp only [Act.put, List.setIfInBounds_toArray, List.set_cons_zero, List.set_cons_succ]
            refine skipH (i := 27) rfl (by kernel_rfl) (by kernel_rfl) (by kernel_rfl) (fun _ _ _ h => h) rfl hHeld ?_
            try simp only [Act.put, List.setIfInBounds_toArray, List.set_cons_zero, List.set_cons_succ]
            refine takeJ 28 (v := ?_) ?_ hHeld ?_
            rotate_left
            · rintro w ⟨_, _, _⟩; go_simp; try with_reducible rfl
            refine wpAnyH_done (by kernel_rfl) ?_ _
            clear hHeld
            go_wp2
            go_ret
            exact ⟨ret_bool (by rw [← HNO.out hf]; rfl), BD⟩
          · have hf : pairOk x = true := by unfold pairOk; rw [q0, decide_eq_true (by omega : x.2.length ≤ 128)]; rfl
            have q1' : decide ((128 : Int) < (x.2.length : Int)) = false := decide_eq_false (by omega)
            go_wp2_with fail
            refine (risKey_any _ x.1).mono ?_
            rintro e w2 ⟨rfl, rfl⟩
            rw [q0]
            go_wp2_with fail
            refine wp_region_held_drew (S := fun W => W.cell? ⟨b, off + (m + 1) * 2, none⟩ = some (.string (strB x.1)) ∧ W.cell? ⟨b, off + (m + 1) * 2 + 1, none⟩ = some (.string (strB x.2)) ∧ W.cell? ⟨b, off + m * 2, none⟩ = some (.string (strB y.1))) (by kernel_rfl) (⟨k0, k1, d0⟩) (fun hHeld => ?_)
            refine takeJ 0 (v := ?_) ?_ hHeld ?_
            rotate_left
            · rintro w ⟨_, _, _⟩; go_simp; try with_reducible rfl
            refine takeJ 1 (v := ?_) ?_ hHeld ?_
            rotate_left
            · rintro w ⟨_, _, _⟩; go_simp; try with_reducible rfl
            refine takeJ 2 (v := ?_) ?_ hHeld ?_
            rotate_left
            · rintro w ⟨_, _, _⟩; go_simp; try with_reducible rfl
            refine takeJ 3 (v := ?_) ?_ hHeld ?_
            rotate_left
            · rintro w ⟨_, _, _⟩; go_simp; try with_reducible rfl
            refine takeJ 4 (v := ?_) ?_ hHeld ?_
            rotate_left
            · rintro w ⟨_, _, _⟩; go_simp; try with_reducible rfl
            refine takeJ 5 (v := ?_) ?_ hHeld ?_
            rotate_left
            · rintro w ⟨_, _, _⟩; go_simp; try with_reducible rfl
            refine takeJ 6 (v := ?_) ?_ hHeld ?_
            rotate_left
            · rintro w ⟨_, _, _⟩; go_simp; try with_reducible rfl
            refine takeJ 7 (v := ?_) ?_ hHeld ?_
            rotate_left
            · rintro w ⟨_, _, _⟩; go_simp; try with_reducible rfl
            refine takeJ 8 (v := ?_) ?_ hHeld ?_
            rotate_left
            · rintro w ⟨_, _, _⟩; go_simp; try with_reducible rfl
            refine takeJ 9 (v := ?_) ?_ hHeld ?_
            rotate_left
            · rintro w ⟨_, _, _⟩; go_simp; try with_reducible rfl
            refine takeJ 10 (v := ?_) ?_ hHeld ?_
            rotate_left
            · rintro w ⟨_, _, _⟩; go_simp; try with_reducible rfl
            refine takeJ 11 (v := ?_) ?_ hHeld ?_
            rotate_left
            · rintro w ⟨_, _, _⟩; go_simp; try with_reducible rfl
            refine takeJ 12 (v := ?_) ?_ hHeld ?_
            rotate_left
            · rintro w ⟨_, _, _⟩; go_simp; try with_reducible rfl
            refine takeJ 13 (v := ?_) ?_ hHeld ?_
            rotate_left
            · rintro w ⟨_, _, _⟩; go_simp; try with_reducible rfl
            refine takeJ 14 (v := ?_) ?_ hHeld ?_
            rotate_left
            · rintro w ⟨_, _, _⟩; go_simp; try with_reducible rfl
            refine takeJ 15 (v := ?_) ?_ hHeld ?_
            rotate_left
            · rintro w ⟨_, _, _⟩; go_simp; try with_reducible rfl
            refine takeJ 16 (v := ?_) ?_ hHeld ?_
            rotate_left
            · rintro w ⟨_, _, _⟩; go_simp; try with_reducible rfl
            refine takeJ 17 (v := ?_) ?_ hHeld ?_
            rotate_left
            · rintro w ⟨_, _, _⟩; go_simp; try with_reducible rfl
            refine takeJ 18 (v := ?_) ?_ hHeld ?_
            rotate_left
            · rintro w ⟨_, _, _⟩; go_simp; try with_reducible rfl
            refine takeJ 19 (v := ?_) ?_ hHeld ?_
            rotate_left
            · rintro w ⟨_, _, _⟩; go_simp; try with_reducible rfl
            refine takeJ 20 (v := ?_) ?_ hHeld ?_
            rotate_left
            · rintro w ⟨_, _, _⟩; go_simp; try with_reducible rfl
            refine takeJ 21 (v := ?_) ?_ hHeld ?_
            rotate_left
            · rintro w ⟨_, _, _⟩; go_simp; try with_reducible rfl
            refine takeJ 22 (v := ?_) ?_ hHeld ?_
            rotate_left
            · rintro w ⟨_, _, _⟩; go_simp; try with_reducible rfl
            refine takeJ 23 (v := ?_) ?_ hHeld ?_
            rotate_left
            · rintro w ⟨_, _, _⟩; go_simp; try with_reducible rfl
            refine takeJ 24 (v := ?_) ?_ hHeld ?_
            rotate_left
            · rintro w ⟨_, _, _⟩; go_simp; try with_reducible rfl
            refine takeJ 25 (v := ?_) ?_ hHeld ?_
            rotate_left
            · rintro w ⟨_, _, _⟩; go_simp; try with_reducible rfl
            refine takeJ 26 (v := ?_) ?_ hHeld ?_
            rotate_left
            · rintro w ⟨_, _, _⟩; go_simp; try with_reducible rfl
            refine takeJ 27 (v := ?_) ?_ hHeld ?_
            rotate_left
            · rintro w ⟨_, _, _⟩; go_simp; try with_reducible rfl
            refine takeJ 28 (v := ?_) ?_ hHeld ?_
            rotate_left
            · rintro w ⟨_, _, _⟩; go_simp; try with_reducible rfl
            refine wpAnyH_done (by kernel_rfl) ?_ _
            clear hHeld
            by_cases hl : ltB y.1 x.1 = true
            · rw [hl]
              go_wp2
              go_roundw
              case rel =>
                refine ⟨m + 1 + 1, by omega, by go_num, HST.out hf, ?_, BD⟩
                have h1 := HR.out
                rw [Nat.add_sub_cancel] at h1 ⊢
                rw [h1, HNX.out, hl]
                rfl
              case measure => simp [intOf]; omega
            · have hl := Bool.eq_false_iff.2 hl
              rw [hl]
              go_wp2
              go_ret
              have h1 := HR.out
              rw [Nat.add_sub_cancel, HNX.out, hl] at h1
              exact ⟨ret_bool (by rw [h1]; simp), BD⟩
        · have q0 := Bool.eq_false_iff.2 q0
          have hf := pairOk_no (.inl q0)
          go_wp2_with fail
          refine (risKey_any _ x.1).mono ?_
          rintro e w2 ⟨rfl, rfl⟩
          rw [q0]
          go_wp2_with fail
          refine wp_region_held_drew (S := fun W => W.cell? ⟨b, off + (m + 1) * 2, none⟩ = some (.string (strB x.1)) ∧ W.cell? ⟨b, off + (m + 1) * 2 + 1, none⟩ = some (.string (strB x.2)) ∧ W.cell? ⟨b, off + m * 2, none⟩ = some (.string (strB y.1))) (by kernel_rfl) (⟨k0, k1, d0⟩) (fun hHeld => ?_)
          refine takeJ 0 (v := ?_) ?_ hHeld ?_
          rotate_left
          · rintro w ⟨_, _, _⟩; go_simp; try with_reducible rfl
          refine takeJ 1 (v := ?_) ?_ hHeld ?_
          rotate_left
          · rintro w ⟨_, _, _⟩; go_simp; try with_reducible rfl
          refine takeJ 2 (v := ?_) ?_ hHeld ?_
          rotate_left
          · rintro w ⟨_, _, _⟩; go_simp; try with_reducible rfl
          refine skipH (i := 3) rfl (by kernel_rfl) (by kernel_rfl) (by kernel_rfl) (fun _ _ _ h => h) rfl hHeld ?_
          try simp only [Act.put, List.setIfInBounds_toArray, List.set_cons_zero, List.set_cons_succ]
          refine skipH (i := 4) rfl (by kernel_rfl) (by kernel_rfl) (by kernel_rfl) (fun _ _ _ h => h) rfl hHeld ?_
          try simp only [Act.put, List.setIfInBounds_toArray, List.set_cons_zero, List.set_cons_succ]
          refine skipH (i := 5) rfl (by kernel_rfl) (by kernel_rfl) (by kernel_rfl) (fun _ _ _ h => h) rfl hHeld ?_
          try simp only [Act.put, List.setIfInBounds_toArray, List.set_cons_zero, List.set_cons_succ]
          refine skipH (i := 6) rfl (by kernel_rfl) (by kernel_rfl) (by kernel_rfl) (fun _ _ _ h => h) rfl hHeld ?_
          try simp only [Act.put, List.setIfInBounds_toArray, List.set_cons_zero, List.set_cons_succ]
          refine skipH (i := 7) rfl (by kernel_rfl) (by kernel_rfl) (by kernel_rfl) (fun _ _ _ h => h) rfl hHeld ?_
          try simp only [Act.put, List.setIfInBounds_toArray, List.set_cons_zero, List.set_cons_succ]
          refine skipH (i := 8) rfl (by kernel_rfl) (by kernel_rfl) (by kernel_rfl) (fun _ _ _ h => h) rfl hHeld ?_
          try simp only [Act.put, List.setIfInBounds_toArray, List.set_cons_zero, List.set_cons_succ]
          refine skipH (i := 9) rfl (by kernel_rfl) (by kernel_rfl) (by kernel_rfl) (fun _ _ _ h => h) rfl hHeld ?_
          try simp only [Act.put, List.setIfInBounds_toArray, List.set_cons_zero, List.set_cons_succ]
          refine takeJ 10 (v := ?_) ?_ hHeld ?_
          rotate_left
          · rintro w ⟨_, _, _⟩; go_simp; try with_reducible rfl
          refine takeJ 11 (v := ?_) ?_ hHeld ?_
          rotate_left
          · rintro w ⟨_, _, _⟩; go_simp; try with_reducible rfl
          refine skipH (i := 12) rfl (by kernel_rfl) (by kernel_rfl) (by kernel_rfl) (fun _ _ _ h => h) rfl hHeld ?_
          try simp only [Act.put, List.setIfInBounds_toArray, List.set_cons_zero, List.set_cons_succ]
          refine skipH (i := 13) rfl (by kernel_rfl) (by kernel_rfl) (by kernel_rfl) (fun _ _ _ h => h) rfl hHeld ?_
          try simp only [Act.put, List.setIfInBounds_toArray, List.set_cons_zero, List.set_cons_succ]
          refine skipH (i := 14) rfl (by kernel_rfl) (by kernel_rfl) (by kernel_rfl) (fun _ _ _ h => h) rfl hHeld ?_
          try simp only [Act.put, List.setIfInBounds_toArray, List.set_cons_zero, List.set_cons_succ]
          refine skipH (i := 15) rfl (by kernel_rfl) (by kernel_rfl) (by kernel_rfl) (fun _ _ _ h => h) rfl hHeld ?_
          try simp only [Act.put, List.setIfInBounds_toArray, List.set_cons_zero, List.set_cons_succ]
          refine skipH (i := 16) rfl (by kernel_rfl) (by kernel_rfl) (by kernel_rfl) (fun _ _ _ h => h) rfl hHeld ?_
          try simp only [Act.put, List.setIfInBounds_toArray, List.set_cons_zero, List.set_cons_succ]
          refine skipH (i := 17) rfl (by kernel_rfl) (by kernel_rfl) (by kernel_rfl) (fun _ _ _ h => h) rfl hHeld ?_
          try simp only [Act.put, List.setIfInBounds_toArray, List.set_cons_zero, List.set_cons_succ]
          refine skipH (i := 18) rfl (by kernel_rfl) (by kernel_rfl) (by kernel_rfl) (fun _ _ _ h => h) rfl hHeld ?_
          try simp only [Act.put, List.setIfInBounds_toArray, List.set_cons_zero, List.set_cons_succ]
          refine skipH (i := 19) rfl (by kernel_rfl) (by kernel_rfl) (by kernel_rfl) (fun _ _ _ h => h) rfl hHeld ?_
          try simp only [Act.put, List.setIfInBounds_toArray, List.set_cons_zero, List.set_cons_succ]
          refine skipH (i := 20) rfl (by kernel_rfl) (by kernel_rfl) (by kernel_rfl) (fun _ _ _ h => h) rfl hHeld ?_
          try simp only [Act.put, List.setIfInBounds_toArray, List.set_cons_zero, List.set_cons_succ]
          refine skipH (i := 21) rfl (by kernel_rfl) (by kernel_rfl) (by kernel_rfl) (fun _ _ _ h => h) rfl hHeld ?_
          try simp only [Act.put, List.setIfInBounds_toArray, List.set_cons_zero, List.set_cons_succ]
          refine skipH (i := 22) rfl (by kernel_rfl) (by kernel_rfl) (by kernel_rfl) (fun _ _ _ h => h) rfl hHeld ?_
          try simp only [Act.put, List.setIfInBounds_toArray, List.set_cons_zero, List.set_cons_succ]
          refine skipH (i := 23) rfl (by kernel_rfl) (by kernel_rfl) (by kernel_rfl) (fun _ _ _ h => h) rfl hHeld ?_
          try simp only [Act.put, List.setIfInBounds_toArray, List.set_cons_zero, List.set_cons_succ]
          refine skipH (i := 24) rfl (by kernel_rfl) (by kernel_rfl) (by kernel_rfl) (fun _ _ _ h => h) rfl hHeld ?_
          try simp only [Act.put, List.setIfInBounds_toArray, List.set_cons_zero, List.set_cons_succ]
          refine skipH (i := 25) rfl (by kernel_rfl) (by kernel_rfl) (by kernel_rfl) (fun _ _ _ h => h) rfl hHeld ?_
          try simp only [Act.put, List.setIfInBounds_toArray, List.set_cons_zero, List.set_cons_succ]
          refine skipH (i := 26) rfl (by kernel_rfl) (by kernel_rfl) (by kernel_rfl) (fun _ _ _ h => h) rfl hHeld ?_
          try simp only [Act.put, List.setIfInBounds_toArray, List.set_cons_zero, List.set_cons_succ]
          refine skipH (i := 27) rfl (by kernel_rfl) (by kernel_rfl) (by kernel_rfl) (fun _ _ _ h => h) rfl hHeld ?_
          try simp only [Act.put, List.setIfInBounds_toArray, List.set_cons_zero, List.set_cons_succ]
          refine takeJ 28 (v := ?_) ?_ hHeld ?_
          rotate_left
          · rintro w ⟨_, _, _⟩; go_simp; try with_reducible rfl
          refine wpAnyH_done (by kernel_rfl) ?_ _
          clear hHeld
          go_wp2
          go_ret
          exact ⟨ret_bool (by rw [← HNO.out hf]; rfl), BD⟩
    · obtain rfl : k = xs.length := by omega
      have ht := HA.out
      rw [List.take_length] at ht
      have hr := HR.out
      rw [rise_end _ xs _ (by omega)] at hr
      go_wp2
      go_ret
      exact ⟨ret_bool (by first | rfl | (rw [ht, hr]; rfl)), HB.out⟩
theorem leafOk_pairs {f : List Pair} (h : leafOk ltB f = true) : f.length ≤ 64 ∧ ∀ p ∈ f, pairOk p = true := by
  unfold leafOk at h
  simp only [Bool.and_eq_true, decide_eq_true_eq, List.all_eq_true] at h
  exact ⟨h.1.1, fun p hp => by unfold pairOk; simp only [Bool.and_eq_true, decide_eq_true_eq]; exact h.1.2 p hp⟩
end Go.Proofs.YtimbleaafoiidaaGreatDoor
