/-
  Lists, fans, leaves, branches, commits held against each other. Conditions: lists lie there.
-/
import Derived.Test.YtdbmngbinhemeabGreatDoorROSame0
namespace Go.Proofs.YtdbmngbinhemeabGreatDoor
open Go.RowKit

set_option maxRecDepth 20000 in
set_option maxHeartbeats 800000 in
theorem sameIds_any (w : World) (xs ys : List (Bs)) (vx vy : Value) (hvx : Ls w.heap.size w 1 idC vx xs) (hvy : Ls w.heap.size w 1 idC vy ys) :
    Calls Tryz.prog 7 #[vx, vy] w fun e w' => e = .returned (.bool (decide (xs = ys))) ∧ Below w.heap.size w w' := by
  obtain ⟨ax, capx, rfl, gx1, gx2, hx⟩ := hvx
  obtain ⟨ay, capy, rfl, gy1, gy2, hy⟩ := hvy
  unfold maxLen at gx2 gy2
  by_cases hle : xs.length = ys.length
  rotate_left
  · have hle' : ((xs.length : Int) == (ys.length : Int)) = false := by simp; omega
    go_enter Tryz.func7, Tryz.ntmps7
    go_wp2_with fail
    skip
    try go_wp2
    go_ret
    exact ⟨ret_bool (Eq.symm (decide_eq_false (fun e => hle (congrArg List.length e)))), Below.refl _ _⟩
  rw [hle] at gx1 ⊢
  have HLE := hide hle
  clear hle
  go_enter Tryz.func7, Tryz.ntmps7
  go_wp2_with fail
  skip
  go_loopw [5] (fun t wr => ∃ k : Nat, k ≤ ys.length ∧ t = .int .i64 k ∧ xs.take k = ys.take k ∧ Below w.heap.size w wr)
    (fun t _ => ys.length - (intOf t).toNat)
  case atStart => exact ⟨0, by omega, rfl, by simp, Below.refl _ _⟩
  case round =>
    obtain ⟨k, hk, rfl, htk, hbr⟩ := hrel
    have hbw : Below w.heap.size w wr := hbr
    have HB := hide hbr
    have HBW := hide hbw
    have HTK := hide htk
    clear hbr hbw htk
    by_cases hlt2 : k < ys.length
    · have hlt : k < xs.length := by rw [HLE.out]; exact hlt2
      obtain ⟨bx, offx, rfl, hbX, hcx⟩ := hx (by intro e; rw [e] at hlt; simp at hlt)
      obtain ⟨bY, offy, rfl, hbYl, hcy⟩ := hy (by intro e; rw [e] at hlt2; simp at hlt2)
      have c0 := (HBW.out.cell (p := ⟨bx, offx + k * 1 + 0, none⟩) hbX).trans (hcx k hlt 0 _ rfl)
      have d0 := (HBW.out.cell (p := ⟨bY, offy + k * 1 + 0, none⟩) hbYl).trans (hcy k hlt2 0 _ rfl)
      have hst := fun he => take_step hlt hlt2 HTK.out he
      have hno : xs[k] ≠ ys[k] → xs ≠ ys := fun hne e => hne (by simp only [e])
      generalize xs[k] = x at *
      generalize ys[k] = y at *
      try simp only [Nat.mul_one, Nat.add_zero] at c0 d0
      have HST := hide hst
      have HNO := hide hno
      have hnq := neqBs 9 x y
      clear hst hno hcx hcy hx hy hlt
      go_wp2_with fail
      refine wp_region_held_drew (S := fun W => W.cell? ⟨bx, offx + k, none⟩ = some (.string (strB x)) ∧ W.cell? ⟨bY, offy + k, none⟩ = some (.string (strB y))) (by kernel_rfl) (⟨c0, d0⟩) (fun hHeld => ?_)
      refine takeH (i := 0) (v := ?_) rfl (by kernel_rfl) (by kernel_rfl) (by kernel_rfl) (fun _ _ _ h => h) rfl ?_ hHeld ?_
      rotate_left
      · intro w hS; (try dsimp only at hS); obtain ⟨hS0, hS1⟩ := hS; go_simp; first | done | (with_reducible rfl)
      try simp only [Act.put, List.setIfInBounds_toArray, List.set_cons_zero, List.set_cons_succ]
      refine takeH (i := 1) (v := ?_) rfl (by kernel_rfl) (by kernel_rfl) (by kernel_rfl) (fun _ _ _ h => h) rfl ?_ hHeld ?_
      rotate_left
      · intro w hS; (try dsimp only at hS); obtain ⟨hS0, hS1⟩ := hS; go_simp; first | done | (with_reducible rfl)
      try simp only [Act.put, List.setIfInBounds_toArray, List.set_cons_zero, List.set_cons_succ]
      refine takeH (i := 2) (v := ?_) rfl (by kernel_rfl) (by kernel_rfl) (by kernel_rfl) (fun _ _ _ h => h) rfl ?_ hHeld ?_
      rotate_left
      · intro w hS; (try dsimp only at hS); obtain ⟨hS0, hS1⟩ := hS; go_simp; first | done | (with_reducible rfl)
      try simp only [Act.put, List.setIfInBounds_toArray, List.set_cons_zero, List.set_cons_succ]
      refine takeH (i := 3) (v := ?_) rfl (by kernel_rfl) (by kernel_rfl) (by kernel_rfl) (fun _ _ _ h => h) rfl ?_ hHeld ?_
      rotate_left
      · intro w hS; (try dsimp only at hS); obtain ⟨hS0, hS1⟩ := hS; go_simp; first | done | (with_reducible rfl)
      try simp only [Act.put, List.setIfInBounds_toArray, List.set_cons_zero, List.set_cons_succ]
      refine takeH (i := 4) (v := ?_) rfl (by kernel_rfl) (by kernel_rfl) (by kernel_rfl) (fun _ _ _ h => h) rfl ?_ hHeld ?_
      rotate_left
      · intro w hS; (try dsimp only at hS); obtain ⟨hS0, hS1⟩ := hS; go_simp; first | done | (with_reducible rfl)
      try simp only [Act.put, List.setIfInBounds_toArray, List.set_cons_zero, List.set_cons_succ]
      refine takeH (i := 5) (v := ?_) rfl (by kernel_rfl) (by kernel_rfl) (by kernel_rfl) (fun _ _ _ h => h) rfl ?_ hHeld ?_
      rotate_left
      · intro w hS; (try dsimp only at hS); obtain ⟨hS0, hS1⟩ := hS; go_simp; first | done | (with_reducible rfl)
      try simp only [Act.put, List.setIfInBounds_toArray, List.set_cons_zero, List.set_cons_succ]
      refine takeH (i := 6) (v := ?_) rfl (by kernel_rfl) (by kernel_rfl) (by kernel_rfl) (fun _ _ _ h => h) rfl ?_ hHeld ?_
      rotate_left
      · intro w hS; (try dsimp only at hS); obtain ⟨hS0, hS1⟩ := hS; go_simp; first | done | (with_reducible rfl)
      try simp only [Act.put, List.setIfInBounds_toArray, List.set_cons_zero, List.set_cons_succ]
      refine takeH (i := 7) (v := ?_) rfl (by kernel_rfl) (by kernel_rfl) (by kernel_rfl) (fun _ _ _ h => h) rfl ?_ hHeld ?_
      rotate_left
      · intro w hS; (try dsimp only at hS); obtain ⟨hS0, hS1⟩ := hS; go_simp; first | done | (with_reducible rfl)
      try simp only [Act.put, List.setIfInBounds_toArray, List.set_cons_zero, List.set_cons_succ]
      refine takeH (i := 8) (v := ?_) rfl (by kernel_rfl) (by kernel_rfl) (by kernel_rfl) (fun _ _ _ h => h) rfl ?_ hHeld ?_
      rotate_left
      · intro w hS; (try dsimp only at hS); obtain ⟨hS0, hS1⟩ := hS; go_simp; first | done | (with_reducible rfl)
      try simp only [Act.put, List.setIfInBounds_toArray, List.set_cons_zero, List.set_cons_succ]
      refine wpAnyH_done (by kernel_rfl) ?_ _
      clear hHeld hnq
      have hbD : Below w.heap.size w wr.drew := HB.out.drew
      have HBD := hide hbD
      clear hbD
      by_cases he : x = y
      · have hbe := same1_true he
        rw [hbe]
        go_wp2
        go_roundw
        case rel => exact ⟨k + 1, by omega, by go_num, HST.out he, HBD.out⟩
        case measure => simp [intOf]; omega
      · have hbe := same1_false he
        rw [hbe]
        go_wp2
        go_ret
        exact ⟨ret_bool (Eq.symm (decide_eq_false (fun e => HNO.out he (e)))), HBD.out⟩
    · have hall : xs = ys := by
        have := HTK.out
        have hL := HLE.out
        rwa [List.take_of_length_le (by omega), List.take_of_length_le (by omega)] at this
      go_wp2
      go_ret
      exact ⟨ret_bool (Eq.symm (decide_eq_true (hall))), HBW.out⟩

theorem commit_eq (c d : Commit) : decide (c = d) = (same1 c.1 d.1 && same1 c.2.1 d.2.1 && same1 c.2.2.1 d.2.2.1 && same1 c.2.2.2.1 d.2.2.2.1 && same1 c.2.2.2.2 d.2.2.2.2) := by
  unfold same1
  rw [Bool.eq_iff_iff]
  simp [Prod.ext_iff, and_assoc]
theorem eqBs (t : TypeId) (a b : Bs) : binOp .eql t (.string (strB a)) (.string (strB b)) = pure (.bool (same1 a b)) := by
  have h : (a == b) = same1 a b := by unfold same1; rw [Bool.eq_iff_iff]; simp
  simp [binOp, Op.stringOp, toL, h]
end Go.Proofs.YtdbmngbinhemeabGreatDoor
