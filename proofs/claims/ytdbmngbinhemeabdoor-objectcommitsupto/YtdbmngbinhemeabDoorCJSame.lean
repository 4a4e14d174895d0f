/-
  Structs held against each other. No condition.
  Lists, fans, leaves, branches, commits held against each other. Conditions: lists lie there.
-/
import Derived.Test.YtdbmngbinhemeabDoorCOTop4
import Derived.Laws.StructEq
namespace Go.Proofs.YtdbmngbinhemeabDoor
open Go.RowKit

/-- Are two the same? -/
def same1 {α : Type} [DecidableEq α] (x y : α) : Bool := decide (x = y)
theorem same1_true {α : Type} [DecidableEq α] {x y : α} (h : x = y) : same1 x y = true := decide_eq_true h
theorem same1_false {α : Type} [DecidableEq α] {x y : α} (h : ¬ x = y) : same1 x y = false := decide_eq_false h

theorem Tryd.eqPart : Tryd.prog.underlying 78 = some (.struct (Tryd.prog.fieldsOf 78)) ∧ Tryd.prog.stoodInHeld 78 = false ∧ Tryd.prog.eqGuardType Tryd.prog.depth 78 = false := ⟨by kernel_rfl, by kernel_rfl, by kernel_rfl⟩
theorem neq_Part (W : World) (a0 b0 : Bs) (a1 b1 : Int) : (binOp .neq 78 (.agg #[.string (strB a0), .int .i64 a1]) (.agg #[.string (strB b0), .int .i64 b1])).run Tryd.prog W = .ok (.bool (!(a0 == b0 && a1 == b1))) W := by
  obtain ⟨h1, h2, h3⟩ := Tryd.eqPart
  rw [run_neq_struct, run_equalIn_agg _ _ _ _ _ h1 h2]
  simp only [Program.fieldsOf, Tryd.underlying78]
  by_cases q0 : a0 = b0 <;> by_cases q1 : a1 = b1 <;> simp [Op.eqFields, go_sem, Tryd.underlying9, Tryd.underlying2, toL, q0, q1]

theorem Tryd.eqPair : Tryd.prog.underlying 68 = some (.struct (Tryd.prog.fieldsOf 68)) ∧ Tryd.prog.stoodInHeld 68 = false ∧ Tryd.prog.eqGuardType Tryd.prog.depth 68 = false := ⟨by kernel_rfl, by kernel_rfl, by kernel_rfl⟩
theorem neq_Pair (W : World) (a0 b0 : Bs) (a1 b1 : Bs) : (binOp .neq 68 (.agg #[.string (strB a0), .string (strB a1)]) (.agg #[.string (strB b0), .string (strB b1)])).run Tryd.prog W = .ok (.bool (!(a0 == b0 && a1 == b1))) W := by
  obtain ⟨h1, h2, h3⟩ := Tryd.eqPair
  rw [run_neq_struct, run_equalIn_agg _ _ _ _ _ h1 h2]
  simp only [Program.fieldsOf, Tryd.underlying68]
  by_cases q0 : a0 = b0 <;> by_cases q1 : a1 = b1 <;> simp [Op.eqFields, go_sem, Tryd.underlying9, toL, q0, q1]

theorem Tryd.eqLink : Tryd.prog.underlying 104 = some (.struct (Tryd.prog.fieldsOf 104)) ∧ Tryd.prog.stoodInHeld 104 = false ∧ Tryd.prog.eqGuardType Tryd.prog.depth 104 = false := ⟨by kernel_rfl, by kernel_rfl, by kernel_rfl⟩
theorem neq_Link (W : World) (a0 b0 : Bs) (a1 b1 : Bs) (a2 b2 : Int) : (binOp .neq 104 (.agg #[.string (strB a0), .string (strB a1), .int .i64 a2]) (.agg #[.string (strB b0), .string (strB b1), .int .i64 b2])).run Tryd.prog W = .ok (.bool (!(a0 == b0 && a1 == b1 && a2 == b2))) W := by
  obtain ⟨h1, h2, h3⟩ := Tryd.eqLink
  rw [run_neq_struct, run_equalIn_agg _ _ _ _ _ h1 h2]
  simp only [Program.fieldsOf, Tryd.underlying104]
  by_cases q0 : a0 = b0 <;> by_cases q1 : a1 = b1 <;> by_cases q2 : a2 = b2 <;> simp [Op.eqFields, go_sem, Tryd.underlying9, Tryd.underlying2, toL, q0, q1, q2]

theorem Tryd.eqObj : Tryd.prog.underlying 27 = some (.struct (Tryd.prog.fieldsOf 27)) ∧ Tryd.prog.stoodInHeld 27 = false ∧ Tryd.prog.eqGuardType Tryd.prog.depth 27 = false := ⟨by kernel_rfl, by kernel_rfl, by kernel_rfl⟩
theorem eql_Obj (W : World) (a0 b0 : Bs) (a1 b1 : Bs) : (binOp .eql 27 (.agg #[.string (strB a0), .string (strB a1)]) (.agg #[.string (strB b0), .string (strB b1)])).run Tryd.prog W = .ok (.bool ((a0 == b0 && a1 == b1))) W := by
  obtain ⟨h1, h2, h3⟩ := Tryd.eqObj
  rw [run_eql_struct, run_equalIn_agg _ _ _ _ _ h1 h2]
  simp only [Program.fieldsOf, Tryd.underlying27]
  by_cases q0 : a0 = b0 <;> by_cases q1 : a1 = b1 <;> simp [Op.eqFields, go_sem, Tryd.underlying9, toL, q0, q1]
theorem neqPart (W : World) (x y : Part) : (binOp .neq 78 (.agg #[.string (strB x.1), .int .i64 x.2]) (.agg #[.string (strB y.1), .int .i64 y.2])).run Tryd.prog W = .ok (.bool (!(same1 x y))) W := by
  rw [neq_Part, show (x.1 == y.1 && x.2 == y.2) = same1 x y from by unfold same1; rw [Bool.eq_iff_iff]; simp [Prod.ext_iff]]
theorem neqPair (W : World) (x y : Pair) : (binOp .neq 68 (.agg #[.string (strB x.1), .string (strB x.2)]) (.agg #[.string (strB y.1), .string (strB y.2)])).run Tryd.prog W = .ok (.bool (!(same1 x y))) W := by
  rw [neq_Pair, show (x.1 == y.1 && x.2 == y.2) = same1 x y from by unfold same1; rw [Bool.eq_iff_iff]; simp [Prod.ext_iff]]
theorem neqLink (W : World) (x y : Link) : (binOp .neq 104 (.agg #[.string (strB x.1), .string (strB x.2.1), .int .i64 x.2.2]) (.agg #[.string (strB y.1), .string (strB y.2.1), .int .i64 y.2.2])).run Tryd.prog W = .ok (.bool (!(same1 x y))) W := by
  rw [neq_Link, show (x.1 == y.1 && x.2.1 == y.2.1 && x.2.2 == y.2.2) = same1 x y from by unfold same1; rw [Bool.eq_iff_iff]; simp [Prod.ext_iff, and_assoc]]
theorem neqBs (t : TypeId) (a b : Bs) : binOp .neq t (.string (strB a)) (.string (strB b)) = pure (.bool (!(same1 a b))) := by
  have h : (a == b) = same1 a b := by unfold same1; rw [Bool.eq_iff_iff]; simp
  simp [binOp, Op.stringOp, toL, h]
theorem neq_str (t : TypeId) (a b : Bs) : binOp .neq t (.string (strB a)) (.string (strB b)) = pure (.bool (!(a == b))) := by simp [binOp, Op.stringOp, toL]
theorem eql_str (t : TypeId) (a b : Bs) : binOp .eql t (.string (strB a)) (.string (strB b)) = pure (.bool (a == b)) := by simp [binOp, Op.stringOp, toL]
theorem take_step {α : Type} {xs ys : List α} {k : Nat} (h1 : k < xs.length) (h2 : k < ys.length) (h : xs.take k = ys.take k) (he : xs[k] = ys[k]) : xs.take (k + 1) = ys.take (k + 1) := by
  rw [List.take_succ_eq_append_getElem h1, List.take_succ_eq_append_getElem h2, h, he]
end Go.Proofs.YtdbmngbinhemeabDoor
namespace Go.Proofs.YtdbmngbinhemeabDoor
open Go.RowKit

set_option maxRecDepth 20000 in
set_option maxHeartbeats 800000 in
theorem sameLeaf_any (w : World) (xs ys : List (Pair)) (vx vy : Value) (hvx : Ls w.heap.size w 2 pairC vx xs) (hvy : Ls w.heap.size w 2 pairC vy ys) :
    Calls Tryd.prog 26 #[vx, vy] w fun e w' => e = .returned (.bool (decide (xs = ys))) ∧ Below w.heap.size w w' := by
  obtain ⟨ax, capx, rfl, gx1, gx2, hx⟩ := hvx
  obtain ⟨ay, capy, rfl, gy1, gy2, hy⟩ := hvy
  unfold maxLen at gx2 gy2
  by_cases hle : xs.length = ys.length
  rotate_left
  · have hle' : ((xs.length : Int) == (ys.length : Int)) = false := by simp; omega
    go_enter Tryd.func26, Tryd.ntmps26
    go_wp2_with fail
    skip
    try go_wp2
    go_ret
    exact ⟨ret_bool (Eq.symm (decide_eq_false (fun e => hle (congrArg List.length e)))), Below.refl _ _⟩
  rw [hle] at gx1 ⊢
  have HLE := hide hle
  clear hle
  go_enter Tryd.func26, Tryd.ntmps26
  go_wp2_with fail
  skip
  go_loopw [5] (fun t wr => ∃ k : Nat, k ≤ ys.length ∧ t = .int .i64 k ∧ xs.take k = ys.take k ∧ Below w.heap.size w wr)
    (fun t _ => ys.length - (intOf t).toNat)
  case atStart => exact ⟨0, by omega, rfl, by simp, Below.refl _ _⟩
  case round =>
    obtain ⟨k, hk, rfl, htk, hbr⟩ := hrel
    have hbw : Below w.heap.size w wr := hbr
    have HB := hide hbr
    have HBW := hide hbw
    have HTK := hide htk
    clear hbr hbw htk
    by_cases hlt2 : k < ys.length
    · have hlt : k < xs.length := by rw [HLE.out]; exact hlt2
      obtain ⟨bx, offx, rfl, hbX, hcx⟩ := hx (by intro e; rw [e] at hlt; simp at hlt)
      obtain ⟨bY, offy, rfl, hbYl, hcy⟩ := hy (by intro e; rw [e] at hlt2; simp at hlt2)
      have c0 := (HBW.out.cell (p := ⟨bx, offx + k * 2 + 0, none⟩) hbX).trans (hcx k hlt 0 _ rfl)
      have d0 := (HBW.out.cell (p := ⟨bY, offy + k * 2 + 0, none⟩) hbYl).trans (hcy k hlt2 0 _ rfl)
      have c1 := (HBW.out.cell (p := ⟨bx, offx + k * 2 + 1, none⟩) hbX).trans (hcx k hlt 1 _ rfl)
      have d1 := (HBW.out.cell (p := ⟨bY, offy + k * 2 + 1, none⟩) hbYl).trans (hcy k hlt2 1 _ rfl)
      have hst := fun he => take_step hlt hlt2 HTK.out he
      have hno : xs[k] ≠ ys[k] → xs ≠ ys := fun hne e => hne (by simp only [e])
      generalize xs[k] = x at *
      generalize ys[k] = y at *
      try simp only [Nat.add_zero] at c0 d0 c1 d1
      have HST := hide hst
      have HNO := hide hno
      have hnq : ∀ W, _ := fun W => neqPair W x y
      clear hst hno hcx hcy hx hy hlt
      go_wp2_with fail
      refine wp_region_held_drew (S := fun W => W.cell? ⟨bx, offx + k * 2, none⟩ = some (.string (strB x.1)) ∧ W.cell? ⟨bx, offx + k * 2 + 1, none⟩ = some (.string (strB x.2)) ∧ W.cell? ⟨bY, offy + k * 2, none⟩ = some (.string (strB y.1)) ∧ W.cell? ⟨bY, offy + k * 2 + 1, none⟩ = some (.string (strB y.2))) (by kernel_rfl) (⟨c0, c1, d0, d1⟩) (fun hHeld => ?_)
      refine takeH (i := 0) (v := ?_) rfl (by kernel_rfl) (by kernel_rfl) (by kernel_rfl) (fun _ _ _ h => h) rfl ?_ hHeld ?_
      rotate_left
      · intro w hS; (try dsimp only at hS); obtain ⟨hS0, hS1, hS2, hS3⟩ := hS; go_simp; first | done | (with_reducible rfl)
      try simp only [Act.put, List.setIfInBounds_toArray, List.set_cons_zero, List.set_cons_succ]
      refine takeH (i := 1) (v := ?_) rfl (by kernel_rfl) (by kernel_rfl) (by kernel_rfl) (fun _ _ _ h => h) rfl ?_ hHeld ?_
      rotate_left
      · intro w hS; (try dsimp only at hS); obtain ⟨hS0, hS1, hS2, hS3⟩ := hS; go_simp; first | done | (with_reducible rfl)
      try simp only [Act.put, List.setIfInBounds_toArray, List.set_cons_zero, List.set_cons_succ]
      refine takeH (i := 2) (v := ?_) rfl (by kernel_rfl) (by kernel_rfl) (by kernel_rfl) (fun _ _ _ h => h) rfl ?_ hHeld ?_
      rotate_left
      · intro w hS; (try dsimp only at hS); obtain ⟨hS0, hS1, hS2, hS3⟩ := hS; go_simp; first | done | (with_reducible rfl)
      try simp only [Act.put, List.setIfInBounds_toArray, List.set_cons_zero, List.set_cons_succ]
      refine takeH (i := 3) (v := ?_) rfl (by kernel_rfl) (by kernel_rfl) (by kernel_rfl) (fun _ _ _ h => h) rfl ?_ hHeld ?_
      rotate_left
      · intro w hS; (try dsimp only at hS); obtain ⟨hS0, hS1, hS2, hS3⟩ := hS; go_simp; first | done | (with_reducible rfl)
      try simp only [Act.put, List.setIfInBounds_toArray, List.set_cons_zero, List.set_cons_succ]
      refine takeH (i := 4) (v := ?_) rfl (by kernel_rfl) (by kernel_rfl) (by kernel_rfl) (fun _ _ _ h => h) rfl ?_ hHeld ?_
      rotate_left
      · intro w hS; (try dsimp only at hS); obtain ⟨hS0, hS1, hS2, hS3⟩ := hS; go_simp; first | done | (with_reducible rfl)
      try simp only [Act.put, List.setIfInBounds_toArray, List.set_cons_zero, List.set_cons_succ]
      refine takeH (i := 5) (v := ?_) rfl (by kernel_rfl) (by kernel_rfl) (by kernel_rfl) (fun _ _ _ h => h) rfl ?_ hHeld ?_
      rotate_left
      · intro w hS; (try dsimp only at hS); obtain ⟨hS0, hS1, hS2, hS3⟩ := hS; go_simp; first | done | (with_reducible rfl)
      try simp only [Act.put, List.setIfInBounds_toArray, List.set_cons_zero, List.set_cons_succ]
      refine takeH (i := 6) (v := ?_) rfl (by kernel_rfl) (by kernel_rfl) (by kernel_rfl) (fun _ _ _ h => h) rfl ?_ hHeld ?_
      rotate_left
      · intro w hS; (try dsimp only at hS); obtain ⟨hS0, hS1, hS2, hS3⟩ := hS; go_simp; first | done | (with_reducible rfl)
      try simp only [Act.put, List.setIfInBounds_toArray, List.set_cons_zero, List.set_cons_succ]
      refine takeH (i := 7) (v := ?_) rfl (by kernel_rfl) (by kernel_rfl) (by kernel_rfl) (fun _ _ _ h => h) rfl ?_ hHeld ?_
      rotate_left
      · intro w hS; (try dsimp only at hS); obtain ⟨hS0, hS1, hS2, hS3⟩ := hS; go_simp; first | done | (with_reducible rfl)
      try simp only [Act.put, List.setIfInBounds_toArray, List.set_cons_zero, List.set_cons_succ]
      refine takeH (i := 8) (v := ?_) rfl (by kernel_rfl) (by kernel_rfl) (by kernel_rfl) (fun _ _ _ h => h) rfl ?_ hHeld ?_
      rotate_left
      · intro w hS; (try dsimp only at hS); obtain ⟨hS0, hS1, hS2, hS3⟩ := hS; go_simp; first | done | (with_reducible rfl)
      try simp only [Act.put, List.setIfInBounds_toArray, List.set_cons_zero, List.set_cons_succ]
      refine wpAnyH_done (by kernel_rfl) ?_ _
      clear hHeld hnq
      have hbD : Below w.heap.size w wr.drew := HB.out.drew
      have HBD := hide hbD
      clear hbD
      by_cases he : x = y
      · have hbe := same1_true he
        rw [hbe]
        go_wp2
        go_roundw
        case rel => exact ⟨k + 1, by omega, by go_num, HST.out he, HBD.out⟩
        case measure => simp [intOf]; omega
      · have hbe := same1_false he
        rw [hbe]
        go_wp2
        go_ret
        exact ⟨ret_bool (Eq.symm (decide_eq_false (fun e => HNO.out he (e)))), HBD.out⟩
    · have hall : xs = ys := by
        have := HTK.out
        have hL := HLE.out
        rwa [List.take_of_length_le (by omega), List.take_of_length_le (by omega)] at this
      go_wp2
      go_ret
      exact ⟨ret_bool (Eq.symm (decide_eq_true (hall))), HBW.out⟩

set_option maxRecDepth 20000 in
set_option maxHeartbeats 800000 in
theorem sameIds_any (w : World) (xs ys : List (Bs)) (vx vy : Value) (hvx : Ls w.heap.size w 1 idC vx xs) (hvy : Ls w.heap.size w 1 idC vy ys) :
    Calls Tryd.prog 82 #[vx, vy] w fun e w' => e = .returned (.bool (decide (xs = ys))) ∧ Below w.heap.size w w' := by
  obtain ⟨ax, capx, rfl, gx1, gx2, hx⟩ := hvx
  obtain ⟨ay, capy, rfl, gy1, gy2, hy⟩ := hvy
  unfold maxLen at gx2 gy2
  by_cases hle : xs.length = ys.length
  rotate_left
  · have hle' : ((xs.length : Int) == (ys.length : Int)) = false := by simp; omega
    go_enter Tryd.func82, Tryd.ntmps82
    go_wp2_with fail
    skip
    try go_wp2
    go_ret
    exact ⟨ret_bool (Eq.symm (decide_eq_false (fun e => hle (congrArg List.length e)))), Below.refl _ _⟩
  rw [hle] at gx1 ⊢
  have HLE := hide hle
  clear hle
  go_enter Tryd.func82, Tryd.ntmps82
  go_wp2_with fail
  skip
  go_loopw [5] (fun t wr => ∃ k : Nat, k ≤ ys.length ∧ t = .int .i64 k ∧ xs.take k = ys.take k ∧ Below w.heap.size w wr)
    (fun t _ => ys.length - (intOf t).toNat)
  case atStart => exact ⟨0, by omega, rfl, by simp, Below.refl _ _⟩
  case round =>
    obtain ⟨k, hk, rfl, htk, hbr⟩ := hrel
    have hbw : Below w.heap.size w wr := hbr
    have HB := hide hbr
    have HBW := hide hbw
    have HTK := hide htk
    clear hbr hbw htk
    by_cases hlt2 : k < ys.length
    · have hlt : k < xs.length := by rw [HLE.out]; exact hlt2
      obtain ⟨bx, offx, rfl, hbX, hcx⟩ := hx (by intro e; rw [e] at hlt; simp at hlt)
      obtain ⟨bY, offy, rfl, hbYl, hcy⟩ := hy (by intro e; rw [e] at hlt2; simp at hlt2)
      have c0 := (HBW.out.cell (p := ⟨bx, offx + k * 1 + 0, none⟩) hbX).trans (hcx k hlt 0 _ rfl)
      have d0 := (HBW.out.cell (p := ⟨bY, offy + k * 1 + 0, none⟩) hbYl).trans (hcy k hlt2 0 _ rfl)
      have hst := fun he => take_step hlt hlt2 HTK.out he
      have hno : xs[k] ≠ ys[k] → xs ≠ ys := fun hne e => hne (by simp only [e])
      generalize xs[k] = x at *
      generalize ys[k] = y at *
      try simp only [Nat.mul_one, Nat.add_zero] at c0 d0
      have HST := hide hst
      have HNO := hide hno
      have hnq := neqBs 9 x y
      clear hst hno hcx hcy hx hy hlt
      go_wp2_with fail
      refine wp_region_held_drew (S := fun W => W.cell? ⟨bx, offx + k, none⟩ = some (.string (strB x)) ∧ W.cell? ⟨bY, offy + k, none⟩ = some (.string (strB y))) (by kernel_rfl) (⟨c0, d0⟩) (fun hHeld => ?_)
      refine takeH (i := 0) (v := ?_) rfl (by kernel_rfl) (by kernel_rfl) (by kernel_rfl) (fun _ _ _ h => h) rfl ?_ hHeld ?_
      rotate_left
      · intro w hS; (try dsimp only at hS); obtain ⟨hS0, hS1⟩ := hS; go_simp; first | done | (with_reducible rfl)
      try simp only [Act.put, List.setIfInBounds_toArray, List.set_cons_zero, List.set_cons_succ]
      refine takeH (i := 1) (v := ?_) rfl (by kernel_rfl) (by kernel_rfl) (by kernel_rfl) (fun _ _ _ h => h) rfl ?_ hHeld ?_
      rotate_left
      · intro w hS; (try dsimp only at hS); obtain ⟨hS0, hS1⟩ := hS; go_simp; first | done | (with_reducible rfl)
      try simp only [Act.put, List.setIfInBounds_toArray, List.set_cons_zero, List.set_cons_succ]
      refine takeH (i := 2) (v := ?_) rfl (by kernel_rfl) (by kernel_rfl) (by kernel_rfl) (fun _ _ _ h => h) rfl ?_ hHeld ?_
      rotate_left
      · intro w hS; (try dsimp only at hS); obtain ⟨hS0, hS1⟩ := hS; go_simp; first | done | (with_reducible rfl)
      try simp only [Act.put, List.setIfInBounds_toArray, List.set_cons_zero, List.set_cons_succ]
      refine takeH (i := 3) (v := ?_) rfl (by kernel_rfl) (by kernel_rfl) (by kernel_rfl) (fun _ _ _ h => h) rfl ?_ hHeld ?_
      rotate_left
      · intro w hS; (try dsimp only at hS); obtain ⟨hS0, hS1⟩ := hS; go_simp; first | done | (with_reducible rfl)
      try simp only [Act.put, List.setIfInBounds_toArray, List.set_cons_zero, List.set_cons_succ]
      refine takeH (i := 4) (v := ?_) rfl (by kernel_rfl) (by kernel_rfl) (by kernel_rfl) (fun _ _ _ h => h) rfl ?_ hHeld ?_
      rotate_left
      · intro w hS; (try dsimp only at hS); obtain ⟨hS0, hS1⟩ := hS; go_simp; first | done | (with_reducible rfl)
      try simp only [Act.put, List.setIfInBounds_toArray, List.set_cons_zero, List.set_cons_succ]
      refine takeH (i := 5) (v := ?_) rfl (by kernel_rfl) (by kernel_rfl) (by kernel_rfl) (fun _ _ _ h => h) rfl ?_ hHeld ?_
      rotate_left
      · intro w hS; (try dsimp only at hS); obtain ⟨hS0, hS1⟩ := hS; go_simp; first | done | (with_reducible rfl)
      try simp only [Act.put, List.setIfInBounds_toArray, List.set_cons_zero, List.set_cons_succ]
      refine takeH (i := 6) (v := ?_) rfl (by kernel_rfl) (by kernel_rfl) (by kernel_rfl) (fun _ _ _ h => h) rfl ?_ hHeld ?_
      rotate_left
      · intro w hS; (try dsimp only at hS); obtain ⟨hS0, hS1⟩ := hS; go_simp; first | done | (with_reducible rfl)
      try simp only [Act.put, List.setIfInBounds_toArray, List.set_cons_zero, List.set_cons_succ]
      refine takeH (i := 7) (v := ?_) rfl (by kernel_rfl) (by kernel_rfl) (by kernel_rfl) (fun _ _ _ h => h) rfl ?_ hHeld ?_
      rotate_left
      · intro w hS; (try dsimp only at hS); obtain ⟨hS0, hS1⟩ := hS; go_simp; first | done | (with_reducible rfl)
      try simp only [Act.put, List.setIfInBounds_toArray, List.set_cons_zero, List.set_cons_succ]
      refine takeH (i := 8) (v := ?_) rfl (by kernel_rfl) (by kernel_rfl) (by kernel_rfl) (fun _ _ _ h => h) rfl ?_ hHeld ?_
      rotate_left
      · intro w hS; (try dsimp only at hS); obtain ⟨hS0, hS1⟩ := hS; go_simp; first | done | (with_reducible rfl)
      try simp only [Act.put, List.setIfInBounds_toArray, List.set_cons_zero, List.set_cons_succ]
      refine wpAnyH_done (by kernel_rfl) ?_ _
      clear hHeld hnq
      have hbD : Below w.heap.size w wr.drew := HB.out.drew
      have HBD := hide hbD
      clear hbD
      by_cases he : x = y
      · have hbe := same1_true he
        rw [hbe]
        go_wp2
        go_roundw
        case rel => exact ⟨k + 1, by omega, by go_num, HST.out he, HBD.out⟩
        case measure => simp [intOf]; omega
      · have hbe := same1_false he
        rw [hbe]
        go_wp2
        go_ret
        exact ⟨ret_bool (Eq.symm (decide_eq_false (fun e => HNO.out he (e)))), HBD.out⟩
    · have hall : xs = ys := by
        have := HTK.out
        have hL := HLE.out
        rwa [List.take_of_length_le (by omega), List.take_of_length_le (by omega)] at this
      go_wp2
      go_ret
      exact ⟨ret_bool (Eq.symm (decide_eq_true (hall))), HBW.out⟩

set_option maxRecDepth 20000 in
set_option maxHeartbeats 800000 in
theorem sameFan_any (w : World) (n1 n2 : Int) (xs ys : List (Part)) (vx vy : Value) (hvx : Ls w.heap.size w 2 partC vx xs) (hvy : Ls w.heap.size w 2 partC vy ys) :
    Calls Tryd.prog 17 #[.agg #[.int .i64 n1, vx], .agg #[.int .i64 n2, vy]] w fun e w' => e = .returned (.bool (decide ((n1, xs) = (n2, ys)))) ∧ Below w.heap.size w w' := by
  obtain ⟨ax, capx, rfl, gx1, gx2, hx⟩ := hvx
  obtain ⟨ay, capy, rfl, gy1, gy2, hy⟩ := hvy
  unfold maxLen at gx2 gy2
  by_cases hlv : n1 = n2
  rotate_left
  · have hlv' : (n1 == n2) = false := by simpa using hlv
    have hb0 : Below w.heap.size w ((w.alloc (.cells #[.int .i64 n1, .slice ax xs.length capx] 24)).alloc (.cells #[.int .i64 n2, .slice ay ys.length capy] 24)) := ((Below.refl _ _).alloc (Nat.le_refl _) _).alloc (by simp) _
    have z1 : ((w.alloc (.cells #[.int .i64 n1, .slice ax xs.length capx] 24)).alloc (.cells #[.int .i64 n2, .slice ay ys.length capy] 24)).heap[w.heap.size]? = some (.cells #[.int .i64 n1, .slice ax xs.length capx] 24) := (heap_past _ _ _ (by simp)).trans (heap_last w _ _ rfl)
    have z2 : ((w.alloc (.cells #[.int .i64 n1, .slice ax xs.length capx] 24)).alloc (.cells #[.int .i64 n2, .slice ay ys.length capy] 24)).heap[w.heap.size + 1]? = some (.cells #[.int .i64 n2, .slice ay ys.length capy] 24) := heap_last (w.alloc (.cells #[.int .i64 n1, .slice ax xs.length capx] 24)) _ _ (by simp)
    have hsz0 : w.heap.size + 2 = ((w.alloc (.cells #[.int .i64 n1, .slice ax xs.length capx] 24)).alloc (.cells #[.int .i64 n2, .slice ay ys.length capy] 24)).heap.size := by simp
    generalize hw0 : (w.alloc (.cells #[.int .i64 n1, .slice ax xs.length capx] 24)).alloc (.cells #[.int .i64 n2, .slice ay ys.length capy] 24) = w0 at *
    have p0 := cell_of_row w0 w.heap.size 0 _ _ _ z1
    have p1 := cell_of_row w0 w.heap.size 1 _ _ _ z1
    have r0 := cell_of_row w0 (w.heap.size + 1) 0 _ _ _ z2
    have r1 := cell_of_row w0 (w.heap.size + 1) 1 _ _ _ z2
    simp only [List.getElem?_toArray, List.getElem?_cons_zero, List.getElem?_cons_succ] at p0 p1 r0 r1
    go_enter Tryd.func17, Tryd.ntmps17
    go_wp2_with fail
    try rw [hw0]
    try go_wp2
    go_ret
    exact ⟨ret_bool (Eq.symm (decide_eq_false (fun e => hlv (congrArg Prod.fst e)))), by first | exact hb0 | (rw [hw0]; exact hb0)⟩
  subst hlv
  by_cases hle : xs.length = ys.length
  rotate_left
  · have hle' : ((xs.length : Int) == (ys.length : Int)) = false := by simp; omega
    have hb0 : Below w.heap.size w ((w.alloc (.cells #[.int .i64 n1, .slice ax xs.length capx] 24)).alloc (.cells #[.int .i64 n1, .slice ay ys.length capy] 24)) := ((Below.refl _ _).alloc (Nat.le_refl _) _).alloc (by simp) _
    have z1 : ((w.alloc (.cells #[.int .i64 n1, .slice ax xs.length capx] 24)).alloc (.cells #[.int .i64 n1, .slice ay ys.length capy] 24)).heap[w.heap.size]? = some (.cells #[.int .i64 n1, .slice ax xs.length capx] 24) := (heap_past _ _ _ (by simp)).trans (heap_last w _ _ rfl)
    have z2 : ((w.alloc (.cells #[.int .i64 n1, .slice ax xs.length capx] 24)).alloc (.cells #[.int .i64 n1, .slice ay ys.length capy] 24)).heap[w.heap.size + 1]? = some (.cells #[.int .i64 n1, .slice ay ys.length capy] 24) := heap_last (w.alloc (.cells #[.int .i64 n1, .slice ax xs.length capx] 24)) _ _ (by simp)
    have hsz0 : w.heap.size + 2 = ((w.alloc (.cells #[.int .i64 n1, .slice ax xs.length capx] 24)).alloc (.cells #[.int .i64 n1, .slice ay ys.length capy] 24)).heap.size := by simp
    generalize hw0 : (w.alloc (.cells #[.int .i64 n1, .slice ax xs.length capx] 24)).alloc (.cells #[.int .i64 n1, .slice ay ys.length capy] 24) = w0 at *
    have p0 := cell_of_row w0 w.heap.size 0 _ _ _ z1
    have p1 := cell_of_row w0 w.heap.size 1 _ _ _ z1
    have r0 := cell_of_row w0 (w.heap.size + 1) 0 _ _ _ z2
    have r1 := cell_of_row w0 (w.heap.size + 1) 1 _ _ _ z2
    simp only [List.getElem?_toArray, List.getElem?_cons_zero, List.getElem?_cons_succ] at p0 p1 r0 r1
    go_enter Tryd.func17, Tryd.ntmps17
    go_wp2_with fail
    try rw [hw0]
    try go_wp2
    go_ret
    exact ⟨ret_bool (Eq.symm (decide_eq_false (fun e => hle (congrArg (fun x => x.2.length) e)))), by first | exact hb0 | (rw [hw0]; exact hb0)⟩
  rw [hle] at gx1 ⊢
  have HLE := hide hle
  clear hle
  have hb0 : Below w.heap.size w ((w.alloc (.cells #[.int .i64 n1, .slice ax ys.length capx] 24)).alloc (.cells #[.int .i64 n1, .slice ay ys.length capy] 24)) := ((Below.refl _ _).alloc (Nat.le_refl _) _).alloc (by simp) _
  have z1 : ((w.alloc (.cells #[.int .i64 n1, .slice ax ys.length capx] 24)).alloc (.cells #[.int .i64 n1, .slice ay ys.length capy] 24)).heap[w.heap.size]? = some (.cells #[.int .i64 n1, .slice ax ys.length capx] 24) := (heap_past _ _ _ (by simp)).trans (heap_last w _ _ rfl)
  have z2 : ((w.alloc (.cells #[.int .i64 n1, .slice ax ys.length capx] 24)).alloc (.cells #[.int .i64 n1, .slice ay ys.length capy] 24)).heap[w.heap.size + 1]? = some (.cells #[.int .i64 n1, .slice ay ys.length capy] 24) := heap_last (w.alloc (.cells #[.int .i64 n1, .slice ax ys.length capx] 24)) _ _ (by simp)
  have hsz0 : w.heap.size + 2 = ((w.alloc (.cells #[.int .i64 n1, .slice ax ys.length capx] 24)).alloc (.cells #[.int .i64 n1, .slice ay ys.length capy] 24)).heap.size := by simp
  generalize hw0 : (w.alloc (.cells #[.int .i64 n1, .slice ax ys.length capx] 24)).alloc (.cells #[.int .i64 n1, .slice ay ys.length capy] 24) = w0 at *
  have p0 := cell_of_row w0 w.heap.size 0 _ _ _ z1
  have p1 := cell_of_row w0 w.heap.size 1 _ _ _ z1
  have r0 := cell_of_row w0 (w.heap.size + 1) 0 _ _ _ z2
  have r1 := cell_of_row w0 (w.heap.size + 1) 1 _ _ _ z2
  simp only [List.getElem?_toArray, List.getElem?_cons_zero, List.getElem?_cons_succ] at p0 p1 r0 r1
  go_enter Tryd.func17, Tryd.ntmps17
  go_wp2_with fail
  try rw [hw0]
  go_loopw [5] (fun t wr => ∃ k : Nat, k ≤ ys.length ∧ t = .int .i64 k ∧ xs.take k = ys.take k ∧ Below w0.heap.size w0 wr)
    (fun t _ => ys.length - (intOf t).toNat)
  case atStart => exact ⟨0, by omega, rfl, by simp, Below.refl _ _⟩
  case round =>
    obtain ⟨k, hk, rfl, htk, hbr⟩ := hrel
    have z1 := (hbr.block _ (by omega)).trans z1
    have z2 := (hbr.block _ (by omega)).trans z2
    have p1 := cell_of_row wr w.heap.size 1 _ _ _ z1
    have r1 := cell_of_row wr (w.heap.size + 1) 1 _ _ _ z2
    simp only [List.getElem?_toArray, List.getElem?_cons_zero, List.getElem?_cons_succ] at p1 r1
    have hbw : Below w.heap.size w wr := hb0.trans (hbr.mono hb0.size)
    have HB := hide hbr
    have HBW := hide hbw
    have HTK := hide htk
    clear hbr hbw htk
    by_cases hlt2 : k < ys.length
    · have hlt : k < xs.length := by rw [HLE.out]; exact hlt2
      obtain ⟨bx, offx, rfl, hbX, hcx⟩ := hx (by intro e; rw [e] at hlt; simp at hlt)
      obtain ⟨bY, offy, rfl, hbYl, hcy⟩ := hy (by intro e; rw [e] at hlt2; simp at hlt2)
      have c0 := (HBW.out.cell (p := ⟨bx, offx + k * 2 + 0, none⟩) hbX).trans (hcx k hlt 0 _ rfl)
      have d0 := (HBW.out.cell (p := ⟨bY, offy + k * 2 + 0, none⟩) hbYl).trans (hcy k hlt2 0 _ rfl)
      have c1 := (HBW.out.cell (p := ⟨bx, offx + k * 2 + 1, none⟩) hbX).trans (hcx k hlt 1 _ rfl)
      have d1 := (HBW.out.cell (p := ⟨bY, offy + k * 2 + 1, none⟩) hbYl).trans (hcy k hlt2 1 _ rfl)
      have hst := fun he => take_step hlt hlt2 HTK.out he
      have hno : xs[k] ≠ ys[k] → xs ≠ ys := fun hne e => hne (by simp only [e])
      generalize xs[k] = x at *
      generalize ys[k] = y at *
      try simp only [Nat.add_zero] at c0 d0 c1 d1
      have HST := hide hst
      have HNO := hide hno
      have hnq : ∀ W, _ := fun W => neqPart W x y
      clear hst hno hcx hcy hx hy hlt
      go_wp2_with fail
      refine wp_region_held_drew (S := fun W => W.cell? ⟨bx, offx + k * 2, none⟩ = some (.string (strB x.1)) ∧ W.cell? ⟨bx, offx + k * 2 + 1, none⟩ = some (.int .i64 x.2) ∧ W.cell? ⟨bY, offy + k * 2, none⟩ = some (.string (strB y.1)) ∧ W.cell? ⟨bY, offy + k * 2 + 1, none⟩ = some (.int .i64 y.2) ∧ W.cell? ⟨w.heap.size, 1, none⟩ = some (.slice (some ⟨bx, offx, none⟩) ys.length capx) ∧ W.cell? ⟨w.heap.size + 1, 1, none⟩ = some (.slice (some ⟨bY, offy, none⟩) ys.length capy)) (by kernel_rfl) (⟨c0, c1, d0, d1, p1, r1⟩) (fun hHeld => ?_)
      refine takeH (i := 0) (v := ?_) rfl (by kernel_rfl) (by kernel_rfl) (by kernel_rfl) (fun _ _ _ h => h) rfl ?_ hHeld ?_
      rotate_left
      · intro w hS; (try dsimp only at hS); obtain ⟨hS0, hS1, hS2, hS3, hS4, hS5⟩ := hS; go_simp; first | done | (with_reducible rfl)
      try simp only [Act.put, List.setIfInBounds_toArray, List.set_cons_zero, List.set_cons_succ]
      refine takeH (i := 1) (v := ?_) rfl (by kernel_rfl) (by kernel_rfl) (by kernel_rfl) (fun _ _ _ h => h) rfl ?_ hHeld ?_
      rotate_left
      · intro w hS; (try dsimp only at hS); obtain ⟨hS0, hS1, hS2, hS3, hS4, hS5⟩ := hS; go_simp; first | done | (with_reducible rfl)
      try simp only [Act.put, List.setIfInBounds_toArray, List.set_cons_zero, List.set_cons_succ]
      refine takeH (i := 2) (v := ?_) rfl (by kernel_rfl) (by kernel_rfl) (by kernel_rfl) (fun _ _ _ h => h) rfl ?_ hHeld ?_
      rotate_left
      · intro w hS; (try dsimp only at hS); obtain ⟨hS0, hS1, hS2, hS3, hS4, hS5⟩ := hS; go_simp; first | done | (with_reducible rfl)
      try simp only [Act.put, List.setIfInBounds_toArray, List.set_cons_zero, List.set_cons_succ]
      refine takeH (i := 3) (v := ?_) rfl (by kernel_rfl) (by kernel_rfl) (by kernel_rfl) (fun _ _ _ h => h) rfl ?_ hHeld ?_
      rotate_left
      · intro w hS; (try dsimp only at hS); obtain ⟨hS0, hS1, hS2, hS3, hS4, hS5⟩ := hS; go_simp; first | done | (with_reducible rfl)
      try simp only [Act.put, List.setIfInBounds_toArray, List.set_cons_zero, List.set_cons_succ]
      refine takeH (i := 4) (v := ?_) rfl (by kernel_rfl) (by kernel_rfl) (by kernel_rfl) (fun _ _ _ h => h) rfl ?_ hHeld ?_
      rotate_left
      · intro w hS; (try dsimp only at hS); obtain ⟨hS0, hS1, hS2, hS3, hS4, hS5⟩ := hS; go_simp; first | done | (with_reducible rfl)
      try simp only [Act.put, List.setIfInBounds_toArray, List.set_cons_zero, List.set_cons_succ]
      refine takeH (i := 5) (v := ?_) rfl (by kernel_rfl) (by kernel_rfl) (by kernel_rfl) (fun _ _ _ h => h) rfl ?_ hHeld ?_
      rotate_left
      · intro w hS; (try dsimp only at hS); obtain ⟨hS0, hS1, hS2, hS3, hS4, hS5⟩ := hS; go_simp; first | done | (with_reducible rfl)
      try simp only [Act.put, List.setIfInBounds_toArray, List.set_cons_zero, List.set_cons_succ]
      refine takeH (i := 6) (v := ?_) rfl (by kernel_rfl) (by kernel_rfl) (by kernel_rfl) (fun _ _ _ h => h) rfl ?_ hHeld ?_
      rotate_left
      · intro w hS; (try dsimp only at hS); obtain ⟨hS0, hS1, hS2, hS3, hS4, hS5⟩ := hS; go_simp; first | done | (with_reducible rfl)
      try simp only [Act.put, List.setIfInBounds_toArray, List.set_cons_zero, List.set_cons_succ]
      refine takeH (i := 7) (v := ?_) rfl (by kernel_rfl) (by kernel_rfl) (by kernel_rfl) (fun _ _ _ h => h) rfl ?_ hHeld ?_
      rotate_left
      · intro w hS; (try dsimp only at hS); obtain ⟨hS0, hS1, hS2, hS3, hS4, hS5⟩ := hS; go_simp; first | done | (with_reducible rfl)
      try simp only [Act.put, List.setIfInBounds_toArray, List.set_cons_zero, List.set_cons_succ]
      refine takeH (i := 8) (v := ?_) rfl (by kernel_rfl) (by kernel_rfl) (by kernel_rfl) (fun _ _ _ h => h) rfl ?_ hHeld ?_
      rotate_left
      · intro w hS; (try dsimp only at hS); obtain ⟨hS0, hS1, hS2, hS3, hS4, hS5⟩ := hS; go_simp; first | done | (with_reducible rfl)
      try simp only [Act.put, List.setIfInBounds_toArray, List.set_cons_zero, List.set_cons_succ]
      refine takeH (i := 9) (v := ?_) rfl (by kernel_rfl) (by kernel_rfl) (by kernel_rfl) (fun _ _ _ h => h) rfl ?_ hHeld ?_
      rotate_left
      · intro w hS; (try dsimp only at hS); obtain ⟨hS0, hS1, hS2, hS3, hS4, hS5⟩ := hS; go_simp; first | done | (with_reducible rfl)
      try simp only [Act.put, List.setIfInBounds_toArray, List.set_cons_zero, List.set_cons_succ]
      refine takeH (i := 10) (v := ?_) rfl (by kernel_rfl) (by kernel_rfl) (by kernel_rfl) (fun _ _ _ h => h) rfl ?_ hHeld ?_
      rotate_left
      · intro w hS; (try dsimp only at hS); obtain ⟨hS0, hS1, hS2, hS3, hS4, hS5⟩ := hS; go_simp; first | done | (with_reducible rfl)
      try simp only [Act.put, List.setIfInBounds_toArray, List.set_cons_zero, List.set_cons_succ]
      refine wpAnyH_done (by kernel_rfl) ?_ _
      clear hHeld hnq
      have hbD : Below w0.heap.size w0 wr.drew := HB.out.drew
      have HBD := hide hbD
      clear hbD
      by_cases he : x = y
      · have hbe := same1_true he
        rw [hbe]
        go_wp2
        go_roundw
        case rel => exact ⟨k + 1, by omega, by go_num, HST.out he, HBD.out⟩
        case measure => simp [intOf]; omega
      · have hbe := same1_false he
        rw [hbe]
        go_wp2
        go_ret
        exact ⟨ret_bool (Eq.symm (decide_eq_false (fun e => HNO.out he (congrArg Prod.snd e)))), (hb0.trans (HBD.out.mono hb0.size))⟩
    · have hall : xs = ys := by
        have := HTK.out
        have hL := HLE.out
        rwa [List.take_of_length_le (by omega), List.take_of_length_le (by omega)] at this
      go_wp2
      go_ret
      exact ⟨ret_bool (Eq.symm (decide_eq_true (Prod.ext rfl hall))), HBW.out⟩

set_option maxRecDepth 20000 in
set_option maxHeartbeats 800000 in
theorem sameBranch_any (w : World) (n1 n2 : Int) (xs ys : List (Link)) (vx vy : Value) (hvx : Ls w.heap.size w 3 linkC vx xs) (hvy : Ls w.heap.size w 3 linkC vy ys) :
    Calls Tryd.prog 27 #[.agg #[.int .i64 n1, vx], .agg #[.int .i64 n2, vy]] w fun e w' => e = .returned (.bool (decide ((n1, xs) = (n2, ys)))) ∧ Below w.heap.size w w' := by
  obtain ⟨ax, capx, rfl, gx1, gx2, hx⟩ := hvx
  obtain ⟨ay, capy, rfl, gy1, gy2, hy⟩ := hvy
  unfold maxLen at gx2 gy2
  by_cases hlv : n1 = n2
  rotate_left
  · have hlv' : (n1 == n2) = false := by simpa using hlv
    have hb0 : Below w.heap.size w ((w.alloc (.cells #[.int .i64 n1, .slice ax xs.length capx] 41)).alloc (.cells #[.int .i64 n2, .slice ay ys.length capy] 41)) := ((Below.refl _ _).alloc (Nat.le_refl _) _).alloc (by simp) _
    have z1 : ((w.alloc (.cells #[.int .i64 n1, .slice ax xs.length capx] 41)).alloc (.cells #[.int .i64 n2, .slice ay ys.length capy] 41)).heap[w.heap.size]? = some (.cells #[.int .i64 n1, .slice ax xs.length capx] 41) := (heap_past _ _ _ (by simp)).trans (heap_last w _ _ rfl)
    have z2 : ((w.alloc (.cells #[.int .i64 n1, .slice ax xs.length capx] 41)).alloc (.cells #[.int .i64 n2, .slice ay ys.length capy] 41)).heap[w.heap.size + 1]? = some (.cells #[.int .i64 n2, .slice ay ys.length capy] 41) := heap_last (w.alloc (.cells #[.int .i64 n1, .slice ax xs.length capx] 41)) _ _ (by simp)
    have hsz0 : w.heap.size + 2 = ((w.alloc (.cells #[.int .i64 n1, .slice ax xs.length capx] 41)).alloc (.cells #[.int .i64 n2, .slice ay ys.length capy] 41)).heap.size := by simp
    generalize hw0 : (w.alloc (.cells #[.int .i64 n1, .slice ax xs.length capx] 41)).alloc (.cells #[.int .i64 n2, .slice ay ys.length capy] 41) = w0 at *
    have p0 := cell_of_row w0 w.heap.size 0 _ _ _ z1
    have p1 := cell_of_row w0 w.heap.size 1 _ _ _ z1
    have r0 := cell_of_row w0 (w.heap.size + 1) 0 _ _ _ z2
    have r1 := cell_of_row w0 (w.heap.size + 1) 1 _ _ _ z2
    simp only [List.getElem?_toArray, List.getElem?_cons_zero, List.getElem?_cons_succ] at p0 p1 r0 r1
    go_enter Tryd.func27, Tryd.ntmps27
    go_wp2_with fail
    try rw [hw0]
    try go_wp2
    go_ret
    exact ⟨ret_bool (Eq.symm (decide_eq_false (fun e => hlv (congrArg Prod.fst e)))), by first | exact hb0 | (rw [hw0]; exact hb0)⟩
  subst hlv
  by_cases hle : xs.length = ys.length
  rotate_left
  · have hle' : ((xs.length : Int) == (ys.length : Int)) = false := by simp; omega
    have hb0 : Below w.heap.size w ((w.alloc (.cells #[.int .i64 n1, .slice ax xs.length capx] 41)).alloc (.cells #[.int .i64 n1, .slice ay ys.length capy] 41)) := ((Below.refl _ _).alloc (Nat.le_refl _) _).alloc (by simp) _
    have z1 : ((w.alloc (.cells #[.int .i64 n1, .slice ax xs.length capx] 41)).alloc (.cells #[.int .i64 n1, .slice ay ys.length capy] 41)).heap[w.heap.size]? = some (.cells #[.int .i64 n1, .slice ax xs.length capx] 41) := (heap_past _ _ _ (by simp)).trans (heap_last w _ _ rfl)
    have z2 : ((w.alloc (.cells #[.int .i64 n1, .slice ax xs.length capx] 41)).alloc (.cells #[.int .i64 n1, .slice ay ys.length capy] 41)).heap[w.heap.size + 1]? = some (.cells #[.int .i64 n1, .slice ay ys.length capy] 41) := heap_last (w.alloc (.cells #[.int .i64 n1, .slice ax xs.length capx] 41)) _ _ (by simp)
    have hsz0 : w.heap.size + 2 = ((w.alloc (.cells #[.int .i64 n1, .slice ax xs.length capx] 41)).alloc (.cells #[.int .i64 n1, .slice ay ys.length capy] 41)).heap.size := by simp
    generalize hw0 : (w.alloc (.cells #[.int .i64 n1, .slice ax xs.length capx] 41)).alloc (.cells #[.int .i64 n1, .slice ay ys.length capy] 41) = w0 at *
    have p0 := cell_of_row w0 w.heap.size 0 _ _ _ z1
    have p1 := cell_of_row w0 w.heap.size 1 _ _ _ z1
    have r0 := cell_of_row w0 (w.heap.size + 1) 0 _ _ _ z2
    have r1 := cell_of_row w0 (w.heap.size + 1) 1 _ _ _ z2
    simp only [List.getElem?_toArray, List.getElem?_cons_zero, List.getElem?_cons_succ] at p0 p1 r0 r1
    go_enter Tryd.func27, Tryd.ntmps27
    go_wp2_with fail
    try rw [hw0]
    try go_wp2
    go_ret
    exact ⟨ret_bool (Eq.symm (decide_eq_false (fun e => hle (congrArg (fun x => x.2.length) e)))), by first | exact hb0 | (rw [hw0]; exact hb0)⟩
  rw [hle] at gx1 ⊢
  have HLE := hide hle
  clear hle
  have hb0 : Below w.heap.size w ((w.alloc (.cells #[.int .i64 n1, .slice ax ys.length capx] 41)).alloc (.cells #[.int .i64 n1, .slice ay ys.length capy] 41)) := ((Below.refl _ _).alloc (Nat.le_refl _) _).alloc (by simp) _
  have z1 : ((w.alloc (.cells #[.int .i64 n1, .slice ax ys.length capx] 41)).alloc (.cells #[.int .i64 n1, .slice ay ys.length capy] 41)).heap[w.heap.size]? = some (.cells #[.int .i64 n1, .slice ax ys.length capx] 41) := (heap_past _ _ _ (by simp)).trans (heap_last w _ _ rfl)
  have z2 : ((w.alloc (.cells #[.int .i64 n1, .slice ax ys.length capx] 41)).alloc (.cells #[.int .i64 n1, .slice ay ys.length capy] 41)).heap[w.heap.size + 1]? = some (.cells #[.int .i64 n1, .slice ay ys.length capy] 41) := heap_last (w.alloc (.cells #[.int .i64 n1, .slice ax ys.length capx] 41)) _ _ (by simp)
  have hsz0 : w.heap.size + 2 = ((w.alloc (.cells #[.int .i64 n1, .slice ax ys.length capx] 41)).alloc (.cells #[.int .i64 n1, .slice ay ys.length capy] 41)).heap.size := by simp
  generalize hw0 : (w.alloc (.cells #[.int .i64 n1, .slice ax ys.length capx] 41)).alloc (.cells #[.int .i64 n1, .slice ay ys.length capy] 41) = w0 at *
  have p0 := cell_of_row w0 w.heap.size 0 _ _ _ z1
  have p1 := cell_of_row w0 w.heap.size 1 _ _ _ z1
  have r0 := cell_of_row w0 (w.heap.size + 1) 0 _ _ _ z2
  have r1 := cell_of_row w0 (w.heap.size + 1) 1 _ _ _ z2
  simp only [List.getElem?_toArray, List.getElem?_cons_zero, List.getElem?_cons_succ] at p0 p1 r0 r1
  go_enter Tryd.func27, Tryd.ntmps27
  go_wp2_with fail
  try rw [hw0]
  go_loopw [5] (fun t wr => ∃ k : Nat, k ≤ ys.length ∧ t = .int .i64 k ∧ xs.take k = ys.take k ∧ Below w0.heap.size w0 wr)
    (fun t _ => ys.length - (intOf t).toNat)
  case atStart => exact ⟨0, by omega, rfl, by simp, Below.refl _ _⟩
  case round =>
    obtain ⟨k, hk, rfl, htk, hbr⟩ := hrel
    have z1 := (hbr.block _ (by omega)).trans z1
    have z2 := (hbr.block _ (by omega)).trans z2
    have p1 := cell_of_row wr w.heap.size 1 _ _ _ z1
    have r1 := cell_of_row wr (w.heap.size + 1) 1 _ _ _ z2
    simp only [List.getElem?_toArray, List.getElem?_cons_zero, List.getElem?_cons_succ] at p1 r1
    have hbw : Below w.heap.size w wr := hb0.trans (hbr.mono hb0.size)
    have HB := hide hbr
    have HBW := hide hbw
    have HTK := hide htk
    clear hbr hbw htk
    by_cases hlt2 : k < ys.length
    · have hlt : k < xs.length := by rw [HLE.out]; exact hlt2
      obtain ⟨bx, offx, rfl, hbX, hcx⟩ := hx (by intro e; rw [e] at hlt; simp at hlt)
      obtain ⟨bY, offy, rfl, hbYl, hcy⟩ := hy (by intro e; rw [e] at hlt2; simp at hlt2)
      have c0 := (HBW.out.cell (p := ⟨bx, offx + k * 3 + 0, none⟩) hbX).trans (hcx k hlt 0 _ rfl)
      have d0 := (HBW.out.cell (p := ⟨bY, offy + k * 3 + 0, none⟩) hbYl).trans (hcy k hlt2 0 _ rfl)
      have c1 := (HBW.out.cell (p := ⟨bx, offx + k * 3 + 1, none⟩) hbX).trans (hcx k hlt 1 _ rfl)
      have d1 := (HBW.out.cell (p := ⟨bY, offy + k * 3 + 1, none⟩) hbYl).trans (hcy k hlt2 1 _ rfl)
      have c2 := (HBW.out.cell (p := ⟨bx, offx + k * 3 + 2, none⟩) hbX).trans (hcx k hlt 2 _ rfl)
      have d2 := (HBW.out.cell (p := ⟨bY, offy + k * 3 + 2, none⟩) hbYl).trans (hcy k hlt2 2 _ rfl)
      have hst := fun he => take_step hlt hlt2 HTK.out he
      have hno : xs[k] ≠ ys[k] → xs ≠ ys := fun hne e => hne (by simp only [e])
      generalize xs[k] = x at *
      generalize ys[k] = y at *
      try simp only [Nat.add_zero] at c0 d0 c1 d1 c2 d2
      have HST := hide hst
      have HNO := hide hno
      have hnq : ∀ W, _ := fun W => neqLink W x y
      clear hst hno hcx hcy hx hy hlt
      go_wp2_with fail
      refine wp_region_held_drew (S := fun W => W.cell? ⟨bx, offx + k * 3, none⟩ = some (.string (strB x.1)) ∧ W.cell? ⟨bx, offx + k * 3 + 1, none⟩ = some (.string (strB x.2.1)) ∧ W.cell? ⟨bx, offx + k * 3 + 2, none⟩ = some (.int .i64 x.2.2) ∧ W.cell? ⟨bY, offy + k * 3, none⟩ = some (.string (strB y.1)) ∧ W.cell? ⟨bY, offy + k * 3 + 1, none⟩ = some (.string (strB y.2.1)) ∧ W.cell? ⟨bY, offy + k * 3 + 2, none⟩ = some (.int .i64 y.2.2) ∧ W.cell? ⟨w.heap.size, 1, none⟩ = some (.slice (some ⟨bx, offx, none⟩) ys.length capx) ∧ W.cell? ⟨w.heap.size + 1, 1, none⟩ = some (.slice (some ⟨bY, offy, none⟩) ys.length capy)) (by kernel_rfl) (⟨c0, c1, c2, d0, d1, d2, p1, r1⟩) (fun hHeld => ?_)
      refine takeH (i := 0) (v := ?_) rfl (by kernel_rfl) (by kernel_rfl) (by kernel_rfl) (fun _ _ _ h => h) rfl ?_ hHeld ?_
      rotate_left
      · intro w hS; (try dsimp only at hS); obtain ⟨hS0, hS1, hS2, hS3, hS4, hS5, hS6, hS7⟩ := hS; go_simp; first | done | (with_reducible rfl)
      try simp only [Act.put, List.setIfInBounds_toArray, List.set_cons_zero, List.set_cons_succ]
      refine takeH (i := 1) (v := ?_) rfl (by kernel_rfl) (by kernel_rfl) (by kernel_rfl) (fun _ _ _ h => h) rfl ?_ hHeld ?_
      rotate_left
      · intro w hS; (try dsimp only at hS); obtain ⟨hS0, hS1, hS2, hS3, hS4, hS5, hS6, hS7⟩ := hS; go_simp; first | done | (with_reducible rfl)
      try simp only [Act.put, List.setIfInBounds_toArray, List.set_cons_zero, List.set_cons_succ]
      refine takeH (i := 2) (v := ?_) rfl (by kernel_rfl) (by kernel_rfl) (by kernel_rfl) (fun _ _ _ h => h) rfl ?_ hHeld ?_
      rotate_left
      · intro w hS; (try dsimp only at hS); obtain ⟨hS0, hS1, hS2, hS3, hS4, hS5, hS6, hS7⟩ := hS; go_simp; first | done | (with_reducible rfl)
      try simp only [Act.put, List.setIfInBounds_toArray, List.set_cons_zero, List.set_cons_succ]
      refine takeH (i := 3) (v := ?_) rfl (by kernel_rfl) (by kernel_rfl) (by kernel_rfl) (fun _ _ _ h => h) rfl ?_ hHeld ?_
      rotate_left
      · intro w hS; (try dsimp only at hS); obtain ⟨hS0, hS1, hS2, hS3, hS4, hS5, hS6, hS7⟩ := hS; go_simp; first | done | (with_reducible rfl)
      try simp only [Act.put, List.setIfInBounds_toArray, List.set_cons_zero, List.set_cons_succ]
      refine takeH (i := 4) (v := ?_) rfl (by kernel_rfl) (by kernel_rfl) (by kernel_rfl) (fun _ _ _ h => h) rfl ?_ hHeld ?_
      rotate_left
      · intro w hS; (try dsimp only at hS); obtain ⟨hS0, hS1, hS2, hS3, hS4, hS5, hS6, hS7⟩ := hS; go_simp; first | done | (with_reducible rfl)
      try simp only [Act.put, List.setIfInBounds_toArray, List.set_cons_zero, List.set_cons_succ]
      refine takeH (i := 5) (v := ?_) rfl (by kernel_rfl) (by kernel_rfl) (by kernel_rfl) (fun _ _ _ h => h) rfl ?_ hHeld ?_
      rotate_left
      · intro w hS; (try dsimp only at hS); obtain ⟨hS0, hS1, hS2, hS3, hS4, hS5, hS6, hS7⟩ := hS; go_simp; first | done | (with_reducible rfl)
      try simp only [Act.put, List.setIfInBounds_toArray, List.set_cons_zero, List.set_cons_succ]
      refine takeH (i := 6) (v := ?_) rfl (by kernel_rfl) (by kernel_rfl) (by kernel_rfl) (fun _ _ _ h => h) rfl ?_ hHeld ?_
      rotate_left
      · intro w hS; (try dsimp only at hS); obtain ⟨hS0, hS1, hS2, hS3, hS4, hS5, hS6, hS7⟩ := hS; go_simp; first | done | (with_reducible rfl)
      try simp only [Act.put, List.setIfInBounds_toArray, List.set_cons_zero, List.set_cons_succ]
      refine takeH (i := 7) (v := ?_) rfl (by kernel_rfl) (by kernel_rfl) (by kernel_rfl) (fun _ _ _ h => h) rfl ?_ hHeld ?_
      rotate_left
      · intro w hS; (try dsimp only at hS); obtain ⟨hS0, hS1, hS2, hS3, hS4, hS5, hS6, hS7⟩ := hS; go_simp; first | done | (with_reducible rfl)
      try simp only [Act.put, List.setIfInBounds_toArray, List.set_cons_zero, List.set_cons_succ]
      refine takeH (i := 8) (v := ?_) rfl (by kernel_rfl) (by kernel_rfl) (by kernel_rfl) (fun _ _ _ h => h) rfl ?_ hHeld ?_
      rotate_left
      · intro w hS; (try dsimp only at hS); obtain ⟨hS0, hS1, hS2, hS3, hS4, hS5, hS6, hS7⟩ := hS; go_simp; first | done | (with_reducible rfl)
      try simp only [Act.put, List.setIfInBounds_toArray, List.set_cons_zero, List.set_cons_succ]
      refine takeH (i := 9) (v := ?_) rfl (by kernel_rfl) (by kernel_rfl) (by kernel_rfl) (fun _ _ _ h => h) rfl ?_ hHeld ?_
      rotate_left
      · intro w hS; (try dsimp only at hS); obtain ⟨hS0, hS1, hS2, hS3, hS4, hS5, hS6, hS7⟩ := hS; go_simp; first | done | (with_reducible rfl)
      try simp only [Act.put, List.setIfInBounds_toArray, List.set_cons_zero, List.set_cons_succ]
      refine takeH (i := 10) (v := ?_) rfl (by kernel_rfl) (by kernel_rfl) (by kernel_rfl) (fun _ _ _ h => h) rfl ?_ hHeld ?_
      rotate_left
      · intro w hS; (try dsimp only at hS); obtain ⟨hS0, hS1, hS2, hS3, hS4, hS5, hS6, hS7⟩ := hS; go_simp; first | done | (with_reducible rfl)
      try simp only [Act.put, List.setIfInBounds_toArray, List.set_cons_zero, List.set_cons_succ]
      refine wpAnyH_done (by kernel_rfl) ?_ _
      clear hHeld hnq
      have hbD : Below w0.heap.size w0 wr.drew := HB.out.drew
      have HBD := hide hbD
      clear hbD
      by_cases he : x = y
      · have hbe := same1_true he
        rw [hbe]
        go_wp2
        go_roundw
        case rel => exact ⟨k + 1, by omega, by go_num, HST.out he, HBD.out⟩
        case measure => simp [intOf]; omega
      · have hbe := same1_false he
        rw [hbe]
        go_wp2
        go_ret
        exact ⟨ret_bool (Eq.symm (decide_eq_false (fun e => HNO.out he (congrArg Prod.snd e)))), (hb0.trans (HBD.out.mono hb0.size))⟩
    · have hall : xs = ys := by
        have := HTK.out
        have hL := HLE.out
        rwa [List.take_of_length_le (by omega), List.take_of_length_le (by omega)] at this
      go_wp2
      go_ret
      exact ⟨ret_bool (Eq.symm (decide_eq_true (Prod.ext rfl hall))), HBW.out⟩

theorem commit_eq (c d : Commit) : decide (c = d) = (same1 c.1 d.1 && same1 c.2.1 d.2.1 && same1 c.2.2.1 d.2.2.1 && same1 c.2.2.2.1 d.2.2.2.1 && same1 c.2.2.2.2 d.2.2.2.2) := by
  unfold same1
  rw [Bool.eq_iff_iff]
  simp [Prod.ext_iff, and_assoc]
theorem eqBs (t : TypeId) (a b : Bs) : binOp .eql t (.string (strB a)) (.string (strB b)) = pure (.bool (same1 a b)) := by
  have h : (a == b) = same1 a b := by unfold same1; rw [Bool.eq_iff_iff]; simp
  simp [binOp, Op.stringOp, toL, h]
set_option maxRecDepth 20000 in
set_option maxHeartbeats 800000 in
theorem sameCommit_any (w : World) (c d : Commit) (vx vy : Value) (hvx : Ls w.heap.size w 1 idC vx c.2.1) (hvy : Ls w.heap.size w 1 idC vy d.2.1) :
    Calls Tryd.prog 32 #[.agg #[.string (strB c.1), vx, .string (strB c.2.2.1), .int .i64 c.2.2.2.1, .string (strB c.2.2.2.2)], .agg #[.string (strB d.1), vy, .string (strB d.2.2.1), .int .i64 d.2.2.2.1, .string (strB d.2.2.2.2)]] w fun e w' => e = .returned (.bool (decide (c = d))) ∧ Below w.heap.size w w' := by
  have hb0 : Below w.heap.size w ((w.alloc (.cells #[.string (strB c.1), vx, .string (strB c.2.2.1), .int .i64 c.2.2.2.1, .string (strB c.2.2.2.2)] 54)).alloc (.cells #[.string (strB d.1), vy, .string (strB d.2.2.1), .int .i64 d.2.2.2.1, .string (strB d.2.2.2.2)] 54)) := ((Below.refl _ _).alloc (Nat.le_refl _) _).alloc (by simp) _
  have z1 : ((w.alloc (.cells #[.string (strB c.1), vx, .string (strB c.2.2.1), .int .i64 c.2.2.2.1, .string (strB c.2.2.2.2)] 54)).alloc (.cells #[.string (strB d.1), vy, .string (strB d.2.2.1), .int .i64 d.2.2.2.1, .string (strB d.2.2.2.2)] 54)).heap[w.heap.size]? = some (.cells #[.string (strB c.1), vx, .string (strB c.2.2.1), .int .i64 c.2.2.2.1, .string (strB c.2.2.2.2)] 54) := (heap_past _ _ _ (by simp)).trans (heap_last w _ _ rfl)
  have z2 : ((w.alloc (.cells #[.string (strB c.1), vx, .string (strB c.2.2.1), .int .i64 c.2.2.2.1, .string (strB c.2.2.2.2)] 54)).alloc (.cells #[.string (strB d.1), vy, .string (strB d.2.2.1), .int .i64 d.2.2.2.1, .string (strB d.2.2.2.2)] 54)).heap[w.heap.size + 1]? = some (.cells #[.string (strB d.1), vy, .string (strB d.2.2.1), .int .i64 d.2.2.2.1, .string (strB d.2.2.2.2)] 54) := heap_last (w.alloc (.cells #[.string (strB c.1), vx, .string (strB c.2.2.1), .int .i64 c.2.2.2.1, .string (strB c.2.2.2.2)] 54)) _ _ (by simp)
  have hS := sameIds_any _ c.2.1 d.2.1 vx vy (hvx.past hb0) (hvy.past hb0)
  obtain ⟨ax, capx, rfl, -⟩ := hvx
  obtain ⟨ay, capy, rfl, -⟩ := hvy
  generalize hw0 : (w.alloc (.cells #[.string (strB c.1), .slice ax c.2.1.length capx, .string (strB c.2.2.1), .int .i64 c.2.2.2.1, .string (strB c.2.2.2.2)] 54)).alloc (.cells #[.string (strB d.1), .slice ay d.2.1.length capy, .string (strB d.2.2.1), .int .i64 d.2.2.2.1, .string (strB d.2.2.2.2)] 54) = w0 at *
  have p0 := cell_of_row w0 w.heap.size 0 _ _ _ z1
  have r0 := cell_of_row w0 (w.heap.size + 1) 0 _ _ _ z2
  have p1 := cell_of_row w0 w.heap.size 1 _ _ _ z1
  have r1 := cell_of_row w0 (w.heap.size + 1) 1 _ _ _ z2
  have p2 := cell_of_row w0 w.heap.size 2 _ _ _ z1
  have r2 := cell_of_row w0 (w.heap.size + 1) 2 _ _ _ z2
  have p3 := cell_of_row w0 w.heap.size 3 _ _ _ z1
  have r3 := cell_of_row w0 (w.heap.size + 1) 3 _ _ _ z2
  have p4 := cell_of_row w0 w.heap.size 4 _ _ _ z1
  have r4 := cell_of_row w0 (w.heap.size + 1) 4 _ _ _ z2
  simp only [List.getElem?_toArray, List.getElem?_cons_zero, List.getElem?_cons_succ] at p0 p1 p2 p3 p4 r0 r1 r2 r3 r4
  rw [commit_eq]
  rw [show decide (c.2.1 = d.2.1) = same1 c.2.1 d.2.1 from rfl] at hS
  have e0 := eqBs 9 c.1 d.1
  have e2 := eqBs 9 c.2.2.1 d.2.2.1
  have e4 := eqBs 9 c.2.2.2.2 d.2.2.2.2
  have e3 : (c.2.2.2.1 == d.2.2.2.1) = same1 c.2.2.2.1 d.2.2.2.1 := by unfold same1; rw [Bool.eq_iff_iff]; simp
  generalize hq0 : same1 c.1 d.1 = q0 at *
  generalize hq1 : same1 c.2.1 d.2.1 = q1 at *
  generalize hq2 : same1 c.2.2.1 d.2.2.1 = q2 at *
  generalize hq3 : same1 c.2.2.2.1 d.2.2.2.1 = q3 at *
  generalize hq4 : same1 c.2.2.2.2 d.2.2.2.2 = q4 at *
  clear hq0 hq1 hq2 hq3 hq4
  go_enter Tryd.func32, Tryd.ntmps32
  go_wp2_with fail
  try rw [hw0]
  refine hS.mono ?_
  rintro e w1 ⟨rfl, hb1⟩
  have z1 := (hb1.block _ (lt_of_heap z1)).trans z1
  have z2 := (hb1.block _ (lt_of_heap z2)).trans z2
  have p0 := cell_of_row w1 w.heap.size 0 _ _ _ z1
  have r0 := cell_of_row w1 (w.heap.size + 1) 0 _ _ _ z2
  have p1 := cell_of_row w1 w.heap.size 1 _ _ _ z1
  have r1 := cell_of_row w1 (w.heap.size + 1) 1 _ _ _ z2
  have p2 := cell_of_row w1 w.heap.size 2 _ _ _ z1
  have r2 := cell_of_row w1 (w.heap.size + 1) 2 _ _ _ z2
  have p3 := cell_of_row w1 w.heap.size 3 _ _ _ z1
  have r3 := cell_of_row w1 (w.heap.size + 1) 3 _ _ _ z2
  have p4 := cell_of_row w1 w.heap.size 4 _ _ _ z1
  have r4 := cell_of_row w1 (w.heap.size + 1) 4 _ _ _ z2
  simp only [List.getElem?_toArray, List.getElem?_cons_zero, List.getElem?_cons_succ] at p0 p1 p2 p3 p4 r0 r1 r2 r3 r4
  have HB := hide (hb0.trans (hb1.mono hb0.size))
  clear hb1 hS
  cases q0
  · go_wp2
    go_ret
    exact ⟨ret_bool (by simp), HB.out⟩
  cases q1
  · go_wp2
    go_ret
    exact ⟨ret_bool (by simp), HB.out⟩
  cases q2
  · go_wp2
    go_ret
    exact ⟨ret_bool (by simp), HB.out⟩
  cases q3
  · go_wp2
    go_ret
    exact ⟨ret_bool (by simp), HB.out⟩
  cases q4
  · go_wp2
    go_ret
    exact ⟨ret_bool (by simp), HB.out⟩
  go_wp2
  go_ret
  exact ⟨ret_bool rfl, HB.out⟩
end Go.Proofs.YtdbmngbinhemeabDoor
