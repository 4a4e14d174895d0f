/-
  Texts joined: PSameO, PMany, PSameP.
-/
import Derived.Test.YtimbleaafoiidaaGreatDoorE23PRow
import Derived.Laws.StructEq
import Derived.Test.YtimbleaafoiidaaGreatDoorE39PFind
import Derived.Test.YtimbleaafoiidaaGreatDoorE27PNodeP
import Derived.Test.YtimbleaafoiidaaGreatDoorE25PRMany
/-
  Are two lists of objects the same? Conditions: they lie there.
-/
namespace Go.Proofs.YtimbleaafoiidaaGreatDoor
open Go.RowKit

def same1 {α : Type} [DecidableEq α] (x y : α) : Bool := decide (x = y)
theorem same1_true {α : Type} [DecidableEq α] {x y : α} (h : x = y) : same1 x y = true := decide_eq_true h
theorem same1_false {α : Type} [DecidableEq α] {x y : α} (h : ¬ x = y) : same1 x y = false := decide_eq_false h
theorem take_step {α : Type} {xs ys : List α} {k : Nat} (h1 : k < xs.length) (h2 : k < ys.length) (h : xs.take k = ys.take k) (he : xs[k] = ys[k]) : xs.take (k + 1) = ys.take (k + 1) := by
  rw [List.take_succ_eq_append_getElem h1, List.take_succ_eq_append_getElem h2, h, he]
theorem Tryz.eqObj : Tryz.prog.underlying 69 = some (.struct (Tryz.prog.fieldsOf 69)) ∧ Tryz.prog.stoodInHeld 69 = false ∧ Tryz.prog.eqGuardType Tryz.prog.depth 69 = false := ⟨by kernel_rfl, by kernel_rfl, by kernel_rfl⟩
theorem neq_Obj (W : World) (a0 b0 a1 b1 : Bs) : (binOp .neq 69 (.agg #[.string (strB a0), .string (strB a1)]) (.agg #[.string (strB b0), .string (strB b1)])).run Tryz.prog W = .ok (.bool (!(a0 == b0 && a1 == b1))) W := by
  obtain ⟨h1, h2, h3⟩ := Tryz.eqObj
  rw [run_neq_struct, run_equalIn_agg _ _ _ _ _ h1 h2]
  simp only [Program.fieldsOf, Tryz.underlying69]
  by_cases q0 : a0 = b0 <;> by_cases q1 : a1 = b1 <;> simp [Op.eqFields, go_sem, Tryz.underlying9, toL, q0, q1]
theorem neqObj (W : World) (x y : Pair) : (binOp .neq 69 (.agg #[.string (strB x.1), .string (strB x.2)]) (.agg #[.string (strB y.1), .string (strB y.2)])).run Tryz.prog W = .ok (.bool (!(same1 x y))) W := by
  rw [neq_Obj, show (x.1 == y.1 && x.2 == y.2) = same1 x y from by unfold same1; rw [Bool.eq_iff_iff]; simp [Prod.ext_iff]]
set_option maxRecDepth 20000 in
set_option maxHeartbeats 800000 in
theorem same_objs (w : World) (xs ys : List Pair) (vx vy : Value) (hvx : Ls w.heap.size w 2 pairC vx xs) (hvy : Ls w.heap.size w 2 pairC vy ys) :
    Calls Tryz.prog 12 #[vx, vy] w fun e w' => e = .returned (.bool (decide (xs = ys))) ∧ Below w.heap.size w w' := by
  obtain ⟨ax, capx, rfl, gx1, gx2, hx⟩ := hvx
  obtain ⟨ay, capy, rfl, gy1, gy2, hy⟩ := hvy
  unfold maxLen at gx2 gy2
  by_cases hle : xs.length = ys.length
  rotate_left
  · have hle' : ((xs.length : Int) == (ys.length : Int)) = false := by simp; omega
    go_enter Tryz.func12, Tryz.ntmps12
    go_wp2_with fail
    skip
    try go_wp2
    go_ret
    exact ⟨ret_bool (Eq.symm (decide_eq_false (fun e => hle (congrArg List.length e)))), Below.refl _ _⟩
  rw [hle] at gx1 ⊢
  have HLE := hide hle
  clear hle
  go_enter Tryz.func12, Tryz.ntmps12
  go_wp2_with fail
  skip
  go_loopw [5] (fun t wr => ∃ k : Nat, k ≤ ys.length ∧ t = .int .i64 k ∧ xs.take k = ys.take k ∧ Below w.heap.size w wr)
    (fun t _ => ys.length - (intOf t).toNat)
  case atStart => exact ⟨0, by omega, rfl, by simp, Below.refl _ _⟩
  case round =>
    obtain ⟨k, hk, rfl, htk, hbr⟩ := hrel
    have hbw : Below w.heap.size w wr := hbr
    have HB := hide hbr
    have HBW := hide hbw
    have HTK := hide htk
    clear hbr hbw htk
    by_cases hlt2 : k < ys.length
    · have hlt : k < xs.length := by rw [HLE.out]; exact hlt2
      obtain ⟨bx, offx, rfl, hbX, hcx⟩ := hx (by intro e; rw [e] at hlt; simp at hlt)
      obtain ⟨bY, offy, rfl, hbYl, hcy⟩ := hy (by intro e; rw [e] at hlt2; simp at hlt2)
      have c0 := (HBW.out.cell (p := ⟨bx, offx + k * 2 + 0, none⟩) hbX).trans (hcx k hlt 0 _ rfl)
      have d0 := (HBW.out.cell (p := ⟨bY, offy + k * 2 + 0, none⟩) hbYl).trans (hcy k hlt2 0 _ rfl)
      have c1 := (HBW.out.cell (p := ⟨bx, offx + k * 2 + 1, none⟩) hbX).trans (hcx k hlt 1 _ rfl)
      have d1 := (HBW.out.cell (p := ⟨bY, offy + k * 2 + 1, none⟩) hbYl).trans (hcy k hlt2 1 _ rfl)
      have hst := fun he => take_step hlt hlt2 HTK.out he
      have hno : xs[k] ≠ ys[k] → xs ≠ ys := fun hne e => hne (by simp only [e])
      generalize xs[k] = x at *
      generalize ys[k] = y at *
      try simp only [Nat.add_zero] at c0 d0 c1 d1
      have HST := hide hst
      have HNO := hide hno
      have hnq : ∀ W, _ := fun W => neqObj W x y
      clear hst hno hcx hcy hx hy hlt
      go_wp2_with fail
      refine wp_region_held_drew (S := fun W => W.cell? ⟨bx, offx + k * 2, none⟩ = some (.string (strB x.1)) ∧ W.cell? ⟨bx, offx + k * 2 + 1, none⟩ = some (.string (strB x.2)) ∧ W.cell? ⟨bY, offy + k * 2, none⟩ = some (.string (strB y.1)) ∧ W.cell? ⟨bY, offy + k * 2 + 1, none⟩ = some (.string (strB y.2))) (by kernel_rfl) (⟨c0, c1, d0, d1⟩) (fun hHeld => ?_)
      refine takeK 0 hHeld ?_
      refine takeK 1 hHeld ?_
      refine takeK 2 hHeld ?_
      refine takeK 3 hHeld ?_
      refine takeK 4 hHeld ?_
      refine takeK 5 hHeld ?_
      refine takeK 6 hHeld ?_
      refine takeK 7 hHeld ?_
      refine takeK 8 hHeld ?_
      refine wpAnyH_done (by kernel_rfl) ?_ _
      clear hHeld hnq
      have hbD : Below w.heap.size w wr.drew := HB.out.drew
      have HBD := hide hbD
      clear hbD
      by_cases he : x = y
      · have hbe := same1_true he
        rw [hbe]
        go_wp2
        go_roundw
        case rel => exact ⟨k + 1, by omega, by go_num, HST.out he, HBD.out⟩
        case measure => simp [intOf]; omega
      · have hbe := same1_false he
        rw [hbe]
        go_wp2
        go_ret
        exact ⟨ret_bool (Eq.symm (decide_eq_false (fun e => HNO.out he (e)))), HBD.out⟩
    · have hall : xs = ys := by
        have := HTK.out
        have hL := HLE.out
        rwa [List.take_of_length_le (by omega), List.take_of_length_le (by omega)] at this
      go_wp2
      go_ret
      exact ⟨ret_bool (Eq.symm (decide_eq_true (hall))), HBW.out⟩
end Go.Proofs.YtimbleaafoiidaaGreatDoor

/-
  The pairs of a map counted by the program, by any get. Conditions: the get keeps its word; not too much was asked.
-/
namespace Go.Proofs.YtimbleaafoiidaaGreatDoor
open Go.RowKit

end Go.Proofs.YtimbleaafoiidaaGreatDoor

/-
  Are two lists of pairs the same? Conditions: they lie there.
-/
namespace Go.Proofs.YtimbleaafoiidaaGreatDoor
open Go.RowKit

end Go.Proofs.YtimbleaafoiidaaGreatDoor
