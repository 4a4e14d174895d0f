/-
  Structs held against each other. No condition.
-/
import Derived.Test.YtmlfonmdiimdfaaDoorOTop4
import Derived.Laws.StructEq
namespace Go.Proofs.YtmlfonmdiimdfaaDoor
open Go.RowKit

/-- Are two the same? -/
def same1 {α : Type} [DecidableEq α] (x y : α) : Bool := decide (x = y)
theorem same1_true {α : Type} [DecidableEq α] {x y : α} (h : x = y) : same1 x y = true := decide_eq_true h
theorem same1_false {α : Type} [DecidableEq α] {x y : α} (h : ¬ x = y) : same1 x y = false := decide_eq_false h

theorem Tryd.eqPart : Tryd.prog.underlying 78 = some (.struct (Tryd.prog.fieldsOf 78)) ∧ Tryd.prog.stoodInHeld 78 = false ∧ Tryd.prog.eqGuardType Tryd.prog.depth 78 = false := ⟨by kernel_rfl, by kernel_rfl, by kernel_rfl⟩
theorem neq_Part (W : World) (a0 b0 : Bs) (a1 b1 : Int) : (binOp .neq 78 (.agg #[.string (strB a0), .int .i64 a1]) (.agg #[.string (strB b0), .int .i64 b1])).run Tryd.prog W = .ok (.bool (!(a0 == b0 && a1 == b1))) W := by
  obtain ⟨h1, h2, h3⟩ := Tryd.eqPart
  rw [run_neq_struct, run_equalIn_agg _ _ _ _ _ h1 h2]
  simp only [Program.fieldsOf, Tryd.underlying78]
  by_cases q0 : a0 = b0 <;> by_cases q1 : a1 = b1 <;> simp [Op.eqFields, go_sem, Tryd.underlying9, Tryd.underlying2, toL, q0, q1]

theorem Tryd.eqPair : Tryd.prog.underlying 68 = some (.struct (Tryd.prog.fieldsOf 68)) ∧ Tryd.prog.stoodInHeld 68 = false ∧ Tryd.prog.eqGuardType Tryd.prog.depth 68 = false := ⟨by kernel_rfl, by kernel_rfl, by kernel_rfl⟩
theorem neq_Pair (W : World) (a0 b0 : Bs) (a1 b1 : Bs) : (binOp .neq 68 (.agg #[.string (strB a0), .string (strB a1)]) (.agg #[.string (strB b0), .string (strB b1)])).run Tryd.prog W = .ok (.bool (!(a0 == b0 && a1 == b1))) W := by
  obtain ⟨h1, h2, h3⟩ := Tryd.eqPair
  rw [run_neq_struct, run_equalIn_agg _ _ _ _ _ h1 h2]
  simp only [Program.fieldsOf, Tryd.underlying68]
  by_cases q0 : a0 = b0 <;> by_cases q1 : a1 = b1 <;> simp [Op.eqFields, go_sem, Tryd.underlying9, toL, q0, q1]

theorem Tryd.eqLink : Tryd.prog.underlying 104 = some (.struct (Tryd.prog.fieldsOf 104)) ∧ Tryd.prog.stoodInHeld 104 = false ∧ Tryd.prog.eqGuardType Tryd.prog.depth 104 = false := ⟨by kernel_rfl, by kernel_rfl, by kernel_rfl⟩
theorem neq_Link (W : World) (a0 b0 : Bs) (a1 b1 : Bs) (a2 b2 : Int) : (binOp .neq 104 (.agg #[.string (strB a0), .string (strB a1), .int .i64 a2]) (.agg #[.string (strB b0), .string (strB b1), .int .i64 b2])).run Tryd.prog W = .ok (.bool (!(a0 == b0 && a1 == b1 && a2 == b2))) W := by
  obtain ⟨h1, h2, h3⟩ := Tryd.eqLink
  rw [run_neq_struct, run_equalIn_agg _ _ _ _ _ h1 h2]
  simp only [Program.fieldsOf, Tryd.underlying104]
  by_cases q0 : a0 = b0 <;> by_cases q1 : a1 = b1 <;> by_cases q2 : a2 = b2 <;> simp [Op.eqFields, go_sem, Tryd.underlying9, Tryd.underlying2, toL, q0, q1, q2]

theorem Tryd.eqObj : Tryd.prog.underlying 27 = some (.struct (Tryd.prog.fieldsOf 27)) ∧ Tryd.prog.stoodInHeld 27 = false ∧ Tryd.prog.eqGuardType Tryd.prog.depth 27 = false := ⟨by kernel_rfl, by kernel_rfl, by kernel_rfl⟩
theorem eql_Obj (W : World) (a0 b0 : Bs) (a1 b1 : Bs) : (binOp .eql 27 (.agg #[.string (strB a0), .string (strB a1)]) (.agg #[.string (strB b0), .string (strB b1)])).run Tryd.prog W = .ok (.bool ((a0 == b0 && a1 == b1))) W := by
  obtain ⟨h1, h2, h3⟩ := Tryd.eqObj
  rw [run_eql_struct, run_equalIn_agg _ _ _ _ _ h1 h2]
  simp only [Program.fieldsOf, Tryd.underlying27]
  by_cases q0 : a0 = b0 <;> by_cases q1 : a1 = b1 <;> simp [Op.eqFields, go_sem, Tryd.underlying9, toL, q0, q1]
theorem neqPart (W : World) (x y : Part) : (binOp .neq 78 (.agg #[.string (strB x.1), .int .i64 x.2]) (.agg #[.string (strB y.1), .int .i64 y.2])).run Tryd.prog W = .ok (.bool (!(same1 x y))) W := by
  rw [neq_Part, show (x.1 == y.1 && x.2 == y.2) = same1 x y from by unfold same1; rw [Bool.eq_iff_iff]; simp [Prod.ext_iff]]
theorem neqPair (W : World) (x y : Pair) : (binOp .neq 68 (.agg #[.string (strB x.1), .string (strB x.2)]) (.agg #[.string (strB y.1), .string (strB y.2)])).run Tryd.prog W = .ok (.bool (!(same1 x y))) W := by
  rw [neq_Pair, show (x.1 == y.1 && x.2 == y.2) = same1 x y from by unfold same1; rw [Bool.eq_iff_iff]; simp [Prod.ext_iff]]
theorem neqLink (W : World) (x y : Link) : (binOp .neq 104 (.agg #[.string (strB x.1), .string (strB x.2.1), .int .i64 x.2.2]) (.agg #[.string (strB y.1), .string (strB y.2.1), .int .i64 y.2.2])).run Tryd.prog W = .ok (.bool (!(same1 x y))) W := by
  rw [neq_Link, show (x.1 == y.1 && x.2.1 == y.2.1 && x.2.2 == y.2.2) = same1 x y from by unfold same1; rw [Bool.eq_iff_iff]; simp [Prod.ext_iff, and_assoc]]
theorem neqBs (t : TypeId) (a b : Bs) : binOp .neq t (.string (strB a)) (.string (strB b)) = pure (.bool (!(same1 a b))) := by
  have h : (a == b) = same1 a b := by unfold same1; rw [Bool.eq_iff_iff]; simp
  simp [binOp, Op.stringOp, toL, h]
theorem neq_str (t : TypeId) (a b : Bs) : binOp .neq t (.string (strB a)) (.string (strB b)) = pure (.bool (!(a == b))) := by simp [binOp, Op.stringOp, toL]
theorem eql_str (t : TypeId) (a b : Bs) : binOp .eql t (.string (strB a)) (.string (strB b)) = pure (.bool (a == b)) := by simp [binOp, Op.stringOp, toL]
theorem take_step {α : Type} {xs ys : List α} {k : Nat} (h1 : k < xs.length) (h2 : k < ys.length) (h : xs.take k = ys.take k) (he : xs[k] = ys[k]) : xs.take (k + 1) = ys.take (k + 1) := by
  rw [List.take_succ_eq_append_getElem h1, List.take_succ_eq_append_getElem h2, h, he]
end Go.Proofs.YtmlfonmdiimdfaaDoor
