/-
  Structs held against each other. No condition.
-/
import Derived.Test.YtdbmngbinhemeabGreatDoorROTop4
import Derived.Laws.StructEq
namespace Go.Proofs.YtdbmngbinhemeabGreatDoor
open Go.RowKit

/-- Are two the same? -/
def same1 {α : Type} [DecidableEq α] (x y : α) : Bool := decide (x = y)
theorem same1_true {α : Type} [DecidableEq α] {x y : α} (h : x = y) : same1 x y = true := decide_eq_true h
theorem same1_false {α : Type} [DecidableEq α] {x y : α} (h : ¬ x = y) : same1 x y = false := decide_eq_false h

theorem Tryz.eqPart : Tryz.prog.underlying 51 = some (.struct (Tryz.prog.fieldsOf 51)) ∧ Tryz.prog.stoodInHeld 51 = false ∧ Tryz.prog.eqGuardType Tryz.prog.depth 51 = false := ⟨by kernel_rfl, by kernel_rfl, by kernel_rfl⟩
theorem neq_Part (W : World) (a0 b0 : Bs) (a1 b1 : Int) : (binOp .neq 51 (.agg #[.string (strB a0), .int .i64 a1]) (.agg #[.string (strB b0), .int .i64 b1])).run Tryz.prog W = .ok (.bool (!(a0 == b0 && a1 == b1))) W := by
  obtain ⟨h1, h2, h3⟩ := Tryz.eqPart
  rw [run_neq_struct, run_equalIn_agg _ _ _ _ _ h1 h2]
  simp only [Program.fieldsOf, Tryz.underlying51]
  by_cases q0 : a0 = b0 <;> by_cases q1 : a1 = b1 <;> simp [Op.eqFields, go_sem, Tryz.underlying9, Tryz.underlying2, toL, q0, q1]

theorem Tryz.eqPair : Tryz.prog.underlying 37 = some (.struct (Tryz.prog.fieldsOf 37)) ∧ Tryz.prog.stoodInHeld 37 = false ∧ Tryz.prog.eqGuardType Tryz.prog.depth 37 = false := ⟨by kernel_rfl, by kernel_rfl, by kernel_rfl⟩
theorem neq_Pair (W : World) (a0 b0 : Bs) (a1 b1 : Bs) : (binOp .neq 37 (.agg #[.string (strB a0), .string (strB a1)]) (.agg #[.string (strB b0), .string (strB b1)])).run Tryz.prog W = .ok (.bool (!(a0 == b0 && a1 == b1))) W := by
  obtain ⟨h1, h2, h3⟩ := Tryz.eqPair
  rw [run_neq_struct, run_equalIn_agg _ _ _ _ _ h1 h2]
  simp only [Program.fieldsOf, Tryz.underlying37]
  by_cases q0 : a0 = b0 <;> by_cases q1 : a1 = b1 <;> simp [Op.eqFields, go_sem, Tryz.underlying9, toL, q0, q1]

theorem Tryz.eqLink : Tryz.prog.underlying 58 = some (.struct (Tryz.prog.fieldsOf 58)) ∧ Tryz.prog.stoodInHeld 58 = false ∧ Tryz.prog.eqGuardType Tryz.prog.depth 58 = false := ⟨by kernel_rfl, by kernel_rfl, by kernel_rfl⟩
theorem neq_Link (W : World) (a0 b0 : Bs) (a1 b1 : Bs) (a2 b2 : Int) : (binOp .neq 58 (.agg #[.string (strB a0), .string (strB a1), .int .i64 a2]) (.agg #[.string (strB b0), .string (strB b1), .int .i64 b2])).run Tryz.prog W = .ok (.bool (!(a0 == b0 && a1 == b1 && a2 == b2))) W := by
  obtain ⟨h1, h2, h3⟩ := Tryz.eqLink
  rw [run_neq_struct, run_equalIn_agg _ _ _ _ _ h1 h2]
  simp only [Program.fieldsOf, Tryz.underlying58]
  by_cases q0 : a0 = b0 <;> by_cases q1 : a1 = b1 <;> by_cases q2 : a2 = b2 <;> simp [Op.eqFields, go_sem, Tryz.underlying9, Tryz.underlying2, toL, q0, q1, q2]

theorem Tryz.eqObj : Tryz.prog.underlying 30 = some (.struct (Tryz.prog.fieldsOf 30)) ∧ Tryz.prog.stoodInHeld 30 = false ∧ Tryz.prog.eqGuardType Tryz.prog.depth 30 = false := ⟨by kernel_rfl, by kernel_rfl, by kernel_rfl⟩
theorem eql_Obj (W : World) (a0 b0 : Bs) (a1 b1 : Bs) : (binOp .eql 30 (.agg #[.string (strB a0), .string (strB a1)]) (.agg #[.string (strB b0), .string (strB b1)])).run Tryz.prog W = .ok (.bool ((a0 == b0 && a1 == b1))) W := by
  obtain ⟨h1, h2, h3⟩ := Tryz.eqObj
  rw [run_eql_struct, run_equalIn_agg _ _ _ _ _ h1 h2]
  simp only [Program.fieldsOf, Tryz.underlying30]
  by_cases q0 : a0 = b0 <;> by_cases q1 : a1 = b1 <;> simp [Op.eqFields, go_sem, Tryz.underlying9, toL, q0, q1]
theorem neqPart (W : World) (x y : Part) : (binOp .neq 51 (.agg #[.string (strB x.1), .int .i64 x.2]) (.agg #[.string (strB y.1), .int .i64 y.2])).run Tryz.prog W = .ok (.bool (!(same1 x y))) W := by
  rw [neq_Part, show (x.1 == y.1 && x.2 == y.2) = same1 x y from by unfold same1; rw [Bool.eq_iff_iff]; simp [Prod.ext_iff]]
theorem neqPair (W : World) (x y : Pair) : (binOp .neq 37 (.agg #[.string (strB x.1), .string (strB x.2)]) (.agg #[.string (strB y.1), .string (strB y.2)])).run Tryz.prog W = .ok (.bool (!(same1 x y))) W := by
  rw [neq_Pair, show (x.1 == y.1 && x.2 == y.2) = same1 x y from by unfold same1; rw [Bool.eq_iff_iff]; simp [Prod.ext_iff]]
theorem neqLink (W : World) (x y : Link) : (binOp .neq 58 (.agg #[.string (strB x.1), .string (strB x.2.1), .int .i64 x.2.2]) (.agg #[.string (strB y.1), .string (strB y.2.1), .int .i64 y.2.2])).run Tryz.prog W = .ok (.bool (!(same1 x y))) W := by
  rw [neq_Link, show (x.1 == y.1 && x.2.1 == y.2.1 && x.2.2 == y.2.2) = same1 x y from by unfold same1; rw [Bool.eq_iff_iff]; simp [Prod.ext_iff, and_assoc]]
theorem neqBs (t : TypeId) (a b : Bs) : binOp .neq t (.string (strB a)) (.string (strB b)) = pure (.bool (!(same1 a b))) := by
  have h : (a == b) = same1 a b := by unfold same1; rw [Bool.eq_iff_iff]; simp
  simp [binOp, Op.stringOp, toL, h]
theorem neq_str (t : TypeId) (a b : Bs) : binOp .neq t (.string (strB a)) (.string (strB b)) = pure (.bool (!(a == b))) := by simp [binOp, Op.stringOp, toL]
theorem eql_str (t : TypeId) (a b : Bs) : binOp .eql t (.string (strB a)) (.string (strB b)) = pure (.bool (a == b)) := by simp [binOp, Op.stringOp, toL]
theorem take_step {α : Type} {xs ys : List α} {k : Nat} (h1 : k < xs.length) (h2 : k < ys.length) (h : xs.take k = ys.take k) (he : xs[k] = ys[k]) : xs.take (k + 1) = ys.take (k + 1) := by
  rw [List.take_succ_eq_append_getElem h1, List.take_succ_eq_append_getElem h2, h, he]
end Go.Proofs.YtdbmngbinhemeabGreatDoor
