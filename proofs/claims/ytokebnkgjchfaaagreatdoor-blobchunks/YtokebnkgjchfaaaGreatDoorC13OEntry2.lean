/-
  Texts joined: OEntry2, OEntry3, ORPut, ORChunk.
-/
import Derived.Test.YtokebnkgjchfaaaGreatDoorC12OReader
import Derived.Test.YtokebnkgjchfaaaGreatDoorC9HRefSum
import Derived.Test.YtokebnkgjchfaaaGreatDoorC7OTake
/-
  Entries' values made; what the reference says of entries. Conditions: lengths within reach.
-/
namespace Go.Proofs.YtokebnkgjchfaaaGreatDoor
open Go.RowKit
variable {N : Nat}

theorem index_str (w : World) (l : List UInt8) (kd : IntKind) (k : Nat) (h : k < l.length) : (Instr.index 9 (.string (strB l)) (.int kd (k : Int))).run Tryz.prog w = .ok (.int .u8 ((l[k]'h).toNat : Int)) w := by
  have a1 : (0 : Int) ≤ (k : Int) := by omega
  have h1 : (strB l)[k]? = some (l[k]'h) := by
    have hs : k < (strB l).size := by rw [strB_size]; exact h
    rw [getElem?_pos (strB l) k hs]
    rfl
  unfold Instr.index
  simp only [asIntOf, Sem.run_bind, Sem.run_pure, Result.andThen_ok, run_underlying Tryz.underlying9 w]
  rw [if_pos a1, Int.toNat_natCast, h1]
  rfl
theorem risId_any (w : World) (s : Bs) : Calls Tryz.prog 77 #[.string (strB s)] w fun e w' => e = .returned (.bool (isIdB s)) ∧ w' = w := by
  have hs := strB_size s
  go_enter Tryz.func77, Tryz.ntmps77
  go_wp2
  go_ret
  refine ⟨ret_bool ?_, rfl⟩
  unfold isIdB
  (try rw [Bool.eq_iff_iff]); simp <;> omega
end Go.Proofs.YtokebnkgjchfaaaGreatDoor

/-
  Entries' values made, by the program and by the reference; values read by the reference. Conditions: lengths within reach.
-/
namespace Go.Proofs.YtokebnkgjchfaaaGreatDoor
open Go.RowKit

theorem wp_append_run2 {P : Program} {o : Oper} {a : Act} {w : World} {K : Act → World → Prop} {Q : Exit → Act → World → Prop} (s x : Operand) (t u : TypeId)
    (ho : o.op = .call { callee := .builtin .append, args := #[s, x], argTypes := #[t, u] }) {v1 v2 v' : Value} {w' : World} (hs : a.eval s = v1) (hx : a.eval x = v2)
    (hrun : (Builtin.append_ #[t, u] o.type #[v1, v2]).run P w = .ok v' w') (hK : K (a.put o.dst v') w') : o.wp P a w K Q := by
  unfold Oper.wp
  simp [execOp, ho, resolve, invoke, builtin, hs, hx, hrun, Result.andThen]
  exact hK
end Go.Proofs.YtokebnkgjchfaaaGreatDoor

/-
  Objects made by the reference: Of, put, Chunk; a chunk read. Conditions: lengths within reach.
-/
namespace Go.Proofs.YtokebnkgjchfaaaGreatDoor
open Go.RowKit

end Go.Proofs.YtokebnkgjchfaaaGreatDoor

/-
  A chunk made and read by the reference. Conditions: lengths within reach.
-/
namespace Go.Proofs.YtokebnkgjchfaaaGreatDoor
open Go.RowKit

end Go.Proofs.YtokebnkgjchfaaaGreatDoor
