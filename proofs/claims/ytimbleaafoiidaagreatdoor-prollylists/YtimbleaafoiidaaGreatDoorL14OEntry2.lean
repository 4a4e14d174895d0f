/-
  Texts joined: OEntry2, OEntry3, OChunk, ORPut, ORChunk.
-/
import Derived.Test.YtimbleaafoiidaaGreatDoorL13OReader
import Derived.Test.YtimbleaafoiidaaGreatDoorL10OTop1
import Derived.Test.YtimbleaafoiidaaGreatDoorL5HRefSum
/-
  Entries' values made; what the reference says of entries. Conditions: lengths within reach.
-/
namespace Go.Proofs.YtimbleaafoiidaaGreatDoor
open Go.RowKit
variable {N : Nat}

theorem index_str (w : World) (l : List UInt8) (kd : IntKind) (k : Nat) (h : k < l.length) : (Instr.index 9 (.string (strB l)) (.int kd (k : Int))).run Tryz.prog w = .ok (.int .u8 ((l[k]'h).toNat : Int)) w := by
  have a1 : (0 : Int) ≤ (k : Int) := by omega
  have h1 : (strB l)[k]? = some (l[k]'h) := by
    have hs : k < (strB l).size := by rw [strB_size]; exact h
    rw [getElem?_pos (strB l) k hs]
    rfl
  unfold Instr.index
  simp only [asIntOf, Sem.run_bind, Sem.run_pure, Result.andThen_ok, run_underlying Tryz.underlying9 w]
  rw [if_pos a1, Int.toNat_natCast, h1]
  rfl
theorem risId_any (w : World) (s : Bs) : Calls Tryz.prog 101 #[.string (strB s)] w fun e w' => e = .returned (.bool (isIdB s)) ∧ w' = w := by
  have hs := strB_size s
  go_enter Tryz.func101, Tryz.ntmps101
  go_wp2
  go_ret
  refine ⟨ret_bool ?_, rfl⟩
  unfold isIdB
  (try rw [Bool.eq_iff_iff]); simp <;> omega
end Go.Proofs.YtimbleaafoiidaaGreatDoor

/-
  Entries' values made, by the program and by the reference; values read by the reference. Conditions: lengths within reach.
-/
namespace Go.Proofs.YtimbleaafoiidaaGreatDoor
open Go.RowKit

end Go.Proofs.YtimbleaafoiidaaGreatDoor

/-
  Objects of parts; chunks made and read. Conditions: the table holds its numbers; lengths within reach.
-/
namespace Go.Proofs.YtimbleaafoiidaaGreatDoor
open Go.RowKit

end Go.Proofs.YtimbleaafoiidaaGreatDoor

/-
  Objects made by the reference: Of, put, Chunk; a chunk read. Conditions: lengths within reach.
-/
namespace Go.Proofs.YtimbleaafoiidaaGreatDoor
open Go.RowKit

end Go.Proofs.YtimbleaafoiidaaGreatDoor

/-
  A chunk made and read by the reference. Conditions: lengths within reach.
-/
namespace Go.Proofs.YtimbleaafoiidaaGreatDoor
open Go.RowKit

end Go.Proofs.YtimbleaafoiidaaGreatDoor
