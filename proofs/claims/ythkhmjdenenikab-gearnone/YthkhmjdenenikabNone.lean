/-
  GearNone is true. Conditions: none.
-/
import Derived.Test.YthkhmjdenenikabShown
namespace Go.Proofs.Ythkhmjdenenikab
open Go.RowKit

set_option maxRecDepth 20000 in
theorem writeNil_any (w : World) (v : Value) : Calls Try.prog 5 #[.pointer none, v] w fun e w' => e = .returned (.slice none 0 0) ∧ w' = w := by
  go_enter Try.func5, Try.ntmps5
  go_wp2
  go_ret
  exact ⟨rfl, rfl⟩
set_option maxRecDepth 20000 in
theorem closeNil_any (w : World) : Calls Try.prog 6 #[.pointer none] w fun e w' => e = .returned (.slice none 0 0) ∧ w' = w := by
  go_enter Try.func6, Try.ntmps6
  go_wp2
  go_ret
  exact ⟨rfl, rfl⟩
set_option maxRecDepth 20000 in
theorem none_any (w : World) (l : List UInt8) : Calls Try.prog 3 #[.string (strB l)] w fun e w' => e = .returned (.bool true) ∧ Below w.heap.size w w' := by
  have hsn := shown_any w
  go_enter Try.func3, Try.ntmps3
  go_wp2_with fail
  refine hsn.mono ?_
  rintro e w1 ⟨rfl, hb1⟩
  have hB : Below w.heap.size w (w1.alloc (.cells #[.string (strB l)] 9)) := hb1.alloc hb1.size _
  go_wp2_with fail
  refine (writeNil_any _ _).mono ?_
  rintro e w2 ⟨rfl, rfl⟩
  go_wp2_with fail
  refine (closeNil_any _).mono ?_
  rintro e w2 ⟨rfl, rfl⟩
  go_wp2
  go_ret
  exact ⟨rfl, hB⟩
end Go.Proofs.Ythkhmjdenenikab
