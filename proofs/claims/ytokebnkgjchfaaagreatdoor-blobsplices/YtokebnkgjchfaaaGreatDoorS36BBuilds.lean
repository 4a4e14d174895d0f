/-
  BlobBuilds, walked. Conditions: a text within reach; the table holds its numbers.
-/
import Derived.Test.YtokebnkgjchfaaaGreatDoorS34BRBuild
import Derived.Test.YtokebnkgjchfaaaGreatDoorS35BShown
namespace Go.Proofs.YtokebnkgjchfaaaGreatDoor
open Go.RowKit

set_option maxRecDepth 20000 in
theorem cut_any (w : World) (l : Bs) (hl : l.length ≤ 140737488351232) :
    Calls Tryz.prog 7 #[.string (strB l)] w fun e w' => e = .returned (.string (strB (l.take 262145))) ∧ w' = w := by
  have hs := strB_size l
  have ee : ∀ n, (strB l).extract 0 n = strB ((l.take n).drop 0) := fun n => Gr.ext_strB l 0 n
  by_cases h : l.length ≤ 262145
  · have ht : l.take 262145 = l := List.take_of_length_le h
    have hx : (strB l).extract 0 l.length = strB l := by rw [ee]; simp
    rw [ht]
    clear ee
    go_enter Tryz.func7, Tryz.ntmps7
    go_wp2
    go_ret
    exact ⟨rfl, rfl⟩
  · have hx : (strB l).extract 0 262145 = strB (l.take 262145) := by rw [ee]; simp
    clear ee
    go_enter Tryz.func7, Tryz.ntmps7
    go_wp2
    go_ret
    exact ⟨rfl, rfl⟩
end Go.Proofs.YtokebnkgjchfaaaGreatDoor
