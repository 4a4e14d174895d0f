/-
  maps.Clone of a directory. Conditions: what lies there is told by hypotheses.
-/
import Derived.Test.YtbedacdakmcfpaaKeepDir
import Derived.Shelf.SlMaps.Clone
namespace Go.Proofs.Ytbedacdakmcfpaa
open Go.RowKit

set_option maxRecDepth 20000 in
theorem mclone_some (w : World) (b : Nat) (l : List (Value × Value)) (h : MapW w b l) :
    Calls Try.prog 72 #[.map (some b)] w fun e w' => e = .returned (.map (some w.heap.size)) ∧ MapW w' w.heap.size l ∧ Chg (fun _ => False) w w' := by
  obtain ⟨es, clock, h1, h2, h3⟩ := h
  have hq := fun w => eqM62 w (some b)
  have HE := hide h3
  clear h3
  go_enter Try.func72, Try.ntmps72
  go_wp2
  rw [run_callFunc_extern Try.func83 (by kernel_rfl) (by kernel_rfl) (by kernel_rfl) (e := Extern.MapsClone.clone) (by kernel_rfl), run_maps_clone_sl w 62 h1]
  simp only [Result.andThen]
  rw [Oper.upon_value]
  go_wp2
  rw [run_typeAssert_map_sl _ 62 20 _ _ _ Try.underlying62]
  simp only [Result.andThen]
  rw [Oper.upon_value]
  go_wp2
  go_ret
  exact ⟨rfl, ⟨es, clock, heap_last w _, h2, HE.out⟩, (Chg.refl _ w).alloc _⟩
theorem mclone_none (w : World) : Calls Try.prog 72 #[.map none] w fun e w' => e = .returned (.map none) ∧ w' = w := by
  have hq := fun w => eqM62 w none
  go_enter Try.func72, Try.ntmps72
  go_wp2
  go_ret
  exact ⟨rfl, rfl⟩
end Go.Proofs.Ytbedacdakmcfpaa
