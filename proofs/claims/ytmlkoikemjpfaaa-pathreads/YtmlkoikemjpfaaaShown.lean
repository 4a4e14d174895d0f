/-
  The document's examples at each statement's head answer true. Conditions: none.
-/
import Derived.Test.YtmlkoikemjpfaaaSplit
namespace Go.Proofs.Ytmlkoikemjpfaaa
open Go.RowKit

theorem path_ab : Pt.path [97, 47, 98, 46, 99] = true := by decide
theorem parts_ab : Pt.parts [97, 47, 98, 46, 99] = [[97], [98, 46, 99]] := by decide
theorem few_ab : Pt.few [[97], [98]] = true := by decide
theorem joined_ab : Pt.joined [[97], [98]] = [97, 47, 98] := by decide

set_option maxRecDepth 20000 in
theorem shown_any (w : World) : Calls Try.prog 9 #[] w fun e w' => e = .returned (.bool true) ∧ Below w.heap.size w w' := by
  go_enter Try.func9, Try.ntmps9
  go_wp2_with fail
  refine (parse_ok w [97, 47, 98, 46, 99] (by decide) path_ab).mono ?_
  rintro e w1 ⟨v, rfl, hv, hb1⟩
  rw [parts_ab] at hv
  obtain ⟨g, cap, rfl⟩ := ownsRow_succ hv
  have hc := World.ownsRow.cells hv (g := g) rfl 1 (.string (strB [98, 46, 99])) rfl
  rw [Addr.add_lit] at hc
  have hg : g < w1.heap.size := by
    rcases hv.2 with ⟨h, _⟩ | ⟨g', cap', cur, h, _, hh, _⟩
    · cases h
    · cases h
      exact (Array.getElem?_eq_some_iff.1 hh).1
  have hcap : 2 ≤ cap := by
    rcases hv.2 with ⟨h, _⟩ | ⟨g', cap', cur, h, _, hh, hc, _⟩
    · cases h
    · cases h
      exact hc
  clear hv
  have hts : Ts (w1.alloc (.cells #[.string (strB [97]), .string (strB [98])] 9)) (.slice (some ⟨w1.heap.size, 0, none⟩) 2 2) [[97], [98]] := by
    refine ⟨_, _, rfl, Nat.le_refl _, by decide, fun _ => ⟨w1.heap.size, 0, rfl, by simp, fun j hj => ?_⟩⟩
    have hh : (w1.alloc (.cells #[.string (strB [97]), .string (strB [98])] 9)).heap[w1.heap.size]? = some (.cells #[.string (strB [97]), .string (strB [98])] 9) := World.alloc_heap_new w1 _
    have : j = 0 ∨ j = 1 := by simp at hj; omega
    rcases this with rfl | rfl
    · unfold World.cell?; rw [hh]; rfl
    · unfold World.cell?; rw [hh]; rfl
  have hj := join_any _ _ _ hts (by decide)
  rw [if_pos few_ab, joined_ab] at hj
  have hb2 : Below w.heap.size w (w1.alloc (.cells #[.string (strB [97]), .string (strB [98])] 9)) := hb1.alloc hb1.size _
  have hbA : Below w1.heap.size w1 (w1.alloc (.cells #[.string (strB [97]), .string (strB [98])] 9)) := (Below.refl _ _).alloc (Nat.le_refl _) _
  go_wp2_with fail
  refine hj.mono ?_
  rintro e w2 ⟨rfl, hb3⟩
  have hc2 : w2.cell? ⟨g, 0 + 1, none⟩ = some (.string (strB [98, 46, 99])) := ((hbA.trans (hb3.mono hbA.size)).cell (p := ⟨g, 0 + 1, none⟩) hg).trans hc
  have hbf := hb2.trans (hb3.mono hb2.size)
  clear hts hj hc hb3
  have e1 : (strB [98, 46, 99]).toList = [98, 46, 99] := toL _
  have e2 : (strB [97, 47, 98]).toList = [97, 47, 98] := toL _
  go_wp2
  go_ret
  exact ⟨rfl, hbf⟩

end Go.Proofs.Ytmlkoikemjpfaaa
