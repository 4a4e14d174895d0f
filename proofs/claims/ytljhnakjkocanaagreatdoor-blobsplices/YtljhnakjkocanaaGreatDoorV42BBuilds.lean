/-
  BlobBuilds, walked. Conditions: a text within reach; the table holds its numbers.
-/
import Derived.Test.YtljhnakjkocanaaGreatDoorV39BRBuild
import Derived.Test.YtljhnakjkocanaaGreatDoorV40BShown
import Derived.Test.YtljhnakjkocanaaGreatDoorV41BSameP
namespace Go.Proofs.YtljhnakjkocanaaGreatDoor
open Go.RowKit

set_option maxRecDepth 20000 in
theorem cut_any (w : World) (l : Bs) (hl : l.length ≤ 140737488351232) :
    Calls Tryz.prog 7 #[.string (strB l)] w fun e w' => e = .returned (.string (strB (l.take 262145))) ∧ w' = w := by
  have hs := strB_size l
  have ee : ∀ n, (strB l).extract 0 n = strB ((l.take n).drop 0) := fun n => Gr.ext_strB l 0 n
  by_cases h : l.length ≤ 262145
  · have ht : l.take 262145 = l := List.take_of_length_le h
    have hx : (strB l).extract 0 l.length = strB l := by rw [ee]; simp
    rw [ht]
    clear ee
    go_enter Tryz.func7, Tryz.ntmps7
    go_wp2
    go_ret
    exact ⟨rfl, rfl⟩
  · have hx : (strB l).extract 0 262145 = strB (l.take 262145) := by rw [ee]; simp
    clear ee
    go_enter Tryz.func7, Tryz.ntmps7
    go_wp2
    go_ret
    exact ⟨rfl, rfl⟩
/-- What both answer: one part, one list of objects, one error. -/
theorem both_build (w : World) (l : Bs) (hT : TabW w) : ∃ (p : Part) (os : List Pair) (k : Int),
    (Calls Tryz.prog 8 #[.string (strB l)] w fun e w' => ∃ v, e = .returned (.tuple #[.agg #[.string (strB p.1), .int .i64 p.2], v, .int .i64 k]) ∧ Rw w.heap.size w' 57 2 pairC v os ∧ Below w.heap.size w w') ∧
    (∀ W : World, Calls Tryz.prog 9 #[.string (strB l)] W fun e w' => ∃ v, e = .returned (.tuple #[.agg #[.string (strB p.1), .int .i64 p.2], v, .int .i64 k]) ∧ Rw W.heap.size w' 57 2 pairC v os ∧ Below W.heap.size W w') := by
  by_cases h : l.length ≤ 262144
  · exact ⟨(fileP l).1, (fileP l).2, 0, build_any w l hT h, fun W => rbuild_any W l h⟩
  · exact ⟨([], 0), [], 100, (build_long w l (by omega)).mono fun e w' h => ⟨_, h.1, World.ownsRow_nil _ _ _ _, h.2⟩, fun W => (rbuild_long W l (by omega)).mono fun e w' h => ⟨_, h.1, World.ownsRow_nil _ _ _ _, h.2⟩⟩
set_option maxRecDepth 40000 in
set_option maxHeartbeats 1600000 in
theorem builds_any (w : World) (l : Bs) (hl : l.length ≤ 140737488351232) (hT : TabW w) :
    Calls Tryz.prog 3 #[.string (strB l)] w fun e w' => e = .returned (.bool true) ∧ Below w.heap.size w w' := by
  have hsh := shown_any w hT
  have hcu := fun W => cut_any W l hl
  generalize l.take 262145 = d at *
  clear hl
  go_enter Tryz.func3, Tryz.ntmps3
  go_wp2_with fail
  refine hsh.mono ?_
  rintro e w1 ⟨rfl, hb1⟩
  clear hsh
  go_wp2_with fail
  refine (hcu w1).mono ?_
  rintro e w1' ⟨rfl, he⟩
  subst he
  clear hcu
  obtain ⟨p, os, k, hp, hr⟩ := both_build w1' d (hT.keep hb1 hT.1)
  go_wp2_with fail
  refine hp.mono ?_
  rintro e w2 ⟨v, rfl, hrow, hb2⟩
  have hB2 := hb1.trans (hb2.mono hb1.size)
  have hb3 : Below w2.heap.size w2 (w2.alloc (.cells #[.string (strB p.1), .int .i64 p.2] 25)) := (Below.refl _ _).alloc (Nat.le_refl _) _
  have hx3 := heap_last w2 (.cells #[.string (strB p.1), .int .i64 p.2] 25) _ rfl
  have hB3 := hB2.trans (hb3.mono hB2.size)
  have hrow3 := own_below hrow hb3
  generalize hw3 : w2.alloc (.cells #[.string (strB p.1), .int .i64 p.2] 25) = w3 at *
  have hr3 := hr w3
  obtain ⟨va, vm, vc, rfl⟩ := row_form hrow
  have H3 := hide (And.intro hB3 (And.intro hx3 hrow3))
  clear hp hr hrow hb1 hb2 hB2 hb3 hx3 hB3 hrow3 hT
  go_wp2_with fail
  try rw [hw3]
  refine hr3.mono ?_
  rintro e w4 ⟨u, rfl, hrow4, hb4⟩
  have hb5 : Below w4.heap.size w4 (w4.alloc (.cells #[.string (strB p.1), .int .i64 p.2] 25)) := (Below.refl _ _).alloc (Nat.le_refl _) _
  have hy5 := heap_last w4 (.cells #[.string (strB p.1), .int .i64 p.2] 25) _ rfl
  have hx5 := (hb5.block _ (by have := hb4.size; have := lt_of_heap H3.out.2.1; omega)).trans ((hb4.block _ (lt_of_heap H3.out.2.1)).trans H3.out.2.1)
  have hB4 := H3.out.1.trans (hb4.mono H3.out.1.size)
  have hB5 := hB4.trans (hb5.mono hB4.size)
  have hl5 := ls_of_own pairC_length (own_below (own_below H3.out.2.2 hb4) hb5)
  have hm5 := ls_of_own pairC_length (own_below hrow4 hb5)
  obtain ⟨ua, um, uc, rfl⟩ := row_form hrow4
  generalize hw5 : w4.alloc (.cells #[.string (strB p.1), .int .i64 p.2] 25) = w5 at *
  have hsm := same_objs w5 os os _ _ (hl5.up (Nat.le_refl _)) (hm5.up (Nat.le_refl _))
  rw [decide_eq_true (rfl : os = os)] at hsm
  have x0 := cell_of_row w5 w2.heap.size 0 _ _ _ hx5
  have x1 := cell_of_row w5 w2.heap.size 1 _ _ _ hx5
  have y0 := cell_of_row w5 w4.heap.size 0 _ _ _ hy5
  have y1 := cell_of_row w5 w4.heap.size 1 _ _ _ hy5
  simp only [List.getElem?_toArray, List.getElem?_cons_zero, List.getElem?_cons_succ] at x0 x1 y0 y1
  have heq := fun W => eqlPart W p p
  rw [same1_true (rfl : p = p)] at heq
  have H5 := hide hB5
  clear hr3 hrow4 hb4 hb5 hx5 hy5 hB4 hB5 hl5 hm5
  go_wp2_with fail
  try rw [hw5]
  refine hsm.mono ?_
  rintro e w6 ⟨rfl, hb6⟩
  have H6 := hide (H5.out.trans (hb6.mono H5.out.size))
  clear hsm hb6
  go_wp2
  go_ret
  exact ⟨rfl, H6.out⟩
theorem builds_bytes (w : World) (s : ByteArray) (hs : s.size ≤ 140737488351232) (hT : TabW w) :
    Calls Tryz.prog 3 #[.string s] w fun e w' => e = .returned (.bool true) ∧ Below w.heap.size w w' := by
  have := builds_any w s.data.toList (by simp; omega) hT
  rw [strB_of] at this
  exact this
end Go.Proofs.YtljhnakjkocanaaGreatDoor
