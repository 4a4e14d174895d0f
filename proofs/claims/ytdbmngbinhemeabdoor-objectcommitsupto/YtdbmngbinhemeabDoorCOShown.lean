/-
  What bytes say, told plainly; what the statements show first. Condition: the table holds its numbers.
-/
import Derived.Test.YtdbmngbinhemeabDoorCOTop3
namespace Go.Proofs.YtdbmngbinhemeabDoor
open Go.RowKit

theorem takenLeaf_iff (b : Bs) (hb : b.length ≤ 140737488355328) (f : List Pair) : takenLeaf b = some f ↔ leafOk ltB f = true ∧ b = 76 :: leafB f :=
  taken_iff (enc := leafB) rfl (fun l hl x => leaf_iff ltB l (by omega) x) f
theorem takenFan_iff (b : Bs) (f : Fan) : takenFan b = some f ↔ fanOk f = true ∧ b = 70 :: fanB f :=
  taken_iff (enc := fanB) rfl (fun l _ x => fan_iff l x) f
theorem takenBranch_iff (b : Bs) (hb : b.length ≤ 140737488355328) (f : Branch) : takenBranch b = some f ↔ branchOk ltB f = true ∧ b = 66 :: branchB f :=
  taken_iff (enc := branchB) rfl (fun l hl x => branch_iff ltB l (by omega) x) f
theorem out_length (s : St) : (out s).length = 32 := rfl
theorem sha_length (l : List UInt8) : (sha l).length = 32 := out_length _
theorem ls_pair (w : World) (x : Pair) (n : Nat) (hn : n = w.heap.size) : Ls (w.alloc (.cells #[.string (strB x.1), .string (strB x.2)] 68)).heap.size (w.alloc (.cells #[.string (strB x.1), .string (strB x.2)] 68)) 2 pairC (.slice (some ⟨n, 0, none⟩) 1 1) [x] := by
  subst hn
  refine ⟨_, 1, rfl, Nat.le_refl _, by unfold maxLen; omega, fun _ => ⟨w.heap.size, 0, rfl, by simp, fun j hj i u hu => ?_⟩⟩
  obtain rfl : j = 0 := by simpa using hj
  rw [cell_of_row _ _ _ _ _ _ (heap_last w _ _ rfl)]
  simp only [Nat.zero_mul, Nat.zero_add, List.getElem?_toArray]
  exact hu
theorem leaf_kv : leafOk ltB [([107], [118])] = true ∧ 76 :: leafB [([107], [118])] = [76, 2, 2, 107, 2, 118] := by decide +kernel
theorem taken_kv : takenLeaf [76, 2, 2, 107, 2, 118] = some [([107], [118])] := (takenLeaf_iff _ (by simp) _).2 ⟨leaf_kv.1, leaf_kv.2.symm⟩
set_option maxRecDepth 20000 in
set_option maxHeartbeats 800000 in
theorem shown_any (w : World) (hT : TabW w) : Calls Tryd.prog 8 #[] w fun e w' => e = .returned (.bool true) ∧ Below w.heap.size w w' := by
  have h0 := hT.1
  have hls := ls_pair w ([107], [118]) _ rfl
  have hbA : Below w.heap.size w (w.alloc (.cells #[.string (strB [107]), .string (strB [118])] 68)) := (Below.refl _ _).alloc (Nat.le_refl _) _
  have hlf := leaf_any _ [([107], [118])] _ hls (hT.keep hbA h0)
  rw [leaf_kv.1, leaf_kv.2, show made true [76, 2, 2, 107, 2, 118] = .tuple #[objV [76, 2, 2, 107, 2, 118], .int .i64 0] from rfl, objV_def] at hlf
  have hsl := sha_length [76, 2, 2, 107, 2, 118]
  generalize sha [76, 2, 2, 107, 2, 118] = S at *
  have hSs := strB_size S
  rw [hsl] at hSs
  have htl : ∀ W : World, Calls Tryd.prog 22 #[.string (strB [76, 2, 2, 107, 2, 118])] W fun e w' => (∃ v, e = .returned (.tuple #[v, .int .i64 0]) ∧ w'.ownsRow W.heap.size 68 2 v 1 [.string (strB [107]), .string (strB [118])]) ∧ Below W.heap.size W w' := fun W => by
    have := takeLeaf_any W [76, 2, 2, 107, 2, 118] (by simp)
    unfold LeafSaid at this
    rw [taken_kv] at this
    exact this
  generalize hwA : w.alloc (.cells #[.string (strB [107]), .string (strB [118])] 68) = wA at *
  clear hls hT
  go_enter Tryd.func8, Tryd.ntmps8
  go_wp2_with fail
  try rw [show (w.alloc (.cells #[.string ⟨#[107]⟩, .string ⟨#[118]⟩] 68)) = wA from hwA]
  refine hlf.mono ?_
  rintro e w1 ⟨rfl, hb1⟩
  have hbB := hbA.trans (hb1.mono hbA.size)
  have hbC := hbB.alloc hbB.size (.cells #[.string (strB S), .string (strB [76, 2, 2, 107, 2, 118])] 27)
  have hx1 := heap_last w1 (.cells #[.string (strB S), .string (strB [76, 2, 2, 107, 2, 118])] 27) _ rfl
  have hsz1 := hbB.size
  clear hlf hb1
  go_wp2_with fail
  refine (htl _).mono ?_
  rintro e w2 ⟨⟨v, rfl, hown⟩, hb2⟩
  have hx2 := (hb2.block _ (by simp)).trans hx1
  have c0 := cell_of_row w2 w1.heap.size 0 _ _ _ hx2
  have c1 := cell_of_row w2 w1.heap.size 1 _ _ _ hx2
  simp only [List.getElem?_toArray, List.getElem?_cons_zero, List.getElem?_cons_succ] at c0 c1
  have hbD := hbC.trans (hb2.mono hbC.size)
  obtain ⟨gv, cap, rfl⟩ : ∃ gv cap, v = .slice (some ⟨gv, 0, none⟩) 1 cap := by
    rcases hown.2 with ⟨rfl, h⟩ | ⟨g, cap, cur, rfl, _⟩
    · cases h
    · exact ⟨_, _, rfl⟩
  have d1 := hown.cellAt 1 (by omega)
  simp only [List.getElem?_cons_zero, List.getElem?_cons_succ] at d1
  have e1 : (strB [76, 2, 2, 107, 2, 118]).toList = [76, 2, 2, 107, 2, 118] := toL _
  have e2 : (strB [118]).toList = [118] := toL _
  have HD := hide hbD
  clear hown hb2 hx1 hx2 htl hbD hbC hbB
  go_wp2
  go_ret
  exact ⟨ret_bool (by first | rfl | simp), HD.out⟩
end Go.Proofs.YtdbmngbinhemeabDoor
