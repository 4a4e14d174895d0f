/-
  ObjectCommits, walked: commits, made and read, by the program and by the reference. Conditions: lengths within reach; what came in lies there; the table holds its numbers.
-/
import Derived.Test.YtdbmngbinhemeabDoorCORCommit2
import Derived.Test.YtdbmngbinhemeabDoorCJSame
import Derived.Test.YtdbmngbinhemeabDoorCOShown
namespace Go.Proofs.YtdbmngbinhemeabDoor
open Go.RowKit

theorem commitSaid_form (b : Bs) : ∃ (c : Commit) (k : Int), ∀ B e w', commitSaid B b e w' → ∃ v, e = .returned (.tuple #[.agg #[.string (strB c.1), v, .string (strB c.2.2.1), .int .i64 c.2.2.2.1, .string (strB c.2.2.2.2)], .int .i64 k]) ∧ Ls w'.heap.size w' 1 idC v c.2.1 := by
  unfold commitSaid
  cases takenCommit b with
  | none => exact ⟨([], [], [], 0, []), 81, fun B e w' he => ⟨_, he, Ls.nil _ _ _ _⟩⟩
  | some f => exact ⟨f, 0, fun B e w' ⟨v, he, ho⟩ => ⟨v, he, ls_of_own idC_length ho⟩⟩
set_option maxRecDepth 20000 in
set_option maxHeartbeats 3200000 in
theorem commits_any (w : World) (c : Commit) (u : Value) (bs : ByteArray) (hb : bs.size ≤ 140737488351232) (hu : Ls w.heap.size w 1 idC u c.2.1) (h64 : In64 c.2.2.2.1) (hsz : c.1.length ≤ 1048576 ∧ c.2.2.1.length ≤ 1048576 ∧ c.2.2.2.2.length ≤ 1048576) (hT : TabW w) :
    Calls Tryd.prog 5 #[.agg #[.string (strB c.1), u, .string (strB c.2.2.1), .int .i64 c.2.2.2.1, .string (strB c.2.2.2.2)], .string bs] w fun e w' => e = .returned (.bool true) ∧ Below w.heap.size w w' := by
  obtain ⟨b, rfl⟩ : ∃ l, bs = strB l := ⟨_, (strB_of bs).symm⟩
  rw [strB_size] at hb
  obtain ⟨x1, y1, k1, hm1⟩ := made_form (commitOk c) (75 :: commitB c)
  obtain ⟨d, k3, hm3⟩ := commitSaid_form b
  have h0 := hT.1
  have hL1 := fun W v h1 h2 => commit_any W c v h1 h2
  have hL2 := fun W v h => rcommit_any W c v h h64 hsz
  have hK1 := fun W => takeCommit_any W b (by omega)
  have hK2 := fun W => rtakeCommit_any W b hb
  rw [hm1] at hL1 hL2
  have HM := hide hm3
  have hq1 : ∀ W, (binOp .eql 27 (.agg #[.string (strB x1), .string (strB y1)]) (.agg #[.string (strB x1), .string (strB y1)])).run Tryd.prog W = .ok (.bool true) W := fun W => by rw [eql_Obj]; simp
  clear hm1 hm3
  have hbx : Below w.heap.size w (w.alloc (.cells #[.string (strB c.1), u, .string (strB c.2.2.1), .int .i64 c.2.2.2.1, .string (strB c.2.2.2.2)] 54)) := (Below.refl _ _).alloc (Nat.le_refl _) _
  have zP := heap_last w (.cells #[.string (strB c.1), u, .string (strB c.2.2.1), .int .i64 c.2.2.2.1, .string (strB c.2.2.2.2)] 54) _ rfl
  generalize hw0 : w.alloc (.cells #[.string (strB c.1), u, .string (strB c.2.2.1), .int .i64 c.2.2.2.1, .string (strB c.2.2.2.2)] 54) = w0 at *
  have HU := hide hu
  have HT := hide hT
  obtain ⟨pa, pc, rfl, -⟩ := hu
  clear hT
  have B := hbx
  go_enter Tryd.func5, Tryd.ntmps5
  go_wp2_with fail
  try rw [hw0]
  clear hw0
  refine (shown_any w0 (HT.out.keep hbx h0)).mono ?_
  rintro e w1 ⟨rfl, hb1⟩
  replace zP := (hb1.block _ (lt_of_heap zP)).trans zP
  replace B := B.trans (hb1.mono B.size)
  have l0 := rc (i := 0) zP rfl
  have l1 := rc (i := 1) zP rfl
  have l2 := rc (i := 2) zP rfl
  have l3 := rc (i := 3) zP rfl
  have l4 := rc (i := 4) zP rfl
  go_wp2_with fail
  refine (hL1 w1 _ ((HU.out.keep B).up B.size) (HT.out.keep B h0)).mono ?_
  rintro e w2 ⟨rfl, hb2⟩
  replace zP := (hb2.block _ (lt_of_heap zP)).trans zP
  replace B := B.trans (hb2.mono B.size)
  clear l0 l1 l2 l3 l4
  have ha2 : Below w2.heap.size w2 (w2.alloc (.cells #[.string (strB x1), .string (strB y1)] 27)) := (Below.refl _ _).alloc (Nat.le_refl _) _
  replace zP := (ha2.block _ (lt_of_heap zP)).trans zP
  replace B := B.trans (ha2.mono B.size)
  have zA := heap_last w2 (.cells #[.string (strB x1), .string (strB y1)] 27) _ rfl
  have l0 := rc (i := 0) zP rfl
  have l1 := rc (i := 1) zP rfl
  have l2 := rc (i := 2) zP rfl
  have l3 := rc (i := 3) zP rfl
  have l4 := rc (i := 4) zP rfl
  go_wp2_with fail
  generalize hv2 : w2.alloc (.cells #[.string (strB x1), .string (strB y1)] 27) = v2 at *
  generalize hn2 : w2.heap.size = pA at *
  clear hv2 hn2
  refine (hL2 v2 _ ((HU.out.keep B).up B.size)).mono ?_
  rintro e w3 ⟨rfl, hb3⟩
  replace zP := (hb3.block _ (lt_of_heap zP)).trans zP
  replace zA := (hb3.block _ (lt_of_heap zA)).trans zA
  replace B := B.trans (hb3.mono B.size)
  clear l0 l1 l2 l3 l4
  have ha3 : Below w3.heap.size w3 (w3.alloc (.cells #[.string (strB x1), .string (strB y1)] 27)) := (Below.refl _ _).alloc (Nat.le_refl _) _
  replace zP := (ha3.block _ (lt_of_heap zP)).trans zP
  replace zA := (ha3.block _ (lt_of_heap zA)).trans zA
  replace B := B.trans (ha3.mono B.size)
  have zB := heap_last w3 (.cells #[.string (strB x1), .string (strB y1)] 27) _ rfl
  go_wp2_with fail
  generalize hv3 : w3.alloc (.cells #[.string (strB x1), .string (strB y1)] 27) = v3 at *
  generalize hn3 : w3.heap.size = pB at *
  clear hv3 hn3
  refine (hK1 v3).mono ?_
  rintro e w4 ⟨he, hb4⟩
  replace zP := (hb4.block _ (lt_of_heap zP)).trans zP
  replace zA := (hb4.block _ (lt_of_heap zA)).trans zA
  replace zB := (hb4.block _ (lt_of_heap zB)).trans zB
  replace B := B.trans (hb4.mono B.size)
  obtain ⟨u4, rfl, ls4⟩ := HM.out _ _ _ he
  have H4 := hide ls4
  obtain ⟨a4, c4, rfl, -⟩ := ls4
  have ha4 : Below w4.heap.size w4 (w4.alloc (.cells #[.string (strB d.1), .slice a4 d.2.1.length c4, .string (strB d.2.2.1), .int .i64 d.2.2.2.1, .string (strB d.2.2.2.2)] 54)) := (Below.refl _ _).alloc (Nat.le_refl _) _
  replace zP := (ha4.block _ (lt_of_heap zP)).trans zP
  replace zA := (ha4.block _ (lt_of_heap zA)).trans zA
  replace zB := (ha4.block _ (lt_of_heap zB)).trans zB
  replace B := B.trans (ha4.mono B.size)
  replace H4 := hide (H4.out.past ha4)
  have zE := heap_last w4 (.cells #[.string (strB d.1), .slice a4 d.2.1.length c4, .string (strB d.2.2.1), .int .i64 d.2.2.2.1, .string (strB d.2.2.2.2)] 54) _ rfl
  clear he
  go_wp2_with fail
  generalize hv4 : w4.alloc (.cells #[.string (strB d.1), .slice a4 d.2.1.length c4, .string (strB d.2.2.1), .int .i64 d.2.2.2.1, .string (strB d.2.2.2.2)] 54) = v4 at *
  generalize hn4 : w4.heap.size = pE at *
  clear hv4 hn4
  refine (hK2 v4).mono ?_
  rintro e w5 ⟨he, hb5⟩
  replace zP := (hb5.block _ (lt_of_heap zP)).trans zP
  replace zA := (hb5.block _ (lt_of_heap zA)).trans zA
  replace zB := (hb5.block _ (lt_of_heap zB)).trans zB
  replace zE := (hb5.block _ (lt_of_heap zE)).trans zE
  replace B := B.trans (hb5.mono B.size)
  replace H4 := hide (H4.out.past hb5)
  obtain ⟨u5, rfl, ls5⟩ := HM.out _ _ _ he
  have H5 := hide ls5
  obtain ⟨a5, c5, rfl, -⟩ := ls5
  have ha5 : Below w5.heap.size w5 (w5.alloc (.cells #[.string (strB d.1), .slice a5 d.2.1.length c5, .string (strB d.2.2.1), .int .i64 d.2.2.2.1, .string (strB d.2.2.2.2)] 54)) := (Below.refl _ _).alloc (Nat.le_refl _) _
  replace zP := (ha5.block _ (lt_of_heap zP)).trans zP
  replace zA := (ha5.block _ (lt_of_heap zA)).trans zA
  replace zB := (ha5.block _ (lt_of_heap zB)).trans zB
  replace zE := (ha5.block _ (lt_of_heap zE)).trans zE
  replace B := B.trans (ha5.mono B.size)
  replace H4 := hide (H4.out.past ha5)
  replace H5 := hide (H5.out.past ha5)
  have zG := heap_last w5 (.cells #[.string (strB d.1), .slice a5 d.2.1.length c5, .string (strB d.2.2.1), .int .i64 d.2.2.2.1, .string (strB d.2.2.2.2)] 54) _ rfl
  have cA0 := rc (i := 0) zA rfl
  have cA1 := rc (i := 1) zA rfl
  have cB0 := rc (i := 0) zB rfl
  have cB1 := rc (i := 1) zB rfl
  have cE0 := rc (i := 0) zE rfl
  have cE1 := rc (i := 1) zE rfl
  have cE2 := rc (i := 2) zE rfl
  have cE3 := rc (i := 3) zE rfl
  have cE4 := rc (i := 4) zE rfl
  have cG0 := rc (i := 0) zG rfl
  have cG1 := rc (i := 1) zG rfl
  have cG2 := rc (i := 2) zG rfl
  have cG3 := rc (i := 3) zG rfl
  have cG4 := rc (i := 4) zG rfl
  clear he
  go_wp2_with fail
  refine (sameCommit_any _ d d _ _ H4.out H5.out).mono ?_
  rintro e wz ⟨rfl, hbz⟩
  rw [decide_eq_true rfl]
  have B := B.trans (hbz.mono B.size)
  go_wp2
  go_ret
  exact ⟨rfl, B⟩
end Go.Proofs.YtdbmngbinhemeabDoor
