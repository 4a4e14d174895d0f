/-
  ObjectMaps, walked: leaves and branches, made and read, by the program and by the reference. Conditions: lengths within reach; what came in lies there; the table holds its numbers.
-/
import Derived.Test.YtdbmngbinhemeabDoorMJMake
import Derived.Test.YtdbmngbinhemeabDoorMJSame
import Derived.Test.YtdbmngbinhemeabDoorMOShown
namespace Go.Proofs.YtdbmngbinhemeabDoor
open Go.RowKit

theorem leafSaid_form (b : Bs) : ∃ (xs : List Pair) (k : Int), ∀ B e w', LeafSaid B b e w' → ∃ v, e = .returned (.tuple #[v, .int .i64 k]) ∧ Ls w'.heap.size w' 2 pairC v xs := by
  unfold LeafSaid
  cases takenLeaf b with
  | none => exact ⟨[], 81, fun B e w' he => ⟨_, he, Ls.nil _ _ _ _⟩⟩
  | some f => exact ⟨f, 0, fun B e w' ⟨v, he, ho⟩ => ⟨v, he, ls_of_own pairC_length ho⟩⟩
theorem branchSaid_form (b : Bs) : ∃ (n : Int) (xs : List Link) (k : Int), ∀ B e w', branchSaid B b e w' → ∃ v, e = .returned (.tuple #[.agg #[.int .i64 n, v], .int .i64 k]) ∧ Ls w'.heap.size w' 3 linkC v xs := by
  unfold branchSaid
  cases takenBranch b with
  | none => exact ⟨0, [], 81, fun B e w' he => ⟨_, he, Ls.nil _ _ _ _⟩⟩
  | some f => exact ⟨f.1, f.2, 0, fun B e w' ⟨v, he, ho⟩ => ⟨v, he, ls_of_own linkC_length ho⟩⟩
set_option maxRecDepth 20000 in
set_option maxHeartbeats 3200000 in
theorem maps_any (w : World) (ps : List Pair) (vp : Value) (f : Branch) (u : Value) (bs : ByteArray) (hb : bs.size ≤ 140737488351232) (hp : Ls w.heap.size w 2 pairC vp ps) (hu : Ls w.heap.size w 3 linkC u f.2) (h64 : In64 f.1) (hT : TabW w) :
    Calls Tryd.prog 4 #[vp, .agg #[.int .i64 f.1, u], .string bs] w fun e w' => e = .returned (.bool true) ∧ Below w.heap.size w w' := by
  obtain ⟨b, rfl⟩ : ∃ l, bs = strB l := ⟨_, (strB_of bs).symm⟩
  rw [strB_size] at hb
  obtain ⟨x1, y1, k1, hm1⟩ := made_form (leafOk ltB ps) (76 :: leafB ps)
  obtain ⟨x2, y2, k2, hm2⟩ := made_form (branchOk ltB f) (66 :: branchB f)
  obtain ⟨xs3, k3, hm3⟩ := leafSaid_form b
  obtain ⟨n4, xs4, k4, hm4⟩ := branchSaid_form b
  have h0 := hT.1
  have hL1 := fun W v h1 h2 => leaf_any W ps v h1 h2
  have hL2 := fun W v h => rleaf_any W ps v h
  have hF1 := fun W v h1 h2 => branch_any W f v h1 h2
  have hF2 := fun W v h => rbranch_any W f v h h64
  have hK1 := fun W => takeLeaf_any W b (by omega)
  have hK2 := fun W => rtakeLeaf_any W b hb
  have hT1 := fun W => takeBranch_any W b (by omega)
  have hT2 := fun W => rtakeBranch_any W b hb
  rw [hm1] at hL1 hL2
  rw [hm2] at hF1 hF2
  have HL := hide hm3
  have HM := hide hm4
  have hq1 : ∀ W, (binOp .eql 27 (.agg #[.string (strB x1), .string (strB y1)]) (.agg #[.string (strB x1), .string (strB y1)])).run Tryd.prog W = .ok (.bool true) W := fun W => by rw [eql_Obj]; simp
  have hq2 : ∀ W, (binOp .eql 27 (.agg #[.string (strB x2), .string (strB y2)]) (.agg #[.string (strB x2), .string (strB y2)])).run Tryd.prog W = .ok (.bool true) W := fun W => by rw [eql_Obj]; simp
  clear hm1 hm2 hm3 hm4
  have hbx : Below w.heap.size w (w.alloc (.cells #[.int .i64 f.1, u] 41)) := (Below.refl _ _).alloc (Nat.le_refl _) _
  have zP := heap_last w (.cells #[.int .i64 f.1, u] 41) _ rfl
  generalize hw0 : w.alloc (.cells #[.int .i64 f.1, u] 41) = w0 at *
  have HU := hide hu
  have HP := hide hp
  have HT := hide hT
  obtain ⟨pa, pc, rfl, -⟩ := hp
  clear hu hT
  have B := hbx
  go_enter Tryd.func4, Tryd.ntmps4
  go_wp2_with fail
  try rw [hw0]
  clear hw0
  refine (shown_any w0 (HT.out.keep hbx h0)).mono ?_
  rintro e w1 ⟨rfl, hb1⟩
  replace zP := (hb1.block _ (lt_of_heap zP)).trans zP
  replace B := B.trans (hb1.mono B.size)
  go_wp2_with fail
  refine (hL1 w1 _ ((HP.out.keep B).up B.size) (HT.out.keep B h0)).mono ?_
  rintro e w2 ⟨rfl, hb2⟩
  replace zP := (hb2.block _ (lt_of_heap zP)).trans zP
  replace B := B.trans (hb2.mono B.size)
  have ha2 : Below w2.heap.size w2 (w2.alloc (.cells #[.string (strB x1), .string (strB y1)] 27)) := (Below.refl _ _).alloc (Nat.le_refl _) _
  replace zP := (ha2.block _ (lt_of_heap zP)).trans zP
  replace B := B.trans (ha2.mono B.size)
  have zA := heap_last w2 (.cells #[.string (strB x1), .string (strB y1)] 27) _ rfl
  go_wp2_with fail
  generalize hv2 : w2.alloc (.cells #[.string (strB x1), .string (strB y1)] 27) = v2 at *
  generalize hn2 : w2.heap.size = pA at *
  clear hv2 hn2
  refine (hL2 v2 _ ((HP.out.keep B).up B.size)).mono ?_
  rintro e w3 ⟨rfl, hb3⟩
  replace zP := (hb3.block _ (lt_of_heap zP)).trans zP
  replace zA := (hb3.block _ (lt_of_heap zA)).trans zA
  replace B := B.trans (hb3.mono B.size)
  have ha3 : Below w3.heap.size w3 (w3.alloc (.cells #[.string (strB x1), .string (strB y1)] 27)) := (Below.refl _ _).alloc (Nat.le_refl _) _
  replace zP := (ha3.block _ (lt_of_heap zP)).trans zP
  replace zA := (ha3.block _ (lt_of_heap zA)).trans zA
  replace B := B.trans (ha3.mono B.size)
  have zB := heap_last w3 (.cells #[.string (strB x1), .string (strB y1)] 27) _ rfl
  have l0 := rc (i := 0) zP rfl
  have l1 := rc (i := 1) zP rfl
  go_wp2_with fail
  generalize hv3 : w3.alloc (.cells #[.string (strB x1), .string (strB y1)] 27) = v3 at *
  generalize hn3 : w3.heap.size = pB at *
  clear hv3 hn3
  refine (hF1 v3 u ((HU.out.keep B).up B.size) (HT.out.keep B h0)).mono ?_
  rintro e w4 ⟨rfl, hb4⟩
  replace zP := (hb4.block _ (lt_of_heap zP)).trans zP
  replace zA := (hb4.block _ (lt_of_heap zA)).trans zA
  replace zB := (hb4.block _ (lt_of_heap zB)).trans zB
  replace B := B.trans (hb4.mono B.size)
  have ha4 : Below w4.heap.size w4 (w4.alloc (.cells #[.string (strB x2), .string (strB y2)] 27)) := (Below.refl _ _).alloc (Nat.le_refl _) _
  replace zP := (ha4.block _ (lt_of_heap zP)).trans zP
  replace zA := (ha4.block _ (lt_of_heap zA)).trans zA
  replace zB := (ha4.block _ (lt_of_heap zB)).trans zB
  replace B := B.trans (ha4.mono B.size)
  have zC := heap_last w4 (.cells #[.string (strB x2), .string (strB y2)] 27) _ rfl
  clear l0 l1
  have l0 := rc (i := 0) zP rfl
  have l1 := rc (i := 1) zP rfl
  go_wp2_with fail
  generalize hv4 : w4.alloc (.cells #[.string (strB x2), .string (strB y2)] 27) = v4 at *
  generalize hn4 : w4.heap.size = pC at *
  clear hv4 hn4
  refine (hF2 v4 u ((HU.out.keep B).up B.size)).mono ?_
  rintro e w5 ⟨rfl, hb5⟩
  replace zP := (hb5.block _ (lt_of_heap zP)).trans zP
  replace zA := (hb5.block _ (lt_of_heap zA)).trans zA
  replace zB := (hb5.block _ (lt_of_heap zB)).trans zB
  replace zC := (hb5.block _ (lt_of_heap zC)).trans zC
  replace B := B.trans (hb5.mono B.size)
  have ha5 : Below w5.heap.size w5 (w5.alloc (.cells #[.string (strB x2), .string (strB y2)] 27)) := (Below.refl _ _).alloc (Nat.le_refl _) _
  replace zP := (ha5.block _ (lt_of_heap zP)).trans zP
  replace zA := (ha5.block _ (lt_of_heap zA)).trans zA
  replace zB := (ha5.block _ (lt_of_heap zB)).trans zB
  replace zC := (ha5.block _ (lt_of_heap zC)).trans zC
  replace B := B.trans (ha5.mono B.size)
  have zD := heap_last w5 (.cells #[.string (strB x2), .string (strB y2)] 27) _ rfl
  clear l0 l1
  go_wp2_with fail
  generalize hv5 : w5.alloc (.cells #[.string (strB x2), .string (strB y2)] 27) = v5 at *
  generalize hn5 : w5.heap.size = pD at *
  clear hv5 hn5
  refine (hK1 v5).mono ?_
  rintro e w6 ⟨he, hb6⟩
  replace zP := (hb6.block _ (lt_of_heap zP)).trans zP
  replace zA := (hb6.block _ (lt_of_heap zA)).trans zA
  replace zB := (hb6.block _ (lt_of_heap zB)).trans zB
  replace zC := (hb6.block _ (lt_of_heap zC)).trans zC
  replace zD := (hb6.block _ (lt_of_heap zD)).trans zD
  replace B := B.trans (hb6.mono B.size)
  obtain ⟨u6, rfl, ls6⟩ := HL.out _ _ _ he
  have H6 := hide ls6
  obtain ⟨a6, c6, rfl, -⟩ := ls6
  clear he
  go_wp2_with fail
  refine (hK2 w6).mono ?_
  rintro e w7 ⟨he, hb7⟩
  replace zP := (hb7.block _ (lt_of_heap zP)).trans zP
  replace zA := (hb7.block _ (lt_of_heap zA)).trans zA
  replace zB := (hb7.block _ (lt_of_heap zB)).trans zB
  replace zC := (hb7.block _ (lt_of_heap zC)).trans zC
  replace zD := (hb7.block _ (lt_of_heap zD)).trans zD
  replace B := B.trans (hb7.mono B.size)
  replace H6 := hide (H6.out.past hb7)
  obtain ⟨u7, rfl, ls7⟩ := HL.out _ _ _ he
  have H7 := hide ls7
  obtain ⟨a7, c7, rfl, -⟩ := ls7
  clear he
  go_wp2_with fail
  refine (hT1 w7).mono ?_
  rintro e w8 ⟨he, hb8⟩
  replace zP := (hb8.block _ (lt_of_heap zP)).trans zP
  replace zA := (hb8.block _ (lt_of_heap zA)).trans zA
  replace zB := (hb8.block _ (lt_of_heap zB)).trans zB
  replace zC := (hb8.block _ (lt_of_heap zC)).trans zC
  replace zD := (hb8.block _ (lt_of_heap zD)).trans zD
  replace B := B.trans (hb8.mono B.size)
  replace H6 := hide (H6.out.past hb8)
  replace H7 := hide (H7.out.past hb8)
  obtain ⟨u8, rfl, ls8⟩ := HM.out _ _ _ he
  have H8 := hide ls8
  obtain ⟨a8, c8, rfl, -⟩ := ls8
  have ha8 : Below w8.heap.size w8 (w8.alloc (.cells #[.int .i64 n4, .slice a8 xs4.length c8] 41)) := (Below.refl _ _).alloc (Nat.le_refl _) _
  replace zP := (ha8.block _ (lt_of_heap zP)).trans zP
  replace zA := (ha8.block _ (lt_of_heap zA)).trans zA
  replace zB := (ha8.block _ (lt_of_heap zB)).trans zB
  replace zC := (ha8.block _ (lt_of_heap zC)).trans zC
  replace zD := (ha8.block _ (lt_of_heap zD)).trans zD
  replace B := B.trans (ha8.mono B.size)
  replace H6 := hide (H6.out.past ha8)
  replace H7 := hide (H7.out.past ha8)
  replace H8 := hide (H8.out.past ha8)
  have zE := heap_last w8 (.cells #[.int .i64 n4, .slice a8 xs4.length c8] 41) _ rfl
  clear he
  go_wp2_with fail
  generalize hv8 : w8.alloc (.cells #[.int .i64 n4, .slice a8 xs4.length c8] 41) = v8 at *
  generalize hn8 : w8.heap.size = pE at *
  clear hv8 hn8
  refine (hT2 v8).mono ?_
  rintro e w9 ⟨he, hb9⟩
  replace zP := (hb9.block _ (lt_of_heap zP)).trans zP
  replace zA := (hb9.block _ (lt_of_heap zA)).trans zA
  replace zB := (hb9.block _ (lt_of_heap zB)).trans zB
  replace zC := (hb9.block _ (lt_of_heap zC)).trans zC
  replace zD := (hb9.block _ (lt_of_heap zD)).trans zD
  replace zE := (hb9.block _ (lt_of_heap zE)).trans zE
  replace B := B.trans (hb9.mono B.size)
  replace H6 := hide (H6.out.past hb9)
  replace H7 := hide (H7.out.past hb9)
  replace H8 := hide (H8.out.past hb9)
  obtain ⟨u9, rfl, ls9⟩ := HM.out _ _ _ he
  have H9 := hide ls9
  obtain ⟨a9, c9, rfl, -⟩ := ls9
  have ha9 : Below w9.heap.size w9 (w9.alloc (.cells #[.int .i64 n4, .slice a9 xs4.length c9] 41)) := (Below.refl _ _).alloc (Nat.le_refl _) _
  replace zP := (ha9.block _ (lt_of_heap zP)).trans zP
  replace zA := (ha9.block _ (lt_of_heap zA)).trans zA
  replace zB := (ha9.block _ (lt_of_heap zB)).trans zB
  replace zC := (ha9.block _ (lt_of_heap zC)).trans zC
  replace zD := (ha9.block _ (lt_of_heap zD)).trans zD
  replace zE := (ha9.block _ (lt_of_heap zE)).trans zE
  replace B := B.trans (ha9.mono B.size)
  replace H6 := hide (H6.out.past ha9)
  replace H7 := hide (H7.out.past ha9)
  replace H8 := hide (H8.out.past ha9)
  replace H9 := hide (H9.out.past ha9)
  have zG := heap_last w9 (.cells #[.int .i64 n4, .slice a9 xs4.length c9] 41) _ rfl
  have cA0 := rc (i := 0) zA rfl
  have cA1 := rc (i := 1) zA rfl
  have cB0 := rc (i := 0) zB rfl
  have cB1 := rc (i := 1) zB rfl
  have cC0 := rc (i := 0) zC rfl
  have cC1 := rc (i := 1) zC rfl
  have cD0 := rc (i := 0) zD rfl
  have cD1 := rc (i := 1) zD rfl
  have cE0 := rc (i := 0) zE rfl
  have cE1 := rc (i := 1) zE rfl
  have cG0 := rc (i := 0) zG rfl
  have cG1 := rc (i := 1) zG rfl
  clear he
  go_wp2_with fail
  refine (sameLeaf_any _ xs3 xs3 _ _ H6.out H7.out).mono ?_
  rintro e wa ⟨rfl, hba⟩
  rw [decide_eq_true rfl]
  clear cA0 cA1 cB0 cB1 cC0 cC1 cD0 cD1 cE0 cE1 cG0 cG1
  replace zP := (hba.block _ (lt_of_heap zP)).trans zP
  replace zA := (hba.block _ (lt_of_heap zA)).trans zA
  replace zB := (hba.block _ (lt_of_heap zB)).trans zB
  replace zC := (hba.block _ (lt_of_heap zC)).trans zC
  replace zD := (hba.block _ (lt_of_heap zD)).trans zD
  replace zE := (hba.block _ (lt_of_heap zE)).trans zE
  replace zG := (hba.block _ (lt_of_heap zG)).trans zG
  replace B := B.trans (hba.mono B.size)
  replace H6 := hide (H6.out.past hba)
  replace H7 := hide (H7.out.past hba)
  replace H8 := hide (H8.out.past hba)
  replace H9 := hide (H9.out.past hba)
  have cA0 := rc (i := 0) zA rfl
  have cA1 := rc (i := 1) zA rfl
  have cB0 := rc (i := 0) zB rfl
  have cB1 := rc (i := 1) zB rfl
  have cC0 := rc (i := 0) zC rfl
  have cC1 := rc (i := 1) zC rfl
  have cD0 := rc (i := 0) zD rfl
  have cD1 := rc (i := 1) zD rfl
  have cE0 := rc (i := 0) zE rfl
  have cE1 := rc (i := 1) zE rfl
  have cG0 := rc (i := 0) zG rfl
  have cG1 := rc (i := 1) zG rfl
  go_wp2_with fail
  refine (sameBranch_any _ n4 n4 xs4 xs4 _ _ H8.out H9.out).mono ?_
  rintro e wz ⟨rfl, hbz⟩
  rw [decide_eq_true rfl]
  have B := B.trans (hbz.mono B.size)
  go_wp2
  go_ret
  exact ⟨rfl, B⟩
end Go.Proofs.YtdbmngbinhemeabDoor
