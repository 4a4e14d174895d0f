/-
  ObjectOne, walked: bytes are one object's at most, and what they say makes them again. Conditions: a text within reach; the table holds its numbers.
-/
import Derived.Test.YtmlfonmdiimdfabGreatDoorONames
namespace Go.Proofs.YtmlfonmdiimdfabGreatDoor
open Go.RowKit

theorem made_yes (b : Bs) : made true b = .tuple #[.agg #[.string (strB (sha b)), .string (strB b)], .int .i64 0] := rfl
theorem neqSelf (t : TypeId) (a : Bs) : binOp .neq t (.string (strB a)) (.string (strB a)) = pure (.bool false) := by simp [binOp, Op.stringOp]
theorem chunk_other {b : Bs} (h : ∀ l, b ≠ 67 :: l) : takenChunk b = none := by
  cases h' : takenChunk b with
  | none => rfl
  | some f => exact absurd ((takenChunk_iff _ f).1 h').2 (h _)
theorem fan_other {b : Bs} (h : ∀ l, b ≠ 70 :: l) : takenFan b = none := by
  cases h' : takenFan b with
  | none => rfl
  | some f => exact absurd ((takenFan_iff _ f).1 h').2 (h _)
theorem leaf_other {b : Bs} (hb : b.length ≤ 140737488355328) (h : ∀ l, b ≠ 76 :: l) : takenLeaf b = none := by
  cases h' : takenLeaf b with
  | none => rfl
  | some f => exact absurd ((takenLeaf_iff _ hb f).1 h').2 (h _)
theorem branch_other {b : Bs} (hb : b.length ≤ 140737488355328) (h : ∀ l, b ≠ 66 :: l) : takenBranch b = none := by
  cases h' : takenBranch b with
  | none => rfl
  | some f => exact absurd ((takenBranch_iff _ hb f).1 h').2 (h _)
theorem commit_other {b : Bs} (hb : b.length ≤ 140737488355328) (h : ∀ l, b ≠ 75 :: l) : takenCommit b = none := by
  cases h' : takenCommit b with
  | none => rfl
  | some f => exact absurd ((takenCommit_iff _ hb f).1 h').2 (h _)

set_option maxRecDepth 20000 in
set_option maxHeartbeats 3200000 in
theorem one_chunk (w : World) (b : Bs) (hb : b.length ≤ 140737488355328) (hT : TabW w) (f : Bs) (hS : takenChunk b = some f) :
    Calls Tryz.prog 3 #[.string (strB b)] w fun e w' => e = .returned (.bool true) ∧ Below w.heap.size w w' := by
  have h0 := hT.1
  have hnq := neqSelf 9 b
  obtain ⟨hok, hbe⟩ := (takenChunk_iff b f).1 hS
  have hfan := fan_other (b := b) (fun l e => by rw [hbe] at e; injection e with e; exact absurd e (by decide))
  have hleaf := leaf_other (b := b) hb (fun l e => by rw [hbe] at e; injection e with e; exact absurd e (by decide))
  have hbranch := branch_other (b := b) hb (fun l e => by rw [hbe] at e; injection e with e; exact absurd e (by decide))
  have hcommit := commit_other (b := b) hb (fun l e => by rw [hbe] at e; injection e with e; exact absurd e (by decide))
  have hobj : objB b = true := by rw [hbe] at hS ⊢; show (takenChunk _).isSome = true; rw [hS]; rfl
  have HBE := hide hbe
  clear hbe
  go_enter Tryz.func3, Tryz.ntmps3
  go_wp2_with fail
  refine (shown_any w hT).mono ?_
  rintro e w0 ⟨rfl, B0⟩
  have hK := takeChunk_any w0 b hb
  rw [hS] at hK
  simp only at hK
  go_wp2_with fail
  refine hK.mono ?_
  rintro e w1 ⟨rfl, b1⟩
  have B1 := B0.trans (b1.mono B0.size)
  clear hK b1 B0
  have hM := chunk_any w1 f (hT.keep B1 h0)
  rw [hok, made_yes, ← HBE.out] at hM
  generalize sha b = S at hM
  go_wp2_with fail
  refine hM.mono ?_
  rintro e m1 ⟨rfl, bm1⟩
  have Bm1 := B1.trans (bm1.mono B1.size)
  have qm1 : Below m1.heap.size m1 (m1.alloc (.cells #[.string (strB S), .string (strB b)] 27)) := (Below.refl _ _).alloc (Nat.le_refl _) _
  have Bn1 := Bm1.trans (qm1.mono Bm1.size)
  clear hM bm1
  have hK := takeFan_any (m1.alloc (.cells #[.string (strB S), .string (strB b)] 27)) b hb
  unfold fanSaid at hK
  rw [hfan] at hK
  simp only at hK
  go_wp2_with fail
  refine hK.mono ?_
  rintro e w2 ⟨rfl, b2⟩
  have B2 := Bn1.trans (b2.mono Bn1.size)
  clear hK b2 Bn1
  have q2 : Below w2.heap.size w2 (w2.alloc (.cells #[.int .i64 0, .slice none 0 0] 32)) := (Below.refl _ _).alloc (Nat.le_refl _) _
  have Ba2 := B2.trans (q2.mono B2.size)
  have hK := takeLeaf_any (w2.alloc (.cells #[.int .i64 0, .slice none 0 0] 32)) b hb
  unfold LeafSaid at hK
  rw [hleaf] at hK
  simp only at hK
  go_wp2_with fail
  refine hK.mono ?_
  rintro e w3 ⟨rfl, b3⟩
  have B3 := Ba2.trans (b3.mono Ba2.size)
  clear hK b3 Ba2
  have hK := takeBranch_any w3 b hb
  unfold branchSaid at hK
  rw [hbranch] at hK
  simp only at hK
  go_wp2_with fail
  refine hK.mono ?_
  rintro e w4 ⟨rfl, b4⟩
  have B4 := B3.trans (b4.mono B3.size)
  clear hK b4 B3
  have q4 : Below w4.heap.size w4 (w4.alloc (.cells #[.int .i64 0, .slice none 0 0] 42)) := (Below.refl _ _).alloc (Nat.le_refl _) _
  have Ba4 := B4.trans (q4.mono B4.size)
  have hK := takeCommit_any (w4.alloc (.cells #[.int .i64 0, .slice none 0 0] 42)) b hb
  unfold commitSaid at hK
  rw [hcommit] at hK
  simp only at hK
  go_wp2_with fail
  refine hK.mono ?_
  rintro e w5 ⟨rfl, b5⟩
  have B5 := Ba4.trans (b5.mono Ba4.size)
  clear hK b5 Ba4
  have q5 : Below w5.heap.size w5 (w5.alloc (.cells #[.string ⟨#[]⟩, .slice none 0 0, .string ⟨#[]⟩, .int .i64 0, .string ⟨#[]⟩] 48)) := (Below.refl _ _).alloc (Nat.le_refl _) _
  have Ba5 := B5.trans (q5.mono B5.size)
  have hR := refs_any (w5.alloc (.cells #[.string ⟨#[]⟩, .slice none 0 0, .string ⟨#[]⟩, .int .i64 0, .string ⟨#[]⟩] 48)) b hb
  rw [hobj] at hR
  simp only [if_true] at hR
  go_wp2_with fail
  refine hR.mono ?_
  rintro e wR ⟨⟨vR, rfl⟩, bR⟩
  have BR := Ba5.trans (bR.mono Ba5.size)
  clear hR bR
  go_wp2
  go_ret
  exact ⟨ret_bool (by first | rfl | simp), BR⟩

set_option maxRecDepth 20000 in
set_option maxHeartbeats 3200000 in
theorem one_fan (w : World) (b : Bs) (hb : b.length ≤ 140737488355328) (hT : TabW w) (f : Fan) (hS : takenFan b = some f) :
    Calls Tryz.prog 3 #[.string (strB b)] w fun e w' => e = .returned (.bool true) ∧ Below w.heap.size w w' := by
  have h0 := hT.1
  have hnq := neqSelf 9 b
  obtain ⟨hok, hbe⟩ := (takenFan_iff b f).1 hS
  have hchunk := chunk_other (b := b) (fun l e => by rw [hbe] at e; injection e with e; exact absurd e (by decide))
  have hleaf := leaf_other (b := b) hb (fun l e => by rw [hbe] at e; injection e with e; exact absurd e (by decide))
  have hbranch := branch_other (b := b) hb (fun l e => by rw [hbe] at e; injection e with e; exact absurd e (by decide))
  have hcommit := commit_other (b := b) hb (fun l e => by rw [hbe] at e; injection e with e; exact absurd e (by decide))
  have hobj : objB b = true := by rw [hbe] at hS ⊢; show (takenFan _).isSome = true; rw [hS]; rfl
  have HBE := hide hbe
  clear hbe
  go_enter Tryz.func3, Tryz.ntmps3
  go_wp2_with fail
  refine (shown_any w hT).mono ?_
  rintro e w0 ⟨rfl, B0⟩
  have hK := takeChunk_any w0 b hb
  rw [hchunk] at hK
  simp only at hK
  go_wp2_with fail
  refine hK.mono ?_
  rintro e w1 ⟨rfl, b1⟩
  have B1 := B0.trans (b1.mono B0.size)
  clear hK b1 B0
  have hK := takeFan_any w1 b hb
  unfold fanSaid at hK
  rw [hS] at hK
  simp only at hK
  go_wp2_with fail
  refine hK.mono ?_
  rintro e w2 ⟨⟨v2, rfl, own2⟩, b2⟩
  obtain ⟨ag, cg, rfl, -⟩ := own_form own2
  have lv := ls_of_own partC_length own2
  have B2 := B1.trans (b2.mono B1.size)
  clear hK b2 B1
  have q2 : Below w2.heap.size w2 (w2.alloc (.cells #[.int .i64 f.1, .slice ag f.2.length cg] 32)) := (Below.refl _ _).alloc (Nat.le_refl _) _
  have Ba2 := B2.trans (q2.mono B2.size)
  have lw := lv.past q2
  have hM := fan_any (w2.alloc (.cells #[.int .i64 f.1, .slice ag f.2.length cg] 32)) f _ lw (hT.keep Ba2 h0)
  rw [hok, made_yes, ← HBE.out] at hM
  generalize sha b = S at hM
  have zz := heap_last w2 (.cells #[.int .i64 f.1, .slice ag f.2.length cg] 32) _ rfl
  have zc0 := rc (i := 0) zz rfl
  have zc1 := rc (i := 1) zz rfl
  go_wp2_with fail
  refine hM.mono ?_
  rintro e m2 ⟨rfl, bm2⟩
  have Bm2 := Ba2.trans (bm2.mono Ba2.size)
  have qm2 : Below m2.heap.size m2 (m2.alloc (.cells #[.string (strB S), .string (strB b)] 27)) := (Below.refl _ _).alloc (Nat.le_refl _) _
  have Bn2 := Bm2.trans (qm2.mono Bm2.size)
  clear hM bm2
  have hK := takeLeaf_any (m2.alloc (.cells #[.string (strB S), .string (strB b)] 27)) b hb
  unfold LeafSaid at hK
  rw [hleaf] at hK
  simp only at hK
  go_wp2_with fail
  refine hK.mono ?_
  rintro e w3 ⟨rfl, b3⟩
  have B3 := Bn2.trans (b3.mono Bn2.size)
  clear hK b3 Bn2
  have hK := takeBranch_any w3 b hb
  unfold branchSaid at hK
  rw [hbranch] at hK
  simp only at hK
  go_wp2_with fail
  refine hK.mono ?_
  rintro e w4 ⟨rfl, b4⟩
  have B4 := B3.trans (b4.mono B3.size)
  clear hK b4 B3
  have q4 : Below w4.heap.size w4 (w4.alloc (.cells #[.int .i64 0, .slice none 0 0] 42)) := (Below.refl _ _).alloc (Nat.le_refl _) _
  have Ba4 := B4.trans (q4.mono B4.size)
  have hK := takeCommit_any (w4.alloc (.cells #[.int .i64 0, .slice none 0 0] 42)) b hb
  unfold commitSaid at hK
  rw [hcommit] at hK
  simp only at hK
  go_wp2_with fail
  refine hK.mono ?_
  rintro e w5 ⟨rfl, b5⟩
  have B5 := Ba4.trans (b5.mono Ba4.size)
  clear hK b5 Ba4
  have q5 : Below w5.heap.size w5 (w5.alloc (.cells #[.string ⟨#[]⟩, .slice none 0 0, .string ⟨#[]⟩, .int .i64 0, .string ⟨#[]⟩] 48)) := (Below.refl _ _).alloc (Nat.le_refl _) _
  have Ba5 := B5.trans (q5.mono B5.size)
  have hR := refs_any (w5.alloc (.cells #[.string ⟨#[]⟩, .slice none 0 0, .string ⟨#[]⟩, .int .i64 0, .string ⟨#[]⟩] 48)) b hb
  rw [hobj] at hR
  simp only [if_true] at hR
  go_wp2_with fail
  refine hR.mono ?_
  rintro e wR ⟨⟨vR, rfl⟩, bR⟩
  have BR := Ba5.trans (bR.mono Ba5.size)
  clear hR bR
  go_wp2
  go_ret
  exact ⟨ret_bool (by first | rfl | simp), BR⟩

set_option maxRecDepth 20000 in
set_option maxHeartbeats 3200000 in
theorem one_leaf (w : World) (b : Bs) (hb : b.length ≤ 140737488355328) (hT : TabW w) (f : List Pair) (hS : takenLeaf b = some f) :
    Calls Tryz.prog 3 #[.string (strB b)] w fun e w' => e = .returned (.bool true) ∧ Below w.heap.size w w' := by
  have h0 := hT.1
  have hnq := neqSelf 9 b
  obtain ⟨hok, hbe⟩ := (takenLeaf_iff b hb f).1 hS
  have hchunk := chunk_other (b := b) (fun l e => by rw [hbe] at e; injection e with e; exact absurd e (by decide))
  have hfan := fan_other (b := b) (fun l e => by rw [hbe] at e; injection e with e; exact absurd e (by decide))
  have hbranch := branch_other (b := b) hb (fun l e => by rw [hbe] at e; injection e with e; exact absurd e (by decide))
  have hcommit := commit_other (b := b) hb (fun l e => by rw [hbe] at e; injection e with e; exact absurd e (by decide))
  have hobj : objB b = true := by rw [hbe] at hS ⊢; show (takenLeaf _).isSome = true; rw [hS]; rfl
  have HBE := hide hbe
  clear hbe
  go_enter Tryz.func3, Tryz.ntmps3
  go_wp2_with fail
  refine (shown_any w hT).mono ?_
  rintro e w0 ⟨rfl, B0⟩
  have hK := takeChunk_any w0 b hb
  rw [hchunk] at hK
  simp only at hK
  go_wp2_with fail
  refine hK.mono ?_
  rintro e w1 ⟨rfl, b1⟩
  have B1 := B0.trans (b1.mono B0.size)
  clear hK b1 B0
  have hK := takeFan_any w1 b hb
  unfold fanSaid at hK
  rw [hfan] at hK
  simp only at hK
  go_wp2_with fail
  refine hK.mono ?_
  rintro e w2 ⟨rfl, b2⟩
  have B2 := B1.trans (b2.mono B1.size)
  clear hK b2 B1
  have q2 : Below w2.heap.size w2 (w2.alloc (.cells #[.int .i64 0, .slice none 0 0] 32)) := (Below.refl _ _).alloc (Nat.le_refl _) _
  have Ba2 := B2.trans (q2.mono B2.size)
  have hK := takeLeaf_any (w2.alloc (.cells #[.int .i64 0, .slice none 0 0] 32)) b hb
  unfold LeafSaid at hK
  rw [hS] at hK
  simp only at hK
  go_wp2_with fail
  refine hK.mono ?_
  rintro e w3 ⟨⟨v3, rfl, own3⟩, b3⟩
  obtain ⟨ag, cg, rfl, -⟩ := own_form own3
  have lv := ls_of_own pairC_length own3
  have B3 := Ba2.trans (b3.mono Ba2.size)
  clear hK b3 Ba2
  have lw := lv
  have hM := leaf_any w3 f _ lw (hT.keep B3 h0)
  rw [hok, made_yes, ← HBE.out] at hM
  generalize sha b = S at hM
  go_wp2_with fail
  refine hM.mono ?_
  rintro e m3 ⟨rfl, bm3⟩
  have Bm3 := B3.trans (bm3.mono B3.size)
  have qm3 : Below m3.heap.size m3 (m3.alloc (.cells #[.string (strB S), .string (strB b)] 27)) := (Below.refl _ _).alloc (Nat.le_refl _) _
  have Bn3 := Bm3.trans (qm3.mono Bm3.size)
  clear hM bm3
  have hK := takeBranch_any (m3.alloc (.cells #[.string (strB S), .string (strB b)] 27)) b hb
  unfold branchSaid at hK
  rw [hbranch] at hK
  simp only at hK
  go_wp2_with fail
  refine hK.mono ?_
  rintro e w4 ⟨rfl, b4⟩
  have B4 := Bn3.trans (b4.mono Bn3.size)
  clear hK b4 Bn3
  have q4 : Below w4.heap.size w4 (w4.alloc (.cells #[.int .i64 0, .slice none 0 0] 42)) := (Below.refl _ _).alloc (Nat.le_refl _) _
  have Ba4 := B4.trans (q4.mono B4.size)
  have hK := takeCommit_any (w4.alloc (.cells #[.int .i64 0, .slice none 0 0] 42)) b hb
  unfold commitSaid at hK
  rw [hcommit] at hK
  simp only at hK
  go_wp2_with fail
  refine hK.mono ?_
  rintro e w5 ⟨rfl, b5⟩
  have B5 := Ba4.trans (b5.mono Ba4.size)
  clear hK b5 Ba4
  have q5 : Below w5.heap.size w5 (w5.alloc (.cells #[.string ⟨#[]⟩, .slice none 0 0, .string ⟨#[]⟩, .int .i64 0, .string ⟨#[]⟩] 48)) := (Below.refl _ _).alloc (Nat.le_refl _) _
  have Ba5 := B5.trans (q5.mono B5.size)
  have hR := refs_any (w5.alloc (.cells #[.string ⟨#[]⟩, .slice none 0 0, .string ⟨#[]⟩, .int .i64 0, .string ⟨#[]⟩] 48)) b hb
  rw [hobj] at hR
  simp only [if_true] at hR
  go_wp2_with fail
  refine hR.mono ?_
  rintro e wR ⟨⟨vR, rfl⟩, bR⟩
  have BR := Ba5.trans (bR.mono Ba5.size)
  clear hR bR
  go_wp2
  go_ret
  exact ⟨ret_bool (by first | rfl | simp), BR⟩

set_option maxRecDepth 20000 in
set_option maxHeartbeats 3200000 in
theorem one_branch (w : World) (b : Bs) (hb : b.length ≤ 140737488355328) (hT : TabW w) (f : Branch) (hS : takenBranch b = some f) :
    Calls Tryz.prog 3 #[.string (strB b)] w fun e w' => e = .returned (.bool true) ∧ Below w.heap.size w w' := by
  have h0 := hT.1
  have hnq := neqSelf 9 b
  obtain ⟨hok, hbe⟩ := (takenBranch_iff b hb f).1 hS
  have hchunk := chunk_other (b := b) (fun l e => by rw [hbe] at e; injection e with e; exact absurd e (by decide))
  have hfan := fan_other (b := b) (fun l e => by rw [hbe] at e; injection e with e; exact absurd e (by decide))
  have hleaf := leaf_other (b := b) hb (fun l e => by rw [hbe] at e; injection e with e; exact absurd e (by decide))
  have hcommit := commit_other (b := b) hb (fun l e => by rw [hbe] at e; injection e with e; exact absurd e (by decide))
  have hobj : objB b = true := by rw [hbe] at hS ⊢; show (takenBranch _).isSome = true; rw [hS]; rfl
  have HBE := hide hbe
  clear hbe
  go_enter Tryz.func3, Tryz.ntmps3
  go_wp2_with fail
  refine (shown_any w hT).mono ?_
  rintro e w0 ⟨rfl, B0⟩
  have hK := takeChunk_any w0 b hb
  rw [hchunk] at hK
  simp only at hK
  go_wp2_with fail
  refine hK.mono ?_
  rintro e w1 ⟨rfl, b1⟩
  have B1 := B0.trans (b1.mono B0.size)
  clear hK b1 B0
  have hK := takeFan_any w1 b hb
  unfold fanSaid at hK
  rw [hfan] at hK
  simp only at hK
  go_wp2_with fail
  refine hK.mono ?_
  rintro e w2 ⟨rfl, b2⟩
  have B2 := B1.trans (b2.mono B1.size)
  clear hK b2 B1
  have q2 : Below w2.heap.size w2 (w2.alloc (.cells #[.int .i64 0, .slice none 0 0] 32)) := (Below.refl _ _).alloc (Nat.le_refl _) _
  have Ba2 := B2.trans (q2.mono B2.size)
  have hK := takeLeaf_any (w2.alloc (.cells #[.int .i64 0, .slice none 0 0] 32)) b hb
  unfold LeafSaid at hK
  rw [hleaf] at hK
  simp only at hK
  go_wp2_with fail
  refine hK.mono ?_
  rintro e w3 ⟨rfl, b3⟩
  have B3 := Ba2.trans (b3.mono Ba2.size)
  clear hK b3 Ba2
  have hK := takeBranch_any w3 b hb
  unfold branchSaid at hK
  rw [hS] at hK
  simp only at hK
  go_wp2_with fail
  refine hK.mono ?_
  rintro e w4 ⟨⟨v4, rfl, own4⟩, b4⟩
  obtain ⟨ag, cg, rfl, -⟩ := own_form own4
  have lv := ls_of_own linkC_length own4
  have B4 := B3.trans (b4.mono B3.size)
  clear hK b4 B3
  have q4 : Below w4.heap.size w4 (w4.alloc (.cells #[.int .i64 f.1, .slice ag f.2.length cg] 42)) := (Below.refl _ _).alloc (Nat.le_refl _) _
  have Ba4 := B4.trans (q4.mono B4.size)
  have lw := lv.past q4
  have hM := branch_any (w4.alloc (.cells #[.int .i64 f.1, .slice ag f.2.length cg] 42)) f _ lw (hT.keep Ba4 h0)
  rw [hok, made_yes, ← HBE.out] at hM
  generalize sha b = S at hM
  have zz := heap_last w4 (.cells #[.int .i64 f.1, .slice ag f.2.length cg] 42) _ rfl
  have zc0 := rc (i := 0) zz rfl
  have zc1 := rc (i := 1) zz rfl
  go_wp2_with fail
  refine hM.mono ?_
  rintro e m4 ⟨rfl, bm4⟩
  have Bm4 := Ba4.trans (bm4.mono Ba4.size)
  have qm4 : Below m4.heap.size m4 (m4.alloc (.cells #[.string (strB S), .string (strB b)] 27)) := (Below.refl _ _).alloc (Nat.le_refl _) _
  have Bn4 := Bm4.trans (qm4.mono Bm4.size)
  clear hM bm4
  have hK := takeCommit_any (m4.alloc (.cells #[.string (strB S), .string (strB b)] 27)) b hb
  unfold commitSaid at hK
  rw [hcommit] at hK
  simp only at hK
  go_wp2_with fail
  refine hK.mono ?_
  rintro e w5 ⟨rfl, b5⟩
  have B5 := Bn4.trans (b5.mono Bn4.size)
  clear hK b5 Bn4
  have q5 : Below w5.heap.size w5 (w5.alloc (.cells #[.string ⟨#[]⟩, .slice none 0 0, .string ⟨#[]⟩, .int .i64 0, .string ⟨#[]⟩] 48)) := (Below.refl _ _).alloc (Nat.le_refl _) _
  have Ba5 := B5.trans (q5.mono B5.size)
  have hR := refs_any (w5.alloc (.cells #[.string ⟨#[]⟩, .slice none 0 0, .string ⟨#[]⟩, .int .i64 0, .string ⟨#[]⟩] 48)) b hb
  rw [hobj] at hR
  simp only [if_true] at hR
  go_wp2_with fail
  refine hR.mono ?_
  rintro e wR ⟨⟨vR, rfl⟩, bR⟩
  have BR := Ba5.trans (bR.mono Ba5.size)
  clear hR bR
  go_wp2
  go_ret
  exact ⟨ret_bool (by first | rfl | simp), BR⟩

set_option maxRecDepth 20000 in
set_option maxHeartbeats 3200000 in
theorem one_commit (w : World) (b : Bs) (hb : b.length ≤ 140737488355328) (hT : TabW w) (f : Commit) (hS : takenCommit b = some f) :
    Calls Tryz.prog 3 #[.string (strB b)] w fun e w' => e = .returned (.bool true) ∧ Below w.heap.size w w' := by
  have h0 := hT.1
  have hnq := neqSelf 9 b
  obtain ⟨hok, hbe⟩ := (takenCommit_iff b hb f).1 hS
  have hchunk := chunk_other (b := b) (fun l e => by rw [hbe] at e; injection e with e; exact absurd e (by decide))
  have hfan := fan_other (b := b) (fun l e => by rw [hbe] at e; injection e with e; exact absurd e (by decide))
  have hleaf := leaf_other (b := b) hb (fun l e => by rw [hbe] at e; injection e with e; exact absurd e (by decide))
  have hbranch := branch_other (b := b) hb (fun l e => by rw [hbe] at e; injection e with e; exact absurd e (by decide))
  have hobj : objB b = true := by rw [hbe] at hS ⊢; show (takenCommit _).isSome = true; rw [hS]; rfl
  have HBE := hide hbe
  clear hbe
  go_enter Tryz.func3, Tryz.ntmps3
  go_wp2_with fail
  refine (shown_any w hT).mono ?_
  rintro e w0 ⟨rfl, B0⟩
  have hK := takeChunk_any w0 b hb
  rw [hchunk] at hK
  simp only at hK
  go_wp2_with fail
  refine hK.mono ?_
  rintro e w1 ⟨rfl, b1⟩
  have B1 := B0.trans (b1.mono B0.size)
  clear hK b1 B0
  have hK := takeFan_any w1 b hb
  unfold fanSaid at hK
  rw [hfan] at hK
  simp only at hK
  go_wp2_with fail
  refine hK.mono ?_
  rintro e w2 ⟨rfl, b2⟩
  have B2 := B1.trans (b2.mono B1.size)
  clear hK b2 B1
  have q2 : Below w2.heap.size w2 (w2.alloc (.cells #[.int .i64 0, .slice none 0 0] 32)) := (Below.refl _ _).alloc (Nat.le_refl _) _
  have Ba2 := B2.trans (q2.mono B2.size)
  have hK := takeLeaf_any (w2.alloc (.cells #[.int .i64 0, .slice none 0 0] 32)) b hb
  unfold LeafSaid at hK
  rw [hleaf] at hK
  simp only at hK
  go_wp2_with fail
  refine hK.mono ?_
  rintro e w3 ⟨rfl, b3⟩
  have B3 := Ba2.trans (b3.mono Ba2.size)
  clear hK b3 Ba2
  have hK := takeBranch_any w3 b hb
  unfold branchSaid at hK
  rw [hbranch] at hK
  simp only at hK
  go_wp2_with fail
  refine hK.mono ?_
  rintro e w4 ⟨rfl, b4⟩
  have B4 := B3.trans (b4.mono B3.size)
  clear hK b4 B3
  have q4 : Below w4.heap.size w4 (w4.alloc (.cells #[.int .i64 0, .slice none 0 0] 42)) := (Below.refl _ _).alloc (Nat.le_refl _) _
  have Ba4 := B4.trans (q4.mono B4.size)
  have hK := takeCommit_any (w4.alloc (.cells #[.int .i64 0, .slice none 0 0] 42)) b hb
  unfold commitSaid at hK
  rw [hS] at hK
  simp only at hK
  go_wp2_with fail
  refine hK.mono ?_
  rintro e w5 ⟨⟨v5, rfl, own5⟩, b5⟩
  obtain ⟨ag, cg, rfl, -⟩ := own_form own5
  have lv := ls_of_own idC_length own5
  have B5 := Ba4.trans (b5.mono Ba4.size)
  clear hK b5 Ba4
  have q5 : Below w5.heap.size w5 (w5.alloc (.cells #[.string (strB f.1), .slice ag f.2.1.length cg, .string (strB f.2.2.1), .int .i64 f.2.2.2.1, .string (strB f.2.2.2.2)] 48)) := (Below.refl _ _).alloc (Nat.le_refl _) _
  have Ba5 := B5.trans (q5.mono B5.size)
  have lw := lv.past q5
  have hM := commit_any (w5.alloc (.cells #[.string (strB f.1), .slice ag f.2.1.length cg, .string (strB f.2.2.1), .int .i64 f.2.2.2.1, .string (strB f.2.2.2.2)] 48)) f _ lw (hT.keep Ba5 h0)
  rw [hok, made_yes, ← HBE.out] at hM
  generalize sha b = S at hM
  have zz := heap_last w5 (.cells #[.string (strB f.1), .slice ag f.2.1.length cg, .string (strB f.2.2.1), .int .i64 f.2.2.2.1, .string (strB f.2.2.2.2)] 48) _ rfl
  have zc0 := rc (i := 0) zz rfl
  have zc1 := rc (i := 1) zz rfl
  have zc2 := rc (i := 2) zz rfl
  have zc3 := rc (i := 3) zz rfl
  have zc4 := rc (i := 4) zz rfl
  go_wp2_with fail
  refine hM.mono ?_
  rintro e m5 ⟨rfl, bm5⟩
  have Bm5 := Ba5.trans (bm5.mono Ba5.size)
  have qm5 : Below m5.heap.size m5 (m5.alloc (.cells #[.string (strB S), .string (strB b)] 27)) := (Below.refl _ _).alloc (Nat.le_refl _) _
  have Bn5 := Bm5.trans (qm5.mono Bm5.size)
  clear hM bm5
  have hR := refs_any (m5.alloc (.cells #[.string (strB S), .string (strB b)] 27)) b hb
  rw [hobj] at hR
  simp only [if_true] at hR
  go_wp2_with fail
  refine hR.mono ?_
  rintro e wR ⟨⟨vR, rfl⟩, bR⟩
  have BR := Bn5.trans (bR.mono Bn5.size)
  clear hR bR
  go_wp2
  go_ret
  exact ⟨ret_bool (by first | rfl | simp), BR⟩

set_option maxRecDepth 20000 in
set_option maxHeartbeats 3200000 in
theorem one_none (w : World) (b : Bs) (hb : b.length ≤ 140737488355328) (hT : TabW w) (hchunk : takenChunk b = none) (hfan : takenFan b = none) (hleaf : takenLeaf b = none) (hbranch : takenBranch b = none) (hcommit : takenCommit b = none) :
    Calls Tryz.prog 3 #[.string (strB b)] w fun e w' => e = .returned (.bool true) ∧ Below w.heap.size w w' := by
  have h0 := hT.1
  have hnq := neqSelf 9 b
  have hobj : objB b = false := by
    cases b with
    | nil => rfl
    | cons c l => simp [objB, hchunk, hfan, hleaf, hbranch, hcommit]
  go_enter Tryz.func3, Tryz.ntmps3
  go_wp2_with fail
  refine (shown_any w hT).mono ?_
  rintro e w0 ⟨rfl, B0⟩
  have hK := takeChunk_any w0 b hb
  rw [hchunk] at hK
  simp only at hK
  go_wp2_with fail
  refine hK.mono ?_
  rintro e w1 ⟨rfl, b1⟩
  have B1 := B0.trans (b1.mono B0.size)
  clear hK b1 B0
  have hK := takeFan_any w1 b hb
  unfold fanSaid at hK
  rw [hfan] at hK
  simp only at hK
  go_wp2_with fail
  refine hK.mono ?_
  rintro e w2 ⟨rfl, b2⟩
  have B2 := B1.trans (b2.mono B1.size)
  clear hK b2 B1
  have q2 : Below w2.heap.size w2 (w2.alloc (.cells #[.int .i64 0, .slice none 0 0] 32)) := (Below.refl _ _).alloc (Nat.le_refl _) _
  have Ba2 := B2.trans (q2.mono B2.size)
  have hK := takeLeaf_any (w2.alloc (.cells #[.int .i64 0, .slice none 0 0] 32)) b hb
  unfold LeafSaid at hK
  rw [hleaf] at hK
  simp only at hK
  go_wp2_with fail
  refine hK.mono ?_
  rintro e w3 ⟨rfl, b3⟩
  have B3 := Ba2.trans (b3.mono Ba2.size)
  clear hK b3 Ba2
  have hK := takeBranch_any w3 b hb
  unfold branchSaid at hK
  rw [hbranch] at hK
  simp only at hK
  go_wp2_with fail
  refine hK.mono ?_
  rintro e w4 ⟨rfl, b4⟩
  have B4 := B3.trans (b4.mono B3.size)
  clear hK b4 B3
  have q4 : Below w4.heap.size w4 (w4.alloc (.cells #[.int .i64 0, .slice none 0 0] 42)) := (Below.refl _ _).alloc (Nat.le_refl _) _
  have Ba4 := B4.trans (q4.mono B4.size)
  have hK := takeCommit_any (w4.alloc (.cells #[.int .i64 0, .slice none 0 0] 42)) b hb
  unfold commitSaid at hK
  rw [hcommit] at hK
  simp only at hK
  go_wp2_with fail
  refine hK.mono ?_
  rintro e w5 ⟨rfl, b5⟩
  have B5 := Ba4.trans (b5.mono Ba4.size)
  clear hK b5 Ba4
  have q5 : Below w5.heap.size w5 (w5.alloc (.cells #[.string ⟨#[]⟩, .slice none 0 0, .string ⟨#[]⟩, .int .i64 0, .string ⟨#[]⟩] 48)) := (Below.refl _ _).alloc (Nat.le_refl _) _
  have Ba5 := B5.trans (q5.mono B5.size)
  have hR := refs_any (w5.alloc (.cells #[.string ⟨#[]⟩, .slice none 0 0, .string ⟨#[]⟩, .int .i64 0, .string ⟨#[]⟩] 48)) b hb
  rw [hobj] at hR
  simp only [Bool.false_eq_true, if_false] at hR
  go_wp2_with fail
  refine hR.mono ?_
  rintro e wR ⟨⟨vR, rfl⟩, bR⟩
  have BR := Ba5.trans (bR.mono Ba5.size)
  clear hR bR
  go_wp2
  go_ret
  exact ⟨ret_bool (by first | rfl | simp), BR⟩

theorem one_any (w : World) (b : Bs) (hb : b.length ≤ 140737488355328) (hT : TabW w) :
    Calls Tryz.prog 3 #[.string (strB b)] w fun e w' => e = .returned (.bool true) ∧ Below w.heap.size w w' := by
  cases h1 : takenChunk b with
  | some f => exact one_chunk w b hb hT f h1
  | none =>
    cases h2 : takenFan b with
    | some f => exact one_fan w b hb hT f h2
    | none =>
      cases h3 : takenLeaf b with
      | some f => exact one_leaf w b hb hT f h3
      | none =>
        cases h4 : takenBranch b with
        | some f => exact one_branch w b hb hT f h4
        | none =>
          cases h5 : takenCommit b with
          | some f => exact one_commit w b hb hT f h5
          | none => exact one_none w b hb hT h1 h2 h3 h4 h5
theorem one_bytes (w : World) (s : ByteArray) (hs : s.size ≤ 140737488351232) (hT : TabW w) :
    Calls Tryz.prog 3 #[.string s] w fun e w' => e = .returned (.bool true) ∧ Below w.heap.size w w' := by
  have := one_any w s.data.toList (by simp; omega) hT
  rw [strB_of] at this
  exact this
end Go.Proofs.YtmlfonmdiimdfabGreatDoor
