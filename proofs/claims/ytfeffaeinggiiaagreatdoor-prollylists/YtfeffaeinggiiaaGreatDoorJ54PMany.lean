/-
  Texts joined: PMany, PSameO, PSameP.
-/
import Derived.Test.YtfeffaeinggiiaaGreatDoorJ41PFind
import Derived.Test.YtfeffaeinggiiaaGreatDoorJ28PNodeP
import Derived.Test.YtfeffaeinggiiaaGreatDoorJ26PRMany
import Derived.Test.YtfeffaeinggiiaaGreatDoorJ24PRow
import Derived.Laws.StructEq
/-
  The pairs of a map counted by the program, by any get. Conditions: the get keeps its word; not too much was asked.
-/
namespace Go.Proofs.YtfeffaeinggiiaaGreatDoor
open Go.RowKit

set_option maxRecDepth 40000 in
set_option maxHeartbeats 1600000 in
theorem many_prog (w : World) (g : Nat) (caps : Array Value) (fd : Bs → Option Bs) (B : Nat) (ts : List TypeId) (I : World → List Bs → Prop) (hG : GetOk g caps fd B ts I) (root : Bs) (asked : List Bs) (hI : I w asked) (hn : asked.length ≤ 1000) :
    Calls Tryz.prog 19 #[.func (.func g) #[] caps, .string (strB root)] w fun e w' => e = .returned (.tuple #[.int .i64 (manyM (askM fd (rootK root) (-1))).1, .int .i64 (manyM (askM fd (rootK root) (-1))).2]) ∧ I w' (asked ++ [root]) := by
  have hok := fun h => (askM_ok (fd := fd) (k := rootK root) (level := -1) hG.short h).1
  have hze := fun h => askM_zero (fd := fd) (k := rootK root) (level := -1) h
  have hask := fun W (h : I W asked) => ask_any W g caps fd B ts I hG root asked h (by omega)
  obtain ⟨R, hR⟩ : ∃ R, R = manyM (askM fd (rootK root) (-1)) := ⟨_, rfl⟩
  rw [← hR]
  obtain ⟨er, n, hern⟩ : ∃ er n, askM fd (rootK root) (-1) = (er, n) := ⟨_, _, rfl⟩
  rw [hern] at hR hok hze
  simp only [hern] at hask
  simp only at hok hze
  have hcn : R = (countM n, er) := by
    rw [hR]
    unfold manyM
    by_cases h : er = 0
    · rw [if_pos h, h]
    · rw [if_neg h, hze h]
      rfl
  have hlk : n.2.1.length ≤ 64 ∧ (∀ k ∈ n.2.2, rlinkOk k = true) ∧ manyL n.2.2 ≤ 4096 ∧ n.2.2.length ≤ 64 := by
    by_cases h : er = 0
    · exact (hok h).links
    · rw [hze h]
      exact ⟨by simp, by simp, by simp [manyL], by simp⟩
  rw [hcn]
  have HL := hide hlk
  have HI := hide hI
  have HG := hide hG
  unfold nodeIs at hask
  clear hok hze hR hern hcn hlk hI hG
  go_enter Tryz.func19, Tryz.ntmps19
  go_wp2_with fail
  refine (hask w HI.out).mono ?_
  rintro e w1 ⟨⟨vk, vp, rfl, hrk, hrp⟩, hI1, hm1, -⟩
  have hb2 : Below w1.heap.size w1 (w1.alloc (.cells #[.int .i64 n.1, vk, vp] 83)) := (Below.refl _ _).alloc (Nat.le_refl _) _
  have hy2 := heap_last w1 (.cells #[.int .i64 n.1, vk, vp] 83) _ rfl
  have hws := hm1.size
  have hI2 := HG.out.below hI1 hb2
  have hnm := nmany_any (w1.alloc (.cells #[.int .i64 n.1, vk, vp] 83)) n vk vp (ls_of_own linkC_length (own_below hrk hb2)) (ls_of_own pairC_length (own_below hrp hb2)) HL.out.2.1 HL.out.2.2.1 (by have := HL.out.1; omega)
  have y0 := cell_of_row _ w1.heap.size 0 _ _ _ hy2
  have y1 := cell_of_row _ w1.heap.size 1 _ _ _ hy2
  have y2 := cell_of_row _ w1.heap.size 2 _ _ _ hy2
  simp only [List.getElem?_toArray, List.getElem?_cons_zero, List.getElem?_cons_succ] at y0 y1 y2
  have H2 := hide hI2
  obtain ⟨ka, km, kc, rfl⟩ := row_form hrk
  obtain ⟨pa, pm, pc, rfl⟩ := row_form hrp
  clear hask hrk hrp hI1 hm1 hb2 hy2 hI2 hws
  go_wp2_with fail
  refine hnm.mono ?_
  rintro e w3 ⟨rfl, hb3⟩
  have H3 := hide (HG.out.below H2.out hb3)
  clear hnm hb3 y0 y1 y2
  go_wp2
  go_ret2
  exact ⟨rfl, H3.out⟩
end Go.Proofs.YtfeffaeinggiiaaGreatDoor

/-
  Are two lists of objects the same? Conditions: they lie there.
-/
namespace Go.Proofs.YtfeffaeinggiiaaGreatDoor
open Go.RowKit

def same1 {α : Type} [DecidableEq α] (x y : α) : Bool := decide (x = y)
theorem same1_true {α : Type} [DecidableEq α] {x y : α} (h : x = y) : same1 x y = true := decide_eq_true h
theorem same1_false {α : Type} [DecidableEq α] {x y : α} (h : ¬ x = y) : same1 x y = false := decide_eq_false h
theorem take_step {α : Type} {xs ys : List α} {k : Nat} (h1 : k < xs.length) (h2 : k < ys.length) (h : xs.take k = ys.take k) (he : xs[k] = ys[k]) : xs.take (k + 1) = ys.take (k + 1) := by
  rw [List.take_succ_eq_append_getElem h1, List.take_succ_eq_append_getElem h2, h, he]
theorem Tryz.eqObj : Tryz.prog.underlying 69 = some (.struct (Tryz.prog.fieldsOf 69)) ∧ Tryz.prog.stoodInHeld 69 = false ∧ Tryz.prog.eqGuardType Tryz.prog.depth 69 = false := ⟨by kernel_rfl, by kernel_rfl, by kernel_rfl⟩
theorem neq_Obj (W : World) (a0 b0 a1 b1 : Bs) : (binOp .neq 69 (.agg #[.string (strB a0), .string (strB a1)]) (.agg #[.string (strB b0), .string (strB b1)])).run Tryz.prog W = .ok (.bool (!(a0 == b0 && a1 == b1))) W := by
  obtain ⟨h1, h2, h3⟩ := Tryz.eqObj
  rw [run_neq_struct, run_equalIn_agg _ _ _ _ _ h1 h2]
  simp only [Program.fieldsOf, Tryz.underlying69]
  by_cases q0 : a0 = b0 <;> by_cases q1 : a1 = b1 <;> simp [Op.eqFields, go_sem, Tryz.underlying9, toL, q0, q1]
theorem neqObj (W : World) (x y : Pair) : (binOp .neq 69 (.agg #[.string (strB x.1), .string (strB x.2)]) (.agg #[.string (strB y.1), .string (strB y.2)])).run Tryz.prog W = .ok (.bool (!(same1 x y))) W := by
  rw [neq_Obj, show (x.1 == y.1 && x.2 == y.2) = same1 x y from by unfold same1; rw [Bool.eq_iff_iff]; simp [Prod.ext_iff]]
set_option maxRecDepth 20000 in
set_option maxHeartbeats 800000 in
theorem same_objs (w : World) (xs ys : List Pair) (vx vy : Value) (hvx : Ls w.heap.size w 2 pairC vx xs) (hvy : Ls w.heap.size w 2 pairC vy ys) :
    Calls Tryz.prog 12 #[vx, vy] w fun e w' => e = .returned (.bool (decide (xs = ys))) ∧ Below w.heap.size w w' := by
  obtain ⟨ax, capx, rfl, gx1, gx2, hx⟩ := hvx
  obtain ⟨ay, capy, rfl, gy1, gy2, hy⟩ := hvy
  unfold maxLen at gx2 gy2
  by_cases hle : xs.length = ys.length
  rotate_left
  · have hle' : ((xs.length : Int) == (ys.length : Int)) = false := by simp; omega
    go_enter Tryz.func12, Tryz.ntmps12
    go_wp2_with fail
    skip
    try go_wp2
    go_ret
    exact ⟨ret_bool (Eq.symm (decide_eq_false (fun e => hle (congrArg List.length e)))), Below.refl _ _⟩
  rw [hle] at gx1 ⊢
  have HLE := hide hle
  clear hle
  go_enter Tryz.func12, Tryz.ntmps12
  go_wp2_with fail
  skip
  go_loopw [5] (fun t wr => ∃ k : Nat, k ≤ ys.length ∧ t = .int .i64 k ∧ xs.take k = ys.take k ∧ Below w.heap.size w wr)
    (fun t _ => ys.length - (intOf t).toNat)
  case atStart => exact ⟨0, by omega, rfl, by simp, Below.refl _ _⟩
  case round =>
    obtain ⟨k, hk, rfl, htk, hbr⟩ := hrel
    have hbw : Below w.heap.size w wr := hbr
    have HB := hide hbr
    have HBW := hide hbw
    have HTK := hide htk
    clear hbr hbw htk
    by_cases hlt2 : k < ys.length
    · have hlt : k < xs.length := by rw [HLE.out]; exact hlt2
      obtain ⟨bx, offx, rfl, hbX, hcx⟩ := hx (by intro e; rw [e] at hlt; simp at hlt)
      obtain ⟨bY, offy, rfl, hbYl, hcy⟩ := hy (by intro e; rw [e] at hlt2; simp at hlt2)
      have c0 := (HBW.out.cell (p := ⟨bx, offx + k * 2 + 0, none⟩) hbX).trans (hcx k hlt 0 _ rfl)
      have d0 := (HBW.out.cell (p := ⟨bY, offy + k * 2 + 0, none⟩) hbYl).trans (hcy k hlt2 0 _ rfl)
      have c1 := (HBW.out.cell (p := ⟨bx, offx + k * 2 + 1, none⟩) hbX).trans (hcx k hlt 1 _ rfl)
      have d1 := (HBW.out.cell (p := ⟨bY, offy + k * 2 + 1, none⟩) hbYl).trans (hcy k hlt2 1 _ rfl)
      have hst := fun he => take_step hlt hlt2 HTK.out he
      have hno : xs[k] ≠ ys[k] → xs ≠ ys := fun hne e => hne (by simp only [e])
      generalize xs[k] = x at *
      generalize ys[k] = y at *
      try simp only [Nat.add_zero] at c0 d0 c1 d1
      have HST := hide hst
      have HNO := hide hno
      have hnq : ∀ W, _ := fun W => neqObj W x y
      clear hst hno hcx hcy hx hy hlt
      go_wp2_with fail
      refine wp_region_held_drew (S := fun W => W.cell? ⟨bx, offx + k * 2, none⟩ = some (.string (strB x.1)) ∧ W.cell? ⟨bx, offx + k * 2 + 1, none⟩ = some (.string (strB x.2)) ∧ W.cell? ⟨bY, offy + k * 2, none⟩ = some (.string (strB y.1)) ∧ W.cell? ⟨bY, offy + k * 2 + 1, none⟩ = some (.string (strB y.2))) (by kernel_rfl) (⟨c0, c1, d0, d1⟩) (fun hHeld => ?_)
      refine takeH (i := 0) (v := ?_) rfl (by kernel_rfl) (by kernel_rfl) (by kernel_rfl) (fun _ _ _ h => h) rfl ?_ hHeld ?_
      rotate_left
      · intro w hS; (try dsimp only at hS); obtain ⟨hS0, hS1, hS2, hS3⟩ := hS; go_simp; first | done | (with_reducible rfl)
      try simp only [Act.put, List.setIfInBounds_toArray, List.set_cons_zero, List.set_cons_succ]
      refine takeH (i := 1) (v := ?_) rfl (by kernel_rfl) (by kernel_rfl) (by kernel_rfl) (fun _ _ _ h => h) rfl ?_ hHeld ?_
      rotate_left
      · intro w hS; (try dsimp only at hS); obtain ⟨hS0, hS1, hS2, hS3⟩ := hS; go_simp; first | done | (with_reducible rfl)
      try simp only [Act.put, List.setIfInBounds_toArray, List.set_cons_zero, List.set_cons_succ]
      refine takeH (i := 2) (v := ?_) rfl (by kernel_rfl) (by kernel_rfl) (by kernel_rfl) (fun _ _ _ h => h) rfl ?_ hHeld ?_
      rotate_left
      · intro w hS; (try dsimp only at hS); obtain ⟨hS0, hS1, hS2, hS3⟩ := hS; go_simp; first | done | (with_reducible rfl)
      try simp only [Act.put, List.setIfInBounds_toArray, List.set_cons_zero, List.set_cons_succ]
      refine takeH (i := 3) (v := ?_) rfl (by kernel_rfl) (by kernel_rfl) (by kernel_rfl) (fun _ _ _ h => h) rfl ?_ hHeld ?_
      rotate_left
      · intro w hS; (try dsimp only at hS); obtain ⟨hS0, hS1, hS2, hS3⟩ := hS; go_simp; first | done | (with_reducible rfl)
      try simp only [Act.put, List.setIfInBounds_toArray, List.set_cons_zero, List.set_cons_succ]
      refine takeH (i := 4) (v := ?_) rfl (by kernel_rfl) (by kernel_rfl) (by kernel_rfl) (fun _ _ _ h => h) rfl ?_ hHeld ?_
      rotate_left
      · intro w hS; (try dsimp only at hS); obtain ⟨hS0, hS1, hS2, hS3⟩ := hS; go_simp; first | done | (with_reducible rfl)
      try simp only [Act.put, List.setIfInBounds_toArray, List.set_cons_zero, List.set_cons_succ]
      refine takeH (i := 5) (v := ?_) rfl (by kernel_rfl) (by kernel_rfl) (by kernel_rfl) (fun _ _ _ h => h) rfl ?_ hHeld ?_
      rotate_left
      · intro w hS; (try dsimp only at hS); obtain ⟨hS0, hS1, hS2, hS3⟩ := hS; go_simp; first | done | (with_reducible rfl)
      try simp only [Act.put, List.setIfInBounds_toArray, List.set_cons_zero, List.set_cons_succ]
      refine takeH (i := 6) (v := ?_) rfl (by kernel_rfl) (by kernel_rfl) (by kernel_rfl) (fun _ _ _ h => h) rfl ?_ hHeld ?_
      rotate_left
      · intro w hS; (try dsimp only at hS); obtain ⟨hS0, hS1, hS2, hS3⟩ := hS; go_simp; first | done | (with_reducible rfl)
      try simp only [Act.put, List.setIfInBounds_toArray, List.set_cons_zero, List.set_cons_succ]
      refine takeH (i := 7) (v := ?_) rfl (by kernel_rfl) (by kernel_rfl) (by kernel_rfl) (fun _ _ _ h => h) rfl ?_ hHeld ?_
      rotate_left
      · intro w hS; (try dsimp only at hS); obtain ⟨hS0, hS1, hS2, hS3⟩ := hS; go_simp; first | done | (with_reducible rfl)
      try simp only [Act.put, List.setIfInBounds_toArray, List.set_cons_zero, List.set_cons_succ]
      refine takeH (i := 8) (v := ?_) rfl (by kernel_rfl) (by kernel_rfl) (by kernel_rfl) (fun _ _ _ h => h) rfl ?_ hHeld ?_
      rotate_left
      · intro w hS; (try dsimp only at hS); obtain ⟨hS0, hS1, hS2, hS3⟩ := hS; go_simp; first | done | (with_reducible rfl)
      try simp only [Act.put, List.setIfInBounds_toArray, List.set_cons_zero, List.set_cons_succ]
      refine wpAnyH_done (by kernel_rfl) ?_ _
      clear hHeld hnq
      have hbD : Below w.heap.size w wr.drew := HB.out.drew
      have HBD := hide hbD
      clear hbD
      by_cases he : x = y
      · have hbe := same1_true he
        rw [hbe]
        go_wp2
        go_roundw
        case rel => exact ⟨k + 1, by omega, by go_num, HST.out he, HBD.out⟩
        case measure => simp [intOf]; omega
      · have hbe := same1_false he
        rw [hbe]
        go_wp2
        go_ret
        exact ⟨ret_bool (Eq.symm (decide_eq_false (fun e => HNO.out he (e)))), HBD.out⟩
    · have hall : xs = ys := by
        have := HTK.out
        have hL := HLE.out
        rwa [List.take_of_length_le (by omega), List.take_of_length_le (by omega)] at this
      go_wp2
      go_ret
      exact ⟨ret_bool (Eq.symm (decide_eq_true (hall))), HBW.out⟩
end Go.Proofs.YtfeffaeinggiiaaGreatDoor

/-
  Are two lists of pairs the same? Conditions: they lie there.
-/
namespace Go.Proofs.YtfeffaeinggiiaaGreatDoor
open Go.RowKit

theorem Tryz.eqPair : Tryz.prog.underlying 60 = some (.struct (Tryz.prog.fieldsOf 60)) ∧ Tryz.prog.stoodInHeld 60 = false ∧ Tryz.prog.eqGuardType Tryz.prog.depth 60 = false := ⟨by kernel_rfl, by kernel_rfl, by kernel_rfl⟩
theorem neq_Pair (W : World) (a0 b0 a1 b1 : Bs) : (binOp .neq 60 (.agg #[.string (strB a0), .string (strB a1)]) (.agg #[.string (strB b0), .string (strB b1)])).run Tryz.prog W = .ok (.bool (!(a0 == b0 && a1 == b1))) W := by
  obtain ⟨h1, h2, h3⟩ := Tryz.eqPair
  rw [run_neq_struct, run_equalIn_agg _ _ _ _ _ h1 h2]
  simp only [Program.fieldsOf, Tryz.underlying60]
  by_cases q0 : a0 = b0 <;> by_cases q1 : a1 = b1 <;> simp [Op.eqFields, go_sem, Tryz.underlying9, toL, q0, q1]
theorem neqPair (W : World) (x y : Pair) : (binOp .neq 60 (.agg #[.string (strB x.1), .string (strB x.2)]) (.agg #[.string (strB y.1), .string (strB y.2)])).run Tryz.prog W = .ok (.bool (!(same1 x y))) W := by
  rw [neq_Pair, show (x.1 == y.1 && x.2 == y.2) = same1 x y from by unfold same1; rw [Bool.eq_iff_iff]; simp [Prod.ext_iff]]
set_option maxRecDepth 20000 in
set_option maxHeartbeats 800000 in
theorem same_pairs (w : World) (xs ys : List Pair) (vx vy : Value) (hvx : Ls w.heap.size w 2 pairC vx xs) (hvy : Ls w.heap.size w 2 pairC vy ys) :
    Calls Tryz.prog 22 #[vx, vy] w fun e w' => e = .returned (.bool (decide (xs = ys))) ∧ Below w.heap.size w w' := by
  obtain ⟨ax, capx, rfl, gx1, gx2, hx⟩ := hvx
  obtain ⟨ay, capy, rfl, gy1, gy2, hy⟩ := hvy
  unfold maxLen at gx2 gy2
  by_cases hle : xs.length = ys.length
  rotate_left
  · have hle' : ((xs.length : Int) == (ys.length : Int)) = false := by simp; omega
    go_enter Tryz.func22, Tryz.ntmps22
    go_wp2_with fail
    skip
    try go_wp2
    go_ret
    exact ⟨ret_bool (Eq.symm (decide_eq_false (fun e => hle (congrArg List.length e)))), Below.refl _ _⟩
  rw [hle] at gx1 ⊢
  have HLE := hide hle
  clear hle
  go_enter Tryz.func22, Tryz.ntmps22
  go_wp2_with fail
  skip
  go_loopw [5] (fun t wr => ∃ k : Nat, k ≤ ys.length ∧ t = .int .i64 k ∧ xs.take k = ys.take k ∧ Below w.heap.size w wr)
    (fun t _ => ys.length - (intOf t).toNat)
  case atStart => exact ⟨0, by omega, rfl, by simp, Below.refl _ _⟩
  case round =>
    obtain ⟨k, hk, rfl, htk, hbr⟩ := hrel
    have hbw : Below w.heap.size w wr := hbr
    have HB := hide hbr
    have HBW := hide hbw
    have HTK := hide htk
    clear hbr hbw htk
    by_cases hlt2 : k < ys.length
    · have hlt : k < xs.length := by rw [HLE.out]; exact hlt2
      obtain ⟨bx, offx, rfl, hbX, hcx⟩ := hx (by intro e; rw [e] at hlt; simp at hlt)
      obtain ⟨bY, offy, rfl, hbYl, hcy⟩ := hy (by intro e; rw [e] at hlt2; simp at hlt2)
      have c0 := (HBW.out.cell (p := ⟨bx, offx + k * 2 + 0, none⟩) hbX).trans (hcx k hlt 0 _ rfl)
      have d0 := (HBW.out.cell (p := ⟨bY, offy + k * 2 + 0, none⟩) hbYl).trans (hcy k hlt2 0 _ rfl)
      have c1 := (HBW.out.cell (p := ⟨bx, offx + k * 2 + 1, none⟩) hbX).trans (hcx k hlt 1 _ rfl)
      have d1 := (HBW.out.cell (p := ⟨bY, offy + k * 2 + 1, none⟩) hbYl).trans (hcy k hlt2 1 _ rfl)
      have hst := fun he => take_step hlt hlt2 HTK.out he
      have hno : xs[k] ≠ ys[k] → xs ≠ ys := fun hne e => hne (by simp only [e])
      generalize xs[k] = x at *
      generalize ys[k] = y at *
      try simp only [Nat.add_zero] at c0 d0 c1 d1
      have HST := hide hst
      have HNO := hide hno
      have hnq : ∀ W, _ := fun W => neqPair W x y
      clear hst hno hcx hcy hx hy hlt
      go_wp2_with fail
      refine wp_region_held_drew (S := fun W => W.cell? ⟨bx, offx + k * 2, none⟩ = some (.string (strB x.1)) ∧ W.cell? ⟨bx, offx + k * 2 + 1, none⟩ = some (.string (strB x.2)) ∧ W.cell? ⟨bY, offy + k * 2, none⟩ = some (.string (strB y.1)) ∧ W.cell? ⟨bY, offy + k * 2 + 1, none⟩ = some (.string (strB y.2))) (by kernel_rfl) (⟨c0, c1, d0, d1⟩) (fun hHeld => ?_)
      refine takeH (i := 0) (v := ?_) rfl (by kernel_rfl) (by kernel_rfl) (by kernel_rfl) (fun _ _ _ h => h) rfl ?_ hHeld ?_
      rotate_left
      · intro w hS; (try dsimp only at hS); obtain ⟨hS0, hS1, hS2, hS3⟩ := hS; go_simp; first | done | (with_reducible rfl)
      try simp only [Act.put, List.setIfInBounds_toArray, List.set_cons_zero, List.set_cons_succ]
      refine takeH (i := 1) (v := ?_) rfl (by kernel_rfl) (by kernel_rfl) (by kernel_rfl) (fun _ _ _ h => h) rfl ?_ hHeld ?_
      rotate_left
      · intro w hS; (try dsimp only at hS); obtain ⟨hS0, hS1, hS2, hS3⟩ := hS; go_simp; first | done | (with_reducible rfl)
      try simp only [Act.put, List.setIfInBounds_toArray, List.set_cons_zero, List.set_cons_succ]
      refine takeH (i := 2) (v := ?_) rfl (by kernel_rfl) (by kernel_rfl) (by kernel_rfl) (fun _ _ _ h => h) rfl ?_ hHeld ?_
      rotate_left
      · intro w hS; (try dsimp only at hS); obtain ⟨hS0, hS1, hS2, hS3⟩ := hS; go_simp; first | done | (with_reducible rfl)
      try simp only [Act.put, List.setIfInBounds_toArray, List.set_cons_zero, List.set_cons_succ]
      refine takeH (i := 3) (v := ?_) rfl (by kernel_rfl) (by kernel_rfl) (by kernel_rfl) (fun _ _ _ h => h) rfl ?_ hHeld ?_
      rotate_left
      · intro w hS; (try dsimp only at hS); obtain ⟨hS0, hS1, hS2, hS3⟩ := hS; go_simp; first | done | (with_reducible rfl)
      try simp only [Act.put, List.setIfInBounds_toArray, List.set_cons_zero, List.set_cons_succ]
      refine takeH (i := 4) (v := ?_) rfl (by kernel_rfl) (by kernel_rfl) (by kernel_rfl) (fun _ _ _ h => h) rfl ?_ hHeld ?_
      rotate_left
      · intro w hS; (try dsimp only at hS); obtain ⟨hS0, hS1, hS2, hS3⟩ := hS; go_simp; first | done | (with_reducible rfl)
      try simp only [Act.put, List.setIfInBounds_toArray, List.set_cons_zero, List.set_cons_succ]
      refine takeH (i := 5) (v := ?_) rfl (by kernel_rfl) (by kernel_rfl) (by kernel_rfl) (fun _ _ _ h => h) rfl ?_ hHeld ?_
      rotate_left
      · intro w hS; (try dsimp only at hS); obtain ⟨hS0, hS1, hS2, hS3⟩ := hS; go_simp; first | done | (with_reducible rfl)
      try simp only [Act.put, List.setIfInBounds_toArray, List.set_cons_zero, List.set_cons_succ]
      refine takeH (i := 6) (v := ?_) rfl (by kernel_rfl) (by kernel_rfl) (by kernel_rfl) (fun _ _ _ h => h) rfl ?_ hHeld ?_
      rotate_left
      · intro w hS; (try dsimp only at hS); obtain ⟨hS0, hS1, hS2, hS3⟩ := hS; go_simp; first | done | (with_reducible rfl)
      try simp only [Act.put, List.setIfInBounds_toArray, List.set_cons_zero, List.set_cons_succ]
      refine takeH (i := 7) (v := ?_) rfl (by kernel_rfl) (by kernel_rfl) (by kernel_rfl) (fun _ _ _ h => h) rfl ?_ hHeld ?_
      rotate_left
      · intro w hS; (try dsimp only at hS); obtain ⟨hS0, hS1, hS2, hS3⟩ := hS; go_simp; first | done | (with_reducible rfl)
      try simp only [Act.put, List.setIfInBounds_toArray, List.set_cons_zero, List.set_cons_succ]
      refine takeH (i := 8) (v := ?_) rfl (by kernel_rfl) (by kernel_rfl) (by kernel_rfl) (fun _ _ _ h => h) rfl ?_ hHeld ?_
      rotate_left
      · intro w hS; (try dsimp only at hS); obtain ⟨hS0, hS1, hS2, hS3⟩ := hS; go_simp; first | done | (with_reducible rfl)
      try simp only [Act.put, List.setIfInBounds_toArray, List.set_cons_zero, List.set_cons_succ]
      refine wpAnyH_done (by kernel_rfl) ?_ _
      clear hHeld hnq
      have hbD : Below w.heap.size w wr.drew := HB.out.drew
      have HBD := hide hbD
      clear hbD
      by_cases he : x = y
      · have hbe := same1_true he
        rw [hbe]
        go_wp2
        go_roundw
        case rel => exact ⟨k + 1, by omega, by go_num, HST.out he, HBD.out⟩
        case measure => simp [intOf]; omega
      · have hbe := same1_false he
        rw [hbe]
        go_wp2
        go_ret
        exact ⟨ret_bool (Eq.symm (decide_eq_false (fun e => HNO.out he (e)))), HBD.out⟩
    · have hall : xs = ys := by
        have := HTK.out
        have hL := HLE.out
        rwa [List.take_of_length_le (by omega), List.take_of_length_le (by omega)] at this
      go_wp2
      go_ret
      exact ⟨ret_bool (Eq.symm (decide_eq_true (hall))), HBW.out⟩
end Go.Proofs.YtfeffaeinggiiaaGreatDoor
