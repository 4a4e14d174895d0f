/-
  Texts joined: PShown, PSameO, PBuilds.
-/
import Derived.Test.YtfeffaeinggiiaaGreatDoorJ39PFind
import Derived.Test.YtfeffaeinggiiaaGreatDoorJ42PBuild
import Derived.Test.YtfeffaeinggiiaaGreatDoorJ24PRow
import Derived.Laws.StructEq
/-
  What the statements show first. Condition: the table holds its numbers.
-/
namespace Go.Proofs.YtfeffaeinggiiaaGreatDoor
open Go.RowKit

theorem enters_own {P : Program} {f : FuncId} {fn : Func} {c : Code} (h1 : P.funcs[f]? = some fn) (h2 : (fn.name == "runtime.NumGoroutine") = false) (h3 : fn.body = some c) (args : Array Value) (w : World) : (callFunc f args).run P w = .ok (.enter f args) w := by
  have h4 : fn.name ≠ "runtime.NumGoroutine" := by simpa using h2
  simp [callFunc, h1, h4, h3, mark]
/-- The get of a list that lies there. -/
theorem get_from {w2 : World} {c : Nat} {v : Value} {objs : List Pair} (ts : List TypeId) (hn : 83 ∈ ts) (hc : w2.heap[c]? = some (.cells #[v] 25)) (hv : Ls w2.heap.size w2 2 pairC v objs) (hs : ∀ o ∈ objs, o.2.length ≤ 140737488351232) :
    GetOk 44 #[.pointer (some ⟨c, 0, none⟩)] (findO objs) w2.heap.size ts (fun W _ => Below w2.heap.size w2 W) where
  eg := enters_own Tryz.func44 (by kernel_rfl) rfl
  le W a h := h.size
  mv h hm := h.trans hm.b
  call W a id h _ := (from1_any W c v objs id ((h.block c (lt_of_heap hc)).trans hc) ((hv.keep h).up h.size)).mono fun e w' hq => ⟨hq.1, hq.2 ▸ h, hq.2 ▸ Mv.refl _ _ _ _⟩
  node := hn
  short id b h := findO_short hs id b h
set_option maxRecDepth 20000 in
theorem from_any (w : World) (ao : Option Addr) (m c : Nat) : Calls Tryz.prog 20 #[.slice ao m c] w fun e w' => e = .returned (.func (.func 44) #[] #[.pointer (some ⟨w.heap.size, 0, none⟩)]) ∧ w' = w.alloc (.cells #[.slice ao m c] 25) := by
  have hmf : ∀ (fn : Fn) (first cap : Array Value) (w : World), (Instr.makeFunc fn first cap).run Tryz.prog w = .ok (.func fn first cap) w := fun _ _ _ _ => rfl
  go_enter Tryz.func20, Tryz.ntmps20
  go_wp2
  go_ret
  exact ⟨rfl, rfl⟩
/-- The two pairs that are shown. -/
def twoP : List Pair := [([97], [49]), ([98], [50])]
theorem two_ends : ends12 1 [97] 0 = false := by kernel_rfl
theorem two_leaf : leafG twoP = [twoP] := by
  unfold leafG twoP
  rw [gath, if_neg (by rw [show ([] : List Pair).length + 1 = 1 from rfl, two_ends]; simp), gath]
  split
  · rfl
  · rfl
theorem two_build : buildM twoP = ((leafO twoP).1, [leafO twoP], 0) := by
  rw [buildM_root (by decide) (by decide), rootM_some (by decide), two_leaf, riseL_one (by simp)]
  rfl
theorem two_find : findF (findO [leafO twoP]) (leafO twoP).1 [98] [] = ([50], true, [(leafO twoP).1], 0) := by
  have hfd : findO [leafO twoP] (leafO twoP).1 = some (76 :: leafB twoP) := by unfold findO leafO; simp
  have hok : leafOk ltB twoP = true := by decide
  have hlen := leafB_le hok
  have hta : takenLeaf (76 :: leafB twoP) = some twoP := (takenLeaf_iff (76 :: leafB twoP) (by simp; omega) twoP).2 ⟨hok, rfl⟩
  have hask := askM_root_ok hfd (nodeM_leaf hta)
  unfold findF
  rw [if_neg (by decide), hask, restM_leaf (by omega) rfl rfl]
  rfl
theorem ls_twoP (w : World) : Ls (w.alloc (.cells #[.string ⟨#[97]⟩, .string ⟨#[49]⟩, .string ⟨#[98]⟩, .string ⟨#[50]⟩] 60)).heap.size (w.alloc (.cells #[.string ⟨#[97]⟩, .string ⟨#[49]⟩, .string ⟨#[98]⟩, .string ⟨#[50]⟩] 60)) 2 pairC (.slice (some ⟨w.heap.size, 0, none⟩) 2 2) twoP := by
  have hx := heap_last w (.cells #[.string ⟨#[97]⟩, .string ⟨#[49]⟩, .string ⟨#[98]⟩, .string ⟨#[50]⟩] 60) _ rfl
  refine ⟨_, 2, rfl, Nat.le_refl _, by unfold maxLen; omega, fun _ => ⟨w.heap.size, 0, rfl, by simp, fun j hj i u hu => ?_⟩⟩
  rw [cell_of_row _ _ _ _ _ _ hx]
  match j, hj with
  | 0, _ =>
    match i with
    | 0 => exact hu
    | 1 => exact hu
    | _ + 2 => simp [pairC] at hu
  | 1, _ =>
    match i with
    | 0 => exact hu
    | 1 => exact hu
    | _ + 2 => simp [pairC] at hu
set_option maxRecDepth 40000 in
set_option maxHeartbeats 1600000 in
theorem shown_any (w : World) (hT : TabW w) : Calls Tryz.prog 8 #[] w fun e w' => e = .returned (.bool true) ∧ Below w.heap.size w w' := by
  have hb0 : Below w.heap.size w (w.alloc (.cells #[.string ⟨#[97]⟩, .string ⟨#[49]⟩, .string ⟨#[98]⟩, .string ⟨#[50]⟩] 60)) := (Below.refl _ _).alloc (Nat.le_refl _) _
  have hbd := build_any (w.alloc (.cells #[.string ⟨#[97]⟩, .string ⟨#[49]⟩, .string ⟨#[98]⟩, .string ⟨#[50]⟩] 60)) twoP _ (ls_twoP w) (hT.keep hb0 hT.1)
  rw [two_build] at hbd
  simp only at hbd
  have hfi := two_find
  have ho2 : (leafO twoP).2.length ≤ 140737488351232 := by
    have := leafB_le (show leafOk ltB twoP = true by decide)
    show (76 :: leafB twoP).length ≤ _
    simp
    omega
  obtain ⟨o, ho⟩ : ∃ o, o = leafO twoP := ⟨_, rfl⟩
  rw [← ho] at hbd hfi ho2
  have H0 := hide hb0
  have HFI := hide hfi
  have HO2 := hide ho2
  clear hb0 hfi ho2 ho hT
  go_enter Tryz.func8, Tryz.ntmps8
  go_wp2_with fail
  refine hbd.mono ?_
  rintro e w1 ⟨v, rfl, hrow, hb1⟩
  have hB1 := H0.out.trans (hb1.mono H0.out.size)
  obtain ⟨ao, c, rfl, -⟩ := own_form hrow
  have hfr := from_any w1 ao ([o] : List Pair).length c
  have hb3 : Below w1.heap.size w1 (w1.alloc (.cells #[.slice ao ([o] : List Pair).length c] 25)) := (Below.refl _ _).alloc (Nat.le_refl _) _
  have hc3 := heap_last w1 (.cells #[.slice ao ([o] : List Pair).length c] 25) _ rfl
  have hrow3 := own_below hrow hb3
  have hls := ls_of_own (cs := pairC) (xs := [o]) pairC_length hrow3
  have hG := get_from (w2 := w1.alloc (.cells #[.slice ao ([o] : List Pair).length c] 25)) [83] (by decide) hc3 hls (by simpa using HO2.out)
  have hre := find_prog (w1.alloc (.cells #[.slice ao ([o] : List Pair).length c] 25)) _ _ _ _ _ _ hG o.1 [98] (by decide) [] (Below.refl _ _) (by simp)
  rw [HFI.out] at hre
  simp only [List.length_singleton] at hre hfr
  have htl : (strB [50]).toList = [50] := toL [50]
  have htl2 : (⟨#[50]⟩ : ByteArray).toList = [50] := toL [50]
  have hs98 : strB [98] = ⟨#[98]⟩ := rfl
  rw [hs98] at hre
  have H3 := hide (hB1.trans (hb3.mono hB1.size))
  clear hbd hrow hb1 hB1 hb3 hc3 hrow3 hls hG
  simp only [List.length_singleton]
  go_wp2_with fail
  refine hfr.mono ?_
  rintro e w3 ⟨rfl, rfl⟩
  go_wp2_with fail
  refine hre.mono ?_
  rintro e w4 ⟨rfl, -, hM4⟩
  have H4 := hide (H3.out.trans (hM4.b.mono H3.out.size))
  clear hM4 hre hfr
  go_wp2
  go_ret
  exact ⟨rfl, H4.out⟩
end Go.Proofs.YtfeffaeinggiiaaGreatDoor

/-
  Are two lists of objects the same? Conditions: they lie there.
-/
namespace Go.Proofs.YtfeffaeinggiiaaGreatDoor
open Go.RowKit

def same1 {α : Type} [DecidableEq α] (x y : α) : Bool := decide (x = y)
theorem same1_true {α : Type} [DecidableEq α] {x y : α} (h : x = y) : same1 x y = true := decide_eq_true h
theorem same1_false {α : Type} [DecidableEq α] {x y : α} (h : ¬ x = y) : same1 x y = false := decide_eq_false h
theorem take_step {α : Type} {xs ys : List α} {k : Nat} (h1 : k < xs.length) (h2 : k < ys.length) (h : xs.take k = ys.take k) (he : xs[k] = ys[k]) : xs.take (k + 1) = ys.take (k + 1) := by
  rw [List.take_succ_eq_append_getElem h1, List.take_succ_eq_append_getElem h2, h, he]
theorem Tryz.eqObj : Tryz.prog.underlying 69 = some (.struct (Tryz.prog.fieldsOf 69)) ∧ Tryz.prog.stoodInHeld 69 = false ∧ Tryz.prog.eqGuardType Tryz.prog.depth 69 = false := ⟨by kernel_rfl, by kernel_rfl, by kernel_rfl⟩
theorem neq_Obj (W : World) (a0 b0 a1 b1 : Bs) : (binOp .neq 69 (.agg #[.string (strB a0), .string (strB a1)]) (.agg #[.string (strB b0), .string (strB b1)])).run Tryz.prog W = .ok (.bool (!(a0 == b0 && a1 == b1))) W := by
  obtain ⟨h1, h2, h3⟩ := Tryz.eqObj
  rw [run_neq_struct, run_equalIn_agg _ _ _ _ _ h1 h2]
  simp only [Program.fieldsOf, Tryz.underlying69]
  by_cases q0 : a0 = b0 <;> by_cases q1 : a1 = b1 <;> simp [Op.eqFields, go_sem, Tryz.underlying9, toL, q0, q1]
theorem neqObj (W : World) (x y : Pair) : (binOp .neq 69 (.agg #[.string (strB x.1), .string (strB x.2)]) (.agg #[.string (strB y.1), .string (strB y.2)])).run Tryz.prog W = .ok (.bool (!(same1 x y))) W := by
  rw [neq_Obj, show (x.1 == y.1 && x.2 == y.2) = same1 x y from by unfold same1; rw [Bool.eq_iff_iff]; simp [Prod.ext_iff]]
set_option maxRecDepth 20000 in
set_option maxHeartbeats 800000 in
theorem same_objs (w : World) (xs ys : List Pair) (vx vy : Value) (hvx : Ls w.heap.size w 2 pairC vx xs) (hvy : Ls w.heap.size w 2 pairC vy ys) :
    Calls Tryz.prog 12 #[vx, vy] w fun e w' => e = .returned (.bool (decide (xs = ys))) ∧ Below w.heap.size w w' := by
  obtain ⟨ax, capx, rfl, gx1, gx2, hx⟩ := hvx
  obtain ⟨ay, capy, rfl, gy1, gy2, hy⟩ := hvy
  unfold maxLen at gx2 gy2
  by_cases hle : xs.length = ys.length
  rotate_left
  · have hle' : ((xs.length : Int) == (ys.length : Int)) = false := by simp; omega
    go_enter Tryz.func12, Tryz.ntmps12
    go_wp2_with fail
    skip
    try go_wp2
    go_ret
    exact ⟨ret_bool (Eq.symm (decide_eq_false (fun e => hle (congrArg List.length e)))), Below.refl _ _⟩
  rw [hle] at gx1 ⊢
  have HLE := hide hle
  clear hle
  go_enter Tryz.func12, Tryz.ntmps12
  go_wp2_with fail
  skip
  go_loopw [5] (fun t wr => ∃ k : Nat, k ≤ ys.length ∧ t = .int .i64 k ∧ xs.take k = ys.take k ∧ Below w.heap.size w wr)
    (fun t _ => ys.length - (intOf t).toNat)
  case atStart => exact ⟨0, by omega, rfl, by simp, Below.refl _ _⟩
  case round =>
    obtain ⟨k, hk, rfl, htk, hbr⟩ := hrel
    have hbw : Below w.heap.size w wr := hbr
    have HB := hide hbr
    have HBW := hide hbw
    have HTK := hide htk
    clear hbr hbw htk
    by_cases hlt2 : k < ys.length
    · have hlt : k < xs.length := by rw [HLE.out]; exact hlt2
      obtain ⟨bx, offx, rfl, hbX, hcx⟩ := hx (by intro e; rw [e] at hlt; simp at hlt)
      obtain ⟨bY, offy, rfl, hbYl, hcy⟩ := hy (by intro e; rw [e] at hlt2; simp at hlt2)
      have c0 := (HBW.out.cell (p := ⟨bx, offx + k * 2 + 0, none⟩) hbX).trans (hcx k hlt 0 _ rfl)
      have d0 := (HBW.out.cell (p := ⟨bY, offy + k * 2 + 0, none⟩) hbYl).trans (hcy k hlt2 0 _ rfl)
      have c1 := (HBW.out.cell (p := ⟨bx, offx + k * 2 + 1, none⟩) hbX).trans (hcx k hlt 1 _ rfl)
      have d1 := (HBW.out.cell (p := ⟨bY, offy + k * 2 + 1, none⟩) hbYl).trans (hcy k hlt2 1 _ rfl)
      have hst := fun he => take_step hlt hlt2 HTK.out he
      have hno : xs[k] ≠ ys[k] → xs ≠ ys := fun hne e => hne (by simp only [e])
      generalize xs[k] = x at *
      generalize ys[k] = y at *
      try simp only [Nat.add_zero] at c0 d0 c1 d1
      have HST := hide hst
      have HNO := hide hno
      have hnq : ∀ W, _ := fun W => neqObj W x y
      clear hst hno hcx hcy hx hy hlt
      go_wp2_with fail
      refine wp_region_held_drew (S := fun W => W.cell? ⟨bx, offx + k * 2, none⟩ = some (.string (strB x.1)) ∧ W.cell? ⟨bx, offx + k * 2 + 1, none⟩ = some (.string (strB x.2)) ∧ W.cell? ⟨bY, offy + k * 2, none⟩ = some (.string (strB y.1)) ∧ W.cell? ⟨bY, offy + k * 2 + 1, none⟩ = some (.string (strB y.2))) (by kernel_rfl) (⟨c0, c1, d0, d1⟩) (fun hHeld => ?_)
      refine takeH (i := 0) (v := ?_) rfl (by kernel_rfl) (by kernel_rfl) (by kernel_rfl) (fun _ _ _ h => h) rfl ?_ hHeld ?_
      rotate_left
      · intro w hS; (try dsimp only at hS); obtain ⟨hS0, hS1, hS2, hS3⟩ := hS; go_simp; first | done | (with_reducible rfl)
      try simp only [Act.put, List.setIfInBounds_toArray, List.set_cons_zero, List.set_cons_succ]
      refine takeH (i := 1) (v := ?_) rfl (by kernel_rfl) (by kernel_rfl) (by kernel_rfl) (fun _ _ _ h => h) rfl ?_ hHeld ?_
      rotate_left
      · intro w hS; (try dsimp only at hS); obtain ⟨hS0, hS1, hS2, hS3⟩ := hS; go_simp; first | done | (with_reducible rfl)
      try simp only [Act.put, List.setIfInBounds_toArray, List.set_cons_zero, List.set_cons_succ]
      refine takeH (i := 2) (v := ?_) rfl (by kernel_rfl) (by kernel_rfl) (by kernel_rfl) (fun _ _ _ h => h) rfl ?_ hHeld ?_
      rotate_left
      · intro w hS; (try dsimp only at hS); obtain ⟨hS0, hS1, hS2, hS3⟩ := hS; go_simp; first | done | (with_reducible rfl)
      try simp only [Act.put, List.setIfInBounds_toArray, List.set_cons_zero, List.set_cons_succ]
      refine takeH (i := 3) (v := ?_) rfl (by kernel_rfl) (by kernel_rfl) (by kernel_rfl) (fun _ _ _ h => h) rfl ?_ hHeld ?_
      rotate_left
      · intro w hS; (try dsimp only at hS); obtain ⟨hS0, hS1, hS2, hS3⟩ := hS; go_simp; first | done | (with_reducible rfl)
      try simp only [Act.put, List.setIfInBounds_toArray, List.set_cons_zero, List.set_cons_succ]
      refine takeH (i := 4) (v := ?_) rfl (by kernel_rfl) (by kernel_rfl) (by kernel_rfl) (fun _ _ _ h => h) rfl ?_ hHeld ?_
      rotate_left
      · intro w hS; (try dsimp only at hS); obtain ⟨hS0, hS1, hS2, hS3⟩ := hS; go_simp; first | done | (with_reducible rfl)
      try simp only [Act.put, List.setIfInBounds_toArray, List.set_cons_zero, List.set_cons_succ]
      refine takeH (i := 5) (v := ?_) rfl (by kernel_rfl) (by kernel_rfl) (by kernel_rfl) (fun _ _ _ h => h) rfl ?_ hHeld ?_
      rotate_left
      · intro w hS; (try dsimp only at hS); obtain ⟨hS0, hS1, hS2, hS3⟩ := hS; go_simp; first | done | (with_reducible rfl)
      try simp only [Act.put, List.setIfInBounds_toArray, List.set_cons_zero, List.set_cons_succ]
      refine takeH (i := 6) (v := ?_) rfl (by kernel_rfl) (by kernel_rfl) (by kernel_rfl) (fun _ _ _ h => h) rfl ?_ hHeld ?_
      rotate_left
      · intro w hS; (try dsimp only at hS); obtain ⟨hS0, hS1, hS2, hS3⟩ := hS; go_simp; first | done | (with_reducible rfl)
      try simp only [Act.put, List.setIfInBounds_toArray, List.set_cons_zero, List.set_cons_succ]
      refine takeH (i := 7) (v := ?_) rfl (by kernel_rfl) (by kernel_rfl) (by kernel_rfl) (fun _ _ _ h => h) rfl ?_ hHeld ?_
      rotate_left
      · intro w hS; (try dsimp only at hS); obtain ⟨hS0, hS1, hS2, hS3⟩ := hS; go_simp; first | done | (with_reducible rfl)
      try simp only [Act.put, List.setIfInBounds_toArray, List.set_cons_zero, List.set_cons_succ]
      refine takeH (i := 8) (v := ?_) rfl (by kernel_rfl) (by kernel_rfl) (by kernel_rfl) (fun _ _ _ h => h) rfl ?_ hHeld ?_
      rotate_left
      · intro w hS; (try dsimp only at hS); obtain ⟨hS0, hS1, hS2, hS3⟩ := hS; go_simp; first | done | (with_reducible rfl)
      try simp only [Act.put, List.setIfInBounds_toArray, List.set_cons_zero, List.set_cons_succ]
      refine wpAnyH_done (by kernel_rfl) ?_ _
      clear hHeld hnq
      have hbD : Below w.heap.size w wr.drew := HB.out.drew
      have HBD := hide hbD
      clear hbD
      by_cases he : x = y
      · have hbe := same1_true he
        rw [hbe]
        go_wp2
        go_roundw
        case rel => exact ⟨k + 1, by omega, by go_num, HST.out he, HBD.out⟩
        case measure => simp [intOf]; omega
      · have hbe := same1_false he
        rw [hbe]
        go_wp2
        go_ret
        exact ⟨ret_bool (Eq.symm (decide_eq_false (fun e => HNO.out he (e)))), HBD.out⟩
    · have hall : xs = ys := by
        have := HTK.out
        have hL := HLE.out
        rwa [List.take_of_length_le (by omega), List.take_of_length_le (by omega)] at this
      go_wp2
      go_ret
      exact ⟨ret_bool (Eq.symm (decide_eq_true (hall))), HBW.out⟩
end Go.Proofs.YtfeffaeinggiiaaGreatDoor

/-
  ProllyBuilds, walked. Conditions: the pairs lie there; the table holds its numbers.
-/
namespace Go.Proofs.YtfeffaeinggiiaaGreatDoor
open Go.RowKit

theorem Ls.first {α : Type} {B : Nat} {w : World} {k : Nat} {cs : α → List Value} {ao : Option Addr} {n cap : Nat} {xs : List α} (h : Ls B w k cs (.slice ao n cap) xs) (z : Nat) (hz : z ≤ xs.length) : Ls B w k cs (.slice ao z cap) (xs.take z) := by
  obtain ⟨ao', cap', hv, h1, h2, h4⟩ := h
  injection hv with e1 e2 e3
  subst e1 e3
  have hl : (xs.take z).length = z := by simp; omega
  refine ⟨_, _, by rw [hl], by rw [hl]; omega, h2, fun hne => ?_⟩
  obtain ⟨b, off, e, hb, hc⟩ := h4 (by rintro rfl; simp at hne)
  refine ⟨b, off, e, hb, fun j hj i u hu => ?_⟩
  rw [hl] at hj
  exact hc j (by omega) i u (by simpa using hu)
set_option maxRecDepth 20000 in
theorem few_any (w : World) (l : List Pair) (v : Value) (hv : Ls w.heap.size w 2 pairC v l) :
    Calls Tryz.prog 9 #[v] w fun e w' => ∃ u, e = .returned u ∧ Ls w.heap.size w 2 pairC u (l.take 4097) ∧ w' = w := by
  have HV := hide hv
  obtain ⟨ao, cap, rfl, h1, h2, -⟩ := hv
  unfold maxLen at h2
  by_cases h : l.length ≤ 4097
  · have ht : l.take 4097 = l := List.take_of_length_le h
    rw [ht]
    clear ht
    go_enter Tryz.func9, Tryz.ntmps9
    go_wp2
    go_ret
    exact ⟨_, rfl, HV.out, rfl⟩
  · have HF := hide (HV.out.first 4097 (by omega))
    have h3 : (4097 : Int) ≤ (cap : Int) := by omega
    go_enter Tryz.func9, Tryz.ntmps9
    go_wp2
    go_ret
    exact ⟨_, rfl, HF.out, rfl⟩
set_option maxRecDepth 40000 in
set_option maxHeartbeats 1600000 in
theorem builds_any (w : World) (l : List Pair) (v : Value) (hv : Ls w.heap.size w 2 pairC v l) (hT : TabW w) :
    Calls Tryz.prog 3 #[v] w fun e w' => e = .returned (.bool true) ∧ Below w.heap.size w w' := by
  have hsh := shown_any w hT
  have HV := hide hv
  obtain ⟨ao, cap, rfl, -⟩ := hv
  go_enter Tryz.func3, Tryz.ntmps3
  go_wp2_with fail
  refine hsh.mono ?_
  rintro e w1 ⟨rfl, hb1⟩
  clear hsh
  have hfw := few_any w1 l _ ((HV.out.keep hb1).up hb1.size)
  go_wp2_with fail
  refine hfw.mono ?_
  rintro e w1' ⟨u, rfl, hlu, he⟩
  subst he
  clear hfw
  have hT1 := hT.keep hb1 hT.1
  have hbd := build_any w1' (l.take 4097) u hlu hT1
  obtain ⟨ua, uc, rfl, -⟩ := ls_none hlu
  generalize l.take 4097 = d at *
  obtain ⟨R, hR⟩ : ∃ R, R = buildM d := ⟨_, rfl⟩
  rw [← hR] at hbd
  have HLU := hide hlu
  have HR := hide hR
  have HB1 := hide hb1
  clear hlu hR hb1 hT hT1
  go_wp2_with fail
  refine hbd.mono ?_
  rintro e w2 ⟨vo, rfl, hrow, hb2⟩
  have hrb := build12_any w2 d _ ((HLU.out.keep hb2).up hb2.size)
  rw [← HR.out] at hrb
  have hB2 := HB1.out.trans (hb2.mono HB1.out.size)
  have H2 := hide (And.intro hrow hB2)
  obtain ⟨va, vm, vc, rfl⟩ := row_form hrow
  clear hbd hrow hb2 hB2
  go_wp2_with fail
  refine hrb.mono ?_
  rintro e w3 ⟨ur, rfl, hrow3, hb3⟩
  have hl3 := ls_of_own pairC_length (own_below H2.out.1 hb3)
  have hm3 := ls_of_own pairC_length hrow3
  obtain ⟨ra, rm, rc, rfl⟩ := row_form hrow3
  have hsm := same_objs w3 R.2.1 R.2.1 _ _ hl3 hm3
  rw [decide_eq_true (rfl : R.2.1 = R.2.1)] at hsm
  have hbq : (R.1 == R.1) = true := by simp
  have htl := toL R.1
  have hiq : (R.2.2 == R.2.2) = true := by simp
  have H3 := hide (H2.out.2.trans (hb3.mono H2.out.2.size))
  clear hrb hrow3 hb3 hl3 hm3
  go_wp2_with fail
  refine hsm.mono ?_
  rintro e w4 ⟨rfl, hb4⟩
  have H4 := hide (H3.out.trans (hb4.mono H3.out.size))
  clear hsm hb4
  go_wp2
  go_ret
  exact ⟨rfl, H4.out⟩
end Go.Proofs.YtfeffaeinggiiaaGreatDoor
