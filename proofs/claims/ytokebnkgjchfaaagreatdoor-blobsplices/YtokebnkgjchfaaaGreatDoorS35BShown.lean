/-
  Texts joined: BShown, BSameP, BSameO.
-/
import Derived.Test.YtokebnkgjchfaaaGreatDoorS28BRise
import Derived.Test.YtokebnkgjchfaaaGreatDoorS26BBuild1
import Derived.Laws.StructEq
/-
  What the statements show first. Conditions: the table holds its numbers.
-/
namespace Go.Proofs.YtokebnkgjchfaaaGreatDoor
open Go.RowKit

/-- The get of a list that lies there. -/
theorem get_from {w2 : World} {c : Nat} {v : Value} {objs : List Pair} (ts : List TypeId) (hn : 96 ∈ ts) (hc : w2.heap[c]? = some (.cells #[v] 26)) (hv : Ls w2.heap.size w2 2 pairC v objs) (hs : ∀ o ∈ objs, o.2.length ≤ 140737488351232) :
    GetOk 27 #[.pointer (some ⟨c, 0, none⟩)] (findO objs) w2.heap.size ts (fun W _ => Below w2.heap.size w2 W) where
  eg := enters_own Tryz.func27 (by kernel_rfl) rfl
  le W a h := h.size
  keep W W' a r h hm _ := h.trans hm.b
  call W a id h _ := (from1_any W c v objs id ((h.block c (lt_of_heap hc)).trans hc) ((hv.keep h).up h.size)).mono fun e w' hq => ⟨hq.1, hq.2 ▸ h, hq.2 ▸ Mv.refl _ _ _ _⟩
  node := hn
  short id b h := by obtain ⟨o, ho, rfl⟩ := findO_mem h; exact hs o ho
set_option maxRecDepth 20000 in
theorem from_any (w : World) (ao : Option Addr) (m c : Nat) : Calls Tryz.prog 12 #[.slice ao m c] w fun e w' => e = .returned (.func (.func 27) #[] #[.pointer (some ⟨w.heap.size, 0, none⟩)]) ∧ w' = w.alloc (.cells #[.slice ao m c] 26) := by
  have hmf : ∀ (fn : Fn) (first cap : Array Value) (w : World), (Instr.makeFunc fn first cap).run Tryz.prog w = .ok (.func fn first cap) w := fun _ _ _ _ => rfl
  go_enter Tryz.func12, Tryz.ntmps12
  go_wp2
  go_ret
  exact ⟨rfl, rfl⟩
def someB : Bs := [115, 111, 109, 101, 32, 98, 121, 116, 101, 115]
theorem node_chunk (d : Bs) (h : d.length ≤ 1024) : nodeOf (67 :: d) = some (0, d, []) := by
  unfold nodeOf
  rw [(takenChunk_iff (67 :: d) d).2 ⟨by unfold chunkOk; simpa using h, rfl⟩]
theorem shown_read : readP (findO [objOf someB]) (partOf someB) 5 100 [] = ⟨[(partOf someB).1], [98, 121, 116, 101, 115], [partOf someB], 0⟩ := by
  have hfd : findO [objOf someB] (partOf someB).1 = some (67 :: someB) := by unfold findO objOf partOf; simp
  have hask : askN (findO [objOf someB]) (partOf someB) (-1) = (0, 0, someB, []) := askN_yes hfd (node_chunk someB (by decide)) ⟨rfl, .inl rfl⟩
  have he : endP (partOf someB).2 5 100 = 10 := rfl
  unfold readP
  rw [he, goS_chunk rfl (by show max 5 0 < min 10 (0 + 10); decide) (by rw [hask]) (by rw [hask]), hask]
  rfl
set_option maxRecDepth 40000 in
set_option maxHeartbeats 1600000 in
theorem shown_any (w : World) (hT : TabW w) : Calls Tryz.prog 6 #[] w fun e w' => e = .returned (.bool true) ∧ Below w.heap.size w w' := by
  have hcut : cutC someB = [someB] := cut_short (by decide) (by decide)
  have hbd := build_one w someB someB hcut hT (by decide)
  have hsb : strB someB = ⟨#[115, 111, 109, 101, 32, 98, 121, 116, 101, 115]⟩ := rfl
  have hp2 : (partOf someB).2 = 10 := rfl
  rw [hsb, hp2] at hbd
  have hrr : rightR (partOf someB) = true := (rightR_iff _).2 ⟨sha_length _, by decide, by decide⟩
  have hrd := shown_read
  obtain ⟨p, hp⟩ : ∃ p, p = partOf someB := ⟨_, rfl⟩
  obtain ⟨o, ho⟩ : ∃ o, o = objOf someB := ⟨_, rfl⟩
  have ho2 : o.2.length ≤ 140737488351232 := by rw [ho]; decide
  rw [← hp] at hbd hrr hrd hp2
  rw [← ho] at hbd hrd
  clear hcut hsb hp ho
  go_enter Tryz.func6, Tryz.ntmps6
  go_wp2_with fail
  refine hbd.mono ?_
  rintro e w1 ⟨v, rfl, hrow, hb1⟩
  obtain ⟨ao, m, c, rfl⟩ := row_form hrow
  have hb2 : Below w1.heap.size w1 (w1.alloc (.cells #[.string (strB p.1), .int .i64 10] 25)) := (Below.refl _ _).alloc (Nat.le_refl _) _
  have hx2 := heap_last w1 (.cells #[.string (strB p.1), .int .i64 10] 25) _ rfl
  have hB2 := hb1.trans (hb2.mono hb1.size)
  have hrow2 := own_below hrow hb2
  generalize hw2 : w1.alloc (.cells #[.string (strB p.1), .int .i64 10] 25) = w2 at *
  have hfr := from_any w2.drew ao m c
  have hb3 : Below w2.heap.size w2 (w2.alloc (.cells #[.slice ao m c] 26)).drew := ((Below.refl _ _).alloc (Nat.le_refl _) _).drew
  have hc3 : (w2.alloc (.cells #[.slice ao m c] 26)).drew.heap[w2.heap.size]? = _ := heap_last w2 (.cells #[.slice ao m c] 26) _ rfl
  have hx3 := (hb3.block _ (lt_of_heap hx2)).trans hx2
  have hrow3 := own_below hrow2 hb3
  have hls := ls_of_own (cs := pairC) pairC_length hrow3
  have hG := get_from (w2 := (w2.alloc (.cells #[.slice ao m c] 26)).drew) rts (by decide) hc3 hls (by simpa using ho2)
  have hre := bread_any (w2.alloc (.cells #[.slice ao m c] 26)).drew _ _ _ _ _ hG p 5 100 [] (Below.refl _ _) (by simp) hrr (by decide) (by decide) (by decide) (by decide)
  rw [hrd] at hre
  simp only [readV, if_true, hp2] at hre
  have htl := toL [98, 121, 116, 101, 115]
  have hbq : (([98, 121, 116, 101, 115] : Bs) == [98, 121, 116, 101, 115]) = true := rfl
  have htl2 : (⟨#[98, 121, 116, 101, 115]⟩ : ByteArray).toList = [98, 121, 116, 101, 115] := toL [98, 121, 116, 101, 115]
  have hlen : m = 1 := by
    obtain ⟨a', c', hv, -⟩ := own_form hrow
    injection hv with _ h2 _
  subst hlen
  have y0 := cell_of_row w2 w1.heap.size 0 _ _ _ hx2
  have y1 := cell_of_row w2 w1.heap.size 1 _ _ _ hx2
  have z0 := cell_of_row (w2.alloc (.cells #[.slice ao 1 c] 26)) w1.heap.size 0 _ _ _ hx3
  have z1 := cell_of_row (w2.alloc (.cells #[.slice ao 1 c] 26)) w1.heap.size 1 _ _ _ hx3
  simp only [List.getElem?_toArray, List.getElem?_cons_zero, List.getElem?_cons_succ] at y0 y1 z0 z1
  have H3 := hide (And.intro (hB2.trans (hb3.mono hB2.size)) hx3)
  clear hbd hrow hb1 hb2 hB2 hrow2 hb3 hc3 hrow3 hls hG hrd hx2 hx3 hrr ho2
  go_wp2_with fail
  refine wp_region_held_drew (S := fun W => W.cell? ⟨w1.heap.size, 0, none⟩ = some (.string (strB p.1)) ∧ W.cell? ⟨w1.heap.size, 1, none⟩ = some (.int .i64 10)) (by kernel_rfl) (⟨y0, y1⟩) (fun hHeld => ?_)
  refine takeJ 0 (v := ?_) ?_ hHeld ?_
  rotate_left
  · rintro w ⟨_, _⟩; go_simp; try with_reducible rfl
  refine takeJ 2 (v := ?_) ?_ hHeld ?_
  rotate_left
  · rintro w ⟨_, _⟩; go_simp; try with_reducible rfl
  refine onlyH (i := 1) rfl (by kernel_rfl) rfl (fun K hK => ?_)
  go_simp
  refine hfr.mono ?_
  rintro e w3 ⟨rfl, rfl⟩
  go_simp
  refine hK.out _ _ (⟨z0, z1⟩) (fun hHeld => ?_)
  clear hK K
  try simp only [Act.put, List.setIfInBounds_toArray, List.set_cons_zero, List.set_cons_succ]
  refine onlyH (i := 3) rfl (by kernel_rfl) rfl (fun K hK => ?_)
  go_simp
  refine hre.mono ?_
  rintro e w4 ⟨rfl, -, hM4⟩
  have hx4 := hM4.k _ _ _ _ H3.out.2 (by decide) (by simp)
  have u0 := cell_of_row w4 w1.heap.size 0 _ _ _ hx4
  have u1 := cell_of_row w4 w1.heap.size 1 _ _ _ hx4
  simp only [List.getElem?_toArray, List.getElem?_cons_zero, List.getElem?_cons_succ] at u0 u1
  refine hK.out _ _ (⟨u0, u1⟩) (fun hHeld => ?_)
  clear hK K
  try simp only [Act.put, List.setIfInBounds_toArray, List.set_cons_zero, List.set_cons_succ]
  refine takeJ 4 (v := ?_) ?_ hHeld ?_
  rotate_left
  · rintro w ⟨_, _⟩; go_simp; try with_reducible rfl
  refine takeJ 5 (v := ?_) ?_ hHeld ?_
  rotate_left
  · rintro w ⟨_, _⟩; go_simp; try with_reducible rfl
  refine takeJ 6 (v := ?_) ?_ hHeld ?_
  rotate_left
  · rintro w ⟨_, _⟩; go_simp; try with_reducible rfl
  refine takeJ 7 (v := ?_) ?_ hHeld ?_
  rotate_left
  · rintro w ⟨_, _⟩; go_simp; try with_reducible rfl
  refine takeJ 8 (v := ?_) ?_ hHeld ?_
  rotate_left
  · rintro w ⟨_, _⟩; go_simp; try with_reducible rfl
  refine wpAnyH_done (by kernel_rfl) ?_ _
  clear hHeld
  have H4 := hide (H3.out.1.trans (hM4.b.mono (by have := H3.out.1.size; exact this)))
  clear hM4 hre hfr hx4
  go_wp2
  go_ret
  exact ⟨rfl, H4.out⟩
end Go.Proofs.YtokebnkgjchfaaaGreatDoor

/-
  Are two lists of parts the same? Conditions: they lie there.
-/
namespace Go.Proofs.YtokebnkgjchfaaaGreatDoor
open Go.RowKit

/-- Are two the same? -/
def same1 {α : Type} [DecidableEq α] (x y : α) : Bool := decide (x = y)
theorem same1_true {α : Type} [DecidableEq α] {x y : α} (h : x = y) : same1 x y = true := decide_eq_true h
theorem same1_false {α : Type} [DecidableEq α] {x y : α} (h : ¬ x = y) : same1 x y = false := decide_eq_false h
theorem Tryz.eqPart : Tryz.prog.underlying 25 = some (.struct (Tryz.prog.fieldsOf 25)) ∧ Tryz.prog.stoodInHeld 25 = false ∧ Tryz.prog.eqGuardType Tryz.prog.depth 25 = false := ⟨by kernel_rfl, by kernel_rfl, by kernel_rfl⟩
theorem take_step {α : Type} {xs ys : List α} {k : Nat} (h1 : k < xs.length) (h2 : k < ys.length) (h : xs.take k = ys.take k) (he : xs[k] = ys[k]) : xs.take (k + 1) = ys.take (k + 1) := by
  rw [List.take_succ_eq_append_getElem h1, List.take_succ_eq_append_getElem h2, h, he]
end Go.Proofs.YtokebnkgjchfaaaGreatDoor

/-
  Are two lists of objects the same? Conditions: they lie there.
-/
namespace Go.Proofs.YtokebnkgjchfaaaGreatDoor
open Go.RowKit

theorem Tryz.eqObj : Tryz.prog.underlying 57 = some (.struct (Tryz.prog.fieldsOf 57)) ∧ Tryz.prog.stoodInHeld 57 = false ∧ Tryz.prog.eqGuardType Tryz.prog.depth 57 = false := ⟨by kernel_rfl, by kernel_rfl, by kernel_rfl⟩
theorem neq_Obj (W : World) (a0 b0 a1 b1 : Bs) : (binOp .neq 57 (.agg #[.string (strB a0), .string (strB a1)]) (.agg #[.string (strB b0), .string (strB b1)])).run Tryz.prog W = .ok (.bool (!(a0 == b0 && a1 == b1))) W := by
  obtain ⟨h1, h2, h3⟩ := Tryz.eqObj
  rw [run_neq_struct, run_equalIn_agg _ _ _ _ _ h1 h2]
  simp only [Program.fieldsOf, Tryz.underlying57]
  by_cases q0 : a0 = b0 <;> by_cases q1 : a1 = b1 <;> simp [Op.eqFields, go_sem, Tryz.underlying9, toL, q0, q1]
theorem neqObj (W : World) (x y : Pair) : (binOp .neq 57 (.agg #[.string (strB x.1), .string (strB x.2)]) (.agg #[.string (strB y.1), .string (strB y.2)])).run Tryz.prog W = .ok (.bool (!(same1 x y))) W := by
  rw [neq_Obj, show (x.1 == y.1 && x.2 == y.2) = same1 x y from by unfold same1; rw [Bool.eq_iff_iff]; simp [Prod.ext_iff]]
/-- Two parts, as one value. -/
theorem eqlPart (W : World) (x y : Part) : (binOp .eql 25 (.agg #[.string (strB x.1), .int .i64 x.2]) (.agg #[.string (strB y.1), .int .i64 y.2])).run Tryz.prog W = .ok (.bool (same1 x y)) W := by
  obtain ⟨h1, h2, h3⟩ := Tryz.eqPart
  rw [run_eql_struct, run_equalIn_agg _ _ _ _ _ h1 h2]
  simp only [Program.fieldsOf, Tryz.underlying25]
  obtain ⟨x1, x2⟩ := x
  obtain ⟨y1, y2⟩ := y
  by_cases q0 : x1 = y1 <;> by_cases q1 : x2 = y2 <;> simp [Op.eqFields, go_sem, Tryz.underlying9, Tryz.underlying2, toL, q0, q1, same1]
set_option maxRecDepth 20000 in
set_option maxHeartbeats 800000 in
theorem same_objs (w : World) (xs ys : List Pair) (vx vy : Value) (hvx : Ls w.heap.size w 2 pairC vx xs) (hvy : Ls w.heap.size w 2 pairC vy ys) :
    Calls Tryz.prog 10 #[vx, vy] w fun e w' => e = .returned (.bool (decide (xs = ys))) ∧ Below w.heap.size w w' := by
  obtain ⟨ax, capx, rfl, gx1, gx2, hx⟩ := hvx
  obtain ⟨ay, capy, rfl, gy1, gy2, hy⟩ := hvy
  unfold maxLen at gx2 gy2
  by_cases hle : xs.length = ys.length
  rotate_left
  · have hle' : ((xs.length : Int) == (ys.length : Int)) = false := by simp; omega
    go_enter Tryz.func10, Tryz.ntmps10
    go_wp2_with fail
    skip
    try go_wp2
    go_ret
    exact ⟨ret_bool (Eq.symm (decide_eq_false (fun e => hle (congrArg List.length e)))), Below.refl _ _⟩
  rw [hle] at gx1 ⊢
  have HLE := hide hle
  clear hle
  go_enter Tryz.func10, Tryz.ntmps10
  go_wp2_with fail
  skip
  go_loopw [5] (fun t wr => ∃ k : Nat, k ≤ ys.length ∧ t = .int .i64 k ∧ xs.take k = ys.take k ∧ Below w.heap.size w wr)
    (fun t _ => ys.length - (intOf t).toNat)
  case atStart => exact ⟨0, by omega, rfl, by simp, Below.refl _ _⟩
  case round =>
    obtain ⟨k, hk, rfl, htk, hbr⟩ := hrel
    have hbw : Below w.heap.size w wr := hbr
    have HB := hide hbr
    have HBW := hide hbw
    have HTK := hide htk
    clear hbr hbw htk
    by_cases hlt2 : k < ys.length
    · have hlt : k < xs.length := by rw [HLE.out]; exact hlt2
      obtain ⟨bx, offx, rfl, hbX, hcx⟩ := hx (by intro e; rw [e] at hlt; simp at hlt)
      obtain ⟨bY, offy, rfl, hbYl, hcy⟩ := hy (by intro e; rw [e] at hlt2; simp at hlt2)
      have c0 := (HBW.out.cell (p := ⟨bx, offx + k * 2 + 0, none⟩) hbX).trans (hcx k hlt 0 _ rfl)
      have d0 := (HBW.out.cell (p := ⟨bY, offy + k * 2 + 0, none⟩) hbYl).trans (hcy k hlt2 0 _ rfl)
      have c1 := (HBW.out.cell (p := ⟨bx, offx + k * 2 + 1, none⟩) hbX).trans (hcx k hlt 1 _ rfl)
      have d1 := (HBW.out.cell (p := ⟨bY, offy + k * 2 + 1, none⟩) hbYl).trans (hcy k hlt2 1 _ rfl)
      have hst := fun he => take_step hlt hlt2 HTK.out he
      have hno : xs[k] ≠ ys[k] → xs ≠ ys := fun hne e => hne (by simp only [e])
      generalize xs[k] = x at *
      generalize ys[k] = y at *
      try simp only [Nat.add_zero] at c0 d0 c1 d1
      have HST := hide hst
      have HNO := hide hno
      have hnq : ∀ W, _ := fun W => neqObj W x y
      clear hst hno hcx hcy hx hy hlt
      go_wp2_with fail
      refine wp_region_held_drew (S := fun W => W.cell? ⟨bx, offx + k * 2, none⟩ = some (.string (strB x.1)) ∧ W.cell? ⟨bx, offx + k * 2 + 1, none⟩ = some (.string (strB x.2)) ∧ W.cell? ⟨bY, offy + k * 2, none⟩ = some (.string (strB y.1)) ∧ W.cell? ⟨bY, offy + k * 2 + 1, none⟩ = some (.string (strB y.2))) (by kernel_rfl) (⟨c0, c1, d0, d1⟩) (fun hHeld => ?_)
      refine takeJ 0 (v := ?_) ?_ hHeld ?_
      rotate_left
      · rintro w ⟨_, _, _, _⟩; go_simp; try with_reducible rfl
      refine takeJ 1 (v := ?_) ?_ hHeld ?_
      rotate_left
      · rintro w ⟨_, _, _, _⟩; go_simp; try with_reducible rfl
      refine takeJ 2 (v := ?_) ?_ hHeld ?_
      rotate_left
      · rintro w ⟨_, _, _, _⟩; go_simp; try with_reducible rfl
      refine takeJ 3 (v := ?_) ?_ hHeld ?_
      rotate_left
      · rintro w ⟨_, _, _, _⟩; go_simp; try with_reducible rfl
      refine takeJ 4 (v := ?_) ?_ hHeld ?_
      rotate_left
      · rintro w ⟨_, _, _, _⟩; go_simp; try with_reducible rfl
      refine takeJ 5 (v := ?_) ?_ hHeld ?_
      rotate_left
      · rintro w ⟨_, _, _, _⟩; go_simp; try with_reducible rfl
      refine takeJ 6 (v := ?_) ?_ hHeld ?_
      rotate_left
      · rintro w ⟨_, _, _, _⟩; go_simp; try with_reducible rfl
      refine takeJ 7 (v := ?_) ?_ hHeld ?_
      rotate_left
      · rintro w ⟨_, _, _, _⟩; go_simp; try with_reducible rfl
      refine takeJ 8 (v := ?_) ?_ hHeld ?_
      rotate_left
      · rintro w ⟨_, _, _, _⟩; go_simp; try with_reducible rfl
      refine wpAnyH_done (by kernel_rfl) ?_ _
      clear hHeld hnq
      have hbD : Below w.heap.size w wr.drew := HB.out.drew
      have HBD := hide hbD
      clear hbD
      by_cases he : x = y
      · have hbe := same1_true he
        rw [hbe]
        go_wp2
        go_roundw
        case rel => exact ⟨k + 1, by omega, by go_num, HST.out he, HBD.out⟩
        case measure => simp [intOf]; omega
      · have hbe := same1_false he
        rw [hbe]
        go_wp2
        go_ret
        exact ⟨ret_bool (Eq.symm (decide_eq_false (fun e => HNO.out he (e)))), HBD.out⟩
    · have hall : xs = ys := by
        have := HTK.out
        have hL := HLE.out
        rwa [List.take_of_length_le (by omega), List.take_of_length_le (by omega)] at this
      go_wp2
      go_ret
      exact ⟨ret_bool (Eq.symm (decide_eq_true (hall))), HBW.out⟩
end Go.Proofs.YtokebnkgjchfaaaGreatDoor
