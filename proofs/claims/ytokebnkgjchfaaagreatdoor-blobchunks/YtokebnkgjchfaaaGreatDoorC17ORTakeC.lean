/-
  Texts joined: ORTakeC, BNode.
-/
import Derived.Test.YtokebnkgjchfaaaGreatDoorC16ORTakeF
import Derived.Test.YtokebnkgjchfaaaGreatDoorC15ORFan2
import Derived.Test.YtokebnkgjchfaaaGreatDoorC3HSpread
/-
  A chunk read by the reference; the answers' forms. Conditions: lengths within reach.
-/
namespace Go.Proofs.YtokebnkgjchfaaaGreatDoor
open Go.RowKit

/-- What TakeChunk answers. -/
def chunkV (b : Bs) : Value := match takenChunk b with | some d => .tuple #[.string (strB d), .int .i64 0] | none => .tuple #[.string (strB []), .int .i64 81]
theorem chunkV_no {b : Bs} (h : takenChunk b = none) : chunkV b = .tuple #[.string ⟨#[]⟩, .int .i64 81] := by unfold chunkV; rw [h]; rfl
set_option maxRecDepth 20000 in
set_option maxHeartbeats 800000 in
theorem rtakeChunk_any (w : World) (b : Bs) (hb : b.length ≤ 140737488351232) :
    Calls Tryz.prog 46 #[.string (strB b)] w fun e w' => e = .returned (chunkV b) ∧ Below w.heap.size w w' := by
  have hs := strB_size b
  cases b with
  | nil =>
    rw [chunkV_no rfl]
    go_enter Tryz.func46, Tryz.ntmps46
    go_wp2
    go_ret2
    exact ⟨rfl, Below.refl _ _⟩
  | cons x r =>
    have hix : ∀ W, (Instr.index 9 (.string (strB (x :: r))) (.int .i64 0)).run Tryz.prog W = .ok (.int .u8 (x.toNat : Int)) W := fun W => index_str W (x :: r) .i64 0 (by simp)
    have hpos : 1 ≤ (x :: r).length := by simp
    by_cases hx : x = 67
    · subst hx
      by_cases hl : (67 :: r).length ≤ 1025
      · have hv : chunkV (67 :: r) = .tuple #[.string (strB r), .int .i64 0] := by
          have : takenChunk (67 :: r) = some r := (takenChunk_iff _ r).2 ⟨by unfold chunkOk; simp at hl ⊢; omega, rfl⟩
          unfold chunkV; rw [this]
        rw [hv]
        have hex := ext_strB (67 :: r) 1 (67 :: r).length
        rw [List.take_length, show (67 :: r).drop 1 = r from rfl] at hex
        generalize (67 :: r) = l at *
        have hz : ((l.length : Int) == 0) = false := by rw [beq_eq_false_iff_ne]; omega
        go_enter Tryz.func46, Tryz.ntmps46
        go_wp2
        go_ret2
        exact ⟨rfl, Below.refl _ _⟩
      · have hv : takenChunk (67 :: r) = none := by
          cases h' : takenChunk (67 :: r) with
          | none => rfl
          | some d =>
            obtain ⟨h1, h2⟩ := (takenChunk_iff _ d).1 h'
            unfold chunkOk at h1
            injection h2 with _ h2
            subst h2
            simp at h1 hl
            omega
        rw [chunkV_no hv]
        generalize (67 :: r) = l at *
        have hz : ((l.length : Int) == 0) = false := by rw [beq_eq_false_iff_ne]; omega
        go_enter Tryz.func46, Tryz.ntmps46
        go_wp2
        go_ret2
        exact ⟨rfl, Below.refl _ _⟩
    · have hv : takenChunk (x :: r) = none := by
        cases h' : takenChunk (x :: r) with
        | none => rfl
        | some d =>
          have h2 := ((takenChunk_iff _ d).1 h').2
          injection h2 with h2 _
          exact absurd h2 hx
      rw [chunkV_no hv]
      have hne : ¬ (((x.toNat : Nat) : Int) = 67) := fun h => hx ((bool_neq x 67).1 h)
      have hxc : (((x.toNat : Nat) : Int) != 67) = true := by simpa using hne
      generalize (x :: r) = l at *
      have hz : ((l.length : Int) == 0) = false := by rw [beq_eq_false_iff_ne]; omega
      go_enter Tryz.func46, Tryz.ntmps46
      go_wp2
      go_ret2
      exact ⟨rfl, Below.refl _ _⟩
end Go.Proofs.YtokebnkgjchfaaaGreatDoor

/-
  What a part stands for: nodes read, their sizes. Conditions: lists lie there; lengths within reach.
-/
namespace Go.Proofs.YtokebnkgjchfaaaGreatDoor
open Go.RowKit

set_option maxRecDepth 20000 in
theorem sizeOf_any (w : World) (v : Value) (xs : List Part) (hv : Ls w.heap.size w 2 partC v xs) (hs : ∀ p ∈ xs, 1 ≤ p.2) (hm : sizeP xs ≤ 262144) :
    Calls Tryz.prog 55 #[v] w fun e w' => e = .returned (.int .i64 (sizeP xs)) ∧ Below w.heap.size w w' := by
  obtain ⟨ao, cap, rfl, h1, h2, h4⟩ := hv
  unfold maxLen at h2
  go_enter Tryz.func55, Tryz.ntmps55
  go_wp2_with fail
  go_loopw [8, 3] (fun t u wr => ∃ k : Nat, k ≤ xs.length ∧ t = .int .i64 k ∧ u = .int .i64 (sizeP (xs.take k)) ∧ Below w.heap.size w wr)
    (fun t _ _ => xs.length - (intOf t).toNat)
  case atStart => exact ⟨0, by omega, rfl, rfl, Below.refl _ _⟩
  case round =>
    obtain ⟨k, hk, rfl, rfl, hb⟩ := hrel
    have HB := hide hb
    by_cases hlt : k < xs.length
    · obtain ⟨b, off, rfl, hbB, hc⟩ := h4 (by rintro rfl; simp at hlt)
      have c0 := (hb.cell (p := ⟨b, off + k * 2 + 0, none⟩) hbB).trans (hc k hlt 0 _ rfl)
      have c1 := (hb.cell (p := ⟨b, off + k * 2 + 1, none⟩) hbB).trans (hc k hlt 1 _ rfl)
      simp only [Nat.add_zero] at c0
      have hst := sizeP_step xs k hlt
      have hwi := sizeP_within xs hs k hlt
      have HB1 := hide (HB.out.alloc HB.out.size (.cells #[.string (strB xs[k].1), .int .i64 xs[k].2] 25))
      generalize xs[k] = x at *
      have HS := hide hst
      generalize sizeP (xs.take k) = n at *
      clear hst hb
      go_wp2
      go_roundw
      case rel => exact ⟨k + 1, by omega, by go_num, by rw [HS.out], HB1.out⟩
      case measure => simp [intOf]; omega
    · obtain rfl : k = xs.length := by omega
      rw [List.take_length]
      clear hb
      go_wp2
      go_ret
      exact ⟨rfl, HB.out⟩
set_option maxRecDepth 20000 in
theorem nsize_any (w : World) (v : Value) (n : Node) (hv : Ls w.heap.size w 2 partC v n.2.2) (hr : Right n) :
    Calls Tryz.prog 61 #[.agg #[.int .i64 n.1, v, .string (strB n.2.1)]] w fun e w' => e = .returned (.int .i64 (sizeN n)) ∧ Below w.heap.size w w' := by
  have hd := strB_size n.2.1
  have hx0 := heap_last w (.cells #[.int .i64 n.1, v, .string (strB n.2.1)] 96) _ rfl
  have hb0 : Below w.heap.size w (w.alloc (.cells #[.int .i64 n.1, v, .string (strB n.2.1)] 96)) := (Below.refl _ _).alloc (Nat.le_refl _) _
  have hso := sizeOf_any (w.alloc (.cells #[.int .i64 n.1, v, .string (strB n.2.1)] 96)).drew v n.2.2 ((hv.keep hb0).up (by simp)) hr.each hr.sum
  have hsz0 := sizeP_nonneg _ hr.each
  have hsz1 := hr.sum
  have hdl := hr.data
  have hN : sizeN n = n.2.1.length + sizeP n.2.2 := rfl
  rw [hN]
  have HB0 := hide hb0
  generalize sizeP n.2.2 = z at *
  obtain ⟨ao, cap, rfl, -⟩ := hv
  generalize hw0 : w.alloc (.cells #[.int .i64 n.1, .slice ao n.2.2.length cap, .string (strB n.2.1)] 96) = w0 at *
  have c1 := cell_of_row w0 w.heap.size 1 _ _ _ hx0
  have c2 := cell_of_row w0 w.heap.size 2 _ _ _ hx0
  simp only [List.getElem?_toArray, List.getElem?_cons_zero, List.getElem?_cons_succ] at c1 c2
  have HX := hide hx0
  have hwr : IntKind.i64.wrap ((n.2.1.length : Int) + z) = (n.2.1.length : Int) + z := by rw [IntKind.wrap_i64]; omega
  clear hb0 hx0 hN
  go_enter Tryz.func61, Tryz.ntmps61
  go_wp2_with fail
  try rw [hw0]
  refine wp_region_held_drew (S := fun W => W.cell? ⟨w.heap.size, 1, none⟩ = some (.slice ao n.2.2.length cap) ∧ W.cell? ⟨w.heap.size, 2, none⟩ = some (.string (strB n.2.1))) (by kernel_rfl) (⟨c1, c2⟩) (fun hHeld => ?_)
  refine takeJ 0 (v := ?_) ?_ hHeld ?_
  rotate_left
  · rintro w ⟨_, _⟩; go_simp; try with_reducible rfl
  refine takeJ 1 (v := ?_) ?_ hHeld ?_
  rotate_left
  · rintro w ⟨_, _⟩; go_simp; try with_reducible rfl
  refine takeJ 2 (v := ?_) ?_ hHeld ?_
  rotate_left
  · rintro w ⟨_, _⟩; go_simp; try with_reducible rfl
  refine takeJ 3 (v := ?_) ?_ hHeld ?_
  rotate_left
  · rintro w ⟨_, _⟩; go_simp; try with_reducible rfl
  refine takeJ 4 (v := ?_) ?_ hHeld ?_
  rotate_left
  · rintro w ⟨_, _⟩; go_simp; try with_reducible rfl
  refine takeJ 5 (v := ?_) ?_ hHeld ?_
  rotate_left
  · rintro w ⟨_, _⟩; go_simp; try with_reducible rfl
  refine onlyH (i := 6) rfl (by kernel_rfl) rfl (fun K hK => ?_)
  go_simp
  refine hso.mono ?_
  rintro e w1 ⟨rfl, hb1⟩
  have hx1 := (hb1.block _ (lt_of_heap HX.out)).trans HX.out
  have d1 := cell_of_row w1 w.heap.size 1 _ _ _ hx1
  have d2 := cell_of_row w1 w.heap.size 2 _ _ _ hx1
  simp only [List.getElem?_toArray, List.getElem?_cons_zero, List.getElem?_cons_succ] at d1 d2
  refine hK.out _ _ (⟨d1, d2⟩) (fun hHeld => ?_)
  clear hK K
  try simp only [Act.put, List.setIfInBounds_toArray, List.set_cons_zero, List.set_cons_succ]
  refine takeJ 7 (v := ?_) ?_ hHeld ?_
  rotate_left
  · rintro w ⟨_, _⟩; go_simp; try with_reducible rfl
  refine takeJ 8 (v := ?_) ?_ hHeld ?_
  rotate_left
  · rintro w ⟨_, _⟩; go_simp; try with_reducible rfl
  refine wpAnyH_done (by kernel_rfl) ?_ _
  go_wp2
  go_ret
  exact ⟨rfl, HB0.out.drew.trans (hb1.mono HB0.out.size)⟩
/-- What takeNode answers. -/
def nodeSaid (B : Nat) (b : Bs) (e : Ending) (w' : World) : Prop :=
  match nodeOf b with
  | some n => ∃ v, e = .returned (.tuple #[.agg #[.int .i64 n.1, v, .string (strB n.2.1)], .bool true]) ∧ w'.ownsRow B 25 2 v n.2.2.length (n.2.2.flatMap partC)
  | none => ∃ v, e = .returned (.tuple #[.agg #[.int .i64 0, v, .string (strB [])], .bool false]) ∧ w'.ownsRow B 25 2 v 0 []
theorem Tryz.infoNode : (Tryz.prog.info? 96).map (·.size) = some 3 := by kernel_rfl
theorem heap_set3a {w : World} {g : Nat} {v0 v1 v2 u0 : Value} {t : TypeId} (h : w.heap[g]? = some (.cells #[v0, v1, v2] t)) : (w.setCell ⟨g, 0, none⟩ u0).heap[g]? = some (.cells #[u0, v1, v2] t) := by
  rw [heap_setCell _ _ _ _ _ _ _ h]
  simp
set_option maxRecDepth 20000 in
set_option maxHeartbeats 800000 in
theorem takeNode_any (w : World) (b : Bs) (hb : b.length ≤ 140737488355328) :
    Calls Tryz.prog 60 #[.string (strB b)] w fun e w' => nodeSaid w.heap.size b e w' ∧ Below w.heap.size w w' := by
  have hb0 : Below w.heap.size w (w.alloc (.cells #[.int .i64 0, .slice none 0 0, .string ⟨#[]⟩] 96)) := (Below.refl _ _).alloc (Nat.le_refl _) _
  have hx0 := heap_last w (.cells #[.int .i64 0, .slice none 0 0, .string ⟨#[]⟩] 96) _ rfl
  have hn0 : (w.alloc (.cells #[.int .i64 0, .slice none 0 0, .string ⟨#[]⟩] 96)).heap.size = w.heap.size + 1 := by simp
  generalize hw0 : w.alloc (.cells #[.int .i64 0, .slice none 0 0, .string ⟨#[]⟩] 96) = w0 at *
  have htc := takeChunk_any w0 b hb
  unfold nodeSaid nodeOf
  cases hc : takenChunk b with
  | some d =>
    rw [hc] at htc
    simp only at htc ⊢
    go_enter Tryz.func60, Tryz.ntmps60
    go_wp2_with fail
    try rw [hw0]
    refine htc.mono ?_
    rintro e w1 ⟨rfl, hb1⟩
    have hx1 := (hb1.block _ (lt_of_heap hx0)).trans hx0
    have B1 := hb0.trans (hb1.mono hb0.size)
    have c0 := cell_of_row w1 w.heap.size 0 _ _ _ hx1
    have c1 := cell_of_row w1 w.heap.size 1 _ _ _ hx1
    have c2 := cell_of_row w1 w.heap.size 2 _ _ _ hx1
    simp only [List.getElem?_toArray, List.getElem?_cons_zero, List.getElem?_cons_succ] at c0 c1 c2
    have f0 := frozen0 (j := 0) hx1
    have f1 := frozen0 (j := 1) hx1
    have f2 := frozen0 (j := 2) hx1
    clear htc hb1
    go_wp2
    refine bodyPost_ret (results_cell_tmp_row rfl _ _ _ _ _ _ _ rfl (heap_set3all hx1) Tryz.underlying96 rfl Tryz.infoNode) rfl ⟨⟨_, rfl, World.ownsRow_nil _ _ _ _⟩, ?_⟩
    exact ((B1.setCell (p := ⟨w.heap.size, 0, none⟩) (by simp) _).setCell (p := ⟨w.heap.size, 1, none⟩) (by simp) _).setCell (p := ⟨w.heap.size, 2, none⟩) (by simp) _
  | none =>
    rw [hc] at htc
    simp only at htc ⊢
    cases ht : takenFan b with
    | none =>
      go_enter Tryz.func60, Tryz.ntmps60
      go_wp2_with fail
      try rw [hw0]
      refine htc.mono ?_
      rintro e w1 ⟨rfl, hb1⟩
      have hx1 := (hb1.block _ (lt_of_heap hx0)).trans hx0
      have B1 := hb0.trans (hb1.mono hb0.size)
      have htf := takeFan_any w1 b hb
      unfold fanSaid at htf
      rw [ht] at htf
      simp only at htf
      clear htc hb1
      go_wp2_with fail
      refine htf.mono ?_
      rintro e w2 ⟨rfl, hb2⟩
      have hx2 := (hb2.block _ (lt_of_heap hx1)).trans hx1
      have B2 := B1.trans (hb2.mono B1.size)
      have hx3 := (heap_past w2 (.cells #[.int .i64 0, .slice none 0 0] 90) _ (lt_of_heap hx2)).trans hx2
      have hy3 := heap_last w2 (.cells #[.int .i64 0, .slice none 0 0] 90) _ rfl
      have B3 := B2.alloc B2.size (.cells #[.int .i64 0, .slice none 0 0] 90)
      generalize hw3 : w2.alloc (.cells #[.int .i64 0, .slice none 0 0] 90) = w3 at *
      have g0 := frozen0 (j := 0) hy3
      have g1 := frozen0 (j := 1) hy3
      have hne : w.heap.size ≠ w2.heap.size := Nat.ne_of_lt (lt_of_heap hx2)
      have hx4 : ((w3.setCell ⟨w2.heap.size, 0, none⟩ (.int .i64 0)).setCell ⟨w2.heap.size, 1, none⟩ (.slice none 0 0)).heap[w.heap.size]? = _ := (heap_setOther hne).trans ((heap_setOther hne).trans hx3)
      have hy4 := heap_set2 (u0 := .int .i64 0) (u1 := .slice none 0 0) hy3
      have B4 := (B3.setCell (p := ⟨w2.heap.size, 0, none⟩) B2.size (.int .i64 0)).setCell (p := ⟨w2.heap.size, 1, none⟩) B2.size (.slice none 0 0)
      generalize hw4 : (w3.setCell ⟨w2.heap.size, 0, none⟩ (.int .i64 0)).setCell ⟨w2.heap.size, 1, none⟩ (.slice none 0 0) = w4 at *
      have c0 := cell_of_row w4 w.heap.size 0 _ _ _ hx4
      have c1 := cell_of_row w4 w.heap.size 1 _ _ _ hx4
      have c2 := cell_of_row w4 w.heap.size 2 _ _ _ hx4
      have d0 := cell_of_row w4 w2.heap.size 0 _ _ _ hy4
      have d1 := cell_of_row w4 w2.heap.size 1 _ _ _ hy4
      have e0 := cell_of_row w3 w2.heap.size 0 _ _ _ hy3
      have e1 := cell_of_row w3 w2.heap.size 1 _ _ _ hy3
      simp only [List.getElem?_toArray, List.getElem?_cons_zero, List.getElem?_cons_succ] at c0 c1 c2 d0 d1 e0 e1
      have f0 := frozen0 (j := 0) hx4
      have f1 := frozen0 (j := 1) hx4
      have f2 := frozen0 (j := 2) hx4
      clear hne
      clear htf hb2
      go_wp2
      refine bodyPost_ret (results_cell_tmp_row rfl _ _ _ _ _ _ _ rfl (heap_set3all hx4) Tryz.underlying96 rfl Tryz.infoNode) rfl ⟨⟨_, rfl, ?_⟩, ?_⟩
      · exact World.ownsRow_nil _ _ _ _
      · exact ((B4.setCell (p := ⟨w.heap.size, 0, none⟩) (by simp) _).setCell (p := ⟨w.heap.size, 1, none⟩) (by simp) _).setCell (p := ⟨w.heap.size, 2, none⟩) (by simp) _
    | some f =>
      go_enter Tryz.func60, Tryz.ntmps60
      go_wp2_with fail
      try rw [hw0]
      refine htc.mono ?_
      rintro e w1 ⟨rfl, hb1⟩
      have hx1 := (hb1.block _ (lt_of_heap hx0)).trans hx0
      have B1 := hb0.trans (hb1.mono hb0.size)
      have htf := takeFan_any w1 b hb
      unfold fanSaid at htf
      rw [ht] at htf
      simp only at htf
      clear htc hb1
      go_wp2_with fail
      refine htf.mono ?_
      rintro e w2 ⟨⟨v, rfl, ho⟩, hb2⟩
      have hx2 := (hb2.block _ (lt_of_heap hx1)).trans hx1
      have B2 := B1.trans (hb2.mono B1.size)
      have HO := hide (own_down ho (show w.heap.size ≤ w1.heap.size from B1.size))
      obtain ⟨va, vm, vc, rfl⟩ := row_form ho
      have HO3 := hide (HO.out.alloc (.cells #[.int .i64 f.1, .slice va vm vc] 90))
      clear ho
      have hx3 := (heap_past w2 (.cells #[.int .i64 f.1, .slice va vm vc] 90) _ (lt_of_heap hx2)).trans hx2
      have hy3 := heap_last w2 (.cells #[.int .i64 f.1, .slice va vm vc] 90) _ rfl
      have B3 := B2.alloc B2.size (.cells #[.int .i64 f.1, .slice va vm vc] 90)
      generalize hw3 : w2.alloc (.cells #[.int .i64 f.1, .slice va vm vc] 90) = w3 at *
      have c0 := cell_of_row w3 w.heap.size 0 _ _ _ hx3
      have c1 := cell_of_row w3 w.heap.size 1 _ _ _ hx3
      have c2 := cell_of_row w3 w.heap.size 2 _ _ _ hx3
      have d0 := cell_of_row w3 w2.heap.size 0 _ _ _ hy3
      have d1 := cell_of_row w3 w2.heap.size 1 _ _ _ hy3
      simp only [List.getElem?_toArray, List.getElem?_cons_zero, List.getElem?_cons_succ] at c0 c1 c2 d0 d1
      have f0 := frozen0 (j := 0) hx3
      have f1 := frozen0 (j := 1) hx3
      have f2 := frozen0 (j := 2) hx3
      clear htf hb2
      go_wp2
      refine bodyPost_ret (results_cell_tmp_row rfl _ _ _ _ _ _ _ rfl (heap_set3all hx3) Tryz.underlying96 rfl Tryz.infoNode) rfl ⟨⟨_, rfl, ?_⟩, ?_⟩
      · exact own_setCell (own_setCell (own_setCell HO3.out hx3 (by decide) _) (heap_set3a hx3) (by decide) _) (heap_set3 (heap_set3a hx3)) (by decide) _
      · exact ((B3.setCell (p := ⟨w.heap.size, 0, none⟩) (by simp) _).setCell (p := ⟨w.heap.size, 1, none⟩) (by simp) _).setCell (p := ⟨w.heap.size, 2, none⟩) (by simp) _
end Go.Proofs.YtokebnkgjchfaaaGreatDoor
