/-
  BlobSplices, walked. Conditions: the objects lie there; texts within reach; the table holds its numbers.
-/
import Derived.Test.YtokebnkgjchfaaaGreatDoorS38BRSplice
namespace Go.Proofs.YtokebnkgjchfaaaGreatDoor
open Go.RowKit

set_option maxRecDepth 40000 in
set_option maxHeartbeats 1600000 in
theorem splices_any (w : World) (vo : Value) (objs : List Pair) (hv : Ls w.heap.size w 2 pairC vo objs) (hob : ∀ o ∈ objs, o.2.length ≤ 140737488351232) (p : Part) (f n : Int) (hf2 : f ≤ 9223372036854775807) (hn2 : n ≤ 9223372036854775807) (l : Bs) (hl : l.length ≤ 140737488351232) (hT : TabW w) :
    Calls Tryz.prog 4 #[vo, .agg #[.string (strB p.1), .int .i64 p.2], .int .i64 f, .int .i64 n, .string (strB l)] w fun e w' => e = .returned (.bool true) ∧ Below w.heap.size w w' := by
  have hvf := hv
  obtain ⟨ao, cap, hvv, -⟩ := hvf
  obtain ⟨m, hm⟩ : ∃ m, m = objs.length := ⟨_, rfl⟩
  rw [← hm] at hvv
  subst hvv
  clear hm
  have HV := hide hv
  have hb0 : Below w.heap.size w (w.alloc (.cells #[.string (strB p.1), .int .i64 p.2] 25)) := (Below.refl _ _).alloc (Nat.le_refl _) _
  have hx0 := heap_last w (.cells #[.string (strB p.1), .int .i64 p.2] 25) _ rfl
  generalize hw0 : w.alloc (.cells #[.string (strB p.1), .int .i64 p.2] 25) = w0 at *
  have hsh := shown_any w0 (hT.keep hb0 hT.1)
  have hcu := fun W => cut_any W l hl
  have hd : (l.take 262145).length ≤ 262145 := by rw [List.length_take]; omega
  generalize l.take 262145 = d at *
  have H0 := hide (And.intro hb0 hx0)
  clear hb0 hx0 hv hl
  go_enter Tryz.func4, Tryz.ntmps4
  go_wp2_with fail
  try rw [hw0]
  refine hsh.mono ?_
  rintro e w1 ⟨rfl, hb1⟩
  have hx1 := (hb1.block _ (lt_of_heap H0.out.2)).trans H0.out.2
  have hB1 := H0.out.1.trans (hb1.mono H0.out.1.size)
  clear hsh hb1
  go_wp2_with fail
  refine (hcu w1).mono ?_
  rintro e w1' ⟨rfl, he⟩
  subst he
  clear hcu
  -- what both answer
  obtain ⟨R, hprog, hrefs⟩ : ∃ R : Part × List Pair × Int,
      (∀ (W : World) (c : Nat), W.heap[c]? = some (.cells #[.slice ao m cap] 26) → Below w.heap.size w W → Calls Tryz.prog 11 #[.func (.func 27) #[] #[.pointer (some ⟨c, 0, none⟩)], .agg #[.string (strB p.1), .int .i64 p.2], .int .i64 f, .int .i64 n, .string (strB d)] W fun e w' => said3 W.heap.size R e w' ∧ Below W.heap.size W w') ∧
      (∀ W : World, Below w.heap.size w W → Calls Tryz.prog 13 #[.slice ao m cap, .agg #[.string (strB p.1), .int .i64 p.2], .int .i64 f, .int .i64 n, .string (strB d)] W fun e w' => said3 W.heap.size R e w' ∧ Below W.heap.size W w') := by
    by_cases hok : spOk p f n
    · exact ⟨_, fun W c hc hW => bsplice_any W c _ objs hc ((HV.out.keep hW).up hW.size) hob (hT.keep hW hT.1) W (Below.refl _ _) p f n d hd hok hf2 hn2, fun W hW => rsplice_any W _ objs ((HV.out.keep hW).up hW.size) hob p f n d hd hok hf2 hn2⟩
    · exact ⟨_, fun W c _ _ => bsplice_no W _ p f n d hok, fun W _ => rsplice_no W _ p f n d hok⟩
  have root : ∀ W : World, W.heap[w.heap.size]? = some (.cells #[.string (strB p.1), .int .i64 p.2] 25) → W.cell? ⟨w.heap.size, 0, none⟩ = some (.string (strB p.1)) ∧ W.cell? ⟨w.heap.size, 1, none⟩ = some (.int .i64 p.2) := fun W hW => by
    have q0 := cell_of_row W w.heap.size 0 _ _ _ hW
    have q1 := cell_of_row W w.heap.size 1 _ _ _ hW
    simp only [List.getElem?_toArray, List.getElem?_cons_zero, List.getElem?_cons_succ] at q0 q1
    exact ⟨q0, q1⟩
  have HRO := hide root
  have HRE := hide hrefs
  have HPR := hide hprog
  have H1 := hide (And.intro hB1 hx1)
  have Y := hide (root _ hx1)
  clear root hrefs hprog hB1 hx1 hT
  go_wp2_with fail
  refine wp_region_held_drew (S := fun W => W.cell? ⟨w.heap.size, 0, none⟩ = some (.string (strB p.1)) ∧ W.cell? ⟨w.heap.size, 1, none⟩ = some (.int .i64 p.2)) (by kernel_rfl) (Y.out) (fun hHeld => ?_)
  refine takeJ 0 (v := ?_) ?_ hHeld ?_
  rotate_left
  · rintro w ⟨_, _⟩; go_simp; try with_reducible rfl
  refine takeJ 2 (v := ?_) ?_ hHeld ?_
  rotate_left
  · rintro w ⟨_, _⟩; go_simp; try with_reducible rfl
  refine takeJ 3 (v := ?_) ?_ hHeld ?_
  rotate_left
  · rintro w ⟨_, _⟩; go_simp; try with_reducible rfl
  refine takeJ 4 (v := ?_) ?_ hHeld ?_
  rotate_left
  · rintro w ⟨_, _⟩; go_simp; try with_reducible rfl
  refine takeJ 5 (v := ?_) ?_ hHeld ?_
  rotate_left
  · rintro w ⟨_, _⟩; go_simp; try with_reducible rfl
  refine twoH (i := 1) (j := 11) rfl rfl (by kernel_rfl) rfl rfl (fun K hK => ?_) (fun K hK => ?_)
  · go_simp
    refine (from_any w1'.drew ao m cap).mono ?_
    rintro e wf ⟨rfl, he⟩
    have hbf : Below w1'.drew.heap.size w1'.drew wf := by rw [he]; exact (Below.refl _ _).alloc (Nat.le_refl _) _
    have hcf : wf.heap[w1'.drew.heap.size]? = some (.cells #[.slice ao m cap] 26) := by rw [he]; exact heap_last w1'.drew _ _ rfl
    have hBf : Below w.heap.size w wf := H1.out.1.drew.trans (hbf.mono H1.out.1.drew.size)
    have hxf := (hbf.block _ (lt_of_heap (show w1'.drew.heap[w.heap.size]? = _ from H1.out.2))).trans (show w1'.drew.heap[w.heap.size]? = _ from H1.out.2)
    clear he
    go_simp
    refine hK.out _ _ (HRO.out wf hxf) (fun hHeld => ?_)
    clear hK K
    try simp only [Act.put, List.setIfInBounds_toArray, List.set_cons_zero, List.set_cons_succ]
    refine twoH (i := 6) (j := 11) rfl rfl (by kernel_rfl) rfl rfl (fun K hK => ?_) (fun K hK => ?_)
    · go_simp
      refine (HPR.out wf _ hcf hBf).mono ?_
      rintro e w4 ⟨⟨vl, rfl, hrl⟩, hb4⟩
      have hB4 := hBf.trans (hb4.mono hBf.size)
      have hx4 := (hb4.block _ (lt_of_heap hxf)).trans hxf
      refine hK.out _ _ (HRO.out w4 hx4) (fun hHeld => ?_)
      clear hK K
      try simp only [Act.put, List.setIfInBounds_toArray, List.set_cons_zero, List.set_cons_succ]
      refine takeJ 7 (v := ?_) ?_ hHeld ?_
      rotate_left
      · rintro w ⟨_, _⟩; go_simp; try with_reducible rfl
      refine takeJ 8 (v := ?_) ?_ hHeld ?_
      rotate_left
      · rintro w ⟨_, _⟩; go_simp; try with_reducible rfl
      refine takeJ 9 (v := ?_) ?_ hHeld ?_
      rotate_left
      · rintro w ⟨_, _⟩; go_simp; try with_reducible rfl
      refine takeJ 10 (v := ?_) ?_ hHeld ?_
      rotate_left
      · rintro w ⟨_, _⟩; go_simp; try with_reducible rfl
      refine onlyH (i := 11) rfl (by kernel_rfl) rfl (fun K hK => ?_)
      go_simp
      have hbz : Below w4.heap.size w4 (w4.alloc (.cells #[.string ⟨#[]⟩, .int .i64 0] 25)) := (Below.refl _ _).alloc (Nat.le_refl _) _
      have hzz := heap_last w4 (.cells #[.string ⟨#[]⟩, .int .i64 0] 25) _ rfl
      generalize hwz : w4.alloc (.cells #[.string ⟨#[]⟩, .int .i64 0] 25) = wz at *
      have hBz : Below w.heap.size w wz := hB4.trans (hbz.mono hB4.size)
      have hxz := (hbz.block _ (lt_of_heap hx4)).trans hx4
      refine hK.out _ _ (HRO.out wz hxz) (fun hHeld => ?_)
      clear hK K
      try simp only [Act.put, List.setIfInBounds_toArray, List.set_cons_zero, List.set_cons_succ]
      have hrz := own_below hrl hbz
      have hql : w.heap.size ≤ w4.heap.size := hB4.size
      have hqn : w.heap.size ≠ w4.heap.size := Nat.ne_of_lt (lt_of_heap hx4)
      have hbase : w.heap.size ≤ wf.heap.size := hBf.size
      generalize w4.heap.size = qb at *
      obtain ⟨wq, rfl⟩ : ∃ wq, wq = wz := ⟨wz, rfl⟩
      have hrq := own_low hrz hbase
      have hzq := hzz
      have hxq := hxz
      have hBq := hBz
      clear hb4 hB4 hx4 hrl hrz hbz hbf hcf hBf hxf hwz hzz hxz hBz hbase
      obtain ⟨vlA, vlM, vlC, rfl⟩ := row_form hrq
      have x0 := cell_of_row wq qb 0 _ _ _ hzq
      have x1 := cell_of_row wq qb 1 _ _ _ hzq
      simp only [List.getElem?_toArray, List.getElem?_cons_zero, List.getElem?_cons_succ] at x0 x1
      have f0 := frozen0 (j := 0) hzq
      have f1 := frozen0 (j := 1) hzq
      have hx6 : ((wq.setCell ⟨qb, 0, none⟩ (.string (strB R.1.1))).setCell ⟨qb, 1, none⟩ (.int .i64 R.1.2)).heap[w.heap.size]? = _ := (heap_setOther hqn).trans ((heap_setOther hqn).trans hxq)
      refine onlyH (i := 12) rfl (by kernel_rfl) rfl (fun K hK => ?_)
      go_simp
      refine hK.out _ _ (HRO.out _ hx6) (fun hHeld => ?_)
      clear hK K
      try simp only [Act.put, List.setIfInBounds_toArray, List.set_cons_zero, List.set_cons_succ]
      refine takeJ 13 (v := ?_) ?_ hHeld ?_
      rotate_left
      · rintro w ⟨_, _⟩; go_simp; try with_reducible rfl
      refine takeJ 14 (v := ?_) ?_ hHeld ?_
      rotate_left
      · rintro w ⟨_, _⟩; go_simp; try with_reducible rfl
      refine wpAnyH_done (by kernel_rfl) ?_ _
      clear hHeld x0 x1 f0 f1
      have hq6 : ((wq.setCell ⟨qb, 0, none⟩ (.string (strB R.1.1))).setCell ⟨qb, 1, none⟩ (.int .i64 R.1.2)).heap[qb]? = _ := heap_set2 hzq
      have hB6 := (hBq.setCell (p := ⟨qb, 0, none⟩) hql (.string (strB R.1.1))).setCell (p := ⟨qb, 1, none⟩) hql (.int .i64 R.1.2)
      have hr6 := own_setCell (j := 1) (own_setCell (j := 0) hrq hzq (by decide) (.string (strB R.1.1))) (heap_set1a hzq) (by decide) (.int .i64 R.1.2)
      generalize (wq.setCell ⟨qb, 0, none⟩ (.string (strB R.1.1))).setCell ⟨qb, 1, none⟩ (.int .i64 R.1.2) = w6 at *
      have hrf := HRE.out w6 hB6
      obtain ⟨c0, c1⟩ := HRO.out w6 hx6
      have H6 := hide (And.intro hB6 (And.intro hq6 hr6))
      clear hx6 hB6 hq6 hr6 hzq hxq hBq hrq
      go_wp2_with fail
      refine hrf.mono ?_
      rintro e w7 ⟨⟨vm, rfl, hrm⟩, hb7⟩
      have hq7 := (hb7.block _ (lt_of_heap H6.out.2.1)).trans H6.out.2.1
      have hB7 := H6.out.1.trans (hb7.mono H6.out.1.size)
      have hb8 : Below w7.heap.size w7 (w7.alloc (.cells #[.string (strB R.1.1), .int .i64 R.1.2] 25)) := (Below.refl _ _).alloc (Nat.le_refl _) _
      have hy8 := heap_last w7 (.cells #[.string (strB R.1.1), .int .i64 R.1.2] 25) _ rfl
      have hq8 := (hb8.block _ (lt_of_heap hq7)).trans hq7
      have hB8 := hB7.trans (hb8.mono hB7.size)
      have hl8 := ls_of_own pairC_length (own_below (own_below H6.out.2.2 hb7) hb8)
      have hm8 := ls_of_own pairC_length (own_below hrm hb8)
      obtain ⟨ma, mm, mc, rfl⟩ := row_form hrm
      generalize hw8 : w7.alloc (.cells #[.string (strB R.1.1), .int .i64 R.1.2] 25) = w8 at *
      have hsm := same_objs w8 R.2.1 R.2.1 _ _ (hl8.up (Nat.le_refl _)) (hm8.up (Nat.le_refl _))
      rw [decide_eq_true (rfl : R.2.1 = R.2.1)] at hsm
      have x0 := cell_of_row w8 qb 0 _ _ _ hq8
      have x1 := cell_of_row w8 qb 1 _ _ _ hq8
      have y0 := cell_of_row w8 w7.heap.size 0 _ _ _ hy8
      have y1 := cell_of_row w8 w7.heap.size 1 _ _ _ hy8
      simp only [List.getElem?_toArray, List.getElem?_cons_zero, List.getElem?_cons_succ] at x0 x1 y0 y1
      have heq := fun W => eqlPart W R.1 R.1
      rw [same1_true (rfl : R.1 = R.1)] at heq
      have H8 := hide hB8
      clear hrf hb7 hq7 hB7 hb8 hy8 hq8 hB8 hl8 hm8 hrm
      go_wp2_with fail
      try rw [hw8]
      refine hsm.mono ?_
      rintro e w9 ⟨rfl, hb9⟩
      have H9 := hide (H8.out.trans (hb9.mono H8.out.size))
      clear hsm hb9
      go_wp2
      go_ret
      exact ⟨rfl, H9.out⟩
    · go_simp
      have hbz : Below wf.heap.size wf (wf.alloc (.cells #[.string ⟨#[]⟩, .int .i64 0] 25)) := (Below.refl _ _).alloc (Nat.le_refl _) _
      have hzz := heap_last wf (.cells #[.string ⟨#[]⟩, .int .i64 0] 25) _ rfl
      generalize hwz : wf.alloc (.cells #[.string ⟨#[]⟩, .int .i64 0] 25) = wz at *
      have hBz : Below w.heap.size w wz := hBf.trans (hbz.mono hBf.size)
      have hxz := (hbz.block _ (lt_of_heap hxf)).trans hxf
      refine hK.out _ _ (HRO.out wz hxz) (fun hHeld => ?_)
      clear hK K
      try simp only [Act.put, List.setIfInBounds_toArray, List.set_cons_zero, List.set_cons_succ]
      refine onlyH (i := 6) rfl (by kernel_rfl) rfl (fun K hK => ?_)
      go_simp
      have hcz := (hbz.block _ (lt_of_heap hcf)).trans hcf
      refine (HPR.out wz _ hcz hBz).mono ?_
      rintro e w4 ⟨⟨vl, rfl, hrl⟩, hb4⟩
      have hB4 := hBz.trans (hb4.mono hBz.size)
      have hx4 := (hb4.block _ (lt_of_heap hxz)).trans hxz
      have hz4 := (hb4.block _ (lt_of_heap hzz)).trans hzz
      refine hK.out _ _ (HRO.out w4 hx4) (fun hHeld => ?_)
      clear hK K
      try simp only [Act.put, List.setIfInBounds_toArray, List.set_cons_zero, List.set_cons_succ]
      refine takeJ 7 (v := ?_) ?_ hHeld ?_
      rotate_left
      · rintro w ⟨_, _⟩; go_simp; try with_reducible rfl
      refine takeJ 8 (v := ?_) ?_ hHeld ?_
      rotate_left
      · rintro w ⟨_, _⟩; go_simp; try with_reducible rfl
      refine takeJ 9 (v := ?_) ?_ hHeld ?_
      rotate_left
      · rintro w ⟨_, _⟩; go_simp; try with_reducible rfl
      refine takeJ 10 (v := ?_) ?_ hHeld ?_
      rotate_left
      · rintro w ⟨_, _⟩; go_simp; try with_reducible rfl
      have hql : w.heap.size ≤ wf.heap.size := hBf.size
      have hqn : w.heap.size ≠ wf.heap.size := Nat.ne_of_lt (lt_of_heap hxf)
      have hrq := own_low hrl hBz.size
      generalize wf.heap.size = qb at *
      obtain ⟨wq, rfl⟩ : ∃ wq, wq = w4 := ⟨w4, rfl⟩
      have hzq := hz4
      have hxq := hx4
      have hBq := hB4
      clear hb4 hB4 hx4 hz4 hrl hbz hbf hcf hcz hBf hxf hwz hzz hxz hBz
      obtain ⟨vlA, vlM, vlC, rfl⟩ := row_form hrq
      have x0 := cell_of_row wq qb 0 _ _ _ hzq
      have x1 := cell_of_row wq qb 1 _ _ _ hzq
      simp only [List.getElem?_toArray, List.getElem?_cons_zero, List.getElem?_cons_succ] at x0 x1
      have f0 := frozen0 (j := 0) hzq
      have f1 := frozen0 (j := 1) hzq
      have hx6 : ((wq.setCell ⟨qb, 0, none⟩ (.string (strB R.1.1))).setCell ⟨qb, 1, none⟩ (.int .i64 R.1.2)).heap[w.heap.size]? = _ := (heap_setOther hqn).trans ((heap_setOther hqn).trans hxq)
      refine onlyH (i := 12) rfl (by kernel_rfl) rfl (fun K hK => ?_)
      go_simp
      refine hK.out _ _ (HRO.out _ hx6) (fun hHeld => ?_)
      clear hK K
      try simp only [Act.put, List.setIfInBounds_toArray, List.set_cons_zero, List.set_cons_succ]
      refine takeJ 13 (v := ?_) ?_ hHeld ?_
      rotate_left
      · rintro w ⟨_, _⟩; go_simp; try with_reducible rfl
      refine takeJ 14 (v := ?_) ?_ hHeld ?_
      rotate_left
      · rintro w ⟨_, _⟩; go_simp; try with_reducible rfl
      refine wpAnyH_done (by kernel_rfl) ?_ _
      clear hHeld x0 x1 f0 f1
      have hq6 : ((wq.setCell ⟨qb, 0, none⟩ (.string (strB R.1.1))).setCell ⟨qb, 1, none⟩ (.int .i64 R.1.2)).heap[qb]? = _ := heap_set2 hzq
      have hB6 := (hBq.setCell (p := ⟨qb, 0, none⟩) hql (.string (strB R.1.1))).setCell (p := ⟨qb, 1, none⟩) hql (.int .i64 R.1.2)
      have hr6 := own_setCell (j := 1) (own_setCell (j := 0) hrq hzq (by decide) (.string (strB R.1.1))) (heap_set1a hzq) (by decide) (.int .i64 R.1.2)
      generalize (wq.setCell ⟨qb, 0, none⟩ (.string (strB R.1.1))).setCell ⟨qb, 1, none⟩ (.int .i64 R.1.2) = w6 at *
      have hrf := HRE.out w6 hB6
      obtain ⟨c0, c1⟩ := HRO.out w6 hx6
      have H6 := hide (And.intro hB6 (And.intro hq6 hr6))
      clear hx6 hB6 hq6 hr6 hzq hxq hBq hrq
      go_wp2_with fail
      refine hrf.mono ?_
      rintro e w7 ⟨⟨vm, rfl, hrm⟩, hb7⟩
      have hq7 := (hb7.block _ (lt_of_heap H6.out.2.1)).trans H6.out.2.1
      have hB7 := H6.out.1.trans (hb7.mono H6.out.1.size)
      have hb8 : Below w7.heap.size w7 (w7.alloc (.cells #[.string (strB R.1.1), .int .i64 R.1.2] 25)) := (Below.refl _ _).alloc (Nat.le_refl _) _
      have hy8 := heap_last w7 (.cells #[.string (strB R.1.1), .int .i64 R.1.2] 25) _ rfl
      have hq8 := (hb8.block _ (lt_of_heap hq7)).trans hq7
      have hB8 := hB7.trans (hb8.mono hB7.size)
      have hl8 := ls_of_own pairC_length (own_below (own_below H6.out.2.2 hb7) hb8)
      have hm8 := ls_of_own pairC_length (own_below hrm hb8)
      obtain ⟨ma, mm, mc, rfl⟩ := row_form hrm
      generalize hw8 : w7.alloc (.cells #[.string (strB R.1.1), .int .i64 R.1.2] 25) = w8 at *
      have hsm := same_objs w8 R.2.1 R.2.1 _ _ (hl8.up (Nat.le_refl _)) (hm8.up (Nat.le_refl _))
      rw [decide_eq_true (rfl : R.2.1 = R.2.1)] at hsm
      have x0 := cell_of_row w8 qb 0 _ _ _ hq8
      have x1 := cell_of_row w8 qb 1 _ _ _ hq8
      have y0 := cell_of_row w8 w7.heap.size 0 _ _ _ hy8
      have y1 := cell_of_row w8 w7.heap.size 1 _ _ _ hy8
      simp only [List.getElem?_toArray, List.getElem?_cons_zero, List.getElem?_cons_succ] at x0 x1 y0 y1
      have heq := fun W => eqlPart W R.1 R.1
      rw [same1_true (rfl : R.1 = R.1)] at heq
      have H8 := hide hB8
      clear hrf hb7 hq7 hB7 hb8 hy8 hq8 hB8 hl8 hm8 hrm
      go_wp2_with fail
      try rw [hw8]
      refine hsm.mono ?_
      rintro e w9 ⟨rfl, hb9⟩
      have H9 := hide (H8.out.trans (hb9.mono H8.out.size))
      clear hsm hb9
      go_wp2
      go_ret
      exact ⟨rfl, H9.out⟩
  · go_simp
    have hbz : Below w1'.heap.size w1' (w1'.alloc (.cells #[.string ⟨#[]⟩, .int .i64 0] 25)).drew := ((Below.refl _ _).alloc (Nat.le_refl _) _).drew
    have hzz : (w1'.alloc (.cells #[.string ⟨#[]⟩, .int .i64 0] 25)).drew.heap[w1'.heap.size]? = some (.cells #[.string ⟨#[]⟩, .int .i64 0] 25) := heap_last w1' _ _ rfl
    generalize hwz : (w1'.alloc (.cells #[.string ⟨#[]⟩, .int .i64 0] 25)).drew = wz at *
    have hBz : Below w.heap.size w wz := H1.out.1.trans (hbz.mono H1.out.1.size)
    have hxz := (hbz.block _ (lt_of_heap H1.out.2)).trans H1.out.2
    refine hK.out _ _ (HRO.out wz hxz) (fun hHeld => ?_)
    clear hK K
    try simp only [Act.put, List.setIfInBounds_toArray, List.set_cons_zero, List.set_cons_succ]
    refine onlyH (i := 1) rfl (by kernel_rfl) rfl (fun K hK => ?_)
    go_simp
    refine (from_any wz ao m cap).mono ?_
    rintro e wf ⟨rfl, he⟩
    have hbf : Below wz.heap.size wz wf := by rw [he]; exact (Below.refl _ _).alloc (Nat.le_refl _) _
    have hcf : wf.heap[wz.heap.size]? = some (.cells #[.slice ao m cap] 26) := by rw [he]; exact heap_last wz _ _ rfl
    have hBf : Below w.heap.size w wf := hBz.trans (hbf.mono hBz.size)
    have hxf := (hbf.block _ (lt_of_heap hxz)).trans hxz
    clear he
    have hzf := (hbf.block _ (lt_of_heap hzz)).trans hzz
    go_simp
    refine hK.out _ _ (HRO.out wf hxf) (fun hHeld => ?_)
    clear hK K
    try simp only [Act.put, List.setIfInBounds_toArray, List.set_cons_zero, List.set_cons_succ]
    refine onlyH (i := 6) rfl (by kernel_rfl) rfl (fun K hK => ?_)
    go_simp
    refine (HPR.out wf _ hcf hBf).mono ?_
    rintro e w4 ⟨⟨vl, rfl, hrl⟩, hb4⟩
    have hB4 := hBf.trans (hb4.mono hBf.size)
    have hx4 := (hb4.block _ (lt_of_heap hxf)).trans hxf
    have hz4 := (hb4.block _ (lt_of_heap hzf)).trans hzf
    refine hK.out _ _ (HRO.out w4 hx4) (fun hHeld => ?_)
    clear hK K
    try simp only [Act.put, List.setIfInBounds_toArray, List.set_cons_zero, List.set_cons_succ]
    refine takeJ 7 (v := ?_) ?_ hHeld ?_
    rotate_left
    · rintro w ⟨_, _⟩; go_simp; try with_reducible rfl
    refine takeJ 8 (v := ?_) ?_ hHeld ?_
    rotate_left
    · rintro w ⟨_, _⟩; go_simp; try with_reducible rfl
    refine takeJ 9 (v := ?_) ?_ hHeld ?_
    rotate_left
    · rintro w ⟨_, _⟩; go_simp; try with_reducible rfl
    refine takeJ 10 (v := ?_) ?_ hHeld ?_
    rotate_left
    · rintro w ⟨_, _⟩; go_simp; try with_reducible rfl
    have hql : w.heap.size ≤ w1'.heap.size := H1.out.1.size
    have hqn : w.heap.size ≠ w1'.heap.size := Nat.ne_of_lt (lt_of_heap H1.out.2)
    have hrq := own_low hrl hBf.size
    obtain ⟨qb, hqb⟩ : ∃ qb, qb = w1'.heap.size := ⟨_, rfl⟩
    have hzq : w4.heap[qb]? = some (.cells #[.string ⟨#[]⟩, .int .i64 0] 25) := by rw [hqb]; exact hz4
    rw [← hqb] at hql hqn
    (try rw [show w1'.drew.heap.size = qb from hqb.symm])
    (try rw [← hqb])
    obtain ⟨wq, rfl⟩ : ∃ wq, wq = w4 := ⟨w4, rfl⟩
    have hxq := hx4
    have hBq := hB4
    clear hb4 hB4 hx4 hz4 hrl hbz hbf hcf hBf hxf hzf hwz hzz hxz hBz hqb
    obtain ⟨vlA, vlM, vlC, rfl⟩ := row_form hrq
    have x0 := cell_of_row wq qb 0 _ _ _ hzq
    have x1 := cell_of_row wq qb 1 _ _ _ hzq
    simp only [List.getElem?_toArray, List.getElem?_cons_zero, List.getElem?_cons_succ] at x0 x1
    have f0 := frozen0 (j := 0) hzq
    have f1 := frozen0 (j := 1) hzq
    have hx6 : ((wq.setCell ⟨qb, 0, none⟩ (.string (strB R.1.1))).setCell ⟨qb, 1, none⟩ (.int .i64 R.1.2)).heap[w.heap.size]? = _ := (heap_setOther hqn).trans ((heap_setOther hqn).trans hxq)
    refine onlyH (i := 12) rfl (by kernel_rfl) rfl (fun K hK => ?_)
    go_simp
    refine hK.out _ _ (HRO.out _ hx6) (fun hHeld => ?_)
    clear hK K
    try simp only [Act.put, List.setIfInBounds_toArray, List.set_cons_zero, List.set_cons_succ]
    refine takeJ 13 (v := ?_) ?_ hHeld ?_
    rotate_left
    · rintro w ⟨_, _⟩; go_simp; try with_reducible rfl
    refine takeJ 14 (v := ?_) ?_ hHeld ?_
    rotate_left
    · rintro w ⟨_, _⟩; go_simp; try with_reducible rfl
    refine wpAnyH_done (by kernel_rfl) ?_ _
    clear hHeld x0 x1 f0 f1
    have hq6 : ((wq.setCell ⟨qb, 0, none⟩ (.string (strB R.1.1))).setCell ⟨qb, 1, none⟩ (.int .i64 R.1.2)).heap[qb]? = _ := heap_set2 hzq
    have hB6 := (hBq.setCell (p := ⟨qb, 0, none⟩) hql (.string (strB R.1.1))).setCell (p := ⟨qb, 1, none⟩) hql (.int .i64 R.1.2)
    have hr6 := own_setCell (j := 1) (own_setCell (j := 0) hrq hzq (by decide) (.string (strB R.1.1))) (heap_set1a hzq) (by decide) (.int .i64 R.1.2)
    generalize (wq.setCell ⟨qb, 0, none⟩ (.string (strB R.1.1))).setCell ⟨qb, 1, none⟩ (.int .i64 R.1.2) = w6 at *
    have hrf := HRE.out w6 hB6
    obtain ⟨c0, c1⟩ := HRO.out w6 hx6
    have H6 := hide (And.intro hB6 (And.intro hq6 hr6))
    clear hx6 hB6 hq6 hr6 hzq hxq hBq hrq
    go_wp2_with fail
    refine hrf.mono ?_
    rintro e w7 ⟨⟨vm, rfl, hrm⟩, hb7⟩
    have hq7 := (hb7.block _ (lt_of_heap H6.out.2.1)).trans H6.out.2.1
    have hB7 := H6.out.1.trans (hb7.mono H6.out.1.size)
    have hb8 : Below w7.heap.size w7 (w7.alloc (.cells #[.string (strB R.1.1), .int .i64 R.1.2] 25)) := (Below.refl _ _).alloc (Nat.le_refl _) _
    have hy8 := heap_last w7 (.cells #[.string (strB R.1.1), .int .i64 R.1.2] 25) _ rfl
    have hq8 := (hb8.block _ (lt_of_heap hq7)).trans hq7
    have hB8 := hB7.trans (hb8.mono hB7.size)
    have hl8 := ls_of_own pairC_length (own_below (own_below H6.out.2.2 hb7) hb8)
    have hm8 := ls_of_own pairC_length (own_below hrm hb8)
    obtain ⟨ma, mm, mc, rfl⟩ := row_form hrm
    generalize hw8 : w7.alloc (.cells #[.string (strB R.1.1), .int .i64 R.1.2] 25) = w8 at *
    have hsm := same_objs w8 R.2.1 R.2.1 _ _ (hl8.up (Nat.le_refl _)) (hm8.up (Nat.le_refl _))
    rw [decide_eq_true (rfl : R.2.1 = R.2.1)] at hsm
    have x0 := cell_of_row w8 qb 0 _ _ _ hq8
    have x1 := cell_of_row w8 qb 1 _ _ _ hq8
    have y0 := cell_of_row w8 w7.heap.size 0 _ _ _ hy8
    have y1 := cell_of_row w8 w7.heap.size 1 _ _ _ hy8
    simp only [List.getElem?_toArray, List.getElem?_cons_zero, List.getElem?_cons_succ] at x0 x1 y0 y1
    have heq := fun W => eqlPart W R.1 R.1
    rw [same1_true (rfl : R.1 = R.1)] at heq
    have H8 := hide hB8
    clear hrf hb7 hq7 hB7 hb8 hy8 hq8 hB8 hl8 hm8 hrm
    go_wp2_with fail
    try rw [hw8]
    refine hsm.mono ?_
    rintro e w9 ⟨rfl, hb9⟩
    have H9 := hide (H8.out.trans (hb9.mono H8.out.size))
    clear hsm hb9
    go_wp2
    go_ret
    exact ⟨rfl, H9.out⟩
theorem splices_bytes (w : World) (vo : Value) (objs : List Pair) (hv : Ls w.heap.size w 2 pairC vo objs) (hob : ∀ o ∈ objs, o.2.length ≤ 140737488351232) (p : Part) (f n : Int) (_hf1 : -9223372036854775808 ≤ f) (hf2 : f ≤ 9223372036854775807) (_hn1 : -9223372036854775808 ≤ n) (hn2 : n ≤ 9223372036854775807) (s : ByteArray) (hs : s.size ≤ 140737488351232) (hT : TabW w) :
    Calls Tryz.prog 4 #[vo, .agg #[.string (strB p.1), .int .i64 p.2], .int .i64 f, .int .i64 n, .string s] w fun e w' => e = .returned (.bool true) ∧ Below w.heap.size w w' := by
  have := splices_any w vo objs hv hob p f n hf2 hn2 s.data.toList (by simp; omega) hT
  rw [strB_of] at this
  exact this
end Go.Proofs.YtokebnkgjchfaaaGreatDoor
