/-
  Bytes in the place of others, by the reference. Conditions: the objects lie there; texts within reach.
-/
import Derived.Test.YtokebnkgjchfaaaGreatDoorS30BRRead
import Derived.Test.YtokebnkgjchfaaaGreatDoorS36BBuilds
import Derived.Test.YtokebnkgjchfaaaGreatDoorS37BSplice
namespace Go.Proofs.YtokebnkgjchfaaaGreatDoor
open Go.RowKit

set_option maxRecDepth 40000 in
set_option maxHeartbeats 1600000 in
theorem rsplice_no (w : World) (fv : Value) (p : Part) (f n : Int) (d : Bs) (h : ¬ spOk p f n) :
    Calls Tryz.prog 13 #[fv, .agg #[.string (strB p.1), .int .i64 p.2], .int .i64 f, .int .i64 n, .string (strB d)] w fun e w' => said3 w.heap.size (([], 0), [], 2) e w' ∧ Below w.heap.size w w' := by
  have hb0 : Below w.heap.size w ((w.alloc (.cells #[.string (strB p.1), .int .i64 p.2] 25)).alloc (.cells #[.string ⟨#[]⟩, .int .i64 0] 25)) := ((Below.refl _ _).alloc (Nat.le_refl _) _).alloc (by simp) _
  have hr0 : ((w.alloc (.cells #[.string (strB p.1), .int .i64 p.2] 25)).alloc (.cells #[.string ⟨#[]⟩, .int .i64 0] 25)).heap[w.heap.size]? = some (.cells #[.string (strB p.1), .int .i64 p.2] 25) := (heap_past _ _ _ (by simp)).trans (heap_last w _ _ rfl)
  have hx0 : ((w.alloc (.cells #[.string (strB p.1), .int .i64 p.2] 25)).alloc (.cells #[.string ⟨#[]⟩, .int .i64 0] 25)).heap[w.heap.size + 1]? = some (.cells #[.string ⟨#[]⟩, .int .i64 0] 25) := heap_last _ _ _ (by simp)
  generalize hw0 : (w.alloc (.cells #[.string (strB p.1), .int .i64 p.2] 25)).alloc (.cells #[.string ⟨#[]⟩, .int .i64 0] 25) = w0 at *
  have hri := rright_any w0 p
  have H0 := hide (And.intro hb0 (And.intro hr0 hx0))
  have a0 := cell_of_row w0 w.heap.size 0 _ _ _ hr0
  have a1 := cell_of_row w0 w.heap.size 1 _ _ _ hr0
  simp only [List.getElem?_toArray, List.getElem?_cons_zero, List.getElem?_cons_succ] at a0 a1
  clear hb0 hr0 hx0
  rcases spOk_cases h with h1 | ⟨h1, h2⟩ | ⟨h1, h2, h3⟩ | ⟨h1, h2, h3, h4⟩
  all_goals
    rw [h1] at hri
    clear h h1
    go_enter Tryz.func13, Tryz.ntmps13
    go_wp2_with fail
    try rw [hw0]
    refine hri.mono ?_
    rintro e w1 ⟨rfl, hb1⟩
    have hB1 := H0.out.1.trans (hb1.mono H0.out.1.size)
    have hr1 := (hb1.block _ (lt_of_heap H0.out.2.1)).trans H0.out.2.1
    have hx1 := (hb1.block _ (lt_of_heap H0.out.2.2)).trans H0.out.2.2
    have c1 := cell_of_row w1 w.heap.size 1 _ _ _ hr1
    have x0 := cell_of_row w1 (w.heap.size + 1) 0 _ _ _ hx1
    have x1 := cell_of_row w1 (w.heap.size + 1) 1 _ _ _ hx1
    simp only [List.getElem?_toArray, List.getElem?_cons_zero, List.getElem?_cons_succ] at c1 x0 x1
    have f0 := frozen0 (j := 0) hx1
    have f1 := frozen0 (j := 1) hx1
    have H1 := hide (And.intro hB1 hx1)
    clear hri hb1 hB1 hr1 hx1
    go_wp2
    refine bodyPost_ret (results_cell_tmp2_row rfl _ _ _ _ _ _ _ rfl (heap_set2 H1.out.2) Tryz.underlying25 rfl Tryz.infoPart) rfl ⟨⟨_, rfl, World.ownsRow_nil _ _ _ _⟩, ?_⟩
    exact (H1.out.1.setCell (p := ⟨w.heap.size + 1, 0, none⟩) (Nat.le_succ _) _).setCell (p := ⟨w.heap.size + 1, 1, none⟩) (Nat.le_succ _) _
set_option maxRecDepth 40000 in
set_option maxHeartbeats 1600000 in
theorem rsplice_any (w : World) (vo : Value) (objs : List Pair) (hv : Ls w.heap.size w 2 pairC vo objs) (hob : ∀ o ∈ objs, o.2.length ≤ 140737488351232) (p : Part) (f n : Int) (d : Bs) (hd : d.length ≤ 262145) (hok : spOk p f n) (hf2 : f ≤ 9223372036854775807) (hn2 : n ≤ 9223372036854775807) :
    Calls Tryz.prog 13 #[vo, .agg #[.string (strB p.1), .int .i64 p.2], .int .i64 f, .int .i64 n, .string (strB d)] w fun e w' => said3 w.heap.size (spliceP (findO objs) p f n d) e w' ∧ Below w.heap.size w w' := by
  have hb0 : Below w.heap.size w ((w.alloc (.cells #[.string (strB p.1), .int .i64 p.2] 25)).alloc (.cells #[.string ⟨#[]⟩, .int .i64 0] 25)) := ((Below.refl _ _).alloc (Nat.le_refl _) _).alloc (by simp) _
  have hr0 : ((w.alloc (.cells #[.string (strB p.1), .int .i64 p.2] 25)).alloc (.cells #[.string ⟨#[]⟩, .int .i64 0] 25)).heap[w.heap.size]? = some (.cells #[.string (strB p.1), .int .i64 p.2] 25) := (heap_past _ _ _ (by simp)).trans (heap_last w _ _ rfl)
  have hx0 : ((w.alloc (.cells #[.string (strB p.1), .int .i64 p.2] 25)).alloc (.cells #[.string ⟨#[]⟩, .int .i64 0] 25)).heap[w.heap.size + 1]? = some (.cells #[.string ⟨#[]⟩, .int .i64 0] 25) := heap_last _ _ _ (by simp)
  generalize hw0 : (w.alloc (.cells #[.string (strB p.1), .int .i64 p.2] 25)).alloc (.cells #[.string ⟨#[]⟩, .int .i64 0] 25) = w0 at *
  obtain ⟨o1, o2, o3, o4⟩ := hok
  obtain ⟨r1, r2, r3⟩ := (rightR_iff p).1 o1
  have hri := rright_any w0 p
  rw [o1] at hri
  have hre := fun W (hW : Below w.heap.size w W) => rread_any W vo objs ((hv.keep hW).up hW.size) hob p 0 p.2 o1 (Int.le_refl _) (by omega) r2 (by omega)
  obtain ⟨R, hR⟩ : ∃ R, R = spliceP (findO objs) p f n d := ⟨_, rfl⟩
  rw [← hR]
  unfold spliceP at hR
  have hwl := read_whole (fd := findO objs) (p := p) r2
  generalize readP (findO objs) p 0 p.2 [] = s at *
  have HR := hide hR
  have H0 := hide (And.intro hb0 (And.intro hr0 hx0))
  have HW := hide hwl
  have HRE := hide hre
  have hd2 := strB_size d
  have c0 := cell_of_row w0 w.heap.size 0 _ _ _ hr0
  have c1 := cell_of_row w0 w.heap.size 1 _ _ _ hr0
  simp only [List.getElem?_toArray, List.getElem?_cons_zero, List.getElem?_cons_succ] at c0 c1
  clear hb0 hr0 hx0 hR hwl hre hv hob
  go_enter Tryz.func13, Tryz.ntmps13
  go_wp2_with fail
  try rw [hw0]
  refine hri.mono ?_
  rintro e w1 ⟨rfl, hb1⟩
  have hB1 := H0.out.1.trans (hb1.mono H0.out.1.size)
  have hr1 := (hb1.block _ (lt_of_heap H0.out.2.1)).trans H0.out.2.1
  have hx1 := (hb1.block _ (lt_of_heap H0.out.2.2)).trans H0.out.2.2
  have a0 := cell_of_row w1 w.heap.size 0 _ _ _ hr1
  have a1 := cell_of_row w1 w.heap.size 1 _ _ _ hr1
  simp only [List.getElem?_toArray, List.getElem?_cons_zero, List.getElem?_cons_succ] at a0 a1
  have hre := HRE.out w1 hB1
  have H1 := hide (And.intro hr1 (And.intro hx1 hB1))
  clear hri hb1 hB1 hr1 hx1 c0 c1
  go_wp2_with fail
  refine hre.mono ?_
  rintro e w3 ⟨⟨vi, rfl, hri3⟩, hb3⟩
  have hB3 := H1.out.2.2.trans (hb3.mono H1.out.2.2.size)
  have hr3 := (hb3.block _ (lt_of_heap H1.out.1)).trans H1.out.1
  have hx3 := (hb3.block _ (lt_of_heap H1.out.2.1)).trans H1.out.2.1
  obtain ⟨ia, im, ic, rfl⟩ := row_form hri3
  have b0 := cell_of_row w3 w.heap.size 0 _ _ _ hr3
  have b1 := cell_of_row w3 w.heap.size 1 _ _ _ hr3
  have x0 := cell_of_row w3 (w.heap.size + 1) 0 _ _ _ hx3
  have x1 := cell_of_row w3 (w.heap.size + 1) 1 _ _ _ hx3
  simp only [List.getElem?_toArray, List.getElem?_cons_zero, List.getElem?_cons_succ] at b0 b1 x0 x1
  have g0 := frozen0 (j := 0) hx3
  have g1 := frozen0 (j := 1) hx3
  have H3 := hide (And.intro hB3 hx3)
  have hle : w.heap.size ≤ w.heap.size + 1 := Nat.le_succ _
  clear hre hb3 hB3 hr3 hx3 a0 a1 hri3
  by_cases hb : s.bad = 0
  rotate_left
  · have hbb : (s.bad != 0) = true := by simpa using hb
    have hR2 := HR.out
    rw [if_neg hb] at hR2
    have HR2 := hide hR2
    clear hb hR2
    go_wp2
    refine bodyPost_ret (results_cell_tmp2_row rfl _ _ _ _ _ _ _ rfl (heap_set2 H3.out.2) Tryz.underlying25 rfl Tryz.infoPart) rfl ⟨⟨_, by rw [HR2.out]; rfl, by rw [HR2.out]; exact World.ownsRow_nil _ _ _ _⟩, ?_⟩
    exact (H3.out.1.setCell (p := ⟨w.heap.size + 1, 0, none⟩) hle _).setCell (p := ⟨w.heap.size + 1, 1, none⟩) hle _
  · have hdo : dataOf s = s.data := if_pos hb
    have hlen := HW.out hb
    have hR2 := HR.out
    rw [if_pos hb] at hR2
    rw [hdo, hb]
    clear hdo hb
    obtain ⟨e1, e2⟩ := end_within o2 o4 o3
    unfold spB at hR2
    obtain ⟨fn, rfl⟩ : ∃ fn : Nat, f = (fn : Int) := ⟨f.toNat, by omega⟩
    obtain ⟨en, hen⟩ : ∃ en : Nat, endP p.2 (fn : Int) n = (en : Int) := ⟨(endP p.2 (fn : Int) n).toNat, by omega⟩
    rw [hen] at hR2 e1 e2
    rw [Int.toNat_natCast, Int.toNat_natCast] at hR2
    generalize s.data = l at *
    have hl2 := strB_size l
    have hs1 := fun W => slice_lo W l fn (by omega)
    have hs2 := fun W => slice_hi W l en (by omega)
    have hxl : (strB l).extract 0 fn = strB (l.take fn) := by rw [ext_strB, List.drop_zero]
    have hxh : (strB l).extract en l.length = strB (l.drop en) := by rw [ext_strB, List.take_length]
    have hk1 : (l.take fn).length = fn := by rw [List.length_take]; omega
    have hk2 : (l.drop en).length = l.length - en := List.length_drop
    obtain ⟨la, hla⟩ : ∃ la, la = l.take fn := ⟨_, rfl⟩
    obtain ⟨lb, hlb⟩ : ∃ lb, lb = l.drop en := ⟨_, rfl⟩
    rw [← hla] at hs1 hxl hk1 hR2
    rw [← hlb] at hs2 hxh hk2 hR2
    have HR2 := hide hR2
    have HEN := hide hen
    have hla9 : la.length ≤ 262144 := by omega
    have hlb9 : lb.length ≤ 262144 := by omega
    have hcase : (n < p.2 - (fn : Int) ∧ (fn : Int) + n = (en : Int)) ∨ (¬ n < p.2 - (fn : Int) ∧ p.2 = (en : Int)) := by
      unfold endP at hen
      by_cases h : n < p.2 - (fn : Int)
      · exact .inl ⟨h, by omega⟩
      · exact .inr ⟨h, by omega⟩
    clear hR2 hk1 hk2 hlen hla hlb hen
    by_cases hlg : 262144 < d.length
    · have hno := bldP_no (l := la ++ d ++ lb) (by simp only [List.length_append]; omega)
      have hR3 := HR2.out.trans hno
      have HR3 := hide hR3
      have hlg2 : decide ((262144 : Int) < d.length) = true := decide_eq_true (by omega)
      clear hno hR3 hlg
      rcases hcase with ⟨q1, q2⟩ | ⟨q1, q2⟩
      all_goals
        clear q2
        go_wp2
        refine bodyPost_ret (results_cell_tmp2_row rfl _ _ _ _ _ _ _ rfl (heap_set2 H3.out.2) Tryz.underlying25 rfl Tryz.infoPart) rfl ⟨⟨_, by rw [HR3.out]; rfl, by rw [HR3.out]; exact World.ownsRow_nil _ _ _ _⟩, ?_⟩
        exact (H3.out.1.setCell (p := ⟨w.heap.size + 1, 0, none⟩) hle _).setCell (p := ⟨w.heap.size + 1, 1, none⟩) hle _
    · have hlg2 : decide ((262144 : Int) < d.length) = false := decide_eq_false (by omega)
      have ha1 := fun W => add_str W la d (by omega)
      have ha2 := fun W => add_str W (la ++ d) lb (by rw [List.length_append]; omega)
      have hbd : ∀ W : World, Calls Tryz.prog 9 #[.string (strB (la ++ d ++ lb))] W fun e w' => said3 W.heap.size R e w' ∧ Below W.heap.size W w' := fun W => by
        rw [HR2.out]
        by_cases h : (la ++ d ++ lb).length ≤ 262144
        · rw [bldP_yes h]
          exact (rbuild_any W _ h).mono fun e w' ⟨u, h1, h2, h3⟩ => ⟨⟨u, h1, h2⟩, h3⟩
        · rw [bldP_no h]
          exact (rbuild_long W _ (by omega)).mono fun e w' ⟨h1, h2⟩ => ⟨⟨_, h1, World.ownsRow_nil _ _ _ _⟩, h2⟩
      have hbd3 := hbd w3.drew
      rw [List.append_assoc] at hbd3
      clear hbd hlg
      rcases hcase with ⟨q1, q2⟩ | ⟨q1, q2⟩
      all_goals
        go_wp2_with fail
        try rw [q2]
        refine wp_region_held_drew (S := fun W => W.cell? ⟨w.heap.size, 0, none⟩ = some (.string (strB p.1)) ∧ W.cell? ⟨w.heap.size, 1, none⟩ = some (.int .i64 p.2)) (by kernel_rfl) (⟨b0, b1⟩) (fun hHeld => ?_)
        refine takeJ 0 (v := ?_) ?_ hHeld ?_
        rotate_left
        · rintro w ⟨_, _⟩; go_simp; try with_reducible rfl
        refine takeJ 1 (v := ?_) ?_ hHeld ?_
        rotate_left
        · rintro w ⟨_, _⟩; go_simp; try with_reducible rfl
        refine takeJ 2 (v := ?_) ?_ hHeld ?_
        rotate_left
        · rintro w ⟨_, _⟩; go_simp; try with_reducible rfl
        refine takeJ 3 (v := ?_) ?_ hHeld ?_
        rotate_left
        · rintro w ⟨_, _⟩; go_simp; try with_reducible rfl
        refine takeJ 4 (v := ?_) ?_ hHeld ?_
        rotate_left
        · rintro w ⟨_, _⟩; go_simp; try with_reducible rfl
        refine takeJ 5 (v := ?_) ?_ hHeld ?_
        rotate_left
        · rintro w ⟨_, _⟩; go_simp; try with_reducible rfl
        refine takeJ 6 (v := ?_) ?_ hHeld ?_
        rotate_left
        · rintro w ⟨_, _⟩; go_simp; try with_reducible rfl
        refine takeJ 7 (v := ?_) ?_ hHeld ?_
        rotate_left
        · rintro w ⟨_, _⟩; go_simp; try with_reducible rfl
        refine takeJ 8 (v := ?_) ?_ hHeld ?_
        rotate_left
        · rintro w ⟨_, _⟩; go_simp; try with_reducible rfl
        refine onlyH (i := 9) rfl (by kernel_rfl) rfl (fun K hK => ?_)
        go_simp
        refine hbd3.mono ?_
        rintro e w5 ⟨⟨vn, rfl, hrow5⟩, hb5⟩
        have hb35 : Below w3.heap.size w3 w5 := (Below.refl w3.heap.size w3).drew.trans hb5
        have hB5 := H3.out.1.trans (hb35.mono H3.out.1.size)
        have hx5 := (hb35.block _ (lt_of_heap H3.out.2)).trans H3.out.2
        have d0 := (hb35.cell (p := ⟨w.heap.size, 0, none⟩) (by have := lt_of_heap H3.out.2; show w.heap.size < _; omega)).trans b0
        have d1 := (hb35.cell (p := ⟨w.heap.size, 1, none⟩) (by have := lt_of_heap H3.out.2; show w.heap.size < _; omega)).trans b1
        have z0 := cell_of_row w5 (w.heap.size + 1) 0 _ _ _ hx5
        have z1 := cell_of_row w5 (w.heap.size + 1) 1 _ _ _ hx5
        simp only [List.getElem?_toArray, List.getElem?_cons_zero, List.getElem?_cons_succ] at z0 z1
        have u0 := frozen0 (j := 0) hx5
        have u1 := frozen0 (j := 1) hx5
        have k0 : ((w5.setCell ⟨w.heap.size + 1, 0, none⟩ (.string (strB R.1.1))).setCell ⟨w.heap.size + 1, 1, none⟩ (.int .i64 R.1.2)).cell? ⟨w.heap.size, 0, none⟩ = some (.string (strB p.1)) := by
          rw [cell_setOther (by omega), cell_setOther (by omega)]; exact d0
        have k1 : ((w5.setCell ⟨w.heap.size + 1, 0, none⟩ (.string (strB R.1.1))).setCell ⟨w.heap.size + 1, 1, none⟩ (.int .i64 R.1.2)).cell? ⟨w.heap.size, 1, none⟩ = some (.int .i64 p.2) := by
          rw [cell_setOther (by omega), cell_setOther (by omega)]; exact d1
        obtain ⟨na, nm, nc, rfl⟩ := row_form hrow5
        have H5 := hide (And.intro hB5 (And.intro hx5 (own_low hrow5 (show w.heap.size ≤ w3.drew.heap.size from H3.out.1.size))))
        clear hbd3 hrow5 hb5 hb35 hB5 hx5
        refine hK.out _ _ (⟨d0, d1⟩) (fun hHeld => ?_)
        clear hK K
        try simp only [Act.put, List.setIfInBounds_toArray, List.set_cons_zero, List.set_cons_succ]
        refine takeJ 10 (v := ?_) ?_ hHeld ?_
        rotate_left
        · rintro w ⟨_, _⟩; go_simp; try with_reducible rfl
        refine takeJ 11 (v := ?_) ?_ hHeld ?_
        rotate_left
        · rintro w ⟨_, _⟩; go_simp; try with_reducible rfl
        refine takeJ 12 (v := ?_) ?_ hHeld ?_
        rotate_left
        · rintro w ⟨_, _⟩; go_simp; try with_reducible rfl
        refine onlyH (i := 13) rfl (by kernel_rfl) rfl (fun K hK => ?_)
        go_simp
        refine hK.out _ _ (⟨k0, k1⟩) (fun hHeld => ?_)
        clear hK K
        try simp only [Act.put, List.setIfInBounds_toArray, List.set_cons_zero, List.set_cons_succ]
        refine takeJ 14 (v := ?_) ?_ hHeld ?_
        rotate_left
        · rintro w ⟨_, _⟩; go_simp; try with_reducible rfl
        refine takeJ 15 (v := ?_) ?_ hHeld ?_
        rotate_left
        · rintro w ⟨_, _⟩; go_simp; try with_reducible rfl
        refine wpAnyH_done (by kernel_rfl) ?_ _
        clear hHeld
        go_wp2
        refine bodyPost_ret (results_cell_tmp2_row rfl _ _ _ _ _ _ _ rfl (heap_set2 H5.out.2.1) Tryz.underlying25 rfl Tryz.infoPart) rfl ⟨⟨_, rfl, ?_⟩, ?_⟩
        · exact own_setCell (own_setCell H5.out.2.2 H5.out.2.1 (by decide) _) (heap_set1a H5.out.2.1) (by decide) _
        · exact (H5.out.1.setCell (p := ⟨w.heap.size + 1, 0, none⟩) hle _).setCell (p := ⟨w.heap.size + 1, 1, none⟩) hle _
end Go.Proofs.YtokebnkgjchfaaaGreatDoor
