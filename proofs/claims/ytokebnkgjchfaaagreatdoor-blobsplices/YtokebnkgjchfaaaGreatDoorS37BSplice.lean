/-
  Bytes in the place of others, by the program. Conditions: the objects lie there; texts within reach; the table holds its numbers.
-/
import Derived.Test.YtokebnkgjchfaaaGreatDoorS30BRRead
import Derived.Test.YtokebnkgjchfaaaGreatDoorS36BBuilds
namespace Go.Proofs.YtokebnkgjchfaaaGreatDoor
open Go.RowKit

theorem slice_lo (W : World) (l : Bs) (j : Nat) (h : j ≤ l.length) : (Instr.slice 9 (.string (strB l)) none (some (.int .i64 (j : Int))) none).run Tryz.prog W = .ok (.string (strB (l.take j))) W := by
  rw [run_slice_string_h W _ _ Tryz.underlying9 _ _ (by omega) (by rw [strB_size]; omega), Int.toNat_natCast, ext_strB, List.drop_zero]
theorem slice_hi (W : World) (l : Bs) (i : Nat) (h : i ≤ l.length) : (Instr.slice 9 (.string (strB l)) (some (.int .i64 (i : Int))) none none).run Tryz.prog W = .ok (.string (strB (l.drop i))) W := by
  rw [run_slice_string_l W _ _ Tryz.underlying9 _ _ (by omega) (by rw [strB_size]; omega), Int.toNat_natCast, strB_size, ext_strB, List.take_length]
theorem strB_add (a b : Bs) : strB a ++ strB b = strB (a ++ b) := by
  unfold strB
  apply ByteArray.ext
  simp
theorem add_str (W : World) (a b : Bs) (h : a.length + b.length ≤ 9223372036854775807) : (Op.stringOp .add (strB a) (strB b)).run Tryz.prog W = .ok (.string (strB (a ++ b))) W := by
  rw [run_string_add_sum _ _ _ (by rw [strB_size, strB_size]; omega), strB_add]
/-- What Splice answers. -/
def spliceP (fd : Bs → Option Bs) (p : Part) (f n : Int) (d : Bs) : Part × List Pair × Int :=
  if (readP fd p 0 p.2 []).bad = 0 then bldP (spB (readP fd p 0 p.2 []).data p.2 f n d) else (([], 0), [], (readP fd p 0 p.2 []).bad)
/-- What is answered: a part, objects, an error. -/
def said3 (B : Nat) (R : Part × List Pair × Int) (e : Ending) (w' : World) : Prop := ∃ v, e = .returned (.tuple #[.agg #[.string (strB R.1.1), .int .i64 R.1.2], v, .int .i64 R.2.2]) ∧ Rw B w' 57 2 pairC v R.2.1
theorem spOk_cases {p : Part} {f n : Int} (h : ¬ spOk p f n) : rightR p = false ∨ (rightR p = true ∧ f < 0) ∨ (rightR p = true ∧ 0 ≤ f ∧ n < 0) ∨ (rightR p = true ∧ 0 ≤ f ∧ 0 ≤ n ∧ p.2 < f) := by
  unfold spOk at h
  cases hr : rightR p
  · exact .inl rfl
  · rw [hr] at h
    simp only [true_and] at h
    rcases Int.lt_or_le f 0 with h1 | h1
    · exact .inr (.inl ⟨rfl, h1⟩)
    · rcases Int.lt_or_le n 0 with h2 | h2
      · exact .inr (.inr (.inl ⟨rfl, h1, h2⟩))
      · exact .inr (.inr (.inr ⟨rfl, h1, h2, by omega⟩))
set_option maxRecDepth 40000 in
set_option maxHeartbeats 1600000 in
theorem bsplice_no (w : World) (fv : Value) (p : Part) (f n : Int) (d : Bs) (h : ¬ spOk p f n) :
    Calls Tryz.prog 11 #[fv, .agg #[.string (strB p.1), .int .i64 p.2], .int .i64 f, .int .i64 n, .string (strB d)] w fun e w' => said3 w.heap.size (([], 0), [], 2) e w' ∧ Below w.heap.size w w' := by
  have hb0 : Below w.heap.size w ((w.alloc (.cells #[.string (strB p.1), .int .i64 p.2] 25)).alloc (.cells #[.string ⟨#[]⟩, .int .i64 0] 25)) := ((Below.refl _ _).alloc (Nat.le_refl _) _).alloc (by simp) _
  have hr0 : ((w.alloc (.cells #[.string (strB p.1), .int .i64 p.2] 25)).alloc (.cells #[.string ⟨#[]⟩, .int .i64 0] 25)).heap[w.heap.size]? = some (.cells #[.string (strB p.1), .int .i64 p.2] 25) := (heap_past _ _ _ (by simp)).trans (heap_last w _ _ rfl)
  have hx0 : ((w.alloc (.cells #[.string (strB p.1), .int .i64 p.2] 25)).alloc (.cells #[.string ⟨#[]⟩, .int .i64 0] 25)).heap[w.heap.size + 1]? = some (.cells #[.string ⟨#[]⟩, .int .i64 0] 25) := heap_last _ _ _ (by simp)
  generalize hw0 : (w.alloc (.cells #[.string (strB p.1), .int .i64 p.2] 25)).alloc (.cells #[.string ⟨#[]⟩, .int .i64 0] 25) = w0 at *
  have hri := isRight_any w0 p
  have H0 := hide (And.intro hb0 (And.intro hr0 hx0))
  have a0 := cell_of_row w0 w.heap.size 0 _ _ _ hr0
  have a1 := cell_of_row w0 w.heap.size 1 _ _ _ hr0
  simp only [List.getElem?_toArray, List.getElem?_cons_zero, List.getElem?_cons_succ] at a0 a1
  clear hb0 hr0 hx0
  rcases spOk_cases h with h1 | ⟨h1, h2⟩ | ⟨h1, h2, h3⟩ | ⟨h1, h2, h3, h4⟩
  all_goals
    rw [h1] at hri
    clear h h1
    go_enter Tryz.func11, Tryz.ntmps11
    go_wp2_with fail
    try rw [hw0]
    refine hri.mono ?_
    rintro e w1 ⟨rfl, hb1⟩
    have hB1 := H0.out.1.trans (hb1.mono H0.out.1.size)
    have hr1 := (hb1.block _ (lt_of_heap H0.out.2.1)).trans H0.out.2.1
    have hx1 := (hb1.block _ (lt_of_heap H0.out.2.2)).trans H0.out.2.2
    have c1 := cell_of_row w1 w.heap.size 1 _ _ _ hr1
    have x0 := cell_of_row w1 (w.heap.size + 1) 0 _ _ _ hx1
    have x1 := cell_of_row w1 (w.heap.size + 1) 1 _ _ _ hx1
    simp only [List.getElem?_toArray, List.getElem?_cons_zero, List.getElem?_cons_succ] at c1 x0 x1
    have f0 := frozen0 (j := 0) hx1
    have f1 := frozen0 (j := 1) hx1
    have H1 := hide (And.intro hB1 hx1)
    clear hri hb1 hB1 hr1 hx1
    go_wp2
    refine bodyPost_ret (results_cell_tmp2_row rfl _ _ _ _ _ _ _ rfl (heap_set2 H1.out.2) Tryz.underlying25 rfl Tryz.infoPart) rfl ⟨⟨_, rfl, World.ownsRow_nil _ _ _ _⟩, ?_⟩
    exact (H1.out.1.setCell (p := ⟨w.heap.size + 1, 0, none⟩) (Nat.le_succ _) _).setCell (p := ⟨w.heap.size + 1, 1, none⟩) (Nat.le_succ _) _
set_option maxRecDepth 40000 in
set_option maxHeartbeats 1600000 in
theorem bsplice_any (w2 : World) (c : Nat) (v : Value) (objs : List Pair) (hc : w2.heap[c]? = some (.cells #[v] 26)) (hv : Ls w2.heap.size w2 2 pairC v objs) (hob : ∀ o ∈ objs, o.2.length ≤ 140737488351232) (hT : TabW w2) (w : World) (hw : Below w2.heap.size w2 w) (p : Part) (f n : Int) (d : Bs) (hd : d.length ≤ 262145) (hok : spOk p f n) (hf2 : f ≤ 9223372036854775807) (hn2 : n ≤ 9223372036854775807) :
    Calls Tryz.prog 11 #[.func (.func 27) #[] #[.pointer (some ⟨c, 0, none⟩)], .agg #[.string (strB p.1), .int .i64 p.2], .int .i64 f, .int .i64 n, .string (strB d)] w fun e w' => said3 w2.heap.size (spliceP (findO objs) p f n d) e w' ∧ Below w2.heap.size w2 w' := by
  have hb0 : Below w.heap.size w ((w.alloc (.cells #[.string (strB p.1), .int .i64 p.2] 25)).alloc (.cells #[.string ⟨#[]⟩, .int .i64 0] 25)) := ((Below.refl _ _).alloc (Nat.le_refl _) _).alloc (by simp) _
  have hr0 : ((w.alloc (.cells #[.string (strB p.1), .int .i64 p.2] 25)).alloc (.cells #[.string ⟨#[]⟩, .int .i64 0] 25)).heap[w.heap.size]? = some (.cells #[.string (strB p.1), .int .i64 p.2] 25) := (heap_past _ _ _ (by simp)).trans (heap_last w _ _ rfl)
  have hx0 : ((w.alloc (.cells #[.string (strB p.1), .int .i64 p.2] 25)).alloc (.cells #[.string ⟨#[]⟩, .int .i64 0] 25)).heap[w.heap.size + 1]? = some (.cells #[.string ⟨#[]⟩, .int .i64 0] 25) := heap_last _ _ _ (by simp)
  generalize hw0 : (w.alloc (.cells #[.string (strB p.1), .int .i64 p.2] 25)).alloc (.cells #[.string ⟨#[]⟩, .int .i64 0] 25) = w0 at *
  obtain ⟨o1, o2, o3, o4⟩ := hok
  obtain ⟨r1, r2, r3⟩ := (rightR_iff p).1 o1
  have hri := isRight_any w0 p
  rw [o1] at hri
  have hB0 : Below w2.heap.size w2 w0 := hw.trans (hb0.mono hw.size)
  have hG := get_from (w2 := w2) rts (by decide) hc hv hob
  have hre := fun W (hW : Below w2.heap.size w2 W) => bread_any W _ _ _ _ _ hG p 0 p.2 [] hW (by simp) o1 (Int.le_refl _) (by omega) r2 (by omega)
  obtain ⟨R, hR⟩ : ∃ R, R = spliceP (findO objs) p f n d := ⟨_, rfl⟩
  rw [← hR]
  unfold spliceP at hR
  have hwl := read_whole (fd := findO objs) (p := p) r2
  generalize readP (findO objs) p 0 p.2 [] = s at *
  have HR := hide hR
  have H0 := hide (And.intro hB0 (And.intro hr0 (And.intro hx0 hw.size)))
  have HW := hide hwl
  have HRE := hide hre
  have hd2 := strB_size d
  have c0 := cell_of_row w0 w.heap.size 0 _ _ _ hr0
  have c1 := cell_of_row w0 w.heap.size 1 _ _ _ hr0
  simp only [List.getElem?_toArray, List.getElem?_cons_zero, List.getElem?_cons_succ] at c0 c1
  clear hb0 hr0 hx0 hB0 hR hwl hre hG hv hc hob hw
  go_enter Tryz.func11, Tryz.ntmps11
  go_wp2_with fail
  try rw [hw0]
  refine hri.mono ?_
  rintro e w1 ⟨rfl, hb1⟩
  have hB1 := H0.out.1.trans (hb1.mono H0.out.1.size)
  have hr1 := (hb1.block _ (lt_of_heap H0.out.2.1)).trans H0.out.2.1
  have hx1 := (hb1.block _ (lt_of_heap H0.out.2.2.1)).trans H0.out.2.2.1
  have a0 := cell_of_row w1 w.heap.size 0 _ _ _ hr1
  have a1 := cell_of_row w1 w.heap.size 1 _ _ _ hr1
  simp only [List.getElem?_toArray, List.getElem?_cons_zero, List.getElem?_cons_succ] at a0 a1
  have hre := HRE.out w1 hB1
  have H1 := hide (And.intro hr1 hx1)
  clear hri hb1 hB1 hr1 hx1 c0 c1
  go_wp2_with fail
  refine hre.mono ?_
  rintro e w3 ⟨rfl, hB3, hM3⟩
  have hr3 := hM3.k _ _ _ _ H1.out.1 (by decide) (by simp)
  have hx3 := hM3.k _ _ _ _ H1.out.2 (by decide) (by simp)
  have b0 := cell_of_row w3 w.heap.size 0 _ _ _ hr3
  have b1 := cell_of_row w3 w.heap.size 1 _ _ _ hr3
  have x0 := cell_of_row w3 (w.heap.size + 1) 0 _ _ _ hx3
  have x1 := cell_of_row w3 (w.heap.size + 1) 1 _ _ _ hx3
  simp only [List.getElem?_toArray, List.getElem?_cons_zero, List.getElem?_cons_succ] at b0 b1 x0 x1
  have g0 := frozen0 (j := 0) hx3
  have g1 := frozen0 (j := 1) hx3
  have H3 := hide (And.intro hB3 (And.intro hr3 hx3))
  have hle : w2.heap.size ≤ w.heap.size + 1 := by have := H0.out.2.2.2; omega
  clear hre hB3 hM3 hr3 hx3 a0 a1
  by_cases hb : s.bad = 0
  rotate_left
  · have hbb : (s.bad != 0) = true := by simpa using hb
    have hrv : readV s = .tuple #[.string ⟨#[]⟩, .int .i64 s.bad] := if_neg hb
    have hR2 := HR.out
    rw [if_neg hb] at hR2
    have HR2 := hide hR2
    rw [hrv]
    clear hrv hb hR2
    go_wp2
    refine bodyPost_ret (results_cell_tmp2_row rfl _ _ _ _ _ _ _ rfl (heap_set2 H3.out.2.2) Tryz.underlying25 rfl Tryz.infoPart) rfl ⟨⟨_, by rw [HR2.out]; rfl, by rw [HR2.out]; exact World.ownsRow_nil _ _ _ _⟩, ?_⟩
    exact (H3.out.1.setCell (p := ⟨w.heap.size + 1, 0, none⟩) hle _).setCell (p := ⟨w.heap.size + 1, 1, none⟩) hle _
  · have hrv : readV s = .tuple #[.string (strB s.data), .int .i64 0] := if_pos hb
    have hlen := HW.out hb
    have hR2 := HR.out
    rw [if_pos hb] at hR2
    rw [hrv]
    clear hrv hb
    obtain ⟨e1, e2⟩ := end_within o2 o4 o3
    have heo := endOf_any w3.drew p f n r2 r3 o2 hf2 o3 hn2
    unfold spB at hR2
    obtain ⟨fn, rfl⟩ : ∃ fn : Nat, f = (fn : Int) := ⟨f.toNat, by omega⟩
    obtain ⟨en, hen⟩ : ∃ en : Nat, endP p.2 (fn : Int) n = (en : Int) := ⟨(endP p.2 (fn : Int) n).toNat, by omega⟩
    rw [hen] at heo hR2 e1 e2
    rw [Int.toNat_natCast, Int.toNat_natCast] at hR2
    generalize s.data = l at *
    have hl2 := strB_size l
    have hs1 := fun W => slice_lo W l fn (by omega)
    have hs2 := fun W => slice_hi W l en (by omega)
    have hxl : (strB l).extract 0 fn = strB (l.take fn) := by rw [ext_strB, List.drop_zero]
    have hxh : (strB l).extract en l.length = strB (l.drop en) := by rw [ext_strB, List.take_length]
    have hk1 : (l.take fn).length = fn := by rw [List.length_take]; omega
    have hk2 : (l.drop en).length = l.length - en := List.length_drop
    obtain ⟨la, hla⟩ : ∃ la, la = l.take fn := ⟨_, rfl⟩
    obtain ⟨lb, hlb⟩ : ∃ lb, lb = l.drop en := ⟨_, rfl⟩
    rw [← hla] at hs1 hxl hk1 hR2
    rw [← hlb] at hs2 hxh hk2 hR2
    have hz1 := strB_size la
    have hz2 := strB_size lb
    have HR2 := hide hR2
    have HK := hide (And.intro hk1 (And.intro hk2 hlen))
    have hla9 : la.length ≤ 262144 := by omega
    have hlb9 : lb.length ≤ 262144 := by omega
    clear hR2 hk1 hk2 hlen hla hlb hen
    go_wp2_with fail
    refine wp_region_held_drew (S := fun W => W.cell? ⟨w.heap.size, 0, none⟩ = some (.string (strB p.1)) ∧ W.cell? ⟨w.heap.size, 1, none⟩ = some (.int .i64 p.2)) (by kernel_rfl) (⟨b0, b1⟩) (fun hHeld => ?_)
    refine takeJ 0 (v := ?_) ?_ hHeld ?_
    rotate_left
    · rintro w ⟨_, _⟩; go_simp; try with_reducible rfl
    refine takeJ 1 (v := ?_) ?_ hHeld ?_
    rotate_left
    · rintro w ⟨_, _⟩; go_simp; try with_reducible rfl
    refine takeJ 2 (v := ?_) ?_ hHeld ?_
    rotate_left
    · rintro w ⟨_, _⟩; go_simp; try with_reducible rfl
    refine takeJ 3 (v := ?_) ?_ hHeld ?_
    rotate_left
    · rintro w ⟨_, _⟩; go_simp; try with_reducible rfl
    refine takeJ 4 (v := ?_) ?_ hHeld ?_
    rotate_left
    · rintro w ⟨_, _⟩; go_simp; try with_reducible rfl
    refine takeJ 5 (v := ?_) ?_ hHeld ?_
    rotate_left
    · rintro w ⟨_, _⟩; go_simp; try with_reducible rfl
    refine takeJ 6 (v := ?_) ?_ hHeld ?_
    rotate_left
    · rintro w ⟨_, _⟩; go_simp; try with_reducible rfl
    refine onlyH (i := 7) rfl (by kernel_rfl) rfl (fun K hK => ?_)
    go_simp
    refine heo.mono ?_
    rintro e w4 ⟨rfl, hb4⟩
    have hb34 : Below w3.heap.size w3 w4 := (Below.refl w3.heap.size w3).drew.trans hb4
    have hB4 := H3.out.1.trans (hb34.mono H3.out.1.size)
    have hr4 := (hb34.block _ (lt_of_heap H3.out.2.1)).trans H3.out.2.1
    have hx4 := (hb34.block _ (lt_of_heap H3.out.2.2)).trans H3.out.2.2
    have d0 := cell_of_row w4 w.heap.size 0 _ _ _ hr4
    have d1 := cell_of_row w4 w.heap.size 1 _ _ _ hr4
    have y0 := cell_of_row w4 (w.heap.size + 1) 0 _ _ _ hx4
    have y1 := cell_of_row w4 (w.heap.size + 1) 1 _ _ _ hx4
    simp only [List.getElem?_toArray, List.getElem?_cons_zero, List.getElem?_cons_succ] at d0 d1 y0 y1
    have t0 := frozen0 (j := 0) hx4
    have t1 := frozen0 (j := 1) hx4
    have H4 := hide (And.intro hB4 hx4)
    clear heo hb4 hb34 hB4 hr4 hx4
    refine hK.out _ _ (⟨d0, d1⟩) (fun hHeld => ?_)
    clear hK K
    try simp only [Act.put, List.setIfInBounds_toArray, List.set_cons_zero, List.set_cons_succ]
    refine takeJ 8 (v := ?_) ?_ hHeld ?_
    rotate_left
    · rintro w ⟨_, _⟩; go_simp; try with_reducible rfl
    refine takeJ 9 (v := ?_) ?_ hHeld ?_
    rotate_left
    · rintro w ⟨_, _⟩; go_simp; try with_reducible rfl
    refine takeJ 10 (v := ?_) ?_ hHeld ?_
    rotate_left
    · rintro w ⟨_, _⟩; go_simp; try with_reducible rfl
    refine wpAnyH_done (by kernel_rfl) ?_ _
    clear hHeld
    by_cases hlg : (262144 : Int) - la.length - lb.length < d.length
    · have hno := bldP_no (l := la ++ d ++ lb) (by simp only [List.length_append]; omega)
      have hR3 := HR2.out.trans hno
      have HR3 := hide hR3
      have hlg2 : decide ((262144 : Int) - la.length - lb.length < d.length) = true := decide_eq_true hlg
      clear hno hR3
      go_wp2
      refine bodyPost_ret (results_cell_tmp2_row rfl _ _ _ _ _ _ _ rfl (heap_set2 H4.out.2) Tryz.underlying25 rfl Tryz.infoPart) rfl ⟨⟨_, by rw [HR3.out]; rfl, by rw [HR3.out]; exact World.ownsRow_nil _ _ _ _⟩, ?_⟩
      exact (H4.out.1.setCell (p := ⟨w.heap.size + 1, 0, none⟩) hle _).setCell (p := ⟨w.heap.size + 1, 1, none⟩) hle _
    · have hyes := bldP_yes (l := la ++ d ++ lb) (by simp only [List.length_append]; omega)
      have hR3 := HR2.out.trans hyes
      have hbd := build_any w4 (la ++ d ++ lb) (hT.keep H4.out.1 hT.1) (by simp only [List.length_append]; omega)
      have hlg2 : decide ((262144 : Int) - la.length - lb.length < d.length) = false := decide_eq_false hlg
      have ha1 := fun W => add_str W la d (by omega)
      have ha2 := fun W => add_str W (la ++ d) lb (by rw [List.length_append]; omega)
      generalize fileP (la ++ d ++ lb) = fp at *
      rw [List.append_assoc] at hbd
      have HR3 := hide hR3
      clear hyes hR3 hlg
      go_wp2_with fail
      refine hbd.mono ?_
      rintro e w5 ⟨vn, rfl, hrow5, hb5⟩
      have hB5 := H4.out.1.trans (hb5.mono H4.out.1.size)
      have hx5 := (hb5.block _ (lt_of_heap H4.out.2)).trans H4.out.2
      have z0 := cell_of_row w5 (w.heap.size + 1) 0 _ _ _ hx5
      have z1 := cell_of_row w5 (w.heap.size + 1) 1 _ _ _ hx5
      simp only [List.getElem?_toArray, List.getElem?_cons_zero, List.getElem?_cons_succ] at z0 z1
      have u0 := frozen0 (j := 0) hx5
      have u1 := frozen0 (j := 1) hx5
      obtain ⟨na, nm, nc, rfl⟩ := row_form hrow5
      have H5 := hide (And.intro hB5 (And.intro hx5 (own_low hrow5 H4.out.1.size)))
      clear hbd hrow5 hb5 hB5 hx5
      go_wp2
      refine bodyPost_ret (results_cell_tmp2_row rfl _ _ _ _ _ _ _ rfl (heap_set2 H5.out.2.1) Tryz.underlying25 rfl Tryz.infoPart) rfl ⟨⟨_, by rw [HR3.out]; rfl, ?_⟩, ?_⟩
      · rw [HR3.out]
        exact own_setCell (own_setCell H5.out.2.2 H5.out.2.1 (by decide) _) (heap_set1a H5.out.2.1) (by decide) _
      · exact (H5.out.1.setCell (p := ⟨w.heap.size + 1, 0, none⟩) hle _).setCell (p := ⟨w.heap.size + 1, 1, none⟩) hle _
end Go.Proofs.YtokebnkgjchfaaaGreatDoor
