/-
  A file built by the reference. Conditions: a file's length.
-/
import Derived.Test.YtokebnkgjchfaaaGreatDoorS31BAbove
import Derived.Test.YtokebnkgjchfaaaGreatDoorS32BKept
import Derived.Test.YtokebnkgjchfaaaGreatDoorS33GRef
namespace Go.Proofs.YtokebnkgjchfaaaGreatDoor
open Go.RowKit

theorem cell_setOther {w : World} {g j b o : Nat} {u : Value} (h : b ≠ g) : (w.setCell ⟨g, j, none⟩ u).cell? ⟨b, o, none⟩ = w.cell? ⟨b, o, none⟩ :=
  World.cell?_setCell_other _ _ _ _ (by intro e; injection e with e; omega)
/-- A part and an object more. -/
theorem add_both {B : Nat} {w : World} {vp : Value} {ps : List Part} {vo : Value} {os : List Pair} (h2 : Rw B w 25 2 partC vp ps) (h3 : Rw B w 57 2 pairC vo os) (p : Part) (o : Pair) (q : Nat) (hq : w.heap[q]? = some (.cells #[.string (strB o.1), .string (strB o.2)] 57)) (hB : B ≤ w.heap.size) (hn : ps.length ≤ 4294967296) (hn2 : os.length ≤ 4294967296) :
    ∃ vp' w1 vo' w2, (Builtin.append_ #[38, 38] 38 #[vp, .slice (some ⟨w.heap.size, 0, none⟩) 1 1]).run Tryz.prog (w.alloc (.cells #[.string (strB p.1), .int .i64 p.2] 25)).drew = .ok vp' w1 ∧
      w1.heap[q]? = some (.cells #[.string (strB o.1), .string (strB o.2)] 57) ∧ Below B w w1 ∧
      (Builtin.append_ #[26, 26] 26 #[vo, .slice (some ⟨w1.heap.size, 0, none⟩) 1 1]).run Tryz.prog (w1.alloc (.cells #[.string (strB o.1), .string (strB o.2)] 57)) = .ok vo' w2 ∧
      Rw B w2 25 2 partC vp' (ps ++ [p]) ∧ Rw B w2 57 2 pairC vo' (os ++ [o]) ∧ Below B w w2 := by
  obtain ⟨vp', w1, hrun, hrow, hgr, -⟩ := app_part w.drew B vp ps p h2 hB hn
  rw [drew_alloc] at hrun hgr
  rw [show w.drew.heap.size = w.heap.size from rfl] at hrun
  have h2' : Rw B (w.alloc (.cells #[.string (strB p.1), .int .i64 p.2] 25)).drew 25 2 partC vp ps := World.ownsRow.alloc h2 _
  have h3' : Rw B (w.alloc (.cells #[.string (strB p.1), .int .i64 p.2] 25)).drew 57 2 pairC vo os := World.ownsRow.alloc h3 _
  have hq1 := grow_keep h2' hgr (show (w.alloc _).drew.heap[q]? = _ from (heap_past w (.cells #[.string (strB p.1), .int .i64 p.2] 25) _ (lt_of_heap hq)).trans hq) (by decide)
  have h31 := grow_other h3' h2' hgr (own_ne h3' h2' (by decide))
  have hb1 : Below B w w1 := ((Below.refl _ _).alloc hB _).drew.trans ((Below.refl _ _).grown hgr (by simp; omega) (fun q hq => (World.ownsRow.lt h2' q hq).1))
  have hB1 : B ≤ w1.heap.size := by have := hb1.size; omega
  obtain ⟨vo', w2, hrun2, hrow2, hgr2, -⟩ := app_obj w1 B vo os o h31 hB1 hn2
  have h31' : Rw B (w1.alloc (.cells #[.string (strB o.1), .string (strB o.2)] 57)) 57 2 pairC vo os := World.ownsRow.alloc h31 _
  have hr1' : Rw B (w1.alloc (.cells #[.string (strB o.1), .string (strB o.2)] 57)) 25 2 partC vp' (ps ++ [p]) := World.ownsRow.alloc hrow _
  have hb2 : Below B w w2 := (hb1.alloc hB1 _).trans ((Below.refl _ _).grown hgr2 (by simp; omega) (fun q hq => (World.ownsRow.lt h31' q hq).1))
  exact ⟨vp', w1, vo', w2, hrun, hq1, hb1, hrun2, grow_other hr1' h31' hgr2 (own_ne hr1' h31' (by decide)), hrow2, hb2⟩
/-- Objects behind objects. -/
theorem app_objs (w : World) (B B' : Nat) (v u : Value) (xs ys : List Pair) (h : Rw B w 57 2 pairC v xs) (hu : Rw B' w 57 2 pairC u ys) (hy : 1 ≤ ys.length) (hB : B ≤ w.heap.size) (hn : xs.length + ys.length ≤ 4294967296) :
    ∃ v' w', (Builtin.append_ #[26, 26] 26 #[v, u]).run Tryz.prog w = .ok v' w' ∧ Rw B w' 57 2 pairC v' (xs ++ ys) ∧ Below B w w' ∧ w.grownBy w' v.ownBlock := by
  obtain ⟨i0, hi, hz0, hz1, hz2⟩ := info_parts Tryz.zObj
  have hk2 := hu.2
  rcases hk2 with ⟨rfl, h0⟩ | ⟨g4, cap4, cur4, rfl, -, -, -, -, -, -⟩
  · omega
  have hfl : ∀ zs : List Pair, (zs.flatMap pairC).length = zs.length * 2 := fun zs => by
    induction zs with
    | nil => rfl
    | cons z zs ih => rw [List.flatMap_cons, List.length_append, ih, List.length_cons]; simp [pairC]; omega
  obtain ⟨v5, w5, hrun5, own5, hgr5, -⟩ := run_append_own (P := Tryz.prog) w B 26 26 57 i0 (.agg #[.string ⟨#[]⟩, .string ⟨#[]⟩]) 2 32 Tryz.underlying26 hi hz0 hz1 hz2 rfl (by decide) v xs.length (xs.flatMap pairC) h ⟨g4, 0, none⟩ ys.length cap4 (ys.flatMap pairC) (hfl ys) (World.ownsRow.cells hu (g := g4) rfl) (by intro x hx; obtain ⟨y, -, hy⟩ := List.mem_flatMap.1 hx; simp [pairC] at hy; rcases hy with rfl | rfl <;> simp [Value.oneCell']) (by unfold maxLen; omega) (by omega) hB
  rw [← List.flatMap_append, ← List.length_append] at own5
  exact ⟨v5, w5, hrun5, own5, (Below.refl _ _).grown hgr5 hB (fun q hq => (World.ownsRow.lt h q hq).1), hgr5⟩
theorem fileR_parts (l : Bs) (hl : l.length ≤ 262144) : RiseOk 0 ((cutC l).map partOf) ((cutC l).map objOf) := by
  have h := cutC_parts l hl
  have f4 := cutC_le l
  exact ⟨h.pos, h.few, h.ids, h.big, h.sum, by simp only [List.length_map]; omega⟩
theorem RiseOk.raw {j : Nat} {ps : List Part} {raw : List Pair} (h : RiseOk j ps raw) (hlt : 1 < ps.length) : RiseOk (j + 1) ((groups ps).map (fanP ((j : Int) + 1))) (raw ++ (groups ps).map (fanO ((j : Int) + 1))) := by
  have h1 := h.next hlt
  have hh := groups_half ps
  have ho := h.objs
  exact ⟨h1.pos, h1.few, h1.ids, h1.big, h1.sum, by simp only [List.length_append, List.length_map]; omega⟩
set_option maxRecDepth 40000 in
set_option maxHeartbeats 3200000 in
theorem rbuild_any (w : World) (l : Bs) (hl : l.length ≤ 262144) :
    Calls Tryz.prog 9 #[.string (strB l)] w fun e w' => ∃ v, e = .returned (.tuple #[.agg #[.string (strB (fileP l).1.1), .int .i64 (fileP l).1.2], v, .int .i64 0]) ∧ Rw w.heap.size w' 57 2 pairC v (fileP l).2 ∧ Below w.heap.size w w' := by
  have hs := strB_size l
  obtain ⟨fp, hfp⟩ : ∃ fp, fp = fileP l := ⟨_, rfl⟩
  rw [← hfp]
  have HFP := hide hfp
  have hb0 : Below w.heap.size w (w.alloc (.cells #[.string ⟨#[]⟩, .int .i64 0] 25)) := (Below.refl _ _).alloc (Nat.le_refl _) _
  have hx0 := heap_last w (.cells #[.string ⟨#[]⟩, .int .i64 0] 25) _ rfl
  have hn0 : (w.alloc (.cells #[.string ⟨#[]⟩, .int .i64 0] 25)).heap.size = w.heap.size + 1 := by simp
  generalize hw0 : w.alloc (.cells #[.string ⟨#[]⟩, .int .i64 0] 25) = w0 at *
  have hgt : decide ((262144 : Int) < (l.length : Int)) = false := by simp; omega
  have hcu := Gr.rcuts_any w0 l (by omega)
  rw [show Gr.strB l = strB l from rfl] at hcu
  obtain ⟨f1, f2, f3⟩ := cutC_facts l
  have f4 := cutC_le l
  have HF := hide (And.intro f1 (And.intro f2 (fileR_parts l hl)))
  have H0 := hide (And.intro hb0 (And.intro hx0 hn0))
  clear hb0 hx0 hfp f1 f2 hn0
  go_enter Tryz.func9, Tryz.ntmps9
  go_wp2_with fail
  try rw [hw0]
  refine hcu.mono ?_
  rintro e w1 ⟨v, rfl, hov, hb1⟩
  clear hcu
  by_cases hnil : l = []
  · have e0 : Gr.cuts l = [] := by rw [hnil]; rfl
    rw [e0] at hov
    obtain ⟨ao0, cap0, rfl, -, -⟩ := own_form hov
    have hm : 1 = (endsC (cutC l)).length := by rw [hnil]; rfl
    have hmc : 1 = (cutC l).length := by rw [hnil]; rfl
    have HM := hide (And.intro hm hmc)
    have hm2 : 1 ≤ 262145 := by omega
    have hb5 : Below w0.heap.size w0 (w1.alloc (.cells #[.int .i64 0] 3)) := hb1.alloc hb1.size _
    have hx5 := heap_last w1 (.cells #[.int .i64 0] 3) _ rfl
    have hov5 : (w1.alloc (.cells #[.int .i64 0] 3)).ownsRow w0.heap.size 3 1 (.slice (some ⟨w1.heap.size, 0, none⟩) 1 1) (endsC (cutC l)).length (Gr.ic (endsC (cutC l))) := by
      rw [hnil]
      exact ⟨rfl, .inr ⟨w1.heap.size, 1, #[.int .i64 0], rfl, hb1.size, hx5, Nat.le_refl _, by unfold maxLen; omega, rfl, rfl⟩⟩
    generalize hw5 : w1.alloc (.cells #[.int .i64 0] 3) = w5 at *
    have HE := hide (And.intro hov5 hb5)
    clear hm hmc hov hov5 hb5 hx5 hb1 e0 hnil f3 f4
    go_wp2_with fail
    try rw [hw5]
    go_loopw [6, 7, 8, 9] (fun vp vo t u wr => ∃ j : Nat, j ≤ 1 ∧ u = .int .i64 j ∧ t = .int .i64 (((cutC l).take j).flatten.length : Int) ∧ Rw w5.heap.size wr 25 2 partC vp (((cutC l).take j).map partOf) ∧ Rw w5.heap.size wr 57 2 pairC vo (((cutC l).take j).map objOf) ∧ Below w5.heap.size w5 wr)
      (fun _ _ _ u _ => 1 - (intOf u).toNat)
    case atStart => exact ⟨0, by omega, rfl, rfl, World.ownsRow_nil _ _ _ _, World.ownsRow_nil _ _ _ _, Below.refl _ _⟩
    case round =>
      obtain ⟨j, hj, rfl, rfl, hrp, hro, hbr⟩ := hrel
      by_cases hlt : j < 1
      · have hlt2 : j < (cutC l).length := by have := HM.out.2; omega
        have hlt3 : j < (endsC (cutC l)).length := by have := HM.out.1; omega
        have hovr := own_below HE.out.1 hbr
        have hge := endsC_get (cutC l) j hlt2
        rw [List.getElem?_eq_getElem hlt3] at hge
        injection hge with hge
        obtain ⟨bb, hbb, k0⟩ := int_cell hovr hlt3
        injection hbb with hbb
        injection hbb with hbb
        subst hbb
        have hbl : w1.heap.size < w5.heap.size := (HE.out.1.lt _ rfl).2
        have hck : ∀ W, Below w5.heap.size w5 W → W.cell? ⟨w1.heap.size, j, none⟩ = some (.int .i64 ((endsC (cutC l))[j] : Int)) := fun W hW => by
          obtain ⟨bb', hbb', k0'⟩ := int_cell (own_below HE.out.1 hW) hlt3
          injection hbb' with hbb'
          injection hbb' with hbb'
          rw [hbb']
          exact k0'
        rw [hge] at k0 hck
        obtain ⟨hcp1, hcp2⟩ := cut_piece (cutC l) l HF.out.1 j hlt2
        have hc1024 := HF.out.2.1 _ (List.getElem_mem hlt2)
        have hfl : ((cutC l).take (j + 1)).flatten.length = ((cutC l).take j).flatten.length + (cutC l)[j].length := by rw [List.take_succ_eq_append_getElem hlt2, List.flatten_append, List.length_append, List.flatten_singleton]
        have hmp : ((cutC l).take (j + 1)).map partOf = ((cutC l).take j).map partOf ++ [partOf (cutC l)[j]] := by rw [List.take_succ_eq_append_getElem hlt2, List.map_append]; rfl
        have hmo : ((cutC l).take (j + 1)).map objOf = ((cutC l).take j).map objOf ++ [objOf (cutC l)[j]] := by rw [List.take_succ_eq_append_getElem hlt2, List.map_append]; rfl
        have hlj : ((cutC l).take j).length ≤ j := by simp; omega
        generalize (cutC l)[j] = c at *
        generalize ((cutC l).take j).flatten.length = fr at *
        have hsl := fun W => slice_str W l fr (fr + c.length) (by omega) hcp2
        rw [hcp1] at hsl
        have hch := rchunk_any wr c (by omega)
        have hok : chunkOk c = true := by unfold chunkOk; simpa using hc1024
        rw [hok] at hch
        unfold made at hch
        simp only [if_true] at hch
        rw [objV_def] at hch
        have hcast : ((fr + c.length : Nat) : Int) = (fr : Int) + (c.length : Int) := by omega
        rw [hcast] at k0 hsl hck
        have HR := hide (And.intro hrp (And.intro hro hbr))
        have HST := hide (And.intro hfl (And.intro hmp hmo))
        have HCK := hide hck
        clear hovr hge hcp1 hfl hmp hmo hrp hro hbr hcast hck
        obtain ⟨sc, hsc⟩ : ∃ sc, sc = sha (67 :: c) := ⟨_, rfl⟩
        rw [← hsc] at hch
        have HSC := hide hsc
        clear hsc
        go_wp2_with fail
        refine hch.mono ?_
        rintro e w3 ⟨rfl, hb3⟩
        have hw4 : Below w3.heap.size w3 (w3.alloc (.cells #[.string (strB sc), .string (strB (67 :: c))] 57)) := (Below.refl _ _).alloc (Nat.le_refl _) _
        have hx4 := heap_last w3 (.cells #[.string (strB sc), .string (strB (67 :: c))] 57) _ rfl
        have hB34 := hb3.trans (hw4.mono hb3.size)
        generalize hw4e : w3.alloc (.cells #[.string (strB sc), .string (strB (67 :: c))] 57) = w4 at *
        have hrp4 := own_below HR.out.1 hB34
        have hro4 := own_below HR.out.2.1 hB34
        have hB4 : Below w5.heap.size w5 w4 := HR.out.2.2.trans (hB34.mono HR.out.2.2.size)
        obtain ⟨vp', w6, vo', w7, run6, hx6, hb6, run7, hrp7, hro7, hb7⟩ := add_both hrp4 hro4 (sc, (c.length : Int)) (sc, 67 :: c) w3.heap.size hx4 hB4.size (by simp; omega) (by simp; omega)
        have hxA := (heap_past w4 (.cells #[.string (strB sc), .int .i64 (c.length : Int)] 25) _ (lt_of_heap hx4)).trans hx4
        have x0 := cell_of_row w4 w3.heap.size 0 _ _ _ hx4
        have xA := cell_of_row _ w3.heap.size 0 _ _ _ hxA
        have x6 := cell_of_row w6 w3.heap.size 0 _ _ _ hx6
        have x61 := cell_of_row w6 w3.heap.size 1 _ _ _ hx6
        simp only [List.getElem?_toArray, List.getElem?_cons_zero, List.getElem?_cons_succ] at x0 xA x6 x61
        have k4 := HCK.out w4 hB4
        have kA := HCK.out _ (hB4.alloc hB4.size (.cells #[.string (strB sc), .int .i64 (c.length : Int)] 25))
        have k6 := HCK.out w6 (hB4.trans hb6)
        have k7 := HCK.out w7 (hB4.trans hb7)
        have hsub : (fr : Int) + (c.length : Int) - (fr : Int) = (c.length : Int) := by omega
        have hwc : IntKind.i64.wrap (c.length : Int) = (c.length : Int) := by rw [IntKind.wrap_i64]; omega
        have R6 := hide run6
        have R7 := hide run7
        have H7 := hide (And.intro hrp7 (And.intro hro7 (hB4.trans hb7)))
        obtain ⟨pa, pm, pc, rfl⟩ := row_form hrp7
        obtain ⟨oa, om, oc, rfl⟩ := row_form hro7
        obtain ⟨pa0, pm0, pc0, rfl⟩ := row_form hrp4
        obtain ⟨oa0, om0, oc0, rfl⟩ := row_form hro4
        clear hch hb3 hw4 hB34 hx4 hrp4 hro4 hB4 run6 hx6 hb6 run7 hrp7 hro7 hb7 hxA k0
        go_wp2_with fail
        refine wp_region_held_drew (S := fun W => W.cell? ⟨w3.heap.size, 0, none⟩ = some (.string (strB sc)) ∧ W.cell? ⟨w1.heap.size, j, none⟩ = some (.int .i64 ((fr : Int) + (c.length : Int)))) (by kernel_rfl) (⟨x0, k4⟩) (fun hHeld => ?_)
        refine takeJ 0 (v := ?_) ?_ hHeld ?_
        rotate_left
        · rintro w ⟨_, _⟩; go_simp; try with_reducible rfl
        refine takeJ 1 (v := ?_) ?_ hHeld ?_
        rotate_left
        · rintro w ⟨_, _⟩; go_simp; try with_reducible rfl
        refine takeJ 2 (v := ?_) ?_ hHeld ?_
        rotate_left
        · rintro w ⟨_, _⟩; go_simp; try with_reducible rfl
        refine takeJ 3 (v := ?_) ?_ hHeld ?_
        rotate_left
        · rintro w ⟨_, _⟩; go_simp; try with_reducible rfl
        refine takeJ 4 (v := ?_) ?_ hHeld ?_
        rotate_left
        · rintro w ⟨_, _⟩; go_simp; try with_reducible rfl
        refine takeJ 5 (v := ?_) ?_ hHeld ?_
        rotate_left
        · rintro w ⟨_, _⟩; go_simp; try with_reducible rfl
        refine takeJ 6 (v := ?_) ?_ hHeld ?_
        rotate_left
        · rintro w ⟨_, _⟩; go_simp; try with_reducible rfl
        refine takeJ 7 (v := ?_) ?_ hHeld ?_
        rotate_left
        · rintro w ⟨_, _⟩; go_simp; try with_reducible rfl
        refine takeJ 8 (v := ?_) ?_ hHeld ?_
        rotate_left
        · rintro w ⟨_, _⟩; go_simp; try with_reducible rfl
        refine takeJ 9 (v := ?_) ?_ hHeld ?_
        rotate_left
        · rintro w ⟨_, _⟩; go_simp; try with_reducible rfl
        refine onlyH (i := 10) rfl (by kernel_rfl) rfl (fun K hK => ?_)
        go_simp
        refine hK.out _ _ (⟨xA, kA⟩) (fun hHeld => ?_)
        clear hK K
        try simp only [Act.put, List.setIfInBounds_toArray, List.set_cons_zero, List.set_cons_succ]
        refine onlyH (i := 11) rfl (by kernel_rfl) rfl (fun K hK => ?_)
        refine wp_append_run (.tmp 42) (.tmp 52) 38 rfl rfl rfl R6.out ?_
        refine hK.out _ _ (⟨x6, k6⟩) (fun hHeld => ?_)
        clear hK K
        try simp only [Act.put, List.setIfInBounds_toArray, List.set_cons_zero, List.set_cons_succ]
        refine takeJ 12 (v := ?_) ?_ hHeld ?_
        rotate_left
        · rintro w ⟨_, _⟩; go_simp; try with_reducible rfl
        refine wpAnyH_done (by kernel_rfl) ?_ _
        clear hHeld xA kA x0 k4
        go_wp2_with (at_builtin; refine wpList_plain rfl (fun K hK => wp_append_run (.tmp 54) (.tmp 56) 26 rfl rfl rfl R7.out (hK _ _ ?_)))
        go_wp2
        go_roundw
        case rel =>
          refine ⟨j + 1, by omega, by go_num, ?_, ?_, ?_, H7.out.2.2⟩
          · rw [HST.out.1]; simp
          · rw [HST.out.2.1]; unfold partOf; rw [← HSC.out]; exact H7.out.1
          · rw [HST.out.2.2]; unfold objOf; rw [← HSC.out]; exact H7.out.2.1
        case measure => simp [intOf]; omega
      · have hj1 : j = 1 := by omega
        have htk : (cutC l).take j = cutC l := by rw [hj1, HM.out.2, List.take_length]
        rw [htk] at hrp hro
        have hjm : ¬ ((j : Int) < 1) := by omega
        have HR := hide (And.intro hrp (And.intro hro hbr))
        obtain ⟨pa, pm, pc, rfl⟩ := row_form hrp
        obtain ⟨oa, om, oc, rfl⟩ := row_form hro
        obtain ⟨wl, rfl⟩ : ∃ wl, wl = wr := ⟨wr, rfl⟩
        clear hrp hro hbr htk hj1
        go_wp2_with fail
        go_loopw [6, 7, 12] (fun vp vo u wr => ∃ (j : Nat) (ps : List Part) (raw : List Pair), u = .int .i64 ((j : Int) + 1) ∧ RiseOk j ps raw ∧ fileR l = riseR (19 - j) ((j : Int) + 1) ps raw ∧ Rw w5.heap.size wr 25 2 partC vp ps ∧ Rw w5.heap.size wr 57 2 pairC vo raw ∧ Below w5.heap.size w5 wr)
          (fun _ _ u _ => 20 - (intOf u).toNat)
        case atStart => exact ⟨0, _, _, rfl, HF.out.2.2, rfl, HR.out.1, HR.out.2.1, HR.out.2.2⟩
        case round =>
          obtain ⟨j, ps, raw, rfl, hrise, hfp, hrp, hro, hbr⟩ := hrel
          have hrise' := hrise
          obtain ⟨q1, q2, q3, q4, q5, q6⟩ := hrise'
          obtain ⟨ap, cp, rfl, hcap, hcap2⟩ := own_form hrp
          unfold maxLen at hcap2
          by_cases hlt2 : 1 < ps.length
          · have hj : j < 19 := by
              rcases Nat.lt_or_ge j 19 with h | h
              · exact h
              · rw [show 19 - j = 0 from by omega] at q2
                simp at q2
                omega
            have hne : ps ≠ [] := by intro e; rw [e] at hlt2; simp at hlt2
            have hab := above_any wr ps _ ((j : Int) + 1) ((ls_of_own partC_length hrp).up (Nat.le_refl _)) hne q3 (q4 hlt2) q5 (by omega) (by omega)
            have hnx := hrise.raw hlt2
            have hfn : fileR l = riseR (19 - (j + 1)) (((j + 1 : Nat) : Int) + 1) ((groups ps).map (fanP ((j : Int) + 1))) (raw ++ (groups ps).map (fanO ((j : Int) + 1))) := by
              rw [hfp, show 19 - j = (19 - (j + 1)) + 1 from by omega, riseR, if_pos hlt2]
              rfl
            have hg1 : 1 ≤ (groups ps).length := by rw [groups_step hne]; simp
            have HN := hide (And.intro hnx (And.intro hfn (And.intro hro hbr)))
            obtain ⟨oa2, om2, oc2, rfl⟩ := row_form hro
            have hsw := hbr.size
            have hgh := groups_half ps
            clear hnx hfn hrp hro hbr hfp hrise q1 q2 q3 q4 q5 hne
            go_wp2_with fail
            refine hab.mono ?_
            rintro e w8 ⟨vp8, vo8, rfl, hp8, ho8, hb8⟩
            have hro8 := own_below HN.out.2.2.1 hb8
            have hB8 := HN.out.2.2.2.trans (hb8.mono HN.out.2.2.2.size)
            obtain ⟨vo9, w9, run9, row9, hb9, gr9⟩ := app_objs w8 w5.heap.size _ _ _ _ _ hro8 ho8 (by rw [List.length_map]; exact hg1) hB8.size (by rw [List.length_map]; omega)
            have hp9 := grow_other hp8 hro8 gr9 (own_ne hp8 hro8 (by decide))
            have R9 := hide run9
            have H9 := hide (And.intro (own_low hp9 hsw) (And.intro row9 (hB8.trans hb9)))
            obtain ⟨pa8, pm8, pc8, rfl⟩ := row_form hp8
            obtain ⟨oa8, om8, oc8, rfl⟩ := row_form ho8
            obtain ⟨oa9, om9, oc9, rfl⟩ := row_form row9
            clear hab hp8 ho8 hb8 hro8 hB8 run9 row9 hb9 gr9 hp9
            go_wp2_with (at_builtin; refine wpList_plain rfl (fun K hK => wp_append_run (.tmp 72) (.tmp 73) 26 rfl rfl rfl R9.out (hK _ _ ?_)))
            go_wp2
            go_roundw
            case rel => exact ⟨j + 1, _, _, by go_num, HN.out.1, HN.out.2.1, H9.out.1, H9.out.2.1, H9.out.2.2⟩
            case measure => simp [intOf]; omega
          · have h1 : ps.length = 1 := by omega
            have hone := riseR_one (n := 19 - j) (level := (j : Int) + 1) (raw := raw) hlt2
            have hls := ls_of_own partC_length hrp
            obtain ⟨ap', cp', he1, -, -, hc⟩ := hls
            obtain ⟨pb, poff, rfl, hpb, hpc⟩ := hc (by rintro rfl; simp at h1)
            injection he1 with he1 _ he2
            subst he1 he2
            have hhd : ps.headD ([], 0) = ps[0] := by
              rcases ps with _ | ⟨a, t⟩
              · simp at h1
              · rfl
            rw [hhd] at hone
            have p0 := hpc 0 (by omega) 0 _ rfl
            have p1 := hpc 0 (by omega) 1 _ rfl
            have hfin : fp = (ps[0], keptP [] raw) := by rw [HFP.out, file_same, hfp, hone]
            generalize ps[0] = pt at *
            simp only [Nat.zero_mul, Nat.add_zero] at p0 p1
            have hkp := kept_any wr.drew raw _ ((ls_of_own pairC_length (show wr.drew.ownsRow _ _ _ _ _ _ from hro)).up (Nat.le_refl _)) (by omega)
            have HX := hide (And.intro hfin (And.intro hbr hpc))
            have hpg : w.heap.size < pb := by
              have h1 := (hrp.lt pb rfl).1
              have h2 := HE.out.2.size
              have h3 := H0.out.2.2
              omega
            have hpl := hpb
            obtain ⟨oa2, om2, oc2, rfl⟩ := row_form hro
            rw [h1] at hcap ⊢
            clear hone hhd hfp hfin hrise q1 q2 q3 q4 q5 q6 hrp hro hbr hpc hc h1 hlt2
            go_wp2_with fail
            refine wp_region_held_drew (S := fun W => W.cell? ⟨pb, poff, none⟩ = some (.string (strB pt.1)) ∧ W.cell? ⟨pb, poff + 1, none⟩ = some (.int .i64 pt.2)) (by kernel_rfl) (⟨p0, p1⟩) (fun hHeld => ?_)
            refine takeJ 0 (v := ?_) ?_ hHeld ?_
            rotate_left
            · rintro w ⟨_, _⟩; go_simp; try with_reducible rfl
            refine takeJ 1 (v := ?_) ?_ hHeld ?_
            rotate_left
            · rintro w ⟨_, _⟩; go_simp; try with_reducible rfl
            refine takeJ 2 (v := ?_) ?_ hHeld ?_
            rotate_left
            · rintro w ⟨_, _⟩; go_simp; try with_reducible rfl
            refine takeJ 3 (v := ?_) ?_ hHeld ?_
            rotate_left
            · rintro w ⟨_, _⟩; go_simp; try with_reducible rfl
            refine onlyH (i := 4) rfl (by kernel_rfl) rfl (fun K hK => ?_)
            go_simp
            refine hkp.mono ?_
            rintro e w8 ⟨vk, rfl, hrk, hb8⟩
            have hbw8 : Below wr.heap.size wr w8 := (Below.refl wr.heap.size wr).drew.trans hb8
            have c0 := (hbw8.cell (p := ⟨pb, poff, none⟩) hpl).trans p0
            have c1 := (hbw8.cell (p := ⟨pb, poff + 1, none⟩) hpl).trans p1
            have hB8 : Below w0.heap.size w0 w8 := (HE.out.2.trans (HX.out.2.1.mono HE.out.2.size)).trans (hbw8.mono (by have := HE.out.2.size; have := HX.out.2.1.size; omega))
            have hx8 := (hB8.block _ (lt_of_heap H0.out.2.1)).trans H0.out.2.1
            have x0 := cell_of_row w8 w.heap.size 0 _ _ _ hx8
            have x1 := cell_of_row w8 w.heap.size 1 _ _ _ hx8
            simp only [List.getElem?_toArray, List.getElem?_cons_zero, List.getElem?_cons_succ] at x0 x1
            have g0 := frozen0 (j := 0) hx8
            have g1 := frozen0 (j := 1) hx8
            have d0 : ((w8.setCell ⟨w.heap.size, 0, none⟩ (.string (strB pt.1))).setCell ⟨w.heap.size, 1, none⟩ (.int .i64 pt.2)).cell? ⟨pb, poff, none⟩ = some (.string (strB pt.1)) := by
              rw [cell_setOther (by omega), cell_setOther (by omega)]; exact c0
            have d1 : ((w8.setCell ⟨w.heap.size, 0, none⟩ (.string (strB pt.1))).setCell ⟨w.heap.size, 1, none⟩ (.int .i64 pt.2)).cell? ⟨pb, poff + 1, none⟩ = some (.int .i64 pt.2) := by
              rw [cell_setOther (by omega), cell_setOther (by omega)]; exact c1
            have HB8 := hide (And.intro hB8 (And.intro hx8 hrk))
            obtain ⟨ka, km, kc, rfl⟩ := row_form hrk
            have hwle : w.heap.size ≤ wr.heap.size := by
              have h2 := HE.out.2.size
              have h3 := H0.out.2.2
              have h4 := HX.out.2.1.size
              omega
            clear hkp hb8 hbw8 hB8 hx8 hrk
            refine hK.out _ _ (⟨c0, c1⟩) (fun hHeld => ?_)
            clear hK K
            try simp only [Act.put, List.setIfInBounds_toArray, List.set_cons_zero, List.set_cons_succ]
            refine onlyH (i := 5) rfl (by kernel_rfl) rfl (fun K hK => ?_)
            go_simp
            refine hK.out _ _ (⟨d0, d1⟩) (fun hHeld => ?_)
            clear hK K
            try simp only [Act.put, List.setIfInBounds_toArray, List.set_cons_zero, List.set_cons_succ]
            refine takeJ 6 (v := ?_) ?_ hHeld ?_
            rotate_left
            · rintro w ⟨_, _⟩; go_simp; try with_reducible rfl
            refine takeJ 7 (v := ?_) ?_ hHeld ?_
            rotate_left
            · rintro w ⟨_, _⟩; go_simp; try with_reducible rfl
            refine wpAnyH_done (by kernel_rfl) ?_ _
            clear hHeld
            go_wp2
            refine bodyPost_ret (results_cell_tmp2_row rfl _ _ _ _ _ _ _ rfl (heap_set2 HB8.out.2.1) Tryz.underlying25 rfl Tryz.infoPart) rfl ⟨_, by rw [HX.out.1]; rfl, ?_, ?_⟩
            · rw [HX.out.1]
              exact own_setCell (own_setCell (own_low HB8.out.2.2 hwle) HB8.out.2.1 (by decide) _) (heap_set1a HB8.out.2.1) (by decide) _
            · exact ((H0.out.1.trans (HB8.out.1.mono (by have := H0.out.2.2; omega))).setCell (p := ⟨w.heap.size, 0, none⟩) (Nat.le_refl _) _).setCell (p := ⟨w.heap.size, 1, none⟩) (Nat.le_refl _) _
  · rw [cuts_ends hnil] at hov
    obtain ⟨m, hm⟩ : ∃ m, m = (endsC (cutC l)).length := ⟨_, rfl⟩
    have hmc : m = (cutC l).length := by rw [hm, endsC_length]
    have hm1 : 1 ≤ m := by omega
    have hm2 : m ≤ 262145 := by omega
    have hnz : ((m : Int) == 0) = false := by rw [beq_eq_false_iff_ne]; omega
    have HM := hide (And.intro hm hmc)
    have hov5 := hov
    rw [← hm] at hov
    obtain ⟨ao, cap, rfl, hc1, hc2⟩ := own_form hov
    obtain ⟨w5, rfl⟩ : ∃ w5, w5 = w1 := ⟨w1, rfl⟩
    have HE := hide (And.intro hov5 hb1)
    clear hm hmc hov hov5 hb1 hnil f3 f4
    go_wp2_with fail
    go_loopw [6, 7, 8, 9] (fun vp vo t u wr => ∃ j : Nat, j ≤ m ∧ u = .int .i64 j ∧ t = .int .i64 (((cutC l).take j).flatten.length : Int) ∧ Rw w5.heap.size wr 25 2 partC vp (((cutC l).take j).map partOf) ∧ Rw w5.heap.size wr 57 2 pairC vo (((cutC l).take j).map objOf) ∧ Below w5.heap.size w5 wr)
      (fun _ _ _ u _ => m - (intOf u).toNat)
    case atStart => exact ⟨0, by omega, rfl, rfl, World.ownsRow_nil _ _ _ _, World.ownsRow_nil _ _ _ _, Below.refl _ _⟩
    case round =>
      obtain ⟨j, hj, rfl, rfl, hrp, hro, hbr⟩ := hrel
      by_cases hlt : j < m
      · have hlt2 : j < (cutC l).length := by have := HM.out.2; omega
        have hlt3 : j < (endsC (cutC l)).length := by have := HM.out.1; omega
        have hovr := own_below HE.out.1 hbr
        have hge := endsC_get (cutC l) j hlt2
        rw [List.getElem?_eq_getElem hlt3] at hge
        injection hge with hge
        obtain ⟨bb, hbb, k0⟩ := int_cell hovr hlt3
        subst hbb
        have hbl : bb < w5.heap.size := (HE.out.1.lt _ rfl).2
        have hck : ∀ W, Below w5.heap.size w5 W → W.cell? ⟨bb, j, none⟩ = some (.int .i64 ((endsC (cutC l))[j] : Int)) := fun W hW => by
          obtain ⟨bb', hbb', k0'⟩ := int_cell (own_below HE.out.1 hW) hlt3
          injection hbb' with hbb'
          injection hbb' with hbb'
          rw [hbb']
          exact k0'
        rw [hge] at k0 hck
        obtain ⟨hcp1, hcp2⟩ := cut_piece (cutC l) l HF.out.1 j hlt2
        have hc1024 := HF.out.2.1 _ (List.getElem_mem hlt2)
        have hfl : ((cutC l).take (j + 1)).flatten.length = ((cutC l).take j).flatten.length + (cutC l)[j].length := by rw [List.take_succ_eq_append_getElem hlt2, List.flatten_append, List.length_append, List.flatten_singleton]
        have hmp : ((cutC l).take (j + 1)).map partOf = ((cutC l).take j).map partOf ++ [partOf (cutC l)[j]] := by rw [List.take_succ_eq_append_getElem hlt2, List.map_append]; rfl
        have hmo : ((cutC l).take (j + 1)).map objOf = ((cutC l).take j).map objOf ++ [objOf (cutC l)[j]] := by rw [List.take_succ_eq_append_getElem hlt2, List.map_append]; rfl
        have hlj : ((cutC l).take j).length ≤ j := by simp; omega
        generalize (cutC l)[j] = c at *
        generalize ((cutC l).take j).flatten.length = fr at *
        have hsl := fun W => slice_str W l fr (fr + c.length) (by omega) hcp2
        rw [hcp1] at hsl
        have hch := rchunk_any wr c (by omega)
        have hok : chunkOk c = true := by unfold chunkOk; simpa using hc1024
        rw [hok] at hch
        unfold made at hch
        simp only [if_true] at hch
        rw [objV_def] at hch
        have hcast : ((fr + c.length : Nat) : Int) = (fr : Int) + (c.length : Int) := by omega
        rw [hcast] at k0 hsl hck
        have HR := hide (And.intro hrp (And.intro hro hbr))
        have HST := hide (And.intro hfl (And.intro hmp hmo))
        have HCK := hide hck
        clear hovr hge hcp1 hfl hmp hmo hrp hro hbr hcast hck
        obtain ⟨sc, hsc⟩ : ∃ sc, sc = sha (67 :: c) := ⟨_, rfl⟩
        rw [← hsc] at hch
        have HSC := hide hsc
        clear hsc
        go_wp2_with fail
        refine hch.mono ?_
        rintro e w3 ⟨rfl, hb3⟩
        have hw4 : Below w3.heap.size w3 (w3.alloc (.cells #[.string (strB sc), .string (strB (67 :: c))] 57)) := (Below.refl _ _).alloc (Nat.le_refl _) _
        have hx4 := heap_last w3 (.cells #[.string (strB sc), .string (strB (67 :: c))] 57) _ rfl
        have hB34 := hb3.trans (hw4.mono hb3.size)
        generalize hw4e : w3.alloc (.cells #[.string (strB sc), .string (strB (67 :: c))] 57) = w4 at *
        have hrp4 := own_below HR.out.1 hB34
        have hro4 := own_below HR.out.2.1 hB34
        have hB4 : Below w5.heap.size w5 w4 := HR.out.2.2.trans (hB34.mono HR.out.2.2.size)
        obtain ⟨vp', w6, vo', w7, run6, hx6, hb6, run7, hrp7, hro7, hb7⟩ := add_both hrp4 hro4 (sc, (c.length : Int)) (sc, 67 :: c) w3.heap.size hx4 hB4.size (by simp; omega) (by simp; omega)
        have hxA := (heap_past w4 (.cells #[.string (strB sc), .int .i64 (c.length : Int)] 25) _ (lt_of_heap hx4)).trans hx4
        have x0 := cell_of_row w4 w3.heap.size 0 _ _ _ hx4
        have xA := cell_of_row _ w3.heap.size 0 _ _ _ hxA
        have x6 := cell_of_row w6 w3.heap.size 0 _ _ _ hx6
        have x61 := cell_of_row w6 w3.heap.size 1 _ _ _ hx6
        simp only [List.getElem?_toArray, List.getElem?_cons_zero, List.getElem?_cons_succ] at x0 xA x6 x61
        have k4 := HCK.out w4 hB4
        have kA := HCK.out _ (hB4.alloc hB4.size (.cells #[.string (strB sc), .int .i64 (c.length : Int)] 25))
        have k6 := HCK.out w6 (hB4.trans hb6)
        have k7 := HCK.out w7 (hB4.trans hb7)
        have hsub : (fr : Int) + (c.length : Int) - (fr : Int) = (c.length : Int) := by omega
        have hwc : IntKind.i64.wrap (c.length : Int) = (c.length : Int) := by rw [IntKind.wrap_i64]; omega
        have R6 := hide run6
        have R7 := hide run7
        have H7 := hide (And.intro hrp7 (And.intro hro7 (hB4.trans hb7)))
        obtain ⟨pa, pm, pc, rfl⟩ := row_form hrp7
        obtain ⟨oa, om, oc, rfl⟩ := row_form hro7
        obtain ⟨pa0, pm0, pc0, rfl⟩ := row_form hrp4
        obtain ⟨oa0, om0, oc0, rfl⟩ := row_form hro4
        clear hch hb3 hw4 hB34 hx4 hrp4 hro4 hB4 run6 hx6 hb6 run7 hrp7 hro7 hb7 hxA k0
        go_wp2_with fail
        refine wp_region_held_drew (S := fun W => W.cell? ⟨w3.heap.size, 0, none⟩ = some (.string (strB sc)) ∧ W.cell? ⟨bb, j, none⟩ = some (.int .i64 ((fr : Int) + (c.length : Int)))) (by kernel_rfl) (⟨x0, k4⟩) (fun hHeld => ?_)
        refine takeJ 0 (v := ?_) ?_ hHeld ?_
        rotate_left
        · rintro w ⟨_, _⟩; go_simp; try with_reducible rfl
        refine takeJ 1 (v := ?_) ?_ hHeld ?_
        rotate_left
        · rintro w ⟨_, _⟩; go_simp; try with_reducible rfl
        refine takeJ 2 (v := ?_) ?_ hHeld ?_
        rotate_left
        · rintro w ⟨_, _⟩; go_simp; try with_reducible rfl
        refine takeJ 3 (v := ?_) ?_ hHeld ?_
        rotate_left
        · rintro w ⟨_, _⟩; go_simp; try with_reducible rfl
        refine takeJ 4 (v := ?_) ?_ hHeld ?_
        rotate_left
        · rintro w ⟨_, _⟩; go_simp; try with_reducible rfl
        refine takeJ 5 (v := ?_) ?_ hHeld ?_
        rotate_left
        · rintro w ⟨_, _⟩; go_simp; try with_reducible rfl
        refine takeJ 6 (v := ?_) ?_ hHeld ?_
        rotate_left
        · rintro w ⟨_, _⟩; go_simp; try with_reducible rfl
        refine takeJ 7 (v := ?_) ?_ hHeld ?_
        rotate_left
        · rintro w ⟨_, _⟩; go_simp; try with_reducible rfl
        refine takeJ 8 (v := ?_) ?_ hHeld ?_
        rotate_left
        · rintro w ⟨_, _⟩; go_simp; try with_reducible rfl
        refine takeJ 9 (v := ?_) ?_ hHeld ?_
        rotate_left
        · rintro w ⟨_, _⟩; go_simp; try with_reducible rfl
        refine onlyH (i := 10) rfl (by kernel_rfl) rfl (fun K hK => ?_)
        go_simp
        refine hK.out _ _ (⟨xA, kA⟩) (fun hHeld => ?_)
        clear hK K
        try simp only [Act.put, List.setIfInBounds_toArray, List.set_cons_zero, List.set_cons_succ]
        refine onlyH (i := 11) rfl (by kernel_rfl) rfl (fun K hK => ?_)
        refine wp_append_run (.tmp 42) (.tmp 52) 38 rfl rfl rfl R6.out ?_
        refine hK.out _ _ (⟨x6, k6⟩) (fun hHeld => ?_)
        clear hK K
        try simp only [Act.put, List.setIfInBounds_toArray, List.set_cons_zero, List.set_cons_succ]
        refine takeJ 12 (v := ?_) ?_ hHeld ?_
        rotate_left
        · rintro w ⟨_, _⟩; go_simp; try with_reducible rfl
        refine wpAnyH_done (by kernel_rfl) ?_ _
        clear hHeld xA kA x0 k4
        go_wp2_with (at_builtin; refine wpList_plain rfl (fun K hK => wp_append_run (.tmp 54) (.tmp 56) 26 rfl rfl rfl R7.out (hK _ _ ?_)))
        go_wp2
        go_roundw
        case rel =>
          refine ⟨j + 1, by omega, by go_num, ?_, ?_, ?_, H7.out.2.2⟩
          · rw [HST.out.1]; simp
          · rw [HST.out.2.1]; unfold partOf; rw [← HSC.out]; exact H7.out.1
          · rw [HST.out.2.2]; unfold objOf; rw [← HSC.out]; exact H7.out.2.1
        case measure => simp [intOf]; omega
      · have hj1 : j = m := by omega
        have htk : (cutC l).take j = cutC l := by rw [hj1, HM.out.2, List.take_length]
        rw [htk] at hrp hro
        have hjm : ¬ ((j : Int) < m) := by omega
        have HR := hide (And.intro hrp (And.intro hro hbr))
        obtain ⟨pa, pm, pc, rfl⟩ := row_form hrp
        obtain ⟨oa, om, oc, rfl⟩ := row_form hro
        obtain ⟨wl, rfl⟩ : ∃ wl, wl = wr := ⟨wr, rfl⟩
        clear hrp hro hbr htk hj1
        go_wp2_with fail
        go_loopw [6, 7, 12] (fun vp vo u wr => ∃ (j : Nat) (ps : List Part) (raw : List Pair), u = .int .i64 ((j : Int) + 1) ∧ RiseOk j ps raw ∧ fileR l = riseR (19 - j) ((j : Int) + 1) ps raw ∧ Rw w5.heap.size wr 25 2 partC vp ps ∧ Rw w5.heap.size wr 57 2 pairC vo raw ∧ Below w5.heap.size w5 wr)
          (fun _ _ u _ => 20 - (intOf u).toNat)
        case atStart => exact ⟨0, _, _, rfl, HF.out.2.2, rfl, HR.out.1, HR.out.2.1, HR.out.2.2⟩
        case round =>
          obtain ⟨j, ps, raw, rfl, hrise, hfp, hrp, hro, hbr⟩ := hrel
          have hrise' := hrise
          obtain ⟨q1, q2, q3, q4, q5, q6⟩ := hrise'
          obtain ⟨ap, cp, rfl, hcap, hcap2⟩ := own_form hrp
          unfold maxLen at hcap2
          by_cases hlt2 : 1 < ps.length
          · have hj : j < 19 := by
              rcases Nat.lt_or_ge j 19 with h | h
              · exact h
              · rw [show 19 - j = 0 from by omega] at q2
                simp at q2
                omega
            have hne : ps ≠ [] := by intro e; rw [e] at hlt2; simp at hlt2
            have hab := above_any wr ps _ ((j : Int) + 1) ((ls_of_own partC_length hrp).up (Nat.le_refl _)) hne q3 (q4 hlt2) q5 (by omega) (by omega)
            have hnx := hrise.raw hlt2
            have hfn : fileR l = riseR (19 - (j + 1)) (((j + 1 : Nat) : Int) + 1) ((groups ps).map (fanP ((j : Int) + 1))) (raw ++ (groups ps).map (fanO ((j : Int) + 1))) := by
              rw [hfp, show 19 - j = (19 - (j + 1)) + 1 from by omega, riseR, if_pos hlt2]
              rfl
            have hg1 : 1 ≤ (groups ps).length := by rw [groups_step hne]; simp
            have HN := hide (And.intro hnx (And.intro hfn (And.intro hro hbr)))
            obtain ⟨oa2, om2, oc2, rfl⟩ := row_form hro
            have hsw := hbr.size
            have hgh := groups_half ps
            clear hnx hfn hrp hro hbr hfp hrise q1 q2 q3 q4 q5 hne
            go_wp2_with fail
            refine hab.mono ?_
            rintro e w8 ⟨vp8, vo8, rfl, hp8, ho8, hb8⟩
            have hro8 := own_below HN.out.2.2.1 hb8
            have hB8 := HN.out.2.2.2.trans (hb8.mono HN.out.2.2.2.size)
            obtain ⟨vo9, w9, run9, row9, hb9, gr9⟩ := app_objs w8 w5.heap.size _ _ _ _ _ hro8 ho8 (by rw [List.length_map]; exact hg1) hB8.size (by rw [List.length_map]; omega)
            have hp9 := grow_other hp8 hro8 gr9 (own_ne hp8 hro8 (by decide))
            have R9 := hide run9
            have H9 := hide (And.intro (own_low hp9 hsw) (And.intro row9 (hB8.trans hb9)))
            obtain ⟨pa8, pm8, pc8, rfl⟩ := row_form hp8
            obtain ⟨oa8, om8, oc8, rfl⟩ := row_form ho8
            obtain ⟨oa9, om9, oc9, rfl⟩ := row_form row9
            clear hab hp8 ho8 hb8 hro8 hB8 run9 row9 hb9 gr9 hp9
            go_wp2_with (at_builtin; refine wpList_plain rfl (fun K hK => wp_append_run (.tmp 72) (.tmp 73) 26 rfl rfl rfl R9.out (hK _ _ ?_)))
            go_wp2
            go_roundw
            case rel => exact ⟨j + 1, _, _, by go_num, HN.out.1, HN.out.2.1, H9.out.1, H9.out.2.1, H9.out.2.2⟩
            case measure => simp [intOf]; omega
          · have h1 : ps.length = 1 := by omega
            have hone := riseR_one (n := 19 - j) (level := (j : Int) + 1) (raw := raw) hlt2
            have hls := ls_of_own partC_length hrp
            obtain ⟨ap', cp', he1, -, -, hc⟩ := hls
            obtain ⟨pb, poff, rfl, hpb, hpc⟩ := hc (by rintro rfl; simp at h1)
            injection he1 with he1 _ he2
            subst he1 he2
            have hhd : ps.headD ([], 0) = ps[0] := by
              rcases ps with _ | ⟨a, t⟩
              · simp at h1
              · rfl
            rw [hhd] at hone
            have p0 := hpc 0 (by omega) 0 _ rfl
            have p1 := hpc 0 (by omega) 1 _ rfl
            have hfin : fp = (ps[0], keptP [] raw) := by rw [HFP.out, file_same, hfp, hone]
            generalize ps[0] = pt at *
            simp only [Nat.zero_mul, Nat.add_zero] at p0 p1
            have hkp := kept_any wr.drew raw _ ((ls_of_own pairC_length (show wr.drew.ownsRow _ _ _ _ _ _ from hro)).up (Nat.le_refl _)) (by omega)
            have HX := hide (And.intro hfin (And.intro hbr hpc))
            have hpg : w.heap.size < pb := by
              have h1 := (hrp.lt pb rfl).1
              have h2 := HE.out.2.size
              have h3 := H0.out.2.2
              omega
            have hpl := hpb
            obtain ⟨oa2, om2, oc2, rfl⟩ := row_form hro
            rw [h1] at hcap ⊢
            clear hone hhd hfp hfin hrise q1 q2 q3 q4 q5 q6 hrp hro hbr hpc hc h1 hlt2
            go_wp2_with fail
            refine wp_region_held_drew (S := fun W => W.cell? ⟨pb, poff, none⟩ = some (.string (strB pt.1)) ∧ W.cell? ⟨pb, poff + 1, none⟩ = some (.int .i64 pt.2)) (by kernel_rfl) (⟨p0, p1⟩) (fun hHeld => ?_)
            refine takeJ 0 (v := ?_) ?_ hHeld ?_
            rotate_left
            · rintro w ⟨_, _⟩; go_simp; try with_reducible rfl
            refine takeJ 1 (v := ?_) ?_ hHeld ?_
            rotate_left
            · rintro w ⟨_, _⟩; go_simp; try with_reducible rfl
            refine takeJ 2 (v := ?_) ?_ hHeld ?_
            rotate_left
            · rintro w ⟨_, _⟩; go_simp; try with_reducible rfl
            refine takeJ 3 (v := ?_) ?_ hHeld ?_
            rotate_left
            · rintro w ⟨_, _⟩; go_simp; try with_reducible rfl
            refine onlyH (i := 4) rfl (by kernel_rfl) rfl (fun K hK => ?_)
            go_simp
            refine hkp.mono ?_
            rintro e w8 ⟨vk, rfl, hrk, hb8⟩
            have hbw8 : Below wr.heap.size wr w8 := (Below.refl wr.heap.size wr).drew.trans hb8
            have c0 := (hbw8.cell (p := ⟨pb, poff, none⟩) hpl).trans p0
            have c1 := (hbw8.cell (p := ⟨pb, poff + 1, none⟩) hpl).trans p1
            have hB8 : Below w0.heap.size w0 w8 := (HE.out.2.trans (HX.out.2.1.mono HE.out.2.size)).trans (hbw8.mono (by have := HE.out.2.size; have := HX.out.2.1.size; omega))
            have hx8 := (hB8.block _ (lt_of_heap H0.out.2.1)).trans H0.out.2.1
            have x0 := cell_of_row w8 w.heap.size 0 _ _ _ hx8
            have x1 := cell_of_row w8 w.heap.size 1 _ _ _ hx8
            simp only [List.getElem?_toArray, List.getElem?_cons_zero, List.getElem?_cons_succ] at x0 x1
            have g0 := frozen0 (j := 0) hx8
            have g1 := frozen0 (j := 1) hx8
            have d0 : ((w8.setCell ⟨w.heap.size, 0, none⟩ (.string (strB pt.1))).setCell ⟨w.heap.size, 1, none⟩ (.int .i64 pt.2)).cell? ⟨pb, poff, none⟩ = some (.string (strB pt.1)) := by
              rw [cell_setOther (by omega), cell_setOther (by omega)]; exact c0
            have d1 : ((w8.setCell ⟨w.heap.size, 0, none⟩ (.string (strB pt.1))).setCell ⟨w.heap.size, 1, none⟩ (.int .i64 pt.2)).cell? ⟨pb, poff + 1, none⟩ = some (.int .i64 pt.2) := by
              rw [cell_setOther (by omega), cell_setOther (by omega)]; exact c1
            have HB8 := hide (And.intro hB8 (And.intro hx8 hrk))
            obtain ⟨ka, km, kc, rfl⟩ := row_form hrk
            have hwle : w.heap.size ≤ wr.heap.size := by
              have h2 := HE.out.2.size
              have h3 := H0.out.2.2
              have h4 := HX.out.2.1.size
              omega
            clear hkp hb8 hbw8 hB8 hx8 hrk
            refine hK.out _ _ (⟨c0, c1⟩) (fun hHeld => ?_)
            clear hK K
            try simp only [Act.put, List.setIfInBounds_toArray, List.set_cons_zero, List.set_cons_succ]
            refine onlyH (i := 5) rfl (by kernel_rfl) rfl (fun K hK => ?_)
            go_simp
            refine hK.out _ _ (⟨d0, d1⟩) (fun hHeld => ?_)
            clear hK K
            try simp only [Act.put, List.setIfInBounds_toArray, List.set_cons_zero, List.set_cons_succ]
            refine takeJ 6 (v := ?_) ?_ hHeld ?_
            rotate_left
            · rintro w ⟨_, _⟩; go_simp; try with_reducible rfl
            refine takeJ 7 (v := ?_) ?_ hHeld ?_
            rotate_left
            · rintro w ⟨_, _⟩; go_simp; try with_reducible rfl
            refine wpAnyH_done (by kernel_rfl) ?_ _
            clear hHeld
            go_wp2
            refine bodyPost_ret (results_cell_tmp2_row rfl _ _ _ _ _ _ _ rfl (heap_set2 HB8.out.2.1) Tryz.underlying25 rfl Tryz.infoPart) rfl ⟨_, by rw [HX.out.1]; rfl, ?_, ?_⟩
            · rw [HX.out.1]
              exact own_setCell (own_setCell (own_low HB8.out.2.2 hwle) HB8.out.2.1 (by decide) _) (heap_set1a HB8.out.2.1) (by decide) _
            · exact ((H0.out.1.trans (HB8.out.1.mono (by have := H0.out.2.2; omega))).setCell (p := ⟨w.heap.size, 0, none⟩) (Nat.le_refl _) _).setCell (p := ⟨w.heap.size, 1, none⟩) (Nat.le_refl _) _
set_option maxRecDepth 40000 in
theorem rbuild_long (w : World) (l : Bs) (hl : 262144 < l.length) :
    Calls Tryz.prog 9 #[.string (strB l)] w fun e w' => e = .returned (.tuple #[.agg #[.string ⟨#[]⟩, .int .i64 0], .slice none 0 0, .int .i64 100]) ∧ Below w.heap.size w w' := by
  have hs := strB_size l
  have hb0 : Below w.heap.size w (w.alloc (.cells #[.string ⟨#[]⟩, .int .i64 0] 25)) := (Below.refl _ _).alloc (Nat.le_refl _) _
  have hx0 := heap_last w (.cells #[.string ⟨#[]⟩, .int .i64 0] 25) _ rfl
  generalize hw0 : w.alloc (.cells #[.string ⟨#[]⟩, .int .i64 0] 25) = w0 at *
  have x0 := cell_of_row w0 w.heap.size 0 _ _ _ hx0
  have x1 := cell_of_row w0 w.heap.size 1 _ _ _ hx0
  simp only [List.getElem?_toArray, List.getElem?_cons_zero, List.getElem?_cons_succ] at x0 x1
  have f0 := frozen0 (j := 0) hx0
  have f1 := frozen0 (j := 1) hx0
  have H0 := hide (And.intro hb0 hx0)
  have hgt : decide ((262144 : Int) < (l.length : Int)) = true := by simp; omega
  clear hb0 hx0
  go_enter Tryz.func9, Tryz.ntmps9
  go_wp2
  try rw [hw0]
  refine bodyPost_ret (results_cell_tmp2_row rfl _ _ _ _ _ _ _ rfl (heap_set2 H0.out.2) Tryz.underlying25 rfl Tryz.infoPart) rfl ⟨rfl, ?_⟩
  exact (H0.out.1.setCell (p := ⟨w.heap.size, 0, none⟩) (Nat.le_refl _) _).setCell (p := ⟨w.heap.size, 1, none⟩) (Nat.le_refl _) _
end Go.Proofs.YtokebnkgjchfaaaGreatDoor
