/-
  A file laid, whole. Conditions: the table holds its numbers.
-/
import Derived.Test.YtokebnkgjchfaaaGreatDoorS24BFans
import Derived.Test.YtokebnkgjchfaaaGreatDoorS26BBuild1
namespace Go.Proofs.YtokebnkgjchfaaaGreatDoor
open Go.RowKit

theorem own_low {w : World} {B B' k n : Nat} {e : TypeId} {v : Value} {xs : List Value} (h : w.ownsRow B' e k v n xs) (hb : B ≤ B') : w.ownsRow B e k v n xs := by
  obtain ⟨h1, h2⟩ := h
  refine ⟨h1, ?_⟩
  rcases h2 with h2 | ⟨g, cap, cells, a, b, c⟩
  · exact .inl h2
  · exact .inr ⟨g, cap, cells, a, by omega, c⟩
/-- What Build makes of bytes: the root, the objects. -/
def fileP (l : Bs) : Part × List Pair := riseP 19 1 ((cutC l).map partOf) (layC [] (cutC l))
/-- What holds of the parts of a level. -/
structure RiseOk (j : Nat) (ps : List Part) (os : List Pair) : Prop where
  pos : 1 ≤ ps.length
  few : ps.length ≤ 2 ^ (19 - j)
  ids : ∀ p ∈ ps, p.1.length = 32
  big : 1 < ps.length → ∀ p ∈ ps, 1 ≤ p.2
  sum : sizeP ps ≤ 262144
  objs : os.length + 2 * ps.length ≤ 800000
theorem RiseOk.next {j : Nat} {ps : List Part} {os : List Pair} (h : RiseOk j ps os) (hlt : 1 < ps.length) : RiseOk (j + 1) ((groups ps).map (fanP ((j : Int) + 1))) (layF ((j : Int) + 1) os (groups ps)) := by
  have hh := groups_half ps
  have hl := layF_le ((j : Int) + 1) (groups ps) os
  have ho := h.objs
  have hfw := h.few
  have hj : j < 19 := by
    rcases Nat.lt_or_ge j 19 with h1 | h1
    · exact h1
    · rw [show 19 - j = 0 from by omega] at hfw
      simp at hfw
      omega
  have hp : 2 ^ (19 - j) = 2 * 2 ^ (19 - (j + 1)) := by rw [show 19 - j = (19 - (j + 1)) + 1 from by omega, Nat.pow_succ]; omega
  refine ⟨?_, by rw [List.length_map]; omega, fun p hp => ?_, fun _ p hp => ?_, ?_, by rw [List.length_map]; omega⟩
  · rw [groups_step (by intro e; rw [e] at hlt; simp at hlt)]
    simp
  · obtain ⟨g, -, rfl⟩ := List.mem_map.1 hp
    exact sha_length _
  · obtain ⟨g, hg, rfl⟩ := List.mem_map.1 hp
    have h1 := sizeP_many g (fun q hq => h.big hlt q (groups_mem hg hq))
    have h2 := (groups_len hg).1
    show 1 ≤ sizeP g
    omega
  · rw [sizeP_flat, groups_flatten]
    exact h.sum
theorem sizeP_parts : ∀ (cs : List Bs), sizeP (cs.map partOf) = (cs.flatten.length : Int)
  | [] => rfl
  | c :: r => by
    rw [List.map_cons, sizeP_cons, sizeP_parts r, List.flatten_cons, List.length_append]
    show (c.length : Int) + _ = _
    omega
theorem cutC_parts (l : Bs) (hl : l.length ≤ 262144) : RiseOk 0 ((cutC l).map partOf) (layC [] (cutC l)) := by
  obtain ⟨f1, f2, f3⟩ := cutC_facts l
  have f4 := cutC_le l
  have f5 := layC_le (cutC l) []
  simp only [List.length_nil] at f5
  refine ⟨by rw [List.length_map]; exact f3, by rw [List.length_map]; simp only [Nat.sub_zero]; omega, fun p hp => ?_, fun h1 p hp => ?_, ?_, by rw [List.length_map]; omega⟩
  · obtain ⟨c, -, rfl⟩ := List.mem_map.1 hp
    exact sha_length _
  · obtain ⟨c, hc, rfl⟩ := List.mem_map.1 hp
    show 1 ≤ (c.length : Int)
    unfold cutC at hc h1
    by_cases h : l = []
    · rw [if_pos h] at h1
      simp at h1
    · rw [if_neg h] at hc
      obtain ⟨j, hj, rfl⟩ := List.getElem_of_mem hc
      have := ((Gr.chunks_tail l).size hj).1
      omega
  · rw [sizeP_parts, f1]
    omega
theorem riseP_one {n : Nat} {level : Int} {ps : List Part} {os : List Pair} (h : ¬ 1 < ps.length) : riseP n level ps os = (ps.headD ([], 0), os) := by
  cases n with
  | zero => rfl
  | succ n => rw [riseP, if_neg h]
set_option maxRecDepth 40000 in
set_option maxHeartbeats 1600000 in
theorem layFile_any (B : Nat) (w : World) (g : Nat) (l : Bs) (hg : B ≤ g) (hh : w.heap[g]? = some (.cells #[.slice none 0 0, .map none] 52)) (hT : TabW w) (h0 : 0 < B) (hl : l.length ≤ 262144) :
    Calls Tryz.prog 20 #[.pointer (some ⟨g, 0, none⟩), .string (strB l)] w fun e w' => e = .returned (.agg #[.string (strB (fileP l).1.1), .int .i64 (fileP l).1.2]) ∧ BdW B w' g (fileP l).2 ∧ Mv B bts none w w' := by
  have hB : B ≤ w.heap.size := by have := lt_of_heap hh; omega
  have hb0 : Below w.heap.size w (w.alloc (.cells #[.string ⟨#[]⟩, .int .i64 0] 25)) := (Below.refl _ _).alloc (Nat.le_refl _) _
  have hx0 := heap_last w (.cells #[.string ⟨#[]⟩, .int .i64 0] 25) _ rfl
  have hn0 : (w.alloc (.cells #[.string ⟨#[]⟩, .int .i64 0] 25)).heap.size = w.heap.size + 1 := by simp
  generalize hw0 : w.alloc (.cells #[.string ⟨#[]⟩, .int .i64 0] 25) = w0 at *
  have hh0 := (hb0.block _ (lt_of_heap hh)).trans hh
  have hmk : (Instr.makeMap 50 none).run Tryz.prog w0 = .ok (.map (some w0.heap.size)) (w0.alloc (.map #[] 0)) := by kernel_rfl
  have hb1 : Below w0.heap.size w0 (w0.alloc (.map #[] 0)) := (Below.refl _ _).alloc (Nat.le_refl _) _
  have hh1 := (hb1.block _ (lt_of_heap hh0)).trans hh0
  have hx1 := (hb1.block _ (lt_of_heap hx0)).trans hx0
  have hm1 : Mp.MapW (w0.alloc (.map #[] 0)) w0.heap.size [] := Mp.MapW.made w0
  have hB01 := hb0.trans (hb1.mono hb0.size)
  generalize hw1 : w0.alloc (.map #[] 0) = w1 at *
  have hM2 : Mv B bts none w (w1.setCell ⟨g, 1, none⟩ (.map (some w0.heap.size))) := (Mv.of hB01 hB).set hh1 (by decide) hg _
  have hh2 : (w1.setCell ⟨g, 1, none⟩ (.map (some w0.heap.size))).heap[g]? = some (.cells #[.slice none 0 0, .map (some w0.heap.size)] 52) := by rw [heap_setCell _ _ _ _ _ _ _ hh1]; simp
  have hBd2 : BdW B (w1.setCell ⟨g, 1, none⟩ (.map (some w0.heap.size))) g [] := ⟨hg, _, _, hh2, World.ownsRow_nil _ _ _ _, map_set hm1 hh1 _, by have := hb0.size; omega⟩
  have hx2 := (heap_setOther (j := 1) (u := .map (some w0.heap.size)) (ne_type hx1 hh1 (by decide))).trans hx1
  have k1 := cell_of_row w1 g 1 _ _ _ hh1
  simp only [List.getElem?_toArray, List.getElem?_cons_zero, List.getElem?_cons_succ] at k1
  have f1 := frozen0 (j := 1) hh1
  have hT2 := hT.keep hM2.b h0
  have hlc := layChunks_any B (w1.setCell ⟨g, 1, none⟩ (.map (some w0.heap.size))) g [] l hBd2 hT2 h0 hl (by simp)
  have hs2 : w.heap.size < (w1.setCell ⟨g, 1, none⟩ (.map (some w0.heap.size))).heap.size := lt_of_heap hx2
  have H2 := hide (And.intro hM2 (And.intro hx2 hs2))
  clear hb0 hx0 hn0 hh0 hb1 hh1 hx1 hm1 hB01 hM2 hh2 hBd2 hx2 hT2 hs2
  go_enter Tryz.func20, Tryz.ntmps20
  go_wp2_with fail
  refine hlc.mono ?_
  rintro e w3 ⟨v, rfl, hrow, hBd3, hM3⟩
  have hx3 := hM3.k _ _ _ _ H2.out.2.1 (by decide) (by simp)
  have hM := H2.out.1.trans hM3 (Nx.refl _ _)
  have hpl := cutC_parts l hl
  have hs3 := H2.out.2.2
  have hrow3 := own_low hrow (show B ≤ _ by omega)
  have H3 := hide (And.intro hrow3 (And.intro hBd3 (And.intro hM (And.intro hx3 (And.intro hT hpl)))))
  obtain ⟨va, vm, vc, rfl⟩ := row_form hrow
  clear hlc hrow hBd3 hM3 hM hx3 hrow3 hpl hs3 hT
  go_wp2_with fail
  go_loopw [5, 6] (fun t u wr => ∃ (j : Nat) (ps : List Part) (os : List Pair), u = .int .i64 ((j : Int) + 1) ∧ RiseOk j ps os ∧ fileP l = riseP (19 - j) ((j : Int) + 1) ps os ∧ Rw B wr 25 2 partC t ps ∧ BdW B wr g os ∧ Mv B bts none w wr ∧ wr.heap[w.heap.size]? = some (.cells #[.string ⟨#[]⟩, .int .i64 0] 25)) (fun _ u _ => 20 - (intOf u).toNat)
  case atStart => exact ⟨0, _, _, rfl, H3.out.2.2.2.2.2, rfl, H3.out.1, H3.out.2.1, H3.out.2.2.1, H3.out.2.2.2.1⟩
  case round =>
    obtain ⟨j, ps, os, rfl, hrise, hfp, hrow, hBd, hMr, hxr⟩ := hrel
    have hrise' := hrise
    obtain ⟨q1, q2, q3, q4, q5, q6⟩ := hrise'
    obtain ⟨ao, cap, rfl, hcap, hcap2⟩ := own_form hrow
    unfold maxLen at hcap2
    by_cases hlt : 1 < ps.length
    · have hj : j < 19 := by
        rcases Nat.lt_or_ge j 19 with h | h
        · exact h
        · rw [show 19 - j = 0 from by omega] at q2
          simp at q2
          omega
      have hTr := H3.out.2.2.2.2.1.keep hMr.b h0
      have hlf := layFans_any B wr g os ((j : Int) + 1) ps _ hBd hrow hTr h0 q3 (q4 hlt) q5 (by intro e; rw [e] at hlt; simp at hlt) (by omega) (by omega) (by omega)
      have hnx := hrise.next hlt
      have hfn : fileP l = riseP (19 - (j + 1)) (((j + 1 : Nat) : Int) + 1) ((groups ps).map (fanP ((j : Int) + 1))) (layF ((j : Int) + 1) os (groups ps)) := by
        rw [hfp, show 19 - j = (19 - (j + 1)) + 1 from by omega, riseP, if_pos hlt]
        rfl
      have HN := hide (And.intro hnx (And.intro hfn (And.intro hMr hxr)))
      have hsw := hMr.size
      clear hnx hfn hMr hxr hBd hrow hTr hfp hrise q1 q2 q3 q4 q5 q6
      go_wp2_with fail
      refine hlf.mono ?_
      rintro e w5 ⟨v5, rfl, hr5, hB5, hM5⟩
      have hx5 := hM5.k _ _ _ _ HN.out.2.2.2 (by decide) (by simp)
      have hr5' := own_low hr5 (show B ≤ wr.heap.size by omega)
      have H5 := hide (And.intro hr5' (And.intro hB5 (And.intro (HN.out.2.2.1.trans hM5 (Nx.refl _ _)) hx5)))
      obtain ⟨pa, pm, pc, rfl⟩ := row_form hr5
      clear hlf hr5 hB5 hM5 hx5 hr5'
      go_wp2
      go_roundw
      case rel => exact ⟨j + 1, _, _, by go_num, HN.out.1, HN.out.2.1, H5.out.1, H5.out.2.1, H5.out.2.2.1, H5.out.2.2.2⟩
      case measure => simp [intOf]; omega
    · have h1 : ps.length = 1 := by omega
      rw [riseP_one hlt] at hfp
      obtain ⟨bb, off, rfl, p0, p1⟩ := own_part (xs := ps) hrow (j := 0) (by omega)
      have hhd : ps.headD ([], 0) = ps[0] := by
        rcases ps with _ | ⟨a, r⟩
        · simp at h1
        · rfl
      rw [hhd] at hfp
      have hBd' := hBd
      generalize ps[0] = pt at *
      simp only [Nat.zero_mul, Nat.add_zero] at p0 p1
      rw [h1] at hcap ⊢
      have x0 := cell_of_row wr w.heap.size 0 _ _ _ hxr
      have x1 := cell_of_row wr w.heap.size 1 _ _ _ hxr
      simp only [List.getElem?_toArray, List.getElem?_cons_zero, List.getElem?_cons_succ] at x0 x1
      have f0 := frozen0 (j := 0) hxr
      have f1 := frozen0 (j := 1) hxr
      have HX := hide (And.intro hBd' (And.intro hMr hxr))
      have HFP := hide hfp
      clear hfp hhd hBd' hBd hMr hxr hrow hrise q1 q2 q3 q4 q5 q6 h1 hlt
      go_wp2
      refine bodyPost_ret (results_cell_row rfl _ _ _ _ _ _ _ rfl (heap_set2 HX.out.2.2) Tryz.underlying25 rfl Tryz.infoPart) rfl ⟨by rw [HFP.out], ?_, ?_⟩
      · rw [HFP.out]
        obtain ⟨⟨hg', vo', mb', g1, g2, g3, g4⟩, -, hx3⟩ := HX.out
        have hm : Mv B [25] none wr ((wr.setCell ⟨w.heap.size, 0, none⟩ (.string (strB pt.1))).setCell ⟨w.heap.size, 1, none⟩ (.int .i64 pt.2)) := ((Mv.refl B _ none wr).set (j := 0) hx3 (by decide) (by omega) _).set (j := 1) (heap_set1a hx3) (by decide) (by omega) _
        exact ⟨hg', vo', mb', hm.k _ _ _ _ g1 (by decide) (by simp), hm.own0 g2 (by decide), map_set (map_set g3 hx3 _) (heap_set1a hx3) _, g4⟩
      · exact (HX.out.2.1.setNew (j := 0) (by omega) hB _).setNew (j := 1) (by omega) hB _
set_option maxRecDepth 40000 in
set_option maxHeartbeats 1600000 in
theorem build_any (w : World) (l : Bs) (hT : TabW w) (hl : l.length ≤ 262144) :
    Calls Tryz.prog 8 #[.string (strB l)] w fun e w' => ∃ v, e = .returned (.tuple #[.agg #[.string (strB (fileP l).1.1), .int .i64 (fileP l).1.2], v, .int .i64 0]) ∧ Rw w.heap.size w' 57 2 pairC v (fileP l).2 ∧ Below w.heap.size w w' := by
  have hs := strB_size l
  obtain ⟨fp, hfp⟩ : ∃ fp, fp = fileP l := ⟨_, rfl⟩
  have h0 := hT.1
  have hb0 : Below w.heap.size w ((w.alloc (.cells #[.string ⟨#[]⟩, .int .i64 0] 25)).alloc (.cells #[.slice none 0 0, .map none] 52)) := ((Below.refl _ _).alloc (Nat.le_refl _) _).alloc (by simp) _
  have hx0 : ((w.alloc (.cells #[.string ⟨#[]⟩, .int .i64 0] 25)).alloc (.cells #[.slice none 0 0, .map none] 52)).heap[w.heap.size]? = some (.cells #[.string ⟨#[]⟩, .int .i64 0] 25) := (heap_past _ _ _ (by simp)).trans (heap_last w _ _ rfl)
  have hg0 : ((w.alloc (.cells #[.string ⟨#[]⟩, .int .i64 0] 25)).alloc (.cells #[.slice none 0 0, .map none] 52)).heap[w.heap.size + 1]? = some (.cells #[.slice none 0 0, .map none] 52) := heap_last _ _ _ (by simp)
  generalize hw0 : (w.alloc (.cells #[.string ⟨#[]⟩, .int .i64 0] 25)).alloc (.cells #[.slice none 0 0, .map none] 52) = w0 at *
  have hlf := layFile_any w.heap.size w0 (w.heap.size + 1) l (by omega) hg0 (hT.keep hb0 h0) h0 hl
  rw [← hfp] at hlf ⊢
  clear hfp
  have H0 := hide (And.intro hb0 hx0)
  have hgt : decide ((262144 : Int) < (l.length : Int)) = false := by simp; omega
  clear hb0 hx0 hg0 hT
  go_enter Tryz.func8, Tryz.ntmps8
  go_wp2_with fail
  try rw [hw0]
  refine hlf.mono ?_
  rintro e w1 ⟨rfl, hBd, hM⟩
  have hx1 := hM.k _ _ _ _ H0.out.2 (by decide) (by simp)
  have hB1 := H0.out.1.trans hM.b
  have hb2 : Below w1.heap.size w1 (w1.alloc (.cells #[.string (strB fp.1.1), .int .i64 fp.1.2] 25)) := (Below.refl _ _).alloc (Nat.le_refl _) _
  have hy2 := heap_last w1 (.cells #[.string (strB fp.1.1), .int .i64 fp.1.2] 25) _ rfl
  have hx2 := (hb2.block _ (lt_of_heap hx1)).trans hx1
  have hBd2 := hBd.keep hb2
  have hB2 := hB1.trans (hb2.mono hB1.size)
  have hne : w.heap.size ≠ w1.heap.size := Nat.ne_of_lt (lt_of_heap hx1)
  generalize hw2 : w1.alloc (.cells #[.string (strB fp.1.1), .int .i64 fp.1.2] 25) = w2 at *
  obtain ⟨-, vo, mb, hh2, hrow2, -, -⟩ := hBd2
  have y0 := cell_of_row w2 w1.heap.size 0 _ _ _ hy2
  have y1 := cell_of_row w2 w1.heap.size 1 _ _ _ hy2
  have o0 := cell_of_row w2 (w.heap.size + 1) 0 _ _ _ hh2
  have x0 := cell_of_row w2 w.heap.size 0 _ _ _ hx2
  have x1 := cell_of_row w2 w.heap.size 1 _ _ _ hx2
  simp only [List.getElem?_toArray, List.getElem?_cons_zero, List.getElem?_cons_succ] at y0 y1 o0 x0 x1
  have f0 := frozen0 (j := 0) hx2
  have f1 := frozen0 (j := 1) hx2
  obtain ⟨va, vm, vc, rfl⟩ := row_form hrow2
  have H2 := hide (And.intro hrow2 (And.intro hB2 hx2))
  have hw3x : ((w2.setCell ⟨w.heap.size, 0, none⟩ (.string (strB fp.1.1))).setCell ⟨w.heap.size, 1, none⟩ (.int .i64 fp.1.2)).heap[w1.heap.size]? = _ := (heap_setOther hne.symm).trans ((heap_setOther hne.symm).trans hy2)
  have hw3h : ((w2.setCell ⟨w.heap.size, 0, none⟩ (.string (strB fp.1.1))).setCell ⟨w.heap.size, 1, none⟩ (.int .i64 fp.1.2)).heap[w.heap.size + 1]? = _ := (heap_setOther (by omega)).trans ((heap_setOther (by omega)).trans hh2)
  have z0 := cell_of_row _ w1.heap.size 0 _ _ _ hw3x
  have z1 := cell_of_row _ w1.heap.size 1 _ _ _ hw3x
  have z2 := cell_of_row _ (w.heap.size + 1) 0 _ _ _ hw3h
  simp only [List.getElem?_toArray, List.getElem?_cons_zero, List.getElem?_cons_succ] at z0 z1 z2
  clear hlf hBd hM hx1 hB1 hb2 hx2 hB2 hh2 hrow2 hne hw3x hw3h hy2
  go_wp2_with fail
  refine wp_region_held_drew (S := fun W => W.cell? ⟨w1.heap.size, 0, none⟩ = some (.string (strB fp.1.1)) ∧ W.cell? ⟨w1.heap.size, 1, none⟩ = some (.int .i64 fp.1.2) ∧ W.cell? ⟨w.heap.size + 1, 0, none⟩ = some (.slice va vm vc)) (by kernel_rfl) (⟨y0, y1, o0⟩) (fun hHeld => ?_)
  refine takeJ 0 (v := ?_) ?_ hHeld ?_
  rotate_left
  · rintro w ⟨_, _, _⟩; go_simp; try with_reducible rfl
  refine takeJ 1 (v := ?_) ?_ hHeld ?_
  rotate_left
  · rintro w ⟨_, _, _⟩; go_simp; try with_reducible rfl
  refine takeJ 2 (v := ?_) ?_ hHeld ?_
  rotate_left
  · rintro w ⟨_, _, _⟩; go_simp; try with_reducible rfl
  refine onlyH (i := 3) rfl (by kernel_rfl) rfl (fun K hK => ?_)
  go_simp
  refine hK.out _ _ (⟨z0, z1, z2⟩) (fun hHeld => ?_)
  clear hK K
  try simp only [Act.put, List.setIfInBounds_toArray, List.set_cons_zero, List.set_cons_succ]
  refine takeJ 4 (v := ?_) ?_ hHeld ?_
  rotate_left
  · rintro w ⟨_, _, _⟩; go_simp; try with_reducible rfl
  refine takeJ 5 (v := ?_) ?_ hHeld ?_
  rotate_left
  · rintro w ⟨_, _, _⟩; go_simp; try with_reducible rfl
  refine wpAnyH_done (by kernel_rfl) ?_ _
  clear hHeld
  go_wp2
  refine bodyPost_ret (results_cell_tmp2_row rfl _ _ _ _ _ _ _ rfl (heap_set2 (show w2.drew.heap[w.heap.size]? = _ from H2.out.2.2)) Tryz.underlying25 rfl Tryz.infoPart) rfl ⟨_, rfl, ?_, ?_⟩
  · exact own_setCell (own_setCell (show w2.drew.ownsRow _ _ _ _ _ _ from H2.out.1) (show w2.drew.heap[w.heap.size]? = _ from H2.out.2.2) (by decide) _) (heap_set1a (show w2.drew.heap[w.heap.size]? = _ from H2.out.2.2)) (by decide) _
  · exact (H2.out.2.1.drew.setCell (p := ⟨w.heap.size, 0, none⟩) (Nat.le_refl _) _).setCell (p := ⟨w.heap.size, 1, none⟩) (Nat.le_refl _) _
end Go.Proofs.YtokebnkgjchfaaaGreatDoor
