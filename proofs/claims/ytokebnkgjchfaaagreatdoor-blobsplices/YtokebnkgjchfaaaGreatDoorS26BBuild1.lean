/-
  A file of one chunk built. Conditions: the table holds its numbers.
-/
import Derived.Test.YtokebnkgjchfaaaGreatDoorS23BChunks
import Derived.Test.YtokebnkgjchfaaaGreatDoorS25BGo
namespace Go.Proofs.YtokebnkgjchfaaaGreatDoor
open Go.RowKit

theorem results_cell_tmp2_row {P : Program} {fn : Func} {p u v : Tmp} {ty : TypeId} (h : fn.results = #[.cell p ty, .tmp u, .tmp v]) (tmps : Array Value) (w : World) (g : Nat) (t : TypeId) (cs : Array Value) (fr : Nat × Nat) (d : TypeDesc)
    (hp : tmps.getD p undef = .pointer (some ⟨g, 0, none⟩)) (hg : w.heap[g]? = some (.cells cs t fr))
    (hu : P.underlying ty = some d) (hd : (match d with | .struct _ | .array _ _ => true | _ => false) = true) (hi : (P.info? ty).map (·.size) = some cs.size) :
    (results fn tmps).run P w = .ok (.tuple #[.agg cs, tmps.getD u undef, tmps.getD v undef]) w := by
  have hp' : tmps[p]?.getD undef = .pointer (some ⟨g, 0, none⟩) := by simpa using hp
  simp only [results, h]
  simp [hp', asAddr, run_loadVar_row w g t ty cs fr d hg hu hd hi, Result.andThen]
theorem cut_short {l : Bs} (h : l ≠ []) (h2 : l.length ≤ 64) : cutC l = [l] := by
  unfold cutC
  rw [if_neg h]
  unfold Gr.chunks
  rw [Gr.spl_hd [] l [] (fun n hn => Gr.ended_short (by simp; omega))]
  unfold Gr.Sp.all
  simp [h]
set_option maxRecDepth 40000 in
set_option maxHeartbeats 1600000 in
theorem layFile_one (B : Nat) (w : World) (g : Nat) (l c : Bs) (hc : cutC l = [c]) (hg : B ≤ g) (hh : w.heap[g]? = some (.cells #[.slice none 0 0, .map none] 52)) (hT : TabW w) (h0 : 0 < B) (hl : l.length ≤ 262144) :
    Calls Tryz.prog 20 #[.pointer (some ⟨g, 0, none⟩), .string (strB l)] w fun e w' => e = .returned (.agg #[.string (strB (partOf c).1), .int .i64 (partOf c).2]) ∧ BdW B w' g [objOf c] ∧ Mv B bts none w w' := by
  have hB : B ≤ w.heap.size := by have := lt_of_heap hh; omega
  have hb0 : Below w.heap.size w (w.alloc (.cells #[.string ⟨#[]⟩, .int .i64 0] 25)) := (Below.refl _ _).alloc (Nat.le_refl _) _
  have hx0 := heap_last w (.cells #[.string ⟨#[]⟩, .int .i64 0] 25) _ rfl
  have hn0 : (w.alloc (.cells #[.string ⟨#[]⟩, .int .i64 0] 25)).heap.size = w.heap.size + 1 := by simp
  generalize hw0 : w.alloc (.cells #[.string ⟨#[]⟩, .int .i64 0] 25) = w0 at *
  have hh0 := (hb0.block _ (lt_of_heap hh)).trans hh
  have hmk : (Instr.makeMap 50 none).run Tryz.prog w0 = .ok (.map (some w0.heap.size)) (w0.alloc (.map #[] 0)) := by kernel_rfl
  have hb1 : Below w0.heap.size w0 (w0.alloc (.map #[] 0)) := (Below.refl _ _).alloc (Nat.le_refl _) _
  have hh1 := (hb1.block _ (lt_of_heap hh0)).trans hh0
  have hx1 := (hb1.block _ (lt_of_heap hx0)).trans hx0
  have hm1 : Mp.MapW (w0.alloc (.map #[] 0)) w0.heap.size [] := Mp.MapW.made w0
  have hB01 := hb0.trans (hb1.mono hb0.size)
  generalize hw1 : w0.alloc (.map #[] 0) = w1 at *
  have hM2 : Mv B bts none w (w1.setCell ⟨g, 1, none⟩ (.map (some w0.heap.size))) := (Mv.of hB01 hB).set hh1 (by decide) hg _
  have hh2 : (w1.setCell ⟨g, 1, none⟩ (.map (some w0.heap.size))).heap[g]? = some (.cells #[.slice none 0 0, .map (some w0.heap.size)] 52) := by rw [heap_setCell _ _ _ _ _ _ _ hh1]; simp
  have hBd2 : BdW B (w1.setCell ⟨g, 1, none⟩ (.map (some w0.heap.size))) g [] := ⟨hg, _, _, hh2, World.ownsRow_nil _ _ _ _, map_set hm1 hh1 _, by have := hb0.size; omega⟩
  have hx2 := (heap_setOther (j := 1) (u := .map (some w0.heap.size)) (ne_type hx1 hh1 (by decide))).trans hx1
  have k1 := cell_of_row w1 g 1 _ _ _ hh1
  simp only [List.getElem?_toArray, List.getElem?_cons_zero, List.getElem?_cons_succ] at k1
  have f1 := frozen0 (j := 1) hh1
  have hT2 := hT.keep hM2.b h0
  have hlc := layChunks_any B (w1.setCell ⟨g, 1, none⟩ (.map (some w0.heap.size))) g [] l hBd2 hT2 h0 hl (by simp)
  rw [hc] at hlc
  have hs2 : w.heap.size < (w1.setCell ⟨g, 1, none⟩ (.map (some w0.heap.size))).heap.size := lt_of_heap hx2
  have H2 := hide (And.intro hM2 (And.intro hx2 hs2))
  clear hb0 hx0 hn0 hh0 hb1 hh1 hx1 hm1 hB01 hM2 hh2 hBd2 hx2 hT2 hs2
  go_enter Tryz.func20, Tryz.ntmps20
  go_wp2_with fail
  refine hlc.mono ?_
  rintro e w3 ⟨v, rfl, hrow, hBd3, hM3⟩
  have hx3 := hM3.k _ _ _ _ H2.out.2.1 (by decide) (by simp)
  have hM := H2.out.1.trans hM3 (Nx.refl _ _)
  obtain ⟨ao, cap, rfl, hcap, hcap2⟩ := own_form hrow
  obtain ⟨bb, off, rfl, p0, p1⟩ := own_part (xs := [partOf c]) hrow (j := 0) (by simp)
  simp only [List.map_cons, List.map_nil, List.length_cons, List.length_nil, Nat.zero_add, List.getElem_cons_zero, Nat.zero_mul, Nat.add_zero] at p0 p1 hcap hcap2 ⊢
  have hob : layC [] [c] = [objOf c] := by unfold layC layP; simp
  rw [hob] at hBd3
  have x0 := cell_of_row w3 w.heap.size 0 _ _ _ hx3
  have x1 := cell_of_row w3 w.heap.size 1 _ _ _ hx3
  simp only [List.getElem?_toArray, List.getElem?_cons_zero, List.getElem?_cons_succ] at x0 x1
  have f0 := frozen0 (j := 0) hx3
  have f1 := frozen0 (j := 1) hx3
  have H3 := hide (And.intro hBd3 (And.intro hM hx3))
  clear hlc hrow hBd3 hM3 hM hob
  go_wp2_with fail
  go_loopw [5, 6] (fun t u wr => t = .slice (some ⟨bb, off, none⟩) 1 cap ∧ u = .int .i64 1 ∧ wr = w3) (fun _ _ _ => 0)
  case atStart => exact ⟨rfl, rfl, rfl⟩
  case round =>
    obtain ⟨rfl, rfl, rfl⟩ := hrel
    go_wp2
    refine bodyPost_ret (results_cell_row rfl _ _ _ _ _ _ _ rfl (heap_set2 H3.out.2.2) Tryz.underlying25 rfl Tryz.infoPart) rfl ⟨rfl, ?_, ?_⟩
    · obtain ⟨⟨hg', vo', mb', g1, g2, g3, g4⟩, -, hx3⟩ := H3.out
      have hm : Mv B [25] none wr ((wr.setCell ⟨w.heap.size, 0, none⟩ (.string (strB (partOf c).1))).setCell ⟨w.heap.size, 1, none⟩ (.int .i64 (partOf c).2)) := ((Mv.refl B _ none wr).set (j := 0) hx3 (by decide) (by omega) _).set (j := 1) (heap_set1a hx3) (by decide) (by omega) _
      exact ⟨hg', vo', mb', hm.k _ _ _ _ g1 (by decide) (by simp), hm.own0 g2 (by decide), map_set (map_set g3 hx3 _) (heap_set1a hx3) _, g4⟩
    · exact (H3.out.2.1.setNew (j := 0) (by omega) hB _).setNew (j := 1) (by omega) hB _
set_option maxRecDepth 40000 in
set_option maxHeartbeats 1600000 in
theorem build_one (w : World) (l c : Bs) (hc : cutC l = [c]) (hT : TabW w) (hl : l.length ≤ 262144) :
    Calls Tryz.prog 8 #[.string (strB l)] w fun e w' => ∃ v, e = .returned (.tuple #[.agg #[.string (strB (partOf c).1), .int .i64 (partOf c).2], v, .int .i64 0]) ∧ Rw w.heap.size w' 57 2 pairC v [objOf c] ∧ Below w.heap.size w w' := by
  have hs := strB_size l
  have h0 := hT.1
  have hb0 : Below w.heap.size w ((w.alloc (.cells #[.string ⟨#[]⟩, .int .i64 0] 25)).alloc (.cells #[.slice none 0 0, .map none] 52)) := ((Below.refl _ _).alloc (Nat.le_refl _) _).alloc (by simp) _
  have hx0 : ((w.alloc (.cells #[.string ⟨#[]⟩, .int .i64 0] 25)).alloc (.cells #[.slice none 0 0, .map none] 52)).heap[w.heap.size]? = some (.cells #[.string ⟨#[]⟩, .int .i64 0] 25) := (heap_past _ _ _ (by simp)).trans (heap_last w _ _ rfl)
  have hg0 : ((w.alloc (.cells #[.string ⟨#[]⟩, .int .i64 0] 25)).alloc (.cells #[.slice none 0 0, .map none] 52)).heap[w.heap.size + 1]? = some (.cells #[.slice none 0 0, .map none] 52) := heap_last _ _ _ (by simp)
  generalize hw0 : (w.alloc (.cells #[.string ⟨#[]⟩, .int .i64 0] 25)).alloc (.cells #[.slice none 0 0, .map none] 52) = w0 at *
  have hlf := layFile_one w.heap.size w0 (w.heap.size + 1) l c hc (by omega) hg0 (hT.keep hb0 h0) h0 hl
  have H0 := hide (And.intro hb0 hx0)
  have hgt : decide ((262144 : Int) < (l.length : Int)) = false := by simp; omega
  clear hb0 hx0 hg0 hT
  go_enter Tryz.func8, Tryz.ntmps8
  go_wp2_with fail
  try rw [hw0]
  refine hlf.mono ?_
  rintro e w1 ⟨rfl, hBd, hM⟩
  have hx1 := hM.k _ _ _ _ H0.out.2 (by decide) (by simp)
  have hB1 := H0.out.1.trans hM.b
  have hb2 : Below w1.heap.size w1 (w1.alloc (.cells #[.string (strB (partOf c).1), .int .i64 (partOf c).2] 25)) := (Below.refl _ _).alloc (Nat.le_refl _) _
  have hy2 := heap_last w1 (.cells #[.string (strB (partOf c).1), .int .i64 (partOf c).2] 25) _ rfl
  have hx2 := (hb2.block _ (lt_of_heap hx1)).trans hx1
  have hBd2 := hBd.keep hb2
  have hB2 := hB1.trans (hb2.mono hB1.size)
  have hne : w.heap.size ≠ w1.heap.size := Nat.ne_of_lt (lt_of_heap hx1)
  generalize hw2 : w1.alloc (.cells #[.string (strB (partOf c).1), .int .i64 (partOf c).2] 25) = w2 at *
  obtain ⟨-, vo, mb, hh2, hrow2, -, -⟩ := hBd2
  have y0 := cell_of_row w2 w1.heap.size 0 _ _ _ hy2
  have y1 := cell_of_row w2 w1.heap.size 1 _ _ _ hy2
  have o0 := cell_of_row w2 (w.heap.size + 1) 0 _ _ _ hh2
  have x0 := cell_of_row w2 w.heap.size 0 _ _ _ hx2
  have x1 := cell_of_row w2 w.heap.size 1 _ _ _ hx2
  simp only [List.getElem?_toArray, List.getElem?_cons_zero, List.getElem?_cons_succ] at y0 y1 o0 x0 x1
  have f0 := frozen0 (j := 0) hx2
  have f1 := frozen0 (j := 1) hx2
  obtain ⟨va, vm, vc, rfl⟩ := row_form hrow2
  have H2 := hide (And.intro hrow2 (And.intro hB2 hx2))
  have hw3x : ((w2.setCell ⟨w.heap.size, 0, none⟩ (.string (strB (partOf c).1))).setCell ⟨w.heap.size, 1, none⟩ (.int .i64 (partOf c).2)).heap[w1.heap.size]? = _ := (heap_setOther hne.symm).trans ((heap_setOther hne.symm).trans hy2)
  have hw3h : ((w2.setCell ⟨w.heap.size, 0, none⟩ (.string (strB (partOf c).1))).setCell ⟨w.heap.size, 1, none⟩ (.int .i64 (partOf c).2)).heap[w.heap.size + 1]? = _ := (heap_setOther (by omega)).trans ((heap_setOther (by omega)).trans hh2)
  have z0 := cell_of_row _ w1.heap.size 0 _ _ _ hw3x
  have z1 := cell_of_row _ w1.heap.size 1 _ _ _ hw3x
  have z2 := cell_of_row _ (w.heap.size + 1) 0 _ _ _ hw3h
  simp only [List.getElem?_toArray, List.getElem?_cons_zero, List.getElem?_cons_succ] at z0 z1 z2
  clear hlf hBd hM hx1 hB1 hb2 hx2 hB2 hh2 hrow2 hne hw3x hw3h hy2
  go_wp2_with fail
  refine wp_region_held_drew (S := fun W => W.cell? ⟨w1.heap.size, 0, none⟩ = some (.string (strB (partOf c).1)) ∧ W.cell? ⟨w1.heap.size, 1, none⟩ = some (.int .i64 (partOf c).2) ∧ W.cell? ⟨w.heap.size + 1, 0, none⟩ = some (.slice va vm vc)) (by kernel_rfl) (⟨y0, y1, o0⟩) (fun hHeld => ?_)
  refine takeJ 0 (v := ?_) ?_ hHeld ?_
  rotate_left
  · rintro w ⟨_, _, _⟩; go_simp; try with_reducible rfl
  refine takeJ 1 (v := ?_) ?_ hHeld ?_
  rotate_left
  · rintro w ⟨_, _, _⟩; go_simp; try with_reducible rfl
  refine takeJ 2 (v := ?_) ?_ hHeld ?_
  rotate_left
  · rintro w ⟨_, _, _⟩; go_simp; try with_reducible rfl
  refine onlyH (i := 3) rfl (by kernel_rfl) rfl (fun K hK => ?_)
  go_simp
  refine hK.out _ _ (⟨z0, z1, z2⟩) (fun hHeld => ?_)
  clear hK K
  try simp only [Act.put, List.setIfInBounds_toArray, List.set_cons_zero, List.set_cons_succ]
  refine takeJ 4 (v := ?_) ?_ hHeld ?_
  rotate_left
  · rintro w ⟨_, _, _⟩; go_simp; try with_reducible rfl
  refine takeJ 5 (v := ?_) ?_ hHeld ?_
  rotate_left
  · rintro w ⟨_, _, _⟩; go_simp; try with_reducible rfl
  refine wpAnyH_done (by kernel_rfl) ?_ _
  clear hHeld
  go_wp2
  refine bodyPost_ret (results_cell_tmp2_row rfl _ _ _ _ _ _ _ rfl (heap_set2 (show w2.drew.heap[w.heap.size]? = _ from H2.out.2.2)) Tryz.underlying25 rfl Tryz.infoPart) rfl ⟨_, rfl, ?_, ?_⟩
  · exact own_setCell (own_setCell (show w2.drew.ownsRow _ _ _ _ _ _ from H2.out.1) (show w2.drew.heap[w.heap.size]? = _ from H2.out.2.2) (by decide) _) (heap_set1a (show w2.drew.heap[w.heap.size]? = _ from H2.out.2.2)) (by decide) _
  · exact (H2.out.2.1.drew.setCell (p := ⟨w.heap.size, 0, none⟩) (Nat.le_refl _) _).setCell (p := ⟨w.heap.size, 1, none⟩) (Nat.le_refl _) _
end Go.Proofs.YtokebnkgjchfaaaGreatDoor
