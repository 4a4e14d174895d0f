/-
  Fans and branches read. Conditions: lengths within reach.
-/
import Derived.Test.YtdbmngbinhemeabGreatDoorROTop2
namespace Go.Proofs.YtdbmngbinhemeabGreatDoor
open Go.RowKit

theorem Tryz.infoFan : (Tryz.prog.info? 46).map (·.size) = some 2 := by kernel_rfl
theorem Tryz.infoBranch : (Tryz.prog.info? 54).map (·.size) = some 2 := by kernel_rfl
def takenFan (b : Bs) : Option Fan := taken [70] gFan fanOk b
def takenBranch (b : Bs) : Option Branch := taken [66] gBranch (branchOk ltB) b

/-- What TakeFan answers. -/
def fanSaid (B : Nat) (b : Bs) (e : Ending) (w' : World) : Prop :=
  match takenFan b with
  | some f => ∃ v, e = .returned (.tuple #[.agg #[.int .i64 f.1, v], .int .i64 0]) ∧ w'.ownsRow B 51 2 v f.2.length (f.2.flatMap partC)
  | none => e = .returned (.tuple #[.agg #[.int .i64 0, .slice none 0 0], .int .i64 81])
set_option maxRecDepth 20000 in
set_option maxHeartbeats 800000 in
theorem takeFan_any (w : World) (b : Bs) (hb : b.length ≤ 140737488355328) :
    Calls Tryz.prog 32 #[.string (strB b)] w fun e w' => fanSaid w.heap.size b e w' ∧ Below w.heap.size w w' := by
  have hbE : Below w.heap.size w ((w.alloc (.cells #[.int .i64 0, .slice none 0 0] 46)).alloc (.cells #[.int .i64 0, .slice none 0 0] 46)) := ((Below.refl _ _).alloc (Nat.le_refl _) _).alloc (by simp) _
  have hx0 : ((w.alloc (.cells #[.int .i64 0, .slice none 0 0] 46)).alloc (.cells #[.int .i64 0, .slice none 0 0] 46)).heap[w.heap.size]? = some (.cells #[.int .i64 0, .slice none 0 0] 46) := (heap_past _ _ _ (by simp)).trans (heap_last w _ _ rfl)
  have hy0 : ((w.alloc (.cells #[.int .i64 0, .slice none 0 0] 46)).alloc (.cells #[.int .i64 0, .slice none 0 0] 46)).heap[w.heap.size + 1]? = some (.cells #[.int .i64 0, .slice none 0 0] 46) := heap_last (w.alloc (.cells #[.int .i64 0, .slice none 0 0] 46)) _ _ (by simp)
  have hn0 : ((w.alloc (.cells #[.int .i64 0, .slice none 0 0] 46)).alloc (.cells #[.int .i64 0, .slice none 0 0] 46)).heap.size = w.heap.size + 2 := by simp
  generalize hw0 : (w.alloc (.cells #[.int .i64 0, .slice none 0 0] 46)).alloc (.cells #[.int .i64 0, .slice none 0 0] 46) = w0 at *
  have hrd := read_any w0 b [70] hb (by simp)
  have hle := begin_le [70] b
  unfold fanSaid takenFan taken
  generalize hx : begin [70] b = x at *
  obtain ⟨l, s⟩ := x
  simp only at *
  have hl : l.length ≤ 140737488355328 := by omega
  have hg : gFan l s = (((rC l 20 s).1, (rL l 32 (rPart l) (rC l 20 s).2).1), (rL l 32 (rPart l) (rC l 20 s).2).2) := rfl
  rw [hg]
  have h64 := rC_le l 20 s (by omega)
  generalize hc : rC l 20 s = c at *
  obtain ⟨lev, s1⟩ := c
  simp only at *
  generalize hy : rL l 32 (rPart l) s1 = y at *
  obtain ⟨f, s2⟩ := y
  simp only at *
  have HC := hide hc
  have HY := hide hy
  clear hx hg hc hy
  by_cases h1 : s2 = some l.length
  · have hdec := decide_eq_true h1
    by_cases h2 : fanOk (lev, f) = true
    · rw [if_pos ⟨h1, h2⟩]
      simp only
      go_enter Tryz.func32, Tryz.ntmps32
      go_wp2_with fail
      try rw [hw0]
      refine hrd.mono ?_
      rintro e w1 ⟨g, rfl, hR1, hg1, hb1⟩
      have hx1 := (hb1.block _ (by omega)).trans hx0
      have hy1 := (hb1.block _ (by omega)).trans hy0
      have hS := takeSmall_any w1 g l s 20 hR1 hl
      unfold Took at hS
      rw [HC.out] at hS
      simp only at hS
      clear hrd hR1
      go_wp2_with fail
      refine hS.mono ?_
      rintro e w2 ⟨rfl, hR2, hgb2⟩
      have hx2 := (hgb2.block _ (lt_of_heap hx1) (fun e => by injection e with e; omega)).trans hx1
      have hy2 := (hgb2.block _ (lt_of_heap hy1) (fun e => by injection e with e; omega)).trans hy1
      have cy0 := cell_of_row w2 (w.heap.size + 1) 0 _ _ _ hy2
      simp only [List.getElem?_toArray, List.getElem?_cons_zero] at cy0
      have fy0 := frozen0 (j := 0) hy2
      have hR3 := hR2.set (n := w.heap.size + 1) (i := 0) (u := .int .i64 lev) (.inr ⟨by omega, by omega⟩)
      have hy3 : (w2.setCell ⟨w.heap.size + 1, 0, none⟩ (.int .i64 lev)).heap[w.heap.size + 1]? = some (.cells #[.int .i64 lev, .slice none 0 0] 46) := by rw [heap_setCell _ _ _ _ _ _ _ hy2]; simp
      have hx3 := ((gb_set w2 (w.heap.size + 1) 0 (.int .i64 lev)).block _ (lt_of_heap hx2) (fun e => by injection e with e; omega)).trans hx2
      have hb3 : Below w.heap.size w (w2.setCell ⟨w.heap.size + 1, 0, none⟩ (.int .i64 lev)) := ((hbE.trans (hb1.mono hbE.size)).grown hgb2 (Nat.le_trans hbE.size hb1.size) (fun k hk => by injection hk with hk; omega)).setCell (p := ⟨w.heap.size + 1, 0, none⟩) (by simp) _
      have hT := takeParts_any (w2.setCell ⟨w.heap.size + 1, 0, none⟩ (.int .i64 lev)) g l s1 32 (by omega) hR3 hl
      rw [show ((32 : Nat) : Int) = 32 from rfl, HY.out] at hT
      simp only at hT
      have hsz3 := hb3.size
      have HB3 := hide hb3
      have HX3 := hide hx3
      have HY3 := hide hy3
      clear hS hR2 hgb2 hb3 hx3 hy3 hR3 hx2 hy2 hx1 hy1
      go_wp2_with fail
      generalize hw3 : w2.setCell ⟨w.heap.size + 1, 0, none⟩ (.int .i64 lev) = w3 at *
      refine hT.mono ?_
      rintro e w4 ⟨v, rfl, hown4, hR4, hgb4⟩
      have hx4 := (hgb4.block _ (lt_of_heap HX3.out) (fun e => by injection e with e; omega)).trans HX3.out
      have hy4 := (hgb4.block _ (lt_of_heap HY3.out) (fun e => by injection e with e; omega)).trans HY3.out
      have cy1 := cell_of_row w4 (w.heap.size + 1) 1 _ _ _ hy4
      simp only [List.getElem?_toArray, List.getElem?_cons_zero, List.getElem?_cons_succ] at cy1
      have fy1 := frozen0 (j := 1) hy4
      obtain ⟨ao, cap, rfl, -⟩ := own_form hown4
      have hb4 := HB3.out.grown hgb4 hsz3 (fun k hk => by injection hk with hk; omega)
      have hy5 : (w4.setCell ⟨w.heap.size + 1, 1, none⟩ (.slice ao f.length cap)).heap[w.heap.size + 1]? = some (.cells #[.int .i64 lev, .slice ao f.length cap] 46) := by rw [heap_setCell _ _ _ _ _ _ _ hy4]; simp
      have hx5 := ((gb_set w4 (w.heap.size + 1) 1 (.slice ao f.length cap)).block _ (lt_of_heap hx4) (fun e => by injection e with e; omega)).trans hx4
      have hR5 := hR4.set (n := w.heap.size + 1) (i := 1) (u := .slice ao f.length cap) (.inr ⟨by omega, by omega⟩)
      have hown5 : (w4.setCell ⟨w.heap.size + 1, 1, none⟩ (.slice ao f.length cap)).ownsRow w.heap.size 51 2 (.slice ao f.length cap) f.length (f.flatMap partC) := World.ownsRow.mono (ownsRow_setCell_other hown4 (ne_own' hown4 hy4 (by decide)) _) hsz3
      have hb5 := hb4.setCell (p := ⟨w.heap.size + 1, 1, none⟩) (by simp) (.slice ao f.length cap)
      have HB5 := hide hb5
      have HX5 := hide hx5
      have HY5 := hide hy5
      have HO5 := hide hown5
      have HR5 := hide hR5
      clear hT hown4 hR4 hgb4 hb4 hb5 hx5 hy5 hown5 hR5 hx4 hy4 HX3 HY3 HB3
      go_wp2_with fail
      generalize hw5 : w4.setCell ⟨w.heap.size + 1, 1, none⟩ (.slice ao f.length cap) = w5 at *
      have hW := wasAll_any w5 g l s2 HR5.out
      rw [hdec] at hW
      refine hW.mono ?_
      rintro e w6 ⟨rfl, hb6⟩
      have hs5 := HB5.out.size
      have hx6 := (hb6.block _ (lt_of_heap HX5.out)).trans HX5.out
      have hy6 := (hb6.block _ (lt_of_heap HY5.out)).trans HY5.out
      have hb6' := HB5.out.trans (hb6.mono hs5)
      have hown6 := own_below HO5.out hb6
      have cz0 := cell_of_row w6 (w.heap.size + 1) 0 _ _ _ hy6
      have cz1 := cell_of_row w6 (w.heap.size + 1) 1 _ _ _ hy6
      simp only [List.getElem?_toArray, List.getElem?_cons_zero, List.getElem?_cons_succ] at cz0 cz1
      clear hW hb6 HR5
      have hlr := fanRight_any w6 (lev, f) _ (ls_of_own partC_length hown6)
      rw [h2] at hlr
      simp only at hlr
      have hs6 := hb6'.size
      go_wp2_with fail
      refine hlr.mono ?_
      rintro e w7 ⟨rfl, hb7⟩
      have hx7 := (hb7.block _ (lt_of_heap hx6)).trans hx6
      have hy7 := (hb7.block _ (lt_of_heap hy6)).trans hy6
      have hb7' := hb6'.trans (hb7.mono hs6)
      have hown7 := own_below hown6 hb7
      have cd0 := cell_of_row w7 (w.heap.size + 1) 0 _ _ _ hy7
      have cd1 := cell_of_row w7 (w.heap.size + 1) 1 _ _ _ hy7
      have ce0 := cell_of_row w7 w.heap.size 0 _ _ _ hx7
      have ce1 := cell_of_row w7 w.heap.size 1 _ _ _ hx7
      simp only [List.getElem?_toArray, List.getElem?_cons_zero, List.getElem?_cons_succ] at cd0 cd1 ce0 ce1
      have fe0 := frozen0 (j := 0) hx7
      have fe1 := frozen0 (j := 1) hx7
      have HO7 := hide hown7
      clear hlr hb7 hown7 hown6
      go_wp2
      refine bodyPost_ret (results_cell_tmp_row rfl _ _ _ _ _ _ _ rfl (heap_set2 hx7) Tryz.underlying46 rfl Tryz.infoFan) rfl ⟨⟨_, rfl, ?_⟩, (hb7'.setCell (p := ⟨w.heap.size, 0, none⟩) (by simp) _).setCell (p := ⟨w.heap.size, 1, none⟩) (by simp) _⟩
      have hh0 := heap_setCell w7 w.heap.size 0 _ _ _ (.int .i64 lev) hx7
      exact ownsRow_setCell_other (ownsRow_setCell_other HO7.out (ne_own' HO7.out hx7 (by decide)) _) (ne_own' (ownsRow_setCell_other HO7.out (ne_own' HO7.out hx7 (by decide)) _) hh0 (by decide)) _
    · have h2 := Bool.eq_false_iff.2 h2
      rw [if_neg (by rw [h2]; simp)]
      simp only
      go_enter Tryz.func32, Tryz.ntmps32
      go_wp2_with fail
      try rw [hw0]
      refine hrd.mono ?_
      rintro e w1 ⟨g, rfl, hR1, hg1, hb1⟩
      have hx1 := (hb1.block _ (by omega)).trans hx0
      have hy1 := (hb1.block _ (by omega)).trans hy0
      have hS := takeSmall_any w1 g l s 20 hR1 hl
      unfold Took at hS
      rw [HC.out] at hS
      simp only at hS
      clear hrd hR1
      go_wp2_with fail
      refine hS.mono ?_
      rintro e w2 ⟨rfl, hR2, hgb2⟩
      have hx2 := (hgb2.block _ (lt_of_heap hx1) (fun e => by injection e with e; omega)).trans hx1
      have hy2 := (hgb2.block _ (lt_of_heap hy1) (fun e => by injection e with e; omega)).trans hy1
      have cy0 := cell_of_row w2 (w.heap.size + 1) 0 _ _ _ hy2
      simp only [List.getElem?_toArray, List.getElem?_cons_zero] at cy0
      have fy0 := frozen0 (j := 0) hy2
      have hR3 := hR2.set (n := w.heap.size + 1) (i := 0) (u := .int .i64 lev) (.inr ⟨by omega, by omega⟩)
      have hy3 : (w2.setCell ⟨w.heap.size + 1, 0, none⟩ (.int .i64 lev)).heap[w.heap.size + 1]? = some (.cells #[.int .i64 lev, .slice none 0 0] 46) := by rw [heap_setCell _ _ _ _ _ _ _ hy2]; simp
      have hx3 := ((gb_set w2 (w.heap.size + 1) 0 (.int .i64 lev)).block _ (lt_of_heap hx2) (fun e => by injection e with e; omega)).trans hx2
      have hb3 : Below w.heap.size w (w2.setCell ⟨w.heap.size + 1, 0, none⟩ (.int .i64 lev)) := ((hbE.trans (hb1.mono hbE.size)).grown hgb2 (Nat.le_trans hbE.size hb1.size) (fun k hk => by injection hk with hk; omega)).setCell (p := ⟨w.heap.size + 1, 0, none⟩) (by simp) _
      have hT := takeParts_any (w2.setCell ⟨w.heap.size + 1, 0, none⟩ (.int .i64 lev)) g l s1 32 (by omega) hR3 hl
      rw [show ((32 : Nat) : Int) = 32 from rfl, HY.out] at hT
      simp only at hT
      have hsz3 := hb3.size
      have HB3 := hide hb3
      have HX3 := hide hx3
      have HY3 := hide hy3
      clear hS hR2 hgb2 hb3 hx3 hy3 hR3 hx2 hy2 hx1 hy1
      go_wp2_with fail
      generalize hw3 : w2.setCell ⟨w.heap.size + 1, 0, none⟩ (.int .i64 lev) = w3 at *
      refine hT.mono ?_
      rintro e w4 ⟨v, rfl, hown4, hR4, hgb4⟩
      have hx4 := (hgb4.block _ (lt_of_heap HX3.out) (fun e => by injection e with e; omega)).trans HX3.out
      have hy4 := (hgb4.block _ (lt_of_heap HY3.out) (fun e => by injection e with e; omega)).trans HY3.out
      have cy1 := cell_of_row w4 (w.heap.size + 1) 1 _ _ _ hy4
      simp only [List.getElem?_toArray, List.getElem?_cons_zero, List.getElem?_cons_succ] at cy1
      have fy1 := frozen0 (j := 1) hy4
      obtain ⟨ao, cap, rfl, -⟩ := own_form hown4
      have hb4 := HB3.out.grown hgb4 hsz3 (fun k hk => by injection hk with hk; omega)
      have hy5 : (w4.setCell ⟨w.heap.size + 1, 1, none⟩ (.slice ao f.length cap)).heap[w.heap.size + 1]? = some (.cells #[.int .i64 lev, .slice ao f.length cap] 46) := by rw [heap_setCell _ _ _ _ _ _ _ hy4]; simp
      have hx5 := ((gb_set w4 (w.heap.size + 1) 1 (.slice ao f.length cap)).block _ (lt_of_heap hx4) (fun e => by injection e with e; omega)).trans hx4
      have hR5 := hR4.set (n := w.heap.size + 1) (i := 1) (u := .slice ao f.length cap) (.inr ⟨by omega, by omega⟩)
      have hown5 : (w4.setCell ⟨w.heap.size + 1, 1, none⟩ (.slice ao f.length cap)).ownsRow w.heap.size 51 2 (.slice ao f.length cap) f.length (f.flatMap partC) := World.ownsRow.mono (ownsRow_setCell_other hown4 (ne_own' hown4 hy4 (by decide)) _) hsz3
      have hb5 := hb4.setCell (p := ⟨w.heap.size + 1, 1, none⟩) (by simp) (.slice ao f.length cap)
      have HB5 := hide hb5
      have HX5 := hide hx5
      have HY5 := hide hy5
      have HO5 := hide hown5
      have HR5 := hide hR5
      clear hT hown4 hR4 hgb4 hb4 hb5 hx5 hy5 hown5 hR5 hx4 hy4 HX3 HY3 HB3
      go_wp2_with fail
      generalize hw5 : w4.setCell ⟨w.heap.size + 1, 1, none⟩ (.slice ao f.length cap) = w5 at *
      have hW := wasAll_any w5 g l s2 HR5.out
      rw [hdec] at hW
      refine hW.mono ?_
      rintro e w6 ⟨rfl, hb6⟩
      have hs5 := HB5.out.size
      have hx6 := (hb6.block _ (lt_of_heap HX5.out)).trans HX5.out
      have hy6 := (hb6.block _ (lt_of_heap HY5.out)).trans HY5.out
      have hb6' := HB5.out.trans (hb6.mono hs5)
      have hown6 := own_below HO5.out hb6
      have cz0 := cell_of_row w6 (w.heap.size + 1) 0 _ _ _ hy6
      have cz1 := cell_of_row w6 (w.heap.size + 1) 1 _ _ _ hy6
      simp only [List.getElem?_toArray, List.getElem?_cons_zero, List.getElem?_cons_succ] at cz0 cz1
      clear hW hb6 HR5
      have hlr := fanRight_any w6 (lev, f) _ (ls_of_own partC_length hown6)
      rw [h2] at hlr
      simp only at hlr
      have hs6 := hb6'.size
      go_wp2_with fail
      refine hlr.mono ?_
      rintro e w7 ⟨rfl, hb7⟩
      have hx7 := (hb7.block _ (lt_of_heap hx6)).trans hx6
      have hy7 := (hb7.block _ (lt_of_heap hy6)).trans hy6
      have hb7' := hb6'.trans (hb7.mono hs6)
      have hown7 := own_below hown6 hb7
      have cd0 := cell_of_row w7 (w.heap.size + 1) 0 _ _ _ hy7
      have cd1 := cell_of_row w7 (w.heap.size + 1) 1 _ _ _ hy7
      have ce0 := cell_of_row w7 w.heap.size 0 _ _ _ hx7
      have ce1 := cell_of_row w7 w.heap.size 1 _ _ _ hx7
      simp only [List.getElem?_toArray, List.getElem?_cons_zero, List.getElem?_cons_succ] at cd0 cd1 ce0 ce1
      have fe0 := frozen0 (j := 0) hx7
      have fe1 := frozen0 (j := 1) hx7
      have HO7 := hide hown7
      clear hlr hb7 hown7 hown6
      go_wp2
      refine bodyPost_ret (results_cell_tmp_row rfl _ _ _ _ _ _ _ rfl (heap_set2 hx7) Tryz.underlying46 rfl Tryz.infoFan) rfl ⟨rfl, (hb7'.setCell (p := ⟨w.heap.size, 0, none⟩) (by simp) _).setCell (p := ⟨w.heap.size, 1, none⟩) (by simp) _⟩
  · have hdec := decide_eq_false h1
    rw [if_neg (fun h => h1 h.1)]
    simp only
    go_enter Tryz.func32, Tryz.ntmps32
    go_wp2_with fail
    try rw [hw0]
    refine hrd.mono ?_
    rintro e w1 ⟨g, rfl, hR1, hg1, hb1⟩
    have hx1 := (hb1.block _ (by omega)).trans hx0
    have hy1 := (hb1.block _ (by omega)).trans hy0
    have hS := takeSmall_any w1 g l s 20 hR1 hl
    unfold Took at hS
    rw [HC.out] at hS
    simp only at hS
    clear hrd hR1
    go_wp2_with fail
    refine hS.mono ?_
    rintro e w2 ⟨rfl, hR2, hgb2⟩
    have hx2 := (hgb2.block _ (lt_of_heap hx1) (fun e => by injection e with e; omega)).trans hx1
    have hy2 := (hgb2.block _ (lt_of_heap hy1) (fun e => by injection e with e; omega)).trans hy1
    have cy0 := cell_of_row w2 (w.heap.size + 1) 0 _ _ _ hy2
    simp only [List.getElem?_toArray, List.getElem?_cons_zero] at cy0
    have fy0 := frozen0 (j := 0) hy2
    have hR3 := hR2.set (n := w.heap.size + 1) (i := 0) (u := .int .i64 lev) (.inr ⟨by omega, by omega⟩)
    have hy3 : (w2.setCell ⟨w.heap.size + 1, 0, none⟩ (.int .i64 lev)).heap[w.heap.size + 1]? = some (.cells #[.int .i64 lev, .slice none 0 0] 46) := by rw [heap_setCell _ _ _ _ _ _ _ hy2]; simp
    have hx3 := ((gb_set w2 (w.heap.size + 1) 0 (.int .i64 lev)).block _ (lt_of_heap hx2) (fun e => by injection e with e; omega)).trans hx2
    have hb3 : Below w.heap.size w (w2.setCell ⟨w.heap.size + 1, 0, none⟩ (.int .i64 lev)) := ((hbE.trans (hb1.mono hbE.size)).grown hgb2 (Nat.le_trans hbE.size hb1.size) (fun k hk => by injection hk with hk; omega)).setCell (p := ⟨w.heap.size + 1, 0, none⟩) (by simp) _
    have hT := takeParts_any (w2.setCell ⟨w.heap.size + 1, 0, none⟩ (.int .i64 lev)) g l s1 32 (by omega) hR3 hl
    rw [show ((32 : Nat) : Int) = 32 from rfl, HY.out] at hT
    simp only at hT
    have hsz3 := hb3.size
    have HB3 := hide hb3
    have HX3 := hide hx3
    have HY3 := hide hy3
    clear hS hR2 hgb2 hb3 hx3 hy3 hR3 hx2 hy2 hx1 hy1
    go_wp2_with fail
    generalize hw3 : w2.setCell ⟨w.heap.size + 1, 0, none⟩ (.int .i64 lev) = w3 at *
    refine hT.mono ?_
    rintro e w4 ⟨v, rfl, hown4, hR4, hgb4⟩
    have hx4 := (hgb4.block _ (lt_of_heap HX3.out) (fun e => by injection e with e; omega)).trans HX3.out
    have hy4 := (hgb4.block _ (lt_of_heap HY3.out) (fun e => by injection e with e; omega)).trans HY3.out
    have cy1 := cell_of_row w4 (w.heap.size + 1) 1 _ _ _ hy4
    simp only [List.getElem?_toArray, List.getElem?_cons_zero, List.getElem?_cons_succ] at cy1
    have fy1 := frozen0 (j := 1) hy4
    obtain ⟨ao, cap, rfl, -⟩ := own_form hown4
    have hb4 := HB3.out.grown hgb4 hsz3 (fun k hk => by injection hk with hk; omega)
    have hy5 : (w4.setCell ⟨w.heap.size + 1, 1, none⟩ (.slice ao f.length cap)).heap[w.heap.size + 1]? = some (.cells #[.int .i64 lev, .slice ao f.length cap] 46) := by rw [heap_setCell _ _ _ _ _ _ _ hy4]; simp
    have hx5 := ((gb_set w4 (w.heap.size + 1) 1 (.slice ao f.length cap)).block _ (lt_of_heap hx4) (fun e => by injection e with e; omega)).trans hx4
    have hR5 := hR4.set (n := w.heap.size + 1) (i := 1) (u := .slice ao f.length cap) (.inr ⟨by omega, by omega⟩)
    have hown5 : (w4.setCell ⟨w.heap.size + 1, 1, none⟩ (.slice ao f.length cap)).ownsRow w.heap.size 51 2 (.slice ao f.length cap) f.length (f.flatMap partC) := World.ownsRow.mono (ownsRow_setCell_other hown4 (ne_own' hown4 hy4 (by decide)) _) hsz3
    have hb5 := hb4.setCell (p := ⟨w.heap.size + 1, 1, none⟩) (by simp) (.slice ao f.length cap)
    have HB5 := hide hb5
    have HX5 := hide hx5
    have HY5 := hide hy5
    have HO5 := hide hown5
    have HR5 := hide hR5
    clear hT hown4 hR4 hgb4 hb4 hb5 hx5 hy5 hown5 hR5 hx4 hy4 HX3 HY3 HB3
    go_wp2_with fail
    generalize hw5 : w4.setCell ⟨w.heap.size + 1, 1, none⟩ (.slice ao f.length cap) = w5 at *
    have hW := wasAll_any w5 g l s2 HR5.out
    rw [hdec] at hW
    refine hW.mono ?_
    rintro e w6 ⟨rfl, hb6⟩
    have hs5 := HB5.out.size
    have hx6 := (hb6.block _ (lt_of_heap HX5.out)).trans HX5.out
    have hy6 := (hb6.block _ (lt_of_heap HY5.out)).trans HY5.out
    have hb6' := HB5.out.trans (hb6.mono hs5)
    have hown6 := own_below HO5.out hb6
    have cz0 := cell_of_row w6 (w.heap.size + 1) 0 _ _ _ hy6
    have cz1 := cell_of_row w6 (w.heap.size + 1) 1 _ _ _ hy6
    simp only [List.getElem?_toArray, List.getElem?_cons_zero, List.getElem?_cons_succ] at cz0 cz1
    clear hW hb6 HR5
    have ce0 := cell_of_row w6 w.heap.size 0 _ _ _ hx6
    have ce1 := cell_of_row w6 w.heap.size 1 _ _ _ hx6
    simp only [List.getElem?_toArray, List.getElem?_cons_zero, List.getElem?_cons_succ] at ce0 ce1
    have fe0 := frozen0 (j := 0) hx6
    have fe1 := frozen0 (j := 1) hx6
    clear hown6
    go_wp2
    refine bodyPost_ret (results_cell_tmp_row rfl _ _ _ _ _ _ _ rfl (heap_set2 hx6) Tryz.underlying46 rfl Tryz.infoFan) rfl ⟨rfl, (hb6'.setCell (p := ⟨w.heap.size, 0, none⟩) (by simp) _).setCell (p := ⟨w.heap.size, 1, none⟩) (by simp) _⟩

/-- What TakeBranch answers. -/
def branchSaid (B : Nat) (b : Bs) (e : Ending) (w' : World) : Prop :=
  match takenBranch b with
  | some f => ∃ v, e = .returned (.tuple #[.agg #[.int .i64 f.1, v], .int .i64 0]) ∧ w'.ownsRow B 58 3 v f.2.length (f.2.flatMap linkC)
  | none => e = .returned (.tuple #[.agg #[.int .i64 0, .slice none 0 0], .int .i64 81])
set_option maxRecDepth 20000 in
set_option maxHeartbeats 800000 in
theorem takeBranch_any (w : World) (b : Bs) (hb : b.length ≤ 140737488355328) :
    Calls Tryz.prog 37 #[.string (strB b)] w fun e w' => branchSaid w.heap.size b e w' ∧ Below w.heap.size w w' := by
  have hbE : Below w.heap.size w ((w.alloc (.cells #[.int .i64 0, .slice none 0 0] 54)).alloc (.cells #[.int .i64 0, .slice none 0 0] 54)) := ((Below.refl _ _).alloc (Nat.le_refl _) _).alloc (by simp) _
  have hx0 : ((w.alloc (.cells #[.int .i64 0, .slice none 0 0] 54)).alloc (.cells #[.int .i64 0, .slice none 0 0] 54)).heap[w.heap.size]? = some (.cells #[.int .i64 0, .slice none 0 0] 54) := (heap_past _ _ _ (by simp)).trans (heap_last w _ _ rfl)
  have hy0 : ((w.alloc (.cells #[.int .i64 0, .slice none 0 0] 54)).alloc (.cells #[.int .i64 0, .slice none 0 0] 54)).heap[w.heap.size + 1]? = some (.cells #[.int .i64 0, .slice none 0 0] 54) := heap_last (w.alloc (.cells #[.int .i64 0, .slice none 0 0] 54)) _ _ (by simp)
  have hn0 : ((w.alloc (.cells #[.int .i64 0, .slice none 0 0] 54)).alloc (.cells #[.int .i64 0, .slice none 0 0] 54)).heap.size = w.heap.size + 2 := by simp
  generalize hw0 : (w.alloc (.cells #[.int .i64 0, .slice none 0 0] 54)).alloc (.cells #[.int .i64 0, .slice none 0 0] 54) = w0 at *
  have hrd := read_any w0 b [66] hb (by simp)
  have hle := begin_le [66] b
  unfold branchSaid takenBranch taken
  generalize hx : begin [66] b = x at *
  obtain ⟨l, s⟩ := x
  simp only at *
  have hl : l.length ≤ 140737488355328 := by omega
  have hg : gBranch l s = (((rC l 20 s).1, (rL l 64 (rLink l l.length) (rC l 20 s).2).1), (rL l 64 (rLink l l.length) (rC l 20 s).2).2) := rfl
  rw [hg]
  have h64 := rC_le l 20 s (by omega)
  generalize hc : rC l 20 s = c at *
  obtain ⟨lev, s1⟩ := c
  simp only at *
  generalize hy : rL l 64 (rLink l l.length) s1 = y at *
  obtain ⟨f, s2⟩ := y
  simp only at *
  have HC := hide hc
  have HY := hide hy
  clear hx hg hc hy
  by_cases h1 : s2 = some l.length
  · have hdec := decide_eq_true h1
    by_cases h2 : branchOk ltB (lev, f) = true
    · rw [if_pos ⟨h1, h2⟩]
      simp only
      go_enter Tryz.func37, Tryz.ntmps37
      go_wp2_with fail
      try rw [hw0]
      refine hrd.mono ?_
      rintro e w1 ⟨g, rfl, hR1, hg1, hb1⟩
      have hx1 := (hb1.block _ (by omega)).trans hx0
      have hy1 := (hb1.block _ (by omega)).trans hy0
      have hS := takeSmall_any w1 g l s 20 hR1 hl
      unfold Took at hS
      rw [HC.out] at hS
      simp only at hS
      clear hrd hR1
      go_wp2_with fail
      refine hS.mono ?_
      rintro e w2 ⟨rfl, hR2, hgb2⟩
      have hx2 := (hgb2.block _ (lt_of_heap hx1) (fun e => by injection e with e; omega)).trans hx1
      have hy2 := (hgb2.block _ (lt_of_heap hy1) (fun e => by injection e with e; omega)).trans hy1
      have cy0 := cell_of_row w2 (w.heap.size + 1) 0 _ _ _ hy2
      simp only [List.getElem?_toArray, List.getElem?_cons_zero] at cy0
      have fy0 := frozen0 (j := 0) hy2
      have hR3 := hR2.set (n := w.heap.size + 1) (i := 0) (u := .int .i64 lev) (.inr ⟨by omega, by omega⟩)
      have hy3 : (w2.setCell ⟨w.heap.size + 1, 0, none⟩ (.int .i64 lev)).heap[w.heap.size + 1]? = some (.cells #[.int .i64 lev, .slice none 0 0] 54) := by rw [heap_setCell _ _ _ _ _ _ _ hy2]; simp
      have hx3 := ((gb_set w2 (w.heap.size + 1) 0 (.int .i64 lev)).block _ (lt_of_heap hx2) (fun e => by injection e with e; omega)).trans hx2
      have hb3 : Below w.heap.size w (w2.setCell ⟨w.heap.size + 1, 0, none⟩ (.int .i64 lev)) := ((hbE.trans (hb1.mono hbE.size)).grown hgb2 (Nat.le_trans hbE.size hb1.size) (fun k hk => by injection hk with hk; omega)).setCell (p := ⟨w.heap.size + 1, 0, none⟩) (by simp) _
      have hT := takeLinks_any (w2.setCell ⟨w.heap.size + 1, 0, none⟩ (.int .i64 lev)) g l s1 64 (by omega) hR3 hl
      rw [show ((64 : Nat) : Int) = 64 from rfl, HY.out] at hT
      simp only at hT
      have hsz3 := hb3.size
      have HB3 := hide hb3
      have HX3 := hide hx3
      have HY3 := hide hy3
      clear hS hR2 hgb2 hb3 hx3 hy3 hR3 hx2 hy2 hx1 hy1
      go_wp2_with fail
      generalize hw3 : w2.setCell ⟨w.heap.size + 1, 0, none⟩ (.int .i64 lev) = w3 at *
      refine hT.mono ?_
      rintro e w4 ⟨v, rfl, hown4, hR4, hgb4⟩
      have hx4 := (hgb4.block _ (lt_of_heap HX3.out) (fun e => by injection e with e; omega)).trans HX3.out
      have hy4 := (hgb4.block _ (lt_of_heap HY3.out) (fun e => by injection e with e; omega)).trans HY3.out
      have cy1 := cell_of_row w4 (w.heap.size + 1) 1 _ _ _ hy4
      simp only [List.getElem?_toArray, List.getElem?_cons_zero, List.getElem?_cons_succ] at cy1
      have fy1 := frozen0 (j := 1) hy4
      obtain ⟨ao, cap, rfl, -⟩ := own_form hown4
      have hb4 := HB3.out.grown hgb4 hsz3 (fun k hk => by injection hk with hk; omega)
      have hy5 : (w4.setCell ⟨w.heap.size + 1, 1, none⟩ (.slice ao f.length cap)).heap[w.heap.size + 1]? = some (.cells #[.int .i64 lev, .slice ao f.length cap] 54) := by rw [heap_setCell _ _ _ _ _ _ _ hy4]; simp
      have hx5 := ((gb_set w4 (w.heap.size + 1) 1 (.slice ao f.length cap)).block _ (lt_of_heap hx4) (fun e => by injection e with e; omega)).trans hx4
      have hR5 := hR4.set (n := w.heap.size + 1) (i := 1) (u := .slice ao f.length cap) (.inr ⟨by omega, by omega⟩)
      have hown5 : (w4.setCell ⟨w.heap.size + 1, 1, none⟩ (.slice ao f.length cap)).ownsRow w.heap.size 58 3 (.slice ao f.length cap) f.length (f.flatMap linkC) := World.ownsRow.mono (ownsRow_setCell_other hown4 (ne_own' hown4 hy4 (by decide)) _) hsz3
      have hb5 := hb4.setCell (p := ⟨w.heap.size + 1, 1, none⟩) (by simp) (.slice ao f.length cap)
      have HB5 := hide hb5
      have HX5 := hide hx5
      have HY5 := hide hy5
      have HO5 := hide hown5
      have HR5 := hide hR5
      clear hT hown4 hR4 hgb4 hb4 hb5 hx5 hy5 hown5 hR5 hx4 hy4 HX3 HY3 HB3
      go_wp2_with fail
      generalize hw5 : w4.setCell ⟨w.heap.size + 1, 1, none⟩ (.slice ao f.length cap) = w5 at *
      have hW := wasAll_any w5 g l s2 HR5.out
      rw [hdec] at hW
      refine hW.mono ?_
      rintro e w6 ⟨rfl, hb6⟩
      have hs5 := HB5.out.size
      have hx6 := (hb6.block _ (lt_of_heap HX5.out)).trans HX5.out
      have hy6 := (hb6.block _ (lt_of_heap HY5.out)).trans HY5.out
      have hb6' := HB5.out.trans (hb6.mono hs5)
      have hown6 := own_below HO5.out hb6
      have cz0 := cell_of_row w6 (w.heap.size + 1) 0 _ _ _ hy6
      have cz1 := cell_of_row w6 (w.heap.size + 1) 1 _ _ _ hy6
      simp only [List.getElem?_toArray, List.getElem?_cons_zero, List.getElem?_cons_succ] at cz0 cz1
      clear hW hb6 HR5
      have hlr := branchRight_any w6 (lev, f) _ (ls_of_own linkC_length hown6)
      rw [h2] at hlr
      simp only at hlr
      have hs6 := hb6'.size
      go_wp2_with fail
      refine hlr.mono ?_
      rintro e w7 ⟨rfl, hb7⟩
      have hx7 := (hb7.block _ (lt_of_heap hx6)).trans hx6
      have hy7 := (hb7.block _ (lt_of_heap hy6)).trans hy6
      have hb7' := hb6'.trans (hb7.mono hs6)
      have hown7 := own_below hown6 hb7
      have cd0 := cell_of_row w7 (w.heap.size + 1) 0 _ _ _ hy7
      have cd1 := cell_of_row w7 (w.heap.size + 1) 1 _ _ _ hy7
      have ce0 := cell_of_row w7 w.heap.size 0 _ _ _ hx7
      have ce1 := cell_of_row w7 w.heap.size 1 _ _ _ hx7
      simp only [List.getElem?_toArray, List.getElem?_cons_zero, List.getElem?_cons_succ] at cd0 cd1 ce0 ce1
      have fe0 := frozen0 (j := 0) hx7
      have fe1 := frozen0 (j := 1) hx7
      have HO7 := hide hown7
      clear hlr hb7 hown7 hown6
      go_wp2
      refine bodyPost_ret (results_cell_tmp_row rfl _ _ _ _ _ _ _ rfl (heap_set2 hx7) Tryz.underlying54 rfl Tryz.infoBranch) rfl ⟨⟨_, rfl, ?_⟩, (hb7'.setCell (p := ⟨w.heap.size, 0, none⟩) (by simp) _).setCell (p := ⟨w.heap.size, 1, none⟩) (by simp) _⟩
      have hh0 := heap_setCell w7 w.heap.size 0 _ _ _ (.int .i64 lev) hx7
      exact ownsRow_setCell_other (ownsRow_setCell_other HO7.out (ne_own' HO7.out hx7 (by decide)) _) (ne_own' (ownsRow_setCell_other HO7.out (ne_own' HO7.out hx7 (by decide)) _) hh0 (by decide)) _
    · have h2 := Bool.eq_false_iff.2 h2
      rw [if_neg (by rw [h2]; simp)]
      simp only
      go_enter Tryz.func37, Tryz.ntmps37
      go_wp2_with fail
      try rw [hw0]
      refine hrd.mono ?_
      rintro e w1 ⟨g, rfl, hR1, hg1, hb1⟩
      have hx1 := (hb1.block _ (by omega)).trans hx0
      have hy1 := (hb1.block _ (by omega)).trans hy0
      have hS := takeSmall_any w1 g l s 20 hR1 hl
      unfold Took at hS
      rw [HC.out] at hS
      simp only at hS
      clear hrd hR1
      go_wp2_with fail
      refine hS.mono ?_
      rintro e w2 ⟨rfl, hR2, hgb2⟩
      have hx2 := (hgb2.block _ (lt_of_heap hx1) (fun e => by injection e with e; omega)).trans hx1
      have hy2 := (hgb2.block _ (lt_of_heap hy1) (fun e => by injection e with e; omega)).trans hy1
      have cy0 := cell_of_row w2 (w.heap.size + 1) 0 _ _ _ hy2
      simp only [List.getElem?_toArray, List.getElem?_cons_zero] at cy0
      have fy0 := frozen0 (j := 0) hy2
      have hR3 := hR2.set (n := w.heap.size + 1) (i := 0) (u := .int .i64 lev) (.inr ⟨by omega, by omega⟩)
      have hy3 : (w2.setCell ⟨w.heap.size + 1, 0, none⟩ (.int .i64 lev)).heap[w.heap.size + 1]? = some (.cells #[.int .i64 lev, .slice none 0 0] 54) := by rw [heap_setCell _ _ _ _ _ _ _ hy2]; simp
      have hx3 := ((gb_set w2 (w.heap.size + 1) 0 (.int .i64 lev)).block _ (lt_of_heap hx2) (fun e => by injection e with e; omega)).trans hx2
      have hb3 : Below w.heap.size w (w2.setCell ⟨w.heap.size + 1, 0, none⟩ (.int .i64 lev)) := ((hbE.trans (hb1.mono hbE.size)).grown hgb2 (Nat.le_trans hbE.size hb1.size) (fun k hk => by injection hk with hk; omega)).setCell (p := ⟨w.heap.size + 1, 0, none⟩) (by simp) _
      have hT := takeLinks_any (w2.setCell ⟨w.heap.size + 1, 0, none⟩ (.int .i64 lev)) g l s1 64 (by omega) hR3 hl
      rw [show ((64 : Nat) : Int) = 64 from rfl, HY.out] at hT
      simp only at hT
      have hsz3 := hb3.size
      have HB3 := hide hb3
      have HX3 := hide hx3
      have HY3 := hide hy3
      clear hS hR2 hgb2 hb3 hx3 hy3 hR3 hx2 hy2 hx1 hy1
      go_wp2_with fail
      generalize hw3 : w2.setCell ⟨w.heap.size + 1, 0, none⟩ (.int .i64 lev) = w3 at *
      refine hT.mono ?_
      rintro e w4 ⟨v, rfl, hown4, hR4, hgb4⟩
      have hx4 := (hgb4.block _ (lt_of_heap HX3.out) (fun e => by injection e with e; omega)).trans HX3.out
      have hy4 := (hgb4.block _ (lt_of_heap HY3.out) (fun e => by injection e with e; omega)).trans HY3.out
      have cy1 := cell_of_row w4 (w.heap.size + 1) 1 _ _ _ hy4
      simp only [List.getElem?_toArray, List.getElem?_cons_zero, List.getElem?_cons_succ] at cy1
      have fy1 := frozen0 (j := 1) hy4
      obtain ⟨ao, cap, rfl, -⟩ := own_form hown4
      have hb4 := HB3.out.grown hgb4 hsz3 (fun k hk => by injection hk with hk; omega)
      have hy5 : (w4.setCell ⟨w.heap.size + 1, 1, none⟩ (.slice ao f.length cap)).heap[w.heap.size + 1]? = some (.cells #[.int .i64 lev, .slice ao f.length cap] 54) := by rw [heap_setCell _ _ _ _ _ _ _ hy4]; simp
      have hx5 := ((gb_set w4 (w.heap.size + 1) 1 (.slice ao f.length cap)).block _ (lt_of_heap hx4) (fun e => by injection e with e; omega)).trans hx4
      have hR5 := hR4.set (n := w.heap.size + 1) (i := 1) (u := .slice ao f.length cap) (.inr ⟨by omega, by omega⟩)
      have hown5 : (w4.setCell ⟨w.heap.size + 1, 1, none⟩ (.slice ao f.length cap)).ownsRow w.heap.size 58 3 (.slice ao f.length cap) f.length (f.flatMap linkC) := World.ownsRow.mono (ownsRow_setCell_other hown4 (ne_own' hown4 hy4 (by decide)) _) hsz3
      have hb5 := hb4.setCell (p := ⟨w.heap.size + 1, 1, none⟩) (by simp) (.slice ao f.length cap)
      have HB5 := hide hb5
      have HX5 := hide hx5
      have HY5 := hide hy5
      have HO5 := hide hown5
      have HR5 := hide hR5
      clear hT hown4 hR4 hgb4 hb4 hb5 hx5 hy5 hown5 hR5 hx4 hy4 HX3 HY3 HB3
      go_wp2_with fail
      generalize hw5 : w4.setCell ⟨w.heap.size + 1, 1, none⟩ (.slice ao f.length cap) = w5 at *
      have hW := wasAll_any w5 g l s2 HR5.out
      rw [hdec] at hW
      refine hW.mono ?_
      rintro e w6 ⟨rfl, hb6⟩
      have hs5 := HB5.out.size
      have hx6 := (hb6.block _ (lt_of_heap HX5.out)).trans HX5.out
      have hy6 := (hb6.block _ (lt_of_heap HY5.out)).trans HY5.out
      have hb6' := HB5.out.trans (hb6.mono hs5)
      have hown6 := own_below HO5.out hb6
      have cz0 := cell_of_row w6 (w.heap.size + 1) 0 _ _ _ hy6
      have cz1 := cell_of_row w6 (w.heap.size + 1) 1 _ _ _ hy6
      simp only [List.getElem?_toArray, List.getElem?_cons_zero, List.getElem?_cons_succ] at cz0 cz1
      clear hW hb6 HR5
      have hlr := branchRight_any w6 (lev, f) _ (ls_of_own linkC_length hown6)
      rw [h2] at hlr
      simp only at hlr
      have hs6 := hb6'.size
      go_wp2_with fail
      refine hlr.mono ?_
      rintro e w7 ⟨rfl, hb7⟩
      have hx7 := (hb7.block _ (lt_of_heap hx6)).trans hx6
      have hy7 := (hb7.block _ (lt_of_heap hy6)).trans hy6
      have hb7' := hb6'.trans (hb7.mono hs6)
      have hown7 := own_below hown6 hb7
      have cd0 := cell_of_row w7 (w.heap.size + 1) 0 _ _ _ hy7
      have cd1 := cell_of_row w7 (w.heap.size + 1) 1 _ _ _ hy7
      have ce0 := cell_of_row w7 w.heap.size 0 _ _ _ hx7
      have ce1 := cell_of_row w7 w.heap.size 1 _ _ _ hx7
      simp only [List.getElem?_toArray, List.getElem?_cons_zero, List.getElem?_cons_succ] at cd0 cd1 ce0 ce1
      have fe0 := frozen0 (j := 0) hx7
      have fe1 := frozen0 (j := 1) hx7
      have HO7 := hide hown7
      clear hlr hb7 hown7 hown6
      go_wp2
      refine bodyPost_ret (results_cell_tmp_row rfl _ _ _ _ _ _ _ rfl (heap_set2 hx7) Tryz.underlying54 rfl Tryz.infoBranch) rfl ⟨rfl, (hb7'.setCell (p := ⟨w.heap.size, 0, none⟩) (by simp) _).setCell (p := ⟨w.heap.size, 1, none⟩) (by simp) _⟩
  · have hdec := decide_eq_false h1
    rw [if_neg (fun h => h1 h.1)]
    simp only
    go_enter Tryz.func37, Tryz.ntmps37
    go_wp2_with fail
    try rw [hw0]
    refine hrd.mono ?_
    rintro e w1 ⟨g, rfl, hR1, hg1, hb1⟩
    have hx1 := (hb1.block _ (by omega)).trans hx0
    have hy1 := (hb1.block _ (by omega)).trans hy0
    have hS := takeSmall_any w1 g l s 20 hR1 hl
    unfold Took at hS
    rw [HC.out] at hS
    simp only at hS
    clear hrd hR1
    go_wp2_with fail
    refine hS.mono ?_
    rintro e w2 ⟨rfl, hR2, hgb2⟩
    have hx2 := (hgb2.block _ (lt_of_heap hx1) (fun e => by injection e with e; omega)).trans hx1
    have hy2 := (hgb2.block _ (lt_of_heap hy1) (fun e => by injection e with e; omega)).trans hy1
    have cy0 := cell_of_row w2 (w.heap.size + 1) 0 _ _ _ hy2
    simp only [List.getElem?_toArray, List.getElem?_cons_zero] at cy0
    have fy0 := frozen0 (j := 0) hy2
    have hR3 := hR2.set (n := w.heap.size + 1) (i := 0) (u := .int .i64 lev) (.inr ⟨by omega, by omega⟩)
    have hy3 : (w2.setCell ⟨w.heap.size + 1, 0, none⟩ (.int .i64 lev)).heap[w.heap.size + 1]? = some (.cells #[.int .i64 lev, .slice none 0 0] 54) := by rw [heap_setCell _ _ _ _ _ _ _ hy2]; simp
    have hx3 := ((gb_set w2 (w.heap.size + 1) 0 (.int .i64 lev)).block _ (lt_of_heap hx2) (fun e => by injection e with e; omega)).trans hx2
    have hb3 : Below w.heap.size w (w2.setCell ⟨w.heap.size + 1, 0, none⟩ (.int .i64 lev)) := ((hbE.trans (hb1.mono hbE.size)).grown hgb2 (Nat.le_trans hbE.size hb1.size) (fun k hk => by injection hk with hk; omega)).setCell (p := ⟨w.heap.size + 1, 0, none⟩) (by simp) _
    have hT := takeLinks_any (w2.setCell ⟨w.heap.size + 1, 0, none⟩ (.int .i64 lev)) g l s1 64 (by omega) hR3 hl
    rw [show ((64 : Nat) : Int) = 64 from rfl, HY.out] at hT
    simp only at hT
    have hsz3 := hb3.size
    have HB3 := hide hb3
    have HX3 := hide hx3
    have HY3 := hide hy3
    clear hS hR2 hgb2 hb3 hx3 hy3 hR3 hx2 hy2 hx1 hy1
    go_wp2_with fail
    generalize hw3 : w2.setCell ⟨w.heap.size + 1, 0, none⟩ (.int .i64 lev) = w3 at *
    refine hT.mono ?_
    rintro e w4 ⟨v, rfl, hown4, hR4, hgb4⟩
    have hx4 := (hgb4.block _ (lt_of_heap HX3.out) (fun e => by injection e with e; omega)).trans HX3.out
    have hy4 := (hgb4.block _ (lt_of_heap HY3.out) (fun e => by injection e with e; omega)).trans HY3.out
    have cy1 := cell_of_row w4 (w.heap.size + 1) 1 _ _ _ hy4
    simp only [List.getElem?_toArray, List.getElem?_cons_zero, List.getElem?_cons_succ] at cy1
    have fy1 := frozen0 (j := 1) hy4
    obtain ⟨ao, cap, rfl, -⟩ := own_form hown4
    have hb4 := HB3.out.grown hgb4 hsz3 (fun k hk => by injection hk with hk; omega)
    have hy5 : (w4.setCell ⟨w.heap.size + 1, 1, none⟩ (.slice ao f.length cap)).heap[w.heap.size + 1]? = some (.cells #[.int .i64 lev, .slice ao f.length cap] 54) := by rw [heap_setCell _ _ _ _ _ _ _ hy4]; simp
    have hx5 := ((gb_set w4 (w.heap.size + 1) 1 (.slice ao f.length cap)).block _ (lt_of_heap hx4) (fun e => by injection e with e; omega)).trans hx4
    have hR5 := hR4.set (n := w.heap.size + 1) (i := 1) (u := .slice ao f.length cap) (.inr ⟨by omega, by omega⟩)
    have hown5 : (w4.setCell ⟨w.heap.size + 1, 1, none⟩ (.slice ao f.length cap)).ownsRow w.heap.size 58 3 (.slice ao f.length cap) f.length (f.flatMap linkC) := World.ownsRow.mono (ownsRow_setCell_other hown4 (ne_own' hown4 hy4 (by decide)) _) hsz3
    have hb5 := hb4.setCell (p := ⟨w.heap.size + 1, 1, none⟩) (by simp) (.slice ao f.length cap)
    have HB5 := hide hb5
    have HX5 := hide hx5
    have HY5 := hide hy5
    have HO5 := hide hown5
    have HR5 := hide hR5
    clear hT hown4 hR4 hgb4 hb4 hb5 hx5 hy5 hown5 hR5 hx4 hy4 HX3 HY3 HB3
    go_wp2_with fail
    generalize hw5 : w4.setCell ⟨w.heap.size + 1, 1, none⟩ (.slice ao f.length cap) = w5 at *
    have hW := wasAll_any w5 g l s2 HR5.out
    rw [hdec] at hW
    refine hW.mono ?_
    rintro e w6 ⟨rfl, hb6⟩
    have hs5 := HB5.out.size
    have hx6 := (hb6.block _ (lt_of_heap HX5.out)).trans HX5.out
    have hy6 := (hb6.block _ (lt_of_heap HY5.out)).trans HY5.out
    have hb6' := HB5.out.trans (hb6.mono hs5)
    have hown6 := own_below HO5.out hb6
    have cz0 := cell_of_row w6 (w.heap.size + 1) 0 _ _ _ hy6
    have cz1 := cell_of_row w6 (w.heap.size + 1) 1 _ _ _ hy6
    simp only [List.getElem?_toArray, List.getElem?_cons_zero, List.getElem?_cons_succ] at cz0 cz1
    clear hW hb6 HR5
    have ce0 := cell_of_row w6 w.heap.size 0 _ _ _ hx6
    have ce1 := cell_of_row w6 w.heap.size 1 _ _ _ hx6
    simp only [List.getElem?_toArray, List.getElem?_cons_zero, List.getElem?_cons_succ] at ce0 ce1
    have fe0 := frozen0 (j := 0) hx6
    have fe1 := frozen0 (j := 1) hx6
    clear hown6
    go_wp2
    refine bodyPost_ret (results_cell_tmp_row rfl _ _ _ _ _ _ _ rfl (heap_set2 hx6) Tryz.underlying54 rfl Tryz.infoBranch) rfl ⟨rfl, (hb6'.setCell (p := ⟨w.heap.size, 0, none⟩) (by simp) _).setCell (p := ⟨w.heap.size, 1, none⟩) (by simp) _⟩
end Go.Proofs.YtdbmngbinhemeabGreatDoor
