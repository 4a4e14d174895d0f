/-
  Commits made and read. Conditions: the table holds its numbers; lengths within reach.
-/
import Derived.Test.YtdbmngbinhemeabGreatDoorROCommit
namespace Go.Proofs.YtdbmngbinhemeabGreatDoor
open Go.RowKit

theorem commitB_le {c : Commit} (h : commitOk c = true) : (commitB c).length ≤ 3000 ∧ c.2.1.length ≤ 8 ∧ In64 c.2.2.2.1 := by
  simp only [commitOk, isIdB, Bool.and_eq_true, decide_eq_true_eq, List.all_eq_true] at h
  obtain ⟨⟨⟨⟨⟨⟨h1, h2⟩, h3⟩, _⟩, h5⟩, h6⟩, h4⟩ := h
  have := listB_le idB 32 c.2.1 (fun x hx => by have := h3 x hx; show x.length ≤ 32; omega)
  have n1 := num_length c.2.2.2.1
  have n2 := num_length (c.2.2.1.length : Int)
  have n3 := num_length (c.2.2.2.2.length : Int)
  have h7 : c.2.1.length * 32 ≤ 8 * 32 := Nat.mul_le_mul_right _ h2
  refine ⟨by simp only [commitB, txt, List.length_append]; omega, h2, ⟨by omega, by omega⟩⟩
theorem ls_two (w : World) (l m : Bs) (n : Nat) (hn : n = w.heap.size) : Ls (w.alloc (.cells #[.string (strB l), .string (strB m)] 9)).heap.size (w.alloc (.cells #[.string (strB l), .string (strB m)] 9)) 1 idC (.slice (some ⟨n, 0, none⟩) 2 2) [l, m] := by
  subst hn
  refine ⟨_, 2, rfl, Nat.le_refl _, by unfold maxLen; omega, fun _ => ⟨w.heap.size, 0, rfl, by simp, fun j hj i u hu => ?_⟩⟩
  rw [cell_of_row _ _ _ _ _ _ (heap_last w _ _ rfl)]
  have hi : i = 0 := by
    have := (List.getElem?_eq_some_iff.1 hu).1
    simpa [idC] using this
  subst hi
  match j, hj with
  | 0, _ => exact hu
  | 1, _ => exact hu
theorem Tryz.infoCommit : (Tryz.prog.info? 64).map (·.size) = some 5 := by kernel_rfl
def takenCommit (b : Bs) : Option Commit := taken [75] gCommit commitOk b
theorem takenCommit_iff (b : Bs) (hb : b.length ≤ 140737488355328) (c : Commit) : takenCommit b = some c ↔ commitOk c = true ∧ b = 75 :: commitB c :=
  taken_iff (enc := commitB) rfl (fun l hl x => commit_iff l (by omega) x) c
theorem heap_set5 {w : World} {g : Nat} {v0 v1 v2 v3 v4 u0 u1 u2 u3 u4 : Value} {t : TypeId} (h : w.heap[g]? = some (.cells #[v0, v1, v2, v3, v4] t)) : (((((w.setCell ⟨g, 0, none⟩ u0).setCell ⟨g, 1, none⟩ u1).setCell ⟨g, 2, none⟩ u2).setCell ⟨g, 3, none⟩ u3).setCell ⟨g, 4, none⟩ u4).heap[g]? = some (.cells #[u0, u1, u2, u3, u4] t) := by
  rw [heap_setCell _ _ _ _ _ _ _ (heap_setCell _ _ _ _ _ _ _ (heap_setCell _ _ _ _ _ _ _ (heap_setCell _ _ _ _ _ _ _ (heap_setCell _ _ _ _ _ _ _ h))))]
  simp
/-- What TakeCommit answers. -/
def commitSaid (B : Nat) (b : Bs) (e : Ending) (w' : World) : Prop :=
  match takenCommit b with
  | some c => ∃ v, e = .returned (.tuple #[.agg #[.string (strB c.1), v, .string (strB c.2.2.1), .int .i64 c.2.2.2.1, .string (strB c.2.2.2.2)], .int .i64 0]) ∧ w'.ownsRow B 9 1 v c.2.1.length (c.2.1.flatMap idC)
  | none => e = .returned (.tuple #[.agg #[.string ⟨#[]⟩, .slice none 0 0, .string ⟨#[]⟩, .int .i64 0, .string ⟨#[]⟩], .int .i64 81])
set_option maxRecDepth 20000 in
set_option maxHeartbeats 3200000 in
theorem takeCommit_any (w : World) (b : Bs) (hb : b.length ≤ 140737488355328) :
    Calls Tryz.prog 40 #[.string (strB b)] w fun e w' => commitSaid w.heap.size b e w' ∧ Below w.heap.size w w' := by
  have hbE : Below w.heap.size w ((w.alloc (.cells #[.string ⟨#[]⟩, .slice none 0 0, .string ⟨#[]⟩, .int .i64 0, .string ⟨#[]⟩] 64)).alloc (.cells #[.string ⟨#[]⟩, .slice none 0 0, .string ⟨#[]⟩, .int .i64 0, .string ⟨#[]⟩] 64)) := ((Below.refl _ _).alloc (Nat.le_refl _) _).alloc (by simp) _
  have hx0 : ((w.alloc (.cells #[.string ⟨#[]⟩, .slice none 0 0, .string ⟨#[]⟩, .int .i64 0, .string ⟨#[]⟩] 64)).alloc (.cells #[.string ⟨#[]⟩, .slice none 0 0, .string ⟨#[]⟩, .int .i64 0, .string ⟨#[]⟩] 64)).heap[w.heap.size]? = some (.cells #[.string ⟨#[]⟩, .slice none 0 0, .string ⟨#[]⟩, .int .i64 0, .string ⟨#[]⟩] 64) := (heap_past _ _ _ (by simp)).trans (heap_last w _ _ rfl)
  have hy0 : ((w.alloc (.cells #[.string ⟨#[]⟩, .slice none 0 0, .string ⟨#[]⟩, .int .i64 0, .string ⟨#[]⟩] 64)).alloc (.cells #[.string ⟨#[]⟩, .slice none 0 0, .string ⟨#[]⟩, .int .i64 0, .string ⟨#[]⟩] 64)).heap[w.heap.size + 1]? = some (.cells #[.string ⟨#[]⟩, .slice none 0 0, .string ⟨#[]⟩, .int .i64 0, .string ⟨#[]⟩] 64) := heap_last (w.alloc (.cells #[.string ⟨#[]⟩, .slice none 0 0, .string ⟨#[]⟩, .int .i64 0, .string ⟨#[]⟩] 64)) _ _ (by simp)
  have hn0 : ((w.alloc (.cells #[.string ⟨#[]⟩, .slice none 0 0, .string ⟨#[]⟩, .int .i64 0, .string ⟨#[]⟩] 64)).alloc (.cells #[.string ⟨#[]⟩, .slice none 0 0, .string ⟨#[]⟩, .int .i64 0, .string ⟨#[]⟩] 64)).heap.size = w.heap.size + 2 := by simp
  generalize hw0 : (w.alloc (.cells #[.string ⟨#[]⟩, .slice none 0 0, .string ⟨#[]⟩, .int .i64 0, .string ⟨#[]⟩] 64)).alloc (.cells #[.string ⟨#[]⟩, .slice none 0 0, .string ⟨#[]⟩, .int .i64 0, .string ⟨#[]⟩] 64) = w0 at *
  have hrd := read_any w0 b [75] hb (by simp)
  have hle := begin_le [75] b
  unfold commitSaid takenCommit taken
  generalize hx : begin [75] b = x at *
  obtain ⟨l, s⟩ := x
  simp only at *
  have hl : l.length ≤ 140737488355328 := by omega
  obtain ⟨tree, s1, ht1⟩ : ∃ t s1, rD l s = (t, s1) := ⟨_, _, rfl⟩
  obtain ⟨ps, s2, ht2⟩ : ∃ t s2, rL l 8 (rD l) s1 = (t, s2) := ⟨_, _, rfl⟩
  obtain ⟨who, s3, ht3⟩ : ∃ t s3, rT l l.length s2 = (t, s3) := ⟨_, _, rfl⟩
  obtain ⟨time, s4, ht4⟩ : ∃ t s4, rI l s3 = (t, s4) := ⟨_, _, rfl⟩
  obtain ⟨note, s5, ht5⟩ : ∃ t s5, rT l l.length s4 = (t, s5) := ⟨_, _, rfl⟩
  have hg : gCommit l s = ((tree, (ps, (who, (time, note)))), s5) := by
    unfold gCommit
    simp only [rP, ht1, ht2, ht3, ht4, ht5]
  rw [hg]
  simp only
  have H1 := hide ht1
  have H2 := hide ht2
  have H3 := hide ht3
  have H4 := hide ht4
  have H5 := hide ht5
  clear hx hg ht1 ht2 ht3 ht4 ht5
  by_cases h1 : s5 = some l.length
  · have hdec := decide_eq_true h1
    by_cases h2 : commitOk (tree, (ps, (who, (time, note)))) = true
    · rw [if_pos ⟨h1, h2⟩]
      simp only
      go_enter Tryz.func40, Tryz.ntmps40
      go_wp2_with fail
      try rw [hw0]
      refine hrd.mono ?_
      rintro e wB ⟨g, rfl, hR, hg1, hb1⟩
      have hxB := (hb1.block _ (by omega)).trans hx0
      have hyB := (hb1.block _ (by omega)).trans hy0
      have hBB := hbE.trans (hb1.mono hbE.size)
      have hszB := hBB.size
      clear hrd hb1
      have hT0 := takeId_any wB g l s hR hl
      unfold Took at hT0
      rw [H1.out] at hT0
      simp only at hT0
      go_wp2_with fail
      refine hT0.mono ?_
      rintro e v0 ⟨rfl, hRx0, hgb0⟩
      have hxa0 := (hgb0.block _ (lt_of_heap hxB) (fun e => by injection e with e; omega)).trans hxB
      have hya0 := (hgb0.block _ (lt_of_heap hyB) (fun e => by injection e with e; omega)).trans hyB
      have cy0 := cell_of_row v0 (w.heap.size + 1) 0 _ _ _ hya0
      simp only [List.getElem?_toArray, List.getElem?_cons_zero] at cy0
      have fy0 := frozen0 (j := 0) hya0
      have hR0 := hRx0.set (n := w.heap.size + 1) (i := 0) (u := .string (strB tree)) (.inr ⟨by omega, by omega⟩)
      have hy0' : (v0.setCell ⟨w.heap.size + 1, 0, none⟩ (.string (strB tree))).heap[w.heap.size + 1]? = some (.cells #[.string (strB tree), .slice none 0 0, .string ⟨#[]⟩, .int .i64 0, .string ⟨#[]⟩] 64) := by rw [heap_setCell _ _ _ _ _ _ _ hya0]; simp
      have hx0' := ((gb_set v0 (w.heap.size + 1) 0 (.string (strB tree))).block _ (lt_of_heap hxa0) (fun e => by injection e with e; omega)).trans hxa0
      have hB0' := (hBB.grown hgb0 hBB.size (fun k hk => by injection hk with hk; omega)).setCell (p := ⟨w.heap.size + 1, 0, none⟩) (by simp) (.string (strB tree))
      clear hT0 hRx0 hgb0 hxa0 hya0 hxB hyB hBB hR
      go_wp2_with fail
      generalize hwx0 : v0.setCell ⟨w.heap.size + 1, 0, none⟩ (.string (strB tree)) = w0' at *
      clear hwx0 cy0 fy0
      have hT1 := takeIds_any w0' g l s1 8 (by omega) hR0 hl
      rw [show ((8 : Nat) : Int) = 8 from rfl, H2.out] at hT1
      simp only at hT1
      go_wp2_with fail
      refine hT1.mono ?_
      rintro e v1 ⟨u, rfl, hown1, hRx1, hgb1⟩
      obtain ⟨ao, cap, rfl, -⟩ := own_form hown1
      have hxa1 := (hgb1.block _ (lt_of_heap hx0') (fun e => by injection e with e; omega)).trans hx0'
      have hya1 := (hgb1.block _ (lt_of_heap hy0') (fun e => by injection e with e; omega)).trans hy0'
      have cy1 := cell_of_row v1 (w.heap.size + 1) 1 _ _ _ hya1
      simp only [List.getElem?_toArray, List.getElem?_cons_zero, List.getElem?_cons_succ] at cy1
      have fy1 := frozen0 (j := 1) hya1
      have hR1 := hRx1.set (n := w.heap.size + 1) (i := 1) (u := .slice ao ps.length cap) (.inr ⟨by omega, by omega⟩)
      have hy1' : (v1.setCell ⟨w.heap.size + 1, 1, none⟩ (.slice ao ps.length cap)).heap[w.heap.size + 1]? = some (.cells #[.string (strB tree), .slice ao ps.length cap, .string ⟨#[]⟩, .int .i64 0, .string ⟨#[]⟩] 64) := by rw [heap_setCell _ _ _ _ _ _ _ hya1]; simp
      have hx1' := ((gb_set v1 (w.heap.size + 1) 1 (.slice ao ps.length cap)).block _ (lt_of_heap hxa1) (fun e => by injection e with e; omega)).trans hxa1
      have hB1' := (hB0'.grown hgb1 hB0'.size (fun k hk => by injection hk with hk; omega)).setCell (p := ⟨w.heap.size + 1, 1, none⟩) (by simp) (.slice ao ps.length cap)
      have hO1 : (v1.setCell ⟨w.heap.size + 1, 1, none⟩ (.slice ao ps.length cap)).ownsRow w.heap.size 9 1 (.slice ao ps.length cap) ps.length (ps.flatMap idC) := World.ownsRow.mono (ownsRow_setCell_other hown1 (ne_own' hown1 hya1 (by decide)) _) hB0'.size
      clear hown1
      clear hT1 hRx1 hgb1 hxa1 hya1 hx0' hy0' hB0' hR0
      go_wp2_with fail
      generalize hwx1 : v1.setCell ⟨w.heap.size + 1, 1, none⟩ (.slice ao ps.length cap) = w1' at *
      clear hwx1 cy1 fy1
      have hT2 := takeText_any w1' g l s2 hR1 hl
      unfold Took at hT2
      rw [H3.out] at hT2
      simp only at hT2
      go_wp2_with fail
      refine hT2.mono ?_
      rintro e v2 ⟨rfl, hRx2, hgb2⟩
      have hxa2 := (hgb2.block _ (lt_of_heap hx1') (fun e => by injection e with e; omega)).trans hx1'
      have hya2 := (hgb2.block _ (lt_of_heap hy1') (fun e => by injection e with e; omega)).trans hy1'
      have cy2 := cell_of_row v2 (w.heap.size + 1) 2 _ _ _ hya2
      simp only [List.getElem?_toArray, List.getElem?_cons_zero, List.getElem?_cons_succ] at cy2
      have fy2 := frozen0 (j := 2) hya2
      have hR2 := hRx2.set (n := w.heap.size + 1) (i := 2) (u := .string (strB who)) (.inr ⟨by omega, by omega⟩)
      have hy2' : (v2.setCell ⟨w.heap.size + 1, 2, none⟩ (.string (strB who))).heap[w.heap.size + 1]? = some (.cells #[.string (strB tree), .slice ao ps.length cap, .string (strB who), .int .i64 0, .string ⟨#[]⟩] 64) := by rw [heap_setCell _ _ _ _ _ _ _ hya2]; simp
      have hx2' := ((gb_set v2 (w.heap.size + 1) 2 (.string (strB who))).block _ (lt_of_heap hxa2) (fun e => by injection e with e; omega)).trans hxa2
      have hB2' := (hB1'.grown hgb2 hB1'.size (fun k hk => by injection hk with hk; omega)).setCell (p := ⟨w.heap.size + 1, 2, none⟩) (by simp) (.string (strB who))
      have hOm2 := (hO1.kept hgb2 (.inr (by obtain ⟨csg, hcsg⟩ := hR1.heap; exact ne_own' hO1 hcsg (by decide))))
      have hO2 : (v2.setCell ⟨w.heap.size + 1, 2, none⟩ (.string (strB who))).ownsRow w.heap.size 9 1 (.slice ao ps.length cap) ps.length (ps.flatMap idC) := ownsRow_setCell_other hOm2 (ne_own' hOm2 hya2 (by decide)) _
      clear hOm2 hO1
      clear hT2 hRx2 hgb2 hxa2 hya2 hx1' hy1' hB1' hR1
      go_wp2_with fail
      generalize hwx2 : v2.setCell ⟨w.heap.size + 1, 2, none⟩ (.string (strB who)) = w2' at *
      clear hwx2 cy2 fy2
      have hT3 := takeNumber_any w2' g l s3 hR2 hl
      unfold Took at hT3
      rw [H4.out] at hT3
      simp only at hT3
      go_wp2_with fail
      refine hT3.mono ?_
      rintro e v3 ⟨rfl, hRx3, hgb3⟩
      have hxa3 := (hgb3.block _ (lt_of_heap hx2') (fun e => by injection e with e; omega)).trans hx2'
      have hya3 := (hgb3.block _ (lt_of_heap hy2') (fun e => by injection e with e; omega)).trans hy2'
      have cy3 := cell_of_row v3 (w.heap.size + 1) 3 _ _ _ hya3
      simp only [List.getElem?_toArray, List.getElem?_cons_zero, List.getElem?_cons_succ] at cy3
      have fy3 := frozen0 (j := 3) hya3
      have hR3 := hRx3.set (n := w.heap.size + 1) (i := 3) (u := .int .i64 time) (.inr ⟨by omega, by omega⟩)
      have hy3' : (v3.setCell ⟨w.heap.size + 1, 3, none⟩ (.int .i64 time)).heap[w.heap.size + 1]? = some (.cells #[.string (strB tree), .slice ao ps.length cap, .string (strB who), .int .i64 time, .string ⟨#[]⟩] 64) := by rw [heap_setCell _ _ _ _ _ _ _ hya3]; simp
      have hx3' := ((gb_set v3 (w.heap.size + 1) 3 (.int .i64 time)).block _ (lt_of_heap hxa3) (fun e => by injection e with e; omega)).trans hxa3
      have hB3' := (hB2'.grown hgb3 hB2'.size (fun k hk => by injection hk with hk; omega)).setCell (p := ⟨w.heap.size + 1, 3, none⟩) (by simp) (.int .i64 time)
      have hOm3 := (hO2.kept hgb3 (.inr (by obtain ⟨csg, hcsg⟩ := hR2.heap; exact ne_own' hO2 hcsg (by decide))))
      have hO3 : (v3.setCell ⟨w.heap.size + 1, 3, none⟩ (.int .i64 time)).ownsRow w.heap.size 9 1 (.slice ao ps.length cap) ps.length (ps.flatMap idC) := ownsRow_setCell_other hOm3 (ne_own' hOm3 hya3 (by decide)) _
      clear hOm3 hO2
      clear hT3 hRx3 hgb3 hxa3 hya3 hx2' hy2' hB2' hR2
      go_wp2_with fail
      generalize hwx3 : v3.setCell ⟨w.heap.size + 1, 3, none⟩ (.int .i64 time) = w3' at *
      clear hwx3 cy3 fy3
      have hT4 := takeText_any w3' g l s4 hR3 hl
      unfold Took at hT4
      rw [H5.out] at hT4
      simp only at hT4
      go_wp2_with fail
      refine hT4.mono ?_
      rintro e v4 ⟨rfl, hRx4, hgb4⟩
      have hxa4 := (hgb4.block _ (lt_of_heap hx3') (fun e => by injection e with e; omega)).trans hx3'
      have hya4 := (hgb4.block _ (lt_of_heap hy3') (fun e => by injection e with e; omega)).trans hy3'
      have cy4 := cell_of_row v4 (w.heap.size + 1) 4 _ _ _ hya4
      simp only [List.getElem?_toArray, List.getElem?_cons_zero, List.getElem?_cons_succ] at cy4
      have fy4 := frozen0 (j := 4) hya4
      have hR4 := hRx4.set (n := w.heap.size + 1) (i := 4) (u := .string (strB note)) (.inr ⟨by omega, by omega⟩)
      have hy4' : (v4.setCell ⟨w.heap.size + 1, 4, none⟩ (.string (strB note))).heap[w.heap.size + 1]? = some (.cells #[.string (strB tree), .slice ao ps.length cap, .string (strB who), .int .i64 time, .string (strB note)] 64) := by rw [heap_setCell _ _ _ _ _ _ _ hya4]; simp
      have hx4' := ((gb_set v4 (w.heap.size + 1) 4 (.string (strB note))).block _ (lt_of_heap hxa4) (fun e => by injection e with e; omega)).trans hxa4
      have hB4' := (hB3'.grown hgb4 hB3'.size (fun k hk => by injection hk with hk; omega)).setCell (p := ⟨w.heap.size + 1, 4, none⟩) (by simp) (.string (strB note))
      have hOm4 := (hO3.kept hgb4 (.inr (by obtain ⟨csg, hcsg⟩ := hR3.heap; exact ne_own' hO3 hcsg (by decide))))
      have hO4 : (v4.setCell ⟨w.heap.size + 1, 4, none⟩ (.string (strB note))).ownsRow w.heap.size 9 1 (.slice ao ps.length cap) ps.length (ps.flatMap idC) := ownsRow_setCell_other hOm4 (ne_own' hOm4 hya4 (by decide)) _
      clear hOm4 hO3
      clear hT4 hRx4 hgb4 hxa4 hya4 hx3' hy3' hB3' hR3
      go_wp2_with fail
      generalize hwx4 : v4.setCell ⟨w.heap.size + 1, 4, none⟩ (.string (strB note)) = w4' at *
      clear hwx4 cy4 fy4
      have hW := wasAll_any w4' g l s5 hR4
      rw [hdec] at hW
      refine hW.mono ?_
      rintro e w6 ⟨rfl, hb6⟩
      have hx6 := (hb6.block _ (lt_of_heap hx4')).trans hx4'
      have hy6 := (hb6.block _ (lt_of_heap hy4')).trans hy4'
      have hb6' := hB4'.trans (hb6.mono hB4'.size)
      have hown6 := own_below hO4 hb6
      have cz0 := cell_of_row w6 (w.heap.size + 1) 0 _ _ _ hy6
      have cz1 := cell_of_row w6 (w.heap.size + 1) 1 _ _ _ hy6
      have cz2 := cell_of_row w6 (w.heap.size + 1) 2 _ _ _ hy6
      have cz3 := cell_of_row w6 (w.heap.size + 1) 3 _ _ _ hy6
      have cz4 := cell_of_row w6 (w.heap.size + 1) 4 _ _ _ hy6
      simp only [List.getElem?_toArray, List.getElem?_cons_zero, List.getElem?_cons_succ] at cz0 cz1 cz2 cz3 cz4
      clear hW hb6 hO4
      have hlr := commitRight_any w6 (tree, (ps, (who, (time, note)))) _ (ls_of_own idC_length hown6)
      rw [h2] at hlr
      simp only at hlr
      have hs6 := hb6'.size
      go_wp2_with fail
      refine hlr.mono ?_
      rintro e w7 ⟨rfl, hb7⟩
      have hx7 := (hb7.block _ (lt_of_heap hx6)).trans hx6
      have hy7 := (hb7.block _ (lt_of_heap hy6)).trans hy6
      have hb7' := hb6'.trans (hb7.mono hs6)
      have hown7 := own_below hown6 hb7
      have cd0 := cell_of_row w7 (w.heap.size + 1) 0 _ _ _ hy7
      have cd1 := cell_of_row w7 (w.heap.size + 1) 1 _ _ _ hy7
      have cd2 := cell_of_row w7 (w.heap.size + 1) 2 _ _ _ hy7
      have cd3 := cell_of_row w7 (w.heap.size + 1) 3 _ _ _ hy7
      have cd4 := cell_of_row w7 (w.heap.size + 1) 4 _ _ _ hy7
      simp only [List.getElem?_toArray, List.getElem?_cons_zero, List.getElem?_cons_succ] at cd0 cd1 cd2 cd3 cd4
      have HO7 := hide hown7
      clear hlr hb7 hown7 hown6
      have ce0 := cell_of_row w7 w.heap.size 0 _ _ _ hx7
      have fe0 := frozen0 (j := 0) hx7
      have ce1 := cell_of_row w7 w.heap.size 1 _ _ _ hx7
      have fe1 := frozen0 (j := 1) hx7
      have ce2 := cell_of_row w7 w.heap.size 2 _ _ _ hx7
      have fe2 := frozen0 (j := 2) hx7
      have ce3 := cell_of_row w7 w.heap.size 3 _ _ _ hx7
      have fe3 := frozen0 (j := 3) hx7
      have ce4 := cell_of_row w7 w.heap.size 4 _ _ _ hx7
      have fe4 := frozen0 (j := 4) hx7
      simp only [List.getElem?_toArray, List.getElem?_cons_zero, List.getElem?_cons_succ] at ce0 ce1 ce2 ce3 ce4
      go_wp2
      refine bodyPost_ret (results_cell_tmp_row rfl _ _ _ _ _ _ _ rfl (heap_set5 hx7) Tryz.underlying64 rfl Tryz.infoCommit) rfl ⟨⟨_, rfl, ?_⟩, (((((hb7'.setCell (p := ⟨w.heap.size, 0, none⟩) (by simp) _).setCell (p := ⟨w.heap.size, 1, none⟩) (by simp) _).setCell (p := ⟨w.heap.size, 2, none⟩) (by simp) _).setCell (p := ⟨w.heap.size, 3, none⟩) (by simp) _).setCell (p := ⟨w.heap.size, 4, none⟩) (by simp) _)⟩
      have hs : ∀ (W : World) (cs : Array Value) (i : Nat) (x : Value), W.heap[w.heap.size]? = some (.cells cs 64) → W.ownsRow w.heap.size 9 1 (.slice ao ps.length cap) ps.length (ps.flatMap idC) → (W.setCell ⟨w.heap.size, i, none⟩ x).ownsRow w.heap.size 9 1 (.slice ao ps.length cap) ps.length (ps.flatMap idC) ∧ ∃ cs', (W.setCell ⟨w.heap.size, i, none⟩ x).heap[w.heap.size]? = some (.cells cs' 64) := fun W cs i x h1 h2 => ⟨ownsRow_setCell_other h2 (ne_own' h2 h1 (by decide)) _, _, heap_setCell _ _ _ _ _ _ _ h1⟩
      obtain ⟨o1, q1, z1⟩ := hs _ _ 0 (.string (strB tree)) hx7 HO7.out
      obtain ⟨o2, q2, z2⟩ := hs _ _ 1 (.slice ao ps.length cap) z1 o1
      obtain ⟨o3, q3, z3⟩ := hs _ _ 2 (.string (strB who)) z2 o2
      obtain ⟨o4, q4, z4⟩ := hs _ _ 3 (.int .i64 time) z3 o3
      exact (hs _ _ 4 (.string (strB note)) z4 o4).1
    · have h2 := Bool.eq_false_iff.2 h2
      rw [if_neg (by rw [h2]; simp)]
      simp only
      go_enter Tryz.func40, Tryz.ntmps40
      go_wp2_with fail
      try rw [hw0]
      refine hrd.mono ?_
      rintro e wB ⟨g, rfl, hR, hg1, hb1⟩
      have hxB := (hb1.block _ (by omega)).trans hx0
      have hyB := (hb1.block _ (by omega)).trans hy0
      have hBB := hbE.trans (hb1.mono hbE.size)
      have hszB := hBB.size
      clear hrd hb1
      have hT0 := takeId_any wB g l s hR hl
      unfold Took at hT0
      rw [H1.out] at hT0
      simp only at hT0
      go_wp2_with fail
      refine hT0.mono ?_
      rintro e v0 ⟨rfl, hRx0, hgb0⟩
      have hxa0 := (hgb0.block _ (lt_of_heap hxB) (fun e => by injection e with e; omega)).trans hxB
      have hya0 := (hgb0.block _ (lt_of_heap hyB) (fun e => by injection e with e; omega)).trans hyB
      have cy0 := cell_of_row v0 (w.heap.size + 1) 0 _ _ _ hya0
      simp only [List.getElem?_toArray, List.getElem?_cons_zero] at cy0
      have fy0 := frozen0 (j := 0) hya0
      have hR0 := hRx0.set (n := w.heap.size + 1) (i := 0) (u := .string (strB tree)) (.inr ⟨by omega, by omega⟩)
      have hy0' : (v0.setCell ⟨w.heap.size + 1, 0, none⟩ (.string (strB tree))).heap[w.heap.size + 1]? = some (.cells #[.string (strB tree), .slice none 0 0, .string ⟨#[]⟩, .int .i64 0, .string ⟨#[]⟩] 64) := by rw [heap_setCell _ _ _ _ _ _ _ hya0]; simp
      have hx0' := ((gb_set v0 (w.heap.size + 1) 0 (.string (strB tree))).block _ (lt_of_heap hxa0) (fun e => by injection e with e; omega)).trans hxa0
      have hB0' := (hBB.grown hgb0 hBB.size (fun k hk => by injection hk with hk; omega)).setCell (p := ⟨w.heap.size + 1, 0, none⟩) (by simp) (.string (strB tree))
      clear hT0 hRx0 hgb0 hxa0 hya0 hxB hyB hBB hR
      go_wp2_with fail
      generalize hwx0 : v0.setCell ⟨w.heap.size + 1, 0, none⟩ (.string (strB tree)) = w0' at *
      clear hwx0 cy0 fy0
      have hT1 := takeIds_any w0' g l s1 8 (by omega) hR0 hl
      rw [show ((8 : Nat) : Int) = 8 from rfl, H2.out] at hT1
      simp only at hT1
      go_wp2_with fail
      refine hT1.mono ?_
      rintro e v1 ⟨u, rfl, hown1, hRx1, hgb1⟩
      obtain ⟨ao, cap, rfl, -⟩ := own_form hown1
      have hxa1 := (hgb1.block _ (lt_of_heap hx0') (fun e => by injection e with e; omega)).trans hx0'
      have hya1 := (hgb1.block _ (lt_of_heap hy0') (fun e => by injection e with e; omega)).trans hy0'
      have cy1 := cell_of_row v1 (w.heap.size + 1) 1 _ _ _ hya1
      simp only [List.getElem?_toArray, List.getElem?_cons_zero, List.getElem?_cons_succ] at cy1
      have fy1 := frozen0 (j := 1) hya1
      have hR1 := hRx1.set (n := w.heap.size + 1) (i := 1) (u := .slice ao ps.length cap) (.inr ⟨by omega, by omega⟩)
      have hy1' : (v1.setCell ⟨w.heap.size + 1, 1, none⟩ (.slice ao ps.length cap)).heap[w.heap.size + 1]? = some (.cells #[.string (strB tree), .slice ao ps.length cap, .string ⟨#[]⟩, .int .i64 0, .string ⟨#[]⟩] 64) := by rw [heap_setCell _ _ _ _ _ _ _ hya1]; simp
      have hx1' := ((gb_set v1 (w.heap.size + 1) 1 (.slice ao ps.length cap)).block _ (lt_of_heap hxa1) (fun e => by injection e with e; omega)).trans hxa1
      have hB1' := (hB0'.grown hgb1 hB0'.size (fun k hk => by injection hk with hk; omega)).setCell (p := ⟨w.heap.size + 1, 1, none⟩) (by simp) (.slice ao ps.length cap)
      have hO1 : (v1.setCell ⟨w.heap.size + 1, 1, none⟩ (.slice ao ps.length cap)).ownsRow w.heap.size 9 1 (.slice ao ps.length cap) ps.length (ps.flatMap idC) := World.ownsRow.mono (ownsRow_setCell_other hown1 (ne_own' hown1 hya1 (by decide)) _) hB0'.size
      clear hown1
      clear hT1 hRx1 hgb1 hxa1 hya1 hx0' hy0' hB0' hR0
      go_wp2_with fail
      generalize hwx1 : v1.setCell ⟨w.heap.size + 1, 1, none⟩ (.slice ao ps.length cap) = w1' at *
      clear hwx1 cy1 fy1
      have hT2 := takeText_any w1' g l s2 hR1 hl
      unfold Took at hT2
      rw [H3.out] at hT2
      simp only at hT2
      go_wp2_with fail
      refine hT2.mono ?_
      rintro e v2 ⟨rfl, hRx2, hgb2⟩
      have hxa2 := (hgb2.block _ (lt_of_heap hx1') (fun e => by injection e with e; omega)).trans hx1'
      have hya2 := (hgb2.block _ (lt_of_heap hy1') (fun e => by injection e with e; omega)).trans hy1'
      have cy2 := cell_of_row v2 (w.heap.size + 1) 2 _ _ _ hya2
      simp only [List.getElem?_toArray, List.getElem?_cons_zero, List.getElem?_cons_succ] at cy2
      have fy2 := frozen0 (j := 2) hya2
      have hR2 := hRx2.set (n := w.heap.size + 1) (i := 2) (u := .string (strB who)) (.inr ⟨by omega, by omega⟩)
      have hy2' : (v2.setCell ⟨w.heap.size + 1, 2, none⟩ (.string (strB who))).heap[w.heap.size + 1]? = some (.cells #[.string (strB tree), .slice ao ps.length cap, .string (strB who), .int .i64 0, .string ⟨#[]⟩] 64) := by rw [heap_setCell _ _ _ _ _ _ _ hya2]; simp
      have hx2' := ((gb_set v2 (w.heap.size + 1) 2 (.string (strB who))).block _ (lt_of_heap hxa2) (fun e => by injection e with e; omega)).trans hxa2
      have hB2' := (hB1'.grown hgb2 hB1'.size (fun k hk => by injection hk with hk; omega)).setCell (p := ⟨w.heap.size + 1, 2, none⟩) (by simp) (.string (strB who))
      have hOm2 := (hO1.kept hgb2 (.inr (by obtain ⟨csg, hcsg⟩ := hR1.heap; exact ne_own' hO1 hcsg (by decide))))
      have hO2 : (v2.setCell ⟨w.heap.size + 1, 2, none⟩ (.string (strB who))).ownsRow w.heap.size 9 1 (.slice ao ps.length cap) ps.length (ps.flatMap idC) := ownsRow_setCell_other hOm2 (ne_own' hOm2 hya2 (by decide)) _
      clear hOm2 hO1
      clear hT2 hRx2 hgb2 hxa2 hya2 hx1' hy1' hB1' hR1
      go_wp2_with fail
      generalize hwx2 : v2.setCell ⟨w.heap.size + 1, 2, none⟩ (.string (strB who)) = w2' at *
      clear hwx2 cy2 fy2
      have hT3 := takeNumber_any w2' g l s3 hR2 hl
      unfold Took at hT3
      rw [H4.out] at hT3
      simp only at hT3
      go_wp2_with fail
      refine hT3.mono ?_
      rintro e v3 ⟨rfl, hRx3, hgb3⟩
      have hxa3 := (hgb3.block _ (lt_of_heap hx2') (fun e => by injection e with e; omega)).trans hx2'
      have hya3 := (hgb3.block _ (lt_of_heap hy2') (fun e => by injection e with e; omega)).trans hy2'
      have cy3 := cell_of_row v3 (w.heap.size + 1) 3 _ _ _ hya3
      simp only [List.getElem?_toArray, List.getElem?_cons_zero, List.getElem?_cons_succ] at cy3
      have fy3 := frozen0 (j := 3) hya3
      have hR3 := hRx3.set (n := w.heap.size + 1) (i := 3) (u := .int .i64 time) (.inr ⟨by omega, by omega⟩)
      have hy3' : (v3.setCell ⟨w.heap.size + 1, 3, none⟩ (.int .i64 time)).heap[w.heap.size + 1]? = some (.cells #[.string (strB tree), .slice ao ps.length cap, .string (strB who), .int .i64 time, .string ⟨#[]⟩] 64) := by rw [heap_setCell _ _ _ _ _ _ _ hya3]; simp
      have hx3' := ((gb_set v3 (w.heap.size + 1) 3 (.int .i64 time)).block _ (lt_of_heap hxa3) (fun e => by injection e with e; omega)).trans hxa3
      have hB3' := (hB2'.grown hgb3 hB2'.size (fun k hk => by injection hk with hk; omega)).setCell (p := ⟨w.heap.size + 1, 3, none⟩) (by simp) (.int .i64 time)
      have hOm3 := (hO2.kept hgb3 (.inr (by obtain ⟨csg, hcsg⟩ := hR2.heap; exact ne_own' hO2 hcsg (by decide))))
      have hO3 : (v3.setCell ⟨w.heap.size + 1, 3, none⟩ (.int .i64 time)).ownsRow w.heap.size 9 1 (.slice ao ps.length cap) ps.length (ps.flatMap idC) := ownsRow_setCell_other hOm3 (ne_own' hOm3 hya3 (by decide)) _
      clear hOm3 hO2
      clear hT3 hRx3 hgb3 hxa3 hya3 hx2' hy2' hB2' hR2
      go_wp2_with fail
      generalize hwx3 : v3.setCell ⟨w.heap.size + 1, 3, none⟩ (.int .i64 time) = w3' at *
      clear hwx3 cy3 fy3
      have hT4 := takeText_any w3' g l s4 hR3 hl
      unfold Took at hT4
      rw [H5.out] at hT4
      simp only at hT4
      go_wp2_with fail
      refine hT4.mono ?_
      rintro e v4 ⟨rfl, hRx4, hgb4⟩
      have hxa4 := (hgb4.block _ (lt_of_heap hx3') (fun e => by injection e with e; omega)).trans hx3'
      have hya4 := (hgb4.block _ (lt_of_heap hy3') (fun e => by injection e with e; omega)).trans hy3'
      have cy4 := cell_of_row v4 (w.heap.size + 1) 4 _ _ _ hya4
      simp only [List.getElem?_toArray, List.getElem?_cons_zero, List.getElem?_cons_succ] at cy4
      have fy4 := frozen0 (j := 4) hya4
      have hR4 := hRx4.set (n := w.heap.size + 1) (i := 4) (u := .string (strB note)) (.inr ⟨by omega, by omega⟩)
      have hy4' : (v4.setCell ⟨w.heap.size + 1, 4, none⟩ (.string (strB note))).heap[w.heap.size + 1]? = some (.cells #[.string (strB tree), .slice ao ps.length cap, .string (strB who), .int .i64 time, .string (strB note)] 64) := by rw [heap_setCell _ _ _ _ _ _ _ hya4]; simp
      have hx4' := ((gb_set v4 (w.heap.size + 1) 4 (.string (strB note))).block _ (lt_of_heap hxa4) (fun e => by injection e with e; omega)).trans hxa4
      have hB4' := (hB3'.grown hgb4 hB3'.size (fun k hk => by injection hk with hk; omega)).setCell (p := ⟨w.heap.size + 1, 4, none⟩) (by simp) (.string (strB note))
      have hOm4 := (hO3.kept hgb4 (.inr (by obtain ⟨csg, hcsg⟩ := hR3.heap; exact ne_own' hO3 hcsg (by decide))))
      have hO4 : (v4.setCell ⟨w.heap.size + 1, 4, none⟩ (.string (strB note))).ownsRow w.heap.size 9 1 (.slice ao ps.length cap) ps.length (ps.flatMap idC) := ownsRow_setCell_other hOm4 (ne_own' hOm4 hya4 (by decide)) _
      clear hOm4 hO3
      clear hT4 hRx4 hgb4 hxa4 hya4 hx3' hy3' hB3' hR3
      go_wp2_with fail
      generalize hwx4 : v4.setCell ⟨w.heap.size + 1, 4, none⟩ (.string (strB note)) = w4' at *
      clear hwx4 cy4 fy4
      have hW := wasAll_any w4' g l s5 hR4
      rw [hdec] at hW
      refine hW.mono ?_
      rintro e w6 ⟨rfl, hb6⟩
      have hx6 := (hb6.block _ (lt_of_heap hx4')).trans hx4'
      have hy6 := (hb6.block _ (lt_of_heap hy4')).trans hy4'
      have hb6' := hB4'.trans (hb6.mono hB4'.size)
      have hown6 := own_below hO4 hb6
      have cz0 := cell_of_row w6 (w.heap.size + 1) 0 _ _ _ hy6
      have cz1 := cell_of_row w6 (w.heap.size + 1) 1 _ _ _ hy6
      have cz2 := cell_of_row w6 (w.heap.size + 1) 2 _ _ _ hy6
      have cz3 := cell_of_row w6 (w.heap.size + 1) 3 _ _ _ hy6
      have cz4 := cell_of_row w6 (w.heap.size + 1) 4 _ _ _ hy6
      simp only [List.getElem?_toArray, List.getElem?_cons_zero, List.getElem?_cons_succ] at cz0 cz1 cz2 cz3 cz4
      clear hW hb6 hO4
      have hlr := commitRight_any w6 (tree, (ps, (who, (time, note)))) _ (ls_of_own idC_length hown6)
      rw [h2] at hlr
      simp only at hlr
      have hs6 := hb6'.size
      go_wp2_with fail
      refine hlr.mono ?_
      rintro e w7 ⟨rfl, hb7⟩
      have hx7 := (hb7.block _ (lt_of_heap hx6)).trans hx6
      have hy7 := (hb7.block _ (lt_of_heap hy6)).trans hy6
      have hb7' := hb6'.trans (hb7.mono hs6)
      have hown7 := own_below hown6 hb7
      have cd0 := cell_of_row w7 (w.heap.size + 1) 0 _ _ _ hy7
      have cd1 := cell_of_row w7 (w.heap.size + 1) 1 _ _ _ hy7
      have cd2 := cell_of_row w7 (w.heap.size + 1) 2 _ _ _ hy7
      have cd3 := cell_of_row w7 (w.heap.size + 1) 3 _ _ _ hy7
      have cd4 := cell_of_row w7 (w.heap.size + 1) 4 _ _ _ hy7
      simp only [List.getElem?_toArray, List.getElem?_cons_zero, List.getElem?_cons_succ] at cd0 cd1 cd2 cd3 cd4
      have HO7 := hide hown7
      clear hlr hb7 hown7 hown6
      have ce0 := cell_of_row w7 w.heap.size 0 _ _ _ hx7
      have fe0 := frozen0 (j := 0) hx7
      have ce1 := cell_of_row w7 w.heap.size 1 _ _ _ hx7
      have fe1 := frozen0 (j := 1) hx7
      have ce2 := cell_of_row w7 w.heap.size 2 _ _ _ hx7
      have fe2 := frozen0 (j := 2) hx7
      have ce3 := cell_of_row w7 w.heap.size 3 _ _ _ hx7
      have fe3 := frozen0 (j := 3) hx7
      have ce4 := cell_of_row w7 w.heap.size 4 _ _ _ hx7
      have fe4 := frozen0 (j := 4) hx7
      simp only [List.getElem?_toArray, List.getElem?_cons_zero, List.getElem?_cons_succ] at ce0 ce1 ce2 ce3 ce4
      go_wp2
      refine bodyPost_ret (results_cell_tmp_row rfl _ _ _ _ _ _ _ rfl (heap_set5 hx7) Tryz.underlying64 rfl Tryz.infoCommit) rfl ⟨rfl, (((((hb7'.setCell (p := ⟨w.heap.size, 0, none⟩) (by simp) _).setCell (p := ⟨w.heap.size, 1, none⟩) (by simp) _).setCell (p := ⟨w.heap.size, 2, none⟩) (by simp) _).setCell (p := ⟨w.heap.size, 3, none⟩) (by simp) _).setCell (p := ⟨w.heap.size, 4, none⟩) (by simp) _)⟩
  · have hdec := decide_eq_false h1
    rw [if_neg (fun h => h1 h.1)]
    simp only
    go_enter Tryz.func40, Tryz.ntmps40
    go_wp2_with fail
    try rw [hw0]
    refine hrd.mono ?_
    rintro e wB ⟨g, rfl, hR, hg1, hb1⟩
    have hxB := (hb1.block _ (by omega)).trans hx0
    have hyB := (hb1.block _ (by omega)).trans hy0
    have hBB := hbE.trans (hb1.mono hbE.size)
    have hszB := hBB.size
    clear hrd hb1
    have hT0 := takeId_any wB g l s hR hl
    unfold Took at hT0
    rw [H1.out] at hT0
    simp only at hT0
    go_wp2_with fail
    refine hT0.mono ?_
    rintro e v0 ⟨rfl, hRx0, hgb0⟩
    have hxa0 := (hgb0.block _ (lt_of_heap hxB) (fun e => by injection e with e; omega)).trans hxB
    have hya0 := (hgb0.block _ (lt_of_heap hyB) (fun e => by injection e with e; omega)).trans hyB
    have cy0 := cell_of_row v0 (w.heap.size + 1) 0 _ _ _ hya0
    simp only [List.getElem?_toArray, List.getElem?_cons_zero] at cy0
    have fy0 := frozen0 (j := 0) hya0
    have hR0 := hRx0.set (n := w.heap.size + 1) (i := 0) (u := .string (strB tree)) (.inr ⟨by omega, by omega⟩)
    have hy0' : (v0.setCell ⟨w.heap.size + 1, 0, none⟩ (.string (strB tree))).heap[w.heap.size + 1]? = some (.cells #[.string (strB tree), .slice none 0 0, .string ⟨#[]⟩, .int .i64 0, .string ⟨#[]⟩] 64) := by rw [heap_setCell _ _ _ _ _ _ _ hya0]; simp
    have hx0' := ((gb_set v0 (w.heap.size + 1) 0 (.string (strB tree))).block _ (lt_of_heap hxa0) (fun e => by injection e with e; omega)).trans hxa0
    have hB0' := (hBB.grown hgb0 hBB.size (fun k hk => by injection hk with hk; omega)).setCell (p := ⟨w.heap.size + 1, 0, none⟩) (by simp) (.string (strB tree))
    clear hT0 hRx0 hgb0 hxa0 hya0 hxB hyB hBB hR
    go_wp2_with fail
    generalize hwx0 : v0.setCell ⟨w.heap.size + 1, 0, none⟩ (.string (strB tree)) = w0' at *
    clear hwx0 cy0 fy0
    have hT1 := takeIds_any w0' g l s1 8 (by omega) hR0 hl
    rw [show ((8 : Nat) : Int) = 8 from rfl, H2.out] at hT1
    simp only at hT1
    go_wp2_with fail
    refine hT1.mono ?_
    rintro e v1 ⟨u, rfl, hown1, hRx1, hgb1⟩
    obtain ⟨ao, cap, rfl, -⟩ := own_form hown1
    have hxa1 := (hgb1.block _ (lt_of_heap hx0') (fun e => by injection e with e; omega)).trans hx0'
    have hya1 := (hgb1.block _ (lt_of_heap hy0') (fun e => by injection e with e; omega)).trans hy0'
    have cy1 := cell_of_row v1 (w.heap.size + 1) 1 _ _ _ hya1
    simp only [List.getElem?_toArray, List.getElem?_cons_zero, List.getElem?_cons_succ] at cy1
    have fy1 := frozen0 (j := 1) hya1
    have hR1 := hRx1.set (n := w.heap.size + 1) (i := 1) (u := .slice ao ps.length cap) (.inr ⟨by omega, by omega⟩)
    have hy1' : (v1.setCell ⟨w.heap.size + 1, 1, none⟩ (.slice ao ps.length cap)).heap[w.heap.size + 1]? = some (.cells #[.string (strB tree), .slice ao ps.length cap, .string ⟨#[]⟩, .int .i64 0, .string ⟨#[]⟩] 64) := by rw [heap_setCell _ _ _ _ _ _ _ hya1]; simp
    have hx1' := ((gb_set v1 (w.heap.size + 1) 1 (.slice ao ps.length cap)).block _ (lt_of_heap hxa1) (fun e => by injection e with e; omega)).trans hxa1
    have hB1' := (hB0'.grown hgb1 hB0'.size (fun k hk => by injection hk with hk; omega)).setCell (p := ⟨w.heap.size + 1, 1, none⟩) (by simp) (.slice ao ps.length cap)
    have hO1 : (v1.setCell ⟨w.heap.size + 1, 1, none⟩ (.slice ao ps.length cap)).ownsRow w.heap.size 9 1 (.slice ao ps.length cap) ps.length (ps.flatMap idC) := World.ownsRow.mono (ownsRow_setCell_other hown1 (ne_own' hown1 hya1 (by decide)) _) hB0'.size
    clear hown1
    clear hT1 hRx1 hgb1 hxa1 hya1 hx0' hy0' hB0' hR0
    go_wp2_with fail
    generalize hwx1 : v1.setCell ⟨w.heap.size + 1, 1, none⟩ (.slice ao ps.length cap) = w1' at *
    clear hwx1 cy1 fy1
    have hT2 := takeText_any w1' g l s2 hR1 hl
    unfold Took at hT2
    rw [H3.out] at hT2
    simp only at hT2
    go_wp2_with fail
    refine hT2.mono ?_
    rintro e v2 ⟨rfl, hRx2, hgb2⟩
    have hxa2 := (hgb2.block _ (lt_of_heap hx1') (fun e => by injection e with e; omega)).trans hx1'
    have hya2 := (hgb2.block _ (lt_of_heap hy1') (fun e => by injection e with e; omega)).trans hy1'
    have cy2 := cell_of_row v2 (w.heap.size + 1) 2 _ _ _ hya2
    simp only [List.getElem?_toArray, List.getElem?_cons_zero, List.getElem?_cons_succ] at cy2
    have fy2 := frozen0 (j := 2) hya2
    have hR2 := hRx2.set (n := w.heap.size + 1) (i := 2) (u := .string (strB who)) (.inr ⟨by omega, by omega⟩)
    have hy2' : (v2.setCell ⟨w.heap.size + 1, 2, none⟩ (.string (strB who))).heap[w.heap.size + 1]? = some (.cells #[.string (strB tree), .slice ao ps.length cap, .string (strB who), .int .i64 0, .string ⟨#[]⟩] 64) := by rw [heap_setCell _ _ _ _ _ _ _ hya2]; simp
    have hx2' := ((gb_set v2 (w.heap.size + 1) 2 (.string (strB who))).block _ (lt_of_heap hxa2) (fun e => by injection e with e; omega)).trans hxa2
    have hB2' := (hB1'.grown hgb2 hB1'.size (fun k hk => by injection hk with hk; omega)).setCell (p := ⟨w.heap.size + 1, 2, none⟩) (by simp) (.string (strB who))
    have hOm2 := (hO1.kept hgb2 (.inr (by obtain ⟨csg, hcsg⟩ := hR1.heap; exact ne_own' hO1 hcsg (by decide))))
    have hO2 : (v2.setCell ⟨w.heap.size + 1, 2, none⟩ (.string (strB who))).ownsRow w.heap.size 9 1 (.slice ao ps.length cap) ps.length (ps.flatMap idC) := ownsRow_setCell_other hOm2 (ne_own' hOm2 hya2 (by decide)) _
    clear hOm2 hO1
    clear hT2 hRx2 hgb2 hxa2 hya2 hx1' hy1' hB1' hR1
    go_wp2_with fail
    generalize hwx2 : v2.setCell ⟨w.heap.size + 1, 2, none⟩ (.string (strB who)) = w2' at *
    clear hwx2 cy2 fy2
    have hT3 := takeNumber_any w2' g l s3 hR2 hl
    unfold Took at hT3
    rw [H4.out] at hT3
    simp only at hT3
    go_wp2_with fail
    refine hT3.mono ?_
    rintro e v3 ⟨rfl, hRx3, hgb3⟩
    have hxa3 := (hgb3.block _ (lt_of_heap hx2') (fun e => by injection e with e; omega)).trans hx2'
    have hya3 := (hgb3.block _ (lt_of_heap hy2') (fun e => by injection e with e; omega)).trans hy2'
    have cy3 := cell_of_row v3 (w.heap.size + 1) 3 _ _ _ hya3
    simp only [List.getElem?_toArray, List.getElem?_cons_zero, List.getElem?_cons_succ] at cy3
    have fy3 := frozen0 (j := 3) hya3
    have hR3 := hRx3.set (n := w.heap.size + 1) (i := 3) (u := .int .i64 time) (.inr ⟨by omega, by omega⟩)
    have hy3' : (v3.setCell ⟨w.heap.size + 1, 3, none⟩ (.int .i64 time)).heap[w.heap.size + 1]? = some (.cells #[.string (strB tree), .slice ao ps.length cap, .string (strB who), .int .i64 time, .string ⟨#[]⟩] 64) := by rw [heap_setCell _ _ _ _ _ _ _ hya3]; simp
    have hx3' := ((gb_set v3 (w.heap.size + 1) 3 (.int .i64 time)).block _ (lt_of_heap hxa3) (fun e => by injection e with e; omega)).trans hxa3
    have hB3' := (hB2'.grown hgb3 hB2'.size (fun k hk => by injection hk with hk; omega)).setCell (p := ⟨w.heap.size + 1, 3, none⟩) (by simp) (.int .i64 time)
    have hOm3 := (hO2.kept hgb3 (.inr (by obtain ⟨csg, hcsg⟩ := hR2.heap; exact ne_own' hO2 hcsg (by decide))))
    have hO3 : (v3.setCell ⟨w.heap.size + 1, 3, none⟩ (.int .i64 time)).ownsRow w.heap.size 9 1 (.slice ao ps.length cap) ps.length (ps.flatMap idC) := ownsRow_setCell_other hOm3 (ne_own' hOm3 hya3 (by decide)) _
    clear hOm3 hO2
    clear hT3 hRx3 hgb3 hxa3 hya3 hx2' hy2' hB2' hR2
    go_wp2_with fail
    generalize hwx3 : v3.setCell ⟨w.heap.size + 1, 3, none⟩ (.int .i64 time) = w3' at *
    clear hwx3 cy3 fy3
    have hT4 := takeText_any w3' g l s4 hR3 hl
    unfold Took at hT4
    rw [H5.out] at hT4
    simp only at hT4
    go_wp2_with fail
    refine hT4.mono ?_
    rintro e v4 ⟨rfl, hRx4, hgb4⟩
    have hxa4 := (hgb4.block _ (lt_of_heap hx3') (fun e => by injection e with e; omega)).trans hx3'
    have hya4 := (hgb4.block _ (lt_of_heap hy3') (fun e => by injection e with e; omega)).trans hy3'
    have cy4 := cell_of_row v4 (w.heap.size + 1) 4 _ _ _ hya4
    simp only [List.getElem?_toArray, List.getElem?_cons_zero, List.getElem?_cons_succ] at cy4
    have fy4 := frozen0 (j := 4) hya4
    have hR4 := hRx4.set (n := w.heap.size + 1) (i := 4) (u := .string (strB note)) (.inr ⟨by omega, by omega⟩)
    have hy4' : (v4.setCell ⟨w.heap.size + 1, 4, none⟩ (.string (strB note))).heap[w.heap.size + 1]? = some (.cells #[.string (strB tree), .slice ao ps.length cap, .string (strB who), .int .i64 time, .string (strB note)] 64) := by rw [heap_setCell _ _ _ _ _ _ _ hya4]; simp
    have hx4' := ((gb_set v4 (w.heap.size + 1) 4 (.string (strB note))).block _ (lt_of_heap hxa4) (fun e => by injection e with e; omega)).trans hxa4
    have hB4' := (hB3'.grown hgb4 hB3'.size (fun k hk => by injection hk with hk; omega)).setCell (p := ⟨w.heap.size + 1, 4, none⟩) (by simp) (.string (strB note))
    have hOm4 := (hO3.kept hgb4 (.inr (by obtain ⟨csg, hcsg⟩ := hR3.heap; exact ne_own' hO3 hcsg (by decide))))
    have hO4 : (v4.setCell ⟨w.heap.size + 1, 4, none⟩ (.string (strB note))).ownsRow w.heap.size 9 1 (.slice ao ps.length cap) ps.length (ps.flatMap idC) := ownsRow_setCell_other hOm4 (ne_own' hOm4 hya4 (by decide)) _
    clear hOm4 hO3
    clear hT4 hRx4 hgb4 hxa4 hya4 hx3' hy3' hB3' hR3
    go_wp2_with fail
    generalize hwx4 : v4.setCell ⟨w.heap.size + 1, 4, none⟩ (.string (strB note)) = w4' at *
    clear hwx4 cy4 fy4
    have hW := wasAll_any w4' g l s5 hR4
    rw [hdec] at hW
    refine hW.mono ?_
    rintro e w6 ⟨rfl, hb6⟩
    have hx6 := (hb6.block _ (lt_of_heap hx4')).trans hx4'
    have hy6 := (hb6.block _ (lt_of_heap hy4')).trans hy4'
    have hb6' := hB4'.trans (hb6.mono hB4'.size)
    have hown6 := own_below hO4 hb6
    have cz0 := cell_of_row w6 (w.heap.size + 1) 0 _ _ _ hy6
    have cz1 := cell_of_row w6 (w.heap.size + 1) 1 _ _ _ hy6
    have cz2 := cell_of_row w6 (w.heap.size + 1) 2 _ _ _ hy6
    have cz3 := cell_of_row w6 (w.heap.size + 1) 3 _ _ _ hy6
    have cz4 := cell_of_row w6 (w.heap.size + 1) 4 _ _ _ hy6
    simp only [List.getElem?_toArray, List.getElem?_cons_zero, List.getElem?_cons_succ] at cz0 cz1 cz2 cz3 cz4
    clear hW hb6 hO4
    clear hown6
    have ce0 := cell_of_row w6 w.heap.size 0 _ _ _ hx6
    have fe0 := frozen0 (j := 0) hx6
    have ce1 := cell_of_row w6 w.heap.size 1 _ _ _ hx6
    have fe1 := frozen0 (j := 1) hx6
    have ce2 := cell_of_row w6 w.heap.size 2 _ _ _ hx6
    have fe2 := frozen0 (j := 2) hx6
    have ce3 := cell_of_row w6 w.heap.size 3 _ _ _ hx6
    have fe3 := frozen0 (j := 3) hx6
    have ce4 := cell_of_row w6 w.heap.size 4 _ _ _ hx6
    have fe4 := frozen0 (j := 4) hx6
    simp only [List.getElem?_toArray, List.getElem?_cons_zero, List.getElem?_cons_succ] at ce0 ce1 ce2 ce3 ce4
    go_wp2
    refine bodyPost_ret (results_cell_tmp_row rfl _ _ _ _ _ _ _ rfl (heap_set5 hx6) Tryz.underlying64 rfl Tryz.infoCommit) rfl ⟨rfl, (((((hb6'.setCell (p := ⟨w.heap.size, 0, none⟩) (by simp) _).setCell (p := ⟨w.heap.size, 1, none⟩) (by simp) _).setCell (p := ⟨w.heap.size, 2, none⟩) (by simp) _).setCell (p := ⟨w.heap.size, 3, none⟩) (by simp) _).setCell (p := ⟨w.heap.size, 4, none⟩) (by simp) _)⟩
end Go.Proofs.YtdbmngbinhemeabGreatDoor
