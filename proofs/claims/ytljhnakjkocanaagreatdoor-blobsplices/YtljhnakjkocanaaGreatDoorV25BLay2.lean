/-
  An object laid, with a word on what stays. Conditions: as lay_any's.
-/
import Derived.Test.YtljhnakjkocanaaGreatDoorV21BLay
namespace Go.Proofs.YtljhnakjkocanaaGreatDoor
open Go.RowKit

set_option maxRecDepth 40000 in
set_option maxHeartbeats 1600000 in
theorem lay2_any (B : Nat) (w : World) (g : Nat) (os : List Pair) (o : Pair) (z : Int) (h : BdW B w g os) (hn : os.length ≤ 4294967296) (kb : Nat) (cs : Array Value) (hk : w.heap[kb]? = some (.cells cs 57)) (hkv : ∀ vo mv, w.heap[g]? = some (.cells #[vo, mv] 52) → ∀ q, vo.ownBlock = some q → q ≠ kb) :
    Calls Tryz.prog 52 #[.pointer (some ⟨g, 0, none⟩), .agg #[.string (strB o.1), .string (strB o.2)], .int .i64 z] w fun e w' => e = .returned (.agg #[.string (strB o.1), .int .i64 z]) ∧ BdW B w' g (layP os o) ∧ Mv B bts none w w' ∧ w'.heap[kb]? = some (.cells cs 57) := by
  have h' := h
  obtain ⟨hg, vo, mb, hh, hrow, hmap, hmb⟩ := h'
  have hB : B ≤ w.heap.size := by have := lt_of_heap hh; omega
  have hkv := hkv _ _ hh
  have hkl := lt_of_heap hk
  have hb0 : Below w.heap.size w ((w.alloc (.cells #[.string (strB o.1), .string (strB o.2)] 57)).alloc (.cells #[.string ⟨#[]⟩, .int .i64 0] 25)) := ((Below.refl _ _).alloc (Nat.le_refl _) _).alloc (by simp) _
  have hx0 : ((w.alloc (.cells #[.string (strB o.1), .string (strB o.2)] 57)).alloc (.cells #[.string ⟨#[]⟩, .int .i64 0] 25)).heap[w.heap.size]? = some (.cells #[.string (strB o.1), .string (strB o.2)] 57) := (heap_past _ _ _ (by simp)).trans (heap_last w _ _ rfl)
  have hy0 : ((w.alloc (.cells #[.string (strB o.1), .string (strB o.2)] 57)).alloc (.cells #[.string ⟨#[]⟩, .int .i64 0] 25)).heap[w.heap.size + 1]? = some (.cells #[.string ⟨#[]⟩, .int .i64 0] 25) := heap_last _ _ _ (by simp)
  have hs0 : ((w.alloc (.cells #[.string (strB o.1), .string (strB o.2)] 57)).alloc (.cells #[.string ⟨#[]⟩, .int .i64 0] 25)).heap.size = w.heap.size + 2 := by simp
  generalize hw0 : (w.alloc (.cells #[.string (strB o.1), .string (strB o.2)] 57)).alloc (.cells #[.string ⟨#[]⟩, .int .i64 0] 25) = w0 at *
  have hh0 := (hb0.block _ (lt_of_heap hh)).trans hh
  have hrow0 : Rw B w0 57 2 pairC vo os := own_same hrow (fun q hq => hb0.block q (hrow.lt q hq).2)
  have hmap0 := hmap.same (hb0.block _ hmap.lt)
  -- behind the look
  have hb1 : Below w0.heap.size w0 (w0.alloc (.cells #[] 126)).drew := ((Below.refl _ _).alloc (Nat.le_refl _) _).drew
  have hh1 := (hb1.block _ (lt_of_heap hh0)).trans hh0
  have hx1 := (hb1.block _ (lt_of_heap hx0)).trans hx0
  have hy1 := (hb1.block _ (lt_of_heap hy0)).trans hy0
  have hrow1 : Rw B (w0.alloc (.cells #[] 126)).drew 57 2 pairC vo os := own_same hrow0 (fun q hq => hb1.block q (hrow0.lt q hq).2)
  have hmap1 := hmap0.same (hb1.block _ hmap0.lt)
  have l0 := map_look w0.drew mb os o.1 hmap0
  have l1 := map_look (w0.alloc (.cells #[] 126)).drew mb os o.1 hmap1
  have g1 := cell_of_row w0 g 1 _ _ _ hh0
  have x0 := cell_of_row w0 w.heap.size 0 _ _ _ hx0
  have g1' := cell_of_row _ g 1 _ _ _ (show (w0.alloc (.cells #[] 126)).heap[g]? = _ from hh1)
  have x0' := cell_of_row _ w.heap.size 0 _ _ _ (show (w0.alloc (.cells #[] 126)).heap[w.heap.size]? = _ from hx1)
  simp only [List.getElem?_toArray, List.getElem?_cons_zero, List.getElem?_cons_succ] at g1 x0 g1' x0'
  have HVO := hide (fun q (hq' : vo.ownBlock = some q) => (hrow.lt q hq').2)
  have H1 := hide (And.intro hb0 (And.intro hh1 (And.intro hx1 (And.intro hy1 (And.intro hrow1 hmap1)))))
  have HB1 := hide hb1
  have HKB := hide (And.intro ((hb1.block _ (lt_of_heap ((hb0.block _ hkl).trans hk))).trans ((hb0.block _ hkl).trans hk)) hkv)
  unfold layP
  clear hh hrow hmap hh0 hrow0 hmap0 hx0 hy0 hb0 hb1 hh1 hx1 hy1 hrow1 hmap1 h hk hkv
  cases hq : os.any (fun x => x.1 == o.1) with
  | true =>
    rw [hq] at l0 l1
    rw [if_pos rfl]
    go_enter Tryz.func52, Tryz.ntmps52
    go_wp2_with fail
    try rw [hw0]
    refine wp_region_held_drew (S := fun W => W.cell? ⟨g, 1, none⟩ = some (.map (some mb)) ∧ W.cell? ⟨w.heap.size, 0, none⟩ = some (.string (strB o.1)) ∧ (Instr.lookup 50 (.map (some mb)) (.string (strB o.1)) true).run Tryz.prog W = .ok (.tuple #[.agg #[], .bool true]) W) (by kernel_rfl) (⟨g1, x0, l0⟩) (fun hHeld => ?_)
    refine takeH (i := 0) (v := ?_) rfl (by kernel_rfl) (by kernel_rfl) (by kernel_rfl) (fun _ _ _ h => h) rfl ?_ hHeld ?_
    rotate_left
    · intro w hS; (try dsimp only at hS); obtain ⟨hS0, hS1, hS2⟩ := hS; go_simp; first | done | (with_reducible rfl)
    try simp only [Act.put, List.setIfInBounds_toArray, List.set_cons_zero, List.set_cons_succ]
    refine takeH (i := 1) (v := ?_) rfl (by kernel_rfl) (by kernel_rfl) (by kernel_rfl) (fun _ _ _ h => h) rfl ?_ hHeld ?_
    rotate_left
    · intro w hS; (try dsimp only at hS); obtain ⟨hS0, hS1, hS2⟩ := hS; go_simp; first | done | (with_reducible rfl)
    try simp only [Act.put, List.setIfInBounds_toArray, List.set_cons_zero, List.set_cons_succ]
    refine takeH (i := 2) (v := ?_) rfl (by kernel_rfl) (by kernel_rfl) (by kernel_rfl) (fun _ _ _ h => h) rfl ?_ hHeld ?_
    rotate_left
    · intro w hS; (try dsimp only at hS); obtain ⟨hS0, hS1, hS2⟩ := hS; go_simp; first | done | (with_reducible rfl)
    try simp only [Act.put, List.setIfInBounds_toArray, List.set_cons_zero, List.set_cons_succ]
    refine takeH (i := 3) (v := ?_) rfl (by kernel_rfl) (by kernel_rfl) (by kernel_rfl) (fun _ _ _ h => h) rfl ?_ hHeld ?_
    rotate_left
    · intro w hS; (try dsimp only at hS); obtain ⟨hS0, hS1, hS2⟩ := hS; go_simp; first | done | (with_reducible rfl)
    try simp only [Act.put, List.setIfInBounds_toArray, List.set_cons_zero, List.set_cons_succ]
    refine takeH (i := 4) (v := ?_) rfl (by kernel_rfl) (by kernel_rfl) (by kernel_rfl) (fun _ _ _ h => h) rfl ?_ hHeld ?_
    rotate_left
    · intro w hS; (try dsimp only at hS); obtain ⟨hS0, hS1, hS2⟩ := hS; go_simp; first | done | (with_reducible rfl)
    try simp only [Act.put, List.setIfInBounds_toArray, List.set_cons_zero, List.set_cons_succ]
    refine takeH (i := 5) (v := ?_) rfl (by kernel_rfl) (by kernel_rfl) (by kernel_rfl) (fun _ _ _ h => h) rfl ?_ hHeld ?_
    rotate_left
    · intro w hS; (try dsimp only at hS); obtain ⟨hS0, hS1, hS2⟩ := hS; go_simp; first | done | (with_reducible rfl)
    try simp only [Act.put, List.setIfInBounds_toArray, List.set_cons_zero, List.set_cons_succ]
    refine takeH (i := 6) (v := ?_) rfl (by kernel_rfl) (by kernel_rfl) (by kernel_rfl) (fun _ _ _ h => h) rfl ?_ hHeld ?_
    rotate_left
    · intro w hS; (try dsimp only at hS); obtain ⟨hS0, hS1, hS2⟩ := hS; go_simp; first | done | (with_reducible rfl)
    try simp only [Act.put, List.setIfInBounds_toArray, List.set_cons_zero, List.set_cons_succ]
    refine takeH (i := 7) (v := ?_) rfl (by kernel_rfl) (by kernel_rfl) (by kernel_rfl) (fun _ _ _ h => h) rfl ?_ hHeld ?_
    rotate_left
    · intro w hS; (try dsimp only at hS); obtain ⟨hS0, hS1, hS2⟩ := hS; go_simp; first | done | (with_reducible rfl)
    try simp only [Act.put, List.setIfInBounds_toArray, List.set_cons_zero, List.set_cons_succ]
    refine takeH (i := 8) (v := ?_) rfl (by kernel_rfl) (by kernel_rfl) (by kernel_rfl) (fun _ _ _ h => h) rfl ?_ hHeld ?_
    rotate_left
    · intro w hS; (try dsimp only at hS); obtain ⟨hS0, hS1, hS2⟩ := hS; go_simp; first | done | (with_reducible rfl)
    try simp only [Act.put, List.setIfInBounds_toArray, List.set_cons_zero, List.set_cons_succ]
    refine takeH (i := 9) (v := ?_) rfl (by kernel_rfl) (by kernel_rfl) (by kernel_rfl) (fun _ _ _ h => h) rfl ?_ hHeld ?_
    rotate_left
    · intro w hS; (try dsimp only at hS); obtain ⟨hS0, hS1, hS2⟩ := hS; go_simp; first | done | (with_reducible rfl)
    try simp only [Act.put, List.setIfInBounds_toArray, List.set_cons_zero, List.set_cons_succ]
    refine onlyH (i := 10) rfl (by kernel_rfl) rfl (fun K hK => ?_)
    go_simp
    refine hK.out _ _ (⟨g1', x0', l1⟩) (fun hHeld => ?_)
    clear hK K
    try simp only [Act.put, List.setIfInBounds_toArray, List.set_cons_zero, List.set_cons_succ]
    refine onlyH (i := 11) rfl (by kernel_rfl) rfl (fun K hK => ?_)
    go_simp
    refine hK.out _ _ (⟨g1', x0', l1⟩) (fun hHeld => ?_)
    clear hK K
    try simp only [Act.put, List.setIfInBounds_toArray, List.set_cons_zero, List.set_cons_succ]
    refine takeH (i := 12) (v := ?_) rfl (by kernel_rfl) (by kernel_rfl) (by kernel_rfl) (fun _ _ _ h => h) rfl ?_ hHeld ?_
    rotate_left
    · intro w hS; (try dsimp only at hS); obtain ⟨hS0, hS1, hS2⟩ := hS; go_simp; first | done | (with_reducible rfl)
    try simp only [Act.put, List.setIfInBounds_toArray, List.set_cons_zero, List.set_cons_succ]
    refine wpAnyH_done (by kernel_rfl) ?_ _
    clear hHeld
    generalize (w0.alloc (.cells #[] 126)).drew = w1 at *
    obtain ⟨hb0, hh1, hx1, hy1, hrow1, hmap1⟩ := H1.out
    have hB01 := hb0.trans (HB1.out.mono (by omega))
    have y0 := cell_of_row w1 (w.heap.size + 1) 0 _ _ _ hy1
    have y1 := cell_of_row w1 (w.heap.size + 1) 1 _ _ _ hy1
    have z0 := cell_of_row w1 w.heap.size 0 _ _ _ hx1
    simp only [List.getElem?_toArray, List.getElem?_cons_zero, List.getElem?_cons_succ] at y0 y1 z0
    have f0 := frozen0 (j := 0) hy1
    have f1 := frozen0 (j := 1) hy1
    have HF := hide (And.intro hB01 (And.intro hh1 (And.intro hrow1 hmap1)))
    clear hb0 hB01 hh1 hrow1 hmap1
    go_wp2
    refine bodyPost_ret (results_cell_row rfl _ _ _ _ _ _ _ rfl (heap_set2 hy1) Tryz.underlying25 rfl Tryz.infoPart) rfl ⟨rfl, ?_, ?_, ?_⟩
    · obtain ⟨hB01, hh1, hrow1, hmap1⟩ := HF.out
      have hm : Mv B [25] none w1 ((w1.setCell ⟨w.heap.size + 1, 0, none⟩ (.string (strB o.1))).setCell ⟨w.heap.size + 1, 1, none⟩ (.int .i64 z)) := ((Mv.refl B _ none w1).set (j := 0) hy1 (by decide) (by omega) _).set (j := 1) (heap_set1a hy1) (by decide) (by omega) _
      exact ⟨hg, vo, mb, hm.k _ _ _ _ hh1 (by decide) (by simp), hm.own0 hrow1 (by decide), map_set (map_set hmap1 hy1 _) (heap_set1a hy1) _, hmb⟩
    · exact ((Mv.of HF.out.1 hB).setNew (j := 0) (by omega) hB _).setNew (j := 1) (by omega) hB _
    · exact (heap_setOther (by omega)).trans ((heap_setOther (by omega)).trans HKB.out.1)
  | false =>
    rw [hq] at l0 l1
    rw [if_neg (by simp)]
    go_enter Tryz.func52, Tryz.ntmps52
    go_wp2_with fail
    try rw [hw0]
    refine wp_region_held_drew (S := fun W => W.cell? ⟨g, 1, none⟩ = some (.map (some mb)) ∧ W.cell? ⟨w.heap.size, 0, none⟩ = some (.string (strB o.1)) ∧ (Instr.lookup 50 (.map (some mb)) (.string (strB o.1)) true).run Tryz.prog W = .ok (.tuple #[.agg #[], .bool false]) W) (by kernel_rfl) (⟨g1, x0, l0⟩) (fun hHeld => ?_)
    refine takeH (i := 0) (v := ?_) rfl (by kernel_rfl) (by kernel_rfl) (by kernel_rfl) (fun _ _ _ h => h) rfl ?_ hHeld ?_
    rotate_left
    · intro w hS; (try dsimp only at hS); obtain ⟨hS0, hS1, hS2⟩ := hS; go_simp; first | done | (with_reducible rfl)
    try simp only [Act.put, List.setIfInBounds_toArray, List.set_cons_zero, List.set_cons_succ]
    refine takeH (i := 1) (v := ?_) rfl (by kernel_rfl) (by kernel_rfl) (by kernel_rfl) (fun _ _ _ h => h) rfl ?_ hHeld ?_
    rotate_left
    · intro w hS; (try dsimp only at hS); obtain ⟨hS0, hS1, hS2⟩ := hS; go_simp; first | done | (with_reducible rfl)
    try simp only [Act.put, List.setIfInBounds_toArray, List.set_cons_zero, List.set_cons_succ]
    refine takeH (i := 2) (v := ?_) rfl (by kernel_rfl) (by kernel_rfl) (by kernel_rfl) (fun _ _ _ h => h) rfl ?_ hHeld ?_
    rotate_left
    · intro w hS; (try dsimp only at hS); obtain ⟨hS0, hS1, hS2⟩ := hS; go_simp; first | done | (with_reducible rfl)
    try simp only [Act.put, List.setIfInBounds_toArray, List.set_cons_zero, List.set_cons_succ]
    refine takeH (i := 3) (v := ?_) rfl (by kernel_rfl) (by kernel_rfl) (by kernel_rfl) (fun _ _ _ h => h) rfl ?_ hHeld ?_
    rotate_left
    · intro w hS; (try dsimp only at hS); obtain ⟨hS0, hS1, hS2⟩ := hS; go_simp; first | done | (with_reducible rfl)
    try simp only [Act.put, List.setIfInBounds_toArray, List.set_cons_zero, List.set_cons_succ]
    refine takeH (i := 4) (v := ?_) rfl (by kernel_rfl) (by kernel_rfl) (by kernel_rfl) (fun _ _ _ h => h) rfl ?_ hHeld ?_
    rotate_left
    · intro w hS; (try dsimp only at hS); obtain ⟨hS0, hS1, hS2⟩ := hS; go_simp; first | done | (with_reducible rfl)
    try simp only [Act.put, List.setIfInBounds_toArray, List.set_cons_zero, List.set_cons_succ]
    refine takeH (i := 5) (v := ?_) rfl (by kernel_rfl) (by kernel_rfl) (by kernel_rfl) (fun _ _ _ h => h) rfl ?_ hHeld ?_
    rotate_left
    · intro w hS; (try dsimp only at hS); obtain ⟨hS0, hS1, hS2⟩ := hS; go_simp; first | done | (with_reducible rfl)
    try simp only [Act.put, List.setIfInBounds_toArray, List.set_cons_zero, List.set_cons_succ]
    refine takeH (i := 6) (v := ?_) rfl (by kernel_rfl) (by kernel_rfl) (by kernel_rfl) (fun _ _ _ h => h) rfl ?_ hHeld ?_
    rotate_left
    · intro w hS; (try dsimp only at hS); obtain ⟨hS0, hS1, hS2⟩ := hS; go_simp; first | done | (with_reducible rfl)
    try simp only [Act.put, List.setIfInBounds_toArray, List.set_cons_zero, List.set_cons_succ]
    refine takeH (i := 7) (v := ?_) rfl (by kernel_rfl) (by kernel_rfl) (by kernel_rfl) (fun _ _ _ h => h) rfl ?_ hHeld ?_
    rotate_left
    · intro w hS; (try dsimp only at hS); obtain ⟨hS0, hS1, hS2⟩ := hS; go_simp; first | done | (with_reducible rfl)
    try simp only [Act.put, List.setIfInBounds_toArray, List.set_cons_zero, List.set_cons_succ]
    refine takeH (i := 8) (v := ?_) rfl (by kernel_rfl) (by kernel_rfl) (by kernel_rfl) (fun _ _ _ h => h) rfl ?_ hHeld ?_
    rotate_left
    · intro w hS; (try dsimp only at hS); obtain ⟨hS0, hS1, hS2⟩ := hS; go_simp; first | done | (with_reducible rfl)
    try simp only [Act.put, List.setIfInBounds_toArray, List.set_cons_zero, List.set_cons_succ]
    refine takeH (i := 9) (v := ?_) rfl (by kernel_rfl) (by kernel_rfl) (by kernel_rfl) (fun _ _ _ h => h) rfl ?_ hHeld ?_
    rotate_left
    · intro w hS; (try dsimp only at hS); obtain ⟨hS0, hS1, hS2⟩ := hS; go_simp; first | done | (with_reducible rfl)
    try simp only [Act.put, List.setIfInBounds_toArray, List.set_cons_zero, List.set_cons_succ]
    refine onlyH (i := 10) rfl (by kernel_rfl) rfl (fun K hK => ?_)
    go_simp
    refine hK.out _ _ (⟨g1', x0', l1⟩) (fun hHeld => ?_)
    clear hK K
    try simp only [Act.put, List.setIfInBounds_toArray, List.set_cons_zero, List.set_cons_succ]
    refine onlyH (i := 11) rfl (by kernel_rfl) rfl (fun K hK => ?_)
    go_simp
    refine hK.out _ _ (⟨g1', x0', l1⟩) (fun hHeld => ?_)
    clear hK K
    try simp only [Act.put, List.setIfInBounds_toArray, List.set_cons_zero, List.set_cons_succ]
    refine takeH (i := 12) (v := ?_) rfl (by kernel_rfl) (by kernel_rfl) (by kernel_rfl) (fun _ _ _ h => h) rfl ?_ hHeld ?_
    rotate_left
    · intro w hS; (try dsimp only at hS); obtain ⟨hS0, hS1, hS2⟩ := hS; go_simp; first | done | (with_reducible rfl)
    try simp only [Act.put, List.setIfInBounds_toArray, List.set_cons_zero, List.set_cons_succ]
    refine wpAnyH_done (by kernel_rfl) ?_ _
    clear hHeld
    generalize (w0.alloc (.cells #[] 126)).drew = w1 at *
    obtain ⟨hb0, hh1, hx1, hy1, hrow1, hmap1⟩ := H1.out
    have hB01 := hb0.trans (HB1.out.mono (by omega))
    have hs1 : w.heap.size + 2 ≤ w1.heap.size := by have := HB1.out.size; omega
    obtain ⟨w2, hput, hmap2, hc2, hsz2⟩ := map_put w1.drew mb os o hmap1 hq
    have hne1 : g ≠ mb := hmap1.ne hh1
    have hne2 : w.heap.size ≠ mb := hmap1.ne hx1
    have hne3 : w.heap.size + 1 ≠ mb := hmap1.ne hy1
    have hh2 := (hc2.block g (lt_of_heap hh1) hne1).trans hh1
    have hx2 := (hc2.block w.heap.size (lt_of_heap hx1) hne2).trans hx1
    have hy2 := (hc2.block (w.heap.size + 1) (lt_of_heap hy1) hne3).trans hy1
    have hvlt : ∀ q, vo.ownBlock = some q → q < w.heap.size := HVO.out
    have hrow2 : Rw B w2 57 2 pairC vo os := own_same hrow1 (fun q hq' => hc2.block q (hrow1.lt q hq').2 (by
      obtain ⟨c, fz, h1⟩ := Lib.ownsRow_kind hrow1 q hq'
      exact hmap1.ne h1))
    have hmapE := hmap1
    obtain ⟨es, ck, hes, -⟩ := hmap1
    have hM2 : Mv B bts none w w2 := (Mv.of hB01 hB).drew.map hc2 hmb hes
    have hB2 : B ≤ w2.heap.size := by have := hc2.size; simp at this; omega
    have hs2 : w.heap.size + 2 ≤ w2.heap.size := by have := hc2.size; simp at this; omega
    obtain ⟨vn, w3, hrun3, hrow3, hgr3, -⟩ := app_obj w2.drew B vo os o hrow2 hB2 hn
    rw [drew_alloc] at hrun3 hgr3
    rw [show w2.drew.heap.size = w2.heap.size from rfl] at hrun3
    have hrowA : Rw B (w2.alloc (.cells #[.string (strB o.1), .string (strB o.2)] 57)).drew 57 2 pairC vo os := World.ownsRow.alloc hrow2 _
    have hhA := (heap_past w2 (.cells #[.string (strB o.1), .string (strB o.2)] 57) _ (lt_of_heap hh2)).trans hh2
    have hxA := (heap_past w2 (.cells #[.string (strB o.1), .string (strB o.2)] 57) _ (lt_of_heap hx2)).trans hx2
    have hyA := (heap_past w2 (.cells #[.string (strB o.1), .string (strB o.2)] 57) _ (lt_of_heap hy2)).trans hy2
    have hmA : Mp.MapW (w2.alloc (.cells #[.string (strB o.1), .string (strB o.2)] 57)) mb (laidK (os ++ [o])) := hmap2.same (heap_past w2 (.cells #[.string (strB o.1), .string (strB o.2)] 57) _ hmap2.lt)
    have hh3 := grow_keep hrowA hgr3 (show (w2.alloc _).drew.heap[g]? = _ from hhA) (by decide)
    have hy3 := grow_keep hrowA hgr3 (show (w2.alloc _).drew.heap[w.heap.size + 1]? = _ from hyA) (by decide)
    have hx3 := (hgr3.block w.heap.size (show w.heap.size < (w2.alloc _).heap.size from lt_of_heap hxA) (fun hq' => by have := hvlt _ hq'.symm; omega)).trans hxA
    have hm3 : Mp.MapW w3 mb (laidK (os ++ [o])) := hmA.same (hgr3.block mb hmA.lt (fun hq' => by
      obtain ⟨c, fz, h1⟩ := Lib.ownsRow_kind hrow2 mb hq'.symm
      exact absurd rfl (hmap2.ne h1)))
    have hM3 : Mv B bts none w w3 := (hM2.alloc hB2 _).drew.grown hrowA hgr3 (by decide) (by simp; omega)
    have hM4 : Mv B bts none w (w3.setCell ⟨g, 0, none⟩ vn) := hM3.set hh3 (by decide) hg _
    have hx4 := (heap_setOther (j := 0) (u := vn) (ne_type hx3 hh3 (by decide))).trans hx3
    have hy4 := (heap_setOther (j := 0) (u := vn) (ne_type hy3 hh3 (by decide))).trans hy3
    have hBd : BdW B (w3.setCell ⟨g, 0, none⟩ vn) g (os ++ [o]) := ⟨hg, vn, mb, heap_set1a hh3, own_setCell hrow3 hh3 (by decide) _, map_set hm3 hh3 _, hmb⟩
    have cx : ∀ W : World, W.heap[w.heap.size]? = some (.cells #[.string (strB o.1), .string (strB o.2)] 57) → W.cell? ⟨w.heap.size, 0, none⟩ = some (.string (strB o.1)) ∧ W.cell? ⟨w.heap.size, 1, none⟩ = some (.string (strB o.2)) := fun W hW => by
      have e0 := cell_of_row W w.heap.size 0 _ _ _ hW
      have e1 := cell_of_row W w.heap.size 1 _ _ _ hW
      simp only [List.getElem?_toArray, List.getElem?_cons_zero, List.getElem?_cons_succ] at e0 e1
      exact ⟨e0, e1⟩
    have X1 := hide (cx _ hx1)
    have X2 := hide (cx _ hx2)
    have XA := hide (cx _ hxA)
    have X3 := hide (cx _ hx3)
    have X4 := hide (cx _ hx4)
    have m1 := cell_of_row w1 g 1 _ _ _ hh1
    have m2 := cell_of_row w2 g 1 _ _ _ hh2
    have o2 := cell_of_row w2 g 0 _ _ _ hh2
    have oA := cell_of_row _ g 0 _ _ _ hhA
    have o3 := cell_of_row w3 g 0 _ _ _ hh3
    have c1 := (cx _ hx1).1
    have y0 := cell_of_row _ (w.heap.size + 1) 0 _ _ _ hy4
    have y1 := cell_of_row _ (w.heap.size + 1) 1 _ _ _ hy4
    simp only [List.getElem?_toArray, List.getElem?_cons_zero, List.getElem?_cons_succ] at m1 m2 o2 oA o3 y0 y1
    have f3 := frozen0 (j := 0) hh3
    have f0 := frozen0 (j := 0) hy4
    have f1 := frozen0 (j := 1) hy4
    have hk1 := HKB.out.1
    have hk2 := (hc2.block kb (lt_of_heap hk1) (hmapE.ne hk1)).trans hk1
    have hkA := (heap_past w2 (.cells #[.string (strB o.1), .string (strB o.2)] 57) _ (lt_of_heap hk2)).trans hk2
    have hk3 := (hgr3.block kb (show kb < (w2.alloc _).heap.size from lt_of_heap hkA) (fun hq' => HKB.out.2 _ hq'.symm rfl)).trans hkA
    have hk4 := (heap_setOther (j := 0) (u := vn) (ne_type hk3 hh3 (by decide))).trans hk3
    have HK4 := hide hk4
    clear hk1 hk2 hkA hk3 hk4 hmapE
    have FIN := hide (And.intro hBd (And.intro hM4 hy4))
    have hd4 := (cx _ hx4).1
    have HRUN := hide hrun3
    obtain ⟨vnA, vnm, vnc, rfl⟩ := row_form hrow3
    clear hb0 hB01 hh1 hx1 hy1 hrow1 hmap2 hc2 hne1 hne2 hne3 hh2 hx2 hy2 hvlt hrow2 hes hM2 hrow3 hgr3 hrowA hhA hxA hyA hmA hh3 hy3 hx3 hm3 hM3 hM4 hx4 hy4 hBd cx hsz2 l0 l1 hrun3 g1 x0 g1' x0'
    go_wp2_with fail
    refine wp_region_held_drew (S := fun W => W.cell? ⟨g, 1, none⟩ = some (.map (some mb)) ∧ W.cell? ⟨w.heap.size, 0, none⟩ = some (.string (strB o.1))) (by kernel_rfl) (⟨m1, c1⟩) (fun hHeld => ?_)
    refine takeH (i := 0) (v := ?_) rfl (by kernel_rfl) (by kernel_rfl) (by kernel_rfl) (fun _ _ _ h => h) rfl ?_ hHeld ?_
    rotate_left
    · intro w hS; (try dsimp only at hS); obtain ⟨hS0, hS1⟩ := hS; go_simp; first | done | (with_reducible rfl)
    try simp only [Act.put, List.setIfInBounds_toArray, List.set_cons_zero, List.set_cons_succ]
    refine takeH (i := 1) (v := ?_) rfl (by kernel_rfl) (by kernel_rfl) (by kernel_rfl) (fun _ _ _ h => h) rfl ?_ hHeld ?_
    rotate_left
    · intro w hS; (try dsimp only at hS); obtain ⟨hS0, hS1⟩ := hS; go_simp; first | done | (with_reducible rfl)
    try simp only [Act.put, List.setIfInBounds_toArray, List.set_cons_zero, List.set_cons_succ]
    refine takeH (i := 2) (v := ?_) rfl (by kernel_rfl) (by kernel_rfl) (by kernel_rfl) (fun _ _ _ h => h) rfl ?_ hHeld ?_
    rotate_left
    · intro w hS; (try dsimp only at hS); obtain ⟨hS0, hS1⟩ := hS; go_simp; first | done | (with_reducible rfl)
    try simp only [Act.put, List.setIfInBounds_toArray, List.set_cons_zero, List.set_cons_succ]
    refine takeH (i := 3) (v := ?_) rfl (by kernel_rfl) (by kernel_rfl) (by kernel_rfl) (fun _ _ _ h => h) rfl ?_ hHeld ?_
    rotate_left
    · intro w hS; (try dsimp only at hS); obtain ⟨hS0, hS1⟩ := hS; go_simp; first | done | (with_reducible rfl)
    try simp only [Act.put, List.setIfInBounds_toArray, List.set_cons_zero, List.set_cons_succ]
    refine takeH (i := 4) (v := ?_) rfl (by kernel_rfl) (by kernel_rfl) (by kernel_rfl) (fun _ _ _ h => h) rfl ?_ hHeld ?_
    rotate_left
    · intro w hS; (try dsimp only at hS); obtain ⟨hS0, hS1⟩ := hS; go_simp; first | done | (with_reducible rfl)
    try simp only [Act.put, List.setIfInBounds_toArray, List.set_cons_zero, List.set_cons_succ]
    refine takeH (i := 5) (v := ?_) rfl (by kernel_rfl) (by kernel_rfl) (by kernel_rfl) (fun _ _ _ h => h) rfl ?_ hHeld ?_
    rotate_left
    · intro w hS; (try dsimp only at hS); obtain ⟨hS0, hS1⟩ := hS; go_simp; first | done | (with_reducible rfl)
    try simp only [Act.put, List.setIfInBounds_toArray, List.set_cons_zero, List.set_cons_succ]
    refine takeH (i := 6) (v := ?_) rfl (by kernel_rfl) (by kernel_rfl) (by kernel_rfl) (fun _ _ _ h => h) rfl ?_ hHeld ?_
    rotate_left
    · intro w hS; (try dsimp only at hS); obtain ⟨hS0, hS1⟩ := hS; go_simp; first | done | (with_reducible rfl)
    try simp only [Act.put, List.setIfInBounds_toArray, List.set_cons_zero, List.set_cons_succ]
    refine onlyH (i := 7) rfl (by kernel_rfl) rfl (fun K hK => ?_)
    go_simp
    refine hK.out _ _ (⟨m2, X2.out.1⟩) (fun hHeld => ?_)
    clear hK K
    try simp only [Act.put, List.setIfInBounds_toArray, List.set_cons_zero, List.set_cons_succ]
    refine wpAnyH_done (by kernel_rfl) ?_ _
    clear hHeld
    go_wp2_with fail
    refine wp_region_held_drew (S := fun W => W.cell? ⟨w.heap.size, 0, none⟩ = some (.string (strB o.1)) ∧ W.cell? ⟨w.heap.size, 1, none⟩ = some (.string (strB o.2))) (by kernel_rfl) (X2.out) (fun hHeld => ?_)
    refine takeH (i := 0) (v := ?_) rfl (by kernel_rfl) (by kernel_rfl) (by kernel_rfl) (fun _ _ _ h => h) rfl ?_ hHeld ?_
    rotate_left
    · intro w hS; (try dsimp only at hS); obtain ⟨hS0, hS1⟩ := hS; go_simp; first | done | (with_reducible rfl)
    try simp only [Act.put, List.setIfInBounds_toArray, List.set_cons_zero, List.set_cons_succ]
    refine takeH (i := 1) (v := ?_) rfl (by kernel_rfl) (by kernel_rfl) (by kernel_rfl) (fun _ _ _ h => h) rfl ?_ hHeld ?_
    rotate_left
    · intro w hS; (try dsimp only at hS); obtain ⟨hS0, hS1⟩ := hS; go_simp; first | done | (with_reducible rfl)
    try simp only [Act.put, List.setIfInBounds_toArray, List.set_cons_zero, List.set_cons_succ]
    refine takeH (i := 2) (v := ?_) rfl (by kernel_rfl) (by kernel_rfl) (by kernel_rfl) (fun _ _ _ h => h) rfl ?_ hHeld ?_
    rotate_left
    · intro w hS; (try dsimp only at hS); obtain ⟨hS0, hS1⟩ := hS; go_simp; first | done | (with_reducible rfl)
    try simp only [Act.put, List.setIfInBounds_toArray, List.set_cons_zero, List.set_cons_succ]
    refine takeH (i := 3) (v := ?_) rfl (by kernel_rfl) (by kernel_rfl) (by kernel_rfl) (fun _ _ _ h => h) rfl ?_ hHeld ?_
    rotate_left
    · intro w hS; (try dsimp only at hS); obtain ⟨hS0, hS1⟩ := hS; go_simp; first | done | (with_reducible rfl)
    try simp only [Act.put, List.setIfInBounds_toArray, List.set_cons_zero, List.set_cons_succ]
    refine takeH (i := 5) (v := ?_) rfl (by kernel_rfl) (by kernel_rfl) (by kernel_rfl) (fun _ _ _ h => h) rfl ?_ hHeld ?_
    rotate_left
    · intro w hS; (try dsimp only at hS); obtain ⟨hS0, hS1⟩ := hS; go_simp; first | done | (with_reducible rfl)
    try simp only [Act.put, List.setIfInBounds_toArray, List.set_cons_zero, List.set_cons_succ]
    refine twoH (i := 4) (j := 6) rfl rfl (by kernel_rfl) rfl rfl (fun K hK => ?_) (fun K hK => ?_)
    · go_simp
      refine hK.out _ _ (X2.out) (fun hHeld => ?_)
      clear hK K
      try simp only [Act.put, List.setIfInBounds_toArray, List.set_cons_zero, List.set_cons_succ]
      refine onlyH (i := 6) rfl (by kernel_rfl) rfl (fun K hK => ?_)
      go_simp
      refine hK.out _ _ (XA.out) (fun hHeld => ?_)
      clear hK K
      try simp only [Act.put, List.setIfInBounds_toArray, List.set_cons_zero, List.set_cons_succ]
      refine onlyH (i := 7) rfl (by kernel_rfl) rfl (fun K hK => ?_)
      refine wp_append_run (.tmp 32) (.tmp 34) 26 rfl rfl rfl HRUN.out ?_
      refine hK.out _ _ (X3.out) (fun hHeld => ?_)
      clear hK K
      try simp only [Act.put, List.setIfInBounds_toArray, List.set_cons_zero, List.set_cons_succ]
      refine takeH (i := 8) (v := ?_) rfl (by kernel_rfl) (by kernel_rfl) (by kernel_rfl) (fun _ _ _ h => h) rfl ?_ hHeld ?_
      rotate_left
      · intro w hS; (try dsimp only at hS); obtain ⟨hS0, hS1⟩ := hS; go_simp; first | done | (with_reducible rfl)
      try simp only [Act.put, List.setIfInBounds_toArray, List.set_cons_zero, List.set_cons_succ]
      refine takeH (i := 9) (v := ?_) rfl (by kernel_rfl) (by kernel_rfl) (by kernel_rfl) (fun _ _ _ h => h) rfl ?_ hHeld ?_
      rotate_left
      · intro w hS; (try dsimp only at hS); obtain ⟨hS0, hS1⟩ := hS; go_simp; first | done | (with_reducible rfl)
      try simp only [Act.put, List.setIfInBounds_toArray, List.set_cons_zero, List.set_cons_succ]
      refine onlyH (i := 10) rfl (by kernel_rfl) rfl (fun K hK => ?_)
      go_simp
      refine hK.out _ _ (X4.out) (fun hHeld => ?_)
      clear hK K
      try simp only [Act.put, List.setIfInBounds_toArray, List.set_cons_zero, List.set_cons_succ]
      refine wpAnyH_done (by kernel_rfl) ?_ _
      clear hHeld
      obtain ⟨hBd, hM4, hy4⟩ := FIN.out
      generalize w3.setCell ⟨g, 0, none⟩ (.slice vnA vnm vnc) = w4 at *
      go_wp2
      refine bodyPost_ret (results_cell_row rfl _ _ _ _ _ _ _ rfl (heap_set2 hy4) Tryz.underlying25 rfl Tryz.infoPart) rfl ⟨rfl, ?_, ?_, ?_⟩
      · obtain ⟨-, vo', mb', g1, g2, g3, g4⟩ := hBd
        have hm : Mv B [25] none w4 ((w4.setCell ⟨w.heap.size + 1, 0, none⟩ (.string (strB o.1))).setCell ⟨w.heap.size + 1, 1, none⟩ (.int .i64 z)) := ((Mv.refl B _ none w4).set (j := 0) hy4 (by decide) (by omega) _).set (j := 1) (heap_set1a hy4) (by decide) (by omega) _
        exact ⟨hg, vo', mb', hm.k _ _ _ _ g1 (by decide) (by simp), hm.own0 g2 (by decide), map_set (map_set g3 hy4 _) (heap_set1a hy4) _, g4⟩
      · exact (hM4.setNew (j := 0) (by omega) hB _).setNew (j := 1) (by omega) hB _
      · exact (heap_setOther (by omega)).trans ((heap_setOther (by omega)).trans HK4.out)
    · go_simp
      refine hK.out _ _ (XA.out) (fun hHeld => ?_)
      clear hK K
      try simp only [Act.put, List.setIfInBounds_toArray, List.set_cons_zero, List.set_cons_succ]
      refine onlyH (i := 4) rfl (by kernel_rfl) rfl (fun K hK => ?_)
      go_simp
      refine hK.out _ _ (XA.out) (fun hHeld => ?_)
      clear hK K
      try simp only [Act.put, List.setIfInBounds_toArray, List.set_cons_zero, List.set_cons_succ]
      refine onlyH (i := 7) rfl (by kernel_rfl) rfl (fun K hK => ?_)
      refine wp_append_run (.tmp 32) (.tmp 34) 26 rfl rfl rfl HRUN.out ?_
      refine hK.out _ _ (X3.out) (fun hHeld => ?_)
      clear hK K
      try simp only [Act.put, List.setIfInBounds_toArray, List.set_cons_zero, List.set_cons_succ]
      refine takeH (i := 8) (v := ?_) rfl (by kernel_rfl) (by kernel_rfl) (by kernel_rfl) (fun _ _ _ h => h) rfl ?_ hHeld ?_
      rotate_left
      · intro w hS; (try dsimp only at hS); obtain ⟨hS0, hS1⟩ := hS; go_simp; first | done | (with_reducible rfl)
      try simp only [Act.put, List.setIfInBounds_toArray, List.set_cons_zero, List.set_cons_succ]
      refine takeH (i := 9) (v := ?_) rfl (by kernel_rfl) (by kernel_rfl) (by kernel_rfl) (fun _ _ _ h => h) rfl ?_ hHeld ?_
      rotate_left
      · intro w hS; (try dsimp only at hS); obtain ⟨hS0, hS1⟩ := hS; go_simp; first | done | (with_reducible rfl)
      try simp only [Act.put, List.setIfInBounds_toArray, List.set_cons_zero, List.set_cons_succ]
      refine onlyH (i := 10) rfl (by kernel_rfl) rfl (fun K hK => ?_)
      go_simp
      refine hK.out _ _ (X4.out) (fun hHeld => ?_)
      clear hK K
      try simp only [Act.put, List.setIfInBounds_toArray, List.set_cons_zero, List.set_cons_succ]
      refine wpAnyH_done (by kernel_rfl) ?_ _
      clear hHeld
      obtain ⟨hBd, hM4, hy4⟩ := FIN.out
      generalize w3.setCell ⟨g, 0, none⟩ (.slice vnA vnm vnc) = w4 at *
      go_wp2
      refine bodyPost_ret (results_cell_row rfl _ _ _ _ _ _ _ rfl (heap_set2 hy4) Tryz.underlying25 rfl Tryz.infoPart) rfl ⟨rfl, ?_, ?_, ?_⟩
      · obtain ⟨-, vo', mb', g1, g2, g3, g4⟩ := hBd
        have hm : Mv B [25] none w4 ((w4.setCell ⟨w.heap.size + 1, 0, none⟩ (.string (strB o.1))).setCell ⟨w.heap.size + 1, 1, none⟩ (.int .i64 z)) := ((Mv.refl B _ none w4).set (j := 0) hy4 (by decide) (by omega) _).set (j := 1) (heap_set1a hy4) (by decide) (by omega) _
        exact ⟨hg, vo', mb', hm.k _ _ _ _ g1 (by decide) (by simp), hm.own0 g2 (by decide), map_set (map_set g3 hy4 _) (heap_set1a hy4) _, g4⟩
      · exact (hM4.setNew (j := 0) (by omega) hB _).setNew (j := 1) (by omega) hB _
      · exact (heap_setOther (by omega)).trans ((heap_setOther (by omega)).trans HK4.out)
end Go.Proofs.YtljhnakjkocanaaGreatDoor
