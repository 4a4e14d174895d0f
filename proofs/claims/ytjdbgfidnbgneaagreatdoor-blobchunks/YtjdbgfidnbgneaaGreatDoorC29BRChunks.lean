/-
  The reference tells a file's chunks. Conditions: the objects lie there; texts within reach.
-/
import Derived.Test.YtjdbgfidnbgneaaGreatDoorC26BRefC
import Derived.Test.YtjdbgfidnbgneaaGreatDoorC27BRRead
import Derived.Test.YtjdbgfidnbgneaaGreatDoorC28BList
namespace Go.Proofs.YtjdbgfidnbgneaaGreatDoor
open Go.RowKit

/-- What the reference's Chunks answers. -/
def rchSaid (B : Nat) (l : List Part) (ids : List Bs) (e : Int) (en : Ending) (w' : World) : Prop :=
  ∃ vl va, en = .returned (.tuple #[vl, va, .int .i64 e]) ∧ Rw B w' 25 2 partC vl l ∧ Rw B w' 9 1 idC va ids
set_option maxRecDepth 40000 in
set_option maxHeartbeats 1600000 in
theorem rchunks_no (w : World) (vo : Value) (p : Part) (h : rightR p = false) :
    Calls Tryz.prog 16 #[vo, .agg #[.string (strB p.1), .int .i64 p.2]] w fun e w' => e = .returned (.tuple #[.slice none 0 0, .slice none 0 0, .int .i64 2]) ∧ Below w.heap.size w w' := by
  have hb0 : Below w.heap.size w (w.alloc (.cells #[.string (strB p.1), .int .i64 p.2] 25)) := (Below.refl _ _).alloc (Nat.le_refl _) _
  have hri := rright_any (w.alloc (.cells #[.string (strB p.1), .int .i64 p.2] 25)) p
  rw [h] at hri
  have HB := hide hb0
  clear hb0 h
  go_enter Tryz.func16, Tryz.ntmps16
  go_wp2_with fail
  refine hri.mono ?_
  rintro e w1 ⟨rfl, hb1⟩
  have HB1 := hide (HB.out.trans (hb1.mono HB.out.size))
  clear hri hb1
  go_wp2
  go_ret3
  exact ⟨rfl, HB1.out⟩
set_option maxRecDepth 40000 in
set_option maxHeartbeats 1600000 in
theorem rchunksT_any (w : World) (vo : Value) (objs : List Pair) (hv : Ls w.heap.size w 2 pairC vo objs) (hob : ∀ o ∈ objs, o.2.length ≤ 140737488351232) (p : Part) (hr : rightR p = true) :
    Calls Tryz.prog 16 #[vo, .agg #[.string (strB p.1), .int .i64 p.2]] w fun e w' => rchSaid w.heap.size (partsOf (listP (findO objs) p [])) (listP (findO objs) p []).asked (listP (findO objs) p []).bad e w' ∧ Below w.heap.size w w' := by
  obtain ⟨r1, r2, r3⟩ := (rightR_iff p).1 hr
  have hb0 : Below w.heap.size w (w.alloc (.cells #[.string (strB p.1), .int .i64 p.2] 25)) := (Below.refl _ _).alloc (Nat.le_refl _) _
  have hx0 := heap_last w (.cells #[.string (strB p.1), .int .i64 p.2] 25) _ rfl
  generalize hw0 : w.alloc (.cells #[.string (strB p.1), .int .i64 p.2] 25) = w0 at *
  have c0 := cell_of_row w0 w.heap.size 0 _ _ _ hx0
  have c1 := cell_of_row w0 w.heap.size 1 _ _ _ hx0
  simp only [List.getElem?_toArray, List.getElem?_cons_zero, List.getElem?_cons_succ] at c0 c1
  have hri := rright_any w0 p
  rw [hr] at hri
  have HRI := hide hri
  have H0 := hide (And.intro hb0 hx0)
  have hvf := hv
  obtain ⟨ao, cap, hvv, -⟩ := hvf
  obtain ⟨m, hm⟩ : ∃ m, m = objs.length := ⟨_, rfl⟩
  rw [← hm] at hvv
  subst hvv
  have HV := hide hv
  clear hm
  clear hb0 hx0 hri hv
  unfold rchSaid
  by_cases hz : 0 < p.2
  · go_enter Tryz.func16, Tryz.ntmps16
    go_wp2_with fail
    try rw [hw0]
    refine HRI.out.mono ?_
    rintro e w1 ⟨rfl, hb1⟩
    have hx1 := (hb1.block _ (lt_of_heap H0.out.2)).trans H0.out.2
    have hB1 := H0.out.1.trans (hb1.mono H0.out.1.size)
    have hx3 := (heap_past w1 (.cells #[.slice ao m cap, .slice none 0 0, .slice none 0 0, .slice none 0 0, .int .i64 0] 76) _ (lt_of_heap hx1)).trans hx1
    have hg3 := heap_last w1 (.cells #[.slice ao m cap, .slice none 0 0, .slice none 0 0, .slice none 0 0, .int .i64 0] 76) _ rfl
    have hB3 := hB1.alloc hB1.size (.cells #[.slice ao m cap, .slice none 0 0, .slice none 0 0, .slice none 0 0, .int .i64 0] 76)
    have hR3 : RfW w.heap.size (w1.alloc (.cells #[.slice ao m cap, .slice none 0 0, .slice none 0 0, .slice none 0 0, .int .i64 0] 76)) w1.heap.size (.slice ao m cap) objs (.slice none 0 0) ⟨[], [], [], 0⟩ := ⟨hB1.size, HV.out.keep hB3, _, _, hg3, World.ownsRow_nil _ _ _ _, World.ownsRow_nil _ _ _ _, World.ownsRow_nil _ _ _ _⟩
    have c0 := cell_of_row w1 w.heap.size 0 _ _ _ hx1
    have c1 := cell_of_row w1 w.heap.size 1 _ _ _ hx1
    have d0 := cell_of_row (w1.alloc (.cells #[.slice ao m cap, .slice none 0 0, .slice none 0 0, .slice none 0 0, .int .i64 0] 76)) w.heap.size 0 _ _ _ hx3
    have d1 := cell_of_row (w1.alloc (.cells #[.slice ao m cap, .slice none 0 0, .slice none 0 0, .slice none 0 0, .int .i64 0] 76)) w.heap.size 1 _ _ _ hx3
    simp only [List.getElem?_toArray, List.getElem?_cons_zero, List.getElem?_cons_succ] at c0 c1 d0 d1
    have hgo := rchunks_any w1.heap.size (.slice ao m cap) objs w.heap.size hob 21 (w1.alloc (.cells #[.slice ao m cap, .slice none 0 0, .slice none 0 0, .slice none 0 0, .int .i64 0] 76)) p (-1) ⟨[], [], [], 0⟩ (.slice none 0 0) (.inl ⟨rfl, by omega⟩) (by omega) (by omega) hR3 (by simp only [List.length_nil]; omega) (by simp only [List.length_nil]; omega)
    have hrp : listP (findO objs) p [] = chR (findO objs) 21 p (-1) ⟨[], [], [], 0⟩ := by unfold listP; rw [if_neg (by omega), chR_ne _ _ _ _ _ (by decide)]
    rw [← hrp] at hgo
    obtain ⟨s, hs⟩ : ∃ s, s = listP (findO objs) p [] := ⟨_, rfl⟩
    rw [← hs] at hgo
    have HS := hide hs
    have H3 := hide hB3
    clear hb1 hx1 hB1 hg3 hx3 hB3 hR3 hrp hs
    go_wp2_with fail
    refine hgo.mono ?_
    rintro e w4 ⟨rfl, vp4, hR4, hM4, -⟩
    have hB4 : Below w.heap.size w w4 := H3.out.trans hM4.b
    clear hgo hM4
    generalize w1.heap.size = gg at *
    have HF := hide (And.intro hR4 hB4)
    obtain ⟨-, -, va, vd, hh4, hra, hrd, hrp4⟩ := hR4
    have u1 := cell_of_row w4 gg 1 _ _ _ hh4
    have u3 := cell_of_row w4 gg 3 _ _ _ hh4
    have u4 := cell_of_row w4 gg 4 _ _ _ hh4
    simp only [List.getElem?_toArray, List.getElem?_cons_zero, List.getElem?_cons_succ] at u1 u3 u4
    have HRA := hide hra
    have HRP := hide hrp4
    obtain ⟨vaA, vaM, vaC, rfl⟩ := row_form hra
    obtain ⟨vpA, vpM, vpC, rfl⟩ := row_form hrp4
    clear hh4 hra hrd hrp4 hB4
    by_cases hb : s.bad = 0
    · have hbb : (s.bad != 0) = false := by rw [hb]; rfl
      have HB0 := hide hb
      clear hb
      go_wp2_with fail
      refine wp_region_held_drew (S := fun W => W.cell? ⟨gg, 1, none⟩ = some (.slice vaA vaM vaC) ∧ W.cell? ⟨gg, 3, none⟩ = some (.slice vpA vpM vpC)) (by kernel_rfl) (⟨u1, u3⟩) (fun hHeld => ?_)
      refine takeH (i := 0) (v := ?_) rfl (by kernel_rfl) (by kernel_rfl) (by kernel_rfl) (fun _ _ _ h => h) rfl ?_ hHeld ?_
      rotate_left
      · intro w hS; (try dsimp only at hS); obtain ⟨hS0, hS1⟩ := hS; go_simp; first | done | (with_reducible rfl)
      try simp only [Act.put, List.setIfInBounds_toArray, List.set_cons_zero, List.set_cons_succ]
      refine takeH (i := 1) (v := ?_) rfl (by kernel_rfl) (by kernel_rfl) (by kernel_rfl) (fun _ _ _ h => h) rfl ?_ hHeld ?_
      rotate_left
      · intro w hS; (try dsimp only at hS); obtain ⟨hS0, hS1⟩ := hS; go_simp; first | done | (with_reducible rfl)
      try simp only [Act.put, List.setIfInBounds_toArray, List.set_cons_zero, List.set_cons_succ]
      refine takeH (i := 2) (v := ?_) rfl (by kernel_rfl) (by kernel_rfl) (by kernel_rfl) (fun _ _ _ h => h) rfl ?_ hHeld ?_
      rotate_left
      · intro w hS; (try dsimp only at hS); obtain ⟨hS0, hS1⟩ := hS; go_simp; first | done | (with_reducible rfl)
      try simp only [Act.put, List.setIfInBounds_toArray, List.set_cons_zero, List.set_cons_succ]
      refine takeH (i := 3) (v := ?_) rfl (by kernel_rfl) (by kernel_rfl) (by kernel_rfl) (fun _ _ _ h => h) rfl ?_ hHeld ?_
      rotate_left
      · intro w hS; (try dsimp only at hS); obtain ⟨hS0, hS1⟩ := hS; go_simp; first | done | (with_reducible rfl)
      try simp only [Act.put, List.setIfInBounds_toArray, List.set_cons_zero, List.set_cons_succ]
      refine takeH (i := 4) (v := ?_) rfl (by kernel_rfl) (by kernel_rfl) (by kernel_rfl) (fun _ _ _ h => h) rfl ?_ hHeld ?_
      rotate_left
      · intro w hS; (try dsimp only at hS); obtain ⟨hS0, hS1⟩ := hS; go_simp; first | done | (with_reducible rfl)
      try simp only [Act.put, List.setIfInBounds_toArray, List.set_cons_zero, List.set_cons_succ]
      refine takeH (i := 5) (v := ?_) rfl (by kernel_rfl) (by kernel_rfl) (by kernel_rfl) (fun _ _ _ h => h) rfl ?_ hHeld ?_
      rotate_left
      · intro w hS; (try dsimp only at hS); obtain ⟨hS0, hS1⟩ := hS; go_simp; first | done | (with_reducible rfl)
      try simp only [Act.put, List.setIfInBounds_toArray, List.set_cons_zero, List.set_cons_succ]
      refine takeH (i := 6) (v := ?_) rfl (by kernel_rfl) (by kernel_rfl) (by kernel_rfl) (fun _ _ _ h => h) rfl ?_ hHeld ?_
      rotate_left
      · intro w hS; (try dsimp only at hS); obtain ⟨hS0, hS1⟩ := hS; go_simp; first | done | (with_reducible rfl)
      try simp only [Act.put, List.setIfInBounds_toArray, List.set_cons_zero, List.set_cons_succ]
      refine takeH (i := 7) (v := ?_) rfl (by kernel_rfl) (by kernel_rfl) (by kernel_rfl) (fun _ _ _ h => h) rfl ?_ hHeld ?_
      rotate_left
      · intro w hS; (try dsimp only at hS); obtain ⟨hS0, hS1⟩ := hS; go_simp; first | done | (with_reducible rfl)
      try simp only [Act.put, List.setIfInBounds_toArray, List.set_cons_zero, List.set_cons_succ]
      refine takeH (i := 8) (v := ?_) rfl (by kernel_rfl) (by kernel_rfl) (by kernel_rfl) (fun _ _ _ h => h) rfl ?_ hHeld ?_
      rotate_left
      · intro w hS; (try dsimp only at hS); obtain ⟨hS0, hS1⟩ := hS; go_simp; first | done | (with_reducible rfl)
      try simp only [Act.put, List.setIfInBounds_toArray, List.set_cons_zero, List.set_cons_succ]
      refine takeH (i := 9) (v := ?_) rfl (by kernel_rfl) (by kernel_rfl) (by kernel_rfl) (fun _ _ _ h => h) rfl ?_ hHeld ?_
      rotate_left
      · intro w hS; (try dsimp only at hS); obtain ⟨hS0, hS1⟩ := hS; go_simp; first | done | (with_reducible rfl)
      try simp only [Act.put, List.setIfInBounds_toArray, List.set_cons_zero, List.set_cons_succ]
      refine takeH (i := 10) (v := ?_) rfl (by kernel_rfl) (by kernel_rfl) (by kernel_rfl) (fun _ _ _ h => h) rfl ?_ hHeld ?_
      rotate_left
      · intro w hS; (try dsimp only at hS); obtain ⟨hS0, hS1⟩ := hS; go_simp; first | done | (with_reducible rfl)
      try simp only [Act.put, List.setIfInBounds_toArray, List.set_cons_zero, List.set_cons_succ]
      refine wpAnyH_done (by kernel_rfl) ?_ _
      clear hHeld
      go_wp2
      go_ret3
      rw [← HS.out]
      refine ⟨⟨.slice vpA vpM vpC, .slice vaA vaM vaC, ?_, ?_, HRA.out⟩, HF.out.2.drew⟩
      · rw [HB0.out]; rfl
      · rw [show partsOf s = s.parts from if_pos HB0.out]; exact HRP.out
    · have hbb : (s.bad != 0) = true := by simpa using hb
      have HB0 := hide hb
      clear hb
      go_wp2_with fail
      refine wp_region_held_drew (S := fun W => W.cell? ⟨gg, 1, none⟩ = some (.slice vaA vaM vaC) ∧ W.cell? ⟨gg, 4, none⟩ = some (.int .i64 s.bad)) (by kernel_rfl) (⟨u1, u4⟩) (fun hHeld => ?_)
      refine takeH (i := 0) (v := ?_) rfl (by kernel_rfl) (by kernel_rfl) (by kernel_rfl) (fun _ _ _ h => h) rfl ?_ hHeld ?_
      rotate_left
      · intro w hS; (try dsimp only at hS); obtain ⟨hS0, hS1⟩ := hS; go_simp; first | done | (with_reducible rfl)
      try simp only [Act.put, List.setIfInBounds_toArray, List.set_cons_zero, List.set_cons_succ]
      refine takeH (i := 1) (v := ?_) rfl (by kernel_rfl) (by kernel_rfl) (by kernel_rfl) (fun _ _ _ h => h) rfl ?_ hHeld ?_
      rotate_left
      · intro w hS; (try dsimp only at hS); obtain ⟨hS0, hS1⟩ := hS; go_simp; first | done | (with_reducible rfl)
      try simp only [Act.put, List.setIfInBounds_toArray, List.set_cons_zero, List.set_cons_succ]
      refine takeH (i := 2) (v := ?_) rfl (by kernel_rfl) (by kernel_rfl) (by kernel_rfl) (fun _ _ _ h => h) rfl ?_ hHeld ?_
      rotate_left
      · intro w hS; (try dsimp only at hS); obtain ⟨hS0, hS1⟩ := hS; go_simp; first | done | (with_reducible rfl)
      try simp only [Act.put, List.setIfInBounds_toArray, List.set_cons_zero, List.set_cons_succ]
      refine takeH (i := 3) (v := ?_) rfl (by kernel_rfl) (by kernel_rfl) (by kernel_rfl) (fun _ _ _ h => h) rfl ?_ hHeld ?_
      rotate_left
      · intro w hS; (try dsimp only at hS); obtain ⟨hS0, hS1⟩ := hS; go_simp; first | done | (with_reducible rfl)
      try simp only [Act.put, List.setIfInBounds_toArray, List.set_cons_zero, List.set_cons_succ]
      refine takeH (i := 4) (v := ?_) rfl (by kernel_rfl) (by kernel_rfl) (by kernel_rfl) (fun _ _ _ h => h) rfl ?_ hHeld ?_
      rotate_left
      · intro w hS; (try dsimp only at hS); obtain ⟨hS0, hS1⟩ := hS; go_simp; first | done | (with_reducible rfl)
      try simp only [Act.put, List.setIfInBounds_toArray, List.set_cons_zero, List.set_cons_succ]
      refine takeH (i := 5) (v := ?_) rfl (by kernel_rfl) (by kernel_rfl) (by kernel_rfl) (fun _ _ _ h => h) rfl ?_ hHeld ?_
      rotate_left
      · intro w hS; (try dsimp only at hS); obtain ⟨hS0, hS1⟩ := hS; go_simp; first | done | (with_reducible rfl)
      try simp only [Act.put, List.setIfInBounds_toArray, List.set_cons_zero, List.set_cons_succ]
      refine takeH (i := 6) (v := ?_) rfl (by kernel_rfl) (by kernel_rfl) (by kernel_rfl) (fun _ _ _ h => h) rfl ?_ hHeld ?_
      rotate_left
      · intro w hS; (try dsimp only at hS); obtain ⟨hS0, hS1⟩ := hS; go_simp; first | done | (with_reducible rfl)
      try simp only [Act.put, List.setIfInBounds_toArray, List.set_cons_zero, List.set_cons_succ]
      refine takeH (i := 7) (v := ?_) rfl (by kernel_rfl) (by kernel_rfl) (by kernel_rfl) (fun _ _ _ h => h) rfl ?_ hHeld ?_
      rotate_left
      · intro w hS; (try dsimp only at hS); obtain ⟨hS0, hS1⟩ := hS; go_simp; first | done | (with_reducible rfl)
      try simp only [Act.put, List.setIfInBounds_toArray, List.set_cons_zero, List.set_cons_succ]
      refine takeH (i := 8) (v := ?_) rfl (by kernel_rfl) (by kernel_rfl) (by kernel_rfl) (fun _ _ _ h => h) rfl ?_ hHeld ?_
      rotate_left
      · intro w hS; (try dsimp only at hS); obtain ⟨hS0, hS1⟩ := hS; go_simp; first | done | (with_reducible rfl)
      try simp only [Act.put, List.setIfInBounds_toArray, List.set_cons_zero, List.set_cons_succ]
      refine takeH (i := 9) (v := ?_) rfl (by kernel_rfl) (by kernel_rfl) (by kernel_rfl) (fun _ _ _ h => h) rfl ?_ hHeld ?_
      rotate_left
      · intro w hS; (try dsimp only at hS); obtain ⟨hS0, hS1⟩ := hS; go_simp; first | done | (with_reducible rfl)
      try simp only [Act.put, List.setIfInBounds_toArray, List.set_cons_zero, List.set_cons_succ]
      refine takeH (i := 10) (v := ?_) rfl (by kernel_rfl) (by kernel_rfl) (by kernel_rfl) (fun _ _ _ h => h) rfl ?_ hHeld ?_
      rotate_left
      · intro w hS; (try dsimp only at hS); obtain ⟨hS0, hS1⟩ := hS; go_simp; first | done | (with_reducible rfl)
      try simp only [Act.put, List.setIfInBounds_toArray, List.set_cons_zero, List.set_cons_succ]
      refine wpAnyH_done (by kernel_rfl) ?_ _
      clear hHeld
      go_wp2
      go_ret3
      rw [← HS.out]
      refine ⟨⟨.slice none 0 0, .slice vaA vaM vaC, rfl, ?_, HRA.out⟩, HF.out.2.drew⟩
      rw [show partsOf s = [] from if_neg HB0.out]; exact World.ownsRow_nil _ _ _ _
  · have hz0 : p.2 = 0 := by omega
    have HZ := hide hz0
    clear hz0
    go_enter Tryz.func16, Tryz.ntmps16
    go_wp2_with fail
    try rw [hw0]
    refine HRI.out.mono ?_
    rintro e w1 ⟨rfl, hb1⟩
    have hx1 := (hb1.block _ (lt_of_heap H0.out.2)).trans H0.out.2
    have hB1 := H0.out.1.trans (hb1.mono H0.out.1.size)
    have hx3 := (heap_past w1 (.cells #[.slice ao m cap, .slice none 0 0, .slice none 0 0, .slice none 0 0, .int .i64 0] 76) _ (lt_of_heap hx1)).trans hx1
    have hg3 := heap_last w1 (.cells #[.slice ao m cap, .slice none 0 0, .slice none 0 0, .slice none 0 0, .int .i64 0] 76) _ rfl
    have hB3 := hB1.alloc hB1.size (.cells #[.slice ao m cap, .slice none 0 0, .slice none 0 0, .slice none 0 0, .int .i64 0] 76)
    have c0 := cell_of_row w1 w.heap.size 0 _ _ _ hx1
    have c1 := cell_of_row w1 w.heap.size 1 _ _ _ hx1
    have d0 := cell_of_row (w1.alloc (.cells #[.slice ao m cap, .slice none 0 0, .slice none 0 0, .slice none 0 0, .int .i64 0] 76)) w.heap.size 0 _ _ _ hx3
    have d1 := cell_of_row (w1.alloc (.cells #[.slice ao m cap, .slice none 0 0, .slice none 0 0, .slice none 0 0, .int .i64 0] 76)) w.heap.size 1 _ _ _ hx3
    have e1 := cell_of_row (w1.alloc (.cells #[.slice ao m cap, .slice none 0 0, .slice none 0 0, .slice none 0 0, .int .i64 0] 76)) w1.heap.size 1 _ _ _ hg3
    have e3 := cell_of_row (w1.alloc (.cells #[.slice ao m cap, .slice none 0 0, .slice none 0 0, .slice none 0 0, .int .i64 0] 76)) w1.heap.size 3 _ _ _ hg3
    have e4 := cell_of_row (w1.alloc (.cells #[.slice ao m cap, .slice none 0 0, .slice none 0 0, .slice none 0 0, .int .i64 0] 76)) w1.heap.size 4 _ _ _ hg3
    simp only [List.getElem?_toArray, List.getElem?_cons_zero, List.getElem?_cons_succ] at c0 c1 d0 d1 e1 e3 e4
    have hrp : listP (findO objs) p [] = ⟨[], [], [], 0⟩ := by unfold listP; rw [if_pos HZ.out]
    have HS := hide hrp
    have H3 := hide hB3
    clear hb1 hx1 hB1 hg3 hx3 hB3 hrp
    go_wp2_with fail
    refine wp_region_held_drew (S := fun W => W.cell? ⟨w1.heap.size, 1, none⟩ = some (.slice none 0 0) ∧ W.cell? ⟨w1.heap.size, 3, none⟩ = some (.slice none 0 0)) (by kernel_rfl) (⟨e1, e3⟩) (fun hHeld => ?_)
    refine takeH (i := 0) (v := ?_) rfl (by kernel_rfl) (by kernel_rfl) (by kernel_rfl) (fun _ _ _ h => h) rfl ?_ hHeld ?_
    rotate_left
    · intro w hS; (try dsimp only at hS); obtain ⟨hS0, hS1⟩ := hS; go_simp; first | done | (with_reducible rfl)
    try simp only [Act.put, List.setIfInBounds_toArray, List.set_cons_zero, List.set_cons_succ]
    refine takeH (i := 1) (v := ?_) rfl (by kernel_rfl) (by kernel_rfl) (by kernel_rfl) (fun _ _ _ h => h) rfl ?_ hHeld ?_
    rotate_left
    · intro w hS; (try dsimp only at hS); obtain ⟨hS0, hS1⟩ := hS; go_simp; first | done | (with_reducible rfl)
    try simp only [Act.put, List.setIfInBounds_toArray, List.set_cons_zero, List.set_cons_succ]
    refine takeH (i := 2) (v := ?_) rfl (by kernel_rfl) (by kernel_rfl) (by kernel_rfl) (fun _ _ _ h => h) rfl ?_ hHeld ?_
    rotate_left
    · intro w hS; (try dsimp only at hS); obtain ⟨hS0, hS1⟩ := hS; go_simp; first | done | (with_reducible rfl)
    try simp only [Act.put, List.setIfInBounds_toArray, List.set_cons_zero, List.set_cons_succ]
    refine takeH (i := 3) (v := ?_) rfl (by kernel_rfl) (by kernel_rfl) (by kernel_rfl) (fun _ _ _ h => h) rfl ?_ hHeld ?_
    rotate_left
    · intro w hS; (try dsimp only at hS); obtain ⟨hS0, hS1⟩ := hS; go_simp; first | done | (with_reducible rfl)
    try simp only [Act.put, List.setIfInBounds_toArray, List.set_cons_zero, List.set_cons_succ]
    refine takeH (i := 4) (v := ?_) rfl (by kernel_rfl) (by kernel_rfl) (by kernel_rfl) (fun _ _ _ h => h) rfl ?_ hHeld ?_
    rotate_left
    · intro w hS; (try dsimp only at hS); obtain ⟨hS0, hS1⟩ := hS; go_simp; first | done | (with_reducible rfl)
    try simp only [Act.put, List.setIfInBounds_toArray, List.set_cons_zero, List.set_cons_succ]
    refine takeH (i := 5) (v := ?_) rfl (by kernel_rfl) (by kernel_rfl) (by kernel_rfl) (fun _ _ _ h => h) rfl ?_ hHeld ?_
    rotate_left
    · intro w hS; (try dsimp only at hS); obtain ⟨hS0, hS1⟩ := hS; go_simp; first | done | (with_reducible rfl)
    try simp only [Act.put, List.setIfInBounds_toArray, List.set_cons_zero, List.set_cons_succ]
    refine takeH (i := 6) (v := ?_) rfl (by kernel_rfl) (by kernel_rfl) (by kernel_rfl) (fun _ _ _ h => h) rfl ?_ hHeld ?_
    rotate_left
    · intro w hS; (try dsimp only at hS); obtain ⟨hS0, hS1⟩ := hS; go_simp; first | done | (with_reducible rfl)
    try simp only [Act.put, List.setIfInBounds_toArray, List.set_cons_zero, List.set_cons_succ]
    refine takeH (i := 7) (v := ?_) rfl (by kernel_rfl) (by kernel_rfl) (by kernel_rfl) (fun _ _ _ h => h) rfl ?_ hHeld ?_
    rotate_left
    · intro w hS; (try dsimp only at hS); obtain ⟨hS0, hS1⟩ := hS; go_simp; first | done | (with_reducible rfl)
    try simp only [Act.put, List.setIfInBounds_toArray, List.set_cons_zero, List.set_cons_succ]
    refine takeH (i := 8) (v := ?_) rfl (by kernel_rfl) (by kernel_rfl) (by kernel_rfl) (fun _ _ _ h => h) rfl ?_ hHeld ?_
    rotate_left
    · intro w hS; (try dsimp only at hS); obtain ⟨hS0, hS1⟩ := hS; go_simp; first | done | (with_reducible rfl)
    try simp only [Act.put, List.setIfInBounds_toArray, List.set_cons_zero, List.set_cons_succ]
    refine takeH (i := 9) (v := ?_) rfl (by kernel_rfl) (by kernel_rfl) (by kernel_rfl) (fun _ _ _ h => h) rfl ?_ hHeld ?_
    rotate_left
    · intro w hS; (try dsimp only at hS); obtain ⟨hS0, hS1⟩ := hS; go_simp; first | done | (with_reducible rfl)
    try simp only [Act.put, List.setIfInBounds_toArray, List.set_cons_zero, List.set_cons_succ]
    refine takeH (i := 10) (v := ?_) rfl (by kernel_rfl) (by kernel_rfl) (by kernel_rfl) (fun _ _ _ h => h) rfl ?_ hHeld ?_
    rotate_left
    · intro w hS; (try dsimp only at hS); obtain ⟨hS0, hS1⟩ := hS; go_simp; first | done | (with_reducible rfl)
    try simp only [Act.put, List.setIfInBounds_toArray, List.set_cons_zero, List.set_cons_succ]
    refine wpAnyH_done (by kernel_rfl) ?_ _
    clear hHeld
    go_wp2
    go_ret3
    rw [HS.out]
    exact ⟨⟨.slice none 0 0, .slice none 0 0, rfl, World.ownsRow_nil _ _ _ _, World.ownsRow_nil _ _ _ _⟩, H3.out.drew⟩
end Go.Proofs.YtjdbgfidnbgneaaGreatDoor
