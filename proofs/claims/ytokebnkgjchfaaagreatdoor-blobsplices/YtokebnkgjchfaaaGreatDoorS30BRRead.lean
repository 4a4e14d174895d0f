/-
  Texts joined: BRRead, BSpliceP.
-/
import Derived.Test.YtokebnkgjchfaaaGreatDoorS29BRef
import Derived.Test.YtokebnkgjchfaaaGreatDoorS28BRise
/-
  The reference reads some of a file's bytes. Conditions: the objects lie there; texts within reach.
-/
namespace Go.Proofs.YtokebnkgjchfaaaGreatDoor
open Go.RowKit

set_option maxRecDepth 20000 in
theorem rright_any (w : World) (p : Part) : Calls Tryz.prog 29 #[.agg #[.string (strB p.1), .int .i64 p.2]] w fun e w' => e = .returned (.bool (rightR p)) ∧ Below w.heap.size w w' := by
  have hs := strB_size p.1
  have hb : Below w.heap.size w (w.alloc (.cells #[.string (strB p.1), .int .i64 p.2] 25)) := (Below.refl _ _).alloc (Nat.le_refl _) _
  have HB := hide hb
  clear hb
  by_cases h1 : p.1.length = 32
  · have b1 : ((p.1.length : Int) == 32) = true := by simp [h1]
    by_cases h2 : 0 ≤ p.2
    · have hr : rightR p = decide (p.2 ≤ 262144) := by unfold rightR; simp [h1, h2]
      have HR := hide hr
      clear hr h1
      go_enter Tryz.func29, Tryz.ntmps29
      go_wp2
      go_ret
      exact ⟨by rw [HR.out]; rfl, HB.out⟩
    · have hr : rightR p = false := by unfold rightR; simp [h1, h2]
      have HR := hide hr
      clear hr h1
      go_enter Tryz.func29, Tryz.ntmps29
      go_wp2
      go_ret
      exact ⟨by rw [HR.out]; rfl, HB.out⟩
  · have b1 : ((p.1.length : Int) == 32) = false := by rw [beq_eq_false_iff_ne]; omega
    have hr : rightR p = false := by unfold rightR; simp [h1]
    have HR := hide hr
    clear hr h1
    go_enter Tryz.func29, Tryz.ntmps29
    go_wp2
    go_ret
    exact ⟨by rw [HR.out]; rfl, HB.out⟩
/-- What was read, if nothing is bad. -/
def dataOf (s : Wk) : Bs := if s.bad = 0 then s.data else []
/-- What the reference's Read answers. -/
def rreadSaid (B : Nat) (t : Bs) (ids : List Bs) (e : Int) (en : Ending) (w' : World) : Prop :=
  ∃ va, en = .returned (.tuple #[.string (strB t), va, .int .i64 e]) ∧ Rw B w' 9 1 idC va ids
theorem readP_skip {fd : Bs → Option Bs} {p : Part} {f n : Int} {asked : List Bs} (h : endP p.2 f n ≤ f) (hf : 0 ≤ f) : readP fd p f n asked = ⟨asked, [], [], 0⟩ := by
  unfold readP
  exact goS_skip (by omega)
set_option maxRecDepth 40000 in
set_option maxHeartbeats 1600000 in
theorem rread_any (w : World) (vo : Value) (objs : List Pair) (hv : Ls w.heap.size w 2 pairC vo objs) (hob : ∀ o ∈ objs, o.2.length ≤ 140737488351232) (p : Part) (f n : Int) (hr : rightR p = true) (hf : 0 ≤ f) (hf2 : f ≤ 9223372036854775807) (hn : 0 ≤ n) (hn2 : n ≤ 9223372036854775807) :
    Calls Tryz.prog 30 #[vo, .agg #[.string (strB p.1), .int .i64 p.2], .int .i64 f, .int .i64 n] w fun e w' => rreadSaid w.heap.size (dataOf (readP (findO objs) p f n [])) (readP (findO objs) p f n []).asked (readP (findO objs) p f n []).bad e w' ∧ Below w.heap.size w w' := by
  obtain ⟨r1, r2, r3⟩ := (rightR_iff p).1 hr
  have hb0 : Below w.heap.size w (w.alloc (.cells #[.string (strB p.1), .int .i64 p.2] 25)) := (Below.refl _ _).alloc (Nat.le_refl _) _
  have hx0 := heap_last w (.cells #[.string (strB p.1), .int .i64 p.2] 25) _ rfl
  generalize hw0 : w.alloc (.cells #[.string (strB p.1), .int .i64 p.2] 25) = w0 at *
  have c0 := cell_of_row w0 w.heap.size 0 _ _ _ hx0
  have c1 := cell_of_row w0 w.heap.size 1 _ _ _ hx0
  simp only [List.getElem?_toArray, List.getElem?_cons_zero, List.getElem?_cons_succ] at c0 c1
  have hri := rright_any w0 p
  rw [hr] at hri
  have HRI := hide hri
  have H0 := hide (And.intro hb0 hx0)
  have hvf := hv
  obtain ⟨ao, cap, hvv, -⟩ := hvf
  obtain ⟨m, hm⟩ : ∃ m, m = objs.length := ⟨_, rfl⟩
  rw [← hm] at hvv
  subst hvv
  have HV := hide hv
  clear hm
  have hE : endP p.2 f n = f + min n (p.2 - f) := rfl
  obtain ⟨y, hy⟩ : ∃ y, y = endP p.2 f n := ⟨_, rfl⟩
  rw [← hy] at hE
  have HY := hide hy
  clear hb0 hx0 hri hv hy
  unfold rreadSaid
  by_cases hfp : f < p.2
  · by_cases hnp : n < p.2 - f
    · obtain rfl : y = f + n := by omega
      clear hE
      by_cases hfy : f < f + n
      · have hy2 : f + n ≤ 262144 := by omega
        go_enter Tryz.func30, Tryz.ntmps30
        go_wp2_with fail
        try rw [hw0]
        refine HRI.out.mono ?_
        rintro e w1 ⟨rfl, hb1⟩
        have hx1 := (hb1.block _ (lt_of_heap H0.out.2)).trans H0.out.2
        have hB1 := H0.out.1.trans (hb1.mono H0.out.1.size)
        have hx3 := (heap_past w1 (.cells #[.slice ao m cap, .slice none 0 0, .slice none 0 0, .slice none 0 0, .int .i64 0] 76) _ (lt_of_heap hx1)).trans hx1
        have hg3 := heap_last w1 (.cells #[.slice ao m cap, .slice none 0 0, .slice none 0 0, .slice none 0 0, .int .i64 0] 76) _ rfl
        have hB3 := hB1.alloc hB1.size (.cells #[.slice ao m cap, .slice none 0 0, .slice none 0 0, .slice none 0 0, .int .i64 0] 76)
        have hR3 : RfW w.heap.size (w1.alloc (.cells #[.slice ao m cap, .slice none 0 0, .slice none 0 0, .slice none 0 0, .int .i64 0] 76)) w1.heap.size (.slice ao m cap) objs (.slice none 0 0) ⟨[], [], [], 0⟩ := ⟨hB1.size, HV.out.keep hB3, _, _, hg3, World.ownsRow_nil _ _ _ _, World.ownsRow_nil _ _ _ _, World.ownsRow_nil _ _ _ _⟩
        have c0 := cell_of_row w1 w.heap.size 0 _ _ _ hx1
        have c1 := cell_of_row w1 w.heap.size 1 _ _ _ hx1
        have d0 := cell_of_row (w1.alloc (.cells #[.slice ao m cap, .slice none 0 0, .slice none 0 0, .slice none 0 0, .int .i64 0] 76)) w.heap.size 0 _ _ _ hx3
        have d1 := cell_of_row (w1.alloc (.cells #[.slice ao m cap, .slice none 0 0, .slice none 0 0, .slice none 0 0, .int .i64 0] 76)) w.heap.size 1 _ _ _ hx3
        have e1 := cell_of_row (w1.alloc (.cells #[.slice ao m cap, .slice none 0 0, .slice none 0 0, .slice none 0 0, .int .i64 0] 76)) w1.heap.size 1 _ _ _ hg3
        have e2 := cell_of_row (w1.alloc (.cells #[.slice ao m cap, .slice none 0 0, .slice none 0 0, .slice none 0 0, .int .i64 0] 76)) w1.heap.size 2 _ _ _ hg3
        have e4 := cell_of_row (w1.alloc (.cells #[.slice ao m cap, .slice none 0 0, .slice none 0 0, .slice none 0 0, .int .i64 0] 76)) w1.heap.size 4 _ _ _ hg3
        simp only [List.getElem?_toArray, List.getElem?_cons_zero, List.getElem?_cons_succ] at c0 c1 d0 d1 e1 e2 e4
        have hgo := goes_any w1.heap.size (.slice ao m cap) objs w.heap.size f (f + n) hfy hf hy2 hob 21 (w1.alloc (.cells #[.slice ao m cap, .slice none 0 0, .slice none 0 0, .slice none 0 0, .int .i64 0] 76)) p 0 (-1) ⟨[], [], [], 0⟩ (.slice none 0 0) (.inl ⟨rfl, by omega⟩) (by omega) (by omega) (by omega) hR3 (by simp only [List.length_nil]; omega) (by simp only [List.length_nil]; omega) (by simp only [List.length_nil]; omega)
        have hrp : readP (findO objs) p f n [] = goS (findO objs) f (f + n) 21 p 0 (-1) ⟨[], [], [], 0⟩ := by unfold readP; rw [← HY.out]
        rw [← hrp] at hgo
        obtain ⟨s, hs⟩ : ∃ s, s = readP (findO objs) p f n [] := ⟨_, rfl⟩
        rw [← hs] at hgo
        have HS := hide hs
        have H3 := hide hB3
        clear hb1 hx1 hB1 hg3 hx3 hB3 hR3 hrp hs
        go_wp2_with fail
        refine hgo.mono ?_
        rintro e w4 ⟨rfl, vp4, hR4, hM4, -⟩
        have hB4 : Below w.heap.size w w4 := H3.out.trans hM4.b
        clear hgo hM4
        generalize w1.heap.size = gg at *
        have HF := hide (And.intro hR4 hB4)
        obtain ⟨-, -, va, vd, hh4, hra, hrd, -⟩ := hR4
        have u1 := cell_of_row w4 gg 1 _ _ _ hh4
        have u2 := cell_of_row w4 gg 2 _ _ _ hh4
        have u4 := cell_of_row w4 gg 4 _ _ _ hh4
        simp only [List.getElem?_toArray, List.getElem?_cons_zero, List.getElem?_cons_succ] at u1 u2 u4
        have hcv : (convert 74 9 vd).run Tryz.prog w4.drew = .ok (.string (strB s.data)) w4.drew := run_strV (sl_of_own hrd) w4.drew (Below.refl _ _).drew
        have HRA := hide hra
        obtain ⟨vaA, vaM, vaC, rfl⟩ := row_form hra
        obtain ⟨vdA, vdM, vdC, rfl⟩ := row_form hrd
        clear hh4 hra hrd hB4
        by_cases hb : s.bad = 0
        · have hbb : (s.bad != 0) = false := by rw [hb]; rfl
          have HB0 := hide hb
          clear hb
          go_wp2_with fail
          refine wp_region_held_drew (S := fun W => W.cell? ⟨gg, 1, none⟩ = some (.slice vaA vaM vaC) ∧ W.cell? ⟨gg, 2, none⟩ = some (.slice vdA vdM vdC) ∧ (convert 74 9 (.slice vdA vdM vdC)).run Tryz.prog W = .ok (.string (strB s.data)) W) (by kernel_rfl) (⟨u1, u2, hcv⟩) (fun hHeld => ?_)
          refine takeJ 0 (v := ?_) ?_ hHeld ?_
          rotate_left
          · rintro w ⟨_, _, _⟩; go_simp; try with_reducible rfl
          refine takeJ 1 (v := ?_) ?_ hHeld ?_
          rotate_left
          · rintro w ⟨_, _, _⟩; go_simp; try with_reducible rfl
          refine takeJ 2 (v := ?_) ?_ hHeld ?_
          rotate_left
          · rintro w ⟨_, _, _⟩; go_simp; try with_reducible rfl
          refine takeJ 3 (v := ?_) ?_ hHeld ?_
          rotate_left
          · rintro w ⟨_, _, _⟩; go_simp; try with_reducible rfl
          refine takeJ 4 (v := ?_) ?_ hHeld ?_
          rotate_left
          · rintro w ⟨_, _, _⟩; go_simp; try with_reducible rfl
          refine takeJ 5 (v := ?_) ?_ hHeld ?_
          rotate_left
          · rintro w ⟨_, _, _⟩; go_simp; try with_reducible rfl
          refine takeJ 6 (v := ?_) ?_ hHeld ?_
          rotate_left
          · rintro w ⟨_, _, _⟩; go_simp; try with_reducible rfl
          refine takeJ 7 (v := ?_) ?_ hHeld ?_
          rotate_left
          · rintro w ⟨_, _, _⟩; go_simp; try with_reducible rfl
          refine takeJ 8 (v := ?_) ?_ hHeld ?_
          rotate_left
          · rintro w ⟨_, _, _⟩; go_simp; try with_reducible rfl
          refine takeJ 9 (v := ?_) ?_ hHeld ?_
          rotate_left
          · rintro w ⟨_, _, _⟩; go_simp; try with_reducible rfl
          refine takeJ 10 (v := ?_) ?_ hHeld ?_
          rotate_left
          · rintro w ⟨_, _, _⟩; go_simp; try with_reducible rfl
          refine takeJ 11 (v := ?_) ?_ hHeld ?_
          rotate_left
          · rintro w ⟨_, _, _⟩; go_simp; try with_reducible rfl
          refine wpAnyH_done (by kernel_rfl) ?_ _
          clear hHeld
          go_wp2
          go_ret3
          rw [← HS.out]
          refine ⟨⟨_, ?_, HRA.out⟩, HF.out.2.drew⟩
          rw [show dataOf s = s.data from if_pos HB0.out, HB0.out]; rfl
        · have hbb : (s.bad != 0) = true := by simpa using hb
          have HB0 := hide hb
          clear hb
          go_wp2_with fail
          refine wp_region_held_drew (S := fun W => W.cell? ⟨gg, 1, none⟩ = some (.slice vaA vaM vaC) ∧ W.cell? ⟨gg, 4, none⟩ = some (.int .i64 s.bad)) (by kernel_rfl) (⟨u1, u4⟩) (fun hHeld => ?_)
          refine takeJ 0 (v := ?_) ?_ hHeld ?_
          rotate_left
          · rintro w ⟨_, _⟩; go_simp; try with_reducible rfl
          refine takeJ 1 (v := ?_) ?_ hHeld ?_
          rotate_left
          · rintro w ⟨_, _⟩; go_simp; try with_reducible rfl
          refine takeJ 2 (v := ?_) ?_ hHeld ?_
          rotate_left
          · rintro w ⟨_, _⟩; go_simp; try with_reducible rfl
          refine takeJ 3 (v := ?_) ?_ hHeld ?_
          rotate_left
          · rintro w ⟨_, _⟩; go_simp; try with_reducible rfl
          refine takeJ 4 (v := ?_) ?_ hHeld ?_
          rotate_left
          · rintro w ⟨_, _⟩; go_simp; try with_reducible rfl
          refine takeJ 5 (v := ?_) ?_ hHeld ?_
          rotate_left
          · rintro w ⟨_, _⟩; go_simp; try with_reducible rfl
          refine takeJ 6 (v := ?_) ?_ hHeld ?_
          rotate_left
          · rintro w ⟨_, _⟩; go_simp; try with_reducible rfl
          refine takeJ 7 (v := ?_) ?_ hHeld ?_
          rotate_left
          · rintro w ⟨_, _⟩; go_simp; try with_reducible rfl
          refine takeJ 8 (v := ?_) ?_ hHeld ?_
          rotate_left
          · rintro w ⟨_, _⟩; go_simp; try with_reducible rfl
          refine takeJ 9 (v := ?_) ?_ hHeld ?_
          rotate_left
          · rintro w ⟨_, _⟩; go_simp; try with_reducible rfl
          refine takeJ 10 (v := ?_) ?_ hHeld ?_
          rotate_left
          · rintro w ⟨_, _⟩; go_simp; try with_reducible rfl
          refine wpAnyH_done (by kernel_rfl) ?_ _
          clear hHeld
          go_wp2
          go_ret3
          rw [← HS.out]
          refine ⟨⟨_, ?_, HRA.out⟩, HF.out.2.drew⟩
          rw [show dataOf s = [] from if_neg HB0.out]; rfl
      · have hfn : f + n = f := by omega
        go_enter Tryz.func30, Tryz.ntmps30
        go_wp2_with fail
        try rw [hw0]
        refine HRI.out.mono ?_
        rintro e w1 ⟨rfl, hb1⟩
        have hx1 := (hb1.block _ (lt_of_heap H0.out.2)).trans H0.out.2
        have hB1 := H0.out.1.trans (hb1.mono H0.out.1.size)
        have hx3 := (heap_past w1 (.cells #[.slice ao m cap, .slice none 0 0, .slice none 0 0, .slice none 0 0, .int .i64 0] 76) _ (lt_of_heap hx1)).trans hx1
        have hg3 := heap_last w1 (.cells #[.slice ao m cap, .slice none 0 0, .slice none 0 0, .slice none 0 0, .int .i64 0] 76) _ rfl
        have hB3 := hB1.alloc hB1.size (.cells #[.slice ao m cap, .slice none 0 0, .slice none 0 0, .slice none 0 0, .int .i64 0] 76)
        have hR3 : RfW w.heap.size (w1.alloc (.cells #[.slice ao m cap, .slice none 0 0, .slice none 0 0, .slice none 0 0, .int .i64 0] 76)) w1.heap.size (.slice ao m cap) objs (.slice none 0 0) ⟨[], [], [], 0⟩ := ⟨hB1.size, HV.out.keep hB3, _, _, hg3, World.ownsRow_nil _ _ _ _, World.ownsRow_nil _ _ _ _, World.ownsRow_nil _ _ _ _⟩
        have c0 := cell_of_row w1 w.heap.size 0 _ _ _ hx1
        have c1 := cell_of_row w1 w.heap.size 1 _ _ _ hx1
        have d0 := cell_of_row (w1.alloc (.cells #[.slice ao m cap, .slice none 0 0, .slice none 0 0, .slice none 0 0, .int .i64 0] 76)) w.heap.size 0 _ _ _ hx3
        have d1 := cell_of_row (w1.alloc (.cells #[.slice ao m cap, .slice none 0 0, .slice none 0 0, .slice none 0 0, .int .i64 0] 76)) w.heap.size 1 _ _ _ hx3
        have e1 := cell_of_row (w1.alloc (.cells #[.slice ao m cap, .slice none 0 0, .slice none 0 0, .slice none 0 0, .int .i64 0] 76)) w1.heap.size 1 _ _ _ hg3
        have e2 := cell_of_row (w1.alloc (.cells #[.slice ao m cap, .slice none 0 0, .slice none 0 0, .slice none 0 0, .int .i64 0] 76)) w1.heap.size 2 _ _ _ hg3
        have e4 := cell_of_row (w1.alloc (.cells #[.slice ao m cap, .slice none 0 0, .slice none 0 0, .slice none 0 0, .int .i64 0] 76)) w1.heap.size 4 _ _ _ hg3
        simp only [List.getElem?_toArray, List.getElem?_cons_zero, List.getElem?_cons_succ] at c0 c1 d0 d1 e1 e2 e4
        have hrp : readP (findO objs) p f n [] = ⟨[], [], [], 0⟩ := readP_skip (by rw [← HY.out]; omega) hf
        have HS := hide hrp
        have hcv : ∀ W : World, (convert 74 9 (.slice none 0 0)).run Tryz.prog W = .ok (.string (strB [])) W := fun W => run_strV (w := W) (sl_of_own (base := 0) (l := []) (World.ownsRow_nil _ _ _ _)) W (Below.refl _ _)
        have H3 := hide hB3
        clear hb1 hx1 hB1 hg3 hx3 hB3 hR3 hrp
        go_wp2_with fail
        refine wp_region_held_drew (S := fun W => W.cell? ⟨w1.heap.size, 1, none⟩ = some (.slice none 0 0) ∧ W.cell? ⟨w1.heap.size, 2, none⟩ = some (.slice none 0 0) ∧ (convert 74 9 (.slice none 0 0)).run Tryz.prog W = .ok (.string (strB [])) W) (by kernel_rfl) (⟨e1, e2, hcv _⟩) (fun hHeld => ?_)
        refine takeJ 0 (v := ?_) ?_ hHeld ?_
        rotate_left
        · rintro w ⟨_, _, _⟩; go_simp; try with_reducible rfl
        refine takeJ 1 (v := ?_) ?_ hHeld ?_
        rotate_left
        · rintro w ⟨_, _, _⟩; go_simp; try with_reducible rfl
        refine takeJ 2 (v := ?_) ?_ hHeld ?_
        rotate_left
        · rintro w ⟨_, _, _⟩; go_simp; try with_reducible rfl
        refine takeJ 3 (v := ?_) ?_ hHeld ?_
        rotate_left
        · rintro w ⟨_, _, _⟩; go_simp; try with_reducible rfl
        refine takeJ 4 (v := ?_) ?_ hHeld ?_
        rotate_left
        · rintro w ⟨_, _, _⟩; go_simp; try with_reducible rfl
        refine takeJ 5 (v := ?_) ?_ hHeld ?_
        rotate_left
        · rintro w ⟨_, _, _⟩; go_simp; try with_reducible rfl
        refine takeJ 6 (v := ?_) ?_ hHeld ?_
        rotate_left
        · rintro w ⟨_, _, _⟩; go_simp; try with_reducible rfl
        refine takeJ 7 (v := ?_) ?_ hHeld ?_
        rotate_left
        · rintro w ⟨_, _, _⟩; go_simp; try with_reducible rfl
        refine takeJ 8 (v := ?_) ?_ hHeld ?_
        rotate_left
        · rintro w ⟨_, _, _⟩; go_simp; try with_reducible rfl
        refine takeJ 9 (v := ?_) ?_ hHeld ?_
        rotate_left
        · rintro w ⟨_, _, _⟩; go_simp; try with_reducible rfl
        refine takeJ 10 (v := ?_) ?_ hHeld ?_
        rotate_left
        · rintro w ⟨_, _, _⟩; go_simp; try with_reducible rfl
        refine takeJ 11 (v := ?_) ?_ hHeld ?_
        rotate_left
        · rintro w ⟨_, _, _⟩; go_simp; try with_reducible rfl
        refine wpAnyH_done (by kernel_rfl) ?_ _
        clear hHeld
        go_wp2
        go_ret3
        rw [HS.out]
        exact ⟨⟨_, rfl, World.ownsRow_nil _ _ _ _⟩, H3.out.drew⟩
    · obtain rfl : y = p.2 := by omega
      clear hE
      have hfy : f < p.2 := hfp
      have hy2 := r3
      go_enter Tryz.func30, Tryz.ntmps30
      go_wp2_with fail
      try rw [hw0]
      refine HRI.out.mono ?_
      rintro e w1 ⟨rfl, hb1⟩
      have hx1 := (hb1.block _ (lt_of_heap H0.out.2)).trans H0.out.2
      have hB1 := H0.out.1.trans (hb1.mono H0.out.1.size)
      have hx3 := (heap_past w1 (.cells #[.slice ao m cap, .slice none 0 0, .slice none 0 0, .slice none 0 0, .int .i64 0] 76) _ (lt_of_heap hx1)).trans hx1
      have hg3 := heap_last w1 (.cells #[.slice ao m cap, .slice none 0 0, .slice none 0 0, .slice none 0 0, .int .i64 0] 76) _ rfl
      have hB3 := hB1.alloc hB1.size (.cells #[.slice ao m cap, .slice none 0 0, .slice none 0 0, .slice none 0 0, .int .i64 0] 76)
      have hR3 : RfW w.heap.size (w1.alloc (.cells #[.slice ao m cap, .slice none 0 0, .slice none 0 0, .slice none 0 0, .int .i64 0] 76)) w1.heap.size (.slice ao m cap) objs (.slice none 0 0) ⟨[], [], [], 0⟩ := ⟨hB1.size, HV.out.keep hB3, _, _, hg3, World.ownsRow_nil _ _ _ _, World.ownsRow_nil _ _ _ _, World.ownsRow_nil _ _ _ _⟩
      have c0 := cell_of_row w1 w.heap.size 0 _ _ _ hx1
      have c1 := cell_of_row w1 w.heap.size 1 _ _ _ hx1
      have d0 := cell_of_row (w1.alloc (.cells #[.slice ao m cap, .slice none 0 0, .slice none 0 0, .slice none 0 0, .int .i64 0] 76)) w.heap.size 0 _ _ _ hx3
      have d1 := cell_of_row (w1.alloc (.cells #[.slice ao m cap, .slice none 0 0, .slice none 0 0, .slice none 0 0, .int .i64 0] 76)) w.heap.size 1 _ _ _ hx3
      have e1 := cell_of_row (w1.alloc (.cells #[.slice ao m cap, .slice none 0 0, .slice none 0 0, .slice none 0 0, .int .i64 0] 76)) w1.heap.size 1 _ _ _ hg3
      have e2 := cell_of_row (w1.alloc (.cells #[.slice ao m cap, .slice none 0 0, .slice none 0 0, .slice none 0 0, .int .i64 0] 76)) w1.heap.size 2 _ _ _ hg3
      have e4 := cell_of_row (w1.alloc (.cells #[.slice ao m cap, .slice none 0 0, .slice none 0 0, .slice none 0 0, .int .i64 0] 76)) w1.heap.size 4 _ _ _ hg3
      simp only [List.getElem?_toArray, List.getElem?_cons_zero, List.getElem?_cons_succ] at c0 c1 d0 d1 e1 e2 e4
      have hgo := goes_any w1.heap.size (.slice ao m cap) objs w.heap.size f p.2 hfy hf hy2 hob 21 (w1.alloc (.cells #[.slice ao m cap, .slice none 0 0, .slice none 0 0, .slice none 0 0, .int .i64 0] 76)) p 0 (-1) ⟨[], [], [], 0⟩ (.slice none 0 0) (.inl ⟨rfl, by omega⟩) (by omega) (by omega) (by omega) hR3 (by simp only [List.length_nil]; omega) (by simp only [List.length_nil]; omega) (by simp only [List.length_nil]; omega)
      have hrp : readP (findO objs) p f n [] = goS (findO objs) f p.2 21 p 0 (-1) ⟨[], [], [], 0⟩ := by unfold readP; rw [← HY.out]
      rw [← hrp] at hgo
      obtain ⟨s, hs⟩ : ∃ s, s = readP (findO objs) p f n [] := ⟨_, rfl⟩
      rw [← hs] at hgo
      have HS := hide hs
      have H3 := hide hB3
      clear hb1 hx1 hB1 hg3 hx3 hB3 hR3 hrp hs
      go_wp2_with fail
      refine hgo.mono ?_
      rintro e w4 ⟨rfl, vp4, hR4, hM4, -⟩
      have hB4 : Below w.heap.size w w4 := H3.out.trans hM4.b
      clear hgo hM4
      generalize w1.heap.size = gg at *
      have HF := hide (And.intro hR4 hB4)
      obtain ⟨-, -, va, vd, hh4, hra, hrd, -⟩ := hR4
      have u1 := cell_of_row w4 gg 1 _ _ _ hh4
      have u2 := cell_of_row w4 gg 2 _ _ _ hh4
      have u4 := cell_of_row w4 gg 4 _ _ _ hh4
      simp only [List.getElem?_toArray, List.getElem?_cons_zero, List.getElem?_cons_succ] at u1 u2 u4
      have hcv : (convert 74 9 vd).run Tryz.prog w4.drew = .ok (.string (strB s.data)) w4.drew := run_strV (sl_of_own hrd) w4.drew (Below.refl _ _).drew
      have HRA := hide hra
      obtain ⟨vaA, vaM, vaC, rfl⟩ := row_form hra
      obtain ⟨vdA, vdM, vdC, rfl⟩ := row_form hrd
      clear hh4 hra hrd hB4
      by_cases hb : s.bad = 0
      · have hbb : (s.bad != 0) = false := by rw [hb]; rfl
        have HB0 := hide hb
        clear hb
        go_wp2_with fail
        refine wp_region_held_drew (S := fun W => W.cell? ⟨gg, 1, none⟩ = some (.slice vaA vaM vaC) ∧ W.cell? ⟨gg, 2, none⟩ = some (.slice vdA vdM vdC) ∧ (convert 74 9 (.slice vdA vdM vdC)).run Tryz.prog W = .ok (.string (strB s.data)) W) (by kernel_rfl) (⟨u1, u2, hcv⟩) (fun hHeld => ?_)
        refine takeJ 0 (v := ?_) ?_ hHeld ?_
        rotate_left
        · rintro w ⟨_, _, _⟩; go_simp; try with_reducible rfl
        refine takeJ 1 (v := ?_) ?_ hHeld ?_
        rotate_left
        · rintro w ⟨_, _, _⟩; go_simp; try with_reducible rfl
        refine takeJ 2 (v := ?_) ?_ hHeld ?_
        rotate_left
        · rintro w ⟨_, _, _⟩; go_simp; try with_reducible rfl
        refine takeJ 3 (v := ?_) ?_ hHeld ?_
        rotate_left
        · rintro w ⟨_, _, _⟩; go_simp; try with_reducible rfl
        refine takeJ 4 (v := ?_) ?_ hHeld ?_
        rotate_left
        · rintro w ⟨_, _, _⟩; go_simp; try with_reducible rfl
        refine takeJ 5 (v := ?_) ?_ hHeld ?_
        rotate_left
        · rintro w ⟨_, _, _⟩; go_simp; try with_reducible rfl
        refine takeJ 6 (v := ?_) ?_ hHeld ?_
        rotate_left
        · rintro w ⟨_, _, _⟩; go_simp; try with_reducible rfl
        refine takeJ 7 (v := ?_) ?_ hHeld ?_
        rotate_left
        · rintro w ⟨_, _, _⟩; go_simp; try with_reducible rfl
        refine takeJ 8 (v := ?_) ?_ hHeld ?_
        rotate_left
        · rintro w ⟨_, _, _⟩; go_simp; try with_reducible rfl
        refine takeJ 9 (v := ?_) ?_ hHeld ?_
        rotate_left
        · rintro w ⟨_, _, _⟩; go_simp; try with_reducible rfl
        refine takeJ 10 (v := ?_) ?_ hHeld ?_
        rotate_left
        · rintro w ⟨_, _, _⟩; go_simp; try with_reducible rfl
        refine takeJ 11 (v := ?_) ?_ hHeld ?_
        rotate_left
        · rintro w ⟨_, _, _⟩; go_simp; try with_reducible rfl
        refine wpAnyH_done (by kernel_rfl) ?_ _
        clear hHeld
        go_wp2
        go_ret3
        rw [← HS.out]
        refine ⟨⟨_, ?_, HRA.out⟩, HF.out.2.drew⟩
        rw [show dataOf s = s.data from if_pos HB0.out, HB0.out]; rfl
      · have hbb : (s.bad != 0) = true := by simpa using hb
        have HB0 := hide hb
        clear hb
        go_wp2_with fail
        refine wp_region_held_drew (S := fun W => W.cell? ⟨gg, 1, none⟩ = some (.slice vaA vaM vaC) ∧ W.cell? ⟨gg, 4, none⟩ = some (.int .i64 s.bad)) (by kernel_rfl) (⟨u1, u4⟩) (fun hHeld => ?_)
        refine takeJ 0 (v := ?_) ?_ hHeld ?_
        rotate_left
        · rintro w ⟨_, _⟩; go_simp; try with_reducible rfl
        refine takeJ 1 (v := ?_) ?_ hHeld ?_
        rotate_left
        · rintro w ⟨_, _⟩; go_simp; try with_reducible rfl
        refine takeJ 2 (v := ?_) ?_ hHeld ?_
        rotate_left
        · rintro w ⟨_, _⟩; go_simp; try with_reducible rfl
        refine takeJ 3 (v := ?_) ?_ hHeld ?_
        rotate_left
        · rintro w ⟨_, _⟩; go_simp; try with_reducible rfl
        refine takeJ 4 (v := ?_) ?_ hHeld ?_
        rotate_left
        · rintro w ⟨_, _⟩; go_simp; try with_reducible rfl
        refine takeJ 5 (v := ?_) ?_ hHeld ?_
        rotate_left
        · rintro w ⟨_, _⟩; go_simp; try with_reducible rfl
        refine takeJ 6 (v := ?_) ?_ hHeld ?_
        rotate_left
        · rintro w ⟨_, _⟩; go_simp; try with_reducible rfl
        refine takeJ 7 (v := ?_) ?_ hHeld ?_
        rotate_left
        · rintro w ⟨_, _⟩; go_simp; try with_reducible rfl
        refine takeJ 8 (v := ?_) ?_ hHeld ?_
        rotate_left
        · rintro w ⟨_, _⟩; go_simp; try with_reducible rfl
        refine takeJ 9 (v := ?_) ?_ hHeld ?_
        rotate_left
        · rintro w ⟨_, _⟩; go_simp; try with_reducible rfl
        refine takeJ 10 (v := ?_) ?_ hHeld ?_
        rotate_left
        · rintro w ⟨_, _⟩; go_simp; try with_reducible rfl
        refine wpAnyH_done (by kernel_rfl) ?_ _
        clear hHeld
        go_wp2
        go_ret3
        rw [← HS.out]
        refine ⟨⟨_, ?_, HRA.out⟩, HF.out.2.drew⟩
        rw [show dataOf s = [] from if_neg HB0.out]; rfl
  · obtain rfl : y = p.2 := by omega
    clear hE
    go_enter Tryz.func30, Tryz.ntmps30
    go_wp2_with fail
    try rw [hw0]
    refine HRI.out.mono ?_
    rintro e w1 ⟨rfl, hb1⟩
    have hx1 := (hb1.block _ (lt_of_heap H0.out.2)).trans H0.out.2
    have hB1 := H0.out.1.trans (hb1.mono H0.out.1.size)
    have hx3 := (heap_past w1 (.cells #[.slice ao m cap, .slice none 0 0, .slice none 0 0, .slice none 0 0, .int .i64 0] 76) _ (lt_of_heap hx1)).trans hx1
    have hg3 := heap_last w1 (.cells #[.slice ao m cap, .slice none 0 0, .slice none 0 0, .slice none 0 0, .int .i64 0] 76) _ rfl
    have hB3 := hB1.alloc hB1.size (.cells #[.slice ao m cap, .slice none 0 0, .slice none 0 0, .slice none 0 0, .int .i64 0] 76)
    have hR3 : RfW w.heap.size (w1.alloc (.cells #[.slice ao m cap, .slice none 0 0, .slice none 0 0, .slice none 0 0, .int .i64 0] 76)) w1.heap.size (.slice ao m cap) objs (.slice none 0 0) ⟨[], [], [], 0⟩ := ⟨hB1.size, HV.out.keep hB3, _, _, hg3, World.ownsRow_nil _ _ _ _, World.ownsRow_nil _ _ _ _, World.ownsRow_nil _ _ _ _⟩
    have c0 := cell_of_row w1 w.heap.size 0 _ _ _ hx1
    have c1 := cell_of_row w1 w.heap.size 1 _ _ _ hx1
    have d0 := cell_of_row (w1.alloc (.cells #[.slice ao m cap, .slice none 0 0, .slice none 0 0, .slice none 0 0, .int .i64 0] 76)) w.heap.size 0 _ _ _ hx3
    have d1 := cell_of_row (w1.alloc (.cells #[.slice ao m cap, .slice none 0 0, .slice none 0 0, .slice none 0 0, .int .i64 0] 76)) w.heap.size 1 _ _ _ hx3
    have e1 := cell_of_row (w1.alloc (.cells #[.slice ao m cap, .slice none 0 0, .slice none 0 0, .slice none 0 0, .int .i64 0] 76)) w1.heap.size 1 _ _ _ hg3
    have e2 := cell_of_row (w1.alloc (.cells #[.slice ao m cap, .slice none 0 0, .slice none 0 0, .slice none 0 0, .int .i64 0] 76)) w1.heap.size 2 _ _ _ hg3
    have e4 := cell_of_row (w1.alloc (.cells #[.slice ao m cap, .slice none 0 0, .slice none 0 0, .slice none 0 0, .int .i64 0] 76)) w1.heap.size 4 _ _ _ hg3
    simp only [List.getElem?_toArray, List.getElem?_cons_zero, List.getElem?_cons_succ] at c0 c1 d0 d1 e1 e2 e4
    have hrp : readP (findO objs) p f n [] = ⟨[], [], [], 0⟩ := readP_skip (by rw [← HY.out]; omega) hf
    have HS := hide hrp
    have hcv : ∀ W : World, (convert 74 9 (.slice none 0 0)).run Tryz.prog W = .ok (.string (strB [])) W := fun W => run_strV (w := W) (sl_of_own (base := 0) (l := []) (World.ownsRow_nil _ _ _ _)) W (Below.refl _ _)
    have H3 := hide hB3
    clear hb1 hx1 hB1 hg3 hx3 hB3 hR3 hrp
    go_wp2_with fail
    refine wp_region_held_drew (S := fun W => W.cell? ⟨w1.heap.size, 1, none⟩ = some (.slice none 0 0) ∧ W.cell? ⟨w1.heap.size, 2, none⟩ = some (.slice none 0 0) ∧ (convert 74 9 (.slice none 0 0)).run Tryz.prog W = .ok (.string (strB [])) W) (by kernel_rfl) (⟨e1, e2, hcv _⟩) (fun hHeld => ?_)
    refine takeJ 0 (v := ?_) ?_ hHeld ?_
    rotate_left
    · rintro w ⟨_, _, _⟩; go_simp; try with_reducible rfl
    refine takeJ 1 (v := ?_) ?_ hHeld ?_
    rotate_left
    · rintro w ⟨_, _, _⟩; go_simp; try with_reducible rfl
    refine takeJ 2 (v := ?_) ?_ hHeld ?_
    rotate_left
    · rintro w ⟨_, _, _⟩; go_simp; try with_reducible rfl
    refine takeJ 3 (v := ?_) ?_ hHeld ?_
    rotate_left
    · rintro w ⟨_, _, _⟩; go_simp; try with_reducible rfl
    refine takeJ 4 (v := ?_) ?_ hHeld ?_
    rotate_left
    · rintro w ⟨_, _, _⟩; go_simp; try with_reducible rfl
    refine takeJ 5 (v := ?_) ?_ hHeld ?_
    rotate_left
    · rintro w ⟨_, _, _⟩; go_simp; try with_reducible rfl
    refine takeJ 6 (v := ?_) ?_ hHeld ?_
    rotate_left
    · rintro w ⟨_, _, _⟩; go_simp; try with_reducible rfl
    refine takeJ 7 (v := ?_) ?_ hHeld ?_
    rotate_left
    · rintro w ⟨_, _, _⟩; go_simp; try with_reducible rfl
    refine takeJ 8 (v := ?_) ?_ hHeld ?_
    rotate_left
    · rintro w ⟨_, _, _⟩; go_simp; try with_reducible rfl
    refine takeJ 9 (v := ?_) ?_ hHeld ?_
    rotate_left
    · rintro w ⟨_, _, _⟩; go_simp; try with_reducible rfl
    refine takeJ 10 (v := ?_) ?_ hHeld ?_
    rotate_left
    · rintro w ⟨_, _, _⟩; go_simp; try with_reducible rfl
    refine takeJ 11 (v := ?_) ?_ hHeld ?_
    rotate_left
    · rintro w ⟨_, _, _⟩; go_simp; try with_reducible rfl
    refine wpAnyH_done (by kernel_rfl) ?_ _
    clear hHeld
    go_wp2
    go_ret3
    rw [HS.out]
    exact ⟨⟨_, rfl, World.ownsRow_nil _ _ _ _⟩, H3.out.drew⟩
end Go.Proofs.YtokebnkgjchfaaaGreatDoor

/-
  Bytes in the place of others, plainly: a file that is read whole has just its bytes. No program here.
-/
namespace Go.Proofs.YtokebnkgjchfaaaGreatDoor
open Go.RowKit

theorem eachP_full {f : Part → Int → Wk → Wk} {hi : Int} (hd : ∀ p a s, s.bad ≠ 0 → f p a s = s) (hf : ∀ p a s, 1 ≤ p.2 → 0 ≤ a → a + p.2 ≤ hi → s.bad = 0 → (f p a s).bad = 0 → (f p a s).data.length = s.data.length + p.2.toNat) :
    ∀ (l : List Part) (a : Int) (s : Wk), (∀ p ∈ l, 1 ≤ p.2) → 0 ≤ a → a + sizeP l ≤ hi → s.bad = 0 → (eachP f l a s).bad = 0 → (eachP f l a s).data.length = s.data.length + (sizeP l).toNat
  | [], a, s, _, _, _, _, _ => by simp [eachP, sizeP]
  | p :: r, a, s, h, ha, hs, hb, he => by
    have h4 := h p (by simp)
    have h3 := sizeP_nonneg r (fun q hq => h q (by simp [hq]))
    rw [sizeP_cons] at hs ⊢
    rw [eachP] at he ⊢
    have hb2 : (f p a s).bad = 0 := by
      by_cases hq : (f p a s).bad = 0
      · exact hq
      · rw [eachP_dead hd r _ _ hq] at he
        exact absurd he hq
    have h1 := hf p a s h4 ha (by omega) hb hb2
    have h2 := eachP_full hd hf r (a + p.2) (f p a s) (fun q hq => h q (by simp [hq])) (by omega) (by omega) hb2 he
    rw [h2, h1]
    omega
/-- All bytes of a part are read, or something is bad. -/
theorem goS_full (fd : Bs → Option Bs) (hi : Int) : ∀ (k : Nat) (p : Part) (a level : Int) (s : Wk), 1 ≤ p.2 → 0 ≤ a → a + p.2 ≤ hi → s.bad = 0 → ((level = -1 ∧ k = 21) ∨ (0 ≤ level ∧ level + 1 ≤ k)) → (goS fd 0 hi k p a level s).bad = 0 → (goS fd 0 hi k p a level s).data.length = s.data.length + p.2.toNat
  | 0, p, a, level, s, hp, ha, hh, hb, hl, he => by omega
  | k + 1, p, a, level, s, hp, ha, hh, hb, hl, he => by
    rw [goS] at he ⊢
    have h1 : ¬ (s.bad ≠ 0 ∨ min hi (a + p.2) ≤ max 0 a) := by omega
    rw [if_neg h1] at he ⊢
    by_cases h2 : (askN fd p level).1 ≠ 0
    · rw [if_pos h2] at he
      exact absurd he h2
    · rw [if_neg h2] at he ⊢
      obtain ⟨g1, g2, g4⟩ := askN_ok (by simpa using h2)
      generalize (askN fd p level).2 = n at *
      by_cases h3 : n.1 = 0
      · rw [if_pos h3]
        have g3 := g1.kids h3
        unfold sizeN at g2
        rw [g3, sizeP_nil] at g2
        simp only [List.length_append, List.length_drop, List.length_take]
        omega
      · rw [if_neg h3] at he ⊢
        have h4 : 1 ≤ n.1 := by have := g1.lo; omega
        have g3 := g1.none h4
        unfold sizeN at g2
        rw [g3] at g2
        simp only [List.length_nil] at g2
        have h6 := g1.hi
        have h5 := eachP_full (f := fun q b t => goS fd 0 hi k q b (n.1 - 1) t) (hi := hi) (fun q b t hq => goS_dead fd 0 hi k q b (n.1 - 1) t hq) (fun q b t q1 q2 q3 q4 q5 => goS_full fd hi k q b (n.1 - 1) t q1 q2 q3 q4 (.inr ⟨by omega, by omega⟩) q5) n.2.2 a ⟨s.asked ++ [p.1], s.data, s.parts, 0⟩ g1.each ha (by omega) rfl he
        rw [h5]
        simp only
        omega
theorem read_whole {fd : Bs → Option Bs} {p : Part} (h1 : 0 ≤ p.2) (hb : (readP fd p 0 p.2 []).bad = 0) : (readP fd p 0 p.2 []).data.length = p.2.toNat := by
  by_cases hz : p.2 = 0
  · rw [readP_skip (by unfold endP; omega) (Int.le_refl _), hz]
    rfl
  · unfold readP at hb ⊢
    have he : endP p.2 0 p.2 = p.2 := by unfold endP; omega
    rw [he] at hb ⊢
    have := goS_full fd p.2 21 p 0 (-1) ⟨[], [], [], 0⟩ (by omega) (Int.le_refl _) (by omega) rfl (.inl ⟨rfl, rfl⟩) hb
    rw [this]
    simp
/-- What is asked of Splice's arguments. -/
def spOk (p : Part) (f n : Int) : Prop := rightR p = true ∧ 0 ≤ f ∧ 0 ≤ n ∧ f ≤ p.2
/-- The bytes that are made. -/
def spB (s : Bs) (z f n : Int) (d : Bs) : Bs := s.take f.toNat ++ d ++ s.drop (endP z f n).toNat
/-- What Build answers: the root, the objects, the error. -/
def bldP (l : Bs) : Part × List Pair × Int := if l.length ≤ 262144 then ((fileP l).1, (fileP l).2, 0) else (([], 0), [], 100)
theorem bldP_yes {l : Bs} (h : l.length ≤ 262144) : bldP l = ((fileP l).1, (fileP l).2, 0) := if_pos h
theorem bldP_no {l : Bs} (h : ¬ l.length ≤ 262144) : bldP l = (([], 0), [], 100) := if_neg h
theorem end_within {z f n : Int} (_h1 : 0 ≤ f) (h2 : f ≤ z) (h3 : 0 ≤ n) : f ≤ endP z f n ∧ endP z f n ≤ z := by unfold endP; omega
end Go.Proofs.YtokebnkgjchfaaaGreatDoor
