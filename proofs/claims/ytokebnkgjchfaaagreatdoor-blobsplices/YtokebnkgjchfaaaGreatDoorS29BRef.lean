/-
  The reference goes to bytes, as the plain one says. Conditions: its walk lies there; places within a file.
-/
import Derived.Test.YtokebnkgjchfaaaGreatDoorS28BRise
import Derived.Test.YtokebnkgjchfaaaGreatDoorS25BGo
namespace Go.Proofs.YtokebnkgjchfaaaGreatDoor
open Go.RowKit
theorem chunkV_yes {b d : Bs} (h : takenChunk b = some d) : chunkV b = .tuple #[.string (strB d), .int .i64 0] := by unfold chunkV; rw [h]
theorem nodeOf_c {b d : Bs} (h : takenChunk b = some d) : nodeOf b = some (0, d, []) := by unfold nodeOf; rw [h]
theorem nodeOf_f {b : Bs} {f : Fan} (h : takenChunk b = none) (h2 : takenFan b = some f) : nodeOf b = some (f.1, [], f.2) := by unfold nodeOf; rw [h, h2]
theorem nodeOf_n {b : Bs} (h : takenChunk b = none) (h2 : takenFan b = none) : nodeOf b = none := by unfold nodeOf; rw [h, h2]
/-- What the fan's bytes say, in one form. -/
theorem fan_form (b : Bs) : ∃ (lv : Int) (xs : List Part) (kd : Int), (∀ B e w', fanSaid B b e w' → ∃ v, e = .returned (.tuple #[.agg #[.int .i64 lv, v], .int .i64 kd]) ∧ w'.ownsRow B 25 2 v xs.length (xs.flatMap partC)) ∧ ((kd = 0 ∧ takenFan b = some (lv, xs)) ∨ (kd = 81 ∧ takenFan b = none ∧ xs = [] ∧ lv = 0)) := by
  unfold fanSaid
  cases h : takenFan b with
  | none => exact ⟨0, [], 81, fun B e w' he => ⟨_, he, World.ownsRow_nil _ _ _ _⟩, .inr ⟨rfl, rfl, rfl, rfl⟩⟩
  | some f => exact ⟨f.1, f.2, 0, fun B e w' he => he, .inl ⟨rfl, rfl⟩⟩
set_option maxRecDepth 40000 in
set_option maxHeartbeats 6400000 in
theorem goes_any (g : Nat) (vo : Value) (objs : List Pair) (B : Nat) (lo hi : Int) (hlh : lo < hi) (hlo : 0 ≤ lo) (hhi : hi ≤ 262144) (hob : ∀ o ∈ objs, o.2.length ≤ 140737488351232) : ∀ (k : Nat) (w : World) (p : Part) (a level : Int) (s : Wk) (vp : Value), (level = -1 ∧ 21 ≤ k ∨ 0 ≤ level ∧ level < k) → 0 ≤ a → 1 ≤ p.2 → a + p.2 ≤ 262144 → RfW B w g vo objs vp s → s.asked.length + k * p.2.toNat ≤ 4294967296 → s.data.length + p.2.toNat ≤ 4294967296 → s.parts.length + p.2.toNat ≤ 4294967296 →
    Calls Tryz.prog 41 #[.pointer (some ⟨g, 0, none⟩), .agg #[.string (strB p.1), .int .i64 p.2], .int .i64 a, .int .i64 lo, .int .i64 hi, .int .i64 level] w fun e w' => e = .returned (.tuple #[]) ∧ ∃ vp', RfW B w' g vo objs vp' (goS (findO objs) lo hi k p a level s) ∧ Mv B fts vp.ownBlock w w' ∧ Nx w vp.ownBlock vp'.ownBlock := by
  intro k
  induction k with
  | zero =>
    intro w p a level s vp hlv
    omega
  | succ k ih =>
    intro w p a level s vp hlv ha hp hap hR hn1 hn2 hn3
    have hB := hR.le
    have hb0 : Below w.heap.size w (w.alloc (.cells #[.string (strB p.1), .int .i64 p.2] 25)) := (Below.refl _ _).alloc (Nat.le_refl _) _
    have hq0 := heap_last w (.cells #[.string (strB p.1), .int .i64 p.2] 25) _ rfl
    have hn0 : (w.alloc (.cells #[.string (strB p.1), .int .i64 p.2] 25)).heap.size = w.heap.size + 1 := by simp
    have hvlt : ∀ q, vp.ownBlock = some q → q < w.heap.size := fun q hq => hR.lt hq
    have hR0 := hR.below hb0
    generalize hw0 : w.alloc (.cells #[.string (strB p.1), .int .i64 p.2] 25) = w0 at *
    have q1 := cell_of_row w0 w.heap.size 1 _ _ _ hq0
    have q0 := cell_of_row w0 w.heap.size 0 _ _ _ hq0
    simp only [List.getElem?_toArray, List.getElem?_cons_zero, List.getElem?_cons_succ] at q0 q1
    have HR := hide (And.intro hR0 (And.intro hb0 hq0))
    have HV := hide hvlt
    have HN := hide (And.intro hn1 (And.intro hn2 hn3))
    have HN0 := hide hn0
    obtain ⟨hg, hl0, va0, vd0, hh0, -⟩ := hR0
    have c4 := cell_of_row w0 g 4 _ _ _ hh0
    have c0 := cell_of_row w0 g 0 _ _ _ hh0
    simp only [List.getElem?_toArray, List.getElem?_cons_zero, List.getElem?_cons_succ] at c4 c0
    clear hR hb0 hq0 hn0 hvlt hn1 hn2 hn3 hh0
    by_cases hbad : s.bad ≠ 0
    · have hgs := goS_dead (findO objs) lo hi (k + 1) p a level s hbad
      have HGS := hide hgs
      have hb : (s.bad != 0) = true := by simpa using hbad
      clear hgs ih hbad
      go_enter Tryz.func41, Tryz.ntmps41
      go_wp2
      first | go_end0 | refine bodyPost_ret (results_none rfl _ _ _) rfl ?_
      rw [HGS.out]
      exact ⟨rfl, vp, HR.out.1, Mv.of HR.out.2.1 hB, Nx.refl _ _⟩
    · have hbad : s.bad = 0 := by simpa using hbad
      have hb : (s.bad != 0) = false := by rw [hbad]; rfl
      have HBAD := hide hbad
      clear hbad
      by_cases hc1 : hi ≤ a
      · have hgs := goS_skip (fd := findO objs) (lo := lo) (hi := hi) (k := k) (p := p) (a := a) (level := level) (s := s) (by omega)
        have HGS := hide hgs
        clear hgs ih
        go_enter Tryz.func41, Tryz.ntmps41
        go_wp2
        first | go_end0 | refine bodyPost_ret (results_none rfl _ _ _) rfl ?_
        rw [HGS.out]
        exact ⟨rfl, vp, HR.out.1, Mv.of HR.out.2.1 hB, Nx.refl _ _⟩
      · by_cases hc2 : a + p.2 ≤ lo
        · have hgs := goS_skip (fd := findO objs) (lo := lo) (hi := hi) (k := k) (p := p) (a := a) (level := level) (s := s) (by omega)
          have HGS := hide hgs
          clear hgs ih
          have hc1' : a < hi := by omega
          go_enter Tryz.func41, Tryz.ntmps41
          go_wp2
          first | go_end0 | refine bodyPost_ret (results_none rfl _ _ _) rfl ?_
          rw [HGS.out]
          exact ⟨rfl, vp, HR.out.1, Mv.of HR.out.2.1 hB, Nx.refl _ _⟩
        · have hc1' : a < hi := by omega
          have hc2' : lo < a + p.2 := by omega
          have hnsk : max lo a < min hi (a + p.2) := by omega
          have HNSK := hide hnsk
          clear hc1 hc2 hnsk
          obtain ⟨va, vd, va', w1, hh, ⟨vaA, vaM, vaC, rfl⟩, hrun, hh1, hR2, hM1, hM2⟩ := HR.out.1.ask p.1 (by have := HN.out.1; omega)
          have g1 := cell_of_row w0 g 1 _ _ _ hh
          have hhA := (heap_past w0 (.cells #[.string (strB p.1)] 9) _ (lt_of_heap hh)).trans hh
          have gA := cell_of_row _ g 1 _ _ _ hhA
          have g2 := cell_of_row w1 g 1 _ _ _ hh1
          have hqA := (heap_past w0 (.cells #[.string (strB p.1)] 9) _ (lt_of_heap HR.out.2.2)).trans HR.out.2.2
          have hq1 := hM1.k _ _ _ _ HR.out.2.2 (by decide) (by simp)
          have hq2 := hM2.k _ _ _ _ HR.out.2.2 (by decide) (by simp)
          have sA := cell_of_row _ w.heap.size 0 _ _ _ hqA
          have s1 := cell_of_row _ w.heap.size 0 _ _ _ hq1
          have s2 := cell_of_row _ w.heap.size 0 _ _ _ hq2
          simp only [List.getElem?_toArray, List.getElem?_cons_zero, List.getElem?_cons_succ] at g1 gA g2 sA s1 s2
          have f1 := frozen0 (j := 1) hh1
          have HRUN := hide hrun
          have H2 := hide (And.intro hR2 (And.intro hM2 hq2))
          clear hrun hh hh1 hR2 hM1 hM2 hhA hqA hq1 hq2
          go_enter Tryz.func41, Tryz.ntmps41
          go_wp2_with fail
          refine wp_region_held_drew (S := fun W => W.cell? ⟨w.heap.size, 0, none⟩ = some (.string (strB p.1))) (by kernel_rfl) (q0) (fun hHeld => ?_)
          refine takeJ 0 (v := ?_) ?_ hHeld ?_
          rotate_left
          · intro w hS; (try dsimp only at hS); go_simp; try with_reducible rfl
          refine takeJ 1 (v := ?_) ?_ hHeld ?_
          rotate_left
          · intro w hS; (try dsimp only at hS); go_simp; try with_reducible rfl
          refine takeJ 2 (v := ?_) ?_ hHeld ?_
          rotate_left
          · intro w hS; (try dsimp only at hS); go_simp; try with_reducible rfl
          refine takeJ 3 (v := ?_) ?_ hHeld ?_
          rotate_left
          · intro w hS; (try dsimp only at hS); go_simp; try with_reducible rfl
          refine takeJ 5 (v := ?_) ?_ hHeld ?_
          rotate_left
          · intro w hS; (try dsimp only at hS); go_simp; try with_reducible rfl
          refine takeJ 6 (v := ?_) ?_ hHeld ?_
          rotate_left
          · intro w hS; (try dsimp only at hS); go_simp; try with_reducible rfl
          refine twoH (i := 4) (j := 7) rfl rfl (by kernel_rfl) rfl rfl (fun K hK => ?_) (fun K hK => ?_)
          · go_simp
            refine hK.out _ _ (q0) (fun hHeld => ?_)
            clear hK K
            try simp only [Act.put, List.setIfInBounds_toArray, List.set_cons_zero, List.set_cons_succ]
            refine onlyH (i := 7) rfl (by kernel_rfl) rfl (fun K hK => ?_)
            go_simp
            refine hK.out _ _ (sA) (fun hHeld => ?_)
            clear hK K
            try simp only [Act.put, List.setIfInBounds_toArray, List.set_cons_zero, List.set_cons_succ]
            refine onlyH (i := 8) rfl (by kernel_rfl) rfl (fun K hK => ?_)
            refine wp_append_run (.tmp 43) (.tmp 46) 37 rfl rfl rfl HRUN.out ?_
            refine hK.out _ _ (s1) (fun hHeld => ?_)
            clear hK K
            try simp only [Act.put, List.setIfInBounds_toArray, List.set_cons_zero, List.set_cons_succ]
            refine takeJ 9 (v := ?_) ?_ hHeld ?_
            rotate_left
            · intro w hS; (try dsimp only at hS); go_simp; try with_reducible rfl
            refine takeJ 10 (v := ?_) ?_ hHeld ?_
            rotate_left
            · intro w hS; (try dsimp only at hS); go_simp; try with_reducible rfl
            refine onlyH (i := 11) rfl (by kernel_rfl) rfl (fun K hK => ?_)
            go_simp
            refine hK.out _ _ (s2) (fun hHeld => ?_)
            clear hK K
            try simp only [Act.put, List.setIfInBounds_toArray, List.set_cons_zero, List.set_cons_succ]
            refine wpAnyH_done (by kernel_rfl) ?_ _
            clear hHeld g1 gA g2 sA s1 f1 HRUN
            obtain ⟨hR2, hM2, hq2⟩ := H2.out
            generalize w1.setCell ⟨g, 1, none⟩ (.slice vaA vaM vaC) = w2 at *
            have hl2 := hR2.2.1
            have hBw2 := hR2.le
            have hf := find_any w2.drew vo objs p.1 (hl2.up hBw2)
            obtain ⟨-, -, va2, vd2, hh2, -⟩ := hR2
            have d0 := cell_of_row w2 g 0 _ _ _ hh2
            have p0 := cell_of_row w2 w.heap.size 0 _ _ _ hq2
            have p1 := cell_of_row w2 w.heap.size 1 _ _ _ hq2
            simp only [List.getElem?_toArray, List.getElem?_cons_zero, List.getElem?_cons_succ] at d0 p0 p1
            have hR3 : RfW B w2.drew g vo objs vp ⟨s.asked ++ [p.1], s.data, s.parts, 0⟩ := by have := H2.out.1; rw [HBAD.out] at this; exact this
            have hM3 : Mv B fts none w0 w2.drew := H2.out.2.1.drew
            have hq3 : w2.drew.heap[w.heap.size]? = some (.cells #[.string (strB p.1), .int .i64 p.2] 25) := hq2
            have H3 := hide (And.intro hR3 (And.intro hM3 hq3))
            clear hR3 hM3 hq3 hl2 hh2 hq2 hM2 H2
            go_wp2_with fail
            refine wp_region_held_drew (S := fun W => W.cell? ⟨g, 0, none⟩ = some vo ∧ W.cell? ⟨w.heap.size, 0, none⟩ = some (.string (strB p.1))) (by kernel_rfl) (⟨d0, p0⟩) (fun hHeld => ?_)
            refine takeJ 0 (v := ?_) ?_ hHeld ?_
            rotate_left
            · rintro w ⟨_, _⟩; go_simp; try with_reducible rfl
            refine takeJ 1 (v := ?_) ?_ hHeld ?_
            rotate_left
            · rintro w ⟨_, _⟩; go_simp; try with_reducible rfl
            refine takeJ 2 (v := ?_) ?_ hHeld ?_
            rotate_left
            · rintro w ⟨_, _⟩; go_simp; try with_reducible rfl
            refine takeJ 3 (v := ?_) ?_ hHeld ?_
            rotate_left
            · rintro w ⟨_, _⟩; go_simp; try with_reducible rfl
            refine takeJ 4 (v := ?_) ?_ hHeld ?_
            rotate_left
            · rintro w ⟨_, _⟩; go_simp; try with_reducible rfl
            refine takeJ 5 (v := ?_) ?_ hHeld ?_
            rotate_left
            · rintro w ⟨_, _⟩; go_simp; try with_reducible rfl
            refine onlyH (i := 6) rfl (by kernel_rfl) rfl (fun K hK => ?_)
            go_simp
            obtain ⟨fs, fk, hfv⟩ := foundV_form (findO objs p.1)
            rw [hfv] at hf
            refine hf.mono ?_
            rintro e w3 ⟨rfl, rfl⟩
            go_simp
            refine hK.out _ _ (⟨d0, p0⟩) (fun hHeld => ?_)
            clear hK K
            try simp only [Act.put, List.setIfInBounds_toArray, List.set_cons_zero, List.set_cons_succ]
            refine takeJ 7 (v := ?_) ?_ hHeld ?_
            rotate_left
            · rintro w ⟨_, _⟩; go_simp; try with_reducible rfl
            refine takeJ 8 (v := ?_) ?_ hHeld ?_
            rotate_left
            · rintro w ⟨_, _⟩; go_simp; try with_reducible rfl
            refine takeJ 9 (v := ?_) ?_ hHeld ?_
            rotate_left
            · rintro w ⟨_, _⟩; go_simp; try with_reducible rfl
            refine takeJ 10 (v := ?_) ?_ hHeld ?_
            rotate_left
            · rintro w ⟨_, _⟩; go_simp; try with_reducible rfl
            refine takeJ 11 (v := ?_) ?_ hHeld ?_
            rotate_left
            · rintro w ⟨_, _⟩; go_simp; try with_reducible rfl
            refine wpAnyH_done (by kernel_rfl) ?_ _
            clear hHeld
            have p1 : w2.drew.cell? ⟨w.heap.size, 1, none⟩ = some (.int .i64 p.2) := p1
            generalize w2.drew = w3 at *
            clear hf d0 p0 hBw2
            cases hfo : findO objs p.1 with
            | none =>
              unfold foundV at hfv
              rw [hfo] at hfv
              simp only [Value.tuple.injEq, Array.mk.injEq, List.cons.injEq, Value.string.injEq, Value.int.injEq, and_true, true_and] at hfv
              obtain ⟨-, hk3⟩ := hfv
              have hgs := goS_bad (k := k) HBAD.out HNSK.out (show (askN (findO objs) p level).1 ≠ 0 by rw [askN_none hfo]; simp)
              rw [askN_none hfo] at hgs
              have HGS := hide hgs
              subst hk3
              clear hgs ih
              go_wp2_with fail
              refine (fail_any B _ g vo objs vp _ 3 H3.out.1 rfl).mono ?_
              rintro e w4 ⟨rfl, hR4, hM4⟩
              have HF := hide (And.intro hR4 ((H3.out.2.1.trans hM4 (Nx.refl _ _))))
              clear hR4 hM4
              go_wp2
              first | go_end0 | refine bodyPost_ret (results_none rfl _ _ _) rfl ?_
              rw [HGS.out]
              exact ⟨rfl, vp, HF.out.1, (Mv.of HR.out.2.1 hB).trans HF.out.2.none (Nx.refl _ _), Nx.refl _ _⟩
            | some b =>
              unfold foundV at hfv
              rw [hfo] at hfv
              simp only [Value.tuple.injEq, Array.mk.injEq, List.cons.injEq, Value.string.injEq, Value.int.injEq, and_true, true_and] at hfv
              obtain ⟨hfs, hk3⟩ := hfv
              obtain rfl := strB_inj hfs
              subst hk3
              have hbl : b.length ≤ 140737488351232 := by obtain ⟨o, ho, rfl⟩ := findO_mem hfo; exact hob o ho
              have htc := rtakeChunk_any w3 b hbl
              cases htk : takenChunk b with
              | some d =>
                rw [chunkV_yes htk] at htc
                have hds := strB_size d
                have hnd := nodeOf_c htk
                go_wp2_with fail
                refine htc.mono ?_
                rintro e w4 ⟨rfl, hb4⟩
                have hR4 := H3.out.1.below hb4
                have hq4 := (hb4.block _ (lt_of_heap H3.out.2.2)).trans H3.out.2.2
                have hM4 : Mv B fts none w0 w4 := H3.out.2.1.more hb4 H3.out.1.le
                have p1 := cell_of_row w4 w.heap.size 1 _ _ _ hq4
                have p0 := cell_of_row w4 w.heap.size 0 _ _ _ hq4
                simp only [List.getElem?_toArray, List.getElem?_cons_zero, List.getElem?_cons_succ] at p0 p1
                have H4 := hide (And.intro hR4 (And.intro hM4 hq4))
                clear htc hb4 hR4 hM4 hq4 hfs
                by_cases hsz : (d.length : Int) = p.2
                · have hsb : ((d.length : Int) != p.2) = false := by rw [hsz]; simp
                  by_cases hl0 : level ≤ 0
                  · have hlv2 : level = -1 ∨ level = 0 := by omega
                    have hask := askN_yes (level := level) hfo hnd ⟨by unfold sizeN; simp only [sizeP_nil]; omega, hlv2⟩
                    have hgs := goS_chunk (k := k) HBAD.out HNSK.out (by rw [hask]) (by rw [hask])
                    rw [hask] at hgs
                    obtain ⟨x, hx⟩ : ∃ x, x = max lo a := ⟨_, rfl⟩
                    obtain ⟨y, hy⟩ : ∃ y, y = min hi (a + p.2) := ⟨_, rfl⟩
                    have hmx : (if lo < a then a else lo) = x := by rw [hx]; split <;> omega
                    have hmn : (if a + p.2 < hi then a + p.2 else hi) = y := by rw [hy]; split <;> omega
                    have hxy : a ≤ x ∧ x < y ∧ y ≤ a + p.2 := by omega
                    obtain ⟨i, hi1⟩ := Int.eq_ofNat_of_zero_le (show 0 ≤ x - a by omega)
                    obtain ⟨j, hj1⟩ := Int.eq_ofNat_of_zero_le (show 0 ≤ y - a by omega)
                    rw [← hx, ← hy, hi1, hj1] at hgs
                    simp only [Int.toNat_natCast] at hgs
                    have hij1 : i ≤ j := by omega
                    have hij2 : j ≤ d.length := by omega
                    have hsl := fun W => slice_str W d i j hij1 hij2
                    have HGS := hide hgs
                    obtain ⟨va5, vd5, vp', w5, hh5, ⟨vpA, vpM, vpC, rfl⟩, hrun5, hh5', hR6, hM5, hM6, hNx⟩ := H4.out.1.part p (by have := HN.out.2.2; simp only; omega)
                    have g5 := cell_of_row w4 g 3 _ _ _ hh5
                    have hhA := (heap_past w4 (.cells #[.string (strB p.1), .int .i64 p.2] 25) _ (lt_of_heap hh5)).trans hh5
                    have gA := cell_of_row _ g 3 _ _ _ hhA
                    have g5' := cell_of_row w5 g 3 _ _ _ hh5'
                    have hqA := (heap_past w4 (.cells #[.string (strB p.1), .int .i64 p.2] 25) _ (lt_of_heap H4.out.2.2)).trans H4.out.2.2
                    have hpne : some w.heap.size ≠ vp.ownBlock := fun h => by have := HV.out _ h.symm; omega
                    have hq5 := hM5.k _ _ _ _ H4.out.2.2 (by decide) hpne
                    have hq6 := hM6.k _ _ _ _ H4.out.2.2 (by decide) hpne
                    have tA := cell_of_row _ w.heap.size 0 _ _ _ hqA
                    have tA' := cell_of_row _ w.heap.size 1 _ _ _ hqA
                    have u5 := cell_of_row _ w.heap.size 0 _ _ _ hq5
                    have u5' := cell_of_row _ w.heap.size 1 _ _ _ hq5
                    have u6 := cell_of_row _ w.heap.size 0 _ _ _ hq6
                    have u6' := cell_of_row _ w.heap.size 1 _ _ _ hq6
                    simp only [List.getElem?_toArray, List.getElem?_cons_zero, List.getElem?_cons_succ] at g5 gA g5' tA tA' u5 u5' u6 u6'
                    have f5 := frozen0 (j := 3) hh5'
                    have HRUN5 := hide hrun5
                    have hNx0 : Nx w0 vp.ownBlock (Value.slice vpA vpM vpC).ownBlock := by
                      rcases hNx with h | ⟨q, h, hq⟩
                      · exact .inl h
                      · exact .inr ⟨q, h, by have := H4.out.2.1.size; omega⟩
                    have H6 := hide (And.intro hR6 (And.intro (H4.out.2.1.none.trans hM6 (Nx.refl _ _)) (And.intro hNx0 hq6)))
                    clear hgs hx hy hask hnd hrun5 hh5 hh5' hR6 hM5 hM6 hNx hNx0 hhA hqA hq5 hq6 hpne ih hlv2 hsz
                    go_wp2_with fail
                    refine wp_region_held_drew (S := fun W => W.cell? ⟨w.heap.size, 0, none⟩ = some (.string (strB p.1)) ∧ W.cell? ⟨w.heap.size, 1, none⟩ = some (.int .i64 p.2)) (by kernel_rfl) (⟨p0, p1⟩) (fun hHeld => ?_)
                    refine takeJ 0 (v := ?_) ?_ hHeld ?_
                    rotate_left
                    · rintro w ⟨_, _⟩; go_simp; try with_reducible rfl
                    refine takeJ 1 (v := ?_) ?_ hHeld ?_
                    rotate_left
                    · rintro w ⟨_, _⟩; go_simp; try with_reducible rfl
                    refine takeJ 2 (v := ?_) ?_ hHeld ?_
                    rotate_left
                    · rintro w ⟨_, _⟩; go_simp; try with_reducible rfl
                    refine takeJ 3 (v := ?_) ?_ hHeld ?_
                    rotate_left
                    · rintro w ⟨_, _⟩; go_simp; try with_reducible rfl
                    refine takeJ 5 (v := ?_) ?_ hHeld ?_
                    rotate_left
                    · rintro w ⟨_, _⟩; go_simp; try with_reducible rfl
                    refine twoH (i := 4) (j := 6) rfl rfl (by kernel_rfl) rfl rfl (fun K hK => ?_) (fun K hK => ?_)
                    · go_simp
                      refine hK.out _ _ (⟨p0, p1⟩) (fun hHeld => ?_)
                      clear hK K
                      try simp only [Act.put, List.setIfInBounds_toArray, List.set_cons_zero, List.set_cons_succ]
                      refine onlyH (i := 6) rfl (by kernel_rfl) rfl (fun K hK => ?_)
                      go_simp
                      refine hK.out _ _ (⟨tA, tA'⟩) (fun hHeld => ?_)
                      clear hK K
                      try simp only [Act.put, List.setIfInBounds_toArray, List.set_cons_zero, List.set_cons_succ]
                      refine onlyH (i := 7) rfl (by kernel_rfl) rfl (fun K hK => ?_)
                      refine wp_append_run (.tmp 87) (.tmp 89) 38 rfl rfl rfl HRUN5.out ?_
                      refine hK.out _ _ (⟨u5, u5'⟩) (fun hHeld => ?_)
                      clear hK K
                      try simp only [Act.put, List.setIfInBounds_toArray, List.set_cons_zero, List.set_cons_succ]
                      refine takeJ 8 (v := ?_) ?_ hHeld ?_
                      rotate_left
                      · rintro w ⟨_, _⟩; go_simp; try with_reducible rfl
                      refine takeJ 9 (v := ?_) ?_ hHeld ?_
                      rotate_left
                      · rintro w ⟨_, _⟩; go_simp; try with_reducible rfl
                      refine onlyH (i := 10) rfl (by kernel_rfl) rfl (fun K hK => ?_)
                      go_simp
                      refine hK.out _ _ (⟨u6, u6'⟩) (fun hHeld => ?_)
                      clear hK K
                      try simp only [Act.put, List.setIfInBounds_toArray, List.set_cons_zero, List.set_cons_succ]
                      refine wpAnyH_done (by kernel_rfl) ?_ _
                      clear hHeld
                      generalize w5.setCell ⟨g, 3, none⟩ (.slice vpA vpM vpC) = w6 at *
                      obtain ⟨va7, vd7, vd', w7, hh7, ⟨vdA, vdM, vdC, rfl⟩, hrun7, hh7', hR8, hM7, hM8⟩ := H6.out.1.more ((d.take j).drop i) (by have := HN.out.2.1; simp only [List.length_drop, List.length_take]; omega)
                      have g7 := cell_of_row w6 g 2 _ _ _ hh7
                      have g7' := cell_of_row w7 g 2 _ _ _ hh7'
                      have p6 := cell_of_row w6 w.heap.size 1 _ _ _ H6.out.2.2.2
                      simp only [List.getElem?_toArray, List.getElem?_cons_zero, List.getElem?_cons_succ] at g7 g7' p6
                      have f7 := frozen0 (j := 2) hh7'
                      have HRUN7 := hide hrun7
                      have H8 := hide (And.intro hR8 hM8)
                      clear hrun7 hh7 hh7' hR8 hM7 hM8
                      go_wp2_with fail
                      refine wp_region_held_drew (S := fun _ => True) (by kernel_rfl) (trivial) (fun hHeld => ?_)
                      refine takeJ 0 (v := ?_) ?_ hHeld ?_
                      rotate_left
                      · intro w _; go_simp; try with_reducible rfl
                      refine takeJ 1 (v := ?_) ?_ hHeld ?_
                      rotate_left
                      · intro w _; go_simp; try with_reducible rfl
                      refine takeJ 2 (v := ?_) ?_ hHeld ?_
                      rotate_left
                      · intro w _; go_simp; try with_reducible rfl
                      refine takeJ 3 (v := ?_) ?_ hHeld ?_
                      rotate_left
                      · intro w _; go_simp; try with_reducible rfl
                      refine takeJ 5 (v := ?_) ?_ hHeld ?_
                      rotate_left
                      · intro w _; go_simp; try with_reducible rfl
                      refine takeJ 6 (v := ?_) ?_ hHeld ?_
                      rotate_left
                      · intro w _; go_simp; try with_reducible rfl
                      refine takeJ 7 (v := ?_) ?_ hHeld ?_
                      rotate_left
                      · intro w _; go_simp; try with_reducible rfl
                      refine takeJ 8 (v := ?_) ?_ hHeld ?_
                      rotate_left
                      · intro w _; go_simp; try with_reducible rfl
                      refine onlyH (i := 4) rfl (by kernel_rfl) rfl (fun K hK => ?_)
                      go_simp
                      refine hK.out _ _ (trivial) (fun hHeld => ?_)
                      clear hK K
                      try simp only [Act.put, List.setIfInBounds_toArray, List.set_cons_zero, List.set_cons_succ]
                      refine onlyH (i := 9) rfl (by kernel_rfl) rfl (fun K hK => ?_)
                      refine wp_append_run2 (.tmp 110) (.tmp 114) 74 9 rfl rfl rfl HRUN7.out ?_
                      refine hK.out _ _ (trivial) (fun hHeld => ?_)
                      clear hK K
                      try simp only [Act.put, List.setIfInBounds_toArray, List.set_cons_zero, List.set_cons_succ]
                      refine takeJ 10 (v := ?_) ?_ hHeld ?_
                      rotate_left
                      · intro w _; go_simp; try with_reducible rfl
                      refine takeJ 11 (v := ?_) ?_ hHeld ?_
                      rotate_left
                      · intro w _; go_simp; try with_reducible rfl
                      refine onlyH (i := 12) rfl (by kernel_rfl) rfl (fun K hK => ?_)
                      go_simp
                      refine hK.out _ _ (trivial) (fun hHeld => ?_)
                      clear hK K
                      try simp only [Act.put, List.setIfInBounds_toArray, List.set_cons_zero, List.set_cons_succ]
                      refine wpAnyH_done (by kernel_rfl) ?_ _
                      clear hHeld
                      go_wp2
                      first | go_end0 | refine bodyPost_ret (results_none rfl _ _ _) rfl ?_
                      rw [HGS.out]
                      exact ⟨rfl, _, H8.out.1, (Mv.of HR.out.2.1 hB).trans ((H6.out.2.1.trans H8.out.2.none H6.out.2.2.1)) (Nx.refl _ _), (H6.out.2.2.1).trans (Nx.refl w6 _) (by have := H6.out.2.1.size; omega) |> fun h => by
                        rcases h with h | ⟨q, h, hq⟩
                        · exact .inl h
                        · exact .inr ⟨q, h, by have := HR.out.2.1.size; omega⟩⟩
                    · go_simp
                      refine hK.out _ _ (⟨tA, tA'⟩) (fun hHeld => ?_)
                      clear hK K
                      try simp only [Act.put, List.setIfInBounds_toArray, List.set_cons_zero, List.set_cons_succ]
                      refine onlyH (i := 4) rfl (by kernel_rfl) rfl (fun K hK => ?_)
                      go_simp
                      refine hK.out _ _ (⟨tA, tA'⟩) (fun hHeld => ?_)
                      clear hK K
                      try simp only [Act.put, List.setIfInBounds_toArray, List.set_cons_zero, List.set_cons_succ]
                      refine onlyH (i := 7) rfl (by kernel_rfl) rfl (fun K hK => ?_)
                      refine wp_append_run (.tmp 87) (.tmp 89) 38 rfl rfl rfl HRUN5.out ?_
                      refine hK.out _ _ (⟨u5, u5'⟩) (fun hHeld => ?_)
                      clear hK K
                      try simp only [Act.put, List.setIfInBounds_toArray, List.set_cons_zero, List.set_cons_succ]
                      refine takeJ 8 (v := ?_) ?_ hHeld ?_
                      rotate_left
                      · rintro w ⟨_, _⟩; go_simp; try with_reducible rfl
                      refine takeJ 9 (v := ?_) ?_ hHeld ?_
                      rotate_left
                      · rintro w ⟨_, _⟩; go_simp; try with_reducible rfl
                      refine onlyH (i := 10) rfl (by kernel_rfl) rfl (fun K hK => ?_)
                      go_simp
                      refine hK.out _ _ (⟨u6, u6'⟩) (fun hHeld => ?_)
                      clear hK K
                      try simp only [Act.put, List.setIfInBounds_toArray, List.set_cons_zero, List.set_cons_succ]
                      refine wpAnyH_done (by kernel_rfl) ?_ _
                      clear hHeld
                      generalize w5.setCell ⟨g, 3, none⟩ (.slice vpA vpM vpC) = w6 at *
                      obtain ⟨va7, vd7, vd', w7, hh7, ⟨vdA, vdM, vdC, rfl⟩, hrun7, hh7', hR8, hM7, hM8⟩ := H6.out.1.more ((d.take j).drop i) (by have := HN.out.2.1; simp only [List.length_drop, List.length_take]; omega)
                      have g7 := cell_of_row w6 g 2 _ _ _ hh7
                      have g7' := cell_of_row w7 g 2 _ _ _ hh7'
                      have p6 := cell_of_row w6 w.heap.size 1 _ _ _ H6.out.2.2.2
                      simp only [List.getElem?_toArray, List.getElem?_cons_zero, List.getElem?_cons_succ] at g7 g7' p6
                      have f7 := frozen0 (j := 2) hh7'
                      have HRUN7 := hide hrun7
                      have H8 := hide (And.intro hR8 hM8)
                      clear hrun7 hh7 hh7' hR8 hM7 hM8
                      go_wp2_with fail
                      refine wp_region_held_drew (S := fun _ => True) (by kernel_rfl) (trivial) (fun hHeld => ?_)
                      refine takeJ 0 (v := ?_) ?_ hHeld ?_
                      rotate_left
                      · intro w _; go_simp; try with_reducible rfl
                      refine takeJ 1 (v := ?_) ?_ hHeld ?_
                      rotate_left
                      · intro w _; go_simp; try with_reducible rfl
                      refine takeJ 2 (v := ?_) ?_ hHeld ?_
                      rotate_left
                      · intro w _; go_simp; try with_reducible rfl
                      refine takeJ 3 (v := ?_) ?_ hHeld ?_
                      rotate_left
                      · intro w _; go_simp; try with_reducible rfl
                      refine takeJ 5 (v := ?_) ?_ hHeld ?_
                      rotate_left
                      · intro w _; go_simp; try with_reducible rfl
                      refine takeJ 6 (v := ?_) ?_ hHeld ?_
                      rotate_left
                      · intro w _; go_simp; try with_reducible rfl
                      refine takeJ 7 (v := ?_) ?_ hHeld ?_
                      rotate_left
                      · intro w _; go_simp; try with_reducible rfl
                      refine takeJ 8 (v := ?_) ?_ hHeld ?_
                      rotate_left
                      · intro w _; go_simp; try with_reducible rfl
                      refine onlyH (i := 4) rfl (by kernel_rfl) rfl (fun K hK => ?_)
                      go_simp
                      refine hK.out _ _ (trivial) (fun hHeld => ?_)
                      clear hK K
                      try simp only [Act.put, List.setIfInBounds_toArray, List.set_cons_zero, List.set_cons_succ]
                      refine onlyH (i := 9) rfl (by kernel_rfl) rfl (fun K hK => ?_)
                      refine wp_append_run2 (.tmp 110) (.tmp 114) 74 9 rfl rfl rfl HRUN7.out ?_
                      refine hK.out _ _ (trivial) (fun hHeld => ?_)
                      clear hK K
                      try simp only [Act.put, List.setIfInBounds_toArray, List.set_cons_zero, List.set_cons_succ]
                      refine takeJ 10 (v := ?_) ?_ hHeld ?_
                      rotate_left
                      · intro w _; go_simp; try with_reducible rfl
                      refine takeJ 11 (v := ?_) ?_ hHeld ?_
                      rotate_left
                      · intro w _; go_simp; try with_reducible rfl
                      refine onlyH (i := 12) rfl (by kernel_rfl) rfl (fun K hK => ?_)
                      go_simp
                      refine hK.out _ _ (trivial) (fun hHeld => ?_)
                      clear hK K
                      try simp only [Act.put, List.setIfInBounds_toArray, List.set_cons_zero, List.set_cons_succ]
                      refine wpAnyH_done (by kernel_rfl) ?_ _
                      clear hHeld
                      go_wp2
                      first | go_end0 | refine bodyPost_ret (results_none rfl _ _ _) rfl ?_
                      rw [HGS.out]
                      exact ⟨rfl, _, H8.out.1, (Mv.of HR.out.2.1 hB).trans ((H6.out.2.1.trans H8.out.2.none H6.out.2.2.1)) (Nx.refl _ _), (H6.out.2.2.1).trans (Nx.refl w6 _) (by have := H6.out.2.1.size; omega) |> fun h => by
                        rcases h with h | ⟨q, h, hq⟩
                        · exact .inl h
                        · exact .inr ⟨q, h, by have := HR.out.2.1.size; omega⟩⟩
                  · have hl1 : 0 < level := by omega
                    have hgs := goS_bad (k := k) HBAD.out HNSK.out (show (askN (findO objs) p level).1 ≠ 0 by rw [askN_not (level := level) hfo hnd (fun h => by have := h.2; simp only at this; omega)]; simp)
                    rw [askN_not (level := level) hfo hnd (fun h => by have := h.2; simp only at this; omega)] at hgs
                    have HGS := hide hgs
                    clear hgs ih
                    go_wp2_with fail
                    refine (fail_any B _ g vo objs vp _ 101 H4.out.1 rfl).mono ?_
                    rintro e w9 ⟨rfl, hR9, hM9⟩
                    have HF := hide (And.intro hR9 (H4.out.2.1.trans hM9 (Nx.refl _ _)))
                    clear hR9 hM9
                    go_wp2
                    first | go_end0 | refine bodyPost_ret (results_none rfl _ _ _) rfl ?_
                    rw [HGS.out]
                    exact ⟨rfl, vp, HF.out.1, (Mv.of HR.out.2.1 hB).trans HF.out.2.none (Nx.refl _ _), Nx.refl _ _⟩
                · have hsb : ((d.length : Int) != p.2) = true := by simpa using hsz
                  have hgs := goS_bad (k := k) HBAD.out HNSK.out (show (askN (findO objs) p level).1 ≠ 0 by rw [askN_not (level := level) hfo hnd (fun h => hsz (by have := h.1; unfold sizeN at this; simp only [sizeP_nil] at this; omega))]; simp)
                  rw [askN_not (level := level) hfo hnd (fun h => hsz (by have := h.1; unfold sizeN at this; simp only [sizeP_nil] at this; omega))] at hgs
                  have HGS := hide hgs
                  clear hgs ih
                  go_wp2_with fail
                  refine (fail_any B _ g vo objs vp _ 101 H4.out.1 rfl).mono ?_
                  rintro e w9 ⟨rfl, hR9, hM9⟩
                  have HF := hide (And.intro hR9 (H4.out.2.1.trans hM9 (Nx.refl _ _)))
                  clear hR9 hM9
                  go_wp2
                  first | go_end0 | refine bodyPost_ret (results_none rfl _ _ _) rfl ?_
                  rw [HGS.out]
                  exact ⟨rfl, vp, HF.out.1, (Mv.of HR.out.2.1 hB).trans HF.out.2.none (Nx.refl _ _), Nx.refl _ _⟩
              | none =>
                rw [chunkV_no htk] at htc
                obtain ⟨lv, xs, kd, hform, hcase⟩ := fan_form b
                have hxs : (∀ q ∈ xs, 1 ≤ q.2) ∧ sizeP xs ≤ 262144 ∧ xs.length ≤ 32 := by
                  rcases hcase with ⟨-, h⟩ | ⟨-, -, h, -⟩
                  · have := fan_facts ((takenFan_iff b (lv, xs)).1 h).1
                    exact ⟨this.2.2.2.2.1, this.2.2.2.2.2, this.2.2.2.1⟩
                  · subst h
                    simp [sizeP]
                go_wp2_with fail
                refine htc.mono ?_
                rintro e w4 ⟨rfl, hb4⟩
                have htf := rtakeFan_any w4 b hbl
                clear htc hfs
                go_wp2_with fail
                refine htf.mono ?_
                rintro e w5 ⟨hsaid, hb5⟩
                obtain ⟨v, rfl, hov⟩ := hform _ _ _ hsaid
                obtain ⟨ao, cap, hvv, hcp, hcp2⟩ := own_form hov
                obtain ⟨m, hm⟩ : ∃ m, m = xs.length := ⟨_, rfl⟩
                rw [← hm] at hvv
                subst hvv
                have hb45 := hb4.trans (hb5.mono hb4.size)
                have hb36 : Below w3.heap.size w3 (w5.alloc (.cells #[.int .i64 lv, .slice ao m cap] 90)) := hb45.alloc hb45.size _
                have hR6 := H3.out.1.below hb36
                have hq6 := (hb36.block _ (lt_of_heap H3.out.2.2)).trans H3.out.2.2
                have hM6 : Mv B fts none w0 (w5.alloc (.cells #[.int .i64 lv, .slice ao m cap] 90)) := H3.out.2.1.more hb36 H3.out.1.le
                have hfb6 := heap_last w5 (.cells #[.int .i64 lv, .slice ao m cap] 90) _ rfl
                have hov6 := hov.alloc (.cells #[.int .i64 lv, .slice ao m cap] 90)
                have hsz35 : w.heap.size + 1 ≤ w3.heap.size := by have := H3.out.2.1.size; have := HN0.out; omega
                have hvne : (Value.slice ao m cap).ownBlock = none ∨ (Value.slice ao m cap).ownBlock ≠ vp.ownBlock := by
                  cases hq : (Value.slice ao m cap).ownBlock with
                  | none => exact .inl rfl
                  | some q =>
                    refine .inr fun h => ?_
                    have h1 := (hov.lt q hq).1
                    have h2 := HV.out q h.symm
                    have h3 := hb4.size
                    omega
                have hfbne : some w5.heap.size ≠ vp.ownBlock := fun h => by
                  have h2 := HV.out _ h.symm
                  have h3 := hb45.size
                  omega
                have hpm : m ≤ 32 := by omega
                have HM := hide hm
                have HX := hide hxs
                clear htf hsaid hb4 hb5 hb45 hb36 hov hcp hcp2 hm hxs hform
                go_wp2_with fail
                have HVN := hide hvne
                have HFB := hide hfbne
                generalize w5.alloc (.cells #[.int .i64 lv, .slice ao m cap] 90) = w6 at *
                generalize w5.heap.size = fb at *
                have p1 := cell_of_row w6 w.heap.size 1 _ _ _ hq6
                have fb0 := cell_of_row w6 fb 0 _ _ _ hfb6
                have fb1 := cell_of_row w6 fb 1 _ _ _ hfb6
                simp only [List.getElem?_toArray, List.getElem?_cons_zero, List.getElem?_cons_succ] at p1 fb0 fb1
                have H6 := hide (And.intro hR6 (And.intro hM6 (And.intro hfb6 hov6)))
                clear hR6 hM6 hfb6 hov6 hq6 hvne hfbne
                go_loopw [18, 19] (fun t u wr => ∃ j : Nat, j ≤ m ∧ u = .int .i64 j ∧ t = .int .i64 (sizeP (xs.take j)) ∧ wr = w6)
                  (fun _ u _ => m - (intOf u).toNat)
                case atStart => exact ⟨0, by omega, rfl, rfl, rfl⟩
                case round =>
                  obtain ⟨j, hj, rfl, rfl, hwr⟩ := hrel
                  obtain rfl := hwr.symm
                  by_cases hlt : j < m
                  · have hlt2 : j < xs.length := by have := HM.out; omega
                    obtain ⟨bb, off, rfl, k0, k1⟩ := own_part H6.out.2.2.2 hlt2
                    have hwi := sizeP_within xs HX.out.1 j hlt2
                    have hss := sizeP_step xs j hlt2
                    have hx2 := HX.out.2.1
                    generalize xs[j] = kx at *
                    have HSS := hide hss
                    generalize sizeP (xs.take j) = zj at *
                    clear hss
                    go_wp2
                    go_roundw
                    case rel => exact ⟨j + 1, by omega, by go_num, by rw [HSS.out], trivial⟩
                    case measure => simp [intOf]; omega
                  · have hjm : j = m := by omega
                    have htk2 : xs.take j = xs := by rw [hjm, HM.out, List.take_length]
                    rw [htk2]
                    clear htk2 hjm
                    obtain ⟨z, hz⟩ : ∃ z, z = sizeP xs := ⟨_, rfl⟩
                    rw [← hz]
                    rcases hcase with ⟨rfl, htf⟩ | ⟨rfl, htf, -, -⟩
                    · have hnd := nodeOf_f htk htf
                      have hlv1 : 1 ≤ lv := (fan_facts ((takenFan_iff b (lv, xs)).1 htf).1).1
                      by_cases hsp : z = p.2
                      · have hsb : (z != p.2) = false := by rw [hsp]; simp
                        have hsn : sizeN (lv, [], xs) = p.2 := by unfold sizeN; simp only [List.length_nil]; omega
                        by_cases hl0 : 0 ≤ level
                        · by_cases hll : lv = level
                          · have hlb : (lv != level) = false := by rw [hll]; simp
                            have hlvn : level = -1 ∨ level = lv := .inr hll.symm
                            have hask := askN_yes (level := level) hfo hnd ⟨hsn, hlvn⟩
                            have hsp : sizeP xs = p.2 := by omega
                            clear hz hsn hll
                            have hRt := nodeOf_right hnd
                            have hn1 : 1 ≤ lv := hlv1
                            have hn20 : lv ≤ 20 := hRt.hi
                            have hgs := goS_fan (k := k) HBAD.out HNSK.out (by rw [hask]) (by rw [hask]; simp only; omega)
                            rw [hask] at hgs
                            simp only at hgs
                            have hlk : (0 : Int) ≤ lv - 1 ∧ lv - 1 < k := by
                              rcases hlv with ⟨h1, h2⟩ | ⟨h1, h2⟩
                              · omega
                              · rcases hlvn with h | h <;> omega
                            have HLK := hide hlk
                            obtain ⟨s1, hs1⟩ : ∃ s1 : Wk, s1 = ⟨s.asked ++ [p.1], s.data, s.parts, 0⟩ := ⟨_, rfl⟩
                            obtain ⟨f, hf⟩ : ∃ f : Part → Int → Wk → Wk, f = fun q b t => goS (findO objs) lo hi k q b (lv - 1) t := ⟨_, rfl⟩
                            have hfg : ∀ q b t, 1 ≤ q.2 → Grows t (f q b t) (k * q.2.toNat) q.2.toNat := by subst hf; exact fun q b t h => goS_grows _ _ _ _ _ _ _ _ h
                            rw [show eachP (fun q b t => goS (findO objs) lo hi k q b (lv - 1) t) xs a ⟨s.asked ++ [p.1], s.data, s.parts, 0⟩ = eachP f xs a s1 from by rw [hf, hs1]] at hgs
                            have HGS := hide hgs
                            have HF := hide (And.intro hfg hf)
                            have HS1 := hide hs1
                            have HRT := hide (And.intro hRt.each hsp)
                            clear hgs hs1 hf hfg hRt hask hnd hlk hsp hlv hlvn
                            go_wp2_with fail
                            go_loopw [2, 20] (fun t u wr => ∃ j : Nat, j ≤ m ∧ u = .int .i64 j ∧ t = .int .i64 (a + sizeP (xs.take j)) ∧ ∃ vpj, RfW B wr g vo objs vpj (eachP f (xs.take j) a s1) ∧ Mv B fts vp.ownBlock w6 wr ∧ Nx w6 vp.ownBlock vpj.ownBlock)
                              (fun _ u _ => m - (intOf u).toNat)
                            case atStart =>
                              refine ⟨0, by omega, rfl, ?_, vp, ?_, Mv.refl _ _ _ _, Nx.refl _ _⟩
                              · simp only [List.take_zero, sizeP_nil, Int.add_zero]
                              · rw [HS1.out]; exact H6.out.1
                            case round =>
                              obtain ⟨j, hj, rfl, rfl, vpj, hRr, hMr, hNr⟩ := hrel
                              have hfbr := hMr.k _ _ _ _ H6.out.2.2.1 (by decide) HFB.out
                              have e0 := cell_of_row wr fb 0 _ _ _ hfbr
                              have e1 := cell_of_row wr fb 1 _ _ _ hfbr
                              simp only [List.getElem?_toArray, List.getElem?_cons_zero, List.getElem?_cons_succ] at e0 e1
                              by_cases hlt : j < m
                              · have hlt2 : j < xs.length := by have := HM.out; omega
                                have hovr := hMr.own H6.out.2.2.2 (by decide) HVN.out
                                obtain ⟨bb, off, rfl, k0, k1⟩ := own_part hovr hlt2
                                have hwi := sizeP_within xs HRT.out.1 j hlt2
                                have hst := eachP_step f xs j hlt2 a s1
                                have hss := sizeP_step xs j hlt2
                                have hgr := eachP_grows HF.out.1 (xs.take j) a s1 (fun q hq => HRT.out.1 q (List.mem_of_mem_take hq))
                                rw [HRT.out.2] at hwi
                                obtain ⟨kd2, hkd⟩ : ∃ kd2, kd2 = xs[j] := ⟨_, rfl⟩
                                rw [← hkd] at hwi hst hss k0 k1
                                obtain ⟨zz, hzz⟩ : ∃ zz, zz = a + sizeP (xs.take j) := ⟨_, rfl⟩
                                rw [← hzz] at hst
                                obtain ⟨sj, hsj⟩ : ∃ sj, sj = eachP f (xs.take j) a s1 := ⟨_, rfl⟩
                                rw [← hsj] at hRr hst hgr
                                have hmul : k * (sizeP (xs.take j)).toNat + k * kd2.2.toNat ≤ k * p.2.toNat := by rw [← Nat.mul_add]; exact Nat.mul_le_mul_left _ (by omega)
                                have hk1 : (k + 1) * p.2.toNat = k * p.2.toNat + p.2.toNat := by rw [Nat.add_mul]; simp
                                have hsl1 : s1.asked.length = s.asked.length + 1 := by rw [HS1.out]; simp
                                have hsl2 : s1.data.length = s.data.length := by rw [HS1.out]
                                have hsl3 : s1.parts.length = s.parts.length := by rw [HS1.out]
                                have hRd : RfW B wr.drew g vo objs vpj sj := hRr
                                have hzb : 0 ≤ zz ∧ zz + kd2.2 ≤ 262144 := by omega
                                have hrec := ih wr.drew kd2 zz (lv - 1) sj vpj (.inr HLK.out) hzb.1 (by omega) hzb.2 hRd (by have := hgr.1; have := HN.out.1; omega) (by have := hgr.2.1; have := HN.out.2.1; omega) (by have := hgr.2.2; have := HN.out.2.2; omega)
                                have hff : f kd2 zz sj = goS (findO objs) lo hi k kd2 zz (lv - 1) sj := by rw [HF.out.2]
                                rw [← hff, ← hst] at hrec
                                have hnext : zz + kd2.2 = a + sizeP (xs.take (j + 1)) := by rw [hss, hzz]; omega
                                have HNX := hide (And.intro hnext hkd)
                                have HR6 := hide (And.intro hMr hNr)
                                rw [← hzz]
                                have hzb1 := hzb.1
                                have hzb2 := hzb.2
                                have hk2 : 1 ≤ kd2.2 := hwi.2.1
                                have hwr1 : IntKind.i64.wrap (lv - 1) = lv - 1 := by rw [IntKind.wrap_i64]; omega
                                clear hst hss hgr hmul hk1 hsl1 hsl2 hsl3 hff hRr hRd hMr hNr hovr hfbr hsj hzz hkd hnext hwi
                                go_wp2_with fail
                                refine wp_region_held_drew (S := fun W => W.cell? ⟨fb, 0, none⟩ = some (.int .i64 lv) ∧ W.cell? ⟨fb, 1, none⟩ = some (.slice (some ⟨bb, off, none⟩) m cap) ∧ W.cell? ⟨bb, off + j * 2, none⟩ = some (.string (strB kd2.1)) ∧ W.cell? ⟨bb, off + j * 2 + 1, none⟩ = some (.int .i64 kd2.2)) (by kernel_rfl) (⟨e0, e1, k0, k1⟩) (fun hHeld => ?_)
                                refine takeJ 0 (v := ?_) ?_ hHeld ?_
                                rotate_left
                                · rintro w ⟨_, _, _, _⟩; go_simp; try with_reducible rfl
                                refine takeJ 1 (v := ?_) ?_ hHeld ?_
                                rotate_left
                                · rintro w ⟨_, _, _, _⟩; go_simp; try with_reducible rfl
                                refine takeJ 2 (v := ?_) ?_ hHeld ?_
                                rotate_left
                                · rintro w ⟨_, _, _, _⟩; go_simp; try with_reducible rfl
                                refine takeJ 3 (v := ?_) ?_ hHeld ?_
                                rotate_left
                                · rintro w ⟨_, _, _, _⟩; go_simp; try with_reducible rfl
                                refine takeJ 4 (v := ?_) ?_ hHeld ?_
                                rotate_left
                                · rintro w ⟨_, _, _, _⟩; go_simp; try with_reducible rfl
                                refine takeJ 5 (v := ?_) ?_ hHeld ?_
                                rotate_left
                                · rintro w ⟨_, _, _, _⟩; go_simp; try with_reducible rfl
                                refine takeJ 6 (v := ?_) ?_ hHeld ?_
                                rotate_left
                                · rintro w ⟨_, _, _, _⟩; go_simp; try with_reducible rfl
                                refine takeJ 7 (v := ?_) ?_ hHeld ?_
                                rotate_left
                                · rintro w ⟨_, _, _, _⟩; go_simp; try with_reducible rfl
                                refine takeJ 8 (v := ?_) ?_ hHeld ?_
                                rotate_left
                                · rintro w ⟨_, _, _, _⟩; go_simp; try with_reducible rfl
                                refine takeJ 9 (v := ?_) ?_ hHeld ?_
                                rotate_left
                                · rintro w ⟨_, _, _, _⟩; go_simp; try with_reducible rfl
                                refine takeJ 10 (v := ?_) ?_ hHeld ?_
                                rotate_left
                                · rintro w ⟨_, _, _, _⟩; go_simp; try with_reducible rfl
                                refine takeJ 11 (v := ?_) ?_ hHeld ?_
                                rotate_left
                                · rintro w ⟨_, _, _, _⟩; go_simp; try with_reducible rfl
                                refine onlyH (i := 12) rfl (by kernel_rfl) rfl (fun K hK => ?_)
                                go_simp
                                refine hrec.mono ?_
                                rintro e w8 ⟨rfl, vp8, hR8, hM8, hN8⟩
                                have hM68 : Mv B fts vp.ownBlock w6 w8 := HR6.out.1.drew.trans hM8 HR6.out.2
                                have hN68 : Nx w6 vp.ownBlock vp8.ownBlock := HR6.out.2.trans hN8 (show w6.heap.size ≤ wr.drew.heap.size from HR6.out.1.size)
                                have hfb8 := hM68.k _ _ _ _ H6.out.2.2.1 (by decide) HFB.out
                                have hov8 := hM68.own H6.out.2.2.2 (by decide) HVN.out
                                obtain ⟨bb', off', hbb, l0, l1⟩ := own_part hov8 hlt2
                                injection hbb with hbb
                                injection hbb with hb1 hb2
                                subst hb1
                                subst hb2
                                rw [← HNX.out.2] at l0 l1
                                have e0 := cell_of_row w8 fb 0 _ _ _ hfb8
                                have e1 := cell_of_row w8 fb 1 _ _ _ hfb8
                                simp only [List.getElem?_toArray, List.getElem?_cons_zero, List.getElem?_cons_succ] at e0 e1
                                have H8 := hide (And.intro hR8 (And.intro hM68 hN68))
                                clear hrec hR8 hM8 hN8 hM68 hN68 hfb8 hov8
                                go_simp
                                refine hK.out _ _ (⟨e0, e1, l0, l1⟩) (fun hHeld => ?_)
                                clear hK K
                                try simp only [Act.put, List.setIfInBounds_toArray, List.set_cons_zero, List.set_cons_succ]
                                refine wpAnyH_done (by kernel_rfl) ?_ _
                                clear hHeld
                                go_wp2
                                go_roundw
                                case rel => exact ⟨j + 1, by omega, by go_num, by rw [← HNX.out.1], vp8, H8.out.1, H8.out.2.1, H8.out.2.2⟩
                                case measure => simp [intOf]; omega
                              · obtain rfl : j = m := by omega
                                have htk2 : xs.take j = xs := by rw [HM.out, List.take_length]
                                rw [htk2] at hRr
                                have HL := hide (And.intro hRr (And.intro hMr hNr))
                                clear hRr hMr hNr htk2 hfbr
                                go_wp2
                                first | go_end0 | refine bodyPost_ret (results_none rfl _ _ _) rfl ?_
                                rw [HGS.out]
                                exact ⟨rfl, vpj, HL.out.1, ((Mv.of HR.out.2.1 hB).trans H6.out.2.1.none (Nx.refl _ _)).trans HL.out.2.1 (Nx.refl _ _), by
                                  rcases HL.out.2.2 with h | ⟨q, h, hq⟩
                                  · exact .inl h
                                  · exact .inr ⟨q, h, by have := H6.out.2.1.size; have := HR.out.2.1.size; omega⟩⟩
                          · have hlb : (lv != level) = true := by simpa using hll
                            have hgs := goS_bad (k := k) HBAD.out HNSK.out (show (askN (findO objs) p level).1 ≠ 0 by rw [askN_not (level := level) hfo hnd (fun h => by have := h.2; simp only at this; omega)]; simp)
                            rw [askN_not (level := level) hfo hnd (fun h => by have := h.2; simp only at this; omega)] at hgs
                            have HGS := hide hgs
                            clear hgs ih
                            go_wp2_with fail
                            refine (fail_any B _ g vo objs vp _ 101 H6.out.1 rfl).mono ?_
                            rintro e w9 ⟨rfl, hR9, hM9⟩
                            have HF := hide (And.intro hR9 (H6.out.2.1.trans hM9 (Nx.refl _ _)))
                            clear hR9 hM9
                            go_wp2
                            first | go_end0 | refine bodyPost_ret (results_none rfl _ _ _) rfl ?_
                            rw [HGS.out]
                            exact ⟨rfl, vp, HF.out.1, (Mv.of HR.out.2.1 hB).trans HF.out.2.none (Nx.refl _ _), Nx.refl _ _⟩
                        · have hlneg : level < 0 := by omega
                          have hlvn : level = -1 ∨ level = lv := by omega
                          have hask := askN_yes (level := level) hfo hnd ⟨hsn, hlvn⟩
                          have hsp : sizeP xs = p.2 := by omega
                          clear hz hsn
                          have hRt := nodeOf_right hnd
                          have hn1 : 1 ≤ lv := hlv1
                          have hn20 : lv ≤ 20 := hRt.hi
                          have hgs := goS_fan (k := k) HBAD.out HNSK.out (by rw [hask]) (by rw [hask]; simp only; omega)
                          rw [hask] at hgs
                          simp only at hgs
                          have hlk : (0 : Int) ≤ lv - 1 ∧ lv - 1 < k := by
                            rcases hlv with ⟨h1, h2⟩ | ⟨h1, h2⟩
                            · omega
                            · rcases hlvn with h | h <;> omega
                          have HLK := hide hlk
                          obtain ⟨s1, hs1⟩ : ∃ s1 : Wk, s1 = ⟨s.asked ++ [p.1], s.data, s.parts, 0⟩ := ⟨_, rfl⟩
                          obtain ⟨f, hf⟩ : ∃ f : Part → Int → Wk → Wk, f = fun q b t => goS (findO objs) lo hi k q b (lv - 1) t := ⟨_, rfl⟩
                          have hfg : ∀ q b t, 1 ≤ q.2 → Grows t (f q b t) (k * q.2.toNat) q.2.toNat := by subst hf; exact fun q b t h => goS_grows _ _ _ _ _ _ _ _ h
                          rw [show eachP (fun q b t => goS (findO objs) lo hi k q b (lv - 1) t) xs a ⟨s.asked ++ [p.1], s.data, s.parts, 0⟩ = eachP f xs a s1 from by rw [hf, hs1]] at hgs
                          have HGS := hide hgs
                          have HF := hide (And.intro hfg hf)
                          have HS1 := hide hs1
                          have HRT := hide (And.intro hRt.each hsp)
                          clear hgs hs1 hf hfg hRt hask hnd hlk hsp hlv hlvn
                          go_wp2_with fail
                          go_loopw [2, 20] (fun t u wr => ∃ j : Nat, j ≤ m ∧ u = .int .i64 j ∧ t = .int .i64 (a + sizeP (xs.take j)) ∧ ∃ vpj, RfW B wr g vo objs vpj (eachP f (xs.take j) a s1) ∧ Mv B fts vp.ownBlock w6 wr ∧ Nx w6 vp.ownBlock vpj.ownBlock)
                            (fun _ u _ => m - (intOf u).toNat)
                          case atStart =>
                            refine ⟨0, by omega, rfl, ?_, vp, ?_, Mv.refl _ _ _ _, Nx.refl _ _⟩
                            · simp only [List.take_zero, sizeP_nil, Int.add_zero]
                            · rw [HS1.out]; exact H6.out.1
                          case round =>
                            obtain ⟨j, hj, rfl, rfl, vpj, hRr, hMr, hNr⟩ := hrel
                            have hfbr := hMr.k _ _ _ _ H6.out.2.2.1 (by decide) HFB.out
                            have e0 := cell_of_row wr fb 0 _ _ _ hfbr
                            have e1 := cell_of_row wr fb 1 _ _ _ hfbr
                            simp only [List.getElem?_toArray, List.getElem?_cons_zero, List.getElem?_cons_succ] at e0 e1
                            by_cases hlt : j < m
                            · have hlt2 : j < xs.length := by have := HM.out; omega
                              have hovr := hMr.own H6.out.2.2.2 (by decide) HVN.out
                              obtain ⟨bb, off, rfl, k0, k1⟩ := own_part hovr hlt2
                              have hwi := sizeP_within xs HRT.out.1 j hlt2
                              have hst := eachP_step f xs j hlt2 a s1
                              have hss := sizeP_step xs j hlt2
                              have hgr := eachP_grows HF.out.1 (xs.take j) a s1 (fun q hq => HRT.out.1 q (List.mem_of_mem_take hq))
                              rw [HRT.out.2] at hwi
                              obtain ⟨kd2, hkd⟩ : ∃ kd2, kd2 = xs[j] := ⟨_, rfl⟩
                              rw [← hkd] at hwi hst hss k0 k1
                              obtain ⟨zz, hzz⟩ : ∃ zz, zz = a + sizeP (xs.take j) := ⟨_, rfl⟩
                              rw [← hzz] at hst
                              obtain ⟨sj, hsj⟩ : ∃ sj, sj = eachP f (xs.take j) a s1 := ⟨_, rfl⟩
                              rw [← hsj] at hRr hst hgr
                              have hmul : k * (sizeP (xs.take j)).toNat + k * kd2.2.toNat ≤ k * p.2.toNat := by rw [← Nat.mul_add]; exact Nat.mul_le_mul_left _ (by omega)
                              have hk1 : (k + 1) * p.2.toNat = k * p.2.toNat + p.2.toNat := by rw [Nat.add_mul]; simp
                              have hsl1 : s1.asked.length = s.asked.length + 1 := by rw [HS1.out]; simp
                              have hsl2 : s1.data.length = s.data.length := by rw [HS1.out]
                              have hsl3 : s1.parts.length = s.parts.length := by rw [HS1.out]
                              have hRd : RfW B wr.drew g vo objs vpj sj := hRr
                              have hzb : 0 ≤ zz ∧ zz + kd2.2 ≤ 262144 := by omega
                              have hrec := ih wr.drew kd2 zz (lv - 1) sj vpj (.inr HLK.out) hzb.1 (by omega) hzb.2 hRd (by have := hgr.1; have := HN.out.1; omega) (by have := hgr.2.1; have := HN.out.2.1; omega) (by have := hgr.2.2; have := HN.out.2.2; omega)
                              have hff : f kd2 zz sj = goS (findO objs) lo hi k kd2 zz (lv - 1) sj := by rw [HF.out.2]
                              rw [← hff, ← hst] at hrec
                              have hnext : zz + kd2.2 = a + sizeP (xs.take (j + 1)) := by rw [hss, hzz]; omega
                              have HNX := hide (And.intro hnext hkd)
                              have HR6 := hide (And.intro hMr hNr)
                              rw [← hzz]
                              have hzb1 := hzb.1
                              have hzb2 := hzb.2
                              have hk2 : 1 ≤ kd2.2 := hwi.2.1
                              have hwr1 : IntKind.i64.wrap (lv - 1) = lv - 1 := by rw [IntKind.wrap_i64]; omega
                              clear hst hss hgr hmul hk1 hsl1 hsl2 hsl3 hff hRr hRd hMr hNr hovr hfbr hsj hzz hkd hnext hwi
                              go_wp2_with fail
                              refine wp_region_held_drew (S := fun W => W.cell? ⟨fb, 0, none⟩ = some (.int .i64 lv) ∧ W.cell? ⟨fb, 1, none⟩ = some (.slice (some ⟨bb, off, none⟩) m cap) ∧ W.cell? ⟨bb, off + j * 2, none⟩ = some (.string (strB kd2.1)) ∧ W.cell? ⟨bb, off + j * 2 + 1, none⟩ = some (.int .i64 kd2.2)) (by kernel_rfl) (⟨e0, e1, k0, k1⟩) (fun hHeld => ?_)
                              refine takeJ 0 (v := ?_) ?_ hHeld ?_
                              rotate_left
                              · rintro w ⟨_, _, _, _⟩; go_simp; try with_reducible rfl
                              refine takeJ 1 (v := ?_) ?_ hHeld ?_
                              rotate_left
                              · rintro w ⟨_, _, _, _⟩; go_simp; try with_reducible rfl
                              refine takeJ 2 (v := ?_) ?_ hHeld ?_
                              rotate_left
                              · rintro w ⟨_, _, _, _⟩; go_simp; try with_reducible rfl
                              refine takeJ 3 (v := ?_) ?_ hHeld ?_
                              rotate_left
                              · rintro w ⟨_, _, _, _⟩; go_simp; try with_reducible rfl
                              refine takeJ 4 (v := ?_) ?_ hHeld ?_
                              rotate_left
                              · rintro w ⟨_, _, _, _⟩; go_simp; try with_reducible rfl
                              refine takeJ 5 (v := ?_) ?_ hHeld ?_
                              rotate_left
                              · rintro w ⟨_, _, _, _⟩; go_simp; try with_reducible rfl
                              refine takeJ 6 (v := ?_) ?_ hHeld ?_
                              rotate_left
                              · rintro w ⟨_, _, _, _⟩; go_simp; try with_reducible rfl
                              refine takeJ 7 (v := ?_) ?_ hHeld ?_
                              rotate_left
                              · rintro w ⟨_, _, _, _⟩; go_simp; try with_reducible rfl
                              refine takeJ 8 (v := ?_) ?_ hHeld ?_
                              rotate_left
                              · rintro w ⟨_, _, _, _⟩; go_simp; try with_reducible rfl
                              refine takeJ 9 (v := ?_) ?_ hHeld ?_
                              rotate_left
                              · rintro w ⟨_, _, _, _⟩; go_simp; try with_reducible rfl
                              refine takeJ 10 (v := ?_) ?_ hHeld ?_
                              rotate_left
                              · rintro w ⟨_, _, _, _⟩; go_simp; try with_reducible rfl
                              refine takeJ 11 (v := ?_) ?_ hHeld ?_
                              rotate_left
                              · rintro w ⟨_, _, _, _⟩; go_simp; try with_reducible rfl
                              refine onlyH (i := 12) rfl (by kernel_rfl) rfl (fun K hK => ?_)
                              go_simp
                              refine hrec.mono ?_
                              rintro e w8 ⟨rfl, vp8, hR8, hM8, hN8⟩
                              have hM68 : Mv B fts vp.ownBlock w6 w8 := HR6.out.1.drew.trans hM8 HR6.out.2
                              have hN68 : Nx w6 vp.ownBlock vp8.ownBlock := HR6.out.2.trans hN8 (show w6.heap.size ≤ wr.drew.heap.size from HR6.out.1.size)
                              have hfb8 := hM68.k _ _ _ _ H6.out.2.2.1 (by decide) HFB.out
                              have hov8 := hM68.own H6.out.2.2.2 (by decide) HVN.out
                              obtain ⟨bb', off', hbb, l0, l1⟩ := own_part hov8 hlt2
                              injection hbb with hbb
                              injection hbb with hb1 hb2
                              subst hb1
                              subst hb2
                              rw [← HNX.out.2] at l0 l1
                              have e0 := cell_of_row w8 fb 0 _ _ _ hfb8
                              have e1 := cell_of_row w8 fb 1 _ _ _ hfb8
                              simp only [List.getElem?_toArray, List.getElem?_cons_zero, List.getElem?_cons_succ] at e0 e1
                              have H8 := hide (And.intro hR8 (And.intro hM68 hN68))
                              clear hrec hR8 hM8 hN8 hM68 hN68 hfb8 hov8
                              go_simp
                              refine hK.out _ _ (⟨e0, e1, l0, l1⟩) (fun hHeld => ?_)
                              clear hK K
                              try simp only [Act.put, List.setIfInBounds_toArray, List.set_cons_zero, List.set_cons_succ]
                              refine wpAnyH_done (by kernel_rfl) ?_ _
                              clear hHeld
                              go_wp2
                              go_roundw
                              case rel => exact ⟨j + 1, by omega, by go_num, by rw [← HNX.out.1], vp8, H8.out.1, H8.out.2.1, H8.out.2.2⟩
                              case measure => simp [intOf]; omega
                            · obtain rfl : j = m := by omega
                              have htk2 : xs.take j = xs := by rw [HM.out, List.take_length]
                              rw [htk2] at hRr
                              have HL := hide (And.intro hRr (And.intro hMr hNr))
                              clear hRr hMr hNr htk2 hfbr
                              go_wp2
                              first | go_end0 | refine bodyPost_ret (results_none rfl _ _ _) rfl ?_
                              rw [HGS.out]
                              exact ⟨rfl, vpj, HL.out.1, ((Mv.of HR.out.2.1 hB).trans H6.out.2.1.none (Nx.refl _ _)).trans HL.out.2.1 (Nx.refl _ _), by
                                rcases HL.out.2.2 with h | ⟨q, h, hq⟩
                                · exact .inl h
                                · exact .inr ⟨q, h, by have := H6.out.2.1.size; have := HR.out.2.1.size; omega⟩⟩
                      · have hsb : (z != p.2) = true := by simpa using hsp
                        have hgs := goS_bad (k := k) HBAD.out HNSK.out (show (askN (findO objs) p level).1 ≠ 0 by rw [askN_not (level := level) hfo hnd (fun h => hsp (by have := h.1; unfold sizeN at this; simp only [List.length_nil] at this; omega))]; simp)
                        rw [askN_not (level := level) hfo hnd (fun h => hsp (by have := h.1; unfold sizeN at this; simp only [List.length_nil] at this; omega))] at hgs
                        have HGS := hide hgs
                        clear hgs ih
                        go_wp2_with fail
                        refine (fail_any B _ g vo objs vp _ 101 H6.out.1 rfl).mono ?_
                        rintro e w9 ⟨rfl, hR9, hM9⟩
                        have HF := hide (And.intro hR9 (H6.out.2.1.trans hM9 (Nx.refl _ _)))
                        clear hR9 hM9
                        go_wp2
                        first | go_end0 | refine bodyPost_ret (results_none rfl _ _ _) rfl ?_
                        rw [HGS.out]
                        exact ⟨rfl, vp, HF.out.1, (Mv.of HR.out.2.1 hB).trans HF.out.2.none (Nx.refl _ _), Nx.refl _ _⟩
                    · have hnd := nodeOf_n htk htf
                      have hgs := goS_bad (k := k) HBAD.out HNSK.out (show (askN (findO objs) p level).1 ≠ 0 by rw [askN_no (level := level) hfo hnd]; simp)
                      rw [askN_no (level := level) hfo hnd] at hgs
                      have HGS := hide hgs
                      clear hgs ih
                      go_wp2_with fail
                      refine (fail_any B _ g vo objs vp _ 101 H6.out.1 rfl).mono ?_
                      rintro e w9 ⟨rfl, hR9, hM9⟩
                      have HF := hide (And.intro hR9 (H6.out.2.1.trans hM9 (Nx.refl _ _)))
                      clear hR9 hM9
                      go_wp2
                      first | go_end0 | refine bodyPost_ret (results_none rfl _ _ _) rfl ?_
                      rw [HGS.out]
                      exact ⟨rfl, vp, HF.out.1, (Mv.of HR.out.2.1 hB).trans HF.out.2.none (Nx.refl _ _), Nx.refl _ _⟩
          · go_simp
            refine hK.out _ _ (sA) (fun hHeld => ?_)
            clear hK K
            try simp only [Act.put, List.setIfInBounds_toArray, List.set_cons_zero, List.set_cons_succ]
            refine onlyH (i := 4) rfl (by kernel_rfl) rfl (fun K hK => ?_)
            go_simp
            refine hK.out _ _ (sA) (fun hHeld => ?_)
            clear hK K
            try simp only [Act.put, List.setIfInBounds_toArray, List.set_cons_zero, List.set_cons_succ]
            refine onlyH (i := 8) rfl (by kernel_rfl) rfl (fun K hK => ?_)
            refine wp_append_run (.tmp 43) (.tmp 46) 37 rfl rfl rfl HRUN.out ?_
            refine hK.out _ _ (s1) (fun hHeld => ?_)
            clear hK K
            try simp only [Act.put, List.setIfInBounds_toArray, List.set_cons_zero, List.set_cons_succ]
            refine takeJ 9 (v := ?_) ?_ hHeld ?_
            rotate_left
            · intro w hS; (try dsimp only at hS); go_simp; try with_reducible rfl
            refine takeJ 10 (v := ?_) ?_ hHeld ?_
            rotate_left
            · intro w hS; (try dsimp only at hS); go_simp; try with_reducible rfl
            refine onlyH (i := 11) rfl (by kernel_rfl) rfl (fun K hK => ?_)
            go_simp
            refine hK.out _ _ (s2) (fun hHeld => ?_)
            clear hK K
            try simp only [Act.put, List.setIfInBounds_toArray, List.set_cons_zero, List.set_cons_succ]
            refine wpAnyH_done (by kernel_rfl) ?_ _
            clear hHeld g1 gA g2 sA s1 f1 HRUN
            obtain ⟨hR2, hM2, hq2⟩ := H2.out
            generalize w1.setCell ⟨g, 1, none⟩ (.slice vaA vaM vaC) = w2 at *
            have hl2 := hR2.2.1
            have hBw2 := hR2.le
            have hf := find_any w2.drew vo objs p.1 (hl2.up hBw2)
            obtain ⟨-, -, va2, vd2, hh2, -⟩ := hR2
            have d0 := cell_of_row w2 g 0 _ _ _ hh2
            have p0 := cell_of_row w2 w.heap.size 0 _ _ _ hq2
            have p1 := cell_of_row w2 w.heap.size 1 _ _ _ hq2
            simp only [List.getElem?_toArray, List.getElem?_cons_zero, List.getElem?_cons_succ] at d0 p0 p1
            have hR3 : RfW B w2.drew g vo objs vp ⟨s.asked ++ [p.1], s.data, s.parts, 0⟩ := by have := H2.out.1; rw [HBAD.out] at this; exact this
            have hM3 : Mv B fts none w0 w2.drew := H2.out.2.1.drew
            have hq3 : w2.drew.heap[w.heap.size]? = some (.cells #[.string (strB p.1), .int .i64 p.2] 25) := hq2
            have H3 := hide (And.intro hR3 (And.intro hM3 hq3))
            clear hR3 hM3 hq3 hl2 hh2 hq2 hM2 H2
            go_wp2_with fail
            refine wp_region_held_drew (S := fun W => W.cell? ⟨g, 0, none⟩ = some vo ∧ W.cell? ⟨w.heap.size, 0, none⟩ = some (.string (strB p.1))) (by kernel_rfl) (⟨d0, p0⟩) (fun hHeld => ?_)
            refine takeJ 0 (v := ?_) ?_ hHeld ?_
            rotate_left
            · rintro w ⟨_, _⟩; go_simp; try with_reducible rfl
            refine takeJ 1 (v := ?_) ?_ hHeld ?_
            rotate_left
            · rintro w ⟨_, _⟩; go_simp; try with_reducible rfl
            refine takeJ 2 (v := ?_) ?_ hHeld ?_
            rotate_left
            · rintro w ⟨_, _⟩; go_simp; try with_reducible rfl
            refine takeJ 3 (v := ?_) ?_ hHeld ?_
            rotate_left
            · rintro w ⟨_, _⟩; go_simp; try with_reducible rfl
            refine takeJ 4 (v := ?_) ?_ hHeld ?_
            rotate_left
            · rintro w ⟨_, _⟩; go_simp; try with_reducible rfl
            refine takeJ 5 (v := ?_) ?_ hHeld ?_
            rotate_left
            · rintro w ⟨_, _⟩; go_simp; try with_reducible rfl
            refine onlyH (i := 6) rfl (by kernel_rfl) rfl (fun K hK => ?_)
            go_simp
            obtain ⟨fs, fk, hfv⟩ := foundV_form (findO objs p.1)
            rw [hfv] at hf
            refine hf.mono ?_
            rintro e w3 ⟨rfl, rfl⟩
            go_simp
            refine hK.out _ _ (⟨d0, p0⟩) (fun hHeld => ?_)
            clear hK K
            try simp only [Act.put, List.setIfInBounds_toArray, List.set_cons_zero, List.set_cons_succ]
            refine takeJ 7 (v := ?_) ?_ hHeld ?_
            rotate_left
            · rintro w ⟨_, _⟩; go_simp; try with_reducible rfl
            refine takeJ 8 (v := ?_) ?_ hHeld ?_
            rotate_left
            · rintro w ⟨_, _⟩; go_simp; try with_reducible rfl
            refine takeJ 9 (v := ?_) ?_ hHeld ?_
            rotate_left
            · rintro w ⟨_, _⟩; go_simp; try with_reducible rfl
            refine takeJ 10 (v := ?_) ?_ hHeld ?_
            rotate_left
            · rintro w ⟨_, _⟩; go_simp; try with_reducible rfl
            refine takeJ 11 (v := ?_) ?_ hHeld ?_
            rotate_left
            · rintro w ⟨_, _⟩; go_simp; try with_reducible rfl
            refine wpAnyH_done (by kernel_rfl) ?_ _
            clear hHeld
            have p1 : w2.drew.cell? ⟨w.heap.size, 1, none⟩ = some (.int .i64 p.2) := p1
            generalize w2.drew = w3 at *
            clear hf d0 p0 hBw2
            cases hfo : findO objs p.1 with
            | none =>
              unfold foundV at hfv
              rw [hfo] at hfv
              simp only [Value.tuple.injEq, Array.mk.injEq, List.cons.injEq, Value.string.injEq, Value.int.injEq, and_true, true_and] at hfv
              obtain ⟨-, hk3⟩ := hfv
              have hgs := goS_bad (k := k) HBAD.out HNSK.out (show (askN (findO objs) p level).1 ≠ 0 by rw [askN_none hfo]; simp)
              rw [askN_none hfo] at hgs
              have HGS := hide hgs
              subst hk3
              clear hgs ih
              go_wp2_with fail
              refine (fail_any B _ g vo objs vp _ 3 H3.out.1 rfl).mono ?_
              rintro e w4 ⟨rfl, hR4, hM4⟩
              have HF := hide (And.intro hR4 ((H3.out.2.1.trans hM4 (Nx.refl _ _))))
              clear hR4 hM4
              go_wp2
              first | go_end0 | refine bodyPost_ret (results_none rfl _ _ _) rfl ?_
              rw [HGS.out]
              exact ⟨rfl, vp, HF.out.1, (Mv.of HR.out.2.1 hB).trans HF.out.2.none (Nx.refl _ _), Nx.refl _ _⟩
            | some b =>
              unfold foundV at hfv
              rw [hfo] at hfv
              simp only [Value.tuple.injEq, Array.mk.injEq, List.cons.injEq, Value.string.injEq, Value.int.injEq, and_true, true_and] at hfv
              obtain ⟨hfs, hk3⟩ := hfv
              obtain rfl := strB_inj hfs
              subst hk3
              have hbl : b.length ≤ 140737488351232 := by obtain ⟨o, ho, rfl⟩ := findO_mem hfo; exact hob o ho
              have htc := rtakeChunk_any w3 b hbl
              cases htk : takenChunk b with
              | some d =>
                rw [chunkV_yes htk] at htc
                have hds := strB_size d
                have hnd := nodeOf_c htk
                go_wp2_with fail
                refine htc.mono ?_
                rintro e w4 ⟨rfl, hb4⟩
                have hR4 := H3.out.1.below hb4
                have hq4 := (hb4.block _ (lt_of_heap H3.out.2.2)).trans H3.out.2.2
                have hM4 : Mv B fts none w0 w4 := H3.out.2.1.more hb4 H3.out.1.le
                have p1 := cell_of_row w4 w.heap.size 1 _ _ _ hq4
                have p0 := cell_of_row w4 w.heap.size 0 _ _ _ hq4
                simp only [List.getElem?_toArray, List.getElem?_cons_zero, List.getElem?_cons_succ] at p0 p1
                have H4 := hide (And.intro hR4 (And.intro hM4 hq4))
                clear htc hb4 hR4 hM4 hq4 hfs
                by_cases hsz : (d.length : Int) = p.2
                · have hsb : ((d.length : Int) != p.2) = false := by rw [hsz]; simp
                  by_cases hl0 : level ≤ 0
                  · have hlv2 : level = -1 ∨ level = 0 := by omega
                    have hask := askN_yes (level := level) hfo hnd ⟨by unfold sizeN; simp only [sizeP_nil]; omega, hlv2⟩
                    have hgs := goS_chunk (k := k) HBAD.out HNSK.out (by rw [hask]) (by rw [hask])
                    rw [hask] at hgs
                    obtain ⟨x, hx⟩ : ∃ x, x = max lo a := ⟨_, rfl⟩
                    obtain ⟨y, hy⟩ : ∃ y, y = min hi (a + p.2) := ⟨_, rfl⟩
                    have hmx : (if lo < a then a else lo) = x := by rw [hx]; split <;> omega
                    have hmn : (if a + p.2 < hi then a + p.2 else hi) = y := by rw [hy]; split <;> omega
                    have hxy : a ≤ x ∧ x < y ∧ y ≤ a + p.2 := by omega
                    obtain ⟨i, hi1⟩ := Int.eq_ofNat_of_zero_le (show 0 ≤ x - a by omega)
                    obtain ⟨j, hj1⟩ := Int.eq_ofNat_of_zero_le (show 0 ≤ y - a by omega)
                    rw [← hx, ← hy, hi1, hj1] at hgs
                    simp only [Int.toNat_natCast] at hgs
                    have hij1 : i ≤ j := by omega
                    have hij2 : j ≤ d.length := by omega
                    have hsl := fun W => slice_str W d i j hij1 hij2
                    have HGS := hide hgs
                    obtain ⟨va5, vd5, vp', w5, hh5, ⟨vpA, vpM, vpC, rfl⟩, hrun5, hh5', hR6, hM5, hM6, hNx⟩ := H4.out.1.part p (by have := HN.out.2.2; simp only; omega)
                    have g5 := cell_of_row w4 g 3 _ _ _ hh5
                    have hhA := (heap_past w4 (.cells #[.string (strB p.1), .int .i64 p.2] 25) _ (lt_of_heap hh5)).trans hh5
                    have gA := cell_of_row _ g 3 _ _ _ hhA
                    have g5' := cell_of_row w5 g 3 _ _ _ hh5'
                    have hqA := (heap_past w4 (.cells #[.string (strB p.1), .int .i64 p.2] 25) _ (lt_of_heap H4.out.2.2)).trans H4.out.2.2
                    have hpne : some w.heap.size ≠ vp.ownBlock := fun h => by have := HV.out _ h.symm; omega
                    have hq5 := hM5.k _ _ _ _ H4.out.2.2 (by decide) hpne
                    have hq6 := hM6.k _ _ _ _ H4.out.2.2 (by decide) hpne
                    have tA := cell_of_row _ w.heap.size 0 _ _ _ hqA
                    have tA' := cell_of_row _ w.heap.size 1 _ _ _ hqA
                    have u5 := cell_of_row _ w.heap.size 0 _ _ _ hq5
                    have u5' := cell_of_row _ w.heap.size 1 _ _ _ hq5
                    have u6 := cell_of_row _ w.heap.size 0 _ _ _ hq6
                    have u6' := cell_of_row _ w.heap.size 1 _ _ _ hq6
                    simp only [List.getElem?_toArray, List.getElem?_cons_zero, List.getElem?_cons_succ] at g5 gA g5' tA tA' u5 u5' u6 u6'
                    have f5 := frozen0 (j := 3) hh5'
                    have HRUN5 := hide hrun5
                    have hNx0 : Nx w0 vp.ownBlock (Value.slice vpA vpM vpC).ownBlock := by
                      rcases hNx with h | ⟨q, h, hq⟩
                      · exact .inl h
                      · exact .inr ⟨q, h, by have := H4.out.2.1.size; omega⟩
                    have H6 := hide (And.intro hR6 (And.intro (H4.out.2.1.none.trans hM6 (Nx.refl _ _)) (And.intro hNx0 hq6)))
                    clear hgs hx hy hask hnd hrun5 hh5 hh5' hR6 hM5 hM6 hNx hNx0 hhA hqA hq5 hq6 hpne ih hlv2 hsz
                    go_wp2_with fail
                    refine wp_region_held_drew (S := fun W => W.cell? ⟨w.heap.size, 0, none⟩ = some (.string (strB p.1)) ∧ W.cell? ⟨w.heap.size, 1, none⟩ = some (.int .i64 p.2)) (by kernel_rfl) (⟨p0, p1⟩) (fun hHeld => ?_)
                    refine takeJ 0 (v := ?_) ?_ hHeld ?_
                    rotate_left
                    · rintro w ⟨_, _⟩; go_simp; try with_reducible rfl
                    refine takeJ 1 (v := ?_) ?_ hHeld ?_
                    rotate_left
                    · rintro w ⟨_, _⟩; go_simp; try with_reducible rfl
                    refine takeJ 2 (v := ?_) ?_ hHeld ?_
                    rotate_left
                    · rintro w ⟨_, _⟩; go_simp; try with_reducible rfl
                    refine takeJ 3 (v := ?_) ?_ hHeld ?_
                    rotate_left
                    · rintro w ⟨_, _⟩; go_simp; try with_reducible rfl
                    refine takeJ 5 (v := ?_) ?_ hHeld ?_
                    rotate_left
                    · rintro w ⟨_, _⟩; go_simp; try with_reducible rfl
                    refine twoH (i := 4) (j := 6) rfl rfl (by kernel_rfl) rfl rfl (fun K hK => ?_) (fun K hK => ?_)
                    · go_simp
                      refine hK.out _ _ (⟨p0, p1⟩) (fun hHeld => ?_)
                      clear hK K
                      try simp only [Act.put, List.setIfInBounds_toArray, List.set_cons_zero, List.set_cons_succ]
                      refine onlyH (i := 6) rfl (by kernel_rfl) rfl (fun K hK => ?_)
                      go_simp
                      refine hK.out _ _ (⟨tA, tA'⟩) (fun hHeld => ?_)
                      clear hK K
                      try simp only [Act.put, List.setIfInBounds_toArray, List.set_cons_zero, List.set_cons_succ]
                      refine onlyH (i := 7) rfl (by kernel_rfl) rfl (fun K hK => ?_)
                      refine wp_append_run (.tmp 87) (.tmp 89) 38 rfl rfl rfl HRUN5.out ?_
                      refine hK.out _ _ (⟨u5, u5'⟩) (fun hHeld => ?_)
                      clear hK K
                      try simp only [Act.put, List.setIfInBounds_toArray, List.set_cons_zero, List.set_cons_succ]
                      refine takeJ 8 (v := ?_) ?_ hHeld ?_
                      rotate_left
                      · rintro w ⟨_, _⟩; go_simp; try with_reducible rfl
                      refine takeJ 9 (v := ?_) ?_ hHeld ?_
                      rotate_left
                      · rintro w ⟨_, _⟩; go_simp; try with_reducible rfl
                      refine onlyH (i := 10) rfl (by kernel_rfl) rfl (fun K hK => ?_)
                      go_simp
                      refine hK.out _ _ (⟨u6, u6'⟩) (fun hHeld => ?_)
                      clear hK K
                      try simp only [Act.put, List.setIfInBounds_toArray, List.set_cons_zero, List.set_cons_succ]
                      refine wpAnyH_done (by kernel_rfl) ?_ _
                      clear hHeld
                      generalize w5.setCell ⟨g, 3, none⟩ (.slice vpA vpM vpC) = w6 at *
                      obtain ⟨va7, vd7, vd', w7, hh7, ⟨vdA, vdM, vdC, rfl⟩, hrun7, hh7', hR8, hM7, hM8⟩ := H6.out.1.more ((d.take j).drop i) (by have := HN.out.2.1; simp only [List.length_drop, List.length_take]; omega)
                      have g7 := cell_of_row w6 g 2 _ _ _ hh7
                      have g7' := cell_of_row w7 g 2 _ _ _ hh7'
                      have p6 := cell_of_row w6 w.heap.size 1 _ _ _ H6.out.2.2.2
                      simp only [List.getElem?_toArray, List.getElem?_cons_zero, List.getElem?_cons_succ] at g7 g7' p6
                      have f7 := frozen0 (j := 2) hh7'
                      have HRUN7 := hide hrun7
                      have H8 := hide (And.intro hR8 hM8)
                      clear hrun7 hh7 hh7' hR8 hM7 hM8
                      go_wp2_with fail
                      refine wp_region_held_drew (S := fun _ => True) (by kernel_rfl) (trivial) (fun hHeld => ?_)
                      refine takeJ 0 (v := ?_) ?_ hHeld ?_
                      rotate_left
                      · intro w _; go_simp; try with_reducible rfl
                      refine takeJ 1 (v := ?_) ?_ hHeld ?_
                      rotate_left
                      · intro w _; go_simp; try with_reducible rfl
                      refine takeJ 2 (v := ?_) ?_ hHeld ?_
                      rotate_left
                      · intro w _; go_simp; try with_reducible rfl
                      refine takeJ 3 (v := ?_) ?_ hHeld ?_
                      rotate_left
                      · intro w _; go_simp; try with_reducible rfl
                      refine takeJ 5 (v := ?_) ?_ hHeld ?_
                      rotate_left
                      · intro w _; go_simp; try with_reducible rfl
                      refine takeJ 6 (v := ?_) ?_ hHeld ?_
                      rotate_left
                      · intro w _; go_simp; try with_reducible rfl
                      refine takeJ 7 (v := ?_) ?_ hHeld ?_
                      rotate_left
                      · intro w _; go_simp; try with_reducible rfl
                      refine takeJ 8 (v := ?_) ?_ hHeld ?_
                      rotate_left
                      · intro w _; go_simp; try with_reducible rfl
                      refine onlyH (i := 4) rfl (by kernel_rfl) rfl (fun K hK => ?_)
                      go_simp
                      refine hK.out _ _ (trivial) (fun hHeld => ?_)
                      clear hK K
                      try simp only [Act.put, List.setIfInBounds_toArray, List.set_cons_zero, List.set_cons_succ]
                      refine onlyH (i := 9) rfl (by kernel_rfl) rfl (fun K hK => ?_)
                      refine wp_append_run2 (.tmp 110) (.tmp 114) 74 9 rfl rfl rfl HRUN7.out ?_
                      refine hK.out _ _ (trivial) (fun hHeld => ?_)
                      clear hK K
                      try simp only [Act.put, List.setIfInBounds_toArray, List.set_cons_zero, List.set_cons_succ]
                      refine takeJ 10 (v := ?_) ?_ hHeld ?_
                      rotate_left
                      · intro w _; go_simp; try with_reducible rfl
                      refine takeJ 11 (v := ?_) ?_ hHeld ?_
                      rotate_left
                      · intro w _; go_simp; try with_reducible rfl
                      refine onlyH (i := 12) rfl (by kernel_rfl) rfl (fun K hK => ?_)
                      go_simp
                      refine hK.out _ _ (trivial) (fun hHeld => ?_)
                      clear hK K
                      try simp only [Act.put, List.setIfInBounds_toArray, List.set_cons_zero, List.set_cons_succ]
                      refine wpAnyH_done (by kernel_rfl) ?_ _
                      clear hHeld
                      go_wp2
                      first | go_end0 | refine bodyPost_ret (results_none rfl _ _ _) rfl ?_
                      rw [HGS.out]
                      exact ⟨rfl, _, H8.out.1, (Mv.of HR.out.2.1 hB).trans ((H6.out.2.1.trans H8.out.2.none H6.out.2.2.1)) (Nx.refl _ _), (H6.out.2.2.1).trans (Nx.refl w6 _) (by have := H6.out.2.1.size; omega) |> fun h => by
                        rcases h with h | ⟨q, h, hq⟩
                        · exact .inl h
                        · exact .inr ⟨q, h, by have := HR.out.2.1.size; omega⟩⟩
                    · go_simp
                      refine hK.out _ _ (⟨tA, tA'⟩) (fun hHeld => ?_)
                      clear hK K
                      try simp only [Act.put, List.setIfInBounds_toArray, List.set_cons_zero, List.set_cons_succ]
                      refine onlyH (i := 4) rfl (by kernel_rfl) rfl (fun K hK => ?_)
                      go_simp
                      refine hK.out _ _ (⟨tA, tA'⟩) (fun hHeld => ?_)
                      clear hK K
                      try simp only [Act.put, List.setIfInBounds_toArray, List.set_cons_zero, List.set_cons_succ]
                      refine onlyH (i := 7) rfl (by kernel_rfl) rfl (fun K hK => ?_)
                      refine wp_append_run (.tmp 87) (.tmp 89) 38 rfl rfl rfl HRUN5.out ?_
                      refine hK.out _ _ (⟨u5, u5'⟩) (fun hHeld => ?_)
                      clear hK K
                      try simp only [Act.put, List.setIfInBounds_toArray, List.set_cons_zero, List.set_cons_succ]
                      refine takeJ 8 (v := ?_) ?_ hHeld ?_
                      rotate_left
                      · rintro w ⟨_, _⟩; go_simp; try with_reducible rfl
                      refine takeJ 9 (v := ?_) ?_ hHeld ?_
                      rotate_left
                      · rintro w ⟨_, _⟩; go_simp; try with_reducible rfl
                      refine onlyH (i := 10) rfl (by kernel_rfl) rfl (fun K hK => ?_)
                      go_simp
                      refine hK.out _ _ (⟨u6, u6'⟩) (fun hHeld => ?_)
                      clear hK K
                      try simp only [Act.put, List.setIfInBounds_toArray, List.set_cons_zero, List.set_cons_succ]
                      refine wpAnyH_done (by kernel_rfl) ?_ _
                      clear hHeld
                      generalize w5.setCell ⟨g, 3, none⟩ (.slice vpA vpM vpC) = w6 at *
                      obtain ⟨va7, vd7, vd', w7, hh7, ⟨vdA, vdM, vdC, rfl⟩, hrun7, hh7', hR8, hM7, hM8⟩ := H6.out.1.more ((d.take j).drop i) (by have := HN.out.2.1; simp only [List.length_drop, List.length_take]; omega)
                      have g7 := cell_of_row w6 g 2 _ _ _ hh7
                      have g7' := cell_of_row w7 g 2 _ _ _ hh7'
                      have p6 := cell_of_row w6 w.heap.size 1 _ _ _ H6.out.2.2.2
                      simp only [List.getElem?_toArray, List.getElem?_cons_zero, List.getElem?_cons_succ] at g7 g7' p6
                      have f7 := frozen0 (j := 2) hh7'
                      have HRUN7 := hide hrun7
                      have H8 := hide (And.intro hR8 hM8)
                      clear hrun7 hh7 hh7' hR8 hM7 hM8
                      go_wp2_with fail
                      refine wp_region_held_drew (S := fun _ => True) (by kernel_rfl) (trivial) (fun hHeld => ?_)
                      refine takeJ 0 (v := ?_) ?_ hHeld ?_
                      rotate_left
                      · intro w _; go_simp; try with_reducible rfl
                      refine takeJ 1 (v := ?_) ?_ hHeld ?_
                      rotate_left
                      · intro w _; go_simp; try with_reducible rfl
                      refine takeJ 2 (v := ?_) ?_ hHeld ?_
                      rotate_left
                      · intro w _; go_simp; try with_reducible rfl
                      refine takeJ 3 (v := ?_) ?_ hHeld ?_
                      rotate_left
                      · intro w _; go_simp; try with_reducible rfl
                      refine takeJ 5 (v := ?_) ?_ hHeld ?_
                      rotate_left
                      · intro w _; go_simp; try with_reducible rfl
                      refine takeJ 6 (v := ?_) ?_ hHeld ?_
                      rotate_left
                      · intro w _; go_simp; try with_reducible rfl
                      refine takeJ 7 (v := ?_) ?_ hHeld ?_
                      rotate_left
                      · intro w _; go_simp; try with_reducible rfl
                      refine takeJ 8 (v := ?_) ?_ hHeld ?_
                      rotate_left
                      · intro w _; go_simp; try with_reducible rfl
                      refine onlyH (i := 4) rfl (by kernel_rfl) rfl (fun K hK => ?_)
                      go_simp
                      refine hK.out _ _ (trivial) (fun hHeld => ?_)
                      clear hK K
                      try simp only [Act.put, List.setIfInBounds_toArray, List.set_cons_zero, List.set_cons_succ]
                      refine onlyH (i := 9) rfl (by kernel_rfl) rfl (fun K hK => ?_)
                      refine wp_append_run2 (.tmp 110) (.tmp 114) 74 9 rfl rfl rfl HRUN7.out ?_
                      refine hK.out _ _ (trivial) (fun hHeld => ?_)
                      clear hK K
                      try simp only [Act.put, List.setIfInBounds_toArray, List.set_cons_zero, List.set_cons_succ]
                      refine takeJ 10 (v := ?_) ?_ hHeld ?_
                      rotate_left
                      · intro w _; go_simp; try with_reducible rfl
                      refine takeJ 11 (v := ?_) ?_ hHeld ?_
                      rotate_left
                      · intro w _; go_simp; try with_reducible rfl
                      refine onlyH (i := 12) rfl (by kernel_rfl) rfl (fun K hK => ?_)
                      go_simp
                      refine hK.out _ _ (trivial) (fun hHeld => ?_)
                      clear hK K
                      try simp only [Act.put, List.setIfInBounds_toArray, List.set_cons_zero, List.set_cons_succ]
                      refine wpAnyH_done (by kernel_rfl) ?_ _
                      clear hHeld
                      go_wp2
                      first | go_end0 | refine bodyPost_ret (results_none rfl _ _ _) rfl ?_
                      rw [HGS.out]
                      exact ⟨rfl, _, H8.out.1, (Mv.of HR.out.2.1 hB).trans ((H6.out.2.1.trans H8.out.2.none H6.out.2.2.1)) (Nx.refl _ _), (H6.out.2.2.1).trans (Nx.refl w6 _) (by have := H6.out.2.1.size; omega) |> fun h => by
                        rcases h with h | ⟨q, h, hq⟩
                        · exact .inl h
                        · exact .inr ⟨q, h, by have := HR.out.2.1.size; omega⟩⟩
                  · have hl1 : 0 < level := by omega
                    have hgs := goS_bad (k := k) HBAD.out HNSK.out (show (askN (findO objs) p level).1 ≠ 0 by rw [askN_not (level := level) hfo hnd (fun h => by have := h.2; simp only at this; omega)]; simp)
                    rw [askN_not (level := level) hfo hnd (fun h => by have := h.2; simp only at this; omega)] at hgs
                    have HGS := hide hgs
                    clear hgs ih
                    go_wp2_with fail
                    refine (fail_any B _ g vo objs vp _ 101 H4.out.1 rfl).mono ?_
                    rintro e w9 ⟨rfl, hR9, hM9⟩
                    have HF := hide (And.intro hR9 (H4.out.2.1.trans hM9 (Nx.refl _ _)))
                    clear hR9 hM9
                    go_wp2
                    first | go_end0 | refine bodyPost_ret (results_none rfl _ _ _) rfl ?_
                    rw [HGS.out]
                    exact ⟨rfl, vp, HF.out.1, (Mv.of HR.out.2.1 hB).trans HF.out.2.none (Nx.refl _ _), Nx.refl _ _⟩
                · have hsb : ((d.length : Int) != p.2) = true := by simpa using hsz
                  have hgs := goS_bad (k := k) HBAD.out HNSK.out (show (askN (findO objs) p level).1 ≠ 0 by rw [askN_not (level := level) hfo hnd (fun h => hsz (by have := h.1; unfold sizeN at this; simp only [sizeP_nil] at this; omega))]; simp)
                  rw [askN_not (level := level) hfo hnd (fun h => hsz (by have := h.1; unfold sizeN at this; simp only [sizeP_nil] at this; omega))] at hgs
                  have HGS := hide hgs
                  clear hgs ih
                  go_wp2_with fail
                  refine (fail_any B _ g vo objs vp _ 101 H4.out.1 rfl).mono ?_
                  rintro e w9 ⟨rfl, hR9, hM9⟩
                  have HF := hide (And.intro hR9 (H4.out.2.1.trans hM9 (Nx.refl _ _)))
                  clear hR9 hM9
                  go_wp2
                  first | go_end0 | refine bodyPost_ret (results_none rfl _ _ _) rfl ?_
                  rw [HGS.out]
                  exact ⟨rfl, vp, HF.out.1, (Mv.of HR.out.2.1 hB).trans HF.out.2.none (Nx.refl _ _), Nx.refl _ _⟩
              | none =>
                rw [chunkV_no htk] at htc
                obtain ⟨lv, xs, kd, hform, hcase⟩ := fan_form b
                have hxs : (∀ q ∈ xs, 1 ≤ q.2) ∧ sizeP xs ≤ 262144 ∧ xs.length ≤ 32 := by
                  rcases hcase with ⟨-, h⟩ | ⟨-, -, h, -⟩
                  · have := fan_facts ((takenFan_iff b (lv, xs)).1 h).1
                    exact ⟨this.2.2.2.2.1, this.2.2.2.2.2, this.2.2.2.1⟩
                  · subst h
                    simp [sizeP]
                go_wp2_with fail
                refine htc.mono ?_
                rintro e w4 ⟨rfl, hb4⟩
                have htf := rtakeFan_any w4 b hbl
                clear htc hfs
                go_wp2_with fail
                refine htf.mono ?_
                rintro e w5 ⟨hsaid, hb5⟩
                obtain ⟨v, rfl, hov⟩ := hform _ _ _ hsaid
                obtain ⟨ao, cap, hvv, hcp, hcp2⟩ := own_form hov
                obtain ⟨m, hm⟩ : ∃ m, m = xs.length := ⟨_, rfl⟩
                rw [← hm] at hvv
                subst hvv
                have hb45 := hb4.trans (hb5.mono hb4.size)
                have hb36 : Below w3.heap.size w3 (w5.alloc (.cells #[.int .i64 lv, .slice ao m cap] 90)) := hb45.alloc hb45.size _
                have hR6 := H3.out.1.below hb36
                have hq6 := (hb36.block _ (lt_of_heap H3.out.2.2)).trans H3.out.2.2
                have hM6 : Mv B fts none w0 (w5.alloc (.cells #[.int .i64 lv, .slice ao m cap] 90)) := H3.out.2.1.more hb36 H3.out.1.le
                have hfb6 := heap_last w5 (.cells #[.int .i64 lv, .slice ao m cap] 90) _ rfl
                have hov6 := hov.alloc (.cells #[.int .i64 lv, .slice ao m cap] 90)
                have hsz35 : w.heap.size + 1 ≤ w3.heap.size := by have := H3.out.2.1.size; have := HN0.out; omega
                have hvne : (Value.slice ao m cap).ownBlock = none ∨ (Value.slice ao m cap).ownBlock ≠ vp.ownBlock := by
                  cases hq : (Value.slice ao m cap).ownBlock with
                  | none => exact .inl rfl
                  | some q =>
                    refine .inr fun h => ?_
                    have h1 := (hov.lt q hq).1
                    have h2 := HV.out q h.symm
                    have h3 := hb4.size
                    omega
                have hfbne : some w5.heap.size ≠ vp.ownBlock := fun h => by
                  have h2 := HV.out _ h.symm
                  have h3 := hb45.size
                  omega
                have hpm : m ≤ 32 := by omega
                have HM := hide hm
                have HX := hide hxs
                clear htf hsaid hb4 hb5 hb45 hb36 hov hcp hcp2 hm hxs hform
                go_wp2_with fail
                have HVN := hide hvne
                have HFB := hide hfbne
                generalize w5.alloc (.cells #[.int .i64 lv, .slice ao m cap] 90) = w6 at *
                generalize w5.heap.size = fb at *
                have p1 := cell_of_row w6 w.heap.size 1 _ _ _ hq6
                have fb0 := cell_of_row w6 fb 0 _ _ _ hfb6
                have fb1 := cell_of_row w6 fb 1 _ _ _ hfb6
                simp only [List.getElem?_toArray, List.getElem?_cons_zero, List.getElem?_cons_succ] at p1 fb0 fb1
                have H6 := hide (And.intro hR6 (And.intro hM6 (And.intro hfb6 hov6)))
                clear hR6 hM6 hfb6 hov6 hq6 hvne hfbne
                go_loopw [18, 19] (fun t u wr => ∃ j : Nat, j ≤ m ∧ u = .int .i64 j ∧ t = .int .i64 (sizeP (xs.take j)) ∧ wr = w6)
                  (fun _ u _ => m - (intOf u).toNat)
                case atStart => exact ⟨0, by omega, rfl, rfl, rfl⟩
                case round =>
                  obtain ⟨j, hj, rfl, rfl, hwr⟩ := hrel
                  obtain rfl := hwr.symm
                  by_cases hlt : j < m
                  · have hlt2 : j < xs.length := by have := HM.out; omega
                    obtain ⟨bb, off, rfl, k0, k1⟩ := own_part H6.out.2.2.2 hlt2
                    have hwi := sizeP_within xs HX.out.1 j hlt2
                    have hss := sizeP_step xs j hlt2
                    have hx2 := HX.out.2.1
                    generalize xs[j] = kx at *
                    have HSS := hide hss
                    generalize sizeP (xs.take j) = zj at *
                    clear hss
                    go_wp2
                    go_roundw
                    case rel => exact ⟨j + 1, by omega, by go_num, by rw [HSS.out], trivial⟩
                    case measure => simp [intOf]; omega
                  · have hjm : j = m := by omega
                    have htk2 : xs.take j = xs := by rw [hjm, HM.out, List.take_length]
                    rw [htk2]
                    clear htk2 hjm
                    obtain ⟨z, hz⟩ : ∃ z, z = sizeP xs := ⟨_, rfl⟩
                    rw [← hz]
                    rcases hcase with ⟨rfl, htf⟩ | ⟨rfl, htf, -, -⟩
                    · have hnd := nodeOf_f htk htf
                      have hlv1 : 1 ≤ lv := (fan_facts ((takenFan_iff b (lv, xs)).1 htf).1).1
                      by_cases hsp : z = p.2
                      · have hsb : (z != p.2) = false := by rw [hsp]; simp
                        have hsn : sizeN (lv, [], xs) = p.2 := by unfold sizeN; simp only [List.length_nil]; omega
                        by_cases hl0 : 0 ≤ level
                        · by_cases hll : lv = level
                          · have hlb : (lv != level) = false := by rw [hll]; simp
                            have hlvn : level = -1 ∨ level = lv := .inr hll.symm
                            have hask := askN_yes (level := level) hfo hnd ⟨hsn, hlvn⟩
                            have hsp : sizeP xs = p.2 := by omega
                            clear hz hsn hll
                            have hRt := nodeOf_right hnd
                            have hn1 : 1 ≤ lv := hlv1
                            have hn20 : lv ≤ 20 := hRt.hi
                            have hgs := goS_fan (k := k) HBAD.out HNSK.out (by rw [hask]) (by rw [hask]; simp only; omega)
                            rw [hask] at hgs
                            simp only at hgs
                            have hlk : (0 : Int) ≤ lv - 1 ∧ lv - 1 < k := by
                              rcases hlv with ⟨h1, h2⟩ | ⟨h1, h2⟩
                              · omega
                              · rcases hlvn with h | h <;> omega
                            have HLK := hide hlk
                            obtain ⟨s1, hs1⟩ : ∃ s1 : Wk, s1 = ⟨s.asked ++ [p.1], s.data, s.parts, 0⟩ := ⟨_, rfl⟩
                            obtain ⟨f, hf⟩ : ∃ f : Part → Int → Wk → Wk, f = fun q b t => goS (findO objs) lo hi k q b (lv - 1) t := ⟨_, rfl⟩
                            have hfg : ∀ q b t, 1 ≤ q.2 → Grows t (f q b t) (k * q.2.toNat) q.2.toNat := by subst hf; exact fun q b t h => goS_grows _ _ _ _ _ _ _ _ h
                            rw [show eachP (fun q b t => goS (findO objs) lo hi k q b (lv - 1) t) xs a ⟨s.asked ++ [p.1], s.data, s.parts, 0⟩ = eachP f xs a s1 from by rw [hf, hs1]] at hgs
                            have HGS := hide hgs
                            have HF := hide (And.intro hfg hf)
                            have HS1 := hide hs1
                            have HRT := hide (And.intro hRt.each hsp)
                            clear hgs hs1 hf hfg hRt hask hnd hlk hsp hlv hlvn
                            go_wp2_with fail
                            go_loopw [2, 20] (fun t u wr => ∃ j : Nat, j ≤ m ∧ u = .int .i64 j ∧ t = .int .i64 (a + sizeP (xs.take j)) ∧ ∃ vpj, RfW B wr g vo objs vpj (eachP f (xs.take j) a s1) ∧ Mv B fts vp.ownBlock w6 wr ∧ Nx w6 vp.ownBlock vpj.ownBlock)
                              (fun _ u _ => m - (intOf u).toNat)
                            case atStart =>
                              refine ⟨0, by omega, rfl, ?_, vp, ?_, Mv.refl _ _ _ _, Nx.refl _ _⟩
                              · simp only [List.take_zero, sizeP_nil, Int.add_zero]
                              · rw [HS1.out]; exact H6.out.1
                            case round =>
                              obtain ⟨j, hj, rfl, rfl, vpj, hRr, hMr, hNr⟩ := hrel
                              have hfbr := hMr.k _ _ _ _ H6.out.2.2.1 (by decide) HFB.out
                              have e0 := cell_of_row wr fb 0 _ _ _ hfbr
                              have e1 := cell_of_row wr fb 1 _ _ _ hfbr
                              simp only [List.getElem?_toArray, List.getElem?_cons_zero, List.getElem?_cons_succ] at e0 e1
                              by_cases hlt : j < m
                              · have hlt2 : j < xs.length := by have := HM.out; omega
                                have hovr := hMr.own H6.out.2.2.2 (by decide) HVN.out
                                obtain ⟨bb, off, rfl, k0, k1⟩ := own_part hovr hlt2
                                have hwi := sizeP_within xs HRT.out.1 j hlt2
                                have hst := eachP_step f xs j hlt2 a s1
                                have hss := sizeP_step xs j hlt2
                                have hgr := eachP_grows HF.out.1 (xs.take j) a s1 (fun q hq => HRT.out.1 q (List.mem_of_mem_take hq))
                                rw [HRT.out.2] at hwi
                                obtain ⟨kd2, hkd⟩ : ∃ kd2, kd2 = xs[j] := ⟨_, rfl⟩
                                rw [← hkd] at hwi hst hss k0 k1
                                obtain ⟨zz, hzz⟩ : ∃ zz, zz = a + sizeP (xs.take j) := ⟨_, rfl⟩
                                rw [← hzz] at hst
                                obtain ⟨sj, hsj⟩ : ∃ sj, sj = eachP f (xs.take j) a s1 := ⟨_, rfl⟩
                                rw [← hsj] at hRr hst hgr
                                have hmul : k * (sizeP (xs.take j)).toNat + k * kd2.2.toNat ≤ k * p.2.toNat := by rw [← Nat.mul_add]; exact Nat.mul_le_mul_left _ (by omega)
                                have hk1 : (k + 1) * p.2.toNat = k * p.2.toNat + p.2.toNat := by rw [Nat.add_mul]; simp
                                have hsl1 : s1.asked.length = s.asked.length + 1 := by rw [HS1.out]; simp
                                have hsl2 : s1.data.length = s.data.length := by rw [HS1.out]
                                have hsl3 : s1.parts.length = s.parts.length := by rw [HS1.out]
                                have hRd : RfW B wr.drew g vo objs vpj sj := hRr
                                have hzb : 0 ≤ zz ∧ zz + kd2.2 ≤ 262144 := by omega
                                have hrec := ih wr.drew kd2 zz (lv - 1) sj vpj (.inr HLK.out) hzb.1 (by omega) hzb.2 hRd (by have := hgr.1; have := HN.out.1; omega) (by have := hgr.2.1; have := HN.out.2.1; omega) (by have := hgr.2.2; have := HN.out.2.2; omega)
                                have hff : f kd2 zz sj = goS (findO objs) lo hi k kd2 zz (lv - 1) sj := by rw [HF.out.2]
                                rw [← hff, ← hst] at hrec
                                have hnext : zz + kd2.2 = a + sizeP (xs.take (j + 1)) := by rw [hss, hzz]; omega
                                have HNX := hide (And.intro hnext hkd)
                                have HR6 := hide (And.intro hMr hNr)
                                rw [← hzz]
                                have hzb1 := hzb.1
                                have hzb2 := hzb.2
                                have hk2 : 1 ≤ kd2.2 := hwi.2.1
                                have hwr1 : IntKind.i64.wrap (lv - 1) = lv - 1 := by rw [IntKind.wrap_i64]; omega
                                clear hst hss hgr hmul hk1 hsl1 hsl2 hsl3 hff hRr hRd hMr hNr hovr hfbr hsj hzz hkd hnext hwi
                                go_wp2_with fail
                                refine wp_region_held_drew (S := fun W => W.cell? ⟨fb, 0, none⟩ = some (.int .i64 lv) ∧ W.cell? ⟨fb, 1, none⟩ = some (.slice (some ⟨bb, off, none⟩) m cap) ∧ W.cell? ⟨bb, off + j * 2, none⟩ = some (.string (strB kd2.1)) ∧ W.cell? ⟨bb, off + j * 2 + 1, none⟩ = some (.int .i64 kd2.2)) (by kernel_rfl) (⟨e0, e1, k0, k1⟩) (fun hHeld => ?_)
                                refine takeJ 0 (v := ?_) ?_ hHeld ?_
                                rotate_left
                                · rintro w ⟨_, _, _, _⟩; go_simp; try with_reducible rfl
                                refine takeJ 1 (v := ?_) ?_ hHeld ?_
                                rotate_left
                                · rintro w ⟨_, _, _, _⟩; go_simp; try with_reducible rfl
                                refine takeJ 2 (v := ?_) ?_ hHeld ?_
                                rotate_left
                                · rintro w ⟨_, _, _, _⟩; go_simp; try with_reducible rfl
                                refine takeJ 3 (v := ?_) ?_ hHeld ?_
                                rotate_left
                                · rintro w ⟨_, _, _, _⟩; go_simp; try with_reducible rfl
                                refine takeJ 4 (v := ?_) ?_ hHeld ?_
                                rotate_left
                                · rintro w ⟨_, _, _, _⟩; go_simp; try with_reducible rfl
                                refine takeJ 5 (v := ?_) ?_ hHeld ?_
                                rotate_left
                                · rintro w ⟨_, _, _, _⟩; go_simp; try with_reducible rfl
                                refine takeJ 6 (v := ?_) ?_ hHeld ?_
                                rotate_left
                                · rintro w ⟨_, _, _, _⟩; go_simp; try with_reducible rfl
                                refine takeJ 7 (v := ?_) ?_ hHeld ?_
                                rotate_left
                                · rintro w ⟨_, _, _, _⟩; go_simp; try with_reducible rfl
                                refine takeJ 8 (v := ?_) ?_ hHeld ?_
                                rotate_left
                                · rintro w ⟨_, _, _, _⟩; go_simp; try with_reducible rfl
                                refine takeJ 9 (v := ?_) ?_ hHeld ?_
                                rotate_left
                                · rintro w ⟨_, _, _, _⟩; go_simp; try with_reducible rfl
                                refine takeJ 10 (v := ?_) ?_ hHeld ?_
                                rotate_left
                                · rintro w ⟨_, _, _, _⟩; go_simp; try with_reducible rfl
                                refine takeJ 11 (v := ?_) ?_ hHeld ?_
                                rotate_left
                                · rintro w ⟨_, _, _, _⟩; go_simp; try with_reducible rfl
                                refine onlyH (i := 12) rfl (by kernel_rfl) rfl (fun K hK => ?_)
                                go_simp
                                refine hrec.mono ?_
                                rintro e w8 ⟨rfl, vp8, hR8, hM8, hN8⟩
                                have hM68 : Mv B fts vp.ownBlock w6 w8 := HR6.out.1.drew.trans hM8 HR6.out.2
                                have hN68 : Nx w6 vp.ownBlock vp8.ownBlock := HR6.out.2.trans hN8 (show w6.heap.size ≤ wr.drew.heap.size from HR6.out.1.size)
                                have hfb8 := hM68.k _ _ _ _ H6.out.2.2.1 (by decide) HFB.out
                                have hov8 := hM68.own H6.out.2.2.2 (by decide) HVN.out
                                obtain ⟨bb', off', hbb, l0, l1⟩ := own_part hov8 hlt2
                                injection hbb with hbb
                                injection hbb with hb1 hb2
                                subst hb1
                                subst hb2
                                rw [← HNX.out.2] at l0 l1
                                have e0 := cell_of_row w8 fb 0 _ _ _ hfb8
                                have e1 := cell_of_row w8 fb 1 _ _ _ hfb8
                                simp only [List.getElem?_toArray, List.getElem?_cons_zero, List.getElem?_cons_succ] at e0 e1
                                have H8 := hide (And.intro hR8 (And.intro hM68 hN68))
                                clear hrec hR8 hM8 hN8 hM68 hN68 hfb8 hov8
                                go_simp
                                refine hK.out _ _ (⟨e0, e1, l0, l1⟩) (fun hHeld => ?_)
                                clear hK K
                                try simp only [Act.put, List.setIfInBounds_toArray, List.set_cons_zero, List.set_cons_succ]
                                refine wpAnyH_done (by kernel_rfl) ?_ _
                                clear hHeld
                                go_wp2
                                go_roundw
                                case rel => exact ⟨j + 1, by omega, by go_num, by rw [← HNX.out.1], vp8, H8.out.1, H8.out.2.1, H8.out.2.2⟩
                                case measure => simp [intOf]; omega
                              · obtain rfl : j = m := by omega
                                have htk2 : xs.take j = xs := by rw [HM.out, List.take_length]
                                rw [htk2] at hRr
                                have HL := hide (And.intro hRr (And.intro hMr hNr))
                                clear hRr hMr hNr htk2 hfbr
                                go_wp2
                                first | go_end0 | refine bodyPost_ret (results_none rfl _ _ _) rfl ?_
                                rw [HGS.out]
                                exact ⟨rfl, vpj, HL.out.1, ((Mv.of HR.out.2.1 hB).trans H6.out.2.1.none (Nx.refl _ _)).trans HL.out.2.1 (Nx.refl _ _), by
                                  rcases HL.out.2.2 with h | ⟨q, h, hq⟩
                                  · exact .inl h
                                  · exact .inr ⟨q, h, by have := H6.out.2.1.size; have := HR.out.2.1.size; omega⟩⟩
                          · have hlb : (lv != level) = true := by simpa using hll
                            have hgs := goS_bad (k := k) HBAD.out HNSK.out (show (askN (findO objs) p level).1 ≠ 0 by rw [askN_not (level := level) hfo hnd (fun h => by have := h.2; simp only at this; omega)]; simp)
                            rw [askN_not (level := level) hfo hnd (fun h => by have := h.2; simp only at this; omega)] at hgs
                            have HGS := hide hgs
                            clear hgs ih
                            go_wp2_with fail
                            refine (fail_any B _ g vo objs vp _ 101 H6.out.1 rfl).mono ?_
                            rintro e w9 ⟨rfl, hR9, hM9⟩
                            have HF := hide (And.intro hR9 (H6.out.2.1.trans hM9 (Nx.refl _ _)))
                            clear hR9 hM9
                            go_wp2
                            first | go_end0 | refine bodyPost_ret (results_none rfl _ _ _) rfl ?_
                            rw [HGS.out]
                            exact ⟨rfl, vp, HF.out.1, (Mv.of HR.out.2.1 hB).trans HF.out.2.none (Nx.refl _ _), Nx.refl _ _⟩
                        · have hlneg : level < 0 := by omega
                          have hlvn : level = -1 ∨ level = lv := by omega
                          have hask := askN_yes (level := level) hfo hnd ⟨hsn, hlvn⟩
                          have hsp : sizeP xs = p.2 := by omega
                          clear hz hsn
                          have hRt := nodeOf_right hnd
                          have hn1 : 1 ≤ lv := hlv1
                          have hn20 : lv ≤ 20 := hRt.hi
                          have hgs := goS_fan (k := k) HBAD.out HNSK.out (by rw [hask]) (by rw [hask]; simp only; omega)
                          rw [hask] at hgs
                          simp only at hgs
                          have hlk : (0 : Int) ≤ lv - 1 ∧ lv - 1 < k := by
                            rcases hlv with ⟨h1, h2⟩ | ⟨h1, h2⟩
                            · omega
                            · rcases hlvn with h | h <;> omega
                          have HLK := hide hlk
                          obtain ⟨s1, hs1⟩ : ∃ s1 : Wk, s1 = ⟨s.asked ++ [p.1], s.data, s.parts, 0⟩ := ⟨_, rfl⟩
                          obtain ⟨f, hf⟩ : ∃ f : Part → Int → Wk → Wk, f = fun q b t => goS (findO objs) lo hi k q b (lv - 1) t := ⟨_, rfl⟩
                          have hfg : ∀ q b t, 1 ≤ q.2 → Grows t (f q b t) (k * q.2.toNat) q.2.toNat := by subst hf; exact fun q b t h => goS_grows _ _ _ _ _ _ _ _ h
                          rw [show eachP (fun q b t => goS (findO objs) lo hi k q b (lv - 1) t) xs a ⟨s.asked ++ [p.1], s.data, s.parts, 0⟩ = eachP f xs a s1 from by rw [hf, hs1]] at hgs
                          have HGS := hide hgs
                          have HF := hide (And.intro hfg hf)
                          have HS1 := hide hs1
                          have HRT := hide (And.intro hRt.each hsp)
                          clear hgs hs1 hf hfg hRt hask hnd hlk hsp hlv hlvn
                          go_wp2_with fail
                          go_loopw [2, 20] (fun t u wr => ∃ j : Nat, j ≤ m ∧ u = .int .i64 j ∧ t = .int .i64 (a + sizeP (xs.take j)) ∧ ∃ vpj, RfW B wr g vo objs vpj (eachP f (xs.take j) a s1) ∧ Mv B fts vp.ownBlock w6 wr ∧ Nx w6 vp.ownBlock vpj.ownBlock)
                            (fun _ u _ => m - (intOf u).toNat)
                          case atStart =>
                            refine ⟨0, by omega, rfl, ?_, vp, ?_, Mv.refl _ _ _ _, Nx.refl _ _⟩
                            · simp only [List.take_zero, sizeP_nil, Int.add_zero]
                            · rw [HS1.out]; exact H6.out.1
                          case round =>
                            obtain ⟨j, hj, rfl, rfl, vpj, hRr, hMr, hNr⟩ := hrel
                            have hfbr := hMr.k _ _ _ _ H6.out.2.2.1 (by decide) HFB.out
                            have e0 := cell_of_row wr fb 0 _ _ _ hfbr
                            have e1 := cell_of_row wr fb 1 _ _ _ hfbr
                            simp only [List.getElem?_toArray, List.getElem?_cons_zero, List.getElem?_cons_succ] at e0 e1
                            by_cases hlt : j < m
                            · have hlt2 : j < xs.length := by have := HM.out; omega
                              have hovr := hMr.own H6.out.2.2.2 (by decide) HVN.out
                              obtain ⟨bb, off, rfl, k0, k1⟩ := own_part hovr hlt2
                              have hwi := sizeP_within xs HRT.out.1 j hlt2
                              have hst := eachP_step f xs j hlt2 a s1
                              have hss := sizeP_step xs j hlt2
                              have hgr := eachP_grows HF.out.1 (xs.take j) a s1 (fun q hq => HRT.out.1 q (List.mem_of_mem_take hq))
                              rw [HRT.out.2] at hwi
                              obtain ⟨kd2, hkd⟩ : ∃ kd2, kd2 = xs[j] := ⟨_, rfl⟩
                              rw [← hkd] at hwi hst hss k0 k1
                              obtain ⟨zz, hzz⟩ : ∃ zz, zz = a + sizeP (xs.take j) := ⟨_, rfl⟩
                              rw [← hzz] at hst
                              obtain ⟨sj, hsj⟩ : ∃ sj, sj = eachP f (xs.take j) a s1 := ⟨_, rfl⟩
                              rw [← hsj] at hRr hst hgr
                              have hmul : k * (sizeP (xs.take j)).toNat + k * kd2.2.toNat ≤ k * p.2.toNat := by rw [← Nat.mul_add]; exact Nat.mul_le_mul_left _ (by omega)
                              have hk1 : (k + 1) * p.2.toNat = k * p.2.toNat + p.2.toNat := by rw [Nat.add_mul]; simp
                              have hsl1 : s1.asked.length = s.asked.length + 1 := by rw [HS1.out]; simp
                              have hsl2 : s1.data.length = s.data.length := by rw [HS1.out]
                              have hsl3 : s1.parts.length = s.parts.length := by rw [HS1.out]
                              have hRd : RfW B wr.drew g vo objs vpj sj := hRr
                              have hzb : 0 ≤ zz ∧ zz + kd2.2 ≤ 262144 := by omega
                              have hrec := ih wr.drew kd2 zz (lv - 1) sj vpj (.inr HLK.out) hzb.1 (by omega) hzb.2 hRd (by have := hgr.1; have := HN.out.1; omega) (by have := hgr.2.1; have := HN.out.2.1; omega) (by have := hgr.2.2; have := HN.out.2.2; omega)
                              have hff : f kd2 zz sj = goS (findO objs) lo hi k kd2 zz (lv - 1) sj := by rw [HF.out.2]
                              rw [← hff, ← hst] at hrec
                              have hnext : zz + kd2.2 = a + sizeP (xs.take (j + 1)) := by rw [hss, hzz]; omega
                              have HNX := hide (And.intro hnext hkd)
                              have HR6 := hide (And.intro hMr hNr)
                              rw [← hzz]
                              have hzb1 := hzb.1
                              have hzb2 := hzb.2
                              have hk2 : 1 ≤ kd2.2 := hwi.2.1
                              have hwr1 : IntKind.i64.wrap (lv - 1) = lv - 1 := by rw [IntKind.wrap_i64]; omega
                              clear hst hss hgr hmul hk1 hsl1 hsl2 hsl3 hff hRr hRd hMr hNr hovr hfbr hsj hzz hkd hnext hwi
                              go_wp2_with fail
                              refine wp_region_held_drew (S := fun W => W.cell? ⟨fb, 0, none⟩ = some (.int .i64 lv) ∧ W.cell? ⟨fb, 1, none⟩ = some (.slice (some ⟨bb, off, none⟩) m cap) ∧ W.cell? ⟨bb, off + j * 2, none⟩ = some (.string (strB kd2.1)) ∧ W.cell? ⟨bb, off + j * 2 + 1, none⟩ = some (.int .i64 kd2.2)) (by kernel_rfl) (⟨e0, e1, k0, k1⟩) (fun hHeld => ?_)
                              refine takeJ 0 (v := ?_) ?_ hHeld ?_
                              rotate_left
                              · rintro w ⟨_, _, _, _⟩; go_simp; try with_reducible rfl
                              refine takeJ 1 (v := ?_) ?_ hHeld ?_
                              rotate_left
                              · rintro w ⟨_, _, _, _⟩; go_simp; try with_reducible rfl
                              refine takeJ 2 (v := ?_) ?_ hHeld ?_
                              rotate_left
                              · rintro w ⟨_, _, _, _⟩; go_simp; try with_reducible rfl
                              refine takeJ 3 (v := ?_) ?_ hHeld ?_
                              rotate_left
                              · rintro w ⟨_, _, _, _⟩; go_simp; try with_reducible rfl
                              refine takeJ 4 (v := ?_) ?_ hHeld ?_
                              rotate_left
                              · rintro w ⟨_, _, _, _⟩; go_simp; try with_reducible rfl
                              refine takeJ 5 (v := ?_) ?_ hHeld ?_
                              rotate_left
                              · rintro w ⟨_, _, _, _⟩; go_simp; try with_reducible rfl
                              refine takeJ 6 (v := ?_) ?_ hHeld ?_
                              rotate_left
                              · rintro w ⟨_, _, _, _⟩; go_simp; try with_reducible rfl
                              refine takeJ 7 (v := ?_) ?_ hHeld ?_
                              rotate_left
                              · rintro w ⟨_, _, _, _⟩; go_simp; try with_reducible rfl
                              refine takeJ 8 (v := ?_) ?_ hHeld ?_
                              rotate_left
                              · rintro w ⟨_, _, _, _⟩; go_simp; try with_reducible rfl
                              refine takeJ 9 (v := ?_) ?_ hHeld ?_
                              rotate_left
                              · rintro w ⟨_, _, _, _⟩; go_simp; try with_reducible rfl
                              refine takeJ 10 (v := ?_) ?_ hHeld ?_
                              rotate_left
                              · rintro w ⟨_, _, _, _⟩; go_simp; try with_reducible rfl
                              refine takeJ 11 (v := ?_) ?_ hHeld ?_
                              rotate_left
                              · rintro w ⟨_, _, _, _⟩; go_simp; try with_reducible rfl
                              refine onlyH (i := 12) rfl (by kernel_rfl) rfl (fun K hK => ?_)
                              go_simp
                              refine hrec.mono ?_
                              rintro e w8 ⟨rfl, vp8, hR8, hM8, hN8⟩
                              have hM68 : Mv B fts vp.ownBlock w6 w8 := HR6.out.1.drew.trans hM8 HR6.out.2
                              have hN68 : Nx w6 vp.ownBlock vp8.ownBlock := HR6.out.2.trans hN8 (show w6.heap.size ≤ wr.drew.heap.size from HR6.out.1.size)
                              have hfb8 := hM68.k _ _ _ _ H6.out.2.2.1 (by decide) HFB.out
                              have hov8 := hM68.own H6.out.2.2.2 (by decide) HVN.out
                              obtain ⟨bb', off', hbb, l0, l1⟩ := own_part hov8 hlt2
                              injection hbb with hbb
                              injection hbb with hb1 hb2
                              subst hb1
                              subst hb2
                              rw [← HNX.out.2] at l0 l1
                              have e0 := cell_of_row w8 fb 0 _ _ _ hfb8
                              have e1 := cell_of_row w8 fb 1 _ _ _ hfb8
                              simp only [List.getElem?_toArray, List.getElem?_cons_zero, List.getElem?_cons_succ] at e0 e1
                              have H8 := hide (And.intro hR8 (And.intro hM68 hN68))
                              clear hrec hR8 hM8 hN8 hM68 hN68 hfb8 hov8
                              go_simp
                              refine hK.out _ _ (⟨e0, e1, l0, l1⟩) (fun hHeld => ?_)
                              clear hK K
                              try simp only [Act.put, List.setIfInBounds_toArray, List.set_cons_zero, List.set_cons_succ]
                              refine wpAnyH_done (by kernel_rfl) ?_ _
                              clear hHeld
                              go_wp2
                              go_roundw
                              case rel => exact ⟨j + 1, by omega, by go_num, by rw [← HNX.out.1], vp8, H8.out.1, H8.out.2.1, H8.out.2.2⟩
                              case measure => simp [intOf]; omega
                            · obtain rfl : j = m := by omega
                              have htk2 : xs.take j = xs := by rw [HM.out, List.take_length]
                              rw [htk2] at hRr
                              have HL := hide (And.intro hRr (And.intro hMr hNr))
                              clear hRr hMr hNr htk2 hfbr
                              go_wp2
                              first | go_end0 | refine bodyPost_ret (results_none rfl _ _ _) rfl ?_
                              rw [HGS.out]
                              exact ⟨rfl, vpj, HL.out.1, ((Mv.of HR.out.2.1 hB).trans H6.out.2.1.none (Nx.refl _ _)).trans HL.out.2.1 (Nx.refl _ _), by
                                rcases HL.out.2.2 with h | ⟨q, h, hq⟩
                                · exact .inl h
                                · exact .inr ⟨q, h, by have := H6.out.2.1.size; have := HR.out.2.1.size; omega⟩⟩
                      · have hsb : (z != p.2) = true := by simpa using hsp
                        have hgs := goS_bad (k := k) HBAD.out HNSK.out (show (askN (findO objs) p level).1 ≠ 0 by rw [askN_not (level := level) hfo hnd (fun h => hsp (by have := h.1; unfold sizeN at this; simp only [List.length_nil] at this; omega))]; simp)
                        rw [askN_not (level := level) hfo hnd (fun h => hsp (by have := h.1; unfold sizeN at this; simp only [List.length_nil] at this; omega))] at hgs
                        have HGS := hide hgs
                        clear hgs ih
                        go_wp2_with fail
                        refine (fail_any B _ g vo objs vp _ 101 H6.out.1 rfl).mono ?_
                        rintro e w9 ⟨rfl, hR9, hM9⟩
                        have HF := hide (And.intro hR9 (H6.out.2.1.trans hM9 (Nx.refl _ _)))
                        clear hR9 hM9
                        go_wp2
                        first | go_end0 | refine bodyPost_ret (results_none rfl _ _ _) rfl ?_
                        rw [HGS.out]
                        exact ⟨rfl, vp, HF.out.1, (Mv.of HR.out.2.1 hB).trans HF.out.2.none (Nx.refl _ _), Nx.refl _ _⟩
                    · have hnd := nodeOf_n htk htf
                      have hgs := goS_bad (k := k) HBAD.out HNSK.out (show (askN (findO objs) p level).1 ≠ 0 by rw [askN_no (level := level) hfo hnd]; simp)
                      rw [askN_no (level := level) hfo hnd] at hgs
                      have HGS := hide hgs
                      clear hgs ih
                      go_wp2_with fail
                      refine (fail_any B _ g vo objs vp _ 101 H6.out.1 rfl).mono ?_
                      rintro e w9 ⟨rfl, hR9, hM9⟩
                      have HF := hide (And.intro hR9 (H6.out.2.1.trans hM9 (Nx.refl _ _)))
                      clear hR9 hM9
                      go_wp2
                      first | go_end0 | refine bodyPost_ret (results_none rfl _ _ _) rfl ?_
                      rw [HGS.out]
                      exact ⟨rfl, vp, HF.out.1, (Mv.of HR.out.2.1 hB).trans HF.out.2.none (Nx.refl _ _), Nx.refl _ _⟩
end Go.Proofs.YtokebnkgjchfaaaGreatDoor
