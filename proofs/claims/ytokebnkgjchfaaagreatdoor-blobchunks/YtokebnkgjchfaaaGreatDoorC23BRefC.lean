/-
  The reference goes through all fans, as the plain one says. Conditions: its walk lies there; sizes of a file.
-/
import Derived.Test.YtokebnkgjchfaaaGreatDoorC21BRead
import Derived.Test.YtokebnkgjchfaaaGreatDoorC22BThru2
namespace Go.Proofs.YtokebnkgjchfaaaGreatDoor
open Go.RowKit
/-- The reference's way: what is of level 0 is met, and not asked for. -/
def chR (fd : Bs → Option Bs) (k : Nat) (p : Part) (level : Int) (s : Wk) : Wk := if s.bad ≠ 0 then s else if level = 0 then ⟨s.asked, s.data, s.parts ++ [p], 0⟩ else chS fd k p level s
theorem chR_ne (fd : Bs → Option Bs) (k : Nat) (p : Part) (level : Int) (s : Wk) (h : level ≠ 0) : chR fd k p level s = chS fd k p level s := by
  unfold chR
  by_cases hb : s.bad ≠ 0
  · rw [if_pos hb, chS_dead _ _ _ _ _ hb]
  · rw [if_neg hb, if_neg h]
theorem chR_each (fd : Bs → Option Bs) (k : Nat) : ∀ (xs : List Part) (a : Int) (s : Wk), s.bad = 0 → eachP (fun q _ t => chR fd k q 0 t) xs a s = ⟨s.asked, s.data, s.parts ++ xs, 0⟩
  | [], a, s, h => by cases s; simp only at h; subst h; simp [eachP]
  | q :: r, a, s, h => by
    rw [eachP]
    have e : chR fd k q 0 s = ⟨s.asked, s.data, s.parts ++ [q], 0⟩ := by unfold chR; rw [if_neg (fun h' => h' h), if_pos rfl]
    rw [e, chR_each fd k r _ _ rfl]
    simp
theorem chR_grows (fd : Bs → Option Bs) (k : Nat) (p : Part) (level : Int) (s : Wk) (h : 1 ≤ p.2) : Grows s (chR fd k p level s) (k * p.2.toNat) p.2.toNat := by
  unfold chR
  by_cases hb : s.bad ≠ 0
  · rw [if_pos hb]; exact (Grows.refl s).le (by simp) (by simp)
  · rw [if_neg hb]
    by_cases hl : level = 0
    · rw [if_pos hl]
      exact ⟨by simp only; omega, by simp only; omega, by simp only [List.length_append, List.length_singleton]; omega⟩
    · rw [if_neg hl]; exact chS_grows _ _ _ _ _ h
theorem chunk_no_fan {b d : Bs} (h : takenChunk b = some d) : takenFan b = none := by
  cases h' : takenFan b with
  | none => rfl
  | some f =>
    have h1 := ((takenChunk_iff b d).1 h).2
    have h2 := ((takenFan_iff b f).1 h').2
    rw [h1] at h2
    injection h2 with h2 _
    exact absurd h2 (by decide)
set_option maxRecDepth 40000 in
set_option maxHeartbeats 6400000 in
theorem rchunks_any (g : Nat) (vo : Value) (objs : List Pair) (B : Nat) (hob : ∀ o ∈ objs, o.2.length ≤ 140737488351232) : ∀ (k : Nat) (w : World) (p : Part) (level : Int) (s : Wk) (vp : Value), (level = -1 ∧ 21 ≤ k ∨ 0 ≤ level ∧ level < k) → 1 ≤ p.2 → p.2 ≤ 262144 → RfW B w g vo objs vp s → s.asked.length + k * p.2.toNat ≤ 4294967296 → s.parts.length + p.2.toNat ≤ 4294967296 →
    Calls Tryz.prog 33 #[.pointer (some ⟨g, 0, none⟩), .agg #[.string (strB p.1), .int .i64 p.2], .int .i64 level] w fun e w' => e = .returned (.tuple #[]) ∧ ∃ vp', RfW B w' g vo objs vp' (chR (findO objs) k p level s) ∧ Mv B fts vp.ownBlock w w' ∧ Nx w vp.ownBlock vp'.ownBlock := by
  intro k
  induction k with
  | zero =>
    intro w p level s vp hlv
    omega
  | succ k ih =>
    intro w p level s vp hlv hp hp2 hR hn1 hn2
    have hB := hR.le
    have hb0 : Below w.heap.size w (w.alloc (.cells #[.string (strB p.1), .int .i64 p.2] 25)) := (Below.refl _ _).alloc (Nat.le_refl _) _
    have hq0 := heap_last w (.cells #[.string (strB p.1), .int .i64 p.2] 25) _ rfl
    have hn0 : (w.alloc (.cells #[.string (strB p.1), .int .i64 p.2] 25)).heap.size = w.heap.size + 1 := by simp
    have hvlt : ∀ q, vp.ownBlock = some q → q < w.heap.size := fun q hq => hR.lt hq
    have hR0 := hR.below hb0
    generalize hw0 : w.alloc (.cells #[.string (strB p.1), .int .i64 p.2] 25) = w0 at *
    have q1 := cell_of_row w0 w.heap.size 1 _ _ _ hq0
    have q0 := cell_of_row w0 w.heap.size 0 _ _ _ hq0
    simp only [List.getElem?_toArray, List.getElem?_cons_zero, List.getElem?_cons_succ] at q0 q1
    have HR := hide (And.intro hR0 (And.intro hb0 hq0))
    have HV := hide hvlt
    have HN := hide (And.intro hn1 hn2)
    have HN0 := hide hn0
    obtain ⟨hg, hl0, va0, vd0, hh0, -⟩ := hR0
    have c4 := cell_of_row w0 g 4 _ _ _ hh0
    simp only [List.getElem?_toArray, List.getElem?_cons_zero, List.getElem?_cons_succ] at c4
    clear hR hb0 hq0 hn0 hvlt hn1 hn2 hh0
    by_cases hbad : s.bad ≠ 0
    · have hgs : chR (findO objs) (k + 1) p level s = s := by unfold chR; rw [if_pos hbad]
      have HGS := hide hgs
      have hb : (s.bad != 0) = true := by simpa using hbad
      clear hgs ih hbad
      go_enter Tryz.func33, Tryz.ntmps33
      go_wp2
      first | go_end0 | refine bodyPost_ret (results_none rfl _ _ _) rfl ?_
      rw [HGS.out]
      exact ⟨rfl, vp, HR.out.1, Mv.of HR.out.2.1 hB, Nx.refl _ _⟩
    · have hbad : s.bad = 0 := by simpa using hbad
      have hb : (s.bad != 0) = false := by rw [hbad]; rfl
      have HBAD := hide hbad
      clear hbad
      by_cases hlz : level = 0
      · have hgs : chR (findO objs) (k + 1) p level s = ⟨s.asked, s.data, s.parts ++ [p], 0⟩ := by unfold chR; rw [if_neg (fun h => h HBAD.out), if_pos hlz]
        have HGS := hide hgs
        have hlb : (level == 0) = true := by rw [hlz]; rfl
        clear hgs ih hlz
        obtain ⟨va5, vd5, vp', w5, hh5, ⟨vpA, vpM, vpC, rfl⟩, hrun5, hh5', hR6, hM5, hM6, hNx⟩ := HR.out.1.part p (by have := HN.out.2; omega)
        have g5 := cell_of_row w0 g 3 _ _ _ hh5
        have hhA := (heap_past w0 (.cells #[.string (strB p.1), .int .i64 p.2] 25) _ (lt_of_heap hh5)).trans hh5
        have gA := cell_of_row _ g 3 _ _ _ hhA
        have g5' := cell_of_row w5 g 3 _ _ _ hh5'
        have hqA := (heap_past w0 (.cells #[.string (strB p.1), .int .i64 p.2] 25) _ (lt_of_heap HR.out.2.2)).trans HR.out.2.2
        have hpne : some w.heap.size ≠ vp.ownBlock := fun h => by have := HV.out _ h.symm; omega
        have hq5 := hM5.k _ _ _ _ HR.out.2.2 (by decide) hpne
        have hq6 := hM6.k _ _ _ _ HR.out.2.2 (by decide) hpne
        have tA := cell_of_row _ w.heap.size 0 _ _ _ hqA
        have tA' := cell_of_row _ w.heap.size 1 _ _ _ hqA
        have u5 := cell_of_row _ w.heap.size 0 _ _ _ hq5
        have u5' := cell_of_row _ w.heap.size 1 _ _ _ hq5
        have u6 := cell_of_row _ w.heap.size 0 _ _ _ hq6
        have u6' := cell_of_row _ w.heap.size 1 _ _ _ hq6
        simp only [List.getElem?_toArray, List.getElem?_cons_zero, List.getElem?_cons_succ] at g5 gA g5' tA tA' u5 u5' u6 u6'
        have f5 := frozen0 (j := 3) hh5'
        have HRUN5 := hide hrun5
        rw [HBAD.out] at hR6
        have H6 := hide (And.intro hR6 (And.intro hM6 hNx))
        clear hrun5 hh5 hh5' hR6 hM5 hM6 hNx hhA hqA hq5 hq6 hpne
        go_enter Tryz.func33, Tryz.ntmps33
        go_wp2_with fail
        refine wp_region_held_drew (S := fun W => W.cell? ⟨w.heap.size, 0, none⟩ = some (.string (strB p.1)) ∧ W.cell? ⟨w.heap.size, 1, none⟩ = some (.int .i64 p.2)) (by kernel_rfl) (⟨q0, q1⟩) (fun hHeld => ?_)
        refine takeJ 0 (v := ?_) ?_ hHeld ?_
        rotate_left
        · rintro w ⟨_, _⟩; go_simp; try with_reducible rfl
        refine takeJ 1 (v := ?_) ?_ hHeld ?_
        rotate_left
        · rintro w ⟨_, _⟩; go_simp; try with_reducible rfl
        refine takeJ 2 (v := ?_) ?_ hHeld ?_
        rotate_left
        · rintro w ⟨_, _⟩; go_simp; try with_reducible rfl
        refine takeJ 3 (v := ?_) ?_ hHeld ?_
        rotate_left
        · rintro w ⟨_, _⟩; go_simp; try with_reducible rfl
        refine takeJ 5 (v := ?_) ?_ hHeld ?_
        rotate_left
        · rintro w ⟨_, _⟩; go_simp; try with_reducible rfl
        refine twoH (i := 4) (j := 6) rfl rfl (by kernel_rfl) rfl rfl (fun K hK => ?_) (fun K hK => ?_)
        · go_simp
          refine hK.out _ _ (⟨q0, q1⟩) (fun hHeld => ?_)
          clear hK K
          try simp only [Act.put, List.setIfInBounds_toArray, List.set_cons_zero, List.set_cons_succ]
          refine onlyH (i := 6) rfl (by kernel_rfl) rfl (fun K hK => ?_)
          go_simp
          refine hK.out _ _ (⟨tA, tA'⟩) (fun hHeld => ?_)
          clear hK K
          try simp only [Act.put, List.setIfInBounds_toArray, List.set_cons_zero, List.set_cons_succ]
          refine onlyH (i := 7) rfl (by kernel_rfl) rfl (fun K hK => ?_)
          refine wp_append_run (.tmp 24) (.tmp 26) 38 rfl rfl rfl HRUN5.out ?_
          refine hK.out _ _ (⟨u5, u5'⟩) (fun hHeld => ?_)
          clear hK K
          try simp only [Act.put, List.setIfInBounds_toArray, List.set_cons_zero, List.set_cons_succ]
          refine takeJ 8 (v := ?_) ?_ hHeld ?_
          rotate_left
          · rintro w ⟨_, _⟩; go_simp; try with_reducible rfl
          refine takeJ 9 (v := ?_) ?_ hHeld ?_
          rotate_left
          · rintro w ⟨_, _⟩; go_simp; try with_reducible rfl
          refine onlyH (i := 10) rfl (by kernel_rfl) rfl (fun K hK => ?_)
          go_simp
          refine hK.out _ _ (⟨u6, u6'⟩) (fun hHeld => ?_)
          clear hK K
          try simp only [Act.put, List.setIfInBounds_toArray, List.set_cons_zero, List.set_cons_succ]
          refine wpAnyH_done (by kernel_rfl) ?_ _
          clear hHeld
          go_wp2
          first | go_end0 | refine bodyPost_ret (results_none rfl _ _ _) rfl ?_
          rw [HGS.out]
          exact ⟨rfl, _, H6.out.1, (Mv.of HR.out.2.1 hB).trans H6.out.2.1 (Nx.refl _ _), by
            rcases H6.out.2.2 with h | ⟨q, h, hq⟩
            · exact .inl h
            · exact .inr ⟨q, h, by have := HR.out.2.1.size; omega⟩⟩
        · go_simp
          refine hK.out _ _ (⟨tA, tA'⟩) (fun hHeld => ?_)
          clear hK K
          try simp only [Act.put, List.setIfInBounds_toArray, List.set_cons_zero, List.set_cons_succ]
          refine onlyH (i := 4) rfl (by kernel_rfl) rfl (fun K hK => ?_)
          go_simp
          refine hK.out _ _ (⟨tA, tA'⟩) (fun hHeld => ?_)
          clear hK K
          try simp only [Act.put, List.setIfInBounds_toArray, List.set_cons_zero, List.set_cons_succ]
          refine onlyH (i := 7) rfl (by kernel_rfl) rfl (fun K hK => ?_)
          refine wp_append_run (.tmp 24) (.tmp 26) 38 rfl rfl rfl HRUN5.out ?_
          refine hK.out _ _ (⟨u5, u5'⟩) (fun hHeld => ?_)
          clear hK K
          try simp only [Act.put, List.setIfInBounds_toArray, List.set_cons_zero, List.set_cons_succ]
          refine takeJ 8 (v := ?_) ?_ hHeld ?_
          rotate_left
          · rintro w ⟨_, _⟩; go_simp; try with_reducible rfl
          refine takeJ 9 (v := ?_) ?_ hHeld ?_
          rotate_left
          · rintro w ⟨_, _⟩; go_simp; try with_reducible rfl
          refine onlyH (i := 10) rfl (by kernel_rfl) rfl (fun K hK => ?_)
          go_simp
          refine hK.out _ _ (⟨u6, u6'⟩) (fun hHeld => ?_)
          clear hK K
          try simp only [Act.put, List.setIfInBounds_toArray, List.set_cons_zero, List.set_cons_succ]
          refine wpAnyH_done (by kernel_rfl) ?_ _
          clear hHeld
          go_wp2
          first | go_end0 | refine bodyPost_ret (results_none rfl _ _ _) rfl ?_
          rw [HGS.out]
          exact ⟨rfl, _, H6.out.1, (Mv.of HR.out.2.1 hB).trans H6.out.2.1 (Nx.refl _ _), by
            rcases H6.out.2.2 with h | ⟨q, h, hq⟩
            · exact .inl h
            · exact .inr ⟨q, h, by have := HR.out.2.1.size; omega⟩⟩
      · have hlb : (level == 0) = false := by rw [beq_eq_false_iff_ne]; exact hlz
        have hcr := chR_ne (findO objs) (k + 1) p level s hlz
        have HCR := hide hcr
        clear hcr
        obtain ⟨va, vd, va', w1, hh, ⟨vaA, vaM, vaC, rfl⟩, hrun, hh1, hR2, hM1, hM2⟩ := HR.out.1.ask p.1 (by have := HN.out.1; omega)
        have g1 := cell_of_row w0 g 1 _ _ _ hh
        have hhA := (heap_past w0 (.cells #[.string (strB p.1)] 9) _ (lt_of_heap hh)).trans hh
        have gA := cell_of_row _ g 1 _ _ _ hhA
        have g2 := cell_of_row w1 g 1 _ _ _ hh1
        have hqA := (heap_past w0 (.cells #[.string (strB p.1)] 9) _ (lt_of_heap HR.out.2.2)).trans HR.out.2.2
        have hq1 := hM1.k _ _ _ _ HR.out.2.2 (by decide) (by simp)
        have hq2 := hM2.k _ _ _ _ HR.out.2.2 (by decide) (by simp)
        have sA := cell_of_row _ w.heap.size 0 _ _ _ hqA
        have s1 := cell_of_row _ w.heap.size 0 _ _ _ hq1
        have s2 := cell_of_row _ w.heap.size 0 _ _ _ hq2
        simp only [List.getElem?_toArray, List.getElem?_cons_zero, List.getElem?_cons_succ] at g1 gA g2 sA s1 s2
        have f1 := frozen0 (j := 1) hh1
        have HRUN := hide hrun
        have H2 := hide (And.intro hR2 (And.intro hM2 hq2))
        clear hrun hh hh1 hR2 hM1 hM2 hhA hqA hq1 hq2
        go_enter Tryz.func33, Tryz.ntmps33
        go_wp2_with fail
        refine wp_region_held_drew (S := fun W => W.cell? ⟨w.heap.size, 0, none⟩ = some (.string (strB p.1))) (by kernel_rfl) (q0) (fun hHeld => ?_)
        refine takeJ 0 (v := ?_) ?_ hHeld ?_
        rotate_left
        · intro w hS; (try dsimp only at hS); go_simp; try with_reducible rfl
        refine takeJ 1 (v := ?_) ?_ hHeld ?_
        rotate_left
        · intro w hS; (try dsimp only at hS); go_simp; try with_reducible rfl
        refine takeJ 2 (v := ?_) ?_ hHeld ?_
        rotate_left
        · intro w hS; (try dsimp only at hS); go_simp; try with_reducible rfl
        refine takeJ 3 (v := ?_) ?_ hHeld ?_
        rotate_left
        · intro w hS; (try dsimp only at hS); go_simp; try with_reducible rfl
        refine takeJ 5 (v := ?_) ?_ hHeld ?_
        rotate_left
        · intro w hS; (try dsimp only at hS); go_simp; try with_reducible rfl
        refine takeJ 6 (v := ?_) ?_ hHeld ?_
        rotate_left
        · intro w hS; (try dsimp only at hS); go_simp; try with_reducible rfl
        refine twoH (i := 4) (j := 7) rfl rfl (by kernel_rfl) rfl rfl (fun K hK => ?_) (fun K hK => ?_)
        · go_simp
          refine hK.out _ _ (q0) (fun hHeld => ?_)
          clear hK K
          try simp only [Act.put, List.setIfInBounds_toArray, List.set_cons_zero, List.set_cons_succ]
          refine onlyH (i := 7) rfl (by kernel_rfl) rfl (fun K hK => ?_)
          go_simp
          refine hK.out _ _ (sA) (fun hHeld => ?_)
          clear hK K
          try simp only [Act.put, List.setIfInBounds_toArray, List.set_cons_zero, List.set_cons_succ]
          refine onlyH (i := 8) rfl (by kernel_rfl) rfl (fun K hK => ?_)
          refine wp_append_run (.tmp 34) (.tmp 37) 37 rfl rfl rfl HRUN.out ?_
          refine hK.out _ _ (s1) (fun hHeld => ?_)
          clear hK K
          try simp only [Act.put, List.setIfInBounds_toArray, List.set_cons_zero, List.set_cons_succ]
          refine takeJ 9 (v := ?_) ?_ hHeld ?_
          rotate_left
          · intro w hS; (try dsimp only at hS); go_simp; try with_reducible rfl
          refine takeJ 10 (v := ?_) ?_ hHeld ?_
          rotate_left
          · intro w hS; (try dsimp only at hS); go_simp; try with_reducible rfl
          refine onlyH (i := 11) rfl (by kernel_rfl) rfl (fun K hK => ?_)
          go_simp
          refine hK.out _ _ (s2) (fun hHeld => ?_)
          clear hK K
          try simp only [Act.put, List.setIfInBounds_toArray, List.set_cons_zero, List.set_cons_succ]
          refine wpAnyH_done (by kernel_rfl) ?_ _
          clear hHeld g1 gA g2 sA s1 f1 HRUN
          obtain ⟨hR2, hM2, hq2⟩ := H2.out
          generalize w1.setCell ⟨g, 1, none⟩ (.slice vaA vaM vaC) = w2 at *
          have hl2 := hR2.2.1
          have hBw2 := hR2.le
          have hf := find_any w2.drew vo objs p.1 (hl2.up hBw2)
          obtain ⟨-, -, va2, vd2, hh2, -⟩ := hR2
          have d0 := cell_of_row w2 g 0 _ _ _ hh2
          have p0 := cell_of_row w2 w.heap.size 0 _ _ _ hq2
          have p1 := cell_of_row w2 w.heap.size 1 _ _ _ hq2
          simp only [List.getElem?_toArray, List.getElem?_cons_zero, List.getElem?_cons_succ] at d0 p0 p1
          have hR3 : RfW B w2.drew g vo objs vp ⟨s.asked ++ [p.1], s.data, s.parts, 0⟩ := by have := H2.out.1; rw [HBAD.out] at this; exact this
          have hM3 : Mv B fts none w0 w2.drew := H2.out.2.1.drew
          have hq3 : w2.drew.heap[w.heap.size]? = some (.cells #[.string (strB p.1), .int .i64 p.2] 25) := hq2
          have H3 := hide (And.intro hR3 (And.intro hM3 hq3))
          clear hR3 hM3 hq3 hl2 hh2 hq2 hM2 H2
          go_wp2_with fail
          refine wp_region_held_drew (S := fun W => W.cell? ⟨g, 0, none⟩ = some vo ∧ W.cell? ⟨w.heap.size, 0, none⟩ = some (.string (strB p.1))) (by kernel_rfl) (⟨d0, p0⟩) (fun hHeld => ?_)
          refine takeJ 0 (v := ?_) ?_ hHeld ?_
          rotate_left
          · rintro w ⟨_, _⟩; go_simp; try with_reducible rfl
          refine takeJ 1 (v := ?_) ?_ hHeld ?_
          rotate_left
          · rintro w ⟨_, _⟩; go_simp; try with_reducible rfl
          refine takeJ 2 (v := ?_) ?_ hHeld ?_
          rotate_left
          · rintro w ⟨_, _⟩; go_simp; try with_reducible rfl
          refine takeJ 3 (v := ?_) ?_ hHeld ?_
          rotate_left
          · rintro w ⟨_, _⟩; go_simp; try with_reducible rfl
          refine takeJ 4 (v := ?_) ?_ hHeld ?_
          rotate_left
          · rintro w ⟨_, _⟩; go_simp; try with_reducible rfl
          refine takeJ 5 (v := ?_) ?_ hHeld ?_
          rotate_left
          · rintro w ⟨_, _⟩; go_simp; try with_reducible rfl
          refine onlyH (i := 6) rfl (by kernel_rfl) rfl (fun K hK => ?_)
          go_simp
          obtain ⟨fs, fk, hfv⟩ := foundV_form (findO objs p.1)
          rw [hfv] at hf
          refine hf.mono ?_
          rintro e w3 ⟨rfl, rfl⟩
          go_simp
          refine hK.out _ _ (⟨d0, p0⟩) (fun hHeld => ?_)
          clear hK K
          try simp only [Act.put, List.setIfInBounds_toArray, List.set_cons_zero, List.set_cons_succ]
          refine takeJ 7 (v := ?_) ?_ hHeld ?_
          rotate_left
          · rintro w ⟨_, _⟩; go_simp; try with_reducible rfl
          refine takeJ 8 (v := ?_) ?_ hHeld ?_
          rotate_left
          · rintro w ⟨_, _⟩; go_simp; try with_reducible rfl
          refine takeJ 9 (v := ?_) ?_ hHeld ?_
          rotate_left
          · rintro w ⟨_, _⟩; go_simp; try with_reducible rfl
          refine takeJ 10 (v := ?_) ?_ hHeld ?_
          rotate_left
          · rintro w ⟨_, _⟩; go_simp; try with_reducible rfl
          refine takeJ 11 (v := ?_) ?_ hHeld ?_
          rotate_left
          · rintro w ⟨_, _⟩; go_simp; try with_reducible rfl
          refine wpAnyH_done (by kernel_rfl) ?_ _
          clear hHeld
          have p1 : w2.drew.cell? ⟨w.heap.size, 1, none⟩ = some (.int .i64 p.2) := p1
          generalize w2.drew = w3 at *
          clear hf d0 p0 hBw2
          cases hfo : findO objs p.1 with
          | none =>
            unfold foundV at hfv
            rw [hfo] at hfv
            simp only [Value.tuple.injEq, Array.mk.injEq, List.cons.injEq, Value.string.injEq, Value.int.injEq, and_true, true_and] at hfv
            obtain ⟨-, hk3⟩ := hfv
            have hgs := chS_bad (k := k) HBAD.out (show (askN (findO objs) p level).1 ≠ 0 by rw [askN_none hfo]; simp)
            rw [askN_none hfo] at hgs
            have HGS := hide hgs
            subst hk3
            clear hgs ih
            go_wp2_with fail
            refine (fail_any B _ g vo objs vp _ 3 H3.out.1 rfl).mono ?_
            rintro e w4 ⟨rfl, hR4, hM4⟩
            have HF := hide (And.intro hR4 ((H3.out.2.1.trans hM4 (Nx.refl _ _))))
            clear hR4 hM4
            go_wp2
            first | go_end0 | refine bodyPost_ret (results_none rfl _ _ _) rfl ?_
            rw [HCR.out, HGS.out]
            exact ⟨rfl, vp, HF.out.1, (Mv.of HR.out.2.1 hB).trans HF.out.2.none (Nx.refl _ _), Nx.refl _ _⟩
          | some b =>
            unfold foundV at hfv
            rw [hfo] at hfv
            simp only [Value.tuple.injEq, Array.mk.injEq, List.cons.injEq, Value.string.injEq, Value.int.injEq, and_true, true_and] at hfv
            obtain ⟨hfs, hk3⟩ := hfv
            obtain rfl := strB_inj hfs
            subst hk3
            have hbl : b.length ≤ 140737488351232 := by obtain ⟨o, ho, rfl⟩ := findO_mem hfo; exact hob o ho
            have htc := rtakeChunk_any w3 b hbl
            cases htk : takenChunk b with
            | some d =>
              rw [chunkV_yes htk] at htc
              have hds := strB_size d
              have hnd := nodeOf_c htk
              by_cases hok : level = -1 ∧ (d.length : Int) = p.2
              · have hask := askN_yes (level := level) hfo hnd ⟨by unfold sizeN; simp only [sizeP_nil]; omega, .inl hok.1⟩
                have hgs := chS_chunk (k := k) HBAD.out (by rw [hask]) (by rw [hask])
                have HGS := hide hgs
                have hln : level < 0 := by omega
                have hsb : ((d.length : Int) == p.2) = true := by rw [hok.2]; simp
                clear hgs hask hnd hok ih
                go_wp2_with fail
                refine htc.mono ?_
                rintro e w4 ⟨rfl, hb4⟩
                have hR4 := H3.out.1.below hb4
                have hq4 := (hb4.block _ (lt_of_heap H3.out.2.2)).trans H3.out.2.2
                have hM4 : Mv B fts none w0 w4 := H3.out.2.1.more hb4 H3.out.1.le
                have p1 := cell_of_row w4 w.heap.size 1 _ _ _ hq4
                have p0 := cell_of_row w4 w.heap.size 0 _ _ _ hq4
                simp only [List.getElem?_toArray, List.getElem?_cons_zero, List.getElem?_cons_succ] at p0 p1
                have H4 := hide (And.intro hR4 (And.intro hM4 hq4))
                clear htc hb4 hR4 hM4 hq4 hfs
                obtain ⟨va5, vd5, vp', w5, hh5, ⟨vpA, vpM, vpC, rfl⟩, hrun5, hh5', hR6, hM5, hM6, hNx⟩ := H4.out.1.part p (by have := HN.out.2; simp only; omega)
                have g5 := cell_of_row w4 g 3 _ _ _ hh5
                have hhA := (heap_past w4 (.cells #[.string (strB p.1), .int .i64 p.2] 25) _ (lt_of_heap hh5)).trans hh5
                have gA := cell_of_row _ g 3 _ _ _ hhA
                have g5' := cell_of_row w5 g 3 _ _ _ hh5'
                have hqA := (heap_past w4 (.cells #[.string (strB p.1), .int .i64 p.2] 25) _ (lt_of_heap H4.out.2.2)).trans H4.out.2.2
                have hpne : some w.heap.size ≠ vp.ownBlock := fun h => by have := HV.out _ h.symm; omega
                have hq5 := hM5.k _ _ _ _ H4.out.2.2 (by decide) hpne
                have hq6 := hM6.k _ _ _ _ H4.out.2.2 (by decide) hpne
                have tA := cell_of_row _ w.heap.size 0 _ _ _ hqA
                have tA' := cell_of_row _ w.heap.size 1 _ _ _ hqA
                have u5 := cell_of_row _ w.heap.size 0 _ _ _ hq5
                have u5' := cell_of_row _ w.heap.size 1 _ _ _ hq5
                have u6 := cell_of_row _ w.heap.size 0 _ _ _ hq6
                have u6' := cell_of_row _ w.heap.size 1 _ _ _ hq6
                simp only [List.getElem?_toArray, List.getElem?_cons_zero, List.getElem?_cons_succ] at g5 gA g5' tA tA' u5 u5' u6 u6'
                have f5 := frozen0 (j := 3) hh5'
                have HRUN5 := hide hrun5
                have H6 := hide (And.intro hR6 (And.intro (H4.out.2.1.none.trans hM6 (Nx.refl _ _)) hNx))
                have hsz4 : w.heap.size ≤ w4.heap.size := by have := H4.out.2.1.size; have := HN0.out; omega
                clear hrun5 hh5 hh5' hR6 hM5 hM6 hNx hhA hqA hq5 hq6 hpne
                go_wp2_with fail
                refine wp_region_held_drew (S := fun W => W.cell? ⟨w.heap.size, 0, none⟩ = some (.string (strB p.1)) ∧ W.cell? ⟨w.heap.size, 1, none⟩ = some (.int .i64 p.2)) (by kernel_rfl) (⟨p0, p1⟩) (fun hHeld => ?_)
                refine takeJ 0 (v := ?_) ?_ hHeld ?_
                rotate_left
                · rintro w ⟨_, _⟩; go_simp; try with_reducible rfl
                refine takeJ 1 (v := ?_) ?_ hHeld ?_
                rotate_left
                · rintro w ⟨_, _⟩; go_simp; try with_reducible rfl
                refine takeJ 2 (v := ?_) ?_ hHeld ?_
                rotate_left
                · rintro w ⟨_, _⟩; go_simp; try with_reducible rfl
                refine takeJ 3 (v := ?_) ?_ hHeld ?_
                rotate_left
                · rintro w ⟨_, _⟩; go_simp; try with_reducible rfl
                refine takeJ 5 (v := ?_) ?_ hHeld ?_
                rotate_left
                · rintro w ⟨_, _⟩; go_simp; try with_reducible rfl
                refine twoH (i := 4) (j := 6) rfl rfl (by kernel_rfl) rfl rfl (fun K hK => ?_) (fun K hK => ?_)
                · go_simp
                  refine hK.out _ _ (⟨p0, p1⟩) (fun hHeld => ?_)
                  clear hK K
                  try simp only [Act.put, List.setIfInBounds_toArray, List.set_cons_zero, List.set_cons_succ]
                  refine onlyH (i := 6) rfl (by kernel_rfl) rfl (fun K hK => ?_)
                  go_simp
                  refine hK.out _ _ (⟨tA, tA'⟩) (fun hHeld => ?_)
                  clear hK K
                  try simp only [Act.put, List.setIfInBounds_toArray, List.set_cons_zero, List.set_cons_succ]
                  refine onlyH (i := 7) rfl (by kernel_rfl) rfl (fun K hK => ?_)
                  refine wp_append_run (.tmp 78) (.tmp 80) 38 rfl rfl rfl HRUN5.out ?_
                  refine hK.out _ _ (⟨u5, u5'⟩) (fun hHeld => ?_)
                  clear hK K
                  try simp only [Act.put, List.setIfInBounds_toArray, List.set_cons_zero, List.set_cons_succ]
                  refine takeJ 8 (v := ?_) ?_ hHeld ?_
                  rotate_left
                  · rintro w ⟨_, _⟩; go_simp; try with_reducible rfl
                  refine takeJ 9 (v := ?_) ?_ hHeld ?_
                  rotate_left
                  · rintro w ⟨_, _⟩; go_simp; try with_reducible rfl
                  refine onlyH (i := 10) rfl (by kernel_rfl) rfl (fun K hK => ?_)
                  go_simp
                  refine hK.out _ _ (⟨u6, u6'⟩) (fun hHeld => ?_)
                  clear hK K
                  try simp only [Act.put, List.setIfInBounds_toArray, List.set_cons_zero, List.set_cons_succ]
                  refine wpAnyH_done (by kernel_rfl) ?_ _
                  clear hHeld
                  go_wp2
                  first | go_end0 | refine bodyPost_ret (results_none rfl _ _ _) rfl ?_
                  rw [HCR.out, HGS.out]
                  exact ⟨rfl, _, H6.out.1, (Mv.of HR.out.2.1 hB).trans H6.out.2.1 (Nx.refl _ _), by
                    rcases H6.out.2.2 with h | ⟨q, h, hq⟩
                    · exact .inl h
                    · exact .inr ⟨q, h, by omega⟩⟩
                · go_simp
                  refine hK.out _ _ (⟨tA, tA'⟩) (fun hHeld => ?_)
                  clear hK K
                  try simp only [Act.put, List.setIfInBounds_toArray, List.set_cons_zero, List.set_cons_succ]
                  refine onlyH (i := 4) rfl (by kernel_rfl) rfl (fun K hK => ?_)
                  go_simp
                  refine hK.out _ _ (⟨tA, tA'⟩) (fun hHeld => ?_)
                  clear hK K
                  try simp only [Act.put, List.setIfInBounds_toArray, List.set_cons_zero, List.set_cons_succ]
                  refine onlyH (i := 7) rfl (by kernel_rfl) rfl (fun K hK => ?_)
                  refine wp_append_run (.tmp 78) (.tmp 80) 38 rfl rfl rfl HRUN5.out ?_
                  refine hK.out _ _ (⟨u5, u5'⟩) (fun hHeld => ?_)
                  clear hK K
                  try simp only [Act.put, List.setIfInBounds_toArray, List.set_cons_zero, List.set_cons_succ]
                  refine takeJ 8 (v := ?_) ?_ hHeld ?_
                  rotate_left
                  · rintro w ⟨_, _⟩; go_simp; try with_reducible rfl
                  refine takeJ 9 (v := ?_) ?_ hHeld ?_
                  rotate_left
                  · rintro w ⟨_, _⟩; go_simp; try with_reducible rfl
                  refine onlyH (i := 10) rfl (by kernel_rfl) rfl (fun K hK => ?_)
                  go_simp
                  refine hK.out _ _ (⟨u6, u6'⟩) (fun hHeld => ?_)
                  clear hK K
                  try simp only [Act.put, List.setIfInBounds_toArray, List.set_cons_zero, List.set_cons_succ]
                  refine wpAnyH_done (by kernel_rfl) ?_ _
                  clear hHeld
                  go_wp2
                  first | go_end0 | refine bodyPost_ret (results_none rfl _ _ _) rfl ?_
                  rw [HCR.out, HGS.out]
                  exact ⟨rfl, _, H6.out.1, (Mv.of HR.out.2.1 hB).trans H6.out.2.1 (Nx.refl _ _), by
                    rcases H6.out.2.2 with h | ⟨q, h, hq⟩
                    · exact .inl h
                    · exact .inr ⟨q, h, by omega⟩⟩
              · have hasks := askN_not (level := level) hfo hnd (fun h => hok ⟨by have := h.2; simp only at this; omega, by have := h.1; unfold sizeN at this; simp only [sizeP_nil] at this; omega⟩)
                go_wp2_with fail
                refine htc.mono ?_
                rintro e w4 ⟨rfl, hb4⟩
                have hq4 := (hb4.block _ (lt_of_heap H3.out.2.2)).trans H3.out.2.2
                have p1 := cell_of_row w4 w.heap.size 1 _ _ _ hq4
                simp only [List.getElem?_toArray, List.getElem?_cons_zero, List.getElem?_cons_succ] at p1
                clear htc hfs hq4
                by_cases hln : level < 0
                · have hsb : ((d.length : Int) == p.2) = false := by rw [beq_eq_false_iff_ne]; exact fun h => hok ⟨by omega, h⟩
                  clear hok
                  obtain ⟨lv, xs, kd, hform, hcase⟩ := fan_form b
                  have hxs : (∀ q ∈ xs, 1 ≤ q.2) ∧ sizeP xs ≤ 262144 ∧ xs.length ≤ 32 := by
                    rcases hcase with ⟨-, h⟩ | ⟨-, -, h, -⟩
                    · have := fan_facts ((takenFan_iff b (lv, xs)).1 h).1
                      exact ⟨this.2.2.2.2.1, this.2.2.2.2.2, this.2.2.2.1⟩
                    · subst h
                      simp [sizeP]
                  have htf := rtakeFan_any w4 b hbl
                  go_wp2_with fail
                  refine htf.mono ?_
                  rintro e w5 ⟨hsaid, hb5⟩
                  obtain ⟨v, rfl, hov⟩ := hform _ _ _ hsaid
                  obtain ⟨ao, cap, hvv, hcp, hcp2⟩ := own_form hov
                  obtain ⟨m, hm⟩ : ∃ m, m = xs.length := ⟨_, rfl⟩
                  rw [← hm] at hvv
                  subst hvv
                  have hb45 := hb4.trans (hb5.mono hb4.size)
                  have hb36 : Below w3.heap.size w3 (w5.alloc (.cells #[.int .i64 lv, .slice ao m cap] 90)) := hb45.alloc hb45.size _
                  have hR6 := H3.out.1.below hb36
                  have hq6 := (hb36.block _ (lt_of_heap H3.out.2.2)).trans H3.out.2.2
                  have hM6 : Mv B fts none w0 (w5.alloc (.cells #[.int .i64 lv, .slice ao m cap] 90)) := H3.out.2.1.more hb36 H3.out.1.le
                  have hfb6 := heap_last w5 (.cells #[.int .i64 lv, .slice ao m cap] 90) _ rfl
                  have hov6 := hov.alloc (.cells #[.int .i64 lv, .slice ao m cap] 90)
                  have hsz35 : w.heap.size + 1 ≤ w3.heap.size := by have := H3.out.2.1.size; have := HN0.out; omega
                  have hvne : (Value.slice ao m cap).ownBlock = none ∨ (Value.slice ao m cap).ownBlock ≠ vp.ownBlock := by
                    cases hq : (Value.slice ao m cap).ownBlock with
                    | none => exact .inl rfl
                    | some q =>
                      refine .inr fun h => ?_
                      have h1 := (hov.lt q hq).1
                      have h2 := HV.out q h.symm
                      have h3 := hb4.size
                      omega
                  have hfbne : some w5.heap.size ≠ vp.ownBlock := fun h => by
                    have h2 := HV.out _ h.symm
                    have h3 := hb45.size
                    omega
                  have hpm : m ≤ 32 := by omega
                  have HM := hide hm
                  have HX := hide hxs
                  clear htf hsaid hb4 hb5 hb45 hb36 hov hcp hcp2 hm hxs hform
                  go_wp2_with fail
                  have HVN := hide hvne
                  have HFB := hide hfbne
                  generalize w5.alloc (.cells #[.int .i64 lv, .slice ao m cap] 90) = w6 at *
                  generalize w5.heap.size = fb at *
                  have p1 := cell_of_row w6 w.heap.size 1 _ _ _ hq6
                  have fb0 := cell_of_row w6 fb 0 _ _ _ hfb6
                  have fb1 := cell_of_row w6 fb 1 _ _ _ hfb6
                  simp only [List.getElem?_toArray, List.getElem?_cons_zero, List.getElem?_cons_succ] at p1 fb0 fb1
                  have H6 := hide (And.intro hR6 (And.intro hM6 (And.intro hfb6 hov6)))
                  clear hR6 hM6 hfb6 hov6 hq6 hvne hfbne
                  go_loopw [10, 11] (fun t u wr => ∃ j : Nat, j ≤ m ∧ u = .int .i64 j ∧ t = .int .i64 (sizeP (xs.take j)) ∧ wr = w6)
                    (fun _ u _ => m - (intOf u).toNat)
                  case atStart => exact ⟨0, by omega, rfl, rfl, rfl⟩
                  case round =>
                    obtain ⟨j, hj, rfl, rfl, hwr⟩ := hrel
                    obtain rfl := hwr.symm
                    by_cases hlt : j < m
                    · have hlt2 : j < xs.length := by have := HM.out; omega
                      obtain ⟨bb, off, rfl, k0, k1⟩ := own_part H6.out.2.2.2 hlt2
                      have hwi := sizeP_within xs HX.out.1 j hlt2
                      have hss := sizeP_step xs j hlt2
                      have hx2 := HX.out.2.1
                      generalize xs[j] = kx at *
                      have HSS := hide hss
                      generalize sizeP (xs.take j) = zj at *
                      clear hss
                      go_wp2
                      go_roundw
                      case rel => exact ⟨j + 1, by omega, by go_num, by rw [HSS.out], trivial⟩
                      case measure => simp [intOf]; omega
                    · rcases hcase with ⟨rfl, htf⟩ | ⟨rfl, htf, -, -⟩
                      · rw [chunk_no_fan htk] at htf
                        cases htf
                      · skip
                        have hgs := chS_bad (k := k) HBAD.out (show (askN (findO objs) p level).1 ≠ 0 by rw [hasks]; simp)
                        rw [hasks] at hgs
                        have HGS := hide hgs
                        clear hgs ih
                        go_wp2_with fail
                        refine (fail_any B _ g vo objs vp _ 101 H6.out.1 rfl).mono ?_
                        rintro e w9 ⟨rfl, hR9, hM9⟩
                        have HF := hide (And.intro hR9 (H6.out.2.1.trans hM9 (Nx.refl _ _)))
                        clear hR9 hM9
                        go_wp2
                        first | go_end0 | refine bodyPost_ret (results_none rfl _ _ _) rfl ?_
                        rw [HCR.out, HGS.out]
                        exact ⟨rfl, vp, HF.out.1, (Mv.of HR.out.2.1 hB).trans HF.out.2.none (Nx.refl _ _), Nx.refl _ _⟩
                · have hge : 0 ≤ level := by omega
                  clear hok
                  obtain ⟨lv, xs, kd, hform, hcase⟩ := fan_form b
                  have hxs : (∀ q ∈ xs, 1 ≤ q.2) ∧ sizeP xs ≤ 262144 ∧ xs.length ≤ 32 := by
                    rcases hcase with ⟨-, h⟩ | ⟨-, -, h, -⟩
                    · have := fan_facts ((takenFan_iff b (lv, xs)).1 h).1
                      exact ⟨this.2.2.2.2.1, this.2.2.2.2.2, this.2.2.2.1⟩
                    · subst h
                      simp [sizeP]
                  have htf := rtakeFan_any w4 b hbl
                  go_wp2_with fail
                  refine htf.mono ?_
                  rintro e w5 ⟨hsaid, hb5⟩
                  obtain ⟨v, rfl, hov⟩ := hform _ _ _ hsaid
                  obtain ⟨ao, cap, hvv, hcp, hcp2⟩ := own_form hov
                  obtain ⟨m, hm⟩ : ∃ m, m = xs.length := ⟨_, rfl⟩
                  rw [← hm] at hvv
                  subst hvv
                  have hb45 := hb4.trans (hb5.mono hb4.size)
                  have hb36 : Below w3.heap.size w3 (w5.alloc (.cells #[.int .i64 lv, .slice ao m cap] 90)) := hb45.alloc hb45.size _
                  have hR6 := H3.out.1.below hb36
                  have hq6 := (hb36.block _ (lt_of_heap H3.out.2.2)).trans H3.out.2.2
                  have hM6 : Mv B fts none w0 (w5.alloc (.cells #[.int .i64 lv, .slice ao m cap] 90)) := H3.out.2.1.more hb36 H3.out.1.le
                  have hfb6 := heap_last w5 (.cells #[.int .i64 lv, .slice ao m cap] 90) _ rfl
                  have hov6 := hov.alloc (.cells #[.int .i64 lv, .slice ao m cap] 90)
                  have hsz35 : w.heap.size + 1 ≤ w3.heap.size := by have := H3.out.2.1.size; have := HN0.out; omega
                  have hvne : (Value.slice ao m cap).ownBlock = none ∨ (Value.slice ao m cap).ownBlock ≠ vp.ownBlock := by
                    cases hq : (Value.slice ao m cap).ownBlock with
                    | none => exact .inl rfl
                    | some q =>
                      refine .inr fun h => ?_
                      have h1 := (hov.lt q hq).1
                      have h2 := HV.out q h.symm
                      have h3 := hb4.size
                      omega
                  have hfbne : some w5.heap.size ≠ vp.ownBlock := fun h => by
                    have h2 := HV.out _ h.symm
                    have h3 := hb45.size
                    omega
                  have hpm : m ≤ 32 := by omega
                  have HM := hide hm
                  have HX := hide hxs
                  clear htf hsaid hb4 hb5 hb45 hb36 hov hcp hcp2 hm hxs hform
                  go_wp2_with fail
                  have HVN := hide hvne
                  have HFB := hide hfbne
                  generalize w5.alloc (.cells #[.int .i64 lv, .slice ao m cap] 90) = w6 at *
                  generalize w5.heap.size = fb at *
                  have p1 := cell_of_row w6 w.heap.size 1 _ _ _ hq6
                  have fb0 := cell_of_row w6 fb 0 _ _ _ hfb6
                  have fb1 := cell_of_row w6 fb 1 _ _ _ hfb6
                  simp only [List.getElem?_toArray, List.getElem?_cons_zero, List.getElem?_cons_succ] at p1 fb0 fb1
                  have H6 := hide (And.intro hR6 (And.intro hM6 (And.intro hfb6 hov6)))
                  clear hR6 hM6 hfb6 hov6 hq6 hvne hfbne
                  go_loopw [10, 11] (fun t u wr => ∃ j : Nat, j ≤ m ∧ u = .int .i64 j ∧ t = .int .i64 (sizeP (xs.take j)) ∧ wr = w6)
                    (fun _ u _ => m - (intOf u).toNat)
                  case atStart => exact ⟨0, by omega, rfl, rfl, rfl⟩
                  case round =>
                    obtain ⟨j, hj, rfl, rfl, hwr⟩ := hrel
                    obtain rfl := hwr.symm
                    by_cases hlt : j < m
                    · have hlt2 : j < xs.length := by have := HM.out; omega
                      obtain ⟨bb, off, rfl, k0, k1⟩ := own_part H6.out.2.2.2 hlt2
                      have hwi := sizeP_within xs HX.out.1 j hlt2
                      have hss := sizeP_step xs j hlt2
                      have hx2 := HX.out.2.1
                      generalize xs[j] = kx at *
                      have HSS := hide hss
                      generalize sizeP (xs.take j) = zj at *
                      clear hss
                      go_wp2
                      go_roundw
                      case rel => exact ⟨j + 1, by omega, by go_num, by rw [HSS.out], trivial⟩
                      case measure => simp [intOf]; omega
                    · rcases hcase with ⟨rfl, htf⟩ | ⟨rfl, htf, -, -⟩
                      · rw [chunk_no_fan htk] at htf
                        cases htf
                      · skip
                        have hgs := chS_bad (k := k) HBAD.out (show (askN (findO objs) p level).1 ≠ 0 by rw [hasks]; simp)
                        rw [hasks] at hgs
                        have HGS := hide hgs
                        clear hgs ih
                        go_wp2_with fail
                        refine (fail_any B _ g vo objs vp _ 101 H6.out.1 rfl).mono ?_
                        rintro e w9 ⟨rfl, hR9, hM9⟩
                        have HF := hide (And.intro hR9 (H6.out.2.1.trans hM9 (Nx.refl _ _)))
                        clear hR9 hM9
                        go_wp2
                        first | go_end0 | refine bodyPost_ret (results_none rfl _ _ _) rfl ?_
                        rw [HCR.out, HGS.out]
                        exact ⟨rfl, vp, HF.out.1, (Mv.of HR.out.2.1 hB).trans HF.out.2.none (Nx.refl _ _), Nx.refl _ _⟩
            | none =>
              rw [chunkV_no htk] at htc
              obtain ⟨lv, xs, kd, hform, hcase⟩ := fan_form b
              have hxs : (∀ q ∈ xs, 1 ≤ q.2) ∧ sizeP xs ≤ 262144 ∧ xs.length ≤ 32 := by
                rcases hcase with ⟨-, h⟩ | ⟨-, -, h, -⟩
                · have := fan_facts ((takenFan_iff b (lv, xs)).1 h).1
                  exact ⟨this.2.2.2.2.1, this.2.2.2.2.2, this.2.2.2.1⟩
                · subst h
                  simp [sizeP]
              go_wp2_with fail
              refine htc.mono ?_
              rintro e w4 ⟨rfl, hb4⟩
              clear htc hfs
              have htf := rtakeFan_any w4 b hbl
              go_wp2_with fail
              refine htf.mono ?_
              rintro e w5 ⟨hsaid, hb5⟩
              obtain ⟨v, rfl, hov⟩ := hform _ _ _ hsaid
              obtain ⟨ao, cap, hvv, hcp, hcp2⟩ := own_form hov
              obtain ⟨m, hm⟩ : ∃ m, m = xs.length := ⟨_, rfl⟩
              rw [← hm] at hvv
              subst hvv
              have hb45 := hb4.trans (hb5.mono hb4.size)
              have hb36 : Below w3.heap.size w3 (w5.alloc (.cells #[.int .i64 lv, .slice ao m cap] 90)) := hb45.alloc hb45.size _
              have hR6 := H3.out.1.below hb36
              have hq6 := (hb36.block _ (lt_of_heap H3.out.2.2)).trans H3.out.2.2
              have hM6 : Mv B fts none w0 (w5.alloc (.cells #[.int .i64 lv, .slice ao m cap] 90)) := H3.out.2.1.more hb36 H3.out.1.le
              have hfb6 := heap_last w5 (.cells #[.int .i64 lv, .slice ao m cap] 90) _ rfl
              have hov6 := hov.alloc (.cells #[.int .i64 lv, .slice ao m cap] 90)
              have hsz35 : w.heap.size + 1 ≤ w3.heap.size := by have := H3.out.2.1.size; have := HN0.out; omega
              have hvne : (Value.slice ao m cap).ownBlock = none ∨ (Value.slice ao m cap).ownBlock ≠ vp.ownBlock := by
                cases hq : (Value.slice ao m cap).ownBlock with
                | none => exact .inl rfl
                | some q =>
                  refine .inr fun h => ?_
                  have h1 := (hov.lt q hq).1
                  have h2 := HV.out q h.symm
                  have h3 := hb4.size
                  omega
              have hfbne : some w5.heap.size ≠ vp.ownBlock := fun h => by
                have h2 := HV.out _ h.symm
                have h3 := hb45.size
                omega
              have hpm : m ≤ 32 := by omega
              have HM := hide hm
              have HX := hide hxs
              clear htf hsaid hb4 hb5 hb45 hb36 hov hcp hcp2 hm hxs hform
              go_wp2_with fail
              have HVN := hide hvne
              have HFB := hide hfbne
              generalize w5.alloc (.cells #[.int .i64 lv, .slice ao m cap] 90) = w6 at *
              generalize w5.heap.size = fb at *
              have p1 := cell_of_row w6 w.heap.size 1 _ _ _ hq6
              have fb0 := cell_of_row w6 fb 0 _ _ _ hfb6
              have fb1 := cell_of_row w6 fb 1 _ _ _ hfb6
              simp only [List.getElem?_toArray, List.getElem?_cons_zero, List.getElem?_cons_succ] at p1 fb0 fb1
              have H6 := hide (And.intro hR6 (And.intro hM6 (And.intro hfb6 hov6)))
              clear hR6 hM6 hfb6 hov6 hq6 hvne hfbne
              go_loopw [10, 11] (fun t u wr => ∃ j : Nat, j ≤ m ∧ u = .int .i64 j ∧ t = .int .i64 (sizeP (xs.take j)) ∧ wr = w6)
                (fun _ u _ => m - (intOf u).toNat)
              case atStart => exact ⟨0, by omega, rfl, rfl, rfl⟩
              case round =>
                obtain ⟨j, hj, rfl, rfl, hwr⟩ := hrel
                obtain rfl := hwr.symm
                by_cases hlt : j < m
                · have hlt2 : j < xs.length := by have := HM.out; omega
                  obtain ⟨bb, off, rfl, k0, k1⟩ := own_part H6.out.2.2.2 hlt2
                  have hwi := sizeP_within xs HX.out.1 j hlt2
                  have hss := sizeP_step xs j hlt2
                  have hx2 := HX.out.2.1
                  generalize xs[j] = kx at *
                  have HSS := hide hss
                  generalize sizeP (xs.take j) = zj at *
                  clear hss
                  go_wp2
                  go_roundw
                  case rel => exact ⟨j + 1, by omega, by go_num, by rw [HSS.out], trivial⟩
                  case measure => simp [intOf]; omega
                · have hjm : j = m := by omega
                  have htk2 : xs.take j = xs := by rw [hjm, HM.out, List.take_length]
                  rw [htk2]
                  clear htk2 hjm
                  obtain ⟨z, hz⟩ : ∃ z, z = sizeP xs := ⟨_, rfl⟩
                  rw [← hz]
                  rcases hcase with ⟨rfl, htf⟩ | ⟨rfl, htf, -, -⟩
                  · have hnd := nodeOf_f htk htf
                    have hlv1 : 1 ≤ lv := (fan_facts ((takenFan_iff b (lv, xs)).1 htf).1).1
                    by_cases hsp : z = p.2
                    · have hsb : (z != p.2) = false := by rw [hsp]; simp
                      have hsn : sizeN (lv, [], xs) = p.2 := by unfold sizeN; simp only [List.length_nil]; omega
                      by_cases hl0 : 0 ≤ level
                      · by_cases hll : lv = level
                        · have hlb2 : (lv != level) = false := by rw [hll]; simp
                          have hlvn : level = -1 ∨ level = lv := .inr hll.symm
                          have hask := askN_yes (level := level) hfo hnd ⟨hsn, hlvn⟩
                          have hsp : sizeP xs = p.2 := by omega
                          clear hz hsn hll
                          have hRt := nodeOf_right hnd
                          have hn1 : 1 ≤ lv := hlv1
                          have hn20 : lv ≤ 20 := hRt.hi
                          have hgs : chS (findO objs) (k + 1) p level s = eachP (fun q _ t => chR (findO objs) k q (lv - 1) t) xs 0 ⟨s.asked ++ [p.1], s.data, s.parts, 0⟩ := by
                            by_cases h1 : lv = 1
                            · rw [chS_one HBAD.out (by rw [hask]) (by rw [hask]; exact h1), hask]
                              simp only
                              rw [show lv - 1 = 0 by omega, chR_each _ _ _ _ _ rfl]
                            · rw [chS_fan HBAD.out (by rw [hask]) (by rw [hask]; simp only; omega) (by rw [hask]; exact h1), hask]
                              simp only
                              congr 1
                              funext q _ t
                              exact (chR_ne _ _ _ _ _ (by omega)).symm
                          have hlk : (0 : Int) ≤ lv - 1 ∧ lv - 1 < k := by
                            rcases hlv with ⟨h1, h2⟩ | ⟨h1, h2⟩
                            · omega
                            · rcases hlvn with h | h <;> omega
                          have HLK := hide hlk
                          obtain ⟨s1, hs1⟩ : ∃ s1 : Wk, s1 = ⟨s.asked ++ [p.1], s.data, s.parts, 0⟩ := ⟨_, rfl⟩
                          obtain ⟨f, hf⟩ : ∃ f : Part → Int → Wk → Wk, f = fun q _ t => chR (findO objs) k q (lv - 1) t := ⟨_, rfl⟩
                          have hfg : ∀ q b t, 1 ≤ q.2 → Grows t (f q b t) (k * q.2.toNat) q.2.toNat := by subst hf; exact fun q b t h => chR_grows _ _ _ _ _ h
                          rw [show eachP (fun q _ t => chR (findO objs) k q (lv - 1) t) xs 0 ⟨s.asked ++ [p.1], s.data, s.parts, 0⟩ = eachP f xs 0 s1 from by rw [hf, hs1]] at hgs
                          have HGS := hide hgs
                          have HF := hide (And.intro hfg hf)
                          have HS1 := hide hs1
                          have HRT := hide (And.intro hRt.each hsp)
                          clear hgs hs1 hf hfg hRt hask hnd hlk hsp hlv hlvn
                          go_wp2_with fail
                          go_loopw [12] (fun u wr => ∃ j : Nat, j ≤ m ∧ u = .int .i64 j ∧ ∃ vpj, RfW B wr g vo objs vpj (eachP f (xs.take j) 0 s1) ∧ Mv B fts vp.ownBlock w6 wr ∧ Nx w6 vp.ownBlock vpj.ownBlock)
                            (fun u _ => m - (intOf u).toNat)
                          case atStart =>
                            refine ⟨0, by omega, rfl, vp, ?_, Mv.refl _ _ _ _, Nx.refl _ _⟩
                            rw [HS1.out]; exact H6.out.1
                          case round =>
                            obtain ⟨j, hj, rfl, vpj, hRr, hMr, hNr⟩ := hrel
                            have hfbr := hMr.k _ _ _ _ H6.out.2.2.1 (by decide) HFB.out
                            have e0 := cell_of_row wr fb 0 _ _ _ hfbr
                            have e1 := cell_of_row wr fb 1 _ _ _ hfbr
                            simp only [List.getElem?_toArray, List.getElem?_cons_zero, List.getElem?_cons_succ] at e0 e1
                            by_cases hlt : j < m
                            · have hlt2 : j < xs.length := by have := HM.out; omega
                              have hovr := hMr.own H6.out.2.2.2 (by decide) HVN.out
                              obtain ⟨bb, off, rfl, k0, k1⟩ := own_part hovr hlt2
                              have hwi := sizeP_within xs HRT.out.1 j hlt2
                              have hst := eachP_step f xs j hlt2 0 s1
                              have hgr := eachP_grows HF.out.1 (xs.take j) 0 s1 (fun q hq => HRT.out.1 q (List.mem_of_mem_take hq))
                              rw [HRT.out.2] at hwi
                              obtain ⟨kd2, hkd⟩ : ∃ kd2, kd2 = xs[j] := ⟨_, rfl⟩
                              rw [← hkd] at hwi hst k0 k1
                              obtain ⟨sj, hsj⟩ : ∃ sj, sj = eachP f (xs.take j) 0 s1 := ⟨_, rfl⟩
                              rw [← hsj] at hRr hst hgr
                              have hmul : k * (sizeP (xs.take j)).toNat + k * kd2.2.toNat ≤ k * p.2.toNat := by rw [← Nat.mul_add]; exact Nat.mul_le_mul_left _ (by omega)
                              have hk1 : (k + 1) * p.2.toNat = k * p.2.toNat + p.2.toNat := by rw [Nat.add_mul]; simp
                              have hsl1 : s1.asked.length = s.asked.length + 1 := by rw [HS1.out]; simp
                              have hsl3 : s1.parts.length = s.parts.length := by rw [HS1.out]
                              have hRd : RfW B wr.drew g vo objs vpj sj := hRr
                              have hrec := ih wr.drew kd2 (lv - 1) sj vpj (.inr HLK.out) (by omega) (by omega) hRd (by have := hgr.1; have := HN.out.1; omega) (by have := hgr.2.2; have := HN.out.2; omega)
                              have hff : f kd2 (0 + sizeP (xs.take j)) sj = chR (findO objs) k kd2 (lv - 1) sj := by rw [HF.out.2]
                              rw [← hff, ← hst] at hrec
                              have HNX := hide hkd
                              have HR6 := hide (And.intro hMr hNr)
                              have hwr1 : IntKind.i64.wrap (lv - 1) = lv - 1 := by rw [IntKind.wrap_i64]; omega
                              clear hst hgr hmul hk1 hsl1 hsl3 hff hRr hRd hMr hNr hovr hfbr hsj hkd hwi
                              go_wp2_with fail
                              refine wp_region_held_drew (S := fun W => W.cell? ⟨fb, 0, none⟩ = some (.int .i64 lv) ∧ W.cell? ⟨fb, 1, none⟩ = some (.slice (some ⟨bb, off, none⟩) m cap) ∧ W.cell? ⟨bb, off + j * 2, none⟩ = some (.string (strB kd2.1)) ∧ W.cell? ⟨bb, off + j * 2 + 1, none⟩ = some (.int .i64 kd2.2)) (by kernel_rfl) (⟨e0, e1, k0, k1⟩) (fun hHeld => ?_)
                              refine takeJ 0 (v := ?_) ?_ hHeld ?_
                              rotate_left
                              · rintro w ⟨_, _, _, _⟩; go_simp; try with_reducible rfl
                              refine takeJ 1 (v := ?_) ?_ hHeld ?_
                              rotate_left
                              · rintro w ⟨_, _, _, _⟩; go_simp; try with_reducible rfl
                              refine takeJ 2 (v := ?_) ?_ hHeld ?_
                              rotate_left
                              · rintro w ⟨_, _, _, _⟩; go_simp; try with_reducible rfl
                              refine takeJ 3 (v := ?_) ?_ hHeld ?_
                              rotate_left
                              · rintro w ⟨_, _, _, _⟩; go_simp; try with_reducible rfl
                              refine takeJ 4 (v := ?_) ?_ hHeld ?_
                              rotate_left
                              · rintro w ⟨_, _, _, _⟩; go_simp; try with_reducible rfl
                              refine takeJ 5 (v := ?_) ?_ hHeld ?_
                              rotate_left
                              · rintro w ⟨_, _, _, _⟩; go_simp; try with_reducible rfl
                              refine takeJ 6 (v := ?_) ?_ hHeld ?_
                              rotate_left
                              · rintro w ⟨_, _, _, _⟩; go_simp; try with_reducible rfl
                              refine takeJ 7 (v := ?_) ?_ hHeld ?_
                              rotate_left
                              · rintro w ⟨_, _, _, _⟩; go_simp; try with_reducible rfl
                              refine takeJ 8 (v := ?_) ?_ hHeld ?_
                              rotate_left
                              · rintro w ⟨_, _, _, _⟩; go_simp; try with_reducible rfl
                              refine onlyH (i := 9) rfl (by kernel_rfl) rfl (fun K hK => ?_)
                              go_simp
                              refine hrec.mono ?_
                              rintro e w8 ⟨rfl, vp8, hR8, hM8, hN8⟩
                              have hM68 : Mv B fts vp.ownBlock w6 w8 := HR6.out.1.drew.trans hM8 HR6.out.2
                              have hN68 : Nx w6 vp.ownBlock vp8.ownBlock := HR6.out.2.trans hN8 (show w6.heap.size ≤ wr.drew.heap.size from HR6.out.1.size)
                              have hfb8 := hM68.k _ _ _ _ H6.out.2.2.1 (by decide) HFB.out
                              have hov8 := hM68.own H6.out.2.2.2 (by decide) HVN.out
                              obtain ⟨bb', off', hbb, l0, l1⟩ := own_part hov8 hlt2
                              injection hbb with hbb
                              injection hbb with hb1 hb2
                              subst hb1
                              subst hb2
                              rw [← HNX.out] at l0 l1
                              have e0 := cell_of_row w8 fb 0 _ _ _ hfb8
                              have e1 := cell_of_row w8 fb 1 _ _ _ hfb8
                              simp only [List.getElem?_toArray, List.getElem?_cons_zero, List.getElem?_cons_succ] at e0 e1
                              have H8 := hide (And.intro hR8 (And.intro hM68 hN68))
                              clear hrec hR8 hM8 hN8 hM68 hN68 hfb8 hov8
                              go_simp
                              refine hK.out _ _ (⟨e0, e1, l0, l1⟩) (fun hHeld => ?_)
                              clear hK K
                              try simp only [Act.put, List.setIfInBounds_toArray, List.set_cons_zero, List.set_cons_succ]
                              refine wpAnyH_done (by kernel_rfl) ?_ _
                              clear hHeld
                              go_wp2
                              go_roundw
                              case rel => exact ⟨j + 1, by omega, by go_num, vp8, H8.out.1, H8.out.2.1, H8.out.2.2⟩
                              case measure => simp [intOf]; omega
                            · obtain rfl : j = m := by omega
                              have htk2 : xs.take j = xs := by rw [HM.out, List.take_length]
                              rw [htk2] at hRr
                              have HL := hide (And.intro hRr (And.intro hMr hNr))
                              clear hRr hMr hNr htk2 hfbr
                              go_wp2
                              first | go_end0 | refine bodyPost_ret (results_none rfl _ _ _) rfl ?_
                              rw [HCR.out, HGS.out]
                              exact ⟨rfl, vpj, HL.out.1, ((Mv.of HR.out.2.1 hB).trans H6.out.2.1.none (Nx.refl _ _)).trans HL.out.2.1 (Nx.refl _ _), by
                                rcases HL.out.2.2 with h | ⟨q, h, hq⟩
                                · exact .inl h
                                · exact .inr ⟨q, h, by have := H6.out.2.1.size; have := HR.out.2.1.size; omega⟩⟩
                        · have hlb2 : (lv != level) = true := by simpa using hll
                          have hgs := chS_bad (k := k) HBAD.out (show (askN (findO objs) p level).1 ≠ 0 by rw [askN_not (level := level) hfo hnd (fun h => by have := h.2; simp only at this; omega)]; simp)
                          rw [askN_not (level := level) hfo hnd (fun h => by have := h.2; simp only at this; omega)] at hgs
                          have HGS := hide hgs
                          clear hgs ih
                          go_wp2_with fail
                          refine (fail_any B _ g vo objs vp _ 101 H6.out.1 rfl).mono ?_
                          rintro e w9 ⟨rfl, hR9, hM9⟩
                          have HF := hide (And.intro hR9 (H6.out.2.1.trans hM9 (Nx.refl _ _)))
                          clear hR9 hM9
                          go_wp2
                          first | go_end0 | refine bodyPost_ret (results_none rfl _ _ _) rfl ?_
                          rw [HCR.out, HGS.out]
                          exact ⟨rfl, vp, HF.out.1, (Mv.of HR.out.2.1 hB).trans HF.out.2.none (Nx.refl _ _), Nx.refl _ _⟩
                      · have hlneg : level < 0 := by omega
                        have hlvn : level = -1 ∨ level = lv := by omega
                        have hask := askN_yes (level := level) hfo hnd ⟨hsn, hlvn⟩
                        have hsp : sizeP xs = p.2 := by omega
                        clear hz hsn
                        have hRt := nodeOf_right hnd
                        have hn1 : 1 ≤ lv := hlv1
                        have hn20 : lv ≤ 20 := hRt.hi
                        have hgs : chS (findO objs) (k + 1) p level s = eachP (fun q _ t => chR (findO objs) k q (lv - 1) t) xs 0 ⟨s.asked ++ [p.1], s.data, s.parts, 0⟩ := by
                          by_cases h1 : lv = 1
                          · rw [chS_one HBAD.out (by rw [hask]) (by rw [hask]; exact h1), hask]
                            simp only
                            rw [show lv - 1 = 0 by omega, chR_each _ _ _ _ _ rfl]
                          · rw [chS_fan HBAD.out (by rw [hask]) (by rw [hask]; simp only; omega) (by rw [hask]; exact h1), hask]
                            simp only
                            congr 1
                            funext q _ t
                            exact (chR_ne _ _ _ _ _ (by omega)).symm
                        have hlk : (0 : Int) ≤ lv - 1 ∧ lv - 1 < k := by
                          rcases hlv with ⟨h1, h2⟩ | ⟨h1, h2⟩
                          · omega
                          · rcases hlvn with h | h <;> omega
                        have HLK := hide hlk
                        obtain ⟨s1, hs1⟩ : ∃ s1 : Wk, s1 = ⟨s.asked ++ [p.1], s.data, s.parts, 0⟩ := ⟨_, rfl⟩
                        obtain ⟨f, hf⟩ : ∃ f : Part → Int → Wk → Wk, f = fun q _ t => chR (findO objs) k q (lv - 1) t := ⟨_, rfl⟩
                        have hfg : ∀ q b t, 1 ≤ q.2 → Grows t (f q b t) (k * q.2.toNat) q.2.toNat := by subst hf; exact fun q b t h => chR_grows _ _ _ _ _ h
                        rw [show eachP (fun q _ t => chR (findO objs) k q (lv - 1) t) xs 0 ⟨s.asked ++ [p.1], s.data, s.parts, 0⟩ = eachP f xs 0 s1 from by rw [hf, hs1]] at hgs
                        have HGS := hide hgs
                        have HF := hide (And.intro hfg hf)
                        have HS1 := hide hs1
                        have HRT := hide (And.intro hRt.each hsp)
                        clear hgs hs1 hf hfg hRt hask hnd hlk hsp hlv hlvn
                        go_wp2_with fail
                        go_loopw [12] (fun u wr => ∃ j : Nat, j ≤ m ∧ u = .int .i64 j ∧ ∃ vpj, RfW B wr g vo objs vpj (eachP f (xs.take j) 0 s1) ∧ Mv B fts vp.ownBlock w6 wr ∧ Nx w6 vp.ownBlock vpj.ownBlock)
                          (fun u _ => m - (intOf u).toNat)
                        case atStart =>
                          refine ⟨0, by omega, rfl, vp, ?_, Mv.refl _ _ _ _, Nx.refl _ _⟩
                          rw [HS1.out]; exact H6.out.1
                        case round =>
                          obtain ⟨j, hj, rfl, vpj, hRr, hMr, hNr⟩ := hrel
                          have hfbr := hMr.k _ _ _ _ H6.out.2.2.1 (by decide) HFB.out
                          have e0 := cell_of_row wr fb 0 _ _ _ hfbr
                          have e1 := cell_of_row wr fb 1 _ _ _ hfbr
                          simp only [List.getElem?_toArray, List.getElem?_cons_zero, List.getElem?_cons_succ] at e0 e1
                          by_cases hlt : j < m
                          · have hlt2 : j < xs.length := by have := HM.out; omega
                            have hovr := hMr.own H6.out.2.2.2 (by decide) HVN.out
                            obtain ⟨bb, off, rfl, k0, k1⟩ := own_part hovr hlt2
                            have hwi := sizeP_within xs HRT.out.1 j hlt2
                            have hst := eachP_step f xs j hlt2 0 s1
                            have hgr := eachP_grows HF.out.1 (xs.take j) 0 s1 (fun q hq => HRT.out.1 q (List.mem_of_mem_take hq))
                            rw [HRT.out.2] at hwi
                            obtain ⟨kd2, hkd⟩ : ∃ kd2, kd2 = xs[j] := ⟨_, rfl⟩
                            rw [← hkd] at hwi hst k0 k1
                            obtain ⟨sj, hsj⟩ : ∃ sj, sj = eachP f (xs.take j) 0 s1 := ⟨_, rfl⟩
                            rw [← hsj] at hRr hst hgr
                            have hmul : k * (sizeP (xs.take j)).toNat + k * kd2.2.toNat ≤ k * p.2.toNat := by rw [← Nat.mul_add]; exact Nat.mul_le_mul_left _ (by omega)
                            have hk1 : (k + 1) * p.2.toNat = k * p.2.toNat + p.2.toNat := by rw [Nat.add_mul]; simp
                            have hsl1 : s1.asked.length = s.asked.length + 1 := by rw [HS1.out]; simp
                            have hsl3 : s1.parts.length = s.parts.length := by rw [HS1.out]
                            have hRd : RfW B wr.drew g vo objs vpj sj := hRr
                            have hrec := ih wr.drew kd2 (lv - 1) sj vpj (.inr HLK.out) (by omega) (by omega) hRd (by have := hgr.1; have := HN.out.1; omega) (by have := hgr.2.2; have := HN.out.2; omega)
                            have hff : f kd2 (0 + sizeP (xs.take j)) sj = chR (findO objs) k kd2 (lv - 1) sj := by rw [HF.out.2]
                            rw [← hff, ← hst] at hrec
                            have HNX := hide hkd
                            have HR6 := hide (And.intro hMr hNr)
                            have hwr1 : IntKind.i64.wrap (lv - 1) = lv - 1 := by rw [IntKind.wrap_i64]; omega
                            clear hst hgr hmul hk1 hsl1 hsl3 hff hRr hRd hMr hNr hovr hfbr hsj hkd hwi
                            go_wp2_with fail
                            refine wp_region_held_drew (S := fun W => W.cell? ⟨fb, 0, none⟩ = some (.int .i64 lv) ∧ W.cell? ⟨fb, 1, none⟩ = some (.slice (some ⟨bb, off, none⟩) m cap) ∧ W.cell? ⟨bb, off + j * 2, none⟩ = some (.string (strB kd2.1)) ∧ W.cell? ⟨bb, off + j * 2 + 1, none⟩ = some (.int .i64 kd2.2)) (by kernel_rfl) (⟨e0, e1, k0, k1⟩) (fun hHeld => ?_)
                            refine takeJ 0 (v := ?_) ?_ hHeld ?_
                            rotate_left
                            · rintro w ⟨_, _, _, _⟩; go_simp; try with_reducible rfl
                            refine takeJ 1 (v := ?_) ?_ hHeld ?_
                            rotate_left
                            · rintro w ⟨_, _, _, _⟩; go_simp; try with_reducible rfl
                            refine takeJ 2 (v := ?_) ?_ hHeld ?_
                            rotate_left
                            · rintro w ⟨_, _, _, _⟩; go_simp; try with_reducible rfl
                            refine takeJ 3 (v := ?_) ?_ hHeld ?_
                            rotate_left
                            · rintro w ⟨_, _, _, _⟩; go_simp; try with_reducible rfl
                            refine takeJ 4 (v := ?_) ?_ hHeld ?_
                            rotate_left
                            · rintro w ⟨_, _, _, _⟩; go_simp; try with_reducible rfl
                            refine takeJ 5 (v := ?_) ?_ hHeld ?_
                            rotate_left
                            · rintro w ⟨_, _, _, _⟩; go_simp; try with_reducible rfl
                            refine takeJ 6 (v := ?_) ?_ hHeld ?_
                            rotate_left
                            · rintro w ⟨_, _, _, _⟩; go_simp; try with_reducible rfl
                            refine takeJ 7 (v := ?_) ?_ hHeld ?_
                            rotate_left
                            · rintro w ⟨_, _, _, _⟩; go_simp; try with_reducible rfl
                            refine takeJ 8 (v := ?_) ?_ hHeld ?_
                            rotate_left
                            · rintro w ⟨_, _, _, _⟩; go_simp; try with_reducible rfl
                            refine onlyH (i := 9) rfl (by kernel_rfl) rfl (fun K hK => ?_)
                            go_simp
                            refine hrec.mono ?_
                            rintro e w8 ⟨rfl, vp8, hR8, hM8, hN8⟩
                            have hM68 : Mv B fts vp.ownBlock w6 w8 := HR6.out.1.drew.trans hM8 HR6.out.2
                            have hN68 : Nx w6 vp.ownBlock vp8.ownBlock := HR6.out.2.trans hN8 (show w6.heap.size ≤ wr.drew.heap.size from HR6.out.1.size)
                            have hfb8 := hM68.k _ _ _ _ H6.out.2.2.1 (by decide) HFB.out
                            have hov8 := hM68.own H6.out.2.2.2 (by decide) HVN.out
                            obtain ⟨bb', off', hbb, l0, l1⟩ := own_part hov8 hlt2
                            injection hbb with hbb
                            injection hbb with hb1 hb2
                            subst hb1
                            subst hb2
                            rw [← HNX.out] at l0 l1
                            have e0 := cell_of_row w8 fb 0 _ _ _ hfb8
                            have e1 := cell_of_row w8 fb 1 _ _ _ hfb8
                            simp only [List.getElem?_toArray, List.getElem?_cons_zero, List.getElem?_cons_succ] at e0 e1
                            have H8 := hide (And.intro hR8 (And.intro hM68 hN68))
                            clear hrec hR8 hM8 hN8 hM68 hN68 hfb8 hov8
                            go_simp
                            refine hK.out _ _ (⟨e0, e1, l0, l1⟩) (fun hHeld => ?_)
                            clear hK K
                            try simp only [Act.put, List.setIfInBounds_toArray, List.set_cons_zero, List.set_cons_succ]
                            refine wpAnyH_done (by kernel_rfl) ?_ _
                            clear hHeld
                            go_wp2
                            go_roundw
                            case rel => exact ⟨j + 1, by omega, by go_num, vp8, H8.out.1, H8.out.2.1, H8.out.2.2⟩
                            case measure => simp [intOf]; omega
                          · obtain rfl : j = m := by omega
                            have htk2 : xs.take j = xs := by rw [HM.out, List.take_length]
                            rw [htk2] at hRr
                            have HL := hide (And.intro hRr (And.intro hMr hNr))
                            clear hRr hMr hNr htk2 hfbr
                            go_wp2
                            first | go_end0 | refine bodyPost_ret (results_none rfl _ _ _) rfl ?_
                            rw [HCR.out, HGS.out]
                            exact ⟨rfl, vpj, HL.out.1, ((Mv.of HR.out.2.1 hB).trans H6.out.2.1.none (Nx.refl _ _)).trans HL.out.2.1 (Nx.refl _ _), by
                              rcases HL.out.2.2 with h | ⟨q, h, hq⟩
                              · exact .inl h
                              · exact .inr ⟨q, h, by have := H6.out.2.1.size; have := HR.out.2.1.size; omega⟩⟩
                    · have hsb : (z != p.2) = true := by simpa using hsp
                      have hgs := chS_bad (k := k) HBAD.out (show (askN (findO objs) p level).1 ≠ 0 by rw [askN_not (level := level) hfo hnd (fun h => hsp (by have := h.1; unfold sizeN at this; simp only [List.length_nil] at this; omega))]; simp)
                      rw [askN_not (level := level) hfo hnd (fun h => hsp (by have := h.1; unfold sizeN at this; simp only [List.length_nil] at this; omega))] at hgs
                      have HGS := hide hgs
                      clear hgs ih
                      go_wp2_with fail
                      refine (fail_any B _ g vo objs vp _ 101 H6.out.1 rfl).mono ?_
                      rintro e w9 ⟨rfl, hR9, hM9⟩
                      have HF := hide (And.intro hR9 (H6.out.2.1.trans hM9 (Nx.refl _ _)))
                      clear hR9 hM9
                      go_wp2
                      first | go_end0 | refine bodyPost_ret (results_none rfl _ _ _) rfl ?_
                      rw [HCR.out, HGS.out]
                      exact ⟨rfl, vp, HF.out.1, (Mv.of HR.out.2.1 hB).trans HF.out.2.none (Nx.refl _ _), Nx.refl _ _⟩
                  · have hnd := nodeOf_n htk htf
                    have hgs := chS_bad (k := k) HBAD.out (show (askN (findO objs) p level).1 ≠ 0 by rw [askN_no (level := level) hfo hnd]; simp)
                    rw [askN_no (level := level) hfo hnd] at hgs
                    have HGS := hide hgs
                    clear hgs ih
                    go_wp2_with fail
                    refine (fail_any B _ g vo objs vp _ 101 H6.out.1 rfl).mono ?_
                    rintro e w9 ⟨rfl, hR9, hM9⟩
                    have HF := hide (And.intro hR9 (H6.out.2.1.trans hM9 (Nx.refl _ _)))
                    clear hR9 hM9
                    go_wp2
                    first | go_end0 | refine bodyPost_ret (results_none rfl _ _ _) rfl ?_
                    rw [HCR.out, HGS.out]
                    exact ⟨rfl, vp, HF.out.1, (Mv.of HR.out.2.1 hB).trans HF.out.2.none (Nx.refl _ _), Nx.refl _ _⟩
        · go_simp
          refine hK.out _ _ (sA) (fun hHeld => ?_)
          clear hK K
          try simp only [Act.put, List.setIfInBounds_toArray, List.set_cons_zero, List.set_cons_succ]
          refine onlyH (i := 4) rfl (by kernel_rfl) rfl (fun K hK => ?_)
          go_simp
          refine hK.out _ _ (sA) (fun hHeld => ?_)
          clear hK K
          try simp only [Act.put, List.setIfInBounds_toArray, List.set_cons_zero, List.set_cons_succ]
          refine onlyH (i := 8) rfl (by kernel_rfl) rfl (fun K hK => ?_)
          refine wp_append_run (.tmp 34) (.tmp 37) 37 rfl rfl rfl HRUN.out ?_
          refine hK.out _ _ (s1) (fun hHeld => ?_)
          clear hK K
          try simp only [Act.put, List.setIfInBounds_toArray, List.set_cons_zero, List.set_cons_succ]
          refine takeJ 9 (v := ?_) ?_ hHeld ?_
          rotate_left
          · intro w hS; (try dsimp only at hS); go_simp; try with_reducible rfl
          refine takeJ 10 (v := ?_) ?_ hHeld ?_
          rotate_left
          · intro w hS; (try dsimp only at hS); go_simp; try with_reducible rfl
          refine onlyH (i := 11) rfl (by kernel_rfl) rfl (fun K hK => ?_)
          go_simp
          refine hK.out _ _ (s2) (fun hHeld => ?_)
          clear hK K
          try simp only [Act.put, List.setIfInBounds_toArray, List.set_cons_zero, List.set_cons_succ]
          refine wpAnyH_done (by kernel_rfl) ?_ _
          clear hHeld g1 gA g2 sA s1 f1 HRUN
          obtain ⟨hR2, hM2, hq2⟩ := H2.out
          generalize w1.setCell ⟨g, 1, none⟩ (.slice vaA vaM vaC) = w2 at *
          have hl2 := hR2.2.1
          have hBw2 := hR2.le
          have hf := find_any w2.drew vo objs p.1 (hl2.up hBw2)
          obtain ⟨-, -, va2, vd2, hh2, -⟩ := hR2
          have d0 := cell_of_row w2 g 0 _ _ _ hh2
          have p0 := cell_of_row w2 w.heap.size 0 _ _ _ hq2
          have p1 := cell_of_row w2 w.heap.size 1 _ _ _ hq2
          simp only [List.getElem?_toArray, List.getElem?_cons_zero, List.getElem?_cons_succ] at d0 p0 p1
          have hR3 : RfW B w2.drew g vo objs vp ⟨s.asked ++ [p.1], s.data, s.parts, 0⟩ := by have := H2.out.1; rw [HBAD.out] at this; exact this
          have hM3 : Mv B fts none w0 w2.drew := H2.out.2.1.drew
          have hq3 : w2.drew.heap[w.heap.size]? = some (.cells #[.string (strB p.1), .int .i64 p.2] 25) := hq2
          have H3 := hide (And.intro hR3 (And.intro hM3 hq3))
          clear hR3 hM3 hq3 hl2 hh2 hq2 hM2 H2
          go_wp2_with fail
          refine wp_region_held_drew (S := fun W => W.cell? ⟨g, 0, none⟩ = some vo ∧ W.cell? ⟨w.heap.size, 0, none⟩ = some (.string (strB p.1))) (by kernel_rfl) (⟨d0, p0⟩) (fun hHeld => ?_)
          refine takeJ 0 (v := ?_) ?_ hHeld ?_
          rotate_left
          · rintro w ⟨_, _⟩; go_simp; try with_reducible rfl
          refine takeJ 1 (v := ?_) ?_ hHeld ?_
          rotate_left
          · rintro w ⟨_, _⟩; go_simp; try with_reducible rfl
          refine takeJ 2 (v := ?_) ?_ hHeld ?_
          rotate_left
          · rintro w ⟨_, _⟩; go_simp; try with_reducible rfl
          refine takeJ 3 (v := ?_) ?_ hHeld ?_
          rotate_left
          · rintro w ⟨_, _⟩; go_simp; try with_reducible rfl
          refine takeJ 4 (v := ?_) ?_ hHeld ?_
          rotate_left
          · rintro w ⟨_, _⟩; go_simp; try with_reducible rfl
          refine takeJ 5 (v := ?_) ?_ hHeld ?_
          rotate_left
          · rintro w ⟨_, _⟩; go_simp; try with_reducible rfl
          refine onlyH (i := 6) rfl (by kernel_rfl) rfl (fun K hK => ?_)
          go_simp
          obtain ⟨fs, fk, hfv⟩ := foundV_form (findO objs p.1)
          rw [hfv] at hf
          refine hf.mono ?_
          rintro e w3 ⟨rfl, rfl⟩
          go_simp
          refine hK.out _ _ (⟨d0, p0⟩) (fun hHeld => ?_)
          clear hK K
          try simp only [Act.put, List.setIfInBounds_toArray, List.set_cons_zero, List.set_cons_succ]
          refine takeJ 7 (v := ?_) ?_ hHeld ?_
          rotate_left
          · rintro w ⟨_, _⟩; go_simp; try with_reducible rfl
          refine takeJ 8 (v := ?_) ?_ hHeld ?_
          rotate_left
          · rintro w ⟨_, _⟩; go_simp; try with_reducible rfl
          refine takeJ 9 (v := ?_) ?_ hHeld ?_
          rotate_left
          · rintro w ⟨_, _⟩; go_simp; try with_reducible rfl
          refine takeJ 10 (v := ?_) ?_ hHeld ?_
          rotate_left
          · rintro w ⟨_, _⟩; go_simp; try with_reducible rfl
          refine takeJ 11 (v := ?_) ?_ hHeld ?_
          rotate_left
          · rintro w ⟨_, _⟩; go_simp; try with_reducible rfl
          refine wpAnyH_done (by kernel_rfl) ?_ _
          clear hHeld
          have p1 : w2.drew.cell? ⟨w.heap.size, 1, none⟩ = some (.int .i64 p.2) := p1
          generalize w2.drew = w3 at *
          clear hf d0 p0 hBw2
          cases hfo : findO objs p.1 with
          | none =>
            unfold foundV at hfv
            rw [hfo] at hfv
            simp only [Value.tuple.injEq, Array.mk.injEq, List.cons.injEq, Value.string.injEq, Value.int.injEq, and_true, true_and] at hfv
            obtain ⟨-, hk3⟩ := hfv
            have hgs := chS_bad (k := k) HBAD.out (show (askN (findO objs) p level).1 ≠ 0 by rw [askN_none hfo]; simp)
            rw [askN_none hfo] at hgs
            have HGS := hide hgs
            subst hk3
            clear hgs ih
            go_wp2_with fail
            refine (fail_any B _ g vo objs vp _ 3 H3.out.1 rfl).mono ?_
            rintro e w4 ⟨rfl, hR4, hM4⟩
            have HF := hide (And.intro hR4 ((H3.out.2.1.trans hM4 (Nx.refl _ _))))
            clear hR4 hM4
            go_wp2
            first | go_end0 | refine bodyPost_ret (results_none rfl _ _ _) rfl ?_
            rw [HCR.out, HGS.out]
            exact ⟨rfl, vp, HF.out.1, (Mv.of HR.out.2.1 hB).trans HF.out.2.none (Nx.refl _ _), Nx.refl _ _⟩
          | some b =>
            unfold foundV at hfv
            rw [hfo] at hfv
            simp only [Value.tuple.injEq, Array.mk.injEq, List.cons.injEq, Value.string.injEq, Value.int.injEq, and_true, true_and] at hfv
            obtain ⟨hfs, hk3⟩ := hfv
            obtain rfl := strB_inj hfs
            subst hk3
            have hbl : b.length ≤ 140737488351232 := by obtain ⟨o, ho, rfl⟩ := findO_mem hfo; exact hob o ho
            have htc := rtakeChunk_any w3 b hbl
            cases htk : takenChunk b with
            | some d =>
              rw [chunkV_yes htk] at htc
              have hds := strB_size d
              have hnd := nodeOf_c htk
              by_cases hok : level = -1 ∧ (d.length : Int) = p.2
              · have hask := askN_yes (level := level) hfo hnd ⟨by unfold sizeN; simp only [sizeP_nil]; omega, .inl hok.1⟩
                have hgs := chS_chunk (k := k) HBAD.out (by rw [hask]) (by rw [hask])
                have HGS := hide hgs
                have hln : level < 0 := by omega
                have hsb : ((d.length : Int) == p.2) = true := by rw [hok.2]; simp
                clear hgs hask hnd hok ih
                go_wp2_with fail
                refine htc.mono ?_
                rintro e w4 ⟨rfl, hb4⟩
                have hR4 := H3.out.1.below hb4
                have hq4 := (hb4.block _ (lt_of_heap H3.out.2.2)).trans H3.out.2.2
                have hM4 : Mv B fts none w0 w4 := H3.out.2.1.more hb4 H3.out.1.le
                have p1 := cell_of_row w4 w.heap.size 1 _ _ _ hq4
                have p0 := cell_of_row w4 w.heap.size 0 _ _ _ hq4
                simp only [List.getElem?_toArray, List.getElem?_cons_zero, List.getElem?_cons_succ] at p0 p1
                have H4 := hide (And.intro hR4 (And.intro hM4 hq4))
                clear htc hb4 hR4 hM4 hq4 hfs
                obtain ⟨va5, vd5, vp', w5, hh5, ⟨vpA, vpM, vpC, rfl⟩, hrun5, hh5', hR6, hM5, hM6, hNx⟩ := H4.out.1.part p (by have := HN.out.2; simp only; omega)
                have g5 := cell_of_row w4 g 3 _ _ _ hh5
                have hhA := (heap_past w4 (.cells #[.string (strB p.1), .int .i64 p.2] 25) _ (lt_of_heap hh5)).trans hh5
                have gA := cell_of_row _ g 3 _ _ _ hhA
                have g5' := cell_of_row w5 g 3 _ _ _ hh5'
                have hqA := (heap_past w4 (.cells #[.string (strB p.1), .int .i64 p.2] 25) _ (lt_of_heap H4.out.2.2)).trans H4.out.2.2
                have hpne : some w.heap.size ≠ vp.ownBlock := fun h => by have := HV.out _ h.symm; omega
                have hq5 := hM5.k _ _ _ _ H4.out.2.2 (by decide) hpne
                have hq6 := hM6.k _ _ _ _ H4.out.2.2 (by decide) hpne
                have tA := cell_of_row _ w.heap.size 0 _ _ _ hqA
                have tA' := cell_of_row _ w.heap.size 1 _ _ _ hqA
                have u5 := cell_of_row _ w.heap.size 0 _ _ _ hq5
                have u5' := cell_of_row _ w.heap.size 1 _ _ _ hq5
                have u6 := cell_of_row _ w.heap.size 0 _ _ _ hq6
                have u6' := cell_of_row _ w.heap.size 1 _ _ _ hq6
                simp only [List.getElem?_toArray, List.getElem?_cons_zero, List.getElem?_cons_succ] at g5 gA g5' tA tA' u5 u5' u6 u6'
                have f5 := frozen0 (j := 3) hh5'
                have HRUN5 := hide hrun5
                have H6 := hide (And.intro hR6 (And.intro (H4.out.2.1.none.trans hM6 (Nx.refl _ _)) hNx))
                have hsz4 : w.heap.size ≤ w4.heap.size := by have := H4.out.2.1.size; have := HN0.out; omega
                clear hrun5 hh5 hh5' hR6 hM5 hM6 hNx hhA hqA hq5 hq6 hpne
                go_wp2_with fail
                refine wp_region_held_drew (S := fun W => W.cell? ⟨w.heap.size, 0, none⟩ = some (.string (strB p.1)) ∧ W.cell? ⟨w.heap.size, 1, none⟩ = some (.int .i64 p.2)) (by kernel_rfl) (⟨p0, p1⟩) (fun hHeld => ?_)
                refine takeJ 0 (v := ?_) ?_ hHeld ?_
                rotate_left
                · rintro w ⟨_, _⟩; go_simp; try with_reducible rfl
                refine takeJ 1 (v := ?_) ?_ hHeld ?_
                rotate_left
                · rintro w ⟨_, _⟩; go_simp; try with_reducible rfl
                refine takeJ 2 (v := ?_) ?_ hHeld ?_
                rotate_left
                · rintro w ⟨_, _⟩; go_simp; try with_reducible rfl
                refine takeJ 3 (v := ?_) ?_ hHeld ?_
                rotate_left
                · rintro w ⟨_, _⟩; go_simp; try with_reducible rfl
                refine takeJ 5 (v := ?_) ?_ hHeld ?_
                rotate_left
                · rintro w ⟨_, _⟩; go_simp; try with_reducible rfl
                refine twoH (i := 4) (j := 6) rfl rfl (by kernel_rfl) rfl rfl (fun K hK => ?_) (fun K hK => ?_)
                · go_simp
                  refine hK.out _ _ (⟨p0, p1⟩) (fun hHeld => ?_)
                  clear hK K
                  try simp only [Act.put, List.setIfInBounds_toArray, List.set_cons_zero, List.set_cons_succ]
                  refine onlyH (i := 6) rfl (by kernel_rfl) rfl (fun K hK => ?_)
                  go_simp
                  refine hK.out _ _ (⟨tA, tA'⟩) (fun hHeld => ?_)
                  clear hK K
                  try simp only [Act.put, List.setIfInBounds_toArray, List.set_cons_zero, List.set_cons_succ]
                  refine onlyH (i := 7) rfl (by kernel_rfl) rfl (fun K hK => ?_)
                  refine wp_append_run (.tmp 78) (.tmp 80) 38 rfl rfl rfl HRUN5.out ?_
                  refine hK.out _ _ (⟨u5, u5'⟩) (fun hHeld => ?_)
                  clear hK K
                  try simp only [Act.put, List.setIfInBounds_toArray, List.set_cons_zero, List.set_cons_succ]
                  refine takeJ 8 (v := ?_) ?_ hHeld ?_
                  rotate_left
                  · rintro w ⟨_, _⟩; go_simp; try with_reducible rfl
                  refine takeJ 9 (v := ?_) ?_ hHeld ?_
                  rotate_left
                  · rintro w ⟨_, _⟩; go_simp; try with_reducible rfl
                  refine onlyH (i := 10) rfl (by kernel_rfl) rfl (fun K hK => ?_)
                  go_simp
                  refine hK.out _ _ (⟨u6, u6'⟩) (fun hHeld => ?_)
                  clear hK K
                  try simp only [Act.put, List.setIfInBounds_toArray, List.set_cons_zero, List.set_cons_succ]
                  refine wpAnyH_done (by kernel_rfl) ?_ _
                  clear hHeld
                  go_wp2
                  first | go_end0 | refine bodyPost_ret (results_none rfl _ _ _) rfl ?_
                  rw [HCR.out, HGS.out]
                  exact ⟨rfl, _, H6.out.1, (Mv.of HR.out.2.1 hB).trans H6.out.2.1 (Nx.refl _ _), by
                    rcases H6.out.2.2 with h | ⟨q, h, hq⟩
                    · exact .inl h
                    · exact .inr ⟨q, h, by omega⟩⟩
                · go_simp
                  refine hK.out _ _ (⟨tA, tA'⟩) (fun hHeld => ?_)
                  clear hK K
                  try simp only [Act.put, List.setIfInBounds_toArray, List.set_cons_zero, List.set_cons_succ]
                  refine onlyH (i := 4) rfl (by kernel_rfl) rfl (fun K hK => ?_)
                  go_simp
                  refine hK.out _ _ (⟨tA, tA'⟩) (fun hHeld => ?_)
                  clear hK K
                  try simp only [Act.put, List.setIfInBounds_toArray, List.set_cons_zero, List.set_cons_succ]
                  refine onlyH (i := 7) rfl (by kernel_rfl) rfl (fun K hK => ?_)
                  refine wp_append_run (.tmp 78) (.tmp 80) 38 rfl rfl rfl HRUN5.out ?_
                  refine hK.out _ _ (⟨u5, u5'⟩) (fun hHeld => ?_)
                  clear hK K
                  try simp only [Act.put, List.setIfInBounds_toArray, List.set_cons_zero, List.set_cons_succ]
                  refine takeJ 8 (v := ?_) ?_ hHeld ?_
                  rotate_left
                  · rintro w ⟨_, _⟩; go_simp; try with_reducible rfl
                  refine takeJ 9 (v := ?_) ?_ hHeld ?_
                  rotate_left
                  · rintro w ⟨_, _⟩; go_simp; try with_reducible rfl
                  refine onlyH (i := 10) rfl (by kernel_rfl) rfl (fun K hK => ?_)
                  go_simp
                  refine hK.out _ _ (⟨u6, u6'⟩) (fun hHeld => ?_)
                  clear hK K
                  try simp only [Act.put, List.setIfInBounds_toArray, List.set_cons_zero, List.set_cons_succ]
                  refine wpAnyH_done (by kernel_rfl) ?_ _
                  clear hHeld
                  go_wp2
                  first | go_end0 | refine bodyPost_ret (results_none rfl _ _ _) rfl ?_
                  rw [HCR.out, HGS.out]
                  exact ⟨rfl, _, H6.out.1, (Mv.of HR.out.2.1 hB).trans H6.out.2.1 (Nx.refl _ _), by
                    rcases H6.out.2.2 with h | ⟨q, h, hq⟩
                    · exact .inl h
                    · exact .inr ⟨q, h, by omega⟩⟩
              · have hasks := askN_not (level := level) hfo hnd (fun h => hok ⟨by have := h.2; simp only at this; omega, by have := h.1; unfold sizeN at this; simp only [sizeP_nil] at this; omega⟩)
                go_wp2_with fail
                refine htc.mono ?_
                rintro e w4 ⟨rfl, hb4⟩
                have hq4 := (hb4.block _ (lt_of_heap H3.out.2.2)).trans H3.out.2.2
                have p1 := cell_of_row w4 w.heap.size 1 _ _ _ hq4
                simp only [List.getElem?_toArray, List.getElem?_cons_zero, List.getElem?_cons_succ] at p1
                clear htc hfs hq4
                by_cases hln : level < 0
                · have hsb : ((d.length : Int) == p.2) = false := by rw [beq_eq_false_iff_ne]; exact fun h => hok ⟨by omega, h⟩
                  clear hok
                  obtain ⟨lv, xs, kd, hform, hcase⟩ := fan_form b
                  have hxs : (∀ q ∈ xs, 1 ≤ q.2) ∧ sizeP xs ≤ 262144 ∧ xs.length ≤ 32 := by
                    rcases hcase with ⟨-, h⟩ | ⟨-, -, h, -⟩
                    · have := fan_facts ((takenFan_iff b (lv, xs)).1 h).1
                      exact ⟨this.2.2.2.2.1, this.2.2.2.2.2, this.2.2.2.1⟩
                    · subst h
                      simp [sizeP]
                  have htf := rtakeFan_any w4 b hbl
                  go_wp2_with fail
                  refine htf.mono ?_
                  rintro e w5 ⟨hsaid, hb5⟩
                  obtain ⟨v, rfl, hov⟩ := hform _ _ _ hsaid
                  obtain ⟨ao, cap, hvv, hcp, hcp2⟩ := own_form hov
                  obtain ⟨m, hm⟩ : ∃ m, m = xs.length := ⟨_, rfl⟩
                  rw [← hm] at hvv
                  subst hvv
                  have hb45 := hb4.trans (hb5.mono hb4.size)
                  have hb36 : Below w3.heap.size w3 (w5.alloc (.cells #[.int .i64 lv, .slice ao m cap] 90)) := hb45.alloc hb45.size _
                  have hR6 := H3.out.1.below hb36
                  have hq6 := (hb36.block _ (lt_of_heap H3.out.2.2)).trans H3.out.2.2
                  have hM6 : Mv B fts none w0 (w5.alloc (.cells #[.int .i64 lv, .slice ao m cap] 90)) := H3.out.2.1.more hb36 H3.out.1.le
                  have hfb6 := heap_last w5 (.cells #[.int .i64 lv, .slice ao m cap] 90) _ rfl
                  have hov6 := hov.alloc (.cells #[.int .i64 lv, .slice ao m cap] 90)
                  have hsz35 : w.heap.size + 1 ≤ w3.heap.size := by have := H3.out.2.1.size; have := HN0.out; omega
                  have hvne : (Value.slice ao m cap).ownBlock = none ∨ (Value.slice ao m cap).ownBlock ≠ vp.ownBlock := by
                    cases hq : (Value.slice ao m cap).ownBlock with
                    | none => exact .inl rfl
                    | some q =>
                      refine .inr fun h => ?_
                      have h1 := (hov.lt q hq).1
                      have h2 := HV.out q h.symm
                      have h3 := hb4.size
                      omega
                  have hfbne : some w5.heap.size ≠ vp.ownBlock := fun h => by
                    have h2 := HV.out _ h.symm
                    have h3 := hb45.size
                    omega
                  have hpm : m ≤ 32 := by omega
                  have HM := hide hm
                  have HX := hide hxs
                  clear htf hsaid hb4 hb5 hb45 hb36 hov hcp hcp2 hm hxs hform
                  go_wp2_with fail
                  have HVN := hide hvne
                  have HFB := hide hfbne
                  generalize w5.alloc (.cells #[.int .i64 lv, .slice ao m cap] 90) = w6 at *
                  generalize w5.heap.size = fb at *
                  have p1 := cell_of_row w6 w.heap.size 1 _ _ _ hq6
                  have fb0 := cell_of_row w6 fb 0 _ _ _ hfb6
                  have fb1 := cell_of_row w6 fb 1 _ _ _ hfb6
                  simp only [List.getElem?_toArray, List.getElem?_cons_zero, List.getElem?_cons_succ] at p1 fb0 fb1
                  have H6 := hide (And.intro hR6 (And.intro hM6 (And.intro hfb6 hov6)))
                  clear hR6 hM6 hfb6 hov6 hq6 hvne hfbne
                  go_loopw [10, 11] (fun t u wr => ∃ j : Nat, j ≤ m ∧ u = .int .i64 j ∧ t = .int .i64 (sizeP (xs.take j)) ∧ wr = w6)
                    (fun _ u _ => m - (intOf u).toNat)
                  case atStart => exact ⟨0, by omega, rfl, rfl, rfl⟩
                  case round =>
                    obtain ⟨j, hj, rfl, rfl, hwr⟩ := hrel
                    obtain rfl := hwr.symm
                    by_cases hlt : j < m
                    · have hlt2 : j < xs.length := by have := HM.out; omega
                      obtain ⟨bb, off, rfl, k0, k1⟩ := own_part H6.out.2.2.2 hlt2
                      have hwi := sizeP_within xs HX.out.1 j hlt2
                      have hss := sizeP_step xs j hlt2
                      have hx2 := HX.out.2.1
                      generalize xs[j] = kx at *
                      have HSS := hide hss
                      generalize sizeP (xs.take j) = zj at *
                      clear hss
                      go_wp2
                      go_roundw
                      case rel => exact ⟨j + 1, by omega, by go_num, by rw [HSS.out], trivial⟩
                      case measure => simp [intOf]; omega
                    · rcases hcase with ⟨rfl, htf⟩ | ⟨rfl, htf, -, -⟩
                      · rw [chunk_no_fan htk] at htf
                        cases htf
                      · skip
                        have hgs := chS_bad (k := k) HBAD.out (show (askN (findO objs) p level).1 ≠ 0 by rw [hasks]; simp)
                        rw [hasks] at hgs
                        have HGS := hide hgs
                        clear hgs ih
                        go_wp2_with fail
                        refine (fail_any B _ g vo objs vp _ 101 H6.out.1 rfl).mono ?_
                        rintro e w9 ⟨rfl, hR9, hM9⟩
                        have HF := hide (And.intro hR9 (H6.out.2.1.trans hM9 (Nx.refl _ _)))
                        clear hR9 hM9
                        go_wp2
                        first | go_end0 | refine bodyPost_ret (results_none rfl _ _ _) rfl ?_
                        rw [HCR.out, HGS.out]
                        exact ⟨rfl, vp, HF.out.1, (Mv.of HR.out.2.1 hB).trans HF.out.2.none (Nx.refl _ _), Nx.refl _ _⟩
                · have hge : 0 ≤ level := by omega
                  clear hok
                  obtain ⟨lv, xs, kd, hform, hcase⟩ := fan_form b
                  have hxs : (∀ q ∈ xs, 1 ≤ q.2) ∧ sizeP xs ≤ 262144 ∧ xs.length ≤ 32 := by
                    rcases hcase with ⟨-, h⟩ | ⟨-, -, h, -⟩
                    · have := fan_facts ((takenFan_iff b (lv, xs)).1 h).1
                      exact ⟨this.2.2.2.2.1, this.2.2.2.2.2, this.2.2.2.1⟩
                    · subst h
                      simp [sizeP]
                  have htf := rtakeFan_any w4 b hbl
                  go_wp2_with fail
                  refine htf.mono ?_
                  rintro e w5 ⟨hsaid, hb5⟩
                  obtain ⟨v, rfl, hov⟩ := hform _ _ _ hsaid
                  obtain ⟨ao, cap, hvv, hcp, hcp2⟩ := own_form hov
                  obtain ⟨m, hm⟩ : ∃ m, m = xs.length := ⟨_, rfl⟩
                  rw [← hm] at hvv
                  subst hvv
                  have hb45 := hb4.trans (hb5.mono hb4.size)
                  have hb36 : Below w3.heap.size w3 (w5.alloc (.cells #[.int .i64 lv, .slice ao m cap] 90)) := hb45.alloc hb45.size _
                  have hR6 := H3.out.1.below hb36
                  have hq6 := (hb36.block _ (lt_of_heap H3.out.2.2)).trans H3.out.2.2
                  have hM6 : Mv B fts none w0 (w5.alloc (.cells #[.int .i64 lv, .slice ao m cap] 90)) := H3.out.2.1.more hb36 H3.out.1.le
                  have hfb6 := heap_last w5 (.cells #[.int .i64 lv, .slice ao m cap] 90) _ rfl
                  have hov6 := hov.alloc (.cells #[.int .i64 lv, .slice ao m cap] 90)
                  have hsz35 : w.heap.size + 1 ≤ w3.heap.size := by have := H3.out.2.1.size; have := HN0.out; omega
                  have hvne : (Value.slice ao m cap).ownBlock = none ∨ (Value.slice ao m cap).ownBlock ≠ vp.ownBlock := by
                    cases hq : (Value.slice ao m cap).ownBlock with
                    | none => exact .inl rfl
                    | some q =>
                      refine .inr fun h => ?_
                      have h1 := (hov.lt q hq).1
                      have h2 := HV.out q h.symm
                      have h3 := hb4.size
                      omega
                  have hfbne : some w5.heap.size ≠ vp.ownBlock := fun h => by
                    have h2 := HV.out _ h.symm
                    have h3 := hb45.size
                    omega
                  have hpm : m ≤ 32 := by omega
                  have HM := hide hm
                  have HX := hide hxs
                  clear htf hsaid hb4 hb5 hb45 hb36 hov hcp hcp2 hm hxs hform
                  go_wp2_with fail
                  have HVN := hide hvne
                  have HFB := hide hfbne
                  generalize w5.alloc (.cells #[.int .i64 lv, .slice ao m cap] 90) = w6 at *
                  generalize w5.heap.size = fb at *
                  have p1 := cell_of_row w6 w.heap.size 1 _ _ _ hq6
                  have fb0 := cell_of_row w6 fb 0 _ _ _ hfb6
                  have fb1 := cell_of_row w6 fb 1 _ _ _ hfb6
                  simp only [List.getElem?_toArray, List.getElem?_cons_zero, List.getElem?_cons_succ] at p1 fb0 fb1
                  have H6 := hide (And.intro hR6 (And.intro hM6 (And.intro hfb6 hov6)))
                  clear hR6 hM6 hfb6 hov6 hq6 hvne hfbne
                  go_loopw [10, 11] (fun t u wr => ∃ j : Nat, j ≤ m ∧ u = .int .i64 j ∧ t = .int .i64 (sizeP (xs.take j)) ∧ wr = w6)
                    (fun _ u _ => m - (intOf u).toNat)
                  case atStart => exact ⟨0, by omega, rfl, rfl, rfl⟩
                  case round =>
                    obtain ⟨j, hj, rfl, rfl, hwr⟩ := hrel
                    obtain rfl := hwr.symm
                    by_cases hlt : j < m
                    · have hlt2 : j < xs.length := by have := HM.out; omega
                      obtain ⟨bb, off, rfl, k0, k1⟩ := own_part H6.out.2.2.2 hlt2
                      have hwi := sizeP_within xs HX.out.1 j hlt2
                      have hss := sizeP_step xs j hlt2
                      have hx2 := HX.out.2.1
                      generalize xs[j] = kx at *
                      have HSS := hide hss
                      generalize sizeP (xs.take j) = zj at *
                      clear hss
                      go_wp2
                      go_roundw
                      case rel => exact ⟨j + 1, by omega, by go_num, by rw [HSS.out], trivial⟩
                      case measure => simp [intOf]; omega
                    · rcases hcase with ⟨rfl, htf⟩ | ⟨rfl, htf, -, -⟩
                      · rw [chunk_no_fan htk] at htf
                        cases htf
                      · skip
                        have hgs := chS_bad (k := k) HBAD.out (show (askN (findO objs) p level).1 ≠ 0 by rw [hasks]; simp)
                        rw [hasks] at hgs
                        have HGS := hide hgs
                        clear hgs ih
                        go_wp2_with fail
                        refine (fail_any B _ g vo objs vp _ 101 H6.out.1 rfl).mono ?_
                        rintro e w9 ⟨rfl, hR9, hM9⟩
                        have HF := hide (And.intro hR9 (H6.out.2.1.trans hM9 (Nx.refl _ _)))
                        clear hR9 hM9
                        go_wp2
                        first | go_end0 | refine bodyPost_ret (results_none rfl _ _ _) rfl ?_
                        rw [HCR.out, HGS.out]
                        exact ⟨rfl, vp, HF.out.1, (Mv.of HR.out.2.1 hB).trans HF.out.2.none (Nx.refl _ _), Nx.refl _ _⟩
            | none =>
              rw [chunkV_no htk] at htc
              obtain ⟨lv, xs, kd, hform, hcase⟩ := fan_form b
              have hxs : (∀ q ∈ xs, 1 ≤ q.2) ∧ sizeP xs ≤ 262144 ∧ xs.length ≤ 32 := by
                rcases hcase with ⟨-, h⟩ | ⟨-, -, h, -⟩
                · have := fan_facts ((takenFan_iff b (lv, xs)).1 h).1
                  exact ⟨this.2.2.2.2.1, this.2.2.2.2.2, this.2.2.2.1⟩
                · subst h
                  simp [sizeP]
              go_wp2_with fail
              refine htc.mono ?_
              rintro e w4 ⟨rfl, hb4⟩
              clear htc hfs
              have htf := rtakeFan_any w4 b hbl
              go_wp2_with fail
              refine htf.mono ?_
              rintro e w5 ⟨hsaid, hb5⟩
              obtain ⟨v, rfl, hov⟩ := hform _ _ _ hsaid
              obtain ⟨ao, cap, hvv, hcp, hcp2⟩ := own_form hov
              obtain ⟨m, hm⟩ : ∃ m, m = xs.length := ⟨_, rfl⟩
              rw [← hm] at hvv
              subst hvv
              have hb45 := hb4.trans (hb5.mono hb4.size)
              have hb36 : Below w3.heap.size w3 (w5.alloc (.cells #[.int .i64 lv, .slice ao m cap] 90)) := hb45.alloc hb45.size _
              have hR6 := H3.out.1.below hb36
              have hq6 := (hb36.block _ (lt_of_heap H3.out.2.2)).trans H3.out.2.2
              have hM6 : Mv B fts none w0 (w5.alloc (.cells #[.int .i64 lv, .slice ao m cap] 90)) := H3.out.2.1.more hb36 H3.out.1.le
              have hfb6 := heap_last w5 (.cells #[.int .i64 lv, .slice ao m cap] 90) _ rfl
              have hov6 := hov.alloc (.cells #[.int .i64 lv, .slice ao m cap] 90)
              have hsz35 : w.heap.size + 1 ≤ w3.heap.size := by have := H3.out.2.1.size; have := HN0.out; omega
              have hvne : (Value.slice ao m cap).ownBlock = none ∨ (Value.slice ao m cap).ownBlock ≠ vp.ownBlock := by
                cases hq : (Value.slice ao m cap).ownBlock with
                | none => exact .inl rfl
                | some q =>
                  refine .inr fun h => ?_
                  have h1 := (hov.lt q hq).1
                  have h2 := HV.out q h.symm
                  have h3 := hb4.size
                  omega
              have hfbne : some w5.heap.size ≠ vp.ownBlock := fun h => by
                have h2 := HV.out _ h.symm
                have h3 := hb45.size
                omega
              have hpm : m ≤ 32 := by omega
              have HM := hide hm
              have HX := hide hxs
              clear htf hsaid hb4 hb5 hb45 hb36 hov hcp hcp2 hm hxs hform
              go_wp2_with fail
              have HVN := hide hvne
              have HFB := hide hfbne
              generalize w5.alloc (.cells #[.int .i64 lv, .slice ao m cap] 90) = w6 at *
              generalize w5.heap.size = fb at *
              have p1 := cell_of_row w6 w.heap.size 1 _ _ _ hq6
              have fb0 := cell_of_row w6 fb 0 _ _ _ hfb6
              have fb1 := cell_of_row w6 fb 1 _ _ _ hfb6
              simp only [List.getElem?_toArray, List.getElem?_cons_zero, List.getElem?_cons_succ] at p1 fb0 fb1
              have H6 := hide (And.intro hR6 (And.intro hM6 (And.intro hfb6 hov6)))
              clear hR6 hM6 hfb6 hov6 hq6 hvne hfbne
              go_loopw [10, 11] (fun t u wr => ∃ j : Nat, j ≤ m ∧ u = .int .i64 j ∧ t = .int .i64 (sizeP (xs.take j)) ∧ wr = w6)
                (fun _ u _ => m - (intOf u).toNat)
              case atStart => exact ⟨0, by omega, rfl, rfl, rfl⟩
              case round =>
                obtain ⟨j, hj, rfl, rfl, hwr⟩ := hrel
                obtain rfl := hwr.symm
                by_cases hlt : j < m
                · have hlt2 : j < xs.length := by have := HM.out; omega
                  obtain ⟨bb, off, rfl, k0, k1⟩ := own_part H6.out.2.2.2 hlt2
                  have hwi := sizeP_within xs HX.out.1 j hlt2
                  have hss := sizeP_step xs j hlt2
                  have hx2 := HX.out.2.1
                  generalize xs[j] = kx at *
                  have HSS := hide hss
                  generalize sizeP (xs.take j) = zj at *
                  clear hss
                  go_wp2
                  go_roundw
                  case rel => exact ⟨j + 1, by omega, by go_num, by rw [HSS.out], trivial⟩
                  case measure => simp [intOf]; omega
                · have hjm : j = m := by omega
                  have htk2 : xs.take j = xs := by rw [hjm, HM.out, List.take_length]
                  rw [htk2]
                  clear htk2 hjm
                  obtain ⟨z, hz⟩ : ∃ z, z = sizeP xs := ⟨_, rfl⟩
                  rw [← hz]
                  rcases hcase with ⟨rfl, htf⟩ | ⟨rfl, htf, -, -⟩
                  · have hnd := nodeOf_f htk htf
                    have hlv1 : 1 ≤ lv := (fan_facts ((takenFan_iff b (lv, xs)).1 htf).1).1
                    by_cases hsp : z = p.2
                    · have hsb : (z != p.2) = false := by rw [hsp]; simp
                      have hsn : sizeN (lv, [], xs) = p.2 := by unfold sizeN; simp only [List.length_nil]; omega
                      by_cases hl0 : 0 ≤ level
                      · by_cases hll : lv = level
                        · have hlb2 : (lv != level) = false := by rw [hll]; simp
                          have hlvn : level = -1 ∨ level = lv := .inr hll.symm
                          have hask := askN_yes (level := level) hfo hnd ⟨hsn, hlvn⟩
                          have hsp : sizeP xs = p.2 := by omega
                          clear hz hsn hll
                          have hRt := nodeOf_right hnd
                          have hn1 : 1 ≤ lv := hlv1
                          have hn20 : lv ≤ 20 := hRt.hi
                          have hgs : chS (findO objs) (k + 1) p level s = eachP (fun q _ t => chR (findO objs) k q (lv - 1) t) xs 0 ⟨s.asked ++ [p.1], s.data, s.parts, 0⟩ := by
                            by_cases h1 : lv = 1
                            · rw [chS_one HBAD.out (by rw [hask]) (by rw [hask]; exact h1), hask]
                              simp only
                              rw [show lv - 1 = 0 by omega, chR_each _ _ _ _ _ rfl]
                            · rw [chS_fan HBAD.out (by rw [hask]) (by rw [hask]; simp only; omega) (by rw [hask]; exact h1), hask]
                              simp only
                              congr 1
                              funext q _ t
                              exact (chR_ne _ _ _ _ _ (by omega)).symm
                          have hlk : (0 : Int) ≤ lv - 1 ∧ lv - 1 < k := by
                            rcases hlv with ⟨h1, h2⟩ | ⟨h1, h2⟩
                            · omega
                            · rcases hlvn with h | h <;> omega
                          have HLK := hide hlk
                          obtain ⟨s1, hs1⟩ : ∃ s1 : Wk, s1 = ⟨s.asked ++ [p.1], s.data, s.parts, 0⟩ := ⟨_, rfl⟩
                          obtain ⟨f, hf⟩ : ∃ f : Part → Int → Wk → Wk, f = fun q _ t => chR (findO objs) k q (lv - 1) t := ⟨_, rfl⟩
                          have hfg : ∀ q b t, 1 ≤ q.2 → Grows t (f q b t) (k * q.2.toNat) q.2.toNat := by subst hf; exact fun q b t h => chR_grows _ _ _ _ _ h
                          rw [show eachP (fun q _ t => chR (findO objs) k q (lv - 1) t) xs 0 ⟨s.asked ++ [p.1], s.data, s.parts, 0⟩ = eachP f xs 0 s1 from by rw [hf, hs1]] at hgs
                          have HGS := hide hgs
                          have HF := hide (And.intro hfg hf)
                          have HS1 := hide hs1
                          have HRT := hide (And.intro hRt.each hsp)
                          clear hgs hs1 hf hfg hRt hask hnd hlk hsp hlv hlvn
                          go_wp2_with fail
                          go_loopw [12] (fun u wr => ∃ j : Nat, j ≤ m ∧ u = .int .i64 j ∧ ∃ vpj, RfW B wr g vo objs vpj (eachP f (xs.take j) 0 s1) ∧ Mv B fts vp.ownBlock w6 wr ∧ Nx w6 vp.ownBlock vpj.ownBlock)
                            (fun u _ => m - (intOf u).toNat)
                          case atStart =>
                            refine ⟨0, by omega, rfl, vp, ?_, Mv.refl _ _ _ _, Nx.refl _ _⟩
                            rw [HS1.out]; exact H6.out.1
                          case round =>
                            obtain ⟨j, hj, rfl, vpj, hRr, hMr, hNr⟩ := hrel
                            have hfbr := hMr.k _ _ _ _ H6.out.2.2.1 (by decide) HFB.out
                            have e0 := cell_of_row wr fb 0 _ _ _ hfbr
                            have e1 := cell_of_row wr fb 1 _ _ _ hfbr
                            simp only [List.getElem?_toArray, List.getElem?_cons_zero, List.getElem?_cons_succ] at e0 e1
                            by_cases hlt : j < m
                            · have hlt2 : j < xs.length := by have := HM.out; omega
                              have hovr := hMr.own H6.out.2.2.2 (by decide) HVN.out
                              obtain ⟨bb, off, rfl, k0, k1⟩ := own_part hovr hlt2
                              have hwi := sizeP_within xs HRT.out.1 j hlt2
                              have hst := eachP_step f xs j hlt2 0 s1
                              have hgr := eachP_grows HF.out.1 (xs.take j) 0 s1 (fun q hq => HRT.out.1 q (List.mem_of_mem_take hq))
                              rw [HRT.out.2] at hwi
                              obtain ⟨kd2, hkd⟩ : ∃ kd2, kd2 = xs[j] := ⟨_, rfl⟩
                              rw [← hkd] at hwi hst k0 k1
                              obtain ⟨sj, hsj⟩ : ∃ sj, sj = eachP f (xs.take j) 0 s1 := ⟨_, rfl⟩
                              rw [← hsj] at hRr hst hgr
                              have hmul : k * (sizeP (xs.take j)).toNat + k * kd2.2.toNat ≤ k * p.2.toNat := by rw [← Nat.mul_add]; exact Nat.mul_le_mul_left _ (by omega)
                              have hk1 : (k + 1) * p.2.toNat = k * p.2.toNat + p.2.toNat := by rw [Nat.add_mul]; simp
                              have hsl1 : s1.asked.length = s.asked.length + 1 := by rw [HS1.out]; simp
                              have hsl3 : s1.parts.length = s.parts.length := by rw [HS1.out]
                              have hRd : RfW B wr.drew g vo objs vpj sj := hRr
                              have hrec := ih wr.drew kd2 (lv - 1) sj vpj (.inr HLK.out) (by omega) (by omega) hRd (by have := hgr.1; have := HN.out.1; omega) (by have := hgr.2.2; have := HN.out.2; omega)
                              have hff : f kd2 (0 + sizeP (xs.take j)) sj = chR (findO objs) k kd2 (lv - 1) sj := by rw [HF.out.2]
                              rw [← hff, ← hst] at hrec
                              have HNX := hide hkd
                              have HR6 := hide (And.intro hMr hNr)
                              have hwr1 : IntKind.i64.wrap (lv - 1) = lv - 1 := by rw [IntKind.wrap_i64]; omega
                              clear hst hgr hmul hk1 hsl1 hsl3 hff hRr hRd hMr hNr hovr hfbr hsj hkd hwi
                              go_wp2_with fail
                              refine wp_region_held_drew (S := fun W => W.cell? ⟨fb, 0, none⟩ = some (.int .i64 lv) ∧ W.cell? ⟨fb, 1, none⟩ = some (.slice (some ⟨bb, off, none⟩) m cap) ∧ W.cell? ⟨bb, off + j * 2, none⟩ = some (.string (strB kd2.1)) ∧ W.cell? ⟨bb, off + j * 2 + 1, none⟩ = some (.int .i64 kd2.2)) (by kernel_rfl) (⟨e0, e1, k0, k1⟩) (fun hHeld => ?_)
                              refine takeJ 0 (v := ?_) ?_ hHeld ?_
                              rotate_left
                              · rintro w ⟨_, _, _, _⟩; go_simp; try with_reducible rfl
                              refine takeJ 1 (v := ?_) ?_ hHeld ?_
                              rotate_left
                              · rintro w ⟨_, _, _, _⟩; go_simp; try with_reducible rfl
                              refine takeJ 2 (v := ?_) ?_ hHeld ?_
                              rotate_left
                              · rintro w ⟨_, _, _, _⟩; go_simp; try with_reducible rfl
                              refine takeJ 3 (v := ?_) ?_ hHeld ?_
                              rotate_left
                              · rintro w ⟨_, _, _, _⟩; go_simp; try with_reducible rfl
                              refine takeJ 4 (v := ?_) ?_ hHeld ?_
                              rotate_left
                              · rintro w ⟨_, _, _, _⟩; go_simp; try with_reducible rfl
                              refine takeJ 5 (v := ?_) ?_ hHeld ?_
                              rotate_left
                              · rintro w ⟨_, _, _, _⟩; go_simp; try with_reducible rfl
                              refine takeJ 6 (v := ?_) ?_ hHeld ?_
                              rotate_left
                              · rintro w ⟨_, _, _, _⟩; go_simp; try with_reducible rfl
                              refine takeJ 7 (v := ?_) ?_ hHeld ?_
                              rotate_left
                              · rintro w ⟨_, _, _, _⟩; go_simp; try with_reducible rfl
                              refine takeJ 8 (v := ?_) ?_ hHeld ?_
                              rotate_left
                              · rintro w ⟨_, _, _, _⟩; go_simp; try with_reducible rfl
                              refine onlyH (i := 9) rfl (by kernel_rfl) rfl (fun K hK => ?_)
                              go_simp
                              refine hrec.mono ?_
                              rintro e w8 ⟨rfl, vp8, hR8, hM8, hN8⟩
                              have hM68 : Mv B fts vp.ownBlock w6 w8 := HR6.out.1.drew.trans hM8 HR6.out.2
                              have hN68 : Nx w6 vp.ownBlock vp8.ownBlock := HR6.out.2.trans hN8 (show w6.heap.size ≤ wr.drew.heap.size from HR6.out.1.size)
                              have hfb8 := hM68.k _ _ _ _ H6.out.2.2.1 (by decide) HFB.out
                              have hov8 := hM68.own H6.out.2.2.2 (by decide) HVN.out
                              obtain ⟨bb', off', hbb, l0, l1⟩ := own_part hov8 hlt2
                              injection hbb with hbb
                              injection hbb with hb1 hb2
                              subst hb1
                              subst hb2
                              rw [← HNX.out] at l0 l1
                              have e0 := cell_of_row w8 fb 0 _ _ _ hfb8
                              have e1 := cell_of_row w8 fb 1 _ _ _ hfb8
                              simp only [List.getElem?_toArray, List.getElem?_cons_zero, List.getElem?_cons_succ] at e0 e1
                              have H8 := hide (And.intro hR8 (And.intro hM68 hN68))
                              clear hrec hR8 hM8 hN8 hM68 hN68 hfb8 hov8
                              go_simp
                              refine hK.out _ _ (⟨e0, e1, l0, l1⟩) (fun hHeld => ?_)
                              clear hK K
                              try simp only [Act.put, List.setIfInBounds_toArray, List.set_cons_zero, List.set_cons_succ]
                              refine wpAnyH_done (by kernel_rfl) ?_ _
                              clear hHeld
                              go_wp2
                              go_roundw
                              case rel => exact ⟨j + 1, by omega, by go_num, vp8, H8.out.1, H8.out.2.1, H8.out.2.2⟩
                              case measure => simp [intOf]; omega
                            · obtain rfl : j = m := by omega
                              have htk2 : xs.take j = xs := by rw [HM.out, List.take_length]
                              rw [htk2] at hRr
                              have HL := hide (And.intro hRr (And.intro hMr hNr))
                              clear hRr hMr hNr htk2 hfbr
                              go_wp2
                              first | go_end0 | refine bodyPost_ret (results_none rfl _ _ _) rfl ?_
                              rw [HCR.out, HGS.out]
                              exact ⟨rfl, vpj, HL.out.1, ((Mv.of HR.out.2.1 hB).trans H6.out.2.1.none (Nx.refl _ _)).trans HL.out.2.1 (Nx.refl _ _), by
                                rcases HL.out.2.2 with h | ⟨q, h, hq⟩
                                · exact .inl h
                                · exact .inr ⟨q, h, by have := H6.out.2.1.size; have := HR.out.2.1.size; omega⟩⟩
                        · have hlb2 : (lv != level) = true := by simpa using hll
                          have hgs := chS_bad (k := k) HBAD.out (show (askN (findO objs) p level).1 ≠ 0 by rw [askN_not (level := level) hfo hnd (fun h => by have := h.2; simp only at this; omega)]; simp)
                          rw [askN_not (level := level) hfo hnd (fun h => by have := h.2; simp only at this; omega)] at hgs
                          have HGS := hide hgs
                          clear hgs ih
                          go_wp2_with fail
                          refine (fail_any B _ g vo objs vp _ 101 H6.out.1 rfl).mono ?_
                          rintro e w9 ⟨rfl, hR9, hM9⟩
                          have HF := hide (And.intro hR9 (H6.out.2.1.trans hM9 (Nx.refl _ _)))
                          clear hR9 hM9
                          go_wp2
                          first | go_end0 | refine bodyPost_ret (results_none rfl _ _ _) rfl ?_
                          rw [HCR.out, HGS.out]
                          exact ⟨rfl, vp, HF.out.1, (Mv.of HR.out.2.1 hB).trans HF.out.2.none (Nx.refl _ _), Nx.refl _ _⟩
                      · have hlneg : level < 0 := by omega
                        have hlvn : level = -1 ∨ level = lv := by omega
                        have hask := askN_yes (level := level) hfo hnd ⟨hsn, hlvn⟩
                        have hsp : sizeP xs = p.2 := by omega
                        clear hz hsn
                        have hRt := nodeOf_right hnd
                        have hn1 : 1 ≤ lv := hlv1
                        have hn20 : lv ≤ 20 := hRt.hi
                        have hgs : chS (findO objs) (k + 1) p level s = eachP (fun q _ t => chR (findO objs) k q (lv - 1) t) xs 0 ⟨s.asked ++ [p.1], s.data, s.parts, 0⟩ := by
                          by_cases h1 : lv = 1
                          · rw [chS_one HBAD.out (by rw [hask]) (by rw [hask]; exact h1), hask]
                            simp only
                            rw [show lv - 1 = 0 by omega, chR_each _ _ _ _ _ rfl]
                          · rw [chS_fan HBAD.out (by rw [hask]) (by rw [hask]; simp only; omega) (by rw [hask]; exact h1), hask]
                            simp only
                            congr 1
                            funext q _ t
                            exact (chR_ne _ _ _ _ _ (by omega)).symm
                        have hlk : (0 : Int) ≤ lv - 1 ∧ lv - 1 < k := by
                          rcases hlv with ⟨h1, h2⟩ | ⟨h1, h2⟩
                          · omega
                          · rcases hlvn with h | h <;> omega
                        have HLK := hide hlk
                        obtain ⟨s1, hs1⟩ : ∃ s1 : Wk, s1 = ⟨s.asked ++ [p.1], s.data, s.parts, 0⟩ := ⟨_, rfl⟩
                        obtain ⟨f, hf⟩ : ∃ f : Part → Int → Wk → Wk, f = fun q _ t => chR (findO objs) k q (lv - 1) t := ⟨_, rfl⟩
                        have hfg : ∀ q b t, 1 ≤ q.2 → Grows t (f q b t) (k * q.2.toNat) q.2.toNat := by subst hf; exact fun q b t h => chR_grows _ _ _ _ _ h
                        rw [show eachP (fun q _ t => chR (findO objs) k q (lv - 1) t) xs 0 ⟨s.asked ++ [p.1], s.data, s.parts, 0⟩ = eachP f xs 0 s1 from by rw [hf, hs1]] at hgs
                        have HGS := hide hgs
                        have HF := hide (And.intro hfg hf)
                        have HS1 := hide hs1
                        have HRT := hide (And.intro hRt.each hsp)
                        clear hgs hs1 hf hfg hRt hask hnd hlk hsp hlv hlvn
                        go_wp2_with fail
                        go_loopw [12] (fun u wr => ∃ j : Nat, j ≤ m ∧ u = .int .i64 j ∧ ∃ vpj, RfW B wr g vo objs vpj (eachP f (xs.take j) 0 s1) ∧ Mv B fts vp.ownBlock w6 wr ∧ Nx w6 vp.ownBlock vpj.ownBlock)
                          (fun u _ => m - (intOf u).toNat)
                        case atStart =>
                          refine ⟨0, by omega, rfl, vp, ?_, Mv.refl _ _ _ _, Nx.refl _ _⟩
                          rw [HS1.out]; exact H6.out.1
                        case round =>
                          obtain ⟨j, hj, rfl, vpj, hRr, hMr, hNr⟩ := hrel
                          have hfbr := hMr.k _ _ _ _ H6.out.2.2.1 (by decide) HFB.out
                          have e0 := cell_of_row wr fb 0 _ _ _ hfbr
                          have e1 := cell_of_row wr fb 1 _ _ _ hfbr
                          simp only [List.getElem?_toArray, List.getElem?_cons_zero, List.getElem?_cons_succ] at e0 e1
                          by_cases hlt : j < m
                          · have hlt2 : j < xs.length := by have := HM.out; omega
                            have hovr := hMr.own H6.out.2.2.2 (by decide) HVN.out
                            obtain ⟨bb, off, rfl, k0, k1⟩ := own_part hovr hlt2
                            have hwi := sizeP_within xs HRT.out.1 j hlt2
                            have hst := eachP_step f xs j hlt2 0 s1
                            have hgr := eachP_grows HF.out.1 (xs.take j) 0 s1 (fun q hq => HRT.out.1 q (List.mem_of_mem_take hq))
                            rw [HRT.out.2] at hwi
                            obtain ⟨kd2, hkd⟩ : ∃ kd2, kd2 = xs[j] := ⟨_, rfl⟩
                            rw [← hkd] at hwi hst k0 k1
                            obtain ⟨sj, hsj⟩ : ∃ sj, sj = eachP f (xs.take j) 0 s1 := ⟨_, rfl⟩
                            rw [← hsj] at hRr hst hgr
                            have hmul : k * (sizeP (xs.take j)).toNat + k * kd2.2.toNat ≤ k * p.2.toNat := by rw [← Nat.mul_add]; exact Nat.mul_le_mul_left _ (by omega)
                            have hk1 : (k + 1) * p.2.toNat = k * p.2.toNat + p.2.toNat := by rw [Nat.add_mul]; simp
                            have hsl1 : s1.asked.length = s.asked.length + 1 := by rw [HS1.out]; simp
                            have hsl3 : s1.parts.length = s.parts.length := by rw [HS1.out]
                            have hRd : RfW B wr.drew g vo objs vpj sj := hRr
                            have hrec := ih wr.drew kd2 (lv - 1) sj vpj (.inr HLK.out) (by omega) (by omega) hRd (by have := hgr.1; have := HN.out.1; omega) (by have := hgr.2.2; have := HN.out.2; omega)
                            have hff : f kd2 (0 + sizeP (xs.take j)) sj = chR (findO objs) k kd2 (lv - 1) sj := by rw [HF.out.2]
                            rw [← hff, ← hst] at hrec
                            have HNX := hide hkd
                            have HR6 := hide (And.intro hMr hNr)
                            have hwr1 : IntKind.i64.wrap (lv - 1) = lv - 1 := by rw [IntKind.wrap_i64]; omega
                            clear hst hgr hmul hk1 hsl1 hsl3 hff hRr hRd hMr hNr hovr hfbr hsj hkd hwi
                            go_wp2_with fail
                            refine wp_region_held_drew (S := fun W => W.cell? ⟨fb, 0, none⟩ = some (.int .i64 lv) ∧ W.cell? ⟨fb, 1, none⟩ = some (.slice (some ⟨bb, off, none⟩) m cap) ∧ W.cell? ⟨bb, off + j * 2, none⟩ = some (.string (strB kd2.1)) ∧ W.cell? ⟨bb, off + j * 2 + 1, none⟩ = some (.int .i64 kd2.2)) (by kernel_rfl) (⟨e0, e1, k0, k1⟩) (fun hHeld => ?_)
                            refine takeJ 0 (v := ?_) ?_ hHeld ?_
                            rotate_left
                            · rintro w ⟨_, _, _, _⟩; go_simp; try with_reducible rfl
                            refine takeJ 1 (v := ?_) ?_ hHeld ?_
                            rotate_left
                            · rintro w ⟨_, _, _, _⟩; go_simp; try with_reducible rfl
                            refine takeJ 2 (v := ?_) ?_ hHeld ?_
                            rotate_left
                            · rintro w ⟨_, _, _, _⟩; go_simp; try with_reducible rfl
                            refine takeJ 3 (v := ?_) ?_ hHeld ?_
                            rotate_left
                            · rintro w ⟨_, _, _, _⟩; go_simp; try with_reducible rfl
                            refine takeJ 4 (v := ?_) ?_ hHeld ?_
                            rotate_left
                            · rintro w ⟨_, _, _, _⟩; go_simp; try with_reducible rfl
                            refine takeJ 5 (v := ?_) ?_ hHeld ?_
                            rotate_left
                            · rintro w ⟨_, _, _, _⟩; go_simp; try with_reducible rfl
                            refine takeJ 6 (v := ?_) ?_ hHeld ?_
                            rotate_left
                            · rintro w ⟨_, _, _, _⟩; go_simp; try with_reducible rfl
                            refine takeJ 7 (v := ?_) ?_ hHeld ?_
                            rotate_left
                            · rintro w ⟨_, _, _, _⟩; go_simp; try with_reducible rfl
                            refine takeJ 8 (v := ?_) ?_ hHeld ?_
                            rotate_left
                            · rintro w ⟨_, _, _, _⟩; go_simp; try with_reducible rfl
                            refine onlyH (i := 9) rfl (by kernel_rfl) rfl (fun K hK => ?_)
                            go_simp
                            refine hrec.mono ?_
                            rintro e w8 ⟨rfl, vp8, hR8, hM8, hN8⟩
                            have hM68 : Mv B fts vp.ownBlock w6 w8 := HR6.out.1.drew.trans hM8 HR6.out.2
                            have hN68 : Nx w6 vp.ownBlock vp8.ownBlock := HR6.out.2.trans hN8 (show w6.heap.size ≤ wr.drew.heap.size from HR6.out.1.size)
                            have hfb8 := hM68.k _ _ _ _ H6.out.2.2.1 (by decide) HFB.out
                            have hov8 := hM68.own H6.out.2.2.2 (by decide) HVN.out
                            obtain ⟨bb', off', hbb, l0, l1⟩ := own_part hov8 hlt2
                            injection hbb with hbb
                            injection hbb with hb1 hb2
                            subst hb1
                            subst hb2
                            rw [← HNX.out] at l0 l1
                            have e0 := cell_of_row w8 fb 0 _ _ _ hfb8
                            have e1 := cell_of_row w8 fb 1 _ _ _ hfb8
                            simp only [List.getElem?_toArray, List.getElem?_cons_zero, List.getElem?_cons_succ] at e0 e1
                            have H8 := hide (And.intro hR8 (And.intro hM68 hN68))
                            clear hrec hR8 hM8 hN8 hM68 hN68 hfb8 hov8
                            go_simp
                            refine hK.out _ _ (⟨e0, e1, l0, l1⟩) (fun hHeld => ?_)
                            clear hK K
                            try simp only [Act.put, List.setIfInBounds_toArray, List.set_cons_zero, List.set_cons_succ]
                            refine wpAnyH_done (by kernel_rfl) ?_ _
                            clear hHeld
                            go_wp2
                            go_roundw
                            case rel => exact ⟨j + 1, by omega, by go_num, vp8, H8.out.1, H8.out.2.1, H8.out.2.2⟩
                            case measure => simp [intOf]; omega
                          · obtain rfl : j = m := by omega
                            have htk2 : xs.take j = xs := by rw [HM.out, List.take_length]
                            rw [htk2] at hRr
                            have HL := hide (And.intro hRr (And.intro hMr hNr))
                            clear hRr hMr hNr htk2 hfbr
                            go_wp2
                            first | go_end0 | refine bodyPost_ret (results_none rfl _ _ _) rfl ?_
                            rw [HCR.out, HGS.out]
                            exact ⟨rfl, vpj, HL.out.1, ((Mv.of HR.out.2.1 hB).trans H6.out.2.1.none (Nx.refl _ _)).trans HL.out.2.1 (Nx.refl _ _), by
                              rcases HL.out.2.2 with h | ⟨q, h, hq⟩
                              · exact .inl h
                              · exact .inr ⟨q, h, by have := H6.out.2.1.size; have := HR.out.2.1.size; omega⟩⟩
                    · have hsb : (z != p.2) = true := by simpa using hsp
                      have hgs := chS_bad (k := k) HBAD.out (show (askN (findO objs) p level).1 ≠ 0 by rw [askN_not (level := level) hfo hnd (fun h => hsp (by have := h.1; unfold sizeN at this; simp only [List.length_nil] at this; omega))]; simp)
                      rw [askN_not (level := level) hfo hnd (fun h => hsp (by have := h.1; unfold sizeN at this; simp only [List.length_nil] at this; omega))] at hgs
                      have HGS := hide hgs
                      clear hgs ih
                      go_wp2_with fail
                      refine (fail_any B _ g vo objs vp _ 101 H6.out.1 rfl).mono ?_
                      rintro e w9 ⟨rfl, hR9, hM9⟩
                      have HF := hide (And.intro hR9 (H6.out.2.1.trans hM9 (Nx.refl _ _)))
                      clear hR9 hM9
                      go_wp2
                      first | go_end0 | refine bodyPost_ret (results_none rfl _ _ _) rfl ?_
                      rw [HCR.out, HGS.out]
                      exact ⟨rfl, vp, HF.out.1, (Mv.of HR.out.2.1 hB).trans HF.out.2.none (Nx.refl _ _), Nx.refl _ _⟩
                  · have hnd := nodeOf_n htk htf
                    have hgs := chS_bad (k := k) HBAD.out (show (askN (findO objs) p level).1 ≠ 0 by rw [askN_no (level := level) hfo hnd]; simp)
                    rw [askN_no (level := level) hfo hnd] at hgs
                    have HGS := hide hgs
                    clear hgs ih
                    go_wp2_with fail
                    refine (fail_any B _ g vo objs vp _ 101 H6.out.1 rfl).mono ?_
                    rintro e w9 ⟨rfl, hR9, hM9⟩
                    have HF := hide (And.intro hR9 (H6.out.2.1.trans hM9 (Nx.refl _ _)))
                    clear hR9 hM9
                    go_wp2
                    first | go_end0 | refine bodyPost_ret (results_none rfl _ _ _) rfl ?_
                    rw [HCR.out, HGS.out]
                    exact ⟨rfl, vp, HF.out.1, (Mv.of HR.out.2.1 hB).trans HF.out.2.none (Nx.refl _ _), Nx.refl _ _⟩
end Go.Proofs.YtokebnkgjchfaaaGreatDoor
