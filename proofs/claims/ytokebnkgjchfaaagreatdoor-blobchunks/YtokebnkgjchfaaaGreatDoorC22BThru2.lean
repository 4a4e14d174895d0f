/-
  Going through all fans. Conditions: the get keeps its word; sizes of a file.
-/
import Derived.Test.YtokebnkgjchfaaaGreatDoorC21BRead
namespace Go.Proofs.YtokebnkgjchfaaaGreatDoor
open Go.RowKit
theorem chS_bad {fd : Bs → Option Bs} {k : Nat} {p : Part} {level : Int} {s : Wk} (hs : s.bad = 0) (h2 : (askN fd p level).1 ≠ 0) : chS fd (k + 1) p level s = ⟨s.asked ++ [p.1], s.data, s.parts, (askN fd p level).1⟩ := by
  rw [chS, if_neg (fun h => h hs), if_pos h2]
theorem chS_chunk {fd : Bs → Option Bs} {k : Nat} {p : Part} {level : Int} {s : Wk} (hs : s.bad = 0) (h2 : (askN fd p level).1 = 0) (h3 : (askN fd p level).2.1 = 0) : chS fd (k + 1) p level s = ⟨s.asked ++ [p.1], s.data, s.parts ++ [p], 0⟩ := by
  rw [chS, if_neg (fun h => h hs), if_neg (fun h => h h2), if_pos h3]
theorem chS_one {fd : Bs → Option Bs} {k : Nat} {p : Part} {level : Int} {s : Wk} (hs : s.bad = 0) (h2 : (askN fd p level).1 = 0) (h3 : (askN fd p level).2.1 = 1) : chS fd (k + 1) p level s = ⟨s.asked ++ [p.1], s.data, s.parts ++ (askN fd p level).2.2.2, 0⟩ := by
  rw [chS, if_neg (fun h => h hs), if_neg (fun h => h h2), if_neg (by omega), if_pos h3]
theorem chS_fan {fd : Bs → Option Bs} {k : Nat} {p : Part} {level : Int} {s : Wk} (hs : s.bad = 0) (h2 : (askN fd p level).1 = 0) (h3 : ¬ (askN fd p level).2.1 = 0) (h4 : ¬ (askN fd p level).2.1 = 1) : chS fd (k + 1) p level s = eachP (fun q _ t => chS fd k q ((askN fd p level).2.1 - 1) t) (askN fd p level).2.2.2 0 ⟨s.asked ++ [p.1], s.data, s.parts, 0⟩ := by
  rw [chS, if_neg (fun h => h hs), if_neg (fun h => h h2), if_neg h3, if_neg h4]
set_option maxRecDepth 40000 in
set_option maxHeartbeats 3200000 in
theorem thru_any (g gf : Nat) (caps : Array Value) (fd : Bs → Option Bs) (B : Nat) (I : World → List Bs → Prop) (hG : GetOk gf caps fd B qts I) : ∀ (k : Nat) (level : Int), (level = -1 ∧ 21 ≤ k ∨ 1 ≤ level ∧ level < k) → ThruOk g gf caps fd B I k level := by
  intro k
  induction k with
  | zero =>
    intro level hlv
    omega
  | succ k ih =>
    intro level hlv w p s vc hid hp hp2 hbad hL hI hn1 hn2
    have hB := hG.le _ _ hI
    have hb0 : Below w.heap.size w (w.alloc (.cells #[.string (strB p.1), .int .i64 p.2] 25)) := (Below.refl _ _).alloc (Nat.le_refl _) _
    have hq0 := heap_last w (.cells #[.string (strB p.1), .int .i64 p.2] 25) _ rfl
    have hL0 := hL.below hb0
    have hI0 := hG.below hI hb0
    have hvlt : ∀ q, vc.ownBlock = some q → q < w.heap.size := fun q hq => (hL.2.2.lt q hq).2
    have hs0 : w.heap.size + 1 = (w.alloc (.cells #[.string (strB p.1), .int .i64 p.2] 25)).heap.size := by simp
    generalize hw0 : w.alloc (.cells #[.string (strB p.1), .int .i64 p.2] 25) = w0 at *
    have r0 := cell_of_row w0 g 0 _ _ _ hL0.2.1
    have q0 := cell_of_row w0 w.heap.size 0 _ _ _ hq0
    have q1 := cell_of_row w0 w.heap.size 1 _ _ _ hq0
    simp only [List.getElem?_toArray, List.getElem?_cons_zero, List.getElem?_cons_succ] at r0 q0 q1
    have hasl : s.asked.length ≤ 4294967296 := by omega
    have hask := ask_any w0.drew gf caps fd B qts I hG p level s.asked (hG.mv hI0 (Mv.refl B qts none w0).drew) hasl
    have hask' := ask_any (w0.alloc (.cells #[.int .i64 0, .slice none 0 0, .string ⟨#[]⟩] 96)).drew gf caps fd B qts I hG p level s.asked (hG.below hI0 (((Below.refl _ _).alloc (Nat.le_refl _) _).drew)) hasl
    have hz1 := (heap_past w0 (.cells #[.int .i64 0, .slice none 0 0, .string ⟨#[]⟩] 96) _ (lt_of_heap hL0.2.1)).trans hL0.2.1
    have hz2 := (heap_past w0 (.cells #[.int .i64 0, .slice none 0 0, .string ⟨#[]⟩] 96) _ (lt_of_heap hq0)).trans hq0
    have hz3 := heap_last w0 (.cells #[.int .i64 0, .slice none 0 0, .string ⟨#[]⟩] 96) _ rfl
    have HZ := hide (And.intro hz1 (And.intro hz2 hz3))
    have z0 := cell_of_row _ g 0 _ _ _ hz1
    have z1 := cell_of_row _ w.heap.size 0 _ _ _ hz2
    have z2 := cell_of_row _ w.heap.size 1 _ _ _ hz2
    simp only [List.getElem?_toArray, List.getElem?_cons_zero, List.getElem?_cons_succ] at z0 z1 z2
    obtain ⟨er, her⟩ : ∃ er, er = (askN fd p level).1 := ⟨_, rfl⟩
    obtain ⟨n, hnn⟩ : ∃ n, n = (askN fd p level).2 := ⟨_, rfl⟩
    unfold askSaid at hask hask'
    rw [← her, ← hnn] at hask hask'
    have HE := hide (And.intro her hnn)
    have H0 := hide (And.intro hb0 (And.intro hq0 (And.intro hL0 hI0)))
    have HBAD := hide hbad
    have HN := hide (And.intro hn1 hn2)
    have HV := hide hvlt
    have HS0 := hide hs0
    have hgB := hL0.1
    clear her hnn hz1 hz2 hz3 hb0 hq0 hL0 hI0 hL hI hbad hn1 hn2 hvlt hs0
    go_enter Tryz.func31, Tryz.ntmps31
    go_wp2_with fail
    try rw [hw0]
    refine wp_region_held_drew (S := fun W => W.cell? ⟨g, 0, none⟩ = some (.func (.func gf) #[] caps) ∧ W.cell? ⟨w.heap.size, 0, none⟩ = some (.string (strB p.1)) ∧ W.cell? ⟨w.heap.size, 1, none⟩ = some (.int .i64 p.2)) (by kernel_rfl) (⟨r0, q0, q1⟩) (fun hHeld => ?_)
    refine takeJ 0 (v := ?_) ?_ hHeld ?_
    rotate_left
    · rintro w ⟨_, _, _⟩; go_simp; try with_reducible rfl
    refine takeJ 1 (v := ?_) ?_ hHeld ?_
    rotate_left
    · rintro w ⟨_, _, _⟩; go_simp; try with_reducible rfl
    refine takeJ 2 (v := ?_) ?_ hHeld ?_
    rotate_left
    · rintro w ⟨_, _, _⟩; go_simp; try with_reducible rfl
    refine takeJ 3 (v := ?_) ?_ hHeld ?_
    rotate_left
    · rintro w ⟨_, _, _⟩; go_simp; try with_reducible rfl
    refine takeJ 4 (v := ?_) ?_ hHeld ?_
    rotate_left
    · rintro w ⟨_, _, _⟩; go_simp; try with_reducible rfl
    refine takeJ 5 (v := ?_) ?_ hHeld ?_
    rotate_left
    · rintro w ⟨_, _, _⟩; go_simp; try with_reducible rfl
    refine twoH (i := 6) (j := 10) rfl rfl (by kernel_rfl) rfl rfl (fun K hK => ?_) (fun K hK => ?_)
    · go_simp
      refine hask.mono ?_
      rintro e w3 ⟨⟨v, rfl, hov⟩, hI3, hM3⟩
      have hM3' : Mv B ats none w0 w3 := ((Mv.refl B ats none w0).drew).trans hM3 (Nx.refl _ _)
      have hL3 := H0.out.2.2.1.keep hM3' (by decide) (by decide)
      have hq3 := hM3'.k _ _ _ _ H0.out.2.1 (by decide) (by simp)
      have hs3 : w0.heap.size ≤ w3.heap.size := hM3'.size
      obtain ⟨va, vm, vn, rfl⟩ := row_form hov
      clear hask hask'
      have a0 := cell_of_row w3 g 0 _ _ _ hL3.2.1
      have a1 := cell_of_row w3 w.heap.size 0 _ _ _ hq3
      have a2 := cell_of_row w3 w.heap.size 1 _ _ _ hq3
      simp only [List.getElem?_toArray, List.getElem?_cons_zero, List.getElem?_cons_succ] at a0 a1 a2
      go_simp
      refine hK.out _ _ (⟨a0, a1, a2⟩) (fun hHeld => ?_)
      clear hK K
      try simp only [Act.put, List.setIfInBounds_toArray, List.set_cons_zero, List.set_cons_succ]
      refine takeJ 7 (v := ?_) ?_ hHeld ?_
      rotate_left
      · rintro w ⟨_, _, _⟩; go_simp; try with_reducible rfl
      refine takeJ 8 (v := ?_) ?_ hHeld ?_
      rotate_left
      · rintro w ⟨_, _, _⟩; go_simp; try with_reducible rfl
      refine takeJ 9 (v := ?_) ?_ hHeld ?_
      rotate_left
      · rintro w ⟨_, _, _⟩; go_simp; try with_reducible rfl
      have hh4 := (heap_past w3 (.cells #[.int .i64 0, .slice none 0 0, .string ⟨#[]⟩] 96) _ (lt_of_heap hL3.2.1)).trans hL3.2.1
      have hq4 := (heap_past w3 (.cells #[.int .i64 0, .slice none 0 0, .string ⟨#[]⟩] 96) _ (lt_of_heap hq3)).trans hq3
      have b0 := cell_of_row _ g 0 _ _ _ hh4
      have b1 := cell_of_row _ w.heap.size 0 _ _ _ hq4
      have b2 := cell_of_row _ w.heap.size 1 _ _ _ hq4
      simp only [List.getElem?_toArray, List.getElem?_cons_zero, List.getElem?_cons_succ] at b0 b1 b2
      have hh5 := (heap_past w3 (.cells #[.int .i64 n.1, .slice va vm vn, .string (strB n.2.1)] 96) _ (lt_of_heap hL3.2.1)).trans hL3.2.1
      have hq5 := (heap_past w3 (.cells #[.int .i64 n.1, .slice va vm vn, .string (strB n.2.1)] 96) _ (lt_of_heap hq3)).trans hq3
      have c0 := cell_of_row _ g 0 _ _ _ hh5
      have c1 := cell_of_row _ w.heap.size 0 _ _ _ hq5
      have c2 := cell_of_row _ w.heap.size 1 _ _ _ hq5
      simp only [List.getElem?_toArray, List.getElem?_cons_zero, List.getElem?_cons_succ] at c0 c1 c2
      refine onlyH (i := 10) rfl (by kernel_rfl) rfl (fun K hK => ?_)
      go_simp
      refine hK.out _ _ (⟨b0, b1, b2⟩) (fun hHeld => ?_)
      clear hK K
      try simp only [Act.put, List.setIfInBounds_toArray, List.set_cons_zero, List.set_cons_succ]
      refine onlyH (i := 11) rfl (by kernel_rfl) rfl (fun K hK => ?_)
      go_simp
      refine hK.out _ _ (⟨c0, c1, c2⟩) (fun hHeld => ?_)
      clear hK K
      try simp only [Act.put, List.setIfInBounds_toArray, List.set_cons_zero, List.set_cons_succ]
      refine takeJ 12 (v := ?_) ?_ hHeld ?_
      rotate_left
      · rintro w ⟨_, _, _⟩; go_simp; try with_reducible rfl
      refine wpAnyH_done (by kernel_rfl) ?_ _
      clear hHeld a0 a1 a2 b0 b1 b2 c0 c1 c2 hh4 hq4 r0 q0 q1 z0 z1 z2 hh5
      have hB3 : Below w3.heap.size w3 (w3.alloc (.cells #[.int .i64 n.1, .slice va vm vn, .string (strB n.2.1)] 96)) := (Below.refl _ _).alloc (Nat.le_refl _) _
      have hy5 := heap_last w3 (.cells #[.int .i64 n.1, .slice va vm vn, .string (strB n.2.1)] 96) _ rfl
      have hL5 := hL3.below hB3
      have hI5 := hG.below hI3 hB3
      have hM5 : Mv B hts none w (w3.alloc (.cells #[.int .i64 n.1, .slice va vm vn, .string (strB n.2.1)] 96)) := (((Mv.of H0.out.1 hB).trans hM3' (Nx.refl _ _)).types (by decide)).alloc (by have := HS0.out; omega) _
      have hov5 := (own_down hov (show w0.heap.size ≤ w0.drew.heap.size from Nat.le_refl _)).alloc (.cells #[.int .i64 n.1, .slice va vm vn, .string (strB n.2.1)] 96)
      have hsz5 : w0.heap.size ≤ (w3.alloc (.cells #[.int .i64 n.1, .slice va vm vn, .string (strB n.2.1)] 96)).heap.size := by simp; omega
      have hnb5 : w0.heap.size ≤ w3.heap.size := hs3
      generalize w3.alloc (.cells #[.int .i64 n.1, .slice va vm vn, .string (strB n.2.1)] 96) = w5 at *
      generalize w3.heap.size = nb at *
      have H5 := hide (And.intro hL5 (And.intro hI5 (And.intro hM5 (And.intro hov5 (And.intro hy5 hq5)))))
      clear hL5 hI5 hM5 hov5 hL3 hI3 hM3 hM3' hov hB3 hq3 hs3
      by_cases he0 : er = 0
      · subst he0
        have hA := askN_ok HE.out.1.symm
        rw [← HE.out.2] at hA
        obtain ⟨hrt, hsn, hlvn⟩ := hA
        have d0 := cell_of_row w5 nb 0 _ _ _ hy5
        have d1 := cell_of_row w5 nb 1 _ _ _ hy5
        simp only [List.getElem?_toArray, List.getElem?_cons_zero, List.getElem?_cons_succ] at d0 d1
        by_cases hn0 : n.1 = 0
        · have hlm : level = -1 := by omega
          have hgs := chS_chunk (k := k) HBAD.out HE.out.1.symm (HE.out.2 ▸ hn0)
          have HGS := hide hgs
          have hbn : (n.1 == 0) = true := by rw [hn0]; rfl
          have hcl := copyStr_any w5.drew p.1 (hid hlm)
          have cx : ∀ W : World, W.heap[w.heap.size]? = some (.cells #[.string (strB p.1), .int .i64 p.2] 25) → W.cell? ⟨w.heap.size, 0, none⟩ = some (.string (strB p.1)) ∧ W.cell? ⟨w.heap.size, 1, none⟩ = some (.int .i64 p.2) := fun W hW => by
            have e0 := cell_of_row W w.heap.size 0 _ _ _ hW
            have e1 := cell_of_row W w.heap.size 1 _ _ _ hW
            simp only [List.getElem?_toArray, List.getElem?_cons_zero, List.getElem?_cons_succ] at e0 e1
            exact ⟨e0, e1⟩
          have HC5 := hide (cx _ hq5)
          have g5 := cell_of_row w5 g 1 _ _ _ H5.out.1.2.1
          simp only [List.getElem?_toArray, List.getElem?_cons_zero, List.getElem?_cons_succ] at g5
          clear hgs ih hrt hsn hlvn hlv hlm d1
          go_wp2_with fail
          refine wp_region_held_drew (S := fun W => W.cell? ⟨w.heap.size, 0, none⟩ = some (.string (strB p.1)) ∧ W.cell? ⟨w.heap.size, 1, none⟩ = some (.int .i64 p.2)) (by kernel_rfl) (HC5.out) (fun hHeld => ?_)
          refine takeJ 0 (v := ?_) ?_ hHeld ?_
          rotate_left
          · rintro w ⟨_, _⟩; go_simp; try with_reducible rfl
          refine takeJ 1 (v := ?_) ?_ hHeld ?_
          rotate_left
          · rintro w ⟨_, _⟩; go_simp; try with_reducible rfl
          refine takeJ 2 (v := ?_) ?_ hHeld ?_
          rotate_left
          · rintro w ⟨_, _⟩; go_simp; try with_reducible rfl
          refine takeJ 3 (v := ?_) ?_ hHeld ?_
          rotate_left
          · rintro w ⟨_, _⟩; go_simp; try with_reducible rfl
          refine takeJ 5 (v := ?_) ?_ hHeld ?_
          rotate_left
          · rintro w ⟨_, _⟩; go_simp; try with_reducible rfl
          refine takeJ 6 (v := ?_) ?_ hHeld ?_
          rotate_left
          · rintro w ⟨_, _⟩; go_simp; try with_reducible rfl
          refine takeJ 8 (v := ?_) ?_ hHeld ?_
          rotate_left
          · rintro w ⟨_, _⟩; go_simp; try with_reducible rfl
          refine takeJ 9 (v := ?_) ?_ hHeld ?_
          rotate_left
          · rintro w ⟨_, _⟩; go_simp; try with_reducible rfl
          refine twoH (i := 4) (j := 7) rfl rfl (by kernel_rfl) rfl rfl (fun K hK => ?_) (fun K hK => ?_)
          · go_simp
            refine hK.out _ _ (HC5.out) (fun hHeld => ?_)
            clear hK K
            try simp only [Act.put, List.setIfInBounds_toArray, List.set_cons_zero, List.set_cons_succ]
            refine onlyH (i := 7) rfl (by kernel_rfl) rfl (fun K hK => ?_)
            go_simp
            refine hcl.mono ?_
            rintro e w6 ⟨rfl, hb6⟩
            have hb56 : Below w5.heap.size w5 w6 := ((Below.refl _ _).drew).trans hb6
            have hL6 := H5.out.1.below hb56
            have hq6 := (hb56.block _ (lt_of_heap hq5)).trans hq5
            have hI6 := hG.below H5.out.2.1 hb56
            have hM6 := H5.out.2.2.1.more hb56 (hG.le _ _ H5.out.2.1)
            have hB6 := hG.le _ _ hI6
            obtain ⟨vx, w7, hrun7, hrow7, hgr7, hloc7⟩ := app_part w6 B vc s.parts p hL6.2.2 hB6 (by have := HN.out.2; omega)
            have hbA : Below w6.heap.size w6 (w6.alloc (.cells #[.string (strB p.1), .int .i64 p.2] 25)) := (Below.refl _ _).alloc (Nat.le_refl _) _
            have hLA := hL6.below hbA
            have hqA := (hbA.block _ (lt_of_heap hq6)).trans hq6
            have hh7 := grow_keep hLA.2.2 hgr7 hLA.2.1 (by decide)
            have hq7 := (hgr7.block w.heap.size (lt_of_heap hqA) (fun h => by have := HV.out _ h.symm; omega)).trans hqA
            have hm7 : Mv B hts vc.ownBlock w w7 := (hM6.none.alloc hB6 _).grownRow hLA.2.2 hgr7 (Nx.refl _ _) (by simp; omega)
            have hm8 := hm7.set (j := 1) hh7 (by decide) hgB vx
            have hk8 : Mv B qts vc.ownBlock w6 (w7.setCell ⟨g, 1, none⟩ vx) := (((Mv.refl B qts vc.ownBlock w6).alloc hB6 _).grownRow hLA.2.2 hgr7 (Nx.refl _ _) (by simp; omega)).set (j := 1) hh7 (by decide) hgB vx
            have hI8 := hG.keep _ _ _ _ hI6 hk8 (fun q hq => Lib.ownsRow_kind hL6.2.2 q hq)
            have hq8 := (heap_setOther (j := 1) (u := vx) (ne_type hq7 hh7 (by decide))).trans hq7
            have hh8 : (w7.setCell ⟨g, 1, none⟩ vx).heap[g]? = some (.cells #[.func (.func gf) #[] caps, vx] 71) := by rw [heap_setCell _ _ _ _ _ _ _ hh7]; simp
            have hL8 : LiW B (w7.setCell ⟨g, 1, none⟩ vx) g (.func (.func gf) #[] caps) vx ⟨s.asked ++ [p.1], s.data, s.parts ++ [p], 0⟩ := ⟨hgB, hh8, own_setCell hrow7 hh7 (by decide) _⟩
            have hN8 : Nx w vc.ownBlock vx.ownBlock := by
              rcases hloc7 with h | h
              · exact .inl h
              · exact .inr ⟨_, h, by have := hM6.size; omega⟩
            have FIN := hide (And.intro hL8 (And.intro hI8 (And.intro hm8 hN8)))
            have HRUN := hide hrun7
            have HC6 := hide (cx _ hq6)
            have HCA := hide (cx _ hqA)
            have HC7 := hide (cx _ hq7)
            have HC8 := hide (cx _ hq8)
            have g6 := cell_of_row w6 g 1 _ _ _ hL6.2.1
            have gA := cell_of_row _ g 1 _ _ _ hLA.2.1
            have g7 := cell_of_row w7 g 1 _ _ _ hh7
            simp only [List.getElem?_toArray, List.getElem?_cons_zero, List.getElem?_cons_succ] at g6 gA g7
            have f7 := frozen0 (j := 1) hh7
            obtain ⟨vxA, vxM, vxC, rfl⟩ := row_form hrow7
            clear hb6 hb56 hL6 hq6 hI6 hM6 hB6 hrun7 hrow7 hgr7 hloc7 hbA hLA hqA hh7 hq7 hm7 hm8 hk8 hI8 hq8 hh8 hL8 hN8
            go_simp
            refine hK.out _ _ (HC6.out) (fun hHeld => ?_)
            clear hK K
            try simp only [Act.put, List.setIfInBounds_toArray, List.set_cons_zero, List.set_cons_succ]
            refine takeJ 10 (v := ?_) ?_ hHeld ?_
            rotate_left
            · rintro w ⟨_, _⟩; go_simp; try with_reducible rfl
            refine onlyH (i := 11) rfl (by kernel_rfl) rfl (fun K hK => ?_)
            go_simp
            refine hK.out _ _ (HCA.out) (fun hHeld => ?_)
            clear hK K
            try simp only [Act.put, List.setIfInBounds_toArray, List.set_cons_zero, List.set_cons_succ]
            refine onlyH (i := 12) rfl (by kernel_rfl) rfl (fun K hK => ?_)
            refine wp_append_run (.tmp 40) (.tmp 47) 38 rfl rfl rfl HRUN.out ?_
            refine hK.out _ _ (HC7.out) (fun hHeld => ?_)
            clear hK K
            try simp only [Act.put, List.setIfInBounds_toArray, List.set_cons_zero, List.set_cons_succ]
            refine takeJ 13 (v := ?_) ?_ hHeld ?_
            rotate_left
            · rintro w ⟨_, _⟩; go_simp; try with_reducible rfl
            refine takeJ 14 (v := ?_) ?_ hHeld ?_
            rotate_left
            · rintro w ⟨_, _⟩; go_simp; try with_reducible rfl
            refine onlyH (i := 15) rfl (by kernel_rfl) rfl (fun K hK => ?_)
            go_simp
            refine hK.out _ _ (HC8.out) (fun hHeld => ?_)
            clear hK K
            try simp only [Act.put, List.setIfInBounds_toArray, List.set_cons_zero, List.set_cons_succ]
            refine wpAnyH_done (by kernel_rfl) ?_ _
            clear hHeld
            go_wp2
            go_ret
            rw [HGS.out]
            exact ⟨rfl, _, FIN.out.1, FIN.out.2.1, FIN.out.2.2.1, FIN.out.2.2.2⟩
          · go_simp
            refine hcl.mono ?_
            rintro e w6 ⟨rfl, hb6⟩
            have hb56 : Below w5.heap.size w5 w6 := ((Below.refl _ _).drew).trans hb6
            have hL6 := H5.out.1.below hb56
            have hq6 := (hb56.block _ (lt_of_heap hq5)).trans hq5
            have hI6 := hG.below H5.out.2.1 hb56
            have hM6 := H5.out.2.2.1.more hb56 (hG.le _ _ H5.out.2.1)
            have hB6 := hG.le _ _ hI6
            obtain ⟨vx, w7, hrun7, hrow7, hgr7, hloc7⟩ := app_part w6 B vc s.parts p hL6.2.2 hB6 (by have := HN.out.2; omega)
            have hbA : Below w6.heap.size w6 (w6.alloc (.cells #[.string (strB p.1), .int .i64 p.2] 25)) := (Below.refl _ _).alloc (Nat.le_refl _) _
            have hLA := hL6.below hbA
            have hqA := (hbA.block _ (lt_of_heap hq6)).trans hq6
            have hh7 := grow_keep hLA.2.2 hgr7 hLA.2.1 (by decide)
            have hq7 := (hgr7.block w.heap.size (lt_of_heap hqA) (fun h => by have := HV.out _ h.symm; omega)).trans hqA
            have hm7 : Mv B hts vc.ownBlock w w7 := (hM6.none.alloc hB6 _).grownRow hLA.2.2 hgr7 (Nx.refl _ _) (by simp; omega)
            have hm8 := hm7.set (j := 1) hh7 (by decide) hgB vx
            have hk8 : Mv B qts vc.ownBlock w6 (w7.setCell ⟨g, 1, none⟩ vx) := (((Mv.refl B qts vc.ownBlock w6).alloc hB6 _).grownRow hLA.2.2 hgr7 (Nx.refl _ _) (by simp; omega)).set (j := 1) hh7 (by decide) hgB vx
            have hI8 := hG.keep _ _ _ _ hI6 hk8 (fun q hq => Lib.ownsRow_kind hL6.2.2 q hq)
            have hq8 := (heap_setOther (j := 1) (u := vx) (ne_type hq7 hh7 (by decide))).trans hq7
            have hh8 : (w7.setCell ⟨g, 1, none⟩ vx).heap[g]? = some (.cells #[.func (.func gf) #[] caps, vx] 71) := by rw [heap_setCell _ _ _ _ _ _ _ hh7]; simp
            have hL8 : LiW B (w7.setCell ⟨g, 1, none⟩ vx) g (.func (.func gf) #[] caps) vx ⟨s.asked ++ [p.1], s.data, s.parts ++ [p], 0⟩ := ⟨hgB, hh8, own_setCell hrow7 hh7 (by decide) _⟩
            have hN8 : Nx w vc.ownBlock vx.ownBlock := by
              rcases hloc7 with h | h
              · exact .inl h
              · exact .inr ⟨_, h, by have := hM6.size; omega⟩
            have FIN := hide (And.intro hL8 (And.intro hI8 (And.intro hm8 hN8)))
            have HRUN := hide hrun7
            have HC6 := hide (cx _ hq6)
            have HCA := hide (cx _ hqA)
            have HC7 := hide (cx _ hq7)
            have HC8 := hide (cx _ hq8)
            have g6 := cell_of_row w6 g 1 _ _ _ hL6.2.1
            have gA := cell_of_row _ g 1 _ _ _ hLA.2.1
            have g7 := cell_of_row w7 g 1 _ _ _ hh7
            simp only [List.getElem?_toArray, List.getElem?_cons_zero, List.getElem?_cons_succ] at g6 gA g7
            have f7 := frozen0 (j := 1) hh7
            obtain ⟨vxA, vxM, vxC, rfl⟩ := row_form hrow7
            clear hb6 hb56 hL6 hq6 hI6 hM6 hB6 hrun7 hrow7 hgr7 hloc7 hbA hLA hqA hh7 hq7 hm7 hm8 hk8 hI8 hq8 hh8 hL8 hN8
            go_simp
            refine hK.out _ _ (HC6.out) (fun hHeld => ?_)
            clear hK K
            try simp only [Act.put, List.setIfInBounds_toArray, List.set_cons_zero, List.set_cons_succ]
            refine takeJ 10 (v := ?_) ?_ hHeld ?_
            rotate_left
            · rintro w ⟨_, _⟩; go_simp; try with_reducible rfl
            refine twoH (i := 4) (j := 11) rfl rfl (by kernel_rfl) rfl rfl (fun K hK => ?_) (fun K hK => ?_)
            · go_simp
              refine hK.out _ _ (HC6.out) (fun hHeld => ?_)
              clear hK K
              try simp only [Act.put, List.setIfInBounds_toArray, List.set_cons_zero, List.set_cons_succ]
              refine onlyH (i := 11) rfl (by kernel_rfl) rfl (fun K hK => ?_)
              go_simp
              refine hK.out _ _ (HCA.out) (fun hHeld => ?_)
              clear hK K
              try simp only [Act.put, List.setIfInBounds_toArray, List.set_cons_zero, List.set_cons_succ]
              refine onlyH (i := 12) rfl (by kernel_rfl) rfl (fun K hK => ?_)
              refine wp_append_run (.tmp 40) (.tmp 47) 38 rfl rfl rfl HRUN.out ?_
              refine hK.out _ _ (HC7.out) (fun hHeld => ?_)
              clear hK K
              try simp only [Act.put, List.setIfInBounds_toArray, List.set_cons_zero, List.set_cons_succ]
              refine takeJ 13 (v := ?_) ?_ hHeld ?_
              rotate_left
              · rintro w ⟨_, _⟩; go_simp; try with_reducible rfl
              refine takeJ 14 (v := ?_) ?_ hHeld ?_
              rotate_left
              · rintro w ⟨_, _⟩; go_simp; try with_reducible rfl
              refine onlyH (i := 15) rfl (by kernel_rfl) rfl (fun K hK => ?_)
              go_simp
              refine hK.out _ _ (HC8.out) (fun hHeld => ?_)
              clear hK K
              try simp only [Act.put, List.setIfInBounds_toArray, List.set_cons_zero, List.set_cons_succ]
              refine wpAnyH_done (by kernel_rfl) ?_ _
              clear hHeld
              go_wp2
              go_ret
              rw [HGS.out]
              exact ⟨rfl, _, FIN.out.1, FIN.out.2.1, FIN.out.2.2.1, FIN.out.2.2.2⟩
            · go_simp
              refine hK.out _ _ (HCA.out) (fun hHeld => ?_)
              clear hK K
              try simp only [Act.put, List.setIfInBounds_toArray, List.set_cons_zero, List.set_cons_succ]
              refine onlyH (i := 4) rfl (by kernel_rfl) rfl (fun K hK => ?_)
              go_simp
              refine hK.out _ _ (HCA.out) (fun hHeld => ?_)
              clear hK K
              try simp only [Act.put, List.setIfInBounds_toArray, List.set_cons_zero, List.set_cons_succ]
              refine onlyH (i := 12) rfl (by kernel_rfl) rfl (fun K hK => ?_)
              refine wp_append_run (.tmp 40) (.tmp 47) 38 rfl rfl rfl HRUN.out ?_
              refine hK.out _ _ (HC7.out) (fun hHeld => ?_)
              clear hK K
              try simp only [Act.put, List.setIfInBounds_toArray, List.set_cons_zero, List.set_cons_succ]
              refine takeJ 13 (v := ?_) ?_ hHeld ?_
              rotate_left
              · rintro w ⟨_, _⟩; go_simp; try with_reducible rfl
              refine takeJ 14 (v := ?_) ?_ hHeld ?_
              rotate_left
              · rintro w ⟨_, _⟩; go_simp; try with_reducible rfl
              refine onlyH (i := 15) rfl (by kernel_rfl) rfl (fun K hK => ?_)
              go_simp
              refine hK.out _ _ (HC8.out) (fun hHeld => ?_)
              clear hK K
              try simp only [Act.put, List.setIfInBounds_toArray, List.set_cons_zero, List.set_cons_succ]
              refine wpAnyH_done (by kernel_rfl) ?_ _
              clear hHeld
              go_wp2
              go_ret
              rw [HGS.out]
              exact ⟨rfl, _, FIN.out.1, FIN.out.2.1, FIN.out.2.2.1, FIN.out.2.2.2⟩
        · have hn1 : 1 ≤ n.1 := by have := hrt.lo; omega
          have hn20 := hrt.hi
          have hbn : (n.1 == 0) = false := by rw [beq_eq_false_iff_ne]; exact hn0
          by_cases hn2 : n.1 = 1
          · have hgs := chS_one (k := k) HBAD.out HE.out.1.symm (HE.out.2 ▸ hn2)
            rw [← HE.out.2] at hgs
            have HGS := hide hgs
            have hbn2 : (n.1 == 1) = true := by rw [hn2]; rfl
            have hsp : sizeP n.2.2 = p.2 := by
              have hdn := hrt.none hn1
              unfold sizeN at hsn
              rw [hdn] at hsn
              simp only [List.length_nil] at hsn
              omega
            have hmany := sizeP_many _ hrt.each
            have hB5 := hG.le _ _ H5.out.2.1
            obtain ⟨vx, w7, hrun7, hrow7, hgr7, hloc7⟩ := app_parts w5.drew B w0.heap.size vc (.slice va vm vn) s.parts n.2.2 H5.out.1.2.2 H5.out.2.2.2.1 (hrt.some hn1) hB5 (by have := HN.out.2; omega)
            have hL5 := H5.out.1
            have hh7 := grow_keep (w := w5.drew) hL5.2.2 hgr7 hL5.2.1 (by decide)
            have hy7 := grow_keep (w := w5.drew) hL5.2.2 hgr7 hy5 (by decide)
            have hm7 : Mv B hts vc.ownBlock w w7 := H5.out.2.2.1.none.drew.grownRow (w1 := w5.drew) hL5.2.2 hgr7 (Nx.refl _ _) hB5
            have hm8 := hm7.set (j := 1) hh7 (by decide) hgB vx
            have hk8 : Mv B qts vc.ownBlock w5 (w7.setCell ⟨g, 1, none⟩ vx) := ((Mv.refl B qts vc.ownBlock w5).drew.grownRow (w1 := w5.drew) hL5.2.2 hgr7 (Nx.refl _ _) hB5).set (j := 1) hh7 (by decide) hgB vx
            have hI8 := hG.keep _ _ _ _ H5.out.2.1 hk8 (fun q hq => Lib.ownsRow_kind hL5.2.2 q hq)
            have hy8 := (heap_setOther (j := 1) (u := vx) (ne_type hy7 hh7 (by decide))).trans hy7
            have hh8 : (w7.setCell ⟨g, 1, none⟩ vx).heap[g]? = some (.cells #[.func (.func gf) #[] caps, vx] 71) := by rw [heap_setCell _ _ _ _ _ _ _ hh7]; simp
            have hL8 : LiW B (w7.setCell ⟨g, 1, none⟩ vx) g (.func (.func gf) #[] caps) vx ⟨s.asked ++ [p.1], s.data, s.parts ++ n.2.2, 0⟩ := ⟨hgB, hh8, own_setCell hrow7 hh7 (by decide) _⟩
            have hN8 : Nx w vc.ownBlock vx.ownBlock := by
              rcases hloc7 with h | h
              · exact .inl h
              · exact .inr ⟨_, h, by have := H5.out.2.2.1.size; exact this⟩
            have FIN := hide (And.intro hL8 (And.intro hI8 (And.intro hm8 hN8)))
            have HRUN := hide hrun7
            have g5 := cell_of_row w5 g 1 _ _ _ hL5.2.1
            have g7 := cell_of_row w7 g 1 _ _ _ hh7
            have y7 := cell_of_row w7 nb 1 _ _ _ hy7
            have y8 := cell_of_row _ nb 1 _ _ _ hy8
            simp only [List.getElem?_toArray, List.getElem?_cons_zero, List.getElem?_cons_succ] at g5 g7 y7 y8
            have f7 := frozen0 (j := 1) hh7
            obtain ⟨vxA, vxM, vxC, rfl⟩ := row_form hrow7
            clear hgs ih hrt hsn hlvn hlv hsp hmany hB5 hrun7 hrow7 hgr7 hloc7 hL5 hh7 hy7 hm7 hm8 hk8 hI8 hy8 hh8 hL8 hN8
            go_wp2_with fail
            refine wp_region_held_drew (S := fun W => W.cell? ⟨nb, 1, none⟩ = some (.slice va vm vn)) (by kernel_rfl) (d1) (fun hHeld => ?_)
            refine takeJ 0 (v := ?_) ?_ hHeld ?_
            rotate_left
            · intro w hS; (try dsimp only at hS); go_simp; try with_reducible rfl
            refine takeJ 1 (v := ?_) ?_ hHeld ?_
            rotate_left
            · intro w hS; (try dsimp only at hS); go_simp; try with_reducible rfl
            refine takeJ 2 (v := ?_) ?_ hHeld ?_
            rotate_left
            · intro w hS; (try dsimp only at hS); go_simp; try with_reducible rfl
            refine takeJ 3 (v := ?_) ?_ hHeld ?_
            rotate_left
            · intro w hS; (try dsimp only at hS); go_simp; try with_reducible rfl
            refine takeJ 5 (v := ?_) ?_ hHeld ?_
            rotate_left
            · intro w hS; (try dsimp only at hS); go_simp; try with_reducible rfl
            refine takeJ 6 (v := ?_) ?_ hHeld ?_
            rotate_left
            · intro w hS; (try dsimp only at hS); go_simp; try with_reducible rfl
            refine takeJ 7 (v := ?_) ?_ hHeld ?_
            rotate_left
            · intro w hS; (try dsimp only at hS); go_simp; try with_reducible rfl
            refine onlyH (i := 4) rfl (by kernel_rfl) rfl (fun K hK => ?_)
            go_simp
            refine hK.out _ _ (d1) (fun hHeld => ?_)
            clear hK K
            try simp only [Act.put, List.setIfInBounds_toArray, List.set_cons_zero, List.set_cons_succ]
            refine onlyH (i := 8) rfl (by kernel_rfl) rfl (fun K hK => ?_)
            refine wp_append_run (.tmp 57) (.tmp 60) 38 rfl rfl rfl HRUN.out ?_
            refine hK.out _ _ (y7) (fun hHeld => ?_)
            clear hK K
            try simp only [Act.put, List.setIfInBounds_toArray, List.set_cons_zero, List.set_cons_succ]
            refine takeJ 9 (v := ?_) ?_ hHeld ?_
            rotate_left
            · intro w hS; (try dsimp only at hS); go_simp; try with_reducible rfl
            refine takeJ 10 (v := ?_) ?_ hHeld ?_
            rotate_left
            · intro w hS; (try dsimp only at hS); go_simp; try with_reducible rfl
            refine onlyH (i := 11) rfl (by kernel_rfl) rfl (fun K hK => ?_)
            go_simp
            refine hK.out _ _ (y8) (fun hHeld => ?_)
            clear hK K
            try simp only [Act.put, List.setIfInBounds_toArray, List.set_cons_zero, List.set_cons_succ]
            refine wpAnyH_done (by kernel_rfl) ?_ _
            clear hHeld
            go_wp2
            go_ret
            rw [HGS.out]
            exact ⟨rfl, _, FIN.out.1, FIN.out.2.1, FIN.out.2.2.1, FIN.out.2.2.2⟩
          · have hbn2 : (n.1 == 1) = false := by rw [beq_eq_false_iff_ne]; exact hn2
            have hgs := chS_fan (k := k) HBAD.out HE.out.1.symm (fun h => hn0 (HE.out.2 ▸ h)) (fun h => hn2 (HE.out.2 ▸ h))
            rw [← HE.out.2] at hgs
            have hsp : sizeP n.2.2 = p.2 := by
              have hdn := hrt.none hn1
              unfold sizeN at hsn
              rw [hdn] at hsn
              simp only [List.length_nil] at hsn
              omega
            have hk1 : (k + 1) * p.2.toNat = k * p.2.toNat + p.2.toNat := by rw [Nat.add_mul]; simp
            have hthr := ih (n.1 - 1) (.inr ⟨by omega, by rcases hlv with ⟨h1, h2⟩ | ⟨h1, h2⟩ <;> rcases hlvn with h | h <;> omega⟩)
            have hvne : (Value.slice va vm vn).ownBlock = none ∨ (Value.slice va vm vn).ownBlock ≠ vc.ownBlock := by
              cases hq : (Value.slice va vm vn).ownBlock with
              | none => exact .inl rfl
              | some q =>
                refine .inr fun h => ?_
                have h1 := (H5.out.2.2.2.1.lt q hq).1
                have h2 := HV.out q h.symm
                have h3 := HS0.out
                omega
            have hea := thruEach_any g gf caps fd B I hG k (n.1 - 1) hthr (by omega) w5 (.slice va vm vn) n.2.2 w0.heap.size ⟨s.asked ++ [p.1], s.data, s.parts, 0⟩ vc H5.out.2.2.2.1 hvne hrt.each hrt.sum hrt.most rfl H5.out.1 H5.out.2.1 (by have := HN.out.1; rw [hsp]; simp only [List.length_append, List.length_singleton]; omega) (by have := HN.out.2; rw [hsp]; simp only; omega)
            rw [← hgs] at hea
            have hN5 : w.heap.size ≤ w5.heap.size := by have := HS0.out; omega
            clear hgs hthr ih hvne hrt hsn hlvn hlv hsp hk1
            go_wp2_with fail
            refine hea.mono ?_
            rintro e w9 ⟨rfl, vc9, hL9, hI9, hM9, hN9⟩
            have H9 := hide (And.intro hL9 (And.intro hI9 (And.intro ((H5.out.2.2.1.none).trans hM9 (Nx.refl _ _)) (show Nx w vc.ownBlock vc9.ownBlock from by
              rcases hN9 with h | ⟨q, h, hq⟩
              · exact .inl h
              · exact .inr ⟨q, h, by omega⟩))))
            clear hea hL9 hI9 hM9 hN9
            go_wp2
            go_ret
            exact ⟨rfl, vc9, H9.out.1, H9.out.2.1, H9.out.2.2.1, H9.out.2.2.2⟩
      · have hgs := chS_bad (k := k) HBAD.out (show (askN fd p level).1 ≠ 0 by rw [← HE.out.1]; exact he0)
        have HGS := hide hgs
        have hb : (er != 0) = true := by simpa using he0
        clear hgs ih
        go_wp2
        go_ret
        rw [HGS.out, ← HE.out.1]
        exact ⟨rfl, vc, H5.out.1, H5.out.2.1, H5.out.2.2.1.none, Nx.refl _ _⟩
    · go_simp
      refine hK.out _ _ (⟨z0, z1, z2⟩) (fun hHeld => ?_)
      clear hK K
      try simp only [Act.put, List.setIfInBounds_toArray, List.set_cons_zero, List.set_cons_succ]
      refine onlyH (i := 6) rfl (by kernel_rfl) rfl (fun K hK => ?_)
      go_simp
      refine hask'.mono ?_
      rintro e w3 ⟨⟨v, rfl, hov⟩, hI3, hM3⟩
      have hM3' : Mv B ats none w0 w3 := ((Mv.refl B ats none w0).alloc (by have := HS0.out; omega) (.cells #[.int .i64 0, .slice none 0 0, .string ⟨#[]⟩] 96)).drew.trans hM3 (Nx.refl _ _)
      have hM3z : Mv B ats none (w0.alloc (.cells #[.int .i64 0, .slice none 0 0, .string ⟨#[]⟩] 96)) w3 := ((Mv.refl B ats none _).drew).trans hM3 (Nx.refl _ _)
      have hL3 := H0.out.2.2.1.keep hM3' (by decide) (by decide)
      have hq3 := hM3z.k _ _ _ _ HZ.out.2.1 (by decide) (by simp)
      have hy3 := hM3z.k _ _ _ _ HZ.out.2.2 (by decide) (by simp)
      have hs3 : w0.heap.size ≤ w3.heap.size := hM3'.size
      obtain ⟨va, vm, vn, rfl⟩ := row_form hov
      clear hask hask'
      have a0 := cell_of_row w3 g 0 _ _ _ hL3.2.1
      have a1 := cell_of_row w3 w.heap.size 0 _ _ _ hq3
      have a2 := cell_of_row w3 w.heap.size 1 _ _ _ hq3
      simp only [List.getElem?_toArray, List.getElem?_cons_zero, List.getElem?_cons_succ] at a0 a1 a2
      have y0 := cell_of_row w3 w0.heap.size 0 _ _ _ hy3
      have y1 := cell_of_row w3 w0.heap.size 1 _ _ _ hy3
      have y2 := cell_of_row w3 w0.heap.size 2 _ _ _ hy3
      simp only [List.getElem?_toArray, List.getElem?_cons_zero, List.getElem?_cons_succ] at y0 y1 y2
      have f0 := frozen0 (j := 0) hy3
      have f1 := frozen0 (j := 1) hy3
      have f2 := frozen0 (j := 2) hy3
      have hng : g ≠ w0.heap.size := Nat.ne_of_lt (lt_of_heap H0.out.2.2.1.2.1)
      have hnq : w.heap.size ≠ w0.heap.size := Nat.ne_of_lt (lt_of_heap H0.out.2.1)
      go_simp
      refine hK.out _ _ (⟨a0, a1, a2⟩) (fun hHeld => ?_)
      clear hK K
      try simp only [Act.put, List.setIfInBounds_toArray, List.set_cons_zero, List.set_cons_succ]
      refine takeJ 7 (v := ?_) ?_ hHeld ?_
      rotate_left
      · rintro w ⟨_, _, _⟩; go_simp; try with_reducible rfl
      refine takeJ 8 (v := ?_) ?_ hHeld ?_
      rotate_left
      · rintro w ⟨_, _, _⟩; go_simp; try with_reducible rfl
      refine takeJ 9 (v := ?_) ?_ hHeld ?_
      rotate_left
      · rintro w ⟨_, _, _⟩; go_simp; try with_reducible rfl
      have hh5 : (((w3.setCell ⟨w0.heap.size, 0, none⟩ (.int .i64 n.1)).setCell ⟨w0.heap.size, 1, none⟩ (.slice va vm vn)).setCell ⟨w0.heap.size, 2, none⟩ (.string (strB n.2.1))).heap[g]? = _ := (heap_setOther hng).trans ((heap_setOther hng).trans ((heap_setOther hng).trans hL3.2.1))
      have hq5 : (((w3.setCell ⟨w0.heap.size, 0, none⟩ (.int .i64 n.1)).setCell ⟨w0.heap.size, 1, none⟩ (.slice va vm vn)).setCell ⟨w0.heap.size, 2, none⟩ (.string (strB n.2.1))).heap[w.heap.size]? = _ := (heap_setOther hnq).trans ((heap_setOther hnq).trans ((heap_setOther hnq).trans hq3))
      have c0 := cell_of_row _ g 0 _ _ _ hh5
      have c1 := cell_of_row _ w.heap.size 0 _ _ _ hq5
      have c2 := cell_of_row _ w.heap.size 1 _ _ _ hq5
      simp only [List.getElem?_toArray, List.getElem?_cons_zero, List.getElem?_cons_succ] at c0 c1 c2
      clear hng hnq
      refine onlyH (i := 11) rfl (by kernel_rfl) rfl (fun K hK => ?_)
      go_simp
      refine hK.out _ _ (⟨c0, c1, c2⟩) (fun hHeld => ?_)
      clear hK K
      try simp only [Act.put, List.setIfInBounds_toArray, List.set_cons_zero, List.set_cons_succ]
      refine takeJ 12 (v := ?_) ?_ hHeld ?_
      rotate_left
      · rintro w ⟨_, _, _⟩; go_simp; try with_reducible rfl
      refine wpAnyH_done (by kernel_rfl) ?_ _
      clear hHeld a0 a1 a2 c0 c1 c2 r0 q0 q1 z0 z1 z2 y0 y1 y2 f0 f1 f2 hh5
      have hBw0 : B ≤ w0.heap.size := by have := HS0.out; omega
      have hy5 := heap_set3all (u0 := .int .i64 n.1) (u1 := .slice va vm vn) (u2 := .string (strB n.2.1)) hy3
      have hmn6 : Mv B [96] none w3 (((w3.setCell ⟨w0.heap.size, 0, none⟩ (.int .i64 n.1)).setCell ⟨w0.heap.size, 1, none⟩ (.slice va vm vn)).setCell ⟨w0.heap.size, 2, none⟩ (.string (strB n.2.1))) := (((Mv.refl B _ none w3).set (j := 0) hy3 (by decide) hBw0 _).set (j := 1) (heap_set3a hy3) (by decide) hBw0 _).set (j := 2) (heap_set3 (heap_set3a hy3)) (by decide) hBw0 _
      have hL5 := hL3.keep hmn6 (by decide) (by decide)
      have hI5 := hG.mv hI3 (hmn6.types (by decide))
      have hM5 : Mv B hts none w (((w3.setCell ⟨w0.heap.size, 0, none⟩ (.int .i64 n.1)).setCell ⟨w0.heap.size, 1, none⟩ (.slice va vm vn)).setCell ⟨w0.heap.size, 2, none⟩ (.string (strB n.2.1))) := (((((Mv.of H0.out.1 hB).trans hM3' (Nx.refl _ _)).types (by decide)).setNew (j := 0) (by have := HS0.out; omega) hB _).setNew (j := 1) (by have := HS0.out; omega) hB _).setNew (j := 2) (by have := HS0.out; omega) hB _
      have hov5 := hmn6.own0 (own_down hov (show w0.heap.size ≤ (w0.alloc (.cells #[.int .i64 0, .slice none 0 0, .string ⟨#[]⟩] 96)).drew.heap.size from by simp)) (by decide)
      have hsz5 : w0.heap.size ≤ (((w3.setCell ⟨w0.heap.size, 0, none⟩ (.int .i64 n.1)).setCell ⟨w0.heap.size, 1, none⟩ (.slice va vm vn)).setCell ⟨w0.heap.size, 2, none⟩ (.string (strB n.2.1))).heap.size := Nat.le_of_lt (lt_of_heap hy5)
      have hnb5 : w0.heap.size ≤ w0.heap.size := Nat.le_refl _
      generalize (((w3.setCell ⟨w0.heap.size, 0, none⟩ (.int .i64 n.1)).setCell ⟨w0.heap.size, 1, none⟩ (.slice va vm vn)).setCell ⟨w0.heap.size, 2, none⟩ (.string (strB n.2.1))) = w5 at *
      obtain ⟨nb, hnb⟩ : ∃ nb, nb = w0.heap.size := ⟨_, rfl⟩
      rw [← hnb] at hy5 ⊢
      have HNB := hide hnb
      clear hnb
      have H5 := hide (And.intro hL5 (And.intro hI5 (And.intro hM5 (And.intro hov5 (And.intro hy5 hq5)))))
      clear hL5 hI5 hM5 hov5 hL3 hI3 hM3 hM3' hM3z hov hq3 hmn6 hy3 hs3 hBw0 hnb5
      by_cases he0 : er = 0
      · subst he0
        have hA := askN_ok HE.out.1.symm
        rw [← HE.out.2] at hA
        obtain ⟨hrt, hsn, hlvn⟩ := hA
        have d0 := cell_of_row w5 nb 0 _ _ _ hy5
        have d1 := cell_of_row w5 nb 1 _ _ _ hy5
        simp only [List.getElem?_toArray, List.getElem?_cons_zero, List.getElem?_cons_succ] at d0 d1
        by_cases hn0 : n.1 = 0
        · have hlm : level = -1 := by omega
          have hgs := chS_chunk (k := k) HBAD.out HE.out.1.symm (HE.out.2 ▸ hn0)
          have HGS := hide hgs
          have hbn : (n.1 == 0) = true := by rw [hn0]; rfl
          have hcl := copyStr_any w5.drew p.1 (hid hlm)
          have cx : ∀ W : World, W.heap[w.heap.size]? = some (.cells #[.string (strB p.1), .int .i64 p.2] 25) → W.cell? ⟨w.heap.size, 0, none⟩ = some (.string (strB p.1)) ∧ W.cell? ⟨w.heap.size, 1, none⟩ = some (.int .i64 p.2) := fun W hW => by
            have e0 := cell_of_row W w.heap.size 0 _ _ _ hW
            have e1 := cell_of_row W w.heap.size 1 _ _ _ hW
            simp only [List.getElem?_toArray, List.getElem?_cons_zero, List.getElem?_cons_succ] at e0 e1
            exact ⟨e0, e1⟩
          have HC5 := hide (cx _ hq5)
          have g5 := cell_of_row w5 g 1 _ _ _ H5.out.1.2.1
          simp only [List.getElem?_toArray, List.getElem?_cons_zero, List.getElem?_cons_succ] at g5
          clear hgs ih hrt hsn hlvn hlv hlm d1
          go_wp2_with fail
          refine wp_region_held_drew (S := fun W => W.cell? ⟨w.heap.size, 0, none⟩ = some (.string (strB p.1)) ∧ W.cell? ⟨w.heap.size, 1, none⟩ = some (.int .i64 p.2)) (by kernel_rfl) (HC5.out) (fun hHeld => ?_)
          refine takeJ 0 (v := ?_) ?_ hHeld ?_
          rotate_left
          · rintro w ⟨_, _⟩; go_simp; try with_reducible rfl
          refine takeJ 1 (v := ?_) ?_ hHeld ?_
          rotate_left
          · rintro w ⟨_, _⟩; go_simp; try with_reducible rfl
          refine takeJ 2 (v := ?_) ?_ hHeld ?_
          rotate_left
          · rintro w ⟨_, _⟩; go_simp; try with_reducible rfl
          refine takeJ 3 (v := ?_) ?_ hHeld ?_
          rotate_left
          · rintro w ⟨_, _⟩; go_simp; try with_reducible rfl
          refine takeJ 5 (v := ?_) ?_ hHeld ?_
          rotate_left
          · rintro w ⟨_, _⟩; go_simp; try with_reducible rfl
          refine takeJ 6 (v := ?_) ?_ hHeld ?_
          rotate_left
          · rintro w ⟨_, _⟩; go_simp; try with_reducible rfl
          refine takeJ 8 (v := ?_) ?_ hHeld ?_
          rotate_left
          · rintro w ⟨_, _⟩; go_simp; try with_reducible rfl
          refine takeJ 9 (v := ?_) ?_ hHeld ?_
          rotate_left
          · rintro w ⟨_, _⟩; go_simp; try with_reducible rfl
          refine twoH (i := 4) (j := 7) rfl rfl (by kernel_rfl) rfl rfl (fun K hK => ?_) (fun K hK => ?_)
          · go_simp
            refine hK.out _ _ (HC5.out) (fun hHeld => ?_)
            clear hK K
            try simp only [Act.put, List.setIfInBounds_toArray, List.set_cons_zero, List.set_cons_succ]
            refine onlyH (i := 7) rfl (by kernel_rfl) rfl (fun K hK => ?_)
            go_simp
            refine hcl.mono ?_
            rintro e w6 ⟨rfl, hb6⟩
            have hb56 : Below w5.heap.size w5 w6 := ((Below.refl _ _).drew).trans hb6
            have hL6 := H5.out.1.below hb56
            have hq6 := (hb56.block _ (lt_of_heap hq5)).trans hq5
            have hI6 := hG.below H5.out.2.1 hb56
            have hM6 := H5.out.2.2.1.more hb56 (hG.le _ _ H5.out.2.1)
            have hB6 := hG.le _ _ hI6
            obtain ⟨vx, w7, hrun7, hrow7, hgr7, hloc7⟩ := app_part w6 B vc s.parts p hL6.2.2 hB6 (by have := HN.out.2; omega)
            have hbA : Below w6.heap.size w6 (w6.alloc (.cells #[.string (strB p.1), .int .i64 p.2] 25)) := (Below.refl _ _).alloc (Nat.le_refl _) _
            have hLA := hL6.below hbA
            have hqA := (hbA.block _ (lt_of_heap hq6)).trans hq6
            have hh7 := grow_keep hLA.2.2 hgr7 hLA.2.1 (by decide)
            have hq7 := (hgr7.block w.heap.size (lt_of_heap hqA) (fun h => by have := HV.out _ h.symm; omega)).trans hqA
            have hm7 : Mv B hts vc.ownBlock w w7 := (hM6.none.alloc hB6 _).grownRow hLA.2.2 hgr7 (Nx.refl _ _) (by simp; omega)
            have hm8 := hm7.set (j := 1) hh7 (by decide) hgB vx
            have hk8 : Mv B qts vc.ownBlock w6 (w7.setCell ⟨g, 1, none⟩ vx) := (((Mv.refl B qts vc.ownBlock w6).alloc hB6 _).grownRow hLA.2.2 hgr7 (Nx.refl _ _) (by simp; omega)).set (j := 1) hh7 (by decide) hgB vx
            have hI8 := hG.keep _ _ _ _ hI6 hk8 (fun q hq => Lib.ownsRow_kind hL6.2.2 q hq)
            have hq8 := (heap_setOther (j := 1) (u := vx) (ne_type hq7 hh7 (by decide))).trans hq7
            have hh8 : (w7.setCell ⟨g, 1, none⟩ vx).heap[g]? = some (.cells #[.func (.func gf) #[] caps, vx] 71) := by rw [heap_setCell _ _ _ _ _ _ _ hh7]; simp
            have hL8 : LiW B (w7.setCell ⟨g, 1, none⟩ vx) g (.func (.func gf) #[] caps) vx ⟨s.asked ++ [p.1], s.data, s.parts ++ [p], 0⟩ := ⟨hgB, hh8, own_setCell hrow7 hh7 (by decide) _⟩
            have hN8 : Nx w vc.ownBlock vx.ownBlock := by
              rcases hloc7 with h | h
              · exact .inl h
              · exact .inr ⟨_, h, by have := hM6.size; omega⟩
            have FIN := hide (And.intro hL8 (And.intro hI8 (And.intro hm8 hN8)))
            have HRUN := hide hrun7
            have HC6 := hide (cx _ hq6)
            have HCA := hide (cx _ hqA)
            have HC7 := hide (cx _ hq7)
            have HC8 := hide (cx _ hq8)
            have g6 := cell_of_row w6 g 1 _ _ _ hL6.2.1
            have gA := cell_of_row _ g 1 _ _ _ hLA.2.1
            have g7 := cell_of_row w7 g 1 _ _ _ hh7
            simp only [List.getElem?_toArray, List.getElem?_cons_zero, List.getElem?_cons_succ] at g6 gA g7
            have f7 := frozen0 (j := 1) hh7
            obtain ⟨vxA, vxM, vxC, rfl⟩ := row_form hrow7
            clear hb6 hb56 hL6 hq6 hI6 hM6 hB6 hrun7 hrow7 hgr7 hloc7 hbA hLA hqA hh7 hq7 hm7 hm8 hk8 hI8 hq8 hh8 hL8 hN8
            go_simp
            refine hK.out _ _ (HC6.out) (fun hHeld => ?_)
            clear hK K
            try simp only [Act.put, List.setIfInBounds_toArray, List.set_cons_zero, List.set_cons_succ]
            refine takeJ 10 (v := ?_) ?_ hHeld ?_
            rotate_left
            · rintro w ⟨_, _⟩; go_simp; try with_reducible rfl
            refine onlyH (i := 11) rfl (by kernel_rfl) rfl (fun K hK => ?_)
            go_simp
            refine hK.out _ _ (HCA.out) (fun hHeld => ?_)
            clear hK K
            try simp only [Act.put, List.setIfInBounds_toArray, List.set_cons_zero, List.set_cons_succ]
            refine onlyH (i := 12) rfl (by kernel_rfl) rfl (fun K hK => ?_)
            refine wp_append_run (.tmp 40) (.tmp 47) 38 rfl rfl rfl HRUN.out ?_
            refine hK.out _ _ (HC7.out) (fun hHeld => ?_)
            clear hK K
            try simp only [Act.put, List.setIfInBounds_toArray, List.set_cons_zero, List.set_cons_succ]
            refine takeJ 13 (v := ?_) ?_ hHeld ?_
            rotate_left
            · rintro w ⟨_, _⟩; go_simp; try with_reducible rfl
            refine takeJ 14 (v := ?_) ?_ hHeld ?_
            rotate_left
            · rintro w ⟨_, _⟩; go_simp; try with_reducible rfl
            refine onlyH (i := 15) rfl (by kernel_rfl) rfl (fun K hK => ?_)
            go_simp
            refine hK.out _ _ (HC8.out) (fun hHeld => ?_)
            clear hK K
            try simp only [Act.put, List.setIfInBounds_toArray, List.set_cons_zero, List.set_cons_succ]
            refine wpAnyH_done (by kernel_rfl) ?_ _
            clear hHeld
            go_wp2
            go_ret
            rw [HGS.out]
            exact ⟨rfl, _, FIN.out.1, FIN.out.2.1, FIN.out.2.2.1, FIN.out.2.2.2⟩
          · go_simp
            refine hcl.mono ?_
            rintro e w6 ⟨rfl, hb6⟩
            have hb56 : Below w5.heap.size w5 w6 := ((Below.refl _ _).drew).trans hb6
            have hL6 := H5.out.1.below hb56
            have hq6 := (hb56.block _ (lt_of_heap hq5)).trans hq5
            have hI6 := hG.below H5.out.2.1 hb56
            have hM6 := H5.out.2.2.1.more hb56 (hG.le _ _ H5.out.2.1)
            have hB6 := hG.le _ _ hI6
            obtain ⟨vx, w7, hrun7, hrow7, hgr7, hloc7⟩ := app_part w6 B vc s.parts p hL6.2.2 hB6 (by have := HN.out.2; omega)
            have hbA : Below w6.heap.size w6 (w6.alloc (.cells #[.string (strB p.1), .int .i64 p.2] 25)) := (Below.refl _ _).alloc (Nat.le_refl _) _
            have hLA := hL6.below hbA
            have hqA := (hbA.block _ (lt_of_heap hq6)).trans hq6
            have hh7 := grow_keep hLA.2.2 hgr7 hLA.2.1 (by decide)
            have hq7 := (hgr7.block w.heap.size (lt_of_heap hqA) (fun h => by have := HV.out _ h.symm; omega)).trans hqA
            have hm7 : Mv B hts vc.ownBlock w w7 := (hM6.none.alloc hB6 _).grownRow hLA.2.2 hgr7 (Nx.refl _ _) (by simp; omega)
            have hm8 := hm7.set (j := 1) hh7 (by decide) hgB vx
            have hk8 : Mv B qts vc.ownBlock w6 (w7.setCell ⟨g, 1, none⟩ vx) := (((Mv.refl B qts vc.ownBlock w6).alloc hB6 _).grownRow hLA.2.2 hgr7 (Nx.refl _ _) (by simp; omega)).set (j := 1) hh7 (by decide) hgB vx
            have hI8 := hG.keep _ _ _ _ hI6 hk8 (fun q hq => Lib.ownsRow_kind hL6.2.2 q hq)
            have hq8 := (heap_setOther (j := 1) (u := vx) (ne_type hq7 hh7 (by decide))).trans hq7
            have hh8 : (w7.setCell ⟨g, 1, none⟩ vx).heap[g]? = some (.cells #[.func (.func gf) #[] caps, vx] 71) := by rw [heap_setCell _ _ _ _ _ _ _ hh7]; simp
            have hL8 : LiW B (w7.setCell ⟨g, 1, none⟩ vx) g (.func (.func gf) #[] caps) vx ⟨s.asked ++ [p.1], s.data, s.parts ++ [p], 0⟩ := ⟨hgB, hh8, own_setCell hrow7 hh7 (by decide) _⟩
            have hN8 : Nx w vc.ownBlock vx.ownBlock := by
              rcases hloc7 with h | h
              · exact .inl h
              · exact .inr ⟨_, h, by have := hM6.size; omega⟩
            have FIN := hide (And.intro hL8 (And.intro hI8 (And.intro hm8 hN8)))
            have HRUN := hide hrun7
            have HC6 := hide (cx _ hq6)
            have HCA := hide (cx _ hqA)
            have HC7 := hide (cx _ hq7)
            have HC8 := hide (cx _ hq8)
            have g6 := cell_of_row w6 g 1 _ _ _ hL6.2.1
            have gA := cell_of_row _ g 1 _ _ _ hLA.2.1
            have g7 := cell_of_row w7 g 1 _ _ _ hh7
            simp only [List.getElem?_toArray, List.getElem?_cons_zero, List.getElem?_cons_succ] at g6 gA g7
            have f7 := frozen0 (j := 1) hh7
            obtain ⟨vxA, vxM, vxC, rfl⟩ := row_form hrow7
            clear hb6 hb56 hL6 hq6 hI6 hM6 hB6 hrun7 hrow7 hgr7 hloc7 hbA hLA hqA hh7 hq7 hm7 hm8 hk8 hI8 hq8 hh8 hL8 hN8
            go_simp
            refine hK.out _ _ (HC6.out) (fun hHeld => ?_)
            clear hK K
            try simp only [Act.put, List.setIfInBounds_toArray, List.set_cons_zero, List.set_cons_succ]
            refine takeJ 10 (v := ?_) ?_ hHeld ?_
            rotate_left
            · rintro w ⟨_, _⟩; go_simp; try with_reducible rfl
            refine twoH (i := 4) (j := 11) rfl rfl (by kernel_rfl) rfl rfl (fun K hK => ?_) (fun K hK => ?_)
            · go_simp
              refine hK.out _ _ (HC6.out) (fun hHeld => ?_)
              clear hK K
              try simp only [Act.put, List.setIfInBounds_toArray, List.set_cons_zero, List.set_cons_succ]
              refine onlyH (i := 11) rfl (by kernel_rfl) rfl (fun K hK => ?_)
              go_simp
              refine hK.out _ _ (HCA.out) (fun hHeld => ?_)
              clear hK K
              try simp only [Act.put, List.setIfInBounds_toArray, List.set_cons_zero, List.set_cons_succ]
              refine onlyH (i := 12) rfl (by kernel_rfl) rfl (fun K hK => ?_)
              refine wp_append_run (.tmp 40) (.tmp 47) 38 rfl rfl rfl HRUN.out ?_
              refine hK.out _ _ (HC7.out) (fun hHeld => ?_)
              clear hK K
              try simp only [Act.put, List.setIfInBounds_toArray, List.set_cons_zero, List.set_cons_succ]
              refine takeJ 13 (v := ?_) ?_ hHeld ?_
              rotate_left
              · rintro w ⟨_, _⟩; go_simp; try with_reducible rfl
              refine takeJ 14 (v := ?_) ?_ hHeld ?_
              rotate_left
              · rintro w ⟨_, _⟩; go_simp; try with_reducible rfl
              refine onlyH (i := 15) rfl (by kernel_rfl) rfl (fun K hK => ?_)
              go_simp
              refine hK.out _ _ (HC8.out) (fun hHeld => ?_)
              clear hK K
              try simp only [Act.put, List.setIfInBounds_toArray, List.set_cons_zero, List.set_cons_succ]
              refine wpAnyH_done (by kernel_rfl) ?_ _
              clear hHeld
              go_wp2
              go_ret
              rw [HGS.out]
              exact ⟨rfl, _, FIN.out.1, FIN.out.2.1, FIN.out.2.2.1, FIN.out.2.2.2⟩
            · go_simp
              refine hK.out _ _ (HCA.out) (fun hHeld => ?_)
              clear hK K
              try simp only [Act.put, List.setIfInBounds_toArray, List.set_cons_zero, List.set_cons_succ]
              refine onlyH (i := 4) rfl (by kernel_rfl) rfl (fun K hK => ?_)
              go_simp
              refine hK.out _ _ (HCA.out) (fun hHeld => ?_)
              clear hK K
              try simp only [Act.put, List.setIfInBounds_toArray, List.set_cons_zero, List.set_cons_succ]
              refine onlyH (i := 12) rfl (by kernel_rfl) rfl (fun K hK => ?_)
              refine wp_append_run (.tmp 40) (.tmp 47) 38 rfl rfl rfl HRUN.out ?_
              refine hK.out _ _ (HC7.out) (fun hHeld => ?_)
              clear hK K
              try simp only [Act.put, List.setIfInBounds_toArray, List.set_cons_zero, List.set_cons_succ]
              refine takeJ 13 (v := ?_) ?_ hHeld ?_
              rotate_left
              · rintro w ⟨_, _⟩; go_simp; try with_reducible rfl
              refine takeJ 14 (v := ?_) ?_ hHeld ?_
              rotate_left
              · rintro w ⟨_, _⟩; go_simp; try with_reducible rfl
              refine onlyH (i := 15) rfl (by kernel_rfl) rfl (fun K hK => ?_)
              go_simp
              refine hK.out _ _ (HC8.out) (fun hHeld => ?_)
              clear hK K
              try simp only [Act.put, List.setIfInBounds_toArray, List.set_cons_zero, List.set_cons_succ]
              refine wpAnyH_done (by kernel_rfl) ?_ _
              clear hHeld
              go_wp2
              go_ret
              rw [HGS.out]
              exact ⟨rfl, _, FIN.out.1, FIN.out.2.1, FIN.out.2.2.1, FIN.out.2.2.2⟩
        · have hn1 : 1 ≤ n.1 := by have := hrt.lo; omega
          have hn20 := hrt.hi
          have hbn : (n.1 == 0) = false := by rw [beq_eq_false_iff_ne]; exact hn0
          by_cases hn2 : n.1 = 1
          · have hgs := chS_one (k := k) HBAD.out HE.out.1.symm (HE.out.2 ▸ hn2)
            rw [← HE.out.2] at hgs
            have HGS := hide hgs
            have hbn2 : (n.1 == 1) = true := by rw [hn2]; rfl
            have hsp : sizeP n.2.2 = p.2 := by
              have hdn := hrt.none hn1
              unfold sizeN at hsn
              rw [hdn] at hsn
              simp only [List.length_nil] at hsn
              omega
            have hmany := sizeP_many _ hrt.each
            have hB5 := hG.le _ _ H5.out.2.1
            obtain ⟨vx, w7, hrun7, hrow7, hgr7, hloc7⟩ := app_parts w5.drew B w0.heap.size vc (.slice va vm vn) s.parts n.2.2 H5.out.1.2.2 H5.out.2.2.2.1 (hrt.some hn1) hB5 (by have := HN.out.2; omega)
            have hL5 := H5.out.1
            have hh7 := grow_keep (w := w5.drew) hL5.2.2 hgr7 hL5.2.1 (by decide)
            have hy7 := grow_keep (w := w5.drew) hL5.2.2 hgr7 hy5 (by decide)
            have hm7 : Mv B hts vc.ownBlock w w7 := H5.out.2.2.1.none.drew.grownRow (w1 := w5.drew) hL5.2.2 hgr7 (Nx.refl _ _) hB5
            have hm8 := hm7.set (j := 1) hh7 (by decide) hgB vx
            have hk8 : Mv B qts vc.ownBlock w5 (w7.setCell ⟨g, 1, none⟩ vx) := ((Mv.refl B qts vc.ownBlock w5).drew.grownRow (w1 := w5.drew) hL5.2.2 hgr7 (Nx.refl _ _) hB5).set (j := 1) hh7 (by decide) hgB vx
            have hI8 := hG.keep _ _ _ _ H5.out.2.1 hk8 (fun q hq => Lib.ownsRow_kind hL5.2.2 q hq)
            have hy8 := (heap_setOther (j := 1) (u := vx) (ne_type hy7 hh7 (by decide))).trans hy7
            have hh8 : (w7.setCell ⟨g, 1, none⟩ vx).heap[g]? = some (.cells #[.func (.func gf) #[] caps, vx] 71) := by rw [heap_setCell _ _ _ _ _ _ _ hh7]; simp
            have hL8 : LiW B (w7.setCell ⟨g, 1, none⟩ vx) g (.func (.func gf) #[] caps) vx ⟨s.asked ++ [p.1], s.data, s.parts ++ n.2.2, 0⟩ := ⟨hgB, hh8, own_setCell hrow7 hh7 (by decide) _⟩
            have hN8 : Nx w vc.ownBlock vx.ownBlock := by
              rcases hloc7 with h | h
              · exact .inl h
              · exact .inr ⟨_, h, by have := H5.out.2.2.1.size; exact this⟩
            have FIN := hide (And.intro hL8 (And.intro hI8 (And.intro hm8 hN8)))
            have HRUN := hide hrun7
            have g5 := cell_of_row w5 g 1 _ _ _ hL5.2.1
            have g7 := cell_of_row w7 g 1 _ _ _ hh7
            have y7 := cell_of_row w7 nb 1 _ _ _ hy7
            have y8 := cell_of_row _ nb 1 _ _ _ hy8
            simp only [List.getElem?_toArray, List.getElem?_cons_zero, List.getElem?_cons_succ] at g5 g7 y7 y8
            have f7 := frozen0 (j := 1) hh7
            obtain ⟨vxA, vxM, vxC, rfl⟩ := row_form hrow7
            clear hgs ih hrt hsn hlvn hlv hsp hmany hB5 hrun7 hrow7 hgr7 hloc7 hL5 hh7 hy7 hm7 hm8 hk8 hI8 hy8 hh8 hL8 hN8
            go_wp2_with fail
            refine wp_region_held_drew (S := fun W => W.cell? ⟨nb, 1, none⟩ = some (.slice va vm vn)) (by kernel_rfl) (d1) (fun hHeld => ?_)
            refine takeJ 0 (v := ?_) ?_ hHeld ?_
            rotate_left
            · intro w hS; (try dsimp only at hS); go_simp; try with_reducible rfl
            refine takeJ 1 (v := ?_) ?_ hHeld ?_
            rotate_left
            · intro w hS; (try dsimp only at hS); go_simp; try with_reducible rfl
            refine takeJ 2 (v := ?_) ?_ hHeld ?_
            rotate_left
            · intro w hS; (try dsimp only at hS); go_simp; try with_reducible rfl
            refine takeJ 3 (v := ?_) ?_ hHeld ?_
            rotate_left
            · intro w hS; (try dsimp only at hS); go_simp; try with_reducible rfl
            refine takeJ 5 (v := ?_) ?_ hHeld ?_
            rotate_left
            · intro w hS; (try dsimp only at hS); go_simp; try with_reducible rfl
            refine takeJ 6 (v := ?_) ?_ hHeld ?_
            rotate_left
            · intro w hS; (try dsimp only at hS); go_simp; try with_reducible rfl
            refine takeJ 7 (v := ?_) ?_ hHeld ?_
            rotate_left
            · intro w hS; (try dsimp only at hS); go_simp; try with_reducible rfl
            refine onlyH (i := 4) rfl (by kernel_rfl) rfl (fun K hK => ?_)
            go_simp
            refine hK.out _ _ (d1) (fun hHeld => ?_)
            clear hK K
            try simp only [Act.put, List.setIfInBounds_toArray, List.set_cons_zero, List.set_cons_succ]
            refine onlyH (i := 8) rfl (by kernel_rfl) rfl (fun K hK => ?_)
            refine wp_append_run (.tmp 57) (.tmp 60) 38 rfl rfl rfl HRUN.out ?_
            refine hK.out _ _ (y7) (fun hHeld => ?_)
            clear hK K
            try simp only [Act.put, List.setIfInBounds_toArray, List.set_cons_zero, List.set_cons_succ]
            refine takeJ 9 (v := ?_) ?_ hHeld ?_
            rotate_left
            · intro w hS; (try dsimp only at hS); go_simp; try with_reducible rfl
            refine takeJ 10 (v := ?_) ?_ hHeld ?_
            rotate_left
            · intro w hS; (try dsimp only at hS); go_simp; try with_reducible rfl
            refine onlyH (i := 11) rfl (by kernel_rfl) rfl (fun K hK => ?_)
            go_simp
            refine hK.out _ _ (y8) (fun hHeld => ?_)
            clear hK K
            try simp only [Act.put, List.setIfInBounds_toArray, List.set_cons_zero, List.set_cons_succ]
            refine wpAnyH_done (by kernel_rfl) ?_ _
            clear hHeld
            go_wp2
            go_ret
            rw [HGS.out]
            exact ⟨rfl, _, FIN.out.1, FIN.out.2.1, FIN.out.2.2.1, FIN.out.2.2.2⟩
          · have hbn2 : (n.1 == 1) = false := by rw [beq_eq_false_iff_ne]; exact hn2
            have hgs := chS_fan (k := k) HBAD.out HE.out.1.symm (fun h => hn0 (HE.out.2 ▸ h)) (fun h => hn2 (HE.out.2 ▸ h))
            rw [← HE.out.2] at hgs
            have hsp : sizeP n.2.2 = p.2 := by
              have hdn := hrt.none hn1
              unfold sizeN at hsn
              rw [hdn] at hsn
              simp only [List.length_nil] at hsn
              omega
            have hk1 : (k + 1) * p.2.toNat = k * p.2.toNat + p.2.toNat := by rw [Nat.add_mul]; simp
            have hthr := ih (n.1 - 1) (.inr ⟨by omega, by rcases hlv with ⟨h1, h2⟩ | ⟨h1, h2⟩ <;> rcases hlvn with h | h <;> omega⟩)
            have hvne : (Value.slice va vm vn).ownBlock = none ∨ (Value.slice va vm vn).ownBlock ≠ vc.ownBlock := by
              cases hq : (Value.slice va vm vn).ownBlock with
              | none => exact .inl rfl
              | some q =>
                refine .inr fun h => ?_
                have h1 := (H5.out.2.2.2.1.lt q hq).1
                have h2 := HV.out q h.symm
                have h3 := HS0.out
                omega
            have hea := thruEach_any g gf caps fd B I hG k (n.1 - 1) hthr (by omega) w5 (.slice va vm vn) n.2.2 w0.heap.size ⟨s.asked ++ [p.1], s.data, s.parts, 0⟩ vc H5.out.2.2.2.1 hvne hrt.each hrt.sum hrt.most rfl H5.out.1 H5.out.2.1 (by have := HN.out.1; rw [hsp]; simp only [List.length_append, List.length_singleton]; omega) (by have := HN.out.2; rw [hsp]; simp only; omega)
            rw [← hgs] at hea
            have hN5 : w.heap.size ≤ w5.heap.size := by have := HS0.out; omega
            clear hgs hthr ih hvne hrt hsn hlvn hlv hsp hk1
            go_wp2_with fail
            refine hea.mono ?_
            rintro e w9 ⟨rfl, vc9, hL9, hI9, hM9, hN9⟩
            have H9 := hide (And.intro hL9 (And.intro hI9 (And.intro ((H5.out.2.2.1.none).trans hM9 (Nx.refl _ _)) (show Nx w vc.ownBlock vc9.ownBlock from by
              rcases hN9 with h | ⟨q, h, hq⟩
              · exact .inl h
              · exact .inr ⟨q, h, by omega⟩))))
            clear hea hL9 hI9 hM9 hN9
            go_wp2
            go_ret
            exact ⟨rfl, vc9, H9.out.1, H9.out.2.1, H9.out.2.2.1, H9.out.2.2.2⟩
      · have hgs := chS_bad (k := k) HBAD.out (show (askN fd p level).1 ≠ 0 by rw [← HE.out.1]; exact he0)
        have HGS := hide hgs
        have hb : (er != 0) = true := by simpa using he0
        clear hgs ih
        go_wp2
        go_ret
        rw [HGS.out, ← HE.out.1]
        exact ⟨rfl, vc, H5.out.1, H5.out.2.1, H5.out.2.2.1.none, Nx.refl _ _⟩
end Go.Proofs.YtokebnkgjchfaaaGreatDoor
