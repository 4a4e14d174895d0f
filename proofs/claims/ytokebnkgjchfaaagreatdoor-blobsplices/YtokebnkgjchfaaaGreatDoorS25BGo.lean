/-
  Going to bytes: what reading does, as the plain one says. Conditions: the get keeps its word; places within a file.
-/
import Derived.Test.YtokebnkgjchfaaaGreatDoorS19BGo0
namespace Go.Proofs.YtokebnkgjchfaaaGreatDoor
open Go.RowKit
theorem own_part {w : World} {B : Nat} {ao : Option Addr} {m cap : Nat} {xs : List Part} (h : w.ownsRow B 25 2 (.slice ao m cap) xs.length (xs.flatMap partC)) {j : Nat} (hj : j < xs.length) :
    ∃ b off, ao = some ⟨b, off, none⟩ ∧ w.cell? ⟨b, off + j * 2, none⟩ = some (.string (strB xs[j].1)) ∧ w.cell? ⟨b, off + j * 2 + 1, none⟩ = some (.int .i64 xs[j].2) := by
  obtain ⟨ao', cap', hv, -, -, h4⟩ := ls_of_own partC_length h
  injection hv with h1 h2 h3
  subst h1
  obtain ⟨b, off, ha, -, hc⟩ := h4 (by rintro rfl; simp at hj)
  exact ⟨b, off, ha, hc j hj 0 _ rfl, hc j hj 1 _ rfl⟩
theorem goS_skip {fd : Bs → Option Bs} {lo hi : Int} {k : Nat} {p : Part} {a level : Int} {s : Wk} (h : min hi (a + p.2) ≤ max lo a) : goS fd lo hi (k + 1) p a level s = s := by rw [goS, if_pos (.inr h)]
theorem goS_bad {fd : Bs → Option Bs} {lo hi : Int} {k : Nat} {p : Part} {a level : Int} {s : Wk} (hs : s.bad = 0) (h : max lo a < min hi (a + p.2)) (h2 : (askN fd p level).1 ≠ 0) : goS fd lo hi (k + 1) p a level s = ⟨s.asked ++ [p.1], s.data, s.parts, (askN fd p level).1⟩ := by
  rw [goS, if_neg (fun hq => hq.elim (fun h' => h' hs) (fun h' => absurd h (Int.not_lt.2 h'))), if_pos h2]
theorem goS_chunk {fd : Bs → Option Bs} {lo hi : Int} {k : Nat} {p : Part} {a level : Int} {s : Wk} (hs : s.bad = 0) (h : max lo a < min hi (a + p.2)) (h2 : (askN fd p level).1 = 0) (h3 : (askN fd p level).2.1 = 0) : goS fd lo hi (k + 1) p a level s = ⟨s.asked ++ [p.1], s.data ++ ((askN fd p level).2.2.1.take (min hi (a + p.2) - a).toNat).drop (max lo a - a).toNat, s.parts ++ [p], 0⟩ := by
  rw [goS, if_neg (fun hq => hq.elim (fun h' => h' hs) (fun h' => absurd h (Int.not_lt.2 h'))), if_neg (fun h' => h' h2), if_pos h3]
theorem goS_fan {fd : Bs → Option Bs} {lo hi : Int} {k : Nat} {p : Part} {a level : Int} {s : Wk} (hs : s.bad = 0) (h : max lo a < min hi (a + p.2)) (h2 : (askN fd p level).1 = 0) (h3 : ¬ (askN fd p level).2.1 = 0) : goS fd lo hi (k + 1) p a level s = eachP (fun q b t => goS fd lo hi k q b ((askN fd p level).2.1 - 1) t) (askN fd p level).2.2.2 a ⟨s.asked ++ [p.1], s.data, s.parts, 0⟩ := by
  rw [goS, if_neg (fun hq => hq.elim (fun h' => h' hs) (fun h' => absurd h (Int.not_lt.2 h'))), if_neg (fun h' => h' h2), if_neg h3]
set_option maxRecDepth 40000 in
set_option maxHeartbeats 6400000 in
theorem goTo_any (g gf : Nat) (caps : Array Value) (fd : Bs → Option Bs) (B : Nat) (I : World → List Bs → Prop) (hG : GetOk gf caps fd B rts I) (lo hi : Int) (_hlo : 0 ≤ lo) (_hlo2 : lo ≤ 9223372036854775807) (_hhi0 : 0 ≤ hi) (_hhi : hi ≤ 262144) : ∀ (k : Nat) (w : World) (p : Part) (a level : Int) (s : Wk), (level = -1 ∧ 21 ≤ k ∨ 0 ≤ level ∧ level < k) → 0 ≤ a → 0 ≤ p.2 → a + p.2 ≤ 262144 → s.bad = 0 → RdW B w g (.func (.func gf) #[] caps) lo hi s.data → I w s.asked → s.asked.length + k * p.2.toNat ≤ 4294967296 → s.data.length + p.2.toNat ≤ 4294967296 →
    Calls Tryz.prog 34 #[.pointer (some ⟨g, 0, none⟩), .agg #[.string (strB p.1), .int .i64 p.2, .int .i64 a], .int .i64 level] w fun e w' => e = .returned (.int .i64 (goS fd lo hi k p a level s).bad) ∧ RdW B w' g (.func (.func gf) #[] caps) lo hi (goS fd lo hi k p a level s).data ∧ I w' (goS fd lo hi k p a level s).asked ∧ Mv B gts none w w' := by
  intro k
  induction k with
  | zero =>
    intro w p a level s hlv
    omega
  | succ k ih =>
    intro w p a level s hlv ha hp hap hbad hR hI hn1 hn2
    have hB := hG.le _ _ hI
    have HR := hide hR
    obtain ⟨hgB, vd, hh, hd⟩ := hR
    have hb0 : Below w.heap.size w (w.alloc (.cells #[.string (strB p.1), .int .i64 p.2, .int .i64 a] 82)) := (Below.refl _ _).alloc (Nat.le_refl _) _
    have hq0 := heap_last w (.cells #[.string (strB p.1), .int .i64 p.2, .int .i64 a] 82) _ rfl
    have hh0 := (hb0.block _ (lt_of_heap hh)).trans hh
    generalize hw0 : w.alloc (.cells #[.string (strB p.1), .int .i64 p.2, .int .i64 a] 82) = w0 at *
    have r1 := cell_of_row w0 g 1 _ _ _ hh0
    have r2 := cell_of_row w0 g 2 _ _ _ hh0
    have q0 := cell_of_row w0 w.heap.size 0 _ _ _ hq0
    have q1 := cell_of_row w0 w.heap.size 1 _ _ _ hq0
    have q2 := cell_of_row w0 w.heap.size 2 _ _ _ hq0
    simp only [List.getElem?_toArray, List.getElem?_cons_zero, List.getElem?_cons_succ] at r1 r2 q0 q1 q2
    have hbg := begin_any w0.drew (strB p.1) p.2 a
    have HC : Hid (∀ W : World, Below w0.heap.size w0 W → W.cell? ⟨g, 1, none⟩ = some (.int .i64 lo) ∧ W.cell? ⟨g, 2, none⟩ = some (.int .i64 hi) ∧ W.cell? ⟨w.heap.size, 0, none⟩ = some (.string (strB p.1)) ∧ W.cell? ⟨w.heap.size, 1, none⟩ = some (.int .i64 p.2) ∧ W.cell? ⟨w.heap.size, 2, none⟩ = some (.int .i64 a)) := hide fun W hb => ⟨(hb.cell (p := ⟨g, 1, none⟩) (lt_of_heap hh0)).trans r1, (hb.cell (p := ⟨g, 2, none⟩) (lt_of_heap hh0)).trans r2, (hb.cell (p := ⟨w.heap.size, 0, none⟩) (lt_of_heap hq0)).trans q0, (hb.cell (p := ⟨w.heap.size, 1, none⟩) (lt_of_heap hq0)).trans q1, (hb.cell (p := ⟨w.heap.size, 2, none⟩) (lt_of_heap hq0)).trans q2⟩
    have H0 := hide (And.intro hb0 (And.intro hq0 hh0))
    obtain ⟨x, hx⟩ : ∃ x, x = max lo a := ⟨_, rfl⟩
    obtain ⟨y, hy⟩ : ∃ y, y = min hi (a + p.2) := ⟨_, rfl⟩
    have hmx : (if lo < a then a else lo) = x := by rw [hx]; split <;> omega
    have hmn : (if a + p.2 < hi then a + p.2 else hi) = y := by rw [hy]; split <;> omega
    have HXY := hide (And.intro hx hy)
    have HI := hide hI
    have HBAD := hide hbad
    have HN := hide (And.intro hn1 hn2)
    clear hb0 hq0 hh0 hh hd hx hy hI hbad hn1 hn2
    go_enter Tryz.func34, Tryz.ntmps34
    go_wp2_with fail
    try rw [hw0]
    refine wp_region_held_drew (S := fun W => W.cell? ⟨g, 1, none⟩ = some (.int .i64 lo) ∧ W.cell? ⟨g, 2, none⟩ = some (.int .i64 hi) ∧ W.cell? ⟨w.heap.size, 0, none⟩ = some (.string (strB p.1)) ∧ W.cell? ⟨w.heap.size, 1, none⟩ = some (.int .i64 p.2) ∧ W.cell? ⟨w.heap.size, 2, none⟩ = some (.int .i64 a)) (by kernel_rfl) (⟨r1, r2, q0, q1, q2⟩) (fun hHeld => ?_)
    refine takeJ 0 (v := ?_) ?_ hHeld ?_
    rotate_left
    · rintro w ⟨_, _, _, _, _⟩; go_simp; try with_reducible rfl
    refine takeJ 1 (v := ?_) ?_ hHeld ?_
    rotate_left
    · rintro w ⟨_, _, _, _, _⟩; go_simp; try with_reducible rfl
    refine takeJ 2 (v := ?_) ?_ hHeld ?_
    rotate_left
    · rintro w ⟨_, _, _, _, _⟩; go_simp; try with_reducible rfl
    refine takeJ 3 (v := ?_) ?_ hHeld ?_
    rotate_left
    · rintro w ⟨_, _, _, _, _⟩; go_simp; try with_reducible rfl
    refine takeJ 4 (v := ?_) ?_ hHeld ?_
    rotate_left
    · rintro w ⟨_, _, _, _, _⟩; go_simp; try with_reducible rfl
    refine takeJ 7 (v := ?_) ?_ hHeld ?_
    rotate_left
    · rintro w ⟨_, _, _, _, _⟩; go_simp; try with_reducible rfl
    refine takeJ 8 (v := ?_) ?_ hHeld ?_
    rotate_left
    · rintro w ⟨_, _, _, _, _⟩; go_simp; try with_reducible rfl
    refine takeJ 9 (v := ?_) ?_ hHeld ?_
    rotate_left
    · rintro w ⟨_, _, _, _, _⟩; go_simp; try with_reducible rfl
    refine takeJ 10 (v := ?_) ?_ hHeld ?_
    rotate_left
    · rintro w ⟨_, _, _, _, _⟩; go_simp; try with_reducible rfl
    refine takeJ 11 (v := ?_) ?_ hHeld ?_
    rotate_left
    · rintro w ⟨_, _, _, _, _⟩; go_simp; try with_reducible rfl
    refine onlyH (i := 5) rfl (by kernel_rfl) rfl (fun K hK => ?_)
    go_simp
    refine hbg.mono ?_
    rintro e w1 ⟨rfl, rfl⟩
    go_simp
    refine hK.out _ _ (HC.out _ (((Below.refl _ _).alloc (Nat.le_refl _) _).drew)) (fun hHeld => ?_)
    clear hK K
    try simp only [Act.put, List.setIfInBounds_toArray, List.set_cons_zero, List.set_cons_succ]
    refine takeJ 6 (v := ?_) ?_ hHeld ?_
    rotate_left
    · rintro w ⟨_, _, _, _, _⟩; go_simp; try with_reducible rfl
    refine onlyH (i := 12) rfl (by kernel_rfl) rfl (fun K hK => ?_)
    go_simp
    refine (end_any _ _ _ _ hp ha hap).mono ?_
    rintro e w2 ⟨rfl, rfl⟩
    go_simp
    refine hK.out _ _ (HC.out _ ((((Below.refl _ _).alloc (Nat.le_refl _) _).alloc (by simp) _).drew)) (fun hHeld => ?_)
    clear hK K
    try simp only [Act.put, List.setIfInBounds_toArray, List.set_cons_zero, List.set_cons_succ]
    refine takeJ 13 (v := ?_) ?_ hHeld ?_
    rotate_left
    · rintro w ⟨_, _, _, _, _⟩; go_simp; try with_reducible rfl
    refine takeJ 14 (v := ?_) ?_ hHeld ?_
    rotate_left
    · rintro w ⟨_, _, _, _, _⟩; go_simp; try with_reducible rfl
    refine takeJ 15 (v := ?_) ?_ hHeld ?_
    rotate_left
    · rintro w ⟨_, _, _, _, _⟩; go_simp; try with_reducible rfl
    refine wpAnyH_done (by kernel_rfl) ?_ _
    clear hHeld hbg r1 r2 q0 q1 q2
    have hb2 : Below w.heap.size w ((w0.alloc (.cells #[.string (strB p.1), .int .i64 p.2, .int .i64 a] 82)).alloc (.cells #[.string (strB p.1), .int .i64 p.2, .int .i64 a] 82)).drew := ((H0.out.1.alloc H0.out.1.size _).alloc (by have := H0.out.1.size; simp; omega) _).drew
    have hb02 : Below w0.heap.size w0 ((w0.alloc (.cells #[.string (strB p.1), .int .i64 p.2, .int .i64 a] 82)).alloc (.cells #[.string (strB p.1), .int .i64 p.2, .int .i64 a] 82)).drew := (((Below.refl _ _).alloc (Nat.le_refl _) _).alloc (by simp) _).drew
    have hq2 := (hb02.block _ (lt_of_heap H0.out.2.1)).trans H0.out.2.1
    have hh2 := (hb02.block _ (lt_of_heap H0.out.2.2)).trans H0.out.2.2
    have hR2 := HR.out.below hb2
    have hI2 := hG.below HI.out hb2
    generalize ((w0.alloc (.cells #[.string (strB p.1), .int .i64 p.2, .int .i64 a] 82)).alloc (.cells #[.string (strB p.1), .int .i64 p.2, .int .i64 a] 82)).drew = w2 at *
    have hs2 : w.heap.size ≤ w2.heap.size := hb2.size
    have H2 := hide (And.intro hb2 (And.intro hq2 (And.intro hR2 hI2)))
    clear hb2 hb02 hR2 hI2 HC H0 HR HI hw0
    by_cases hsk : y ≤ x
    · have hgs := goS_skip (fd := fd) (k := k) (p := p) (level := level) (s := s) (show min hi (a + p.2) ≤ max lo a by rw [← HXY.out.1, ← HXY.out.2]; exact hsk)
      have HGS := hide hgs
      clear hgs ih
      go_wp2
      go_ret
      rw [HGS.out, HBAD.out]
      exact ⟨rfl, H2.out.2.2.1, H2.out.2.2.2, Mv.of H2.out.1 hB⟩
    · have hnsk : max lo a < min hi (a + p.2) := by rw [← HXY.out.1, ← HXY.out.2]; omega
      have hsk2 : x < y := by omega
      have HNSK := hide hnsk
      clear hnsk hsk
      have r0 := cell_of_row w2 g 0 _ _ _ hh2
      have q0 := cell_of_row w2 w.heap.size 0 _ _ _ hq2
      have q1 := cell_of_row w2 w.heap.size 1 _ _ _ hq2
      simp only [List.getElem?_toArray, List.getElem?_cons_zero, List.getElem?_cons_succ] at r0 q0 q1
      have hasl : s.asked.length ≤ 4294967296 := by have := HN.out.1; omega
      have hask := ask_any w2.drew gf caps fd B rts I hG p level s.asked (hG.mv H2.out.2.2.2 (Mv.refl B rts none w2).drew) hasl
      have hask' := ask_any (w2.alloc (.cells #[.int .i64 0, .slice none 0 0, .string ⟨#[]⟩] 96)).drew gf caps fd B rts I hG p level s.asked (hG.below H2.out.2.2.2 (((Below.refl _ _).alloc (Nat.le_refl _) _).drew)) hasl
      have hz1 := (heap_past w2 (.cells #[.int .i64 0, .slice none 0 0, .string ⟨#[]⟩] 96) _ (lt_of_heap hh2)).trans hh2
      have hz2 := (heap_past w2 (.cells #[.int .i64 0, .slice none 0 0, .string ⟨#[]⟩] 96) _ (lt_of_heap hq2)).trans hq2
      have hz3 := heap_last w2 (.cells #[.int .i64 0, .slice none 0 0, .string ⟨#[]⟩] 96) _ rfl
      have HZ := hide (And.intro hz1 (And.intro hz2 hz3))
      have HH := hide hh2
      have z0 := cell_of_row _ g 0 _ _ _ hz1
      have z1 := cell_of_row _ w.heap.size 0 _ _ _ hz2
      have z2 := cell_of_row _ w.heap.size 1 _ _ _ hz2
      simp only [List.getElem?_toArray, List.getElem?_cons_zero, List.getElem?_cons_succ] at z0 z1 z2
      obtain ⟨er, her⟩ : ∃ er, er = (askN fd p level).1 := ⟨_, rfl⟩
      obtain ⟨n, hnn⟩ : ∃ n, n = (askN fd p level).2 := ⟨_, rfl⟩
      unfold askSaid at hask hask'
      rw [← her, ← hnn] at hask hask'
      have HE := hide (And.intro her hnn)
      clear her hnn hz1 hz2 hz3
      go_wp2_with fail
      refine wp_region_held_drew (S := fun W => W.cell? ⟨g, 0, none⟩ = some (.func (.func gf) #[] caps) ∧ W.cell? ⟨w.heap.size, 0, none⟩ = some (.string (strB p.1)) ∧ W.cell? ⟨w.heap.size, 1, none⟩ = some (.int .i64 p.2)) (by kernel_rfl) (⟨r0, q0, q1⟩) (fun hHeld => ?_)
      refine takeJ 0 (v := ?_) ?_ hHeld ?_
      rotate_left
      · rintro w ⟨_, _, _⟩; go_simp; try with_reducible rfl
      refine takeJ 1 (v := ?_) ?_ hHeld ?_
      rotate_left
      · rintro w ⟨_, _, _⟩; go_simp; try with_reducible rfl
      refine takeJ 2 (v := ?_) ?_ hHeld ?_
      rotate_left
      · rintro w ⟨_, _, _⟩; go_simp; try with_reducible rfl
      refine takeJ 3 (v := ?_) ?_ hHeld ?_
      rotate_left
      · rintro w ⟨_, _, _⟩; go_simp; try with_reducible rfl
      refine takeJ 4 (v := ?_) ?_ hHeld ?_
      rotate_left
      · rintro w ⟨_, _, _⟩; go_simp; try with_reducible rfl
      refine takeJ 5 (v := ?_) ?_ hHeld ?_
      rotate_left
      · rintro w ⟨_, _, _⟩; go_simp; try with_reducible rfl
      refine takeJ 6 (v := ?_) ?_ hHeld ?_
      rotate_left
      · rintro w ⟨_, _, _⟩; go_simp; try with_reducible rfl
      refine twoH (i := 7) (j := 11) rfl rfl (by kernel_rfl) rfl rfl (fun K hK => ?_) (fun K hK => ?_)
      · go_simp
        refine hask.mono ?_
        rintro e w3 ⟨⟨v, rfl, hov⟩, hI3, hM3⟩
        have hM3' : Mv B ats none w2 w3 := ((Mv.refl B ats none w2).drew).trans hM3 (Nx.refl _ _)
        have hh3 := hM3'.k _ _ _ _ HH.out (by decide) (by simp)
        have hq3 := hM3'.k _ _ _ _ H2.out.2.1 (by decide) (by simp)
        have hR3 := H2.out.2.2.1.keep hM3' (by decide) (by decide)
        have hs3 : w2.heap.size ≤ w3.heap.size := hM3'.size
        obtain ⟨va, vm, vc, rfl⟩ := row_form hov
        clear hask hask'
        have a0 := cell_of_row w3 g 0 _ _ _ hh3
        have a1 := cell_of_row w3 w.heap.size 0 _ _ _ hq3
        have a2 := cell_of_row w3 w.heap.size 1 _ _ _ hq3
        simp only [List.getElem?_toArray, List.getElem?_cons_zero, List.getElem?_cons_succ] at a0 a1 a2
        go_simp
        refine hK.out _ _ (⟨a0, a1, a2⟩) (fun hHeld => ?_)
        clear hK K
        try simp only [Act.put, List.setIfInBounds_toArray, List.set_cons_zero, List.set_cons_succ]
        refine takeJ 8 (v := ?_) ?_ hHeld ?_
        rotate_left
        · rintro w ⟨_, _, _⟩; go_simp; try with_reducible rfl
        refine takeJ 9 (v := ?_) ?_ hHeld ?_
        rotate_left
        · rintro w ⟨_, _, _⟩; go_simp; try with_reducible rfl
        refine takeJ 10 (v := ?_) ?_ hHeld ?_
        rotate_left
        · rintro w ⟨_, _, _⟩; go_simp; try with_reducible rfl
        have hh4 := (heap_past w3 (.cells #[.int .i64 0, .slice none 0 0, .string ⟨#[]⟩] 96) _ (lt_of_heap hh3)).trans hh3
        have hq4 := (heap_past w3 (.cells #[.int .i64 0, .slice none 0 0, .string ⟨#[]⟩] 96) _ (lt_of_heap hq3)).trans hq3
        have b0 := cell_of_row _ g 0 _ _ _ hh4
        have b1 := cell_of_row _ w.heap.size 0 _ _ _ hq4
        have b2 := cell_of_row _ w.heap.size 1 _ _ _ hq4
        simp only [List.getElem?_toArray, List.getElem?_cons_zero, List.getElem?_cons_succ] at b0 b1 b2
        have hh5 := (heap_past w3 (.cells #[.int .i64 n.1, .slice va vm vc, .string (strB n.2.1)] 96) _ (lt_of_heap hh3)).trans hh3
        have hq5 := (heap_past w3 (.cells #[.int .i64 n.1, .slice va vm vc, .string (strB n.2.1)] 96) _ (lt_of_heap hq3)).trans hq3
        have c0 := cell_of_row _ g 0 _ _ _ hh5
        have c1 := cell_of_row _ w.heap.size 0 _ _ _ hq5
        have c2 := cell_of_row _ w.heap.size 1 _ _ _ hq5
        simp only [List.getElem?_toArray, List.getElem?_cons_zero, List.getElem?_cons_succ] at c0 c1 c2
        refine onlyH (i := 11) rfl (by kernel_rfl) rfl (fun K hK => ?_)
        go_simp
        refine hK.out _ _ (⟨b0, b1, b2⟩) (fun hHeld => ?_)
        clear hK K
        try simp only [Act.put, List.setIfInBounds_toArray, List.set_cons_zero, List.set_cons_succ]
        refine onlyH (i := 12) rfl (by kernel_rfl) rfl (fun K hK => ?_)
        go_simp
        refine hK.out _ _ (⟨c0, c1, c2⟩) (fun hHeld => ?_)
        clear hK K
        try simp only [Act.put, List.setIfInBounds_toArray, List.set_cons_zero, List.set_cons_succ]
        refine takeJ 13 (v := ?_) ?_ hHeld ?_
        rotate_left
        · rintro w ⟨_, _, _⟩; go_simp; try with_reducible rfl
        refine wpAnyH_done (by kernel_rfl) ?_ _
        clear hHeld a0 a1 a2 b0 b1 b2 c0 c1 c2 hh4 hq4 r0 q0 q1 z0 z1 z2
        have hB3 : Below w3.heap.size w3 (w3.alloc (.cells #[.int .i64 n.1, .slice va vm vc, .string (strB n.2.1)] 96)) := (Below.refl _ _).alloc (Nat.le_refl _) _
        have hy5 := heap_last w3 (.cells #[.int .i64 n.1, .slice va vm vc, .string (strB n.2.1)] 96) _ rfl
        have hR5 := hR3.below hB3
        have hI5 := hG.below hI3 hB3
        have hM5 : Mv B gts none w (w3.alloc (.cells #[.int .i64 n.1, .slice va vm vc, .string (strB n.2.1)] 96)) := (((Mv.of H2.out.1 hB).trans hM3' (Nx.refl _ _)).types (by decide)).alloc (by omega) _
        have hov5 := (own_down hov (show w2.heap.size ≤ w2.drew.heap.size from Nat.le_refl _)).alloc (.cells #[.int .i64 n.1, .slice va vm vc, .string (strB n.2.1)] 96)
        have hnb : w3.heap.size < (w3.alloc (.cells #[.int .i64 n.1, .slice va vm vc, .string (strB n.2.1)] 96)).heap.size := by simp
        generalize w3.alloc (.cells #[.int .i64 n.1, .slice va vm vc, .string (strB n.2.1)] 96) = w5 at *
        generalize w3.heap.size = nb at *
        have H5 := hide (And.intro hR5 (And.intro hI5 (And.intro hM5 (And.intro hov5 (And.intro hy5 hq5)))))
        clear hR5 hI5 hM5 hov5 hR3 hI3 hM3 hM3' hov hB3 hh3 hq3
        by_cases he0 : er = 0
        · subst he0
          have hA := askN_ok HE.out.1.symm
          rw [← HE.out.2] at hA
          obtain ⟨hrt, hsn, hlvn⟩ := hA
          have d0 := cell_of_row w5 nb 0 _ _ _ hy5
          have d1 := cell_of_row w5 nb 1 _ _ _ hy5
          have d2 := cell_of_row w5 nb 2 _ _ _ hy5
          simp only [List.getElem?_toArray, List.getElem?_cons_zero, List.getElem?_cons_succ] at d0 d1 d2
          by_cases hn0 : n.1 = 0
          · have hgs := goS_chunk (fd := fd) (k := k) (p := p) (level := level) (s := s) HBAD.out HNSK.out HE.out.1.symm (HE.out.2 ▸ hn0)
            have hlen : (n.2.1.length : Int) = p.2 := by
              unfold sizeN at hsn
              rw [hrt.kids hn0, sizeP_nil] at hsn
              omega
            obtain ⟨b1, b2, b3, b4⟩ : a ≤ x ∧ y ≤ a + p.2 ∧ 0 ≤ x - a ∧ y - a ≤ p.2 := by have h1 := HXY.out.1; have h2 := HXY.out.2; omega
            obtain ⟨i, hi1⟩ := Int.eq_ofNat_of_zero_le b3
            obtain ⟨j, hj1⟩ := Int.eq_ofNat_of_zero_le (show 0 ≤ y - a by omega)
            have hij : i ≤ j ∧ j ≤ n.2.1.length := by omega
            have hgs2 : goS fd lo hi (k + 1) p a level s = ⟨s.asked ++ [p.1], s.data ++ (n.2.1.take j).drop i, s.parts ++ [p], 0⟩ := by
              rw [hgs, ← HE.out.2, ← HXY.out.1, ← HXY.out.2, hi1, hj1]
              rfl
            have HGS := hide hgs2
            have hbn : (n.1 == 0) = true := by rw [hn0]; rfl
            have hsl := fun W => slice_str W n.2.1 i j hij.1 hij.2
            have hds := strB_size n.2.1
            obtain ⟨hgB', vd, hh6, hd6⟩ := H5.out.1
            have hBw : B ≤ w5.heap.size := by have := lt_of_heap hh6; omega
            have hdl : s.data.length + ((n.2.1.take j).drop i).length ≤ 140737488355328 := by have := HN.out.2; simp; omega
            have hdA : ((w5.alloc (.cells #[.string (strB p.1), .int .i64 p.2, .int .i64 a] 82)).alloc (.cells #[.string (strB p.1), .int .i64 p.2, .int .i64 a] 82)).drew.ownsRow B 5 1 vd s.data.length (bc s.data) := World.ownsRow.alloc (hd6.alloc _) _
            obtain ⟨vx, w7, hrun7, hd7, hgr7⟩ := app_str (m := (n.2.1.take j).drop i) hdA hdl (show B ≤ ((w5.alloc (.cells #[.string (strB p.1), .int .i64 p.2, .int .i64 a] 82)).alloc (.cells #[.string (strB p.1), .int .i64 p.2, .int .i64 a] 82)).drew.heap.size by simp; omega)
            have hBA : Below w5.heap.size w5 (w5.alloc (.cells #[.string (strB p.1), .int .i64 p.2, .int .i64 a] 82)) := (Below.refl _ _).alloc (Nat.le_refl _) _
            have hBB : Below w5.heap.size w5 ((w5.alloc (.cells #[.string (strB p.1), .int .i64 p.2, .int .i64 a] 82)).alloc (.cells #[.string (strB p.1), .int .i64 p.2, .int .i64 a] 82)).drew := (hBA.alloc (by simp) _).drew
            have hhA := (hBA.block _ (lt_of_heap hh6)).trans hh6
            have hhB := (hBB.block _ (lt_of_heap hh6)).trans hh6
            have hqA := (hBA.block _ (lt_of_heap hq5)).trans hq5
            have hqB := (hBB.block _ (lt_of_heap hq5)).trans hq5
            have hyA := (hBA.block _ (lt_of_heap hy5)).trans hy5
            have hyB := (hBB.block _ (lt_of_heap hy5)).trans hy5
            have hh7 := grow_keep hdA hgr7 hhB (by decide)
            have hq7 := grow_keep hdA hgr7 hqB (by decide)
            have hy7 := grow_keep hdA hgr7 hyB (by decide)
            have hm7 : Mv B [5, 79] none w5 w7 := (Mv.of hBB hBw).grown hdA hgr7 (by decide) (by simp; omega)
            have hm8 : Mv B [5, 79] none w5 (w7.setCell ⟨g, 3, none⟩ vx) := hm7.set hh7 (by decide) hgB' _
            have hfin : RdW B (w7.setCell ⟨g, 3, none⟩ vx) g (.func (.func gf) #[] caps) lo hi (s.data ++ (n.2.1.take j).drop i) ∧ I (w7.setCell ⟨g, 3, none⟩ vx) (s.asked ++ [p.1]) ∧ Mv B gts none w (w7.setCell ⟨g, 3, none⟩ vx) :=
              ⟨⟨hgB', vx, heap_set4d hh7, own_setCell hd7 hh7 (by decide) _⟩, hG.mv H5.out.2.1 (hm8.types (by decide)), H5.out.2.2.1.trans (hm8.types (by decide)) (Nx.refl _ _)⟩
            have FIN := hide hfin
            have HRUN := hide hrun7
            have hq8 := (heap_setOther (j := 3) (u := vx) (ne_type hq7 hh7 (by decide))).trans hq7
            have hy8 := (heap_setOther (j := 3) (u := vx) (ne_type hy7 hh7 (by decide))).trans hy7
            have cells : ∀ W : World, W.heap[w.heap.size]? = some (.cells #[.string (strB p.1), .int .i64 p.2, .int .i64 a] 82) → W.heap[nb]? = some (.cells #[.int .i64 n.1, .slice va vm vc, .string (strB n.2.1)] 96) → W.cell? ⟨nb, 2, none⟩ = some (.string (strB n.2.1)) ∧ W.cell? ⟨w.heap.size, 0, none⟩ = some (.string (strB p.1)) ∧ W.cell? ⟨w.heap.size, 1, none⟩ = some (.int .i64 p.2) ∧ W.cell? ⟨w.heap.size, 2, none⟩ = some (.int .i64 a) := fun W h1 h2 => by
              have e0 := cell_of_row W nb 2 _ _ _ h2
              have e1 := cell_of_row W w.heap.size 0 _ _ _ h1
              have e2 := cell_of_row W w.heap.size 1 _ _ _ h1
              have e3 := cell_of_row W w.heap.size 2 _ _ _ h1
              simp only [List.getElem?_toArray, List.getElem?_cons_zero, List.getElem?_cons_succ] at e0 e1 e2 e3
              exact ⟨e0, e1, e2, e3⟩
            have HC5 := hide (cells _ hq5 hy5)
            have HCA := hide (cells _ hqA hyA)
            have HCB := hide (cells _ hqB hyB)
            have HC7 := hide (cells _ hq7 hy7)
            have HC8 := hide (cells _ hq8 hy8)
            have g5 := cell_of_row w5 g 3 _ _ _ hh6
            have gA := cell_of_row _ g 3 _ _ _ hhA
            have gB := cell_of_row _ g 3 _ _ _ hhB
            have g7 := cell_of_row w7 g 3 _ _ _ hh7
            have f7 := frozen0 (j := 3) hh7
            simp only [List.getElem?_toArray, List.getElem?_cons_zero, List.getElem?_cons_succ] at g5 gA gB g7
            have bgA := begin_any w5.drew (strB p.1) p.2 a
            have bgB := begin_any (w5.alloc (.cells #[.string (strB p.1), .int .i64 p.2, .int .i64 a] 82)).drew (strB p.1) p.2 a
            have hwi : IntKind.i64.wrap (x - a) = (i : Int) := by rw [IntKind.wrap_i64]; omega
            have hwj : IntKind.i64.wrap (y - a) = (j : Int) := by rw [IntKind.wrap_i64]; omega
            obtain ⟨vdA, vdm, vdc, rfl⟩ := row_form hd6
            obtain ⟨vxA, vxm, vxc, rfl⟩ := row_form hd7
            have hij1 := hij.1
            have hij2 := hij.2
            clear hgs hgs2 ih hfin hrun7 hq8 hy8 hq7 hy7 hh7 hyB hyA hqB hqA hhB hhA hBB hBA hd7 hdA hgr7 hm7 hm8 hd6 hh6 cells hdl hBw d1 hsn hrt hlvn hij hi1 hj1 b1 b2 b3 b4
            go_wp2_with fail
            refine wp_region_held_drew (S := fun W => W.cell? ⟨nb, 2, none⟩ = some (.string (strB n.2.1)) ∧ W.cell? ⟨w.heap.size, 0, none⟩ = some (.string (strB p.1)) ∧ W.cell? ⟨w.heap.size, 1, none⟩ = some (.int .i64 p.2) ∧ W.cell? ⟨w.heap.size, 2, none⟩ = some (.int .i64 a)) (by kernel_rfl) (HC5.out) (fun hHeld => ?_)
            refine takeJ 0 (v := ?_) ?_ hHeld ?_
            rotate_left
            · rintro w ⟨_, _, _, _⟩; go_simp; try with_reducible rfl
            refine takeJ 1 (v := ?_) ?_ hHeld ?_
            rotate_left
            · rintro w ⟨_, _, _, _⟩; go_simp; try with_reducible rfl
            refine takeJ 2 (v := ?_) ?_ hHeld ?_
            rotate_left
            · rintro w ⟨_, _, _, _⟩; go_simp; try with_reducible rfl
            refine takeJ 3 (v := ?_) ?_ hHeld ?_
            rotate_left
            · rintro w ⟨_, _, _, _⟩; go_simp; try with_reducible rfl
            refine takeJ 5 (v := ?_) ?_ hHeld ?_
            rotate_left
            · rintro w ⟨_, _, _, _⟩; go_simp; try with_reducible rfl
            refine takeJ 6 (v := ?_) ?_ hHeld ?_
            rotate_left
            · rintro w ⟨_, _, _, _⟩; go_simp; try with_reducible rfl
            refine takeJ 7 (v := ?_) ?_ hHeld ?_
            rotate_left
            · rintro w ⟨_, _, _, _⟩; go_simp; try with_reducible rfl
            refine takeJ 8 (v := ?_) ?_ hHeld ?_
            rotate_left
            · rintro w ⟨_, _, _, _⟩; go_simp; try with_reducible rfl
            refine takeJ 11 (v := ?_) ?_ hHeld ?_
            rotate_left
            · rintro w ⟨_, _, _, _⟩; go_simp; try with_reducible rfl
            refine takeJ 12 (v := ?_) ?_ hHeld ?_
            rotate_left
            · rintro w ⟨_, _, _, _⟩; go_simp; try with_reducible rfl
            refine twoH (i := 4) (j := 9) rfl rfl (by kernel_rfl) rfl rfl (fun K hK => ?_) (fun K hK => ?_)
            · go_simp
              refine hK.out _ _ (HC5.out) (fun hHeld => ?_)
              clear hK K
              try simp only [Act.put, List.setIfInBounds_toArray, List.set_cons_zero, List.set_cons_succ]
              refine onlyH (i := 9) rfl (by kernel_rfl) rfl (fun K hK => ?_)
              go_simp
              refine bgA.mono ?_
              rintro e w6 ⟨rfl, rfl⟩
              go_simp
              refine hK.out _ _ (HCA.out) (fun hHeld => ?_)
              clear hK K
              try simp only [Act.put, List.setIfInBounds_toArray, List.set_cons_zero, List.set_cons_succ]
              refine takeJ 10 (v := ?_) ?_ hHeld ?_
              rotate_left
              · rintro w ⟨_, _, _, _⟩; go_simp; try with_reducible rfl
              refine onlyH (i := 13) rfl (by kernel_rfl) rfl (fun K hK => ?_)
              go_simp
              refine bgB.mono ?_
              rintro e w6 ⟨rfl, rfl⟩
              go_simp
              refine hK.out _ _ (HCB.out) (fun hHeld => ?_)
              clear hK K
              try simp only [Act.put, List.setIfInBounds_toArray, List.set_cons_zero, List.set_cons_succ]
              refine takeJ 14 (v := ?_) ?_ hHeld ?_
              rotate_left
              · rintro w ⟨_, _, _, _⟩; go_simp; try with_reducible rfl
              refine takeJ 15 (v := ?_) ?_ hHeld ?_
              rotate_left
              · rintro w ⟨_, _, _, _⟩; go_simp; try with_reducible rfl
              refine onlyH (i := 16) rfl (by kernel_rfl) rfl (fun K hK => ?_)
              refine wp_append_run2 (.tmp 55) (.tmp 66) 74 9 rfl rfl rfl HRUN.out ?_
              refine hK.out _ _ (HC7.out) (fun hHeld => ?_)
              clear hK K
              try simp only [Act.put, List.setIfInBounds_toArray, List.set_cons_zero, List.set_cons_succ]
              refine takeJ 17 (v := ?_) ?_ hHeld ?_
              rotate_left
              · rintro w ⟨_, _, _, _⟩; go_simp; try with_reducible rfl
              refine takeJ 18 (v := ?_) ?_ hHeld ?_
              rotate_left
              · rintro w ⟨_, _, _, _⟩; go_simp; try with_reducible rfl
              refine onlyH (i := 19) rfl (by kernel_rfl) rfl (fun K hK => ?_)
              go_simp
              refine hK.out _ _ (HC8.out) (fun hHeld => ?_)
              clear hK K
              try simp only [Act.put, List.setIfInBounds_toArray, List.set_cons_zero, List.set_cons_succ]
              refine wpAnyH_done (by kernel_rfl) ?_ _
              clear hHeld
              go_wp2
              go_ret
              rw [HGS.out]
              exact ⟨rfl, FIN.out.1, FIN.out.2.1, FIN.out.2.2⟩
            · go_simp
              refine bgA.mono ?_
              rintro e w6 ⟨rfl, rfl⟩
              go_simp
              refine hK.out _ _ (HCA.out) (fun hHeld => ?_)
              clear hK K
              try simp only [Act.put, List.setIfInBounds_toArray, List.set_cons_zero, List.set_cons_succ]
              refine takeJ 10 (v := ?_) ?_ hHeld ?_
              rotate_left
              · rintro w ⟨_, _, _, _⟩; go_simp; try with_reducible rfl
              refine twoH (i := 4) (j := 13) rfl rfl (by kernel_rfl) rfl rfl (fun K hK => ?_) (fun K hK => ?_)
              · go_simp
                refine hK.out _ _ (HCA.out) (fun hHeld => ?_)
                clear hK K
                try simp only [Act.put, List.setIfInBounds_toArray, List.set_cons_zero, List.set_cons_succ]
                refine onlyH (i := 13) rfl (by kernel_rfl) rfl (fun K hK => ?_)
                go_simp
                refine bgB.mono ?_
                rintro e w6 ⟨rfl, rfl⟩
                go_simp
                refine hK.out _ _ (HCB.out) (fun hHeld => ?_)
                clear hK K
                try simp only [Act.put, List.setIfInBounds_toArray, List.set_cons_zero, List.set_cons_succ]
                refine takeJ 14 (v := ?_) ?_ hHeld ?_
                rotate_left
                · rintro w ⟨_, _, _, _⟩; go_simp; try with_reducible rfl
                refine takeJ 15 (v := ?_) ?_ hHeld ?_
                rotate_left
                · rintro w ⟨_, _, _, _⟩; go_simp; try with_reducible rfl
                refine onlyH (i := 16) rfl (by kernel_rfl) rfl (fun K hK => ?_)
                refine wp_append_run2 (.tmp 55) (.tmp 66) 74 9 rfl rfl rfl HRUN.out ?_
                refine hK.out _ _ (HC7.out) (fun hHeld => ?_)
                clear hK K
                try simp only [Act.put, List.setIfInBounds_toArray, List.set_cons_zero, List.set_cons_succ]
                refine takeJ 17 (v := ?_) ?_ hHeld ?_
                rotate_left
                · rintro w ⟨_, _, _, _⟩; go_simp; try with_reducible rfl
                refine takeJ 18 (v := ?_) ?_ hHeld ?_
                rotate_left
                · rintro w ⟨_, _, _, _⟩; go_simp; try with_reducible rfl
                refine onlyH (i := 19) rfl (by kernel_rfl) rfl (fun K hK => ?_)
                go_simp
                refine hK.out _ _ (HC8.out) (fun hHeld => ?_)
                clear hK K
                try simp only [Act.put, List.setIfInBounds_toArray, List.set_cons_zero, List.set_cons_succ]
                refine wpAnyH_done (by kernel_rfl) ?_ _
                clear hHeld
                go_wp2
                go_ret
                rw [HGS.out]
                exact ⟨rfl, FIN.out.1, FIN.out.2.1, FIN.out.2.2⟩
              · go_simp
                refine bgB.mono ?_
                rintro e w6 ⟨rfl, rfl⟩
                go_simp
                refine hK.out _ _ (HCB.out) (fun hHeld => ?_)
                clear hK K
                try simp only [Act.put, List.setIfInBounds_toArray, List.set_cons_zero, List.set_cons_succ]
                refine takeJ 14 (v := ?_) ?_ hHeld ?_
                rotate_left
                · rintro w ⟨_, _, _, _⟩; go_simp; try with_reducible rfl
                refine takeJ 15 (v := ?_) ?_ hHeld ?_
                rotate_left
                · rintro w ⟨_, _, _, _⟩; go_simp; try with_reducible rfl
                refine onlyH (i := 4) rfl (by kernel_rfl) rfl (fun K hK => ?_)
                go_simp
                refine hK.out _ _ (HCB.out) (fun hHeld => ?_)
                clear hK K
                try simp only [Act.put, List.setIfInBounds_toArray, List.set_cons_zero, List.set_cons_succ]
                refine onlyH (i := 16) rfl (by kernel_rfl) rfl (fun K hK => ?_)
                refine wp_append_run2 (.tmp 55) (.tmp 66) 74 9 rfl rfl rfl HRUN.out ?_
                refine hK.out _ _ (HC7.out) (fun hHeld => ?_)
                clear hK K
                try simp only [Act.put, List.setIfInBounds_toArray, List.set_cons_zero, List.set_cons_succ]
                refine takeJ 17 (v := ?_) ?_ hHeld ?_
                rotate_left
                · rintro w ⟨_, _, _, _⟩; go_simp; try with_reducible rfl
                refine takeJ 18 (v := ?_) ?_ hHeld ?_
                rotate_left
                · rintro w ⟨_, _, _, _⟩; go_simp; try with_reducible rfl
                refine onlyH (i := 19) rfl (by kernel_rfl) rfl (fun K hK => ?_)
                go_simp
                refine hK.out _ _ (HC8.out) (fun hHeld => ?_)
                clear hK K
                try simp only [Act.put, List.setIfInBounds_toArray, List.set_cons_zero, List.set_cons_succ]
                refine wpAnyH_done (by kernel_rfl) ?_ _
                clear hHeld
                go_wp2
                go_ret
                rw [HGS.out]
                exact ⟨rfl, FIN.out.1, FIN.out.2.1, FIN.out.2.2⟩
          · have hn1 : 1 ≤ n.1 := by have := hrt.lo; omega
            have hn20 := hrt.hi
            have hgs := goS_fan (fd := fd) (k := k) (p := p) (level := level) (s := s) HBAD.out HNSK.out HE.out.1.symm (fun h => hn0 (HE.out.2 ▸ h))
            rw [← HE.out.2] at hgs
            have HGS := hide hgs
            have hdn := hrt.none hn1
            have hsp : sizeP n.2.2 = p.2 := by
              unfold sizeN at hsn
              rw [hdn] at hsn
              simp only [List.length_nil] at hsn
              omega
            have hbn : (n.1 == 0) = false := by rw [beq_eq_false_iff_ne]; exact hn0
            have HRT := hide hrt
            have HSP := hide hsp
            have hlk : (0 : Int) ≤ n.1 - 1 ∧ n.1 - 1 < k := by
              rcases hlv with ⟨h1, h2⟩ | ⟨h1, h2⟩
              · omega
              · rcases hlvn with h | h <;> omega
            have HLK := hide hlk
            obtain ⟨m, hm⟩ : ∃ m, m = n.2.2.length := ⟨_, rfl⟩
            have hvm : vm = m := by
              obtain ⟨ao, cap, hv, -⟩ := own_form H5.out.2.2.2.1
              injection hv with _ h2 _
              omega
            subst hvm
            have hmost := hrt.most
            have HM := hide hm
            obtain ⟨s1, hs1⟩ : ∃ s1 : Wk, s1 = ⟨s.asked ++ [p.1], s.data, s.parts, 0⟩ := ⟨_, rfl⟩
            obtain ⟨f, hf⟩ : ∃ f : Part → Int → Wk → Wk, f = fun q b t => goS fd lo hi k q b (n.1 - 1) t := ⟨_, rfl⟩
            have hfd : ∀ q b t, t.bad ≠ 0 → f q b t = t := by subst hf; exact fun q b t h => goS_dead _ _ _ _ _ _ _ _ h
            have hfg : ∀ q b t, 1 ≤ q.2 → Grows t (f q b t) (k * q.2.toNat) q.2.toNat := by subst hf; exact fun q b t h => goS_grows _ _ _ _ _ _ _ _ h
            have hgs3 : goS fd lo hi (k + 1) p a level s = eachP f n.2.2 a s1 := by rw [hgs, hf, hs1]
            have HG3 := hide hgs3
            have HF := hide (And.intro hfd (And.intro hfg hf))
            have HS1 := hide hs1
            have hmf : ∀ (fn : Fn) (first cap : Array Value) (w : World), (Instr.makeFunc fn first cap).run Tryz.prog w = .ok (.func fn first cap) w := fun _ _ _ _ => rfl
            have pl0 := cell_of_row w5 w.heap.size 0 _ _ _ hq5
            have pl1 := cell_of_row w5 w.heap.size 1 _ _ _ hq5
            have pl2 := cell_of_row w5 w.heap.size 2 _ _ _ hq5
            simp only [List.getElem?_toArray, List.getElem?_cons_zero, List.getElem?_cons_succ] at pl0 pl1 pl2
            clear hgs hgs3 hfd hfg hf hs1 hsp hrt hlv hlvn hsn hdn hm hmost hlk HGS
            go_wp2_with fail
            have hm5 : vm ≤ 32 := by have := HRT.out.most; have := HM.out; omega
            go_loopw [76, 11] (fun t u wr => ∃ j : Nat, j ≤ vm ∧ t = .int .i64 j ∧ NextV (a + sizeP (n.2.2.take j)) u ∧ (eachP f (n.2.2.take j) a s1).bad = 0 ∧ RdW B wr g (.func (.func gf) #[] caps) lo hi (eachP f (n.2.2.take j) a s1).data ∧ I wr (eachP f (n.2.2.take j) a s1).asked ∧ Mv B gts none w5 wr)
              (fun t _ _ => vm - (intOf t).toNat)
            case atStart =>
              refine ⟨0, by omega, rfl, ?_, ?_, ?_, ?_, Mv.refl _ _ _ _⟩
              · simp only [List.take_zero, sizeP_nil, Int.add_zero]; exact next_begin _ _ _
              · rw [HS1.out]; rfl
              · rw [HS1.out]; exact H5.out.1
              · rw [HS1.out]; exact H5.out.2.1
            case round =>
              obtain ⟨j, hj, rfl, hnx, hbd, hRr, hIr, hMr⟩ := hrel
              obtain ⟨fx, vx, rfl, eg2, hnx2⟩ := hnx
              have hBr : B ≤ wr.heap.size := hG.le _ _ hIr
              have hyr := hMr.k _ _ _ _ hy5 (by decide) (by simp)
              have e0 := cell_of_row wr nb 0 _ _ _ hyr
              have e1 := cell_of_row wr nb 1 _ _ _ hyr
              simp only [List.getElem?_toArray, List.getElem?_cons_zero, List.getElem?_cons_succ] at e0 e1
              by_cases hlt : j < vm
              · have hlt2 : j < n.2.2.length := by have := HM.out; omega
                have hovr := hMr.own0 H5.out.2.2.2.1 (by decide)
                obtain ⟨bb, off, rfl, k0, k1⟩ := own_part hovr hlt2
                have hwi := sizeP_within n.2.2 HRT.out.each j hlt2
                have hst := eachP_step f n.2.2 j hlt2 a s1
                have hss := sizeP_step n.2.2 j hlt2
                have hgr := eachP_grows HF.out.2.1 (n.2.2.take j) a s1 (fun q hq => HRT.out.each q (List.mem_of_mem_take hq))
                rw [HSP.out] at hwi
                generalize n.2.2[j] = kd at *
                have hw6b : Below wr.heap.size wr (wr.alloc (.cells #[.string (strB kd.1), .int .i64 kd.2] 25)) := (Below.refl _ _).alloc (Nat.le_refl _) _
                have hp6 := heap_last wr (.cells #[.string (strB kd.1), .int .i64 kd.2] 25) _ rfl
                have hR6 := hRr.below hw6b
                have hI6 := hG.below hIr hw6b
                have hy6 := (hw6b.block _ (lt_of_heap hyr)).trans hyr
                have hM6 := hMr.more hw6b hBr
                have hn6 : (wr.alloc (.cells #[.string (strB kd.1), .int .i64 kd.2] 25)).heap.size = wr.heap.size + 1 := by simp
                generalize hw6 : wr.alloc (.cells #[.string (strB kd.1), .int .i64 kd.2] 25) = w6 at *
                have p0 := cell_of_row w6 wr.heap.size 0 _ _ _ hp6
                have p1 := cell_of_row w6 wr.heap.size 1 _ _ _ hp6
                simp only [List.getElem?_toArray, List.getElem?_cons_zero, List.getElem?_cons_succ] at p0 p1
                obtain ⟨z, hz⟩ : ∃ z, z = a + sizeP (n.2.2.take j) := ⟨_, rfl⟩
                rw [← hz] at hnx2 hst
                obtain ⟨sj, hsj⟩ : ∃ sj, sj = eachP f (n.2.2.take j) a s1 := ⟨_, rfl⟩
                rw [← hsj] at hbd hR6 hI6 hst hgr
                have hzb : 0 ≤ z ∧ z + kd.2 ≤ 262144 := by omega
                have hnA := hnx2 w6.drew
                have hnB := hnx2 (w6.alloc (.cells #[.string ⟨#[]⟩, .int .i64 0, .int .i64 0] 82)).drew
                have hpZ := (heap_past w6 (.cells #[.string ⟨#[]⟩, .int .i64 0, .int .i64 0] 82) _ (lt_of_heap hp6)).trans hp6
                have hyZ := (heap_past w6 (.cells #[.string ⟨#[]⟩, .int .i64 0, .int .i64 0] 82) _ (lt_of_heap hy6)).trans hy6
                have hkZ := heap_last w6 (.cells #[.string ⟨#[]⟩, .int .i64 0, .int .i64 0] 82) _ rfl
                have pz0 := cell_of_row _ wr.heap.size 0 _ _ _ hpZ
                have pz1 := cell_of_row _ wr.heap.size 1 _ _ _ hpZ
                simp only [List.getElem?_toArray, List.getElem?_cons_zero, List.getElem?_cons_succ] at pz0 pz1
                have H6 := hide (And.intro hp6 (And.intro hR6 (And.intro hI6 (And.intro hy6 (And.intro hM6 (And.intro hpZ (And.intro hyZ hkZ)))))))
                have HX6 := hide (And.intro hbd (And.intro hst (And.intro hgr (And.intro hsj (And.intro hss (And.intro hz hwi))))))
                have hB6 : B ≤ w6.heap.size := by omega
                have HN6 := hide hn6
                clear hn6 hw6b hp6 hR6 hI6 hy6 hM6 hpZ hyZ hkZ hbd hst hgr hsj hss hz hRr hIr hMr hovr hnx2 hyr
                go_wp2_with fail
                refine wp_region_held_drew (S := fun W => W.cell? ⟨wr.heap.size, 0, none⟩ = some (.string (strB kd.1)) ∧ W.cell? ⟨wr.heap.size, 1, none⟩ = some (.int .i64 kd.2)) (by kernel_rfl) (⟨p0, p1⟩) (fun hHeld => ?_)
                refine takeJ 0 (v := ?_) ?_ hHeld ?_
                rotate_left
                · rintro w ⟨_, _⟩; go_simp; try with_reducible rfl
                refine takeJ 1 (v := ?_) ?_ hHeld ?_
                rotate_left
                · rintro w ⟨_, _⟩; go_simp; try with_reducible rfl
                refine twoH (i := 2) (j := 4) rfl rfl (by kernel_rfl) rfl rfl (fun K hK => ?_) (fun K hK => ?_)
                · go_simp
                  refine hnA.mono ?_
                  rintro e w7 ⟨rfl, hb7⟩
                  have hb67 : Below w6.heap.size w6 w7 := ((Below.refl _ _).drew).trans hb7
                  have hp7 := (hb67.block _ (lt_of_heap H6.out.1)).trans H6.out.1
                  have hy7 := (hb67.block _ (lt_of_heap H6.out.2.2.2.1)).trans H6.out.2.2.2.1
                  have hR7 := H6.out.2.1.below hb67
                  have hI7 := hG.below H6.out.2.2.1 hb67
                  have hM7 := H6.out.2.2.2.2.1.more hb67 hB6
                  have p7 := cell_of_row w7 wr.heap.size 0 _ _ _ hp7
                  have p7' := cell_of_row w7 wr.heap.size 1 _ _ _ hp7
                  have hpz7 := (heap_past w7 (.cells #[.string ⟨#[]⟩, .int .i64 0, .int .i64 0] 82) _ (lt_of_heap hp7)).trans hp7
                  have hpk7 := (heap_past w7 (.cells #[.string (strB kd.1), .int .i64 kd.2, .int .i64 z] 82) _ (lt_of_heap hp7)).trans hp7
                  have u7 := cell_of_row _ wr.heap.size 0 _ _ _ hpz7
                  have u7' := cell_of_row _ wr.heap.size 1 _ _ _ hpz7
                  have t7 := cell_of_row _ wr.heap.size 0 _ _ _ hpk7
                  have t7' := cell_of_row _ wr.heap.size 1 _ _ _ hpk7
                  simp only [List.getElem?_toArray, List.getElem?_cons_zero, List.getElem?_cons_succ] at p7 p7' u7 u7' t7 t7'
                  go_simp
                  refine hK.out _ _ (⟨p7, p7'⟩) (fun hHeld => ?_)
                  clear hK K
                  try simp only [Act.put, List.setIfInBounds_toArray, List.set_cons_zero, List.set_cons_succ]
                  refine takeJ 3 (v := ?_) ?_ hHeld ?_
                  rotate_left
                  · rintro w ⟨_, _⟩; go_simp; try with_reducible rfl
                  refine onlyH (i := 4) rfl (by kernel_rfl) rfl (fun K hK => ?_)
                  go_simp
                  refine hK.out _ _ (⟨u7, u7'⟩) (fun hHeld => ?_)
                  clear hK K
                  try simp only [Act.put, List.setIfInBounds_toArray, List.set_cons_zero, List.set_cons_succ]
                  refine onlyH (i := 5) rfl (by kernel_rfl) rfl (fun K hK => ?_)
                  go_simp
                  refine hK.out _ _ (⟨t7, t7'⟩) (fun hHeld => ?_)
                  clear hK K
                  try simp only [Act.put, List.setIfInBounds_toArray, List.set_cons_zero, List.set_cons_succ]
                  refine wpAnyH_done (by kernel_rfl) ?_ _
                  clear hHeld p7 p7' u7 u7' t7 t7'
                  have hB7 : Below w7.heap.size w7 (w7.alloc (.cells #[.string (strB kd.1), .int .i64 kd.2, .int .i64 z] 82)) := (Below.refl _ _).alloc (Nat.le_refl _) _
                  have hk8 := heap_last w7 (.cells #[.string (strB kd.1), .int .i64 kd.2, .int .i64 z] 82) _ rfl
                  have hy8 := (hB7.block _ (lt_of_heap hy7)).trans hy7
                  have hR8 := hR7.below hB7
                  have hI8 := hG.below hI7 hB7
                  have hM8 := hM7.more hB7 (hG.le _ _ hI7)
                  generalize w7.alloc (.cells #[.string (strB kd.1), .int .i64 kd.2, .int .i64 z] 82) = w8 at *
                  generalize w7.heap.size = kb at *
                  clear hb7 hb67 hp7 hy7 hR7 hI7 hM7 hpz7 hpk7 hB7 hnA hnB
                  have q8 := cell_of_row w8 kb 0 _ _ _ hk8
                  have q8' := cell_of_row w8 kb 1 _ _ _ hk8
                  have q8'' := cell_of_row w8 kb 2 _ _ _ hk8
                  have l8 := cell_of_row w8 nb 0 _ _ _ hy8
                  simp only [List.getElem?_toArray, List.getElem?_cons_zero, List.getElem?_cons_succ] at q8 q8' q8'' l8
                  obtain ⟨x1, x2, x3, x4, x5, x6, x7, x8, x9⟩ := HX6.out
                  have hmul : k * (sizeP (n.2.2.take j)).toNat + k * kd.2.toNat ≤ k * p.2.toNat := by rw [← Nat.mul_add]; exact Nat.mul_le_mul_left _ (by omega)
                  have hk1 : (k + 1) * p.2.toNat = k * p.2.toNat + p.2.toNat := by rw [Nat.add_mul]; simp
                  have hsl1 : s1.asked.length = s.asked.length + 1 := by rw [HS1.out]; simp
                  have hsl2 : s1.data.length = s.data.length := by rw [HS1.out]
                  have hrec := ih w8 kd z (n.1 - 1) sj (.inr HLK.out) hzb.1 (by omega) hzb.2 x1 hR8 hI8 (by have := x3.1; have := HN.out.1; omega) (by have := x3.2.1; have := HN.out.2; omega)
                  have hff : f kd z sj = goS fd lo hi k kd z (n.1 - 1) sj := by rw [HF.out.2.2]
                  rw [← hff, ← x2] at hrec
                  have hnv := next_end (strB kd.1) kd.2 z (by omega) hzb.1 hzb.2
                  have e5 : z + kd.2 = a + sizeP (n.2.2.take (j + 1)) := by rw [x5, x6]; omega
                  rw [e5] at hnv
                  have HNV := hide hnv
                  have H8 := hide (And.intro hk8 hM8)
                  obtain ⟨sn, hsn⟩ : ∃ sn, sn = eachP f (n.2.2.take (j + 1)) a s1 := ⟨_, rfl⟩
                  rw [← hsn] at hrec
                  have HSN := hide hsn
                  clear x1 x2 x3 x4 x5 x6 x7 x8 x9 hmul hk1 hsl1 hsl2 hff hnv e5 hsn hR8 hI8 hM8 hk8 hy8
                  go_wp2_with fail
                  refine hrec.mono ?_
                  rintro e w9 ⟨rfl, hR9, hI9, hM9⟩
                  have hk9 := hM9.k _ _ _ _ H8.out.1 (by decide) (by simp)
                  have q9 := cell_of_row w9 kb 0 _ _ _ hk9
                  have q9' := cell_of_row w9 kb 1 _ _ _ hk9
                  have q9'' := cell_of_row w9 kb 2 _ _ _ hk9
                  simp only [List.getElem?_toArray, List.getElem?_cons_zero, List.getElem?_cons_succ] at q9 q9' q9''
                  have hM95 := H8.out.2.trans hM9 (Nx.refl _ _)
                  have H9 := hide (And.intro hR9 (And.intro hI9 hM95))
                  clear hrec hR9 hI9 hM9 hM95 hk9 q8 q8' q8'' l8
                  by_cases hb9 : sn.bad = 0
                  · have hbb : (sn.bad != 0) = false := by rw [hb9]; rfl
                    go_wp2
                    have HREL := hide (show ∃ j' : Nat, j' ≤ vm ∧ (Value.int .i64 ((j : Int) + 1)) = .int .i64 j' ∧ NextV (a + sizeP (n.2.2.take j')) (.func (.func 49) #[.agg #[.string (strB kd.1), .int .i64 kd.2, .int .i64 z]] #[]) ∧ (eachP f (n.2.2.take j') a s1).bad = 0 ∧ RdW B w9 g (.func (.func gf) #[] caps) lo hi (eachP f (n.2.2.take j') a s1).data ∧ I w9 (eachP f (n.2.2.take j') a s1).asked ∧ Mv B gts none w5 w9 from ⟨j + 1, by omega, by simp, HNV.out, by rw [← HSN.out]; exact hb9, by rw [← HSN.out]; exact H9.out.1, by rw [← HSN.out]; exact H9.out.2.1, H9.out.2.2⟩)
                    go_roundw
                    case rel => exact HREL.out
                    case measure => simp [intOf]; omega
                  · have hbb : (sn.bad != 0) = true := by simpa using hb9
                    have hstop := eachP_stop HF.out.1 n.2.2 (j + 1) a s1 (by rw [← HSN.out]; exact hb9)
                    have HST := hide hstop
                    clear hstop
                    go_wp2
                    go_ret
                    rw [HG3.out, HST.out, ← HSN.out]
                    exact ⟨rfl, H9.out.1, H9.out.2.1, H5.out.2.2.1.trans H9.out.2.2 (Nx.refl _ _)⟩
                · go_simp
                  refine hK.out _ _ (⟨pz0, pz1⟩) (fun hHeld => ?_)
                  clear hK K
                  try simp only [Act.put, List.setIfInBounds_toArray, List.set_cons_zero, List.set_cons_succ]
                  refine onlyH (i := 2) rfl (by kernel_rfl) rfl (fun K hK => ?_)
                  go_simp
                  refine hnB.mono ?_
                  rintro e w7 ⟨rfl, hb7⟩
                  have hbZ : Below w6.heap.size w6 (w6.alloc (.cells #[.string ⟨#[]⟩, .int .i64 0, .int .i64 0] 82)) := (Below.refl _ _).alloc (Nat.le_refl _) _
                  have hb67 : Below w6.heap.size w6 w7 := hbZ.drew.trans (hb7.mono (by simp))
                  have hbz7 : Below (w6.alloc (.cells #[.string ⟨#[]⟩, .int .i64 0, .int .i64 0] 82)).heap.size (w6.alloc (.cells #[.string ⟨#[]⟩, .int .i64 0, .int .i64 0] 82)) w7 := ((Below.refl _ _).drew).trans hb7
                  have hp7 := (hb67.block _ (lt_of_heap H6.out.1)).trans H6.out.1
                  have hy7 := (hb67.block _ (lt_of_heap H6.out.2.2.2.1)).trans H6.out.2.2.2.1
                  have hk7 := (hbz7.block _ (lt_of_heap H6.out.2.2.2.2.2.2.2)).trans H6.out.2.2.2.2.2.2.2
                  have hR7 := H6.out.2.1.below hb67
                  have hI7 := hG.below H6.out.2.2.1 hb67
                  have hM7 := H6.out.2.2.2.2.1.more hb67 hB6
                  have p7 := cell_of_row w7 wr.heap.size 0 _ _ _ hp7
                  have p7' := cell_of_row w7 wr.heap.size 1 _ _ _ hp7
                  have v0 := cell_of_row w7 w6.heap.size 0 _ _ _ hk7
                  have v1 := cell_of_row w7 w6.heap.size 1 _ _ _ hk7
                  have v2 := cell_of_row w7 w6.heap.size 2 _ _ _ hk7
                  have f0 := frozen0 (j := 0) hk7
                  have f1 := frozen0 (j := 1) hk7
                  have f2 := frozen0 (j := 2) hk7
                  have hne : wr.heap.size ≠ w6.heap.size := by have := HN6.out; omega
                  have hpk7 : (((w7.setCell ⟨w6.heap.size, 0, none⟩ (.string (strB kd.1))).setCell ⟨w6.heap.size, 1, none⟩ (.int .i64 kd.2)).setCell ⟨w6.heap.size, 2, none⟩ (.int .i64 z)).heap[wr.heap.size]? = _ := (heap_setOther hne).trans ((heap_setOther hne).trans ((heap_setOther hne).trans hp7))
                  have t7 := cell_of_row _ wr.heap.size 0 _ _ _ hpk7
                  have t7' := cell_of_row _ wr.heap.size 1 _ _ _ hpk7
                  simp only [List.getElem?_toArray, List.getElem?_cons_zero, List.getElem?_cons_succ] at p7 p7' t7 t7' v0 v1 v2
                  clear hne
                  go_simp
                  refine hK.out _ _ (⟨p7, p7'⟩) (fun hHeld => ?_)
                  clear hK K
                  try simp only [Act.put, List.setIfInBounds_toArray, List.set_cons_zero, List.set_cons_succ]
                  refine takeJ 3 (v := ?_) ?_ hHeld ?_
                  rotate_left
                  · rintro w ⟨_, _⟩; go_simp; try with_reducible rfl
                  refine onlyH (i := 5) rfl (by kernel_rfl) rfl (fun K hK => ?_)
                  go_simp
                  refine hK.out _ _ (⟨t7, t7'⟩) (fun hHeld => ?_)
                  clear hK K
                  try simp only [Act.put, List.setIfInBounds_toArray, List.set_cons_zero, List.set_cons_succ]
                  refine wpAnyH_done (by kernel_rfl) ?_ _
                  clear hHeld p7 p7' t7 t7' v0 v1 v2 f0 f1 f2
                  have hk8 := heap_set3all (u0 := .string (strB kd.1)) (u1 := .int .i64 kd.2) (u2 := .int .i64 z) hk7
                  have hmm : Mv B [82] none w7 (((w7.setCell ⟨w6.heap.size, 0, none⟩ (.string (strB kd.1))).setCell ⟨w6.heap.size, 1, none⟩ (.int .i64 kd.2)).setCell ⟨w6.heap.size, 2, none⟩ (.int .i64 z)) := (((Mv.refl B _ none w7).set (j := 0) hk7 (by decide) (by omega) _).set (j := 1) (heap_set3a hk7) (by decide) (by omega) _).set (j := 2) (heap_set3 (heap_set3a hk7)) (by decide) (by omega) _
                  have hy8 := hmm.k _ _ _ _ hy7 (by decide) (by simp)
                  have hR8 := hR7.keep hmm (by decide) (by decide)
                  have hI8 : I (((w7.setCell ⟨w6.heap.size, 0, none⟩ (.string (strB kd.1))).setCell ⟨w6.heap.size, 1, none⟩ (.int .i64 kd.2)).setCell ⟨w6.heap.size, 2, none⟩ (.int .i64 z)) sj.asked := hG.mv hI7 (hmm.types (by decide))
                  have hM8 : Mv B gts none w5 (((w7.setCell ⟨w6.heap.size, 0, none⟩ (.string (strB kd.1))).setCell ⟨w6.heap.size, 1, none⟩ (.int .i64 kd.2)).setCell ⟨w6.heap.size, 2, none⟩ (.int .i64 z)) := ((hM7.setNew (j := 0) (by have := H6.out.2.2.2.2.1.size; have := HN6.out; omega) (by have := hG.le _ _ H5.out.2.1; omega) _).setNew (j := 1) (by have := H6.out.2.2.2.2.1.size; have := HN6.out; omega) (by have := hG.le _ _ H5.out.2.1; omega) _).setNew (j := 2) (by have := H6.out.2.2.2.2.1.size; have := HN6.out; omega) (by have := hG.le _ _ H5.out.2.1; omega) _
                  generalize (((w7.setCell ⟨w6.heap.size, 0, none⟩ (.string (strB kd.1))).setCell ⟨w6.heap.size, 1, none⟩ (.int .i64 kd.2)).setCell ⟨w6.heap.size, 2, none⟩ (.int .i64 z)) = w8 at *
                  generalize w6.heap.size = kb at *
                  clear hb7 hb67 hp7 hy7 hR7 hI7 hM7 hpk7 hnA hnB hk7 hmm hbZ hbz7
                  have q8 := cell_of_row w8 kb 0 _ _ _ hk8
                  have q8' := cell_of_row w8 kb 1 _ _ _ hk8
                  have q8'' := cell_of_row w8 kb 2 _ _ _ hk8
                  have l8 := cell_of_row w8 nb 0 _ _ _ hy8
                  simp only [List.getElem?_toArray, List.getElem?_cons_zero, List.getElem?_cons_succ] at q8 q8' q8'' l8
                  obtain ⟨x1, x2, x3, x4, x5, x6, x7, x8, x9⟩ := HX6.out
                  have hmul : k * (sizeP (n.2.2.take j)).toNat + k * kd.2.toNat ≤ k * p.2.toNat := by rw [← Nat.mul_add]; exact Nat.mul_le_mul_left _ (by omega)
                  have hk1 : (k + 1) * p.2.toNat = k * p.2.toNat + p.2.toNat := by rw [Nat.add_mul]; simp
                  have hsl1 : s1.asked.length = s.asked.length + 1 := by rw [HS1.out]; simp
                  have hsl2 : s1.data.length = s.data.length := by rw [HS1.out]
                  have hrec := ih w8 kd z (n.1 - 1) sj (.inr HLK.out) hzb.1 (by omega) hzb.2 x1 hR8 hI8 (by have := x3.1; have := HN.out.1; omega) (by have := x3.2.1; have := HN.out.2; omega)
                  have hff : f kd z sj = goS fd lo hi k kd z (n.1 - 1) sj := by rw [HF.out.2.2]
                  rw [← hff, ← x2] at hrec
                  have hnv := next_end (strB kd.1) kd.2 z (by omega) hzb.1 hzb.2
                  have e5 : z + kd.2 = a + sizeP (n.2.2.take (j + 1)) := by rw [x5, x6]; omega
                  rw [e5] at hnv
                  have HNV := hide hnv
                  have H8 := hide (And.intro hk8 hM8)
                  obtain ⟨sn, hsn⟩ : ∃ sn, sn = eachP f (n.2.2.take (j + 1)) a s1 := ⟨_, rfl⟩
                  rw [← hsn] at hrec
                  have HSN := hide hsn
                  clear x1 x2 x3 x4 x5 x6 x7 x8 x9 hmul hk1 hsl1 hsl2 hff hnv e5 hsn hR8 hI8 hM8 hk8 hy8
                  go_wp2_with fail
                  refine hrec.mono ?_
                  rintro e w9 ⟨rfl, hR9, hI9, hM9⟩
                  have hk9 := hM9.k _ _ _ _ H8.out.1 (by decide) (by simp)
                  have q9 := cell_of_row w9 kb 0 _ _ _ hk9
                  have q9' := cell_of_row w9 kb 1 _ _ _ hk9
                  have q9'' := cell_of_row w9 kb 2 _ _ _ hk9
                  simp only [List.getElem?_toArray, List.getElem?_cons_zero, List.getElem?_cons_succ] at q9 q9' q9''
                  have hM95 := H8.out.2.trans hM9 (Nx.refl _ _)
                  have H9 := hide (And.intro hR9 (And.intro hI9 hM95))
                  clear hrec hR9 hI9 hM9 hM95 hk9 q8 q8' q8'' l8
                  by_cases hb9 : sn.bad = 0
                  · have hbb : (sn.bad != 0) = false := by rw [hb9]; rfl
                    go_wp2
                    have HREL := hide (show ∃ j' : Nat, j' ≤ vm ∧ (Value.int .i64 ((j : Int) + 1)) = .int .i64 j' ∧ NextV (a + sizeP (n.2.2.take j')) (.func (.func 49) #[.agg #[.string (strB kd.1), .int .i64 kd.2, .int .i64 z]] #[]) ∧ (eachP f (n.2.2.take j') a s1).bad = 0 ∧ RdW B w9 g (.func (.func gf) #[] caps) lo hi (eachP f (n.2.2.take j') a s1).data ∧ I w9 (eachP f (n.2.2.take j') a s1).asked ∧ Mv B gts none w5 w9 from ⟨j + 1, by omega, by simp, HNV.out, by rw [← HSN.out]; exact hb9, by rw [← HSN.out]; exact H9.out.1, by rw [← HSN.out]; exact H9.out.2.1, H9.out.2.2⟩)
                    go_roundw
                    case rel => exact HREL.out
                    case measure => simp [intOf]; omega
                  · have hbb : (sn.bad != 0) = true := by simpa using hb9
                    have hstop := eachP_stop HF.out.1 n.2.2 (j + 1) a s1 (by rw [← HSN.out]; exact hb9)
                    have HST := hide hstop
                    clear hstop
                    go_wp2
                    go_ret
                    rw [HG3.out, HST.out, ← HSN.out]
                    exact ⟨rfl, H9.out.1, H9.out.2.1, H5.out.2.2.1.trans H9.out.2.2 (Nx.refl _ _)⟩
              · obtain rfl : j = vm := by omega
                have htk : n.2.2.take j = n.2.2 := by rw [HM.out, List.take_length]
                rw [htk] at hbd hRr hIr
                have HL := hide (And.intro hbd (And.intro hRr (And.intro hIr hMr)))
                clear hbd hRr hIr hMr htk hyr hnx2
                go_wp2
                go_ret
                rw [HG3.out]
                exact ⟨by rw [HL.out.1]; rfl, HL.out.2.1, HL.out.2.2.1, H5.out.2.2.1.trans HL.out.2.2.2 (Nx.refl _ _)⟩
        · have hgs := goS_bad (fd := fd) (k := k) (p := p) (level := level) (s := s) HBAD.out HNSK.out (HE.out.1 ▸ he0)
          have HGS := hide hgs
          have hb : (er != 0) = true := by simpa using he0
          clear hgs ih
          go_wp2
          go_ret
          rw [HGS.out, ← HE.out.1]
          exact ⟨rfl, H5.out.1, H5.out.2.1, H5.out.2.2.1⟩
      · go_simp
        refine hK.out _ _ (⟨z0, z1, z2⟩) (fun hHeld => ?_)
        clear hK K
        try simp only [Act.put, List.setIfInBounds_toArray, List.set_cons_zero, List.set_cons_succ]
        refine onlyH (i := 7) rfl (by kernel_rfl) rfl (fun K hK => ?_)
        go_simp
        refine hask'.mono ?_
        rintro e w3 ⟨⟨v, rfl, hov⟩, hI3, hM3⟩
        have hM3' : Mv B ats none w2 w3 := ((Mv.refl B ats none w2).alloc (by omega) (.cells #[.int .i64 0, .slice none 0 0, .string ⟨#[]⟩] 96)).drew.trans hM3 (Nx.refl _ _)
        have hM3z : Mv B ats none (w2.alloc (.cells #[.int .i64 0, .slice none 0 0, .string ⟨#[]⟩] 96)) w3 := ((Mv.refl B ats none _).drew).trans hM3 (Nx.refl _ _)
        have hh3 := hM3z.k _ _ _ _ HZ.out.1 (by decide) (by simp)
        have hq3 := hM3z.k _ _ _ _ HZ.out.2.1 (by decide) (by simp)
        have hy3 := hM3z.k _ _ _ _ HZ.out.2.2 (by decide) (by simp)
        have hR3 := H2.out.2.2.1.keep hM3' (by decide) (by decide)
        have hs3 : w2.heap.size ≤ w3.heap.size := hM3'.size
        obtain ⟨va, vm, vc, rfl⟩ := row_form hov
        clear hask hask'
        have a0 := cell_of_row w3 g 0 _ _ _ hh3
        have a1 := cell_of_row w3 w.heap.size 0 _ _ _ hq3
        have a2 := cell_of_row w3 w.heap.size 1 _ _ _ hq3
        simp only [List.getElem?_toArray, List.getElem?_cons_zero, List.getElem?_cons_succ] at a0 a1 a2
        have y0 := cell_of_row w3 w2.heap.size 0 _ _ _ hy3
        have y1 := cell_of_row w3 w2.heap.size 1 _ _ _ hy3
        have y2 := cell_of_row w3 w2.heap.size 2 _ _ _ hy3
        simp only [List.getElem?_toArray, List.getElem?_cons_zero, List.getElem?_cons_succ] at y0 y1 y2
        have f0 := frozen0 (j := 0) hy3
        have f1 := frozen0 (j := 1) hy3
        have f2 := frozen0 (j := 2) hy3
        have hng : g ≠ w2.heap.size := Nat.ne_of_lt (lt_of_heap HH.out)
        have hnq : w.heap.size ≠ w2.heap.size := Nat.ne_of_lt (lt_of_heap H2.out.2.1)
        go_simp
        refine hK.out _ _ (⟨a0, a1, a2⟩) (fun hHeld => ?_)
        clear hK K
        try simp only [Act.put, List.setIfInBounds_toArray, List.set_cons_zero, List.set_cons_succ]
        refine takeJ 8 (v := ?_) ?_ hHeld ?_
        rotate_left
        · rintro w ⟨_, _, _⟩; go_simp; try with_reducible rfl
        refine takeJ 9 (v := ?_) ?_ hHeld ?_
        rotate_left
        · rintro w ⟨_, _, _⟩; go_simp; try with_reducible rfl
        refine takeJ 10 (v := ?_) ?_ hHeld ?_
        rotate_left
        · rintro w ⟨_, _, _⟩; go_simp; try with_reducible rfl
        have hh5 : (((w3.setCell ⟨w2.heap.size, 0, none⟩ (.int .i64 n.1)).setCell ⟨w2.heap.size, 1, none⟩ (.slice va vm vc)).setCell ⟨w2.heap.size, 2, none⟩ (.string (strB n.2.1))).heap[g]? = _ := (heap_setOther hng).trans ((heap_setOther hng).trans ((heap_setOther hng).trans hh3))
        have hq5 : (((w3.setCell ⟨w2.heap.size, 0, none⟩ (.int .i64 n.1)).setCell ⟨w2.heap.size, 1, none⟩ (.slice va vm vc)).setCell ⟨w2.heap.size, 2, none⟩ (.string (strB n.2.1))).heap[w.heap.size]? = _ := (heap_setOther hnq).trans ((heap_setOther hnq).trans ((heap_setOther hnq).trans hq3))
        have c0 := cell_of_row _ g 0 _ _ _ hh5
        have c1 := cell_of_row _ w.heap.size 0 _ _ _ hq5
        have c2 := cell_of_row _ w.heap.size 1 _ _ _ hq5
        simp only [List.getElem?_toArray, List.getElem?_cons_zero, List.getElem?_cons_succ] at c0 c1 c2
        clear hng hnq
        refine onlyH (i := 12) rfl (by kernel_rfl) rfl (fun K hK => ?_)
        go_simp
        refine hK.out _ _ (⟨c0, c1, c2⟩) (fun hHeld => ?_)
        clear hK K
        try simp only [Act.put, List.setIfInBounds_toArray, List.set_cons_zero, List.set_cons_succ]
        refine takeJ 13 (v := ?_) ?_ hHeld ?_
        rotate_left
        · rintro w ⟨_, _, _⟩; go_simp; try with_reducible rfl
        refine wpAnyH_done (by kernel_rfl) ?_ _
        clear hHeld a0 a1 a2 c0 c1 c2 r0 q0 q1 z0 z1 z2 y0 y1 y2 f0 f1 f2
        have hy5 := heap_set3all (u0 := .int .i64 n.1) (u1 := .slice va vm vc) (u2 := .string (strB n.2.1)) hy3
        have hmn5 : Mv B rts none w3 (((w3.setCell ⟨w2.heap.size, 0, none⟩ (.int .i64 n.1)).setCell ⟨w2.heap.size, 1, none⟩ (.slice va vm vc)).setCell ⟨w2.heap.size, 2, none⟩ (.string (strB n.2.1))) := (((Mv.refl B rts none w3).set (j := 0) hy3 (by decide) (by omega) _).set (j := 1) (heap_set3a hy3) (by decide) (by omega) _).set (j := 2) (heap_set3 (heap_set3a hy3)) (by decide) (by omega) _
        have hmn6 : Mv B [96] none w3 (((w3.setCell ⟨w2.heap.size, 0, none⟩ (.int .i64 n.1)).setCell ⟨w2.heap.size, 1, none⟩ (.slice va vm vc)).setCell ⟨w2.heap.size, 2, none⟩ (.string (strB n.2.1))) := (((Mv.refl B _ none w3).set (j := 0) hy3 (by decide) (by omega) _).set (j := 1) (heap_set3a hy3) (by decide) (by omega) _).set (j := 2) (heap_set3 (heap_set3a hy3)) (by decide) (by omega) _
        have hR5 := hR3.keep hmn6 (by decide) (by decide)
        have hI5 := hG.mv hI3 hmn5
        have hM5 : Mv B gts none w (((w3.setCell ⟨w2.heap.size, 0, none⟩ (.int .i64 n.1)).setCell ⟨w2.heap.size, 1, none⟩ (.slice va vm vc)).setCell ⟨w2.heap.size, 2, none⟩ (.string (strB n.2.1))) := (((((Mv.of H2.out.1 hB).trans hM3' (Nx.refl _ _)).types (by decide)).setNew (j := 0) (by omega) hB _).setNew (j := 1) (by omega) hB _).setNew (j := 2) (by omega) hB _
        have hov5 := hmn6.own0 (own_down hov (show w2.heap.size ≤ (w2.alloc (.cells #[.int .i64 0, .slice none 0 0, .string ⟨#[]⟩] 96)).drew.heap.size from by simp)) (by decide)
        have hnb : w2.heap.size < (((w3.setCell ⟨w2.heap.size, 0, none⟩ (.int .i64 n.1)).setCell ⟨w2.heap.size, 1, none⟩ (.slice va vm vc)).setCell ⟨w2.heap.size, 2, none⟩ (.string (strB n.2.1))).heap.size := by have := lt_of_heap hy5; exact this
        generalize (((w3.setCell ⟨w2.heap.size, 0, none⟩ (.int .i64 n.1)).setCell ⟨w2.heap.size, 1, none⟩ (.slice va vm vc)).setCell ⟨w2.heap.size, 2, none⟩ (.string (strB n.2.1))) = w5 at *
        generalize w2.heap.size = nb at *
        have H5 := hide (And.intro hR5 (And.intro hI5 (And.intro hM5 (And.intro hov5 (And.intro hy5 hq5)))))
        clear hR5 hI5 hM5 hov5 hR3 hI3 hM3 hM3' hM3z hov hh3 hq3 hmn5 hmn6 hy3
        by_cases he0 : er = 0
        · subst he0
          have hA := askN_ok HE.out.1.symm
          rw [← HE.out.2] at hA
          obtain ⟨hrt, hsn, hlvn⟩ := hA
          have d0 := cell_of_row w5 nb 0 _ _ _ hy5
          have d1 := cell_of_row w5 nb 1 _ _ _ hy5
          have d2 := cell_of_row w5 nb 2 _ _ _ hy5
          simp only [List.getElem?_toArray, List.getElem?_cons_zero, List.getElem?_cons_succ] at d0 d1 d2
          by_cases hn0 : n.1 = 0
          · have hgs := goS_chunk (fd := fd) (k := k) (p := p) (level := level) (s := s) HBAD.out HNSK.out HE.out.1.symm (HE.out.2 ▸ hn0)
            have hlen : (n.2.1.length : Int) = p.2 := by
              unfold sizeN at hsn
              rw [hrt.kids hn0, sizeP_nil] at hsn
              omega
            obtain ⟨b1, b2, b3, b4⟩ : a ≤ x ∧ y ≤ a + p.2 ∧ 0 ≤ x - a ∧ y - a ≤ p.2 := by have h1 := HXY.out.1; have h2 := HXY.out.2; omega
            obtain ⟨i, hi1⟩ := Int.eq_ofNat_of_zero_le b3
            obtain ⟨j, hj1⟩ := Int.eq_ofNat_of_zero_le (show 0 ≤ y - a by omega)
            have hij : i ≤ j ∧ j ≤ n.2.1.length := by omega
            have hgs2 : goS fd lo hi (k + 1) p a level s = ⟨s.asked ++ [p.1], s.data ++ (n.2.1.take j).drop i, s.parts ++ [p], 0⟩ := by
              rw [hgs, ← HE.out.2, ← HXY.out.1, ← HXY.out.2, hi1, hj1]
              rfl
            have HGS := hide hgs2
            have hbn : (n.1 == 0) = true := by rw [hn0]; rfl
            have hsl := fun W => slice_str W n.2.1 i j hij.1 hij.2
            have hds := strB_size n.2.1
            obtain ⟨hgB', vd, hh6, hd6⟩ := H5.out.1
            have hBw : B ≤ w5.heap.size := by have := lt_of_heap hh6; omega
            have hdl : s.data.length + ((n.2.1.take j).drop i).length ≤ 140737488355328 := by have := HN.out.2; simp; omega
            have hdA : ((w5.alloc (.cells #[.string (strB p.1), .int .i64 p.2, .int .i64 a] 82)).alloc (.cells #[.string (strB p.1), .int .i64 p.2, .int .i64 a] 82)).drew.ownsRow B 5 1 vd s.data.length (bc s.data) := World.ownsRow.alloc (hd6.alloc _) _
            obtain ⟨vx, w7, hrun7, hd7, hgr7⟩ := app_str (m := (n.2.1.take j).drop i) hdA hdl (show B ≤ ((w5.alloc (.cells #[.string (strB p.1), .int .i64 p.2, .int .i64 a] 82)).alloc (.cells #[.string (strB p.1), .int .i64 p.2, .int .i64 a] 82)).drew.heap.size by simp; omega)
            have hBA : Below w5.heap.size w5 (w5.alloc (.cells #[.string (strB p.1), .int .i64 p.2, .int .i64 a] 82)) := (Below.refl _ _).alloc (Nat.le_refl _) _
            have hBB : Below w5.heap.size w5 ((w5.alloc (.cells #[.string (strB p.1), .int .i64 p.2, .int .i64 a] 82)).alloc (.cells #[.string (strB p.1), .int .i64 p.2, .int .i64 a] 82)).drew := (hBA.alloc (by simp) _).drew
            have hhA := (hBA.block _ (lt_of_heap hh6)).trans hh6
            have hhB := (hBB.block _ (lt_of_heap hh6)).trans hh6
            have hqA := (hBA.block _ (lt_of_heap hq5)).trans hq5
            have hqB := (hBB.block _ (lt_of_heap hq5)).trans hq5
            have hyA := (hBA.block _ (lt_of_heap hy5)).trans hy5
            have hyB := (hBB.block _ (lt_of_heap hy5)).trans hy5
            have hh7 := grow_keep hdA hgr7 hhB (by decide)
            have hq7 := grow_keep hdA hgr7 hqB (by decide)
            have hy7 := grow_keep hdA hgr7 hyB (by decide)
            have hm7 : Mv B [5, 79] none w5 w7 := (Mv.of hBB hBw).grown hdA hgr7 (by decide) (by simp; omega)
            have hm8 : Mv B [5, 79] none w5 (w7.setCell ⟨g, 3, none⟩ vx) := hm7.set hh7 (by decide) hgB' _
            have hfin : RdW B (w7.setCell ⟨g, 3, none⟩ vx) g (.func (.func gf) #[] caps) lo hi (s.data ++ (n.2.1.take j).drop i) ∧ I (w7.setCell ⟨g, 3, none⟩ vx) (s.asked ++ [p.1]) ∧ Mv B gts none w (w7.setCell ⟨g, 3, none⟩ vx) :=
              ⟨⟨hgB', vx, heap_set4d hh7, own_setCell hd7 hh7 (by decide) _⟩, hG.mv H5.out.2.1 (hm8.types (by decide)), H5.out.2.2.1.trans (hm8.types (by decide)) (Nx.refl _ _)⟩
            have FIN := hide hfin
            have HRUN := hide hrun7
            have hq8 := (heap_setOther (j := 3) (u := vx) (ne_type hq7 hh7 (by decide))).trans hq7
            have hy8 := (heap_setOther (j := 3) (u := vx) (ne_type hy7 hh7 (by decide))).trans hy7
            have cells : ∀ W : World, W.heap[w.heap.size]? = some (.cells #[.string (strB p.1), .int .i64 p.2, .int .i64 a] 82) → W.heap[nb]? = some (.cells #[.int .i64 n.1, .slice va vm vc, .string (strB n.2.1)] 96) → W.cell? ⟨nb, 2, none⟩ = some (.string (strB n.2.1)) ∧ W.cell? ⟨w.heap.size, 0, none⟩ = some (.string (strB p.1)) ∧ W.cell? ⟨w.heap.size, 1, none⟩ = some (.int .i64 p.2) ∧ W.cell? ⟨w.heap.size, 2, none⟩ = some (.int .i64 a) := fun W h1 h2 => by
              have e0 := cell_of_row W nb 2 _ _ _ h2
              have e1 := cell_of_row W w.heap.size 0 _ _ _ h1
              have e2 := cell_of_row W w.heap.size 1 _ _ _ h1
              have e3 := cell_of_row W w.heap.size 2 _ _ _ h1
              simp only [List.getElem?_toArray, List.getElem?_cons_zero, List.getElem?_cons_succ] at e0 e1 e2 e3
              exact ⟨e0, e1, e2, e3⟩
            have HC5 := hide (cells _ hq5 hy5)
            have HCA := hide (cells _ hqA hyA)
            have HCB := hide (cells _ hqB hyB)
            have HC7 := hide (cells _ hq7 hy7)
            have HC8 := hide (cells _ hq8 hy8)
            have g5 := cell_of_row w5 g 3 _ _ _ hh6
            have gA := cell_of_row _ g 3 _ _ _ hhA
            have gB := cell_of_row _ g 3 _ _ _ hhB
            have g7 := cell_of_row w7 g 3 _ _ _ hh7
            have f7 := frozen0 (j := 3) hh7
            simp only [List.getElem?_toArray, List.getElem?_cons_zero, List.getElem?_cons_succ] at g5 gA gB g7
            have bgA := begin_any w5.drew (strB p.1) p.2 a
            have bgB := begin_any (w5.alloc (.cells #[.string (strB p.1), .int .i64 p.2, .int .i64 a] 82)).drew (strB p.1) p.2 a
            have hwi : IntKind.i64.wrap (x - a) = (i : Int) := by rw [IntKind.wrap_i64]; omega
            have hwj : IntKind.i64.wrap (y - a) = (j : Int) := by rw [IntKind.wrap_i64]; omega
            obtain ⟨vdA, vdm, vdc, rfl⟩ := row_form hd6
            obtain ⟨vxA, vxm, vxc, rfl⟩ := row_form hd7
            have hij1 := hij.1
            have hij2 := hij.2
            clear hgs hgs2 ih hfin hrun7 hq8 hy8 hq7 hy7 hh7 hyB hyA hqB hqA hhB hhA hBB hBA hd7 hdA hgr7 hm7 hm8 hd6 hh6 cells hdl hBw d1 hsn hrt hlvn hij hi1 hj1 b1 b2 b3 b4
            go_wp2_with fail
            refine wp_region_held_drew (S := fun W => W.cell? ⟨nb, 2, none⟩ = some (.string (strB n.2.1)) ∧ W.cell? ⟨w.heap.size, 0, none⟩ = some (.string (strB p.1)) ∧ W.cell? ⟨w.heap.size, 1, none⟩ = some (.int .i64 p.2) ∧ W.cell? ⟨w.heap.size, 2, none⟩ = some (.int .i64 a)) (by kernel_rfl) (HC5.out) (fun hHeld => ?_)
            refine takeJ 0 (v := ?_) ?_ hHeld ?_
            rotate_left
            · rintro w ⟨_, _, _, _⟩; go_simp; try with_reducible rfl
            refine takeJ 1 (v := ?_) ?_ hHeld ?_
            rotate_left
            · rintro w ⟨_, _, _, _⟩; go_simp; try with_reducible rfl
            refine takeJ 2 (v := ?_) ?_ hHeld ?_
            rotate_left
            · rintro w ⟨_, _, _, _⟩; go_simp; try with_reducible rfl
            refine takeJ 3 (v := ?_) ?_ hHeld ?_
            rotate_left
            · rintro w ⟨_, _, _, _⟩; go_simp; try with_reducible rfl
            refine takeJ 5 (v := ?_) ?_ hHeld ?_
            rotate_left
            · rintro w ⟨_, _, _, _⟩; go_simp; try with_reducible rfl
            refine takeJ 6 (v := ?_) ?_ hHeld ?_
            rotate_left
            · rintro w ⟨_, _, _, _⟩; go_simp; try with_reducible rfl
            refine takeJ 7 (v := ?_) ?_ hHeld ?_
            rotate_left
            · rintro w ⟨_, _, _, _⟩; go_simp; try with_reducible rfl
            refine takeJ 8 (v := ?_) ?_ hHeld ?_
            rotate_left
            · rintro w ⟨_, _, _, _⟩; go_simp; try with_reducible rfl
            refine takeJ 11 (v := ?_) ?_ hHeld ?_
            rotate_left
            · rintro w ⟨_, _, _, _⟩; go_simp; try with_reducible rfl
            refine takeJ 12 (v := ?_) ?_ hHeld ?_
            rotate_left
            · rintro w ⟨_, _, _, _⟩; go_simp; try with_reducible rfl
            refine twoH (i := 4) (j := 9) rfl rfl (by kernel_rfl) rfl rfl (fun K hK => ?_) (fun K hK => ?_)
            · go_simp
              refine hK.out _ _ (HC5.out) (fun hHeld => ?_)
              clear hK K
              try simp only [Act.put, List.setIfInBounds_toArray, List.set_cons_zero, List.set_cons_succ]
              refine onlyH (i := 9) rfl (by kernel_rfl) rfl (fun K hK => ?_)
              go_simp
              refine bgA.mono ?_
              rintro e w6 ⟨rfl, rfl⟩
              go_simp
              refine hK.out _ _ (HCA.out) (fun hHeld => ?_)
              clear hK K
              try simp only [Act.put, List.setIfInBounds_toArray, List.set_cons_zero, List.set_cons_succ]
              refine takeJ 10 (v := ?_) ?_ hHeld ?_
              rotate_left
              · rintro w ⟨_, _, _, _⟩; go_simp; try with_reducible rfl
              refine onlyH (i := 13) rfl (by kernel_rfl) rfl (fun K hK => ?_)
              go_simp
              refine bgB.mono ?_
              rintro e w6 ⟨rfl, rfl⟩
              go_simp
              refine hK.out _ _ (HCB.out) (fun hHeld => ?_)
              clear hK K
              try simp only [Act.put, List.setIfInBounds_toArray, List.set_cons_zero, List.set_cons_succ]
              refine takeJ 14 (v := ?_) ?_ hHeld ?_
              rotate_left
              · rintro w ⟨_, _, _, _⟩; go_simp; try with_reducible rfl
              refine takeJ 15 (v := ?_) ?_ hHeld ?_
              rotate_left
              · rintro w ⟨_, _, _, _⟩; go_simp; try with_reducible rfl
              refine onlyH (i := 16) rfl (by kernel_rfl) rfl (fun K hK => ?_)
              refine wp_append_run2 (.tmp 55) (.tmp 66) 74 9 rfl rfl rfl HRUN.out ?_
              refine hK.out _ _ (HC7.out) (fun hHeld => ?_)
              clear hK K
              try simp only [Act.put, List.setIfInBounds_toArray, List.set_cons_zero, List.set_cons_succ]
              refine takeJ 17 (v := ?_) ?_ hHeld ?_
              rotate_left
              · rintro w ⟨_, _, _, _⟩; go_simp; try with_reducible rfl
              refine takeJ 18 (v := ?_) ?_ hHeld ?_
              rotate_left
              · rintro w ⟨_, _, _, _⟩; go_simp; try with_reducible rfl
              refine onlyH (i := 19) rfl (by kernel_rfl) rfl (fun K hK => ?_)
              go_simp
              refine hK.out _ _ (HC8.out) (fun hHeld => ?_)
              clear hK K
              try simp only [Act.put, List.setIfInBounds_toArray, List.set_cons_zero, List.set_cons_succ]
              refine wpAnyH_done (by kernel_rfl) ?_ _
              clear hHeld
              go_wp2
              go_ret
              rw [HGS.out]
              exact ⟨rfl, FIN.out.1, FIN.out.2.1, FIN.out.2.2⟩
            · go_simp
              refine bgA.mono ?_
              rintro e w6 ⟨rfl, rfl⟩
              go_simp
              refine hK.out _ _ (HCA.out) (fun hHeld => ?_)
              clear hK K
              try simp only [Act.put, List.setIfInBounds_toArray, List.set_cons_zero, List.set_cons_succ]
              refine takeJ 10 (v := ?_) ?_ hHeld ?_
              rotate_left
              · rintro w ⟨_, _, _, _⟩; go_simp; try with_reducible rfl
              refine twoH (i := 4) (j := 13) rfl rfl (by kernel_rfl) rfl rfl (fun K hK => ?_) (fun K hK => ?_)
              · go_simp
                refine hK.out _ _ (HCA.out) (fun hHeld => ?_)
                clear hK K
                try simp only [Act.put, List.setIfInBounds_toArray, List.set_cons_zero, List.set_cons_succ]
                refine onlyH (i := 13) rfl (by kernel_rfl) rfl (fun K hK => ?_)
                go_simp
                refine bgB.mono ?_
                rintro e w6 ⟨rfl, rfl⟩
                go_simp
                refine hK.out _ _ (HCB.out) (fun hHeld => ?_)
                clear hK K
                try simp only [Act.put, List.setIfInBounds_toArray, List.set_cons_zero, List.set_cons_succ]
                refine takeJ 14 (v := ?_) ?_ hHeld ?_
                rotate_left
                · rintro w ⟨_, _, _, _⟩; go_simp; try with_reducible rfl
                refine takeJ 15 (v := ?_) ?_ hHeld ?_
                rotate_left
                · rintro w ⟨_, _, _, _⟩; go_simp; try with_reducible rfl
                refine onlyH (i := 16) rfl (by kernel_rfl) rfl (fun K hK => ?_)
                refine wp_append_run2 (.tmp 55) (.tmp 66) 74 9 rfl rfl rfl HRUN.out ?_
                refine hK.out _ _ (HC7.out) (fun hHeld => ?_)
                clear hK K
                try simp only [Act.put, List.setIfInBounds_toArray, List.set_cons_zero, List.set_cons_succ]
                refine takeJ 17 (v := ?_) ?_ hHeld ?_
                rotate_left
                · rintro w ⟨_, _, _, _⟩; go_simp; try with_reducible rfl
                refine takeJ 18 (v := ?_) ?_ hHeld ?_
                rotate_left
                · rintro w ⟨_, _, _, _⟩; go_simp; try with_reducible rfl
                refine onlyH (i := 19) rfl (by kernel_rfl) rfl (fun K hK => ?_)
                go_simp
                refine hK.out _ _ (HC8.out) (fun hHeld => ?_)
                clear hK K
                try simp only [Act.put, List.setIfInBounds_toArray, List.set_cons_zero, List.set_cons_succ]
                refine wpAnyH_done (by kernel_rfl) ?_ _
                clear hHeld
                go_wp2
                go_ret
                rw [HGS.out]
                exact ⟨rfl, FIN.out.1, FIN.out.2.1, FIN.out.2.2⟩
              · go_simp
                refine bgB.mono ?_
                rintro e w6 ⟨rfl, rfl⟩
                go_simp
                refine hK.out _ _ (HCB.out) (fun hHeld => ?_)
                clear hK K
                try simp only [Act.put, List.setIfInBounds_toArray, List.set_cons_zero, List.set_cons_succ]
                refine takeJ 14 (v := ?_) ?_ hHeld ?_
                rotate_left
                · rintro w ⟨_, _, _, _⟩; go_simp; try with_reducible rfl
                refine takeJ 15 (v := ?_) ?_ hHeld ?_
                rotate_left
                · rintro w ⟨_, _, _, _⟩; go_simp; try with_reducible rfl
                refine onlyH (i := 4) rfl (by kernel_rfl) rfl (fun K hK => ?_)
                go_simp
                refine hK.out _ _ (HCB.out) (fun hHeld => ?_)
                clear hK K
                try simp only [Act.put, List.setIfInBounds_toArray, List.set_cons_zero, List.set_cons_succ]
                refine onlyH (i := 16) rfl (by kernel_rfl) rfl (fun K hK => ?_)
                refine wp_append_run2 (.tmp 55) (.tmp 66) 74 9 rfl rfl rfl HRUN.out ?_
                refine hK.out _ _ (HC7.out) (fun hHeld => ?_)
                clear hK K
                try simp only [Act.put, List.setIfInBounds_toArray, List.set_cons_zero, List.set_cons_succ]
                refine takeJ 17 (v := ?_) ?_ hHeld ?_
                rotate_left
                · rintro w ⟨_, _, _, _⟩; go_simp; try with_reducible rfl
                refine takeJ 18 (v := ?_) ?_ hHeld ?_
                rotate_left
                · rintro w ⟨_, _, _, _⟩; go_simp; try with_reducible rfl
                refine onlyH (i := 19) rfl (by kernel_rfl) rfl (fun K hK => ?_)
                go_simp
                refine hK.out _ _ (HC8.out) (fun hHeld => ?_)
                clear hK K
                try simp only [Act.put, List.setIfInBounds_toArray, List.set_cons_zero, List.set_cons_succ]
                refine wpAnyH_done (by kernel_rfl) ?_ _
                clear hHeld
                go_wp2
                go_ret
                rw [HGS.out]
                exact ⟨rfl, FIN.out.1, FIN.out.2.1, FIN.out.2.2⟩
          · have hn1 : 1 ≤ n.1 := by have := hrt.lo; omega
            have hn20 := hrt.hi
            have hgs := goS_fan (fd := fd) (k := k) (p := p) (level := level) (s := s) HBAD.out HNSK.out HE.out.1.symm (fun h => hn0 (HE.out.2 ▸ h))
            rw [← HE.out.2] at hgs
            have HGS := hide hgs
            have hdn := hrt.none hn1
            have hsp : sizeP n.2.2 = p.2 := by
              unfold sizeN at hsn
              rw [hdn] at hsn
              simp only [List.length_nil] at hsn
              omega
            have hbn : (n.1 == 0) = false := by rw [beq_eq_false_iff_ne]; exact hn0
            have HRT := hide hrt
            have HSP := hide hsp
            have hlk : (0 : Int) ≤ n.1 - 1 ∧ n.1 - 1 < k := by
              rcases hlv with ⟨h1, h2⟩ | ⟨h1, h2⟩
              · omega
              · rcases hlvn with h | h <;> omega
            have HLK := hide hlk
            obtain ⟨m, hm⟩ : ∃ m, m = n.2.2.length := ⟨_, rfl⟩
            have hvm : vm = m := by
              obtain ⟨ao, cap, hv, -⟩ := own_form H5.out.2.2.2.1
              injection hv with _ h2 _
              omega
            subst hvm
            have hmost := hrt.most
            have HM := hide hm
            obtain ⟨s1, hs1⟩ : ∃ s1 : Wk, s1 = ⟨s.asked ++ [p.1], s.data, s.parts, 0⟩ := ⟨_, rfl⟩
            obtain ⟨f, hf⟩ : ∃ f : Part → Int → Wk → Wk, f = fun q b t => goS fd lo hi k q b (n.1 - 1) t := ⟨_, rfl⟩
            have hfd : ∀ q b t, t.bad ≠ 0 → f q b t = t := by subst hf; exact fun q b t h => goS_dead _ _ _ _ _ _ _ _ h
            have hfg : ∀ q b t, 1 ≤ q.2 → Grows t (f q b t) (k * q.2.toNat) q.2.toNat := by subst hf; exact fun q b t h => goS_grows _ _ _ _ _ _ _ _ h
            have hgs3 : goS fd lo hi (k + 1) p a level s = eachP f n.2.2 a s1 := by rw [hgs, hf, hs1]
            have HG3 := hide hgs3
            have HF := hide (And.intro hfd (And.intro hfg hf))
            have HS1 := hide hs1
            have hmf : ∀ (fn : Fn) (first cap : Array Value) (w : World), (Instr.makeFunc fn first cap).run Tryz.prog w = .ok (.func fn first cap) w := fun _ _ _ _ => rfl
            have pl0 := cell_of_row w5 w.heap.size 0 _ _ _ hq5
            have pl1 := cell_of_row w5 w.heap.size 1 _ _ _ hq5
            have pl2 := cell_of_row w5 w.heap.size 2 _ _ _ hq5
            simp only [List.getElem?_toArray, List.getElem?_cons_zero, List.getElem?_cons_succ] at pl0 pl1 pl2
            clear hgs hgs3 hfd hfg hf hs1 hsp hrt hlv hlvn hsn hdn hm hmost hlk HGS
            go_wp2_with fail
            have hm5 : vm ≤ 32 := by have := HRT.out.most; have := HM.out; omega
            go_loopw [76, 11] (fun t u wr => ∃ j : Nat, j ≤ vm ∧ t = .int .i64 j ∧ NextV (a + sizeP (n.2.2.take j)) u ∧ (eachP f (n.2.2.take j) a s1).bad = 0 ∧ RdW B wr g (.func (.func gf) #[] caps) lo hi (eachP f (n.2.2.take j) a s1).data ∧ I wr (eachP f (n.2.2.take j) a s1).asked ∧ Mv B gts none w5 wr)
              (fun t _ _ => vm - (intOf t).toNat)
            case atStart =>
              refine ⟨0, by omega, rfl, ?_, ?_, ?_, ?_, Mv.refl _ _ _ _⟩
              · simp only [List.take_zero, sizeP_nil, Int.add_zero]; exact next_begin _ _ _
              · rw [HS1.out]; rfl
              · rw [HS1.out]; exact H5.out.1
              · rw [HS1.out]; exact H5.out.2.1
            case round =>
              obtain ⟨j, hj, rfl, hnx, hbd, hRr, hIr, hMr⟩ := hrel
              obtain ⟨fx, vx, rfl, eg2, hnx2⟩ := hnx
              have hBr : B ≤ wr.heap.size := hG.le _ _ hIr
              have hyr := hMr.k _ _ _ _ hy5 (by decide) (by simp)
              have e0 := cell_of_row wr nb 0 _ _ _ hyr
              have e1 := cell_of_row wr nb 1 _ _ _ hyr
              simp only [List.getElem?_toArray, List.getElem?_cons_zero, List.getElem?_cons_succ] at e0 e1
              by_cases hlt : j < vm
              · have hlt2 : j < n.2.2.length := by have := HM.out; omega
                have hovr := hMr.own0 H5.out.2.2.2.1 (by decide)
                obtain ⟨bb, off, rfl, k0, k1⟩ := own_part hovr hlt2
                have hwi := sizeP_within n.2.2 HRT.out.each j hlt2
                have hst := eachP_step f n.2.2 j hlt2 a s1
                have hss := sizeP_step n.2.2 j hlt2
                have hgr := eachP_grows HF.out.2.1 (n.2.2.take j) a s1 (fun q hq => HRT.out.each q (List.mem_of_mem_take hq))
                rw [HSP.out] at hwi
                generalize n.2.2[j] = kd at *
                have hw6b : Below wr.heap.size wr (wr.alloc (.cells #[.string (strB kd.1), .int .i64 kd.2] 25)) := (Below.refl _ _).alloc (Nat.le_refl _) _
                have hp6 := heap_last wr (.cells #[.string (strB kd.1), .int .i64 kd.2] 25) _ rfl
                have hR6 := hRr.below hw6b
                have hI6 := hG.below hIr hw6b
                have hy6 := (hw6b.block _ (lt_of_heap hyr)).trans hyr
                have hM6 := hMr.more hw6b hBr
                have hn6 : (wr.alloc (.cells #[.string (strB kd.1), .int .i64 kd.2] 25)).heap.size = wr.heap.size + 1 := by simp
                generalize hw6 : wr.alloc (.cells #[.string (strB kd.1), .int .i64 kd.2] 25) = w6 at *
                have p0 := cell_of_row w6 wr.heap.size 0 _ _ _ hp6
                have p1 := cell_of_row w6 wr.heap.size 1 _ _ _ hp6
                simp only [List.getElem?_toArray, List.getElem?_cons_zero, List.getElem?_cons_succ] at p0 p1
                obtain ⟨z, hz⟩ : ∃ z, z = a + sizeP (n.2.2.take j) := ⟨_, rfl⟩
                rw [← hz] at hnx2 hst
                obtain ⟨sj, hsj⟩ : ∃ sj, sj = eachP f (n.2.2.take j) a s1 := ⟨_, rfl⟩
                rw [← hsj] at hbd hR6 hI6 hst hgr
                have hzb : 0 ≤ z ∧ z + kd.2 ≤ 262144 := by omega
                have hnA := hnx2 w6.drew
                have hnB := hnx2 (w6.alloc (.cells #[.string ⟨#[]⟩, .int .i64 0, .int .i64 0] 82)).drew
                have hpZ := (heap_past w6 (.cells #[.string ⟨#[]⟩, .int .i64 0, .int .i64 0] 82) _ (lt_of_heap hp6)).trans hp6
                have hyZ := (heap_past w6 (.cells #[.string ⟨#[]⟩, .int .i64 0, .int .i64 0] 82) _ (lt_of_heap hy6)).trans hy6
                have hkZ := heap_last w6 (.cells #[.string ⟨#[]⟩, .int .i64 0, .int .i64 0] 82) _ rfl
                have pz0 := cell_of_row _ wr.heap.size 0 _ _ _ hpZ
                have pz1 := cell_of_row _ wr.heap.size 1 _ _ _ hpZ
                simp only [List.getElem?_toArray, List.getElem?_cons_zero, List.getElem?_cons_succ] at pz0 pz1
                have H6 := hide (And.intro hp6 (And.intro hR6 (And.intro hI6 (And.intro hy6 (And.intro hM6 (And.intro hpZ (And.intro hyZ hkZ)))))))
                have HX6 := hide (And.intro hbd (And.intro hst (And.intro hgr (And.intro hsj (And.intro hss (And.intro hz hwi))))))
                have hB6 : B ≤ w6.heap.size := by omega
                have HN6 := hide hn6
                clear hn6 hw6b hp6 hR6 hI6 hy6 hM6 hpZ hyZ hkZ hbd hst hgr hsj hss hz hRr hIr hMr hovr hnx2 hyr
                go_wp2_with fail
                refine wp_region_held_drew (S := fun W => W.cell? ⟨wr.heap.size, 0, none⟩ = some (.string (strB kd.1)) ∧ W.cell? ⟨wr.heap.size, 1, none⟩ = some (.int .i64 kd.2)) (by kernel_rfl) (⟨p0, p1⟩) (fun hHeld => ?_)
                refine takeJ 0 (v := ?_) ?_ hHeld ?_
                rotate_left
                · rintro w ⟨_, _⟩; go_simp; try with_reducible rfl
                refine takeJ 1 (v := ?_) ?_ hHeld ?_
                rotate_left
                · rintro w ⟨_, _⟩; go_simp; try with_reducible rfl
                refine twoH (i := 2) (j := 4) rfl rfl (by kernel_rfl) rfl rfl (fun K hK => ?_) (fun K hK => ?_)
                · go_simp
                  refine hnA.mono ?_
                  rintro e w7 ⟨rfl, hb7⟩
                  have hb67 : Below w6.heap.size w6 w7 := ((Below.refl _ _).drew).trans hb7
                  have hp7 := (hb67.block _ (lt_of_heap H6.out.1)).trans H6.out.1
                  have hy7 := (hb67.block _ (lt_of_heap H6.out.2.2.2.1)).trans H6.out.2.2.2.1
                  have hR7 := H6.out.2.1.below hb67
                  have hI7 := hG.below H6.out.2.2.1 hb67
                  have hM7 := H6.out.2.2.2.2.1.more hb67 hB6
                  have p7 := cell_of_row w7 wr.heap.size 0 _ _ _ hp7
                  have p7' := cell_of_row w7 wr.heap.size 1 _ _ _ hp7
                  have hpz7 := (heap_past w7 (.cells #[.string ⟨#[]⟩, .int .i64 0, .int .i64 0] 82) _ (lt_of_heap hp7)).trans hp7
                  have hpk7 := (heap_past w7 (.cells #[.string (strB kd.1), .int .i64 kd.2, .int .i64 z] 82) _ (lt_of_heap hp7)).trans hp7
                  have u7 := cell_of_row _ wr.heap.size 0 _ _ _ hpz7
                  have u7' := cell_of_row _ wr.heap.size 1 _ _ _ hpz7
                  have t7 := cell_of_row _ wr.heap.size 0 _ _ _ hpk7
                  have t7' := cell_of_row _ wr.heap.size 1 _ _ _ hpk7
                  simp only [List.getElem?_toArray, List.getElem?_cons_zero, List.getElem?_cons_succ] at p7 p7' u7 u7' t7 t7'
                  go_simp
                  refine hK.out _ _ (⟨p7, p7'⟩) (fun hHeld => ?_)
                  clear hK K
                  try simp only [Act.put, List.setIfInBounds_toArray, List.set_cons_zero, List.set_cons_succ]
                  refine takeJ 3 (v := ?_) ?_ hHeld ?_
                  rotate_left
                  · rintro w ⟨_, _⟩; go_simp; try with_reducible rfl
                  refine onlyH (i := 4) rfl (by kernel_rfl) rfl (fun K hK => ?_)
                  go_simp
                  refine hK.out _ _ (⟨u7, u7'⟩) (fun hHeld => ?_)
                  clear hK K
                  try simp only [Act.put, List.setIfInBounds_toArray, List.set_cons_zero, List.set_cons_succ]
                  refine onlyH (i := 5) rfl (by kernel_rfl) rfl (fun K hK => ?_)
                  go_simp
                  refine hK.out _ _ (⟨t7, t7'⟩) (fun hHeld => ?_)
                  clear hK K
                  try simp only [Act.put, List.setIfInBounds_toArray, List.set_cons_zero, List.set_cons_succ]
                  refine wpAnyH_done (by kernel_rfl) ?_ _
                  clear hHeld p7 p7' u7 u7' t7 t7'
                  have hB7 : Below w7.heap.size w7 (w7.alloc (.cells #[.string (strB kd.1), .int .i64 kd.2, .int .i64 z] 82)) := (Below.refl _ _).alloc (Nat.le_refl _) _
                  have hk8 := heap_last w7 (.cells #[.string (strB kd.1), .int .i64 kd.2, .int .i64 z] 82) _ rfl
                  have hy8 := (hB7.block _ (lt_of_heap hy7)).trans hy7
                  have hR8 := hR7.below hB7
                  have hI8 := hG.below hI7 hB7
                  have hM8 := hM7.more hB7 (hG.le _ _ hI7)
                  generalize w7.alloc (.cells #[.string (strB kd.1), .int .i64 kd.2, .int .i64 z] 82) = w8 at *
                  generalize w7.heap.size = kb at *
                  clear hb7 hb67 hp7 hy7 hR7 hI7 hM7 hpz7 hpk7 hB7 hnA hnB
                  have q8 := cell_of_row w8 kb 0 _ _ _ hk8
                  have q8' := cell_of_row w8 kb 1 _ _ _ hk8
                  have q8'' := cell_of_row w8 kb 2 _ _ _ hk8
                  have l8 := cell_of_row w8 nb 0 _ _ _ hy8
                  simp only [List.getElem?_toArray, List.getElem?_cons_zero, List.getElem?_cons_succ] at q8 q8' q8'' l8
                  obtain ⟨x1, x2, x3, x4, x5, x6, x7, x8, x9⟩ := HX6.out
                  have hmul : k * (sizeP (n.2.2.take j)).toNat + k * kd.2.toNat ≤ k * p.2.toNat := by rw [← Nat.mul_add]; exact Nat.mul_le_mul_left _ (by omega)
                  have hk1 : (k + 1) * p.2.toNat = k * p.2.toNat + p.2.toNat := by rw [Nat.add_mul]; simp
                  have hsl1 : s1.asked.length = s.asked.length + 1 := by rw [HS1.out]; simp
                  have hsl2 : s1.data.length = s.data.length := by rw [HS1.out]
                  have hrec := ih w8 kd z (n.1 - 1) sj (.inr HLK.out) hzb.1 (by omega) hzb.2 x1 hR8 hI8 (by have := x3.1; have := HN.out.1; omega) (by have := x3.2.1; have := HN.out.2; omega)
                  have hff : f kd z sj = goS fd lo hi k kd z (n.1 - 1) sj := by rw [HF.out.2.2]
                  rw [← hff, ← x2] at hrec
                  have hnv := next_end (strB kd.1) kd.2 z (by omega) hzb.1 hzb.2
                  have e5 : z + kd.2 = a + sizeP (n.2.2.take (j + 1)) := by rw [x5, x6]; omega
                  rw [e5] at hnv
                  have HNV := hide hnv
                  have H8 := hide (And.intro hk8 hM8)
                  obtain ⟨sn, hsn⟩ : ∃ sn, sn = eachP f (n.2.2.take (j + 1)) a s1 := ⟨_, rfl⟩
                  rw [← hsn] at hrec
                  have HSN := hide hsn
                  clear x1 x2 x3 x4 x5 x6 x7 x8 x9 hmul hk1 hsl1 hsl2 hff hnv e5 hsn hR8 hI8 hM8 hk8 hy8
                  go_wp2_with fail
                  refine hrec.mono ?_
                  rintro e w9 ⟨rfl, hR9, hI9, hM9⟩
                  have hk9 := hM9.k _ _ _ _ H8.out.1 (by decide) (by simp)
                  have q9 := cell_of_row w9 kb 0 _ _ _ hk9
                  have q9' := cell_of_row w9 kb 1 _ _ _ hk9
                  have q9'' := cell_of_row w9 kb 2 _ _ _ hk9
                  simp only [List.getElem?_toArray, List.getElem?_cons_zero, List.getElem?_cons_succ] at q9 q9' q9''
                  have hM95 := H8.out.2.trans hM9 (Nx.refl _ _)
                  have H9 := hide (And.intro hR9 (And.intro hI9 hM95))
                  clear hrec hR9 hI9 hM9 hM95 hk9 q8 q8' q8'' l8
                  by_cases hb9 : sn.bad = 0
                  · have hbb : (sn.bad != 0) = false := by rw [hb9]; rfl
                    go_wp2
                    have HREL := hide (show ∃ j' : Nat, j' ≤ vm ∧ (Value.int .i64 ((j : Int) + 1)) = .int .i64 j' ∧ NextV (a + sizeP (n.2.2.take j')) (.func (.func 49) #[.agg #[.string (strB kd.1), .int .i64 kd.2, .int .i64 z]] #[]) ∧ (eachP f (n.2.2.take j') a s1).bad = 0 ∧ RdW B w9 g (.func (.func gf) #[] caps) lo hi (eachP f (n.2.2.take j') a s1).data ∧ I w9 (eachP f (n.2.2.take j') a s1).asked ∧ Mv B gts none w5 w9 from ⟨j + 1, by omega, by simp, HNV.out, by rw [← HSN.out]; exact hb9, by rw [← HSN.out]; exact H9.out.1, by rw [← HSN.out]; exact H9.out.2.1, H9.out.2.2⟩)
                    go_roundw
                    case rel => exact HREL.out
                    case measure => simp [intOf]; omega
                  · have hbb : (sn.bad != 0) = true := by simpa using hb9
                    have hstop := eachP_stop HF.out.1 n.2.2 (j + 1) a s1 (by rw [← HSN.out]; exact hb9)
                    have HST := hide hstop
                    clear hstop
                    go_wp2
                    go_ret
                    rw [HG3.out, HST.out, ← HSN.out]
                    exact ⟨rfl, H9.out.1, H9.out.2.1, H5.out.2.2.1.trans H9.out.2.2 (Nx.refl _ _)⟩
                · go_simp
                  refine hK.out _ _ (⟨pz0, pz1⟩) (fun hHeld => ?_)
                  clear hK K
                  try simp only [Act.put, List.setIfInBounds_toArray, List.set_cons_zero, List.set_cons_succ]
                  refine onlyH (i := 2) rfl (by kernel_rfl) rfl (fun K hK => ?_)
                  go_simp
                  refine hnB.mono ?_
                  rintro e w7 ⟨rfl, hb7⟩
                  have hbZ : Below w6.heap.size w6 (w6.alloc (.cells #[.string ⟨#[]⟩, .int .i64 0, .int .i64 0] 82)) := (Below.refl _ _).alloc (Nat.le_refl _) _
                  have hb67 : Below w6.heap.size w6 w7 := hbZ.drew.trans (hb7.mono (by simp))
                  have hbz7 : Below (w6.alloc (.cells #[.string ⟨#[]⟩, .int .i64 0, .int .i64 0] 82)).heap.size (w6.alloc (.cells #[.string ⟨#[]⟩, .int .i64 0, .int .i64 0] 82)) w7 := ((Below.refl _ _).drew).trans hb7
                  have hp7 := (hb67.block _ (lt_of_heap H6.out.1)).trans H6.out.1
                  have hy7 := (hb67.block _ (lt_of_heap H6.out.2.2.2.1)).trans H6.out.2.2.2.1
                  have hk7 := (hbz7.block _ (lt_of_heap H6.out.2.2.2.2.2.2.2)).trans H6.out.2.2.2.2.2.2.2
                  have hR7 := H6.out.2.1.below hb67
                  have hI7 := hG.below H6.out.2.2.1 hb67
                  have hM7 := H6.out.2.2.2.2.1.more hb67 hB6
                  have p7 := cell_of_row w7 wr.heap.size 0 _ _ _ hp7
                  have p7' := cell_of_row w7 wr.heap.size 1 _ _ _ hp7
                  have v0 := cell_of_row w7 w6.heap.size 0 _ _ _ hk7
                  have v1 := cell_of_row w7 w6.heap.size 1 _ _ _ hk7
                  have v2 := cell_of_row w7 w6.heap.size 2 _ _ _ hk7
                  have f0 := frozen0 (j := 0) hk7
                  have f1 := frozen0 (j := 1) hk7
                  have f2 := frozen0 (j := 2) hk7
                  have hne : wr.heap.size ≠ w6.heap.size := by have := HN6.out; omega
                  have hpk7 : (((w7.setCell ⟨w6.heap.size, 0, none⟩ (.string (strB kd.1))).setCell ⟨w6.heap.size, 1, none⟩ (.int .i64 kd.2)).setCell ⟨w6.heap.size, 2, none⟩ (.int .i64 z)).heap[wr.heap.size]? = _ := (heap_setOther hne).trans ((heap_setOther hne).trans ((heap_setOther hne).trans hp7))
                  have t7 := cell_of_row _ wr.heap.size 0 _ _ _ hpk7
                  have t7' := cell_of_row _ wr.heap.size 1 _ _ _ hpk7
                  simp only [List.getElem?_toArray, List.getElem?_cons_zero, List.getElem?_cons_succ] at p7 p7' t7 t7' v0 v1 v2
                  clear hne
                  go_simp
                  refine hK.out _ _ (⟨p7, p7'⟩) (fun hHeld => ?_)
                  clear hK K
                  try simp only [Act.put, List.setIfInBounds_toArray, List.set_cons_zero, List.set_cons_succ]
                  refine takeJ 3 (v := ?_) ?_ hHeld ?_
                  rotate_left
                  · rintro w ⟨_, _⟩; go_simp; try with_reducible rfl
                  refine onlyH (i := 5) rfl (by kernel_rfl) rfl (fun K hK => ?_)
                  go_simp
                  refine hK.out _ _ (⟨t7, t7'⟩) (fun hHeld => ?_)
                  clear hK K
                  try simp only [Act.put, List.setIfInBounds_toArray, List.set_cons_zero, List.set_cons_succ]
                  refine wpAnyH_done (by kernel_rfl) ?_ _
                  clear hHeld p7 p7' t7 t7' v0 v1 v2 f0 f1 f2
                  have hk8 := heap_set3all (u0 := .string (strB kd.1)) (u1 := .int .i64 kd.2) (u2 := .int .i64 z) hk7
                  have hmm : Mv B [82] none w7 (((w7.setCell ⟨w6.heap.size, 0, none⟩ (.string (strB kd.1))).setCell ⟨w6.heap.size, 1, none⟩ (.int .i64 kd.2)).setCell ⟨w6.heap.size, 2, none⟩ (.int .i64 z)) := (((Mv.refl B _ none w7).set (j := 0) hk7 (by decide) (by omega) _).set (j := 1) (heap_set3a hk7) (by decide) (by omega) _).set (j := 2) (heap_set3 (heap_set3a hk7)) (by decide) (by omega) _
                  have hy8 := hmm.k _ _ _ _ hy7 (by decide) (by simp)
                  have hR8 := hR7.keep hmm (by decide) (by decide)
                  have hI8 : I (((w7.setCell ⟨w6.heap.size, 0, none⟩ (.string (strB kd.1))).setCell ⟨w6.heap.size, 1, none⟩ (.int .i64 kd.2)).setCell ⟨w6.heap.size, 2, none⟩ (.int .i64 z)) sj.asked := hG.mv hI7 (hmm.types (by decide))
                  have hM8 : Mv B gts none w5 (((w7.setCell ⟨w6.heap.size, 0, none⟩ (.string (strB kd.1))).setCell ⟨w6.heap.size, 1, none⟩ (.int .i64 kd.2)).setCell ⟨w6.heap.size, 2, none⟩ (.int .i64 z)) := ((hM7.setNew (j := 0) (by have := H6.out.2.2.2.2.1.size; have := HN6.out; omega) (by have := hG.le _ _ H5.out.2.1; omega) _).setNew (j := 1) (by have := H6.out.2.2.2.2.1.size; have := HN6.out; omega) (by have := hG.le _ _ H5.out.2.1; omega) _).setNew (j := 2) (by have := H6.out.2.2.2.2.1.size; have := HN6.out; omega) (by have := hG.le _ _ H5.out.2.1; omega) _
                  generalize (((w7.setCell ⟨w6.heap.size, 0, none⟩ (.string (strB kd.1))).setCell ⟨w6.heap.size, 1, none⟩ (.int .i64 kd.2)).setCell ⟨w6.heap.size, 2, none⟩ (.int .i64 z)) = w8 at *
                  generalize w6.heap.size = kb at *
                  clear hb7 hb67 hp7 hy7 hR7 hI7 hM7 hpk7 hnA hnB hk7 hmm hbZ hbz7
                  have q8 := cell_of_row w8 kb 0 _ _ _ hk8
                  have q8' := cell_of_row w8 kb 1 _ _ _ hk8
                  have q8'' := cell_of_row w8 kb 2 _ _ _ hk8
                  have l8 := cell_of_row w8 nb 0 _ _ _ hy8
                  simp only [List.getElem?_toArray, List.getElem?_cons_zero, List.getElem?_cons_succ] at q8 q8' q8'' l8
                  obtain ⟨x1, x2, x3, x4, x5, x6, x7, x8, x9⟩ := HX6.out
                  have hmul : k * (sizeP (n.2.2.take j)).toNat + k * kd.2.toNat ≤ k * p.2.toNat := by rw [← Nat.mul_add]; exact Nat.mul_le_mul_left _ (by omega)
                  have hk1 : (k + 1) * p.2.toNat = k * p.2.toNat + p.2.toNat := by rw [Nat.add_mul]; simp
                  have hsl1 : s1.asked.length = s.asked.length + 1 := by rw [HS1.out]; simp
                  have hsl2 : s1.data.length = s.data.length := by rw [HS1.out]
                  have hrec := ih w8 kd z (n.1 - 1) sj (.inr HLK.out) hzb.1 (by omega) hzb.2 x1 hR8 hI8 (by have := x3.1; have := HN.out.1; omega) (by have := x3.2.1; have := HN.out.2; omega)
                  have hff : f kd z sj = goS fd lo hi k kd z (n.1 - 1) sj := by rw [HF.out.2.2]
                  rw [← hff, ← x2] at hrec
                  have hnv := next_end (strB kd.1) kd.2 z (by omega) hzb.1 hzb.2
                  have e5 : z + kd.2 = a + sizeP (n.2.2.take (j + 1)) := by rw [x5, x6]; omega
                  rw [e5] at hnv
                  have HNV := hide hnv
                  have H8 := hide (And.intro hk8 hM8)
                  obtain ⟨sn, hsn⟩ : ∃ sn, sn = eachP f (n.2.2.take (j + 1)) a s1 := ⟨_, rfl⟩
                  rw [← hsn] at hrec
                  have HSN := hide hsn
                  clear x1 x2 x3 x4 x5 x6 x7 x8 x9 hmul hk1 hsl1 hsl2 hff hnv e5 hsn hR8 hI8 hM8 hk8 hy8
                  go_wp2_with fail
                  refine hrec.mono ?_
                  rintro e w9 ⟨rfl, hR9, hI9, hM9⟩
                  have hk9 := hM9.k _ _ _ _ H8.out.1 (by decide) (by simp)
                  have q9 := cell_of_row w9 kb 0 _ _ _ hk9
                  have q9' := cell_of_row w9 kb 1 _ _ _ hk9
                  have q9'' := cell_of_row w9 kb 2 _ _ _ hk9
                  simp only [List.getElem?_toArray, List.getElem?_cons_zero, List.getElem?_cons_succ] at q9 q9' q9''
                  have hM95 := H8.out.2.trans hM9 (Nx.refl _ _)
                  have H9 := hide (And.intro hR9 (And.intro hI9 hM95))
                  clear hrec hR9 hI9 hM9 hM95 hk9 q8 q8' q8'' l8
                  by_cases hb9 : sn.bad = 0
                  · have hbb : (sn.bad != 0) = false := by rw [hb9]; rfl
                    go_wp2
                    have HREL := hide (show ∃ j' : Nat, j' ≤ vm ∧ (Value.int .i64 ((j : Int) + 1)) = .int .i64 j' ∧ NextV (a + sizeP (n.2.2.take j')) (.func (.func 49) #[.agg #[.string (strB kd.1), .int .i64 kd.2, .int .i64 z]] #[]) ∧ (eachP f (n.2.2.take j') a s1).bad = 0 ∧ RdW B w9 g (.func (.func gf) #[] caps) lo hi (eachP f (n.2.2.take j') a s1).data ∧ I w9 (eachP f (n.2.2.take j') a s1).asked ∧ Mv B gts none w5 w9 from ⟨j + 1, by omega, by simp, HNV.out, by rw [← HSN.out]; exact hb9, by rw [← HSN.out]; exact H9.out.1, by rw [← HSN.out]; exact H9.out.2.1, H9.out.2.2⟩)
                    go_roundw
                    case rel => exact HREL.out
                    case measure => simp [intOf]; omega
                  · have hbb : (sn.bad != 0) = true := by simpa using hb9
                    have hstop := eachP_stop HF.out.1 n.2.2 (j + 1) a s1 (by rw [← HSN.out]; exact hb9)
                    have HST := hide hstop
                    clear hstop
                    go_wp2
                    go_ret
                    rw [HG3.out, HST.out, ← HSN.out]
                    exact ⟨rfl, H9.out.1, H9.out.2.1, H5.out.2.2.1.trans H9.out.2.2 (Nx.refl _ _)⟩
              · obtain rfl : j = vm := by omega
                have htk : n.2.2.take j = n.2.2 := by rw [HM.out, List.take_length]
                rw [htk] at hbd hRr hIr
                have HL := hide (And.intro hbd (And.intro hRr (And.intro hIr hMr)))
                clear hbd hRr hIr hMr htk hyr hnx2
                go_wp2
                go_ret
                rw [HG3.out]
                exact ⟨by rw [HL.out.1]; rfl, HL.out.2.1, HL.out.2.2.1, H5.out.2.2.1.trans HL.out.2.2.2 (Nx.refl _ _)⟩
        · have hgs := goS_bad (fd := fd) (k := k) (p := p) (level := level) (s := s) HBAD.out HNSK.out (HE.out.1 ▸ he0)
          have HGS := hide hgs
          have hb : (er != 0) = true := by simpa using he0
          clear hgs ih
          go_wp2
          go_ret
          rw [HGS.out, ← HE.out.1]
          exact ⟨rfl, H5.out.1, H5.out.2.1, H5.out.2.2.1⟩
end Go.Proofs.YtokebnkgjchfaaaGreatDoor
