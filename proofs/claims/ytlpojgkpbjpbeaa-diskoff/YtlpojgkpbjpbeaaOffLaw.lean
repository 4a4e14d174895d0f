/-
  DiskOff's walk: with the power gone nothing changes, whatever is called. Conditions: what came in lies there.
-/
import Derived.Test.YtlpojgkpbjpbeaaCrashLaw
namespace Go.Proofs.Ytlpojgkpbjpbeaa
open Go.RowKit
section
variable {w : World} {F : Nat → Prop} {d : Nat} {S : Dk} {G : Gh}

set_option maxRecDepth 20000 in
theorem sync_off (h : Rep w F d S G) (hon : S.on = false) (n : Nm) : Calls Try.prog 20 #[.pointer (some ⟨d, 0, none⟩), .string (strB n)] w fun e w' => e = .returned (.int .i64 35) ∧ Chg (fun _ => False) w w' := by
  have hbeg := on_off h hon n
  go_enter Try.func20, Try.ntmps20
  go_wp2_with (go_at_call 40; refine hbeg.mono ?_; rintro e w1 ⟨rfl, hr1, hc1⟩)
  go_ret
  exact ⟨rfl, hc1⟩
set_option maxRecDepth 20000 in
theorem remove_off (h : Rep w F d S G) (hon : S.on = false) (n : Nm) : Calls Try.prog 17 #[.pointer (some ⟨d, 0, none⟩), .string (strB n)] w fun e w' => e = .returned (.int .i64 35) ∧ Chg (fun _ => False) w w' := by
  have hA : Chg (fun _ => False) w (w.alloc (.cells #[.string (strB n)] 9)) := (Chg.refl _ w).alloc _
  have hn0 := heap_last w (.cells #[.string (strB n)] 9)
  have x0 := cell_of hn0 0
  have hbeg := on_off (h.keep hA (fun _ _ h => h) (fun _ h => h)) hon n
  go_enter Try.func17, Try.ntmps17
  go_wp2_with (go_at_call 40; refine hbeg.mono ?_; rintro e w1 ⟨rfl, hr1, hc1⟩)
  go_ret
  exact ⟨rfl, hA.then hc1⟩
set_option maxRecDepth 20000 in
theorem read_off (h : Rep w F d S G) (hon : S.on = false) (n : Nm) : Calls Try.prog 19 #[.pointer (some ⟨d, 0, none⟩), .string (strB n)] w fun e w' => e = .returned (.tuple #[.slice none 0 0, .int .i64 35]) ∧ Chg (fun _ => False) w w' := by
  have hbeg := on_off h hon n
  go_enter Try.func19, Try.ntmps19
  go_wp2_with (go_at_call 40; refine hbeg.mono ?_; rintro e w1 ⟨rfl, hr1, hc1⟩)
  go_ret2
  exact ⟨rfl, hc1⟩
set_option maxRecDepth 20000 in
theorem readAt_off (h : Rep w F d S G) (hon : S.on = false) (n : Nm) (a k : Int) : Calls Try.prog 31 #[.pointer (some ⟨d, 0, none⟩), .string (strB n), .int .i64 a, .int .i64 k] w fun e w' => e = .returned (.tuple #[.slice none 0 0, .int .i64 35]) ∧ Chg (fun _ => False) w w' := by
  have hbeg := on_off h hon n
  go_enter Try.func31, Try.ntmps31
  go_wp2_with (go_at_call 40; refine hbeg.mono ?_; rintro e w1 ⟨rfl, hr1, hc1⟩)
  go_ret2
  exact ⟨rfl, hc1⟩
set_option maxRecDepth 20000 in
theorem syncDir_off (h : Rep w F d S G) (hon : S.on = false) : Calls Try.prog 21 #[.pointer (some ⟨d, 0, none⟩)] w fun e w' => e = .returned (.int .i64 35) ∧ Chg (fun _ => False) w w' := by
  have hbeg := beginOff_rep h hon
  go_enter Try.func21, Try.ntmps21
  go_wp2_with (go_at_call 45; refine hbeg.mono ?_; rintro e w1 ⟨rfl, hr1, hc1⟩)
  go_ret
  exact ⟨rfl, hc1⟩
set_option maxRecDepth 20000 in
theorem rename_off0 (h : Rep w F d S G) (hon : S.on = false) (n m : Nm) : Calls Try.prog 23 #[.pointer (some ⟨d, 0, none⟩), .string (strB n), .string (strB m)] w fun e w' => e = .returned (.int .i64 35) ∧ Chg (fun _ => False) w w' := by
  have hbeg := beginOff_rep (h.keep (boxed_chg w n m) (fun _ _ h => h) (fun _ h => h)) hon
  have hB := boxed_chg w n m
  have hsz := boxed_size w n m
  unfold boxed at hbeg hB hsz
  go_enter Try.func23, Try.ntmps23
  go_wp2_with (go_at_call 45; refine hbeg.mono ?_; rintro e w1 ⟨rfl, hr1, hc1⟩)
  go_ret
  exact ⟨rfl, hB.then hc1⟩
end

set_option maxRecDepth 20000 in
set_option maxHeartbeats 8000000 in
theorem off_any (w : World) (v0 v1 : Value) (os os1 : List Oq) (h : Ob w.heap.size w v0 os) (h1 : Ob w.heap.size w v1 os1) (hl : os.length ≤ 4611686018427387904) (hl1 : os1.length ≤ 4611686018427387904) :
    Calls Try.prog 7 #[v0, v1] w fun e w' => e = .returned (.bool true) ∧ Below w.heap.size w w' := by
  go_enter Try.func7, Try.ntmps7
  go_wp2_with fail
  refine (shown_any w).mono ?_
  rintro e w1 ⟨rfl, hb1⟩
  go_wp2_with fail
  refine (played_any w1 v0 os 60 hb1.size (h.keep hb1) hl (by omega)).mono ?_
  rintro e w2 ⟨d, F, S, rfl, hs2, -, hbu, hb2'⟩
  have hb2 := hb1.trans hb2'
  have hz2 := hb2.size
  clear hb1 hb2' h
  have hok := hs2.ok
  have hdl : S.dir.length ≤ 160000 := by have := dir_len hok; omega
  have hn0 := n_le S
  have hac : S.acts.length ≤ 160000 := by
    have : S.acts.length ≤ S.bulk := by unfold Dk.bulk; omega
    omega
  go_wp2_with fail
  refine (names_stands hs2 (by omega)).mono ?_
  rintro e w3 ⟨vn, rfl, hvn, hs3, hc3⟩
  have hb3 := hb2.trans (chg_below hc3 hz2)
  have hz3 := hb3.size
  have hvb := own_base hvn
  have hlo := fun k hk => (hs2.2.1 k hk).2
  clear hs2 hb2 hc3
  go_wp2_with fail
  refine (loose_lies hs3).mono ?_
  rintro e w4 ⟨rfl, rfl⟩
  go_wp2_with fail
  refine (ops_lies hs3).mono ?_
  rintro e w5 ⟨rfl, rfl⟩
  go_wp2_with fail
  refine (cutAt_lies hs3 hz3 (S.n : Int)).mono ?_
  rintro e w6 ⟨rfl, ha⟩
  have hb6 := hb3.trans (ha.below hs3 hz3)
  have hz6 := hb6.size
  obtain ⟨F6, hs6, hF6, hc6⟩ := ha
  have hvn6 := own_keep hvn hc6 (fun g hg hf => by
    have := (hvb g hg).1
    have := hlo g hf
    omega)
  have hvF : ∀ g, vn.ownBlock = some g → ¬ F6 g := fun g hg hf => by
    have := hvb g hg
    rcases hF6 g hf with h | h
    · have := hlo g h
      omega
    · omega
  have hoff : (S.cutAt (S.n : Int)).on = false := off_on (by
    show (if (S.n : Int) < 0 then none else some (S.n : Int).toNat) = some S.n
    rw [if_neg (by omega)]
    simp)
  have t1 : ((S.cutAt (S.n : Int)).n : Int) = (S.n : Int) := rfl
  have t2 : ((S.cutAt (S.n : Int)).acts.length : Int) = (S.acts.length : Int) := rfl
  have t3 : ((S.cutAt (S.n : Int)).cutAt (-1)).dir = S.dir := rfl
  have t4 : ((S.cutAt (S.n : Int)).cutAt (-1)).bulk = S.bulk := rfl
  generalize S.cutAt (S.n : Int) = S' at *
  clear hs3 hvn hvb hlo hF6 hc6 hb3
  obtain ⟨ls, hls⟩ : ∃ ls, ls = S.dir.map (·.1) := ⟨_, rfl⟩
  have hll : S.dir.length = ls.length := by rw [hls]; simp
  rw [← hls, hll] at hvn6
  have HL := hide hls
  have HLL := hide hll
  rw [hll] at hdl
  clear hll hls
  obtain ⟨an, cn, rfl⟩ := own_shaped hvn6
  have h1' := h1
  obtain ⟨a1, c1, rfl, q1, q2, -⟩ := h1'
  go_wp2
  go_loopw [11] (fun i wr => ∃ j : Nat, i = .int .i64 (j : Int) ∧ j ≤ os1.length ∧ j ≤ 40 ∧ Chg (fun _ => False) w6 wr)
    (fun i _ => 40 - (intOf i).toNat)
  case atStart => exact ⟨0, rfl, by omega, by omega, Chg.refl _ _⟩
  case round =>
    obtain ⟨j, rfl, hj1, hj2, hcr⟩ := hrel
    have hbr := hb6.trans (chg_below hcr hz6)
    by_cases hlt : j < os1.length ∧ j < 40
    · obtain ⟨j1, j2⟩ := hlt
      obtain ⟨b, off, rfl, hbB, hop⟩ := Ob.at (h1.keep hbr) j1
      generalize os1[j] = o at hop
      obtain ⟨kind, name, to, bb, nn, torn⟩ := o
      obtain ⟨d0, d1, d2, ⟨u, d3, -⟩, d4, d5, r0, r4, r5⟩ := hop
      dsimp only at d0 d1 d2 d3 d4 d5 r0 r4 r5
      obtain ⟨⟨G, hr⟩, -, -⟩ := hs6.keep hcr.drew (fun _ _ h => h)
      have hr1 : (0 : Int) ≤ (j : Int) := by omega
      have hr2 : (j : Int) < (os1.length : Int) := by omega
      go_wp2_with fail
      refine wp_region_held_drew (S := fun W => W.cell? ⟨b, off + j * 6 + 1, none⟩ = some (.string (strB name)) ∧ W.cell? ⟨b, off + j * 6 + 4, none⟩ = some (.int .i64 nn)) (by kernel_rfl) (⟨d1, d4⟩) (fun hHeld => ?_)
      refine takeH (i := 0) (v := ?_) rfl (by kernel_rfl) (by kernel_rfl) (by kernel_rfl) (fun _ _ _ h => h) rfl ?_ hHeld ?_
      rotate_left
      · intro w hS; (try dsimp only at hS); obtain ⟨hS0, hS1⟩ := hS; go_simp; first | done | (with_reducible rfl)
      try simp only [Act.put, List.setIfInBounds_toArray, List.set_cons_zero, List.set_cons_succ]
      refine takeH (i := 1) (v := ?_) rfl (by kernel_rfl) (by kernel_rfl) (by kernel_rfl) (fun _ _ _ h => h) rfl ?_ hHeld ?_
      rotate_left
      · intro w hS; (try dsimp only at hS); obtain ⟨hS0, hS1⟩ := hS; go_simp; first | done | (with_reducible rfl)
      try simp only [Act.put, List.setIfInBounds_toArray, List.set_cons_zero, List.set_cons_succ]
      refine takeH (i := 2) (v := ?_) rfl (by kernel_rfl) (by kernel_rfl) (by kernel_rfl) (fun _ _ _ h => h) rfl ?_ hHeld ?_
      rotate_left
      · intro w hS; (try dsimp only at hS); obtain ⟨hS0, hS1⟩ := hS; go_simp; first | done | (with_reducible rfl)
      try simp only [Act.put, List.setIfInBounds_toArray, List.set_cons_zero, List.set_cons_succ]
      refine takeH (i := 3) (v := ?_) rfl (by kernel_rfl) (by kernel_rfl) (by kernel_rfl) (fun _ _ _ h => h) rfl ?_ hHeld ?_
      rotate_left
      · intro w hS; (try dsimp only at hS); obtain ⟨hS0, hS1⟩ := hS; go_simp; first | done | (with_reducible rfl)
      try simp only [Act.put, List.setIfInBounds_toArray, List.set_cons_zero, List.set_cons_succ]
      refine takeH (i := 4) (v := ?_) rfl (by kernel_rfl) (by kernel_rfl) (by kernel_rfl) (fun _ _ _ h => h) rfl ?_ hHeld ?_
      rotate_left
      · intro w hS; (try dsimp only at hS); obtain ⟨hS0, hS1⟩ := hS; go_simp; first | done | (with_reducible rfl)
      try simp only [Act.put, List.setIfInBounds_toArray, List.set_cons_zero, List.set_cons_succ]
      refine takeH (i := 5) (v := ?_) rfl (by kernel_rfl) (by kernel_rfl) (by kernel_rfl) (fun _ _ _ h => h) rfl ?_ hHeld ?_
      rotate_left
      · intro w hS; (try dsimp only at hS); obtain ⟨hS0, hS1⟩ := hS; go_simp; first | done | (with_reducible rfl)
      try simp only [Act.put, List.setIfInBounds_toArray, List.set_cons_zero, List.set_cons_succ]
      refine takeH (i := 6) (v := ?_) rfl (by kernel_rfl) (by kernel_rfl) (by kernel_rfl) (fun _ _ _ h => h) rfl ?_ hHeld ?_
      rotate_left
      · intro w hS; (try dsimp only at hS); obtain ⟨hS0, hS1⟩ := hS; go_simp; first | done | (with_reducible rfl)
      try simp only [Act.put, List.setIfInBounds_toArray, List.set_cons_zero, List.set_cons_succ]
      refine takeH (i := 7) (v := ?_) rfl (by kernel_rfl) (by kernel_rfl) (by kernel_rfl) (fun _ _ _ h => h) rfl ?_ hHeld ?_
      rotate_left
      · intro w hS; (try dsimp only at hS); obtain ⟨hS0, hS1⟩ := hS; go_simp; first | done | (with_reducible rfl)
      try simp only [Act.put, List.setIfInBounds_toArray, List.set_cons_zero, List.set_cons_succ]
      refine takeH (i := 8) (v := ?_) rfl (by kernel_rfl) (by kernel_rfl) (by kernel_rfl) (fun _ _ _ h => h) rfl ?_ hHeld ?_
      rotate_left
      · intro w hS; (try dsimp only at hS); obtain ⟨hS0, hS1⟩ := hS; go_simp; first | done | (with_reducible rfl)
      try simp only [Act.put, List.setIfInBounds_toArray, List.set_cons_zero, List.set_cons_succ]
      refine takeH (i := 9) (v := ?_) rfl (by kernel_rfl) (by kernel_rfl) (by kernel_rfl) (fun _ _ _ h => h) rfl ?_ hHeld ?_
      rotate_left
      · intro w hS; (try dsimp only at hS); obtain ⟨hS0, hS1⟩ := hS; go_simp; first | done | (with_reducible rfl)
      try simp only [Act.put, List.setIfInBounds_toArray, List.set_cons_zero, List.set_cons_succ]
      refine onlyH (i := 10) rfl (by kernel_rfl) rfl (fun K hK => ?_)
      go_simp
      refine (named_any _ name nn r4).mono ?_
      rintro e w7 ⟨rfl, rfl⟩
      generalize nmd name nn = one at *
      refine hK.out _ _ (⟨d1, d4⟩) (fun hHeld => ?_)
      clear hK K
      try simp only [Act.put, List.setIfInBounds_toArray, List.set_cons_zero, List.set_cons_succ]
      refine takeH (i := 11) (v := ?_) rfl (by kernel_rfl) (by kernel_rfl) (by kernel_rfl) (fun _ _ _ h => h) rfl ?_ hHeld ?_
      rotate_left
      · intro w hS; (try dsimp only at hS); obtain ⟨hS0, hS1⟩ := hS; go_simp; first | done | (with_reducible rfl)
      try simp only [Act.put, List.setIfInBounds_toArray, List.set_cons_zero, List.set_cons_succ]
      refine wpAnyH_done (by kernel_rfl) ?_ _
      have hpr := pk_range (c := kind) (n := 7) (by omega)
      go_wp2_with fail
      refine (pick_any _ kind 7 r0 (by omega)).mono ?_
      rintro e w8 ⟨rfl, rfl⟩
      have hcase : pk kind 7 = 0 ∨ pk kind 7 = 1 ∨ pk kind 7 = 2 ∨ pk kind 7 = 3 ∨ pk kind 7 = 4 ∨ pk kind 7 = 5 ∨ pk kind 7 = 6 := by omega
      generalize pk kind 7 = kk at *
      clear hpr hHeld
      rcases hcase with rfl | rfl | rfl | rfl | rfl | rfl | rfl
      · go_wp2_with fail
        refine (append_off hr hoff one _).mono ?_
        rintro e w9 ⟨rfl, -, hc9⟩
        have hcn := hcr.drew.then hc9
        go_wp2_with fail
        exact ⟨⟨j + 1, by go_num, by omega, by omega, hcn⟩, by simp [intOf]; omega⟩
      · go_wp2_with fail
        refine (read_off hr hoff one).mono ?_
        rintro e w9 ⟨rfl, hc9⟩
        have hcn := hcr.drew.then hc9
        go_wp2_with fail
        exact ⟨⟨j + 1, by go_num, by omega, by omega, hcn⟩, by simp [intOf]; omega⟩
      · go_wp2_with fail
        refine (sync_off hr hoff one).mono ?_
        rintro e w9 ⟨rfl, hc9⟩
        have hcn := hcr.drew.then hc9
        go_wp2_with fail
        exact ⟨⟨j + 1, by go_num, by omega, by omega, hcn⟩, by simp [intOf]; omega⟩
      · go_wp2_with fail
        refine (syncDir_off hr hoff).mono ?_
        rintro e w9 ⟨rfl, hc9⟩
        have hcn := hcr.drew.then hc9
        go_wp2_with fail
        exact ⟨⟨j + 1, by go_num, by omega, by omega, hcn⟩, by simp [intOf]; omega⟩
      · go_wp2_with fail
        refine (rename_off0 hr hoff one to).mono ?_
        rintro e w9 ⟨rfl, hc9⟩
        have hcn := hcr.drew.then hc9
        go_wp2_with fail
        exact ⟨⟨j + 1, by go_num, by omega, by omega, hcn⟩, by simp [intOf]; omega⟩
      · go_wp2_with fail
        refine (remove_off hr hoff one).mono ?_
        rintro e w9 ⟨rfl, hc9⟩
        have hcn := hcr.drew.then hc9
        go_wp2_with fail
        exact ⟨⟨j + 1, by go_num, by omega, by omega, hcn⟩, by simp [intOf]; omega⟩
      · go_wp2_with fail
        refine (readAt_off hr hoff one 0 nn).mono ?_
        rintro e w9 ⟨rfl, hc9⟩
        have hcn := hcr.drew.then hc9
        go_wp2_with fail
        exact ⟨⟨j + 1, by go_num, by omega, by omega, hcn⟩, by simp [intOf]; omega⟩
    · have hA : (j < os1.length ∧ j = 40) ∨ ¬ j < os1.length := by omega
      have hzr := hbr.size
      have hsr := hs6.keep hcr (fun _ _ h => h)
      have hvnr := own_keep hvn6 hcr (fun _ _ h => h)
      rcases hA with ⟨hA, rfl⟩ | hA
      · go_wp2_with fail
        refine (ops_lies hsr).mono ?_
        rintro e w9 ⟨rfl, rfl⟩
        rw [t1]
        go_wp2_with fail
        refine (loose_lies hsr).mono ?_
        rintro e w9 ⟨rfl, rfl⟩
        rw [t2]
        go_wp2_with fail
        refine (cutAt_lies hsr hzr (-1)).mono ?_
        rintro e w9 ⟨rfl, ha⟩
        have hb9 := hbr.trans (ha.below hsr hzr)
        have hz9 := hb9.size
        obtain ⟨F9, hs9, -, hc9⟩ := ha
        have hvn9 := own_keep hvnr hc9 hvF
        go_wp2_with fail
        refine (names_stands hs9 (by omega)).mono ?_
        rintro e w10 ⟨vm, rfl, hvm, -, hc10⟩
        have hvn10 := own_keep hvn9 hc10 (fun _ _ h => h)
        have hb10 := hb9.trans (chg_below hc10 hz9)
        have hz10 := hb10.size
        rw [t3, ← HL.out, HLL.out] at hvm
        obtain ⟨am, cm, rfl⟩ := own_shaped hvm
        clear hs9 hvn9 hsr hvnr hbr hcr hs6 hvn6 hb6 t1 t2 t3 t4 hc9 hc10 h1
        go_wp2
        go_loopw [15] (fun i wr => ∃ k : Nat, i = .int .i64 (k : Int) ∧ k ≤ ls.length ∧ Chg (fun _ => False) w10 wr)
          (fun i _ => ls.length - (intOf i).toNat)
        case atStart => exact ⟨0, rfl, by omega, Chg.refl _ _⟩
        case round =>
          obtain ⟨k, rfl, hk, hcr⟩ := hrel
          have hbr := hb10.trans (chg_below hcr hz10)
          by_cases hlt : k < ls.length
          · obtain ⟨gn, rfl, -, -, hcn⟩ := own_at (own_keep hvn10 hcr (fun _ _ h => h)) hlt
            obtain ⟨gm, rfl, -, -, hcm⟩ := own_at (own_keep hvm hcr (fun _ _ h => h)) hlt
            generalize ls[k] = nm at hcn hcm
            have hr1 : (0 : Int) ≤ (k : Int) := by omega
            have hr2 : (k : Int) < (ls.length : Int) := by omega
            go_wp2_with fail
            refine wp_region_held_drew (S := fun W => W.cell? ⟨gm, k, none⟩ = some (.string (strB nm)) ∧ W.cell? ⟨gn, k, none⟩ = some (.string (strB nm))) (by kernel_rfl) (⟨hcm, hcn⟩) (fun hHeld => ?_)
            refine takeH (i := 0) (v := ?_) rfl (by kernel_rfl) (by kernel_rfl) (by kernel_rfl) (fun _ _ _ h => h) rfl ?_ hHeld ?_
            rotate_left
            · intro w hS; (try dsimp only at hS); obtain ⟨hS0, hS1⟩ := hS; go_simp; first | done | (with_reducible rfl)
            try simp only [Act.put, List.setIfInBounds_toArray, List.set_cons_zero, List.set_cons_succ]
            refine takeH (i := 1) (v := ?_) rfl (by kernel_rfl) (by kernel_rfl) (by kernel_rfl) (fun _ _ _ h => h) rfl ?_ hHeld ?_
            rotate_left
            · intro w hS; (try dsimp only at hS); obtain ⟨hS0, hS1⟩ := hS; go_simp; first | done | (with_reducible rfl)
            try simp only [Act.put, List.setIfInBounds_toArray, List.set_cons_zero, List.set_cons_succ]
            refine takeH (i := 2) (v := ?_) rfl (by kernel_rfl) (by kernel_rfl) (by kernel_rfl) (fun _ _ _ h => h) rfl ?_ hHeld ?_
            rotate_left
            · intro w hS; (try dsimp only at hS); obtain ⟨hS0, hS1⟩ := hS; go_simp; first | done | (with_reducible rfl)
            try simp only [Act.put, List.setIfInBounds_toArray, List.set_cons_zero, List.set_cons_succ]
            refine takeH (i := 3) (v := ?_) rfl (by kernel_rfl) (by kernel_rfl) (by kernel_rfl) (fun _ _ _ h => h) rfl ?_ hHeld ?_
            rotate_left
            · intro w hS; (try dsimp only at hS); obtain ⟨hS0, hS1⟩ := hS; go_simp; first | done | (with_reducible rfl)
            try simp only [Act.put, List.setIfInBounds_toArray, List.set_cons_zero, List.set_cons_succ]
            refine takeH (i := 4) (v := ?_) rfl (by kernel_rfl) (by kernel_rfl) (by kernel_rfl) (fun _ _ _ h => h) rfl ?_ hHeld ?_
            rotate_left
            · intro w hS; (try dsimp only at hS); obtain ⟨hS0, hS1⟩ := hS; go_simp; first | done | (with_reducible rfl)
            try simp only [Act.put, List.setIfInBounds_toArray, List.set_cons_zero, List.set_cons_succ]
            refine takeH (i := 5) (v := ?_) rfl (by kernel_rfl) (by kernel_rfl) (by kernel_rfl) (fun _ _ _ h => h) rfl ?_ hHeld ?_
            rotate_left
            · intro w hS; (try dsimp only at hS); obtain ⟨hS0, hS1⟩ := hS; go_simp; first | done | (with_reducible rfl)
            try simp only [Act.put, List.setIfInBounds_toArray, List.set_cons_zero, List.set_cons_succ]
            refine takeH (i := 6) (v := ?_) rfl (by kernel_rfl) (by kernel_rfl) (by kernel_rfl) (fun _ _ _ h => h) rfl ?_ hHeld ?_
            rotate_left
            · intro w hS; (try dsimp only at hS); obtain ⟨hS0, hS1⟩ := hS; go_simp; first | done | (with_reducible rfl)
            try simp only [Act.put, List.setIfInBounds_toArray, List.set_cons_zero, List.set_cons_succ]
            refine takeH (i := 7) (v := ?_) rfl (by kernel_rfl) (by kernel_rfl) (by kernel_rfl) (fun _ _ _ h => h) rfl ?_ hHeld ?_
            rotate_left
            · intro w hS; (try dsimp only at hS); obtain ⟨hS0, hS1⟩ := hS; go_simp; first | done | (with_reducible rfl)
            try simp only [Act.put, List.setIfInBounds_toArray, List.set_cons_zero, List.set_cons_succ]
            refine takeH (i := 8) (v := ?_) rfl (by kernel_rfl) (by kernel_rfl) (by kernel_rfl) (fun _ _ _ h => h) rfl ?_ hHeld ?_
            rotate_left
            · intro w hS; (try dsimp only at hS); obtain ⟨hS0, hS1⟩ := hS; go_simp; first | done | (with_reducible rfl)
            try simp only [Act.put, List.setIfInBounds_toArray, List.set_cons_zero, List.set_cons_succ]
            refine wpAnyH_done (by kernel_rfl) ?_ _
            go_wp2_with fail
            exact ⟨⟨k + 1, by go_num, by omega, hcr.drew⟩, by simp [intOf]; omega⟩
          · go_wp2
            go_ret
            exact ⟨rfl, hbr⟩
      · go_wp2_with fail
        refine (ops_lies hsr).mono ?_
        rintro e w9 ⟨rfl, rfl⟩
        rw [t1]
        go_wp2_with fail
        refine (loose_lies hsr).mono ?_
        rintro e w9 ⟨rfl, rfl⟩
        rw [t2]
        go_wp2_with fail
        refine (cutAt_lies hsr hzr (-1)).mono ?_
        rintro e w9 ⟨rfl, ha⟩
        have hb9 := hbr.trans (ha.below hsr hzr)
        have hz9 := hb9.size
        obtain ⟨F9, hs9, -, hc9⟩ := ha
        have hvn9 := own_keep hvnr hc9 hvF
        go_wp2_with fail
        refine (names_stands hs9 (by omega)).mono ?_
        rintro e w10 ⟨vm, rfl, hvm, -, hc10⟩
        have hvn10 := own_keep hvn9 hc10 (fun _ _ h => h)
        have hb10 := hb9.trans (chg_below hc10 hz9)
        have hz10 := hb10.size
        rw [t3, ← HL.out, HLL.out] at hvm
        obtain ⟨am, cm, rfl⟩ := own_shaped hvm
        clear hs9 hvn9 hsr hvnr hbr hcr hs6 hvn6 hb6 t1 t2 t3 t4 hc9 hc10 h1
        go_wp2
        go_loopw [15] (fun i wr => ∃ k : Nat, i = .int .i64 (k : Int) ∧ k ≤ ls.length ∧ Chg (fun _ => False) w10 wr)
          (fun i _ => ls.length - (intOf i).toNat)
        case atStart => exact ⟨0, rfl, by omega, Chg.refl _ _⟩
        case round =>
          obtain ⟨k, rfl, hk, hcr⟩ := hrel
          have hbr := hb10.trans (chg_below hcr hz10)
          by_cases hlt : k < ls.length
          · obtain ⟨gn, rfl, -, -, hcn⟩ := own_at (own_keep hvn10 hcr (fun _ _ h => h)) hlt
            obtain ⟨gm, rfl, -, -, hcm⟩ := own_at (own_keep hvm hcr (fun _ _ h => h)) hlt
            generalize ls[k] = nm at hcn hcm
            have hr1 : (0 : Int) ≤ (k : Int) := by omega
            have hr2 : (k : Int) < (ls.length : Int) := by omega
            go_wp2_with fail
            refine wp_region_held_drew (S := fun W => W.cell? ⟨gm, k, none⟩ = some (.string (strB nm)) ∧ W.cell? ⟨gn, k, none⟩ = some (.string (strB nm))) (by kernel_rfl) (⟨hcm, hcn⟩) (fun hHeld => ?_)
            refine takeH (i := 0) (v := ?_) rfl (by kernel_rfl) (by kernel_rfl) (by kernel_rfl) (fun _ _ _ h => h) rfl ?_ hHeld ?_
            rotate_left
            · intro w hS; (try dsimp only at hS); obtain ⟨hS0, hS1⟩ := hS; go_simp; first | done | (with_reducible rfl)
            try simp only [Act.put, List.setIfInBounds_toArray, List.set_cons_zero, List.set_cons_succ]
            refine takeH (i := 1) (v := ?_) rfl (by kernel_rfl) (by kernel_rfl) (by kernel_rfl) (fun _ _ _ h => h) rfl ?_ hHeld ?_
            rotate_left
            · intro w hS; (try dsimp only at hS); obtain ⟨hS0, hS1⟩ := hS; go_simp; first | done | (with_reducible rfl)
            try simp only [Act.put, List.setIfInBounds_toArray, List.set_cons_zero, List.set_cons_succ]
            refine takeH (i := 2) (v := ?_) rfl (by kernel_rfl) (by kernel_rfl) (by kernel_rfl) (fun _ _ _ h => h) rfl ?_ hHeld ?_
            rotate_left
            · intro w hS; (try dsimp only at hS); obtain ⟨hS0, hS1⟩ := hS; go_simp; first | done | (with_reducible rfl)
            try simp only [Act.put, List.setIfInBounds_toArray, List.set_cons_zero, List.set_cons_succ]
            refine takeH (i := 3) (v := ?_) rfl (by kernel_rfl) (by kernel_rfl) (by kernel_rfl) (fun _ _ _ h => h) rfl ?_ hHeld ?_
            rotate_left
            · intro w hS; (try dsimp only at hS); obtain ⟨hS0, hS1⟩ := hS; go_simp; first | done | (with_reducible rfl)
            try simp only [Act.put, List.setIfInBounds_toArray, List.set_cons_zero, List.set_cons_succ]
            refine takeH (i := 4) (v := ?_) rfl (by kernel_rfl) (by kernel_rfl) (by kernel_rfl) (fun _ _ _ h => h) rfl ?_ hHeld ?_
            rotate_left
            · intro w hS; (try dsimp only at hS); obtain ⟨hS0, hS1⟩ := hS; go_simp; first | done | (with_reducible rfl)
            try simp only [Act.put, List.setIfInBounds_toArray, List.set_cons_zero, List.set_cons_succ]
            refine takeH (i := 5) (v := ?_) rfl (by kernel_rfl) (by kernel_rfl) (by kernel_rfl) (fun _ _ _ h => h) rfl ?_ hHeld ?_
            rotate_left
            · intro w hS; (try dsimp only at hS); obtain ⟨hS0, hS1⟩ := hS; go_simp; first | done | (with_reducible rfl)
            try simp only [Act.put, List.setIfInBounds_toArray, List.set_cons_zero, List.set_cons_succ]
            refine takeH (i := 6) (v := ?_) rfl (by kernel_rfl) (by kernel_rfl) (by kernel_rfl) (fun _ _ _ h => h) rfl ?_ hHeld ?_
            rotate_left
            · intro w hS; (try dsimp only at hS); obtain ⟨hS0, hS1⟩ := hS; go_simp; first | done | (with_reducible rfl)
            try simp only [Act.put, List.setIfInBounds_toArray, List.set_cons_zero, List.set_cons_succ]
            refine takeH (i := 7) (v := ?_) rfl (by kernel_rfl) (by kernel_rfl) (by kernel_rfl) (fun _ _ _ h => h) rfl ?_ hHeld ?_
            rotate_left
            · intro w hS; (try dsimp only at hS); obtain ⟨hS0, hS1⟩ := hS; go_simp; first | done | (with_reducible rfl)
            try simp only [Act.put, List.setIfInBounds_toArray, List.set_cons_zero, List.set_cons_succ]
            refine takeH (i := 8) (v := ?_) rfl (by kernel_rfl) (by kernel_rfl) (by kernel_rfl) (fun _ _ _ h => h) rfl ?_ hHeld ?_
            rotate_left
            · intro w hS; (try dsimp only at hS); obtain ⟨hS0, hS1⟩ := hS; go_simp; first | done | (with_reducible rfl)
            try simp only [Act.put, List.setIfInBounds_toArray, List.set_cons_zero, List.set_cons_succ]
            refine wpAnyH_done (by kernel_rfl) ?_ _
            go_wp2_with fail
            exact ⟨⟨k + 1, by go_num, by omega, hcr.drew⟩, by simp [intOf]; omega⟩
          · go_wp2
            go_ret
            exact ⟨rfl, hbr⟩
end Go.Proofs.Ytlpojgkpbjpbeaa
