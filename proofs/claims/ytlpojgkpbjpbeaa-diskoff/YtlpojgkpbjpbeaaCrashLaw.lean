/-
  DiskCrashes' walk: a crash with all acts kept is the disk as it is; a crash of what a crash left loses nothing. Conditions: what came in lies there.
-/
import Derived.Test.YtlpojgkpbjpbeaaPlayed
import Derived.Test.YtlpojgkpbjpbeaaOffPure
import Derived.RangeFuncBox
namespace Go.Proofs.Ytlpojgkpbjpbeaa
open Go.RowKit
variable {B : Nat} {w w' : World}

theorem own_shaped {base : Nat} {v : Value} {ls : List Nm} (h : w.ownsRow base 9 1 v ls.length (tc ls)) : ∃ ao cap, v = .slice ao ls.length cap := by
  rcases h.2 with ⟨rfl, hn⟩ | ⟨g, cap, cur, rfl, -⟩
  · exact ⟨none, 0, by rw [hn]⟩
  · exact ⟨_, _, rfl⟩
theorem dir_len {S : Dk} (hok : Ok S) : S.dir.length ≤ S.bulk := by
  have h1 := few_ids S.files.length (ids S.dir) hok.oneD (fun i hi => hok.idD hi)
  have h2 : S.files.length ≤ S.bulk := by unfold Dk.bulk; omega
  have h3 : (ids S.dir).length = S.dir.length := by simp [ids]
  omega
theorem own_at {base n cap : Nat} {ao : Option Addr} {ls : List Nm} (h : w.ownsRow base 9 1 (.slice ao n cap) ls.length (tc ls)) {j : Nat} (hj : j < ls.length) :
    ∃ g, ao = some ⟨g, 0, none⟩ ∧ g < w.heap.size ∧ base ≤ g ∧ w.cell? ⟨g, j, none⟩ = some (.string (strB ls[j])) := by
  have h0 := h
  rcases h.2 with ⟨hv, hn⟩ | ⟨g, cap', cur, hv, hg, hh, -⟩
  · omega
  · injection hv with e1 e2 e3
    subst e1
    have := World.ownsRow.cells h0 (g := g) rfl j (.string (strB ls[j])) (by simp [tc, hj])
    rw [Addr.add_lit, Nat.zero_add] at this
    exact ⟨g, rfl, (Array.getElem?_eq_some_iff.1 hh).1, hg, this⟩
theorem cell_keep {F : Nat → Prop} {g : Nat} (hc : Chg F w w') (i : Nat) (hg : g < w.heap.size) (hn : ¬ F g) : w'.cell? ⟨g, i, none⟩ = w.cell? ⟨g, i, none⟩ := by
  unfold World.cell?
  simp only [hc.block g hg hn]
theorem own_base {base n size : Nat} {e : TypeId} {v : Value} {xs : List Value} (h : w.ownsRow base e size v n xs) : ∀ g, v.ownBlock = some g → base ≤ g ∧ g < w.heap.size := by
  intro g hg
  rcases h.2 with ⟨rfl, hn⟩ | ⟨g', cap', cur, rfl, hb, hh, -⟩
  · cases hg
  · injection hg with hg
    subst hg
    exact ⟨hb, (Array.getElem?_eq_some_iff.1 hh).1⟩

set_option maxRecDepth 20000 in
set_option maxHeartbeats 8000000 in
theorem crashes_any (w : World) (v : Value) (os : List Oq) (keep torn again : Int) (h : Ob w.heap.size w v os) (hl : os.length ≤ 4611686018427387904) :
    Calls Try.prog 5 #[v, .int .i64 keep, .int .i64 torn, .int .i64 again] w fun e w' => e = .returned (.bool true) ∧ Below w.heap.size w w' := by
  go_enter Try.func5, Try.ntmps5
  go_wp2_with fail
  refine (shown_any w).mono ?_
  rintro e w1 ⟨rfl, hb1⟩
  go_wp2_with fail
  refine (played_any w1 v os 80 hb1.size (h.keep hb1) hl (by omega)).mono ?_
  rintro e w2 ⟨d, F, S, rfl, hs2, -, hbu, hb2'⟩
  have hb2 := hb1.trans hb2'
  have hz2 := hb2.size
  clear hb1 hb2' h
  have hok := hs2.ok
  have hdl : S.dir.length ≤ 160000 := by have := dir_len hok; omega
  have hn0 := n_le S
  have hac : S.acts.length ≤ 160000 := by
    have : S.acts.length ≤ S.bulk := by unfold Dk.bulk; omega
    omega
  go_wp2_with fail
  refine (names_stands hs2 (by omega)).mono ?_
  rintro e w3 ⟨vn, rfl, hvn, hs3, hc3⟩
  have hb3 := hb2.trans (chg_below hc3 hz2)
  have hz3 := hb3.size
  clear hs2 hb2 hc3
  go_wp2_with fail
  refine (loose_lies hs3).mono ?_
  rintro e w4 ⟨rfl, rfl⟩
  go_wp2_with fail
  refine (ops_lies hs3).mono ?_
  rintro e w5 ⟨rfl, rfl⟩
  go_wp2_with fail
  refine (crash_lies hs3 hz3 (S.acts.length : Int) 0 (by omega)).mono ?_
  rintro e w6 ⟨da, Fa, rfl, hsa6, hFa, hc6⟩
  have hs6 := hs3.keep hc6 (fun _ _ h => h)
  have hvn6 := own_keep hvn hc6 (fun _ _ h => h)
  have hb6 := hb3.trans (chg_below hc6 hz3)
  have hz6 := hb6.size
  clear hs3 hvn hb3 hc6 hFa
  go_wp2_with fail
  refine (crash_lies hs6 hz6 keep torn (by omega)).mono ?_
  rintro e w7 ⟨dx, Fx, rfl, hsx7, -, hc7⟩
  have hs7 := hs6.keep hc7 (fun _ _ h => h)
  have hsa7 := hsa6.keep hc7 (fun _ _ h => h)
  have hvn7 := own_keep hvn6 hc7 (fun _ _ h => h)
  have hb7 := hb6.trans (chg_below hc7 hz6)
  have hz7 := hb7.size
  clear hs6 hsa6 hvn6 hb6 hc7
  have hbx := bulk_crash (S := S) keep torn
  go_wp2_with fail
  refine (crash_lies hsx7 hz7 again again (by omega)).mono ?_
  rintro e w8 ⟨dy, Fy, rfl, hsy8, hFy, hc8⟩
  have hs8 := hs7.keep hc8 (fun _ _ h => h)
  have hsa8 := hsa7.keep hc8 (fun _ _ h => h)
  have hsx8 := hsx7.keep hc8 (fun _ _ h => h)
  have hvn8 := own_keep hvn7 hc8 (fun _ _ h => h)
  have hdis : ∀ k, Fx k → ¬ Fy k := fun k h1 h2 => by
    have := (hsx7.2.1 k h1).2
    have := hFy k h2
    omega
  have hb8 := hb7.trans (chg_below hc8 hz7)
  have hz8 := hb8.size
  clear hs7 hsa7 hsx7 hvn7 hb7 hc8 hFy
  have e1 : ((S.crash keep torn).acts.length : Int) = 0 := rfl
  have e2 : ((S.crash keep torn).n : Int) = 0 := rfl
  go_wp2_with fail
  refine (loose_lies hs8).mono ?_
  rintro e w9 ⟨rfl, rfl⟩
  go_wp2_with fail
  refine (ops_lies hs8).mono ?_
  rintro e w9 ⟨rfl, rfl⟩
  go_wp2_with fail
  refine (loose_lies hsx8).mono ?_
  rintro e w9 ⟨rfl, rfl⟩
  rw [e1]
  go_wp2_with fail
  refine (ops_lies hsx8).mono ?_
  rintro e w9 ⟨rfl, rfl⟩
  rw [e2]
  have hba := bulk_crash (S := S) (S.acts.length : Int) 0
  go_wp2_with fail
  refine (names_stands hsa8 (by omega)).mono ?_
  rintro e w9 ⟨va, rfl, hva, hsa9, hc9⟩
  have hs9 := hs8.keep hc9 (fun _ _ h => h)
  have hsx9 := hsx8.keep hc9 (fun _ _ h => h)
  have hsy9 := hsy8.keep hc9 (fun _ _ h => h)
  have hvn9 := own_keep hvn8 hc9 (fun _ _ h => h)
  have hb9 := hb8.trans (chg_below hc9 hz8)
  have hz9 := hb9.size
  clear hs8 hsa8 hsx8 hsy8 hvn8 hb8 hc9
  rw [crash_all_dir hok] at hva
  have hsz := crash_all_size hok
  generalize S.crash (S.acts.length : Int) 0 = Sa at *
  obtain ⟨ls, hls⟩ : ∃ ls, ls = S.dir.map (·.1) := ⟨_, rfl⟩
  have hll : S.dir.length = ls.length := by rw [hls]; simp
  rw [← hls, hll] at hva hvn9
  rw [hll] at hdl
  clear hll hls
  obtain ⟨an, cn, rfl⟩ := own_shaped hvn9
  obtain ⟨aa, ca, rfl⟩ := own_shaped hva
  go_wp2
  go_loopw [19] (fun i wr => ∃ j : Nat, i = .int .i64 (j : Int) ∧ j ≤ ls.length ∧ Chg (fun _ => False) w9 wr)
    (fun i _ => ls.length - (intOf i).toNat)
  case atStart => exact ⟨0, rfl, by omega, Chg.refl _ _⟩
  case round =>
    obtain ⟨j, rfl, hj, hcr⟩ := hrel
    have hbr := hb9.trans (chg_below hcr hz9)
    by_cases hlt : j < ls.length
    · obtain ⟨gn, rfl, -, -, hcn⟩ := own_at (own_keep hvn9 hcr (fun _ _ h => h)) hlt
      obtain ⟨ga, rfl, -, -, hca⟩ := own_at (own_keep hva hcr (fun _ _ h => h)) hlt
      generalize ls[j] = nm at hcn hca
      have hsr := hs9.keep hcr.drew (fun _ _ h => h)
      have hsar := hsa9.keep hcr.drew (fun _ _ h => h)
      have hr1 : (0 : Int) ≤ (j : Int) := by omega
      have hr2 : (j : Int) < (ls.length : Int) := by omega
      go_wp2_with fail
      refine wp_region_held_drew (S := fun W => W.cell? ⟨ga, j, none⟩ = some (.string (strB nm)) ∧ W.cell? ⟨gn, j, none⟩ = some (.string (strB nm))) (by kernel_rfl) (⟨hca, hcn⟩) (fun hHeld => ?_)
      refine takeH (i := 0) (v := ?_) rfl (by kernel_rfl) (by kernel_rfl) (by kernel_rfl) (fun _ _ _ h => h) rfl ?_ hHeld ?_
      rotate_left
      · intro w hS; (try dsimp only at hS); obtain ⟨hS0, hS1⟩ := hS; go_simp; first | done | (with_reducible rfl)
      try simp only [Act.put, List.setIfInBounds_toArray, List.set_cons_zero, List.set_cons_succ]
      refine takeH (i := 1) (v := ?_) rfl (by kernel_rfl) (by kernel_rfl) (by kernel_rfl) (fun _ _ _ h => h) rfl ?_ hHeld ?_
      rotate_left
      · intro w hS; (try dsimp only at hS); obtain ⟨hS0, hS1⟩ := hS; go_simp; first | done | (with_reducible rfl)
      try simp only [Act.put, List.setIfInBounds_toArray, List.set_cons_zero, List.set_cons_succ]
      refine takeH (i := 2) (v := ?_) rfl (by kernel_rfl) (by kernel_rfl) (by kernel_rfl) (fun _ _ _ h => h) rfl ?_ hHeld ?_
      rotate_left
      · intro w hS; (try dsimp only at hS); obtain ⟨hS0, hS1⟩ := hS; go_simp; first | done | (with_reducible rfl)
      try simp only [Act.put, List.setIfInBounds_toArray, List.set_cons_zero, List.set_cons_succ]
      refine takeH (i := 3) (v := ?_) rfl (by kernel_rfl) (by kernel_rfl) (by kernel_rfl) (fun _ _ _ h => h) rfl ?_ hHeld ?_
      rotate_left
      · intro w hS; (try dsimp only at hS); obtain ⟨hS0, hS1⟩ := hS; go_simp; first | done | (with_reducible rfl)
      try simp only [Act.put, List.setIfInBounds_toArray, List.set_cons_zero, List.set_cons_succ]
      refine takeH (i := 4) (v := ?_) rfl (by kernel_rfl) (by kernel_rfl) (by kernel_rfl) (fun _ _ _ h => h) rfl ?_ hHeld ?_
      rotate_left
      · intro w hS; (try dsimp only at hS); obtain ⟨hS0, hS1⟩ := hS; go_simp; first | done | (with_reducible rfl)
      try simp only [Act.put, List.setIfInBounds_toArray, List.set_cons_zero, List.set_cons_succ]
      refine takeH (i := 5) (v := ?_) rfl (by kernel_rfl) (by kernel_rfl) (by kernel_rfl) (fun _ _ _ h => h) rfl ?_ hHeld ?_
      rotate_left
      · intro w hS; (try dsimp only at hS); obtain ⟨hS0, hS1⟩ := hS; go_simp; first | done | (with_reducible rfl)
      try simp only [Act.put, List.setIfInBounds_toArray, List.set_cons_zero, List.set_cons_succ]
      refine takeH (i := 6) (v := ?_) rfl (by kernel_rfl) (by kernel_rfl) (by kernel_rfl) (fun _ _ _ h => h) rfl ?_ hHeld ?_
      rotate_left
      · intro w hS; (try dsimp only at hS); obtain ⟨hS0, hS1⟩ := hS; go_simp; first | done | (with_reducible rfl)
      try simp only [Act.put, List.setIfInBounds_toArray, List.set_cons_zero, List.set_cons_succ]
      refine takeH (i := 7) (v := ?_) rfl (by kernel_rfl) (by kernel_rfl) (by kernel_rfl) (fun _ _ _ h => h) rfl ?_ hHeld ?_
      rotate_left
      · intro w hS; (try dsimp only at hS); obtain ⟨hS0, hS1⟩ := hS; go_simp; first | done | (with_reducible rfl)
      try simp only [Act.put, List.setIfInBounds_toArray, List.set_cons_zero, List.set_cons_succ]
      refine takeH (i := 8) (v := ?_) rfl (by kernel_rfl) (by kernel_rfl) (by kernel_rfl) (fun _ _ _ h => h) rfl ?_ hHeld ?_
      rotate_left
      · intro w hS; (try dsimp only at hS); obtain ⟨hS0, hS1⟩ := hS; go_simp; first | done | (with_reducible rfl)
      try simp only [Act.put, List.setIfInBounds_toArray, List.set_cons_zero, List.set_cons_succ]
      refine takeH (i := 9) (v := ?_) rfl (by kernel_rfl) (by kernel_rfl) (by kernel_rfl) (fun _ _ _ h => h) rfl ?_ hHeld ?_
      rotate_left
      · intro w hS; (try dsimp only at hS); obtain ⟨hS0, hS1⟩ := hS; go_simp; first | done | (with_reducible rfl)
      try simp only [Act.put, List.setIfInBounds_toArray, List.set_cons_zero, List.set_cons_succ]
      refine takeH (i := 10) (v := ?_) rfl (by kernel_rfl) (by kernel_rfl) (by kernel_rfl) (fun _ _ _ h => h) rfl ?_ hHeld ?_
      rotate_left
      · intro w hS; (try dsimp only at hS); obtain ⟨hS0, hS1⟩ := hS; go_simp; first | done | (with_reducible rfl)
      try simp only [Act.put, List.setIfInBounds_toArray, List.set_cons_zero, List.set_cons_succ]
      refine takeH (i := 11) (v := ?_) rfl (by kernel_rfl) (by kernel_rfl) (by kernel_rfl) (fun _ _ _ h => h) rfl ?_ hHeld ?_
      rotate_left
      · intro w hS; (try dsimp only at hS); obtain ⟨hS0, hS1⟩ := hS; go_simp; first | done | (with_reducible rfl)
      try simp only [Act.put, List.setIfInBounds_toArray, List.set_cons_zero, List.set_cons_succ]
      refine takeH (i := 12) (v := ?_) rfl (by kernel_rfl) (by kernel_rfl) (by kernel_rfl) (fun _ _ _ h => h) rfl ?_ hHeld ?_
      rotate_left
      · intro w hS; (try dsimp only at hS); obtain ⟨hS0, hS1⟩ := hS; go_simp; first | done | (with_reducible rfl)
      try simp only [Act.put, List.setIfInBounds_toArray, List.set_cons_zero, List.set_cons_succ]
      refine takeH (i := 13) (v := ?_) rfl (by kernel_rfl) (by kernel_rfl) (by kernel_rfl) (fun _ _ _ h => h) rfl ?_ hHeld ?_
      rotate_left
      · intro w hS; (try dsimp only at hS); obtain ⟨hS0, hS1⟩ := hS; go_simp; first | done | (with_reducible rfl)
      try simp only [Act.put, List.setIfInBounds_toArray, List.set_cons_zero, List.set_cons_succ]
      refine takeH (i := 14) (v := ?_) rfl (by kernel_rfl) (by kernel_rfl) (by kernel_rfl) (fun _ _ _ h => h) rfl ?_ hHeld ?_
      rotate_left
      · intro w hS; (try dsimp only at hS); obtain ⟨hS0, hS1⟩ := hS; go_simp; first | done | (with_reducible rfl)
      try simp only [Act.put, List.setIfInBounds_toArray, List.set_cons_zero, List.set_cons_succ]
      refine takeH (i := 16) (v := ?_) rfl (by kernel_rfl) (by kernel_rfl) (by kernel_rfl) (fun _ _ _ h => h) rfl ?_ hHeld ?_
      rotate_left
      · intro w hS; (try dsimp only at hS); obtain ⟨hS0, hS1⟩ := hS; go_simp; first | done | (with_reducible rfl)
      try simp only [Act.put, List.setIfInBounds_toArray, List.set_cons_zero, List.set_cons_succ]
      refine takeH (i := 17) (v := ?_) rfl (by kernel_rfl) (by kernel_rfl) (by kernel_rfl) (fun _ _ _ h => h) rfl ?_ hHeld ?_
      rotate_left
      · intro w hS; (try dsimp only at hS); obtain ⟨hS0, hS1⟩ := hS; go_simp; first | done | (with_reducible rfl)
      try simp only [Act.put, List.setIfInBounds_toArray, List.set_cons_zero, List.set_cons_succ]
      refine takeH (i := 18) (v := ?_) rfl (by kernel_rfl) (by kernel_rfl) (by kernel_rfl) (fun _ _ _ h => h) rfl ?_ hHeld ?_
      rotate_left
      · intro w hS; (try dsimp only at hS); obtain ⟨hS0, hS1⟩ := hS; go_simp; first | done | (with_reducible rfl)
      try simp only [Act.put, List.setIfInBounds_toArray, List.set_cons_zero, List.set_cons_succ]
      refine takeH (i := 19) (v := ?_) rfl (by kernel_rfl) (by kernel_rfl) (by kernel_rfl) (fun _ _ _ h => h) rfl ?_ hHeld ?_
      rotate_left
      · intro w hS; (try dsimp only at hS); obtain ⟨hS0, hS1⟩ := hS; go_simp; first | done | (with_reducible rfl)
      try simp only [Act.put, List.setIfInBounds_toArray, List.set_cons_zero, List.set_cons_succ]
      refine takeH (i := 20) (v := ?_) rfl (by kernel_rfl) (by kernel_rfl) (by kernel_rfl) (fun _ _ _ h => h) rfl ?_ hHeld ?_
      rotate_left
      · intro w hS; (try dsimp only at hS); obtain ⟨hS0, hS1⟩ := hS; go_simp; first | done | (with_reducible rfl)
      try simp only [Act.put, List.setIfInBounds_toArray, List.set_cons_zero, List.set_cons_succ]
      refine onlyH (i := 15) rfl (by kernel_rfl) rfl (fun K hK => ?_)
      go_simp
      refine (size_lies hsar nm).mono ?_
      rintro e w10 ⟨rfl, rfl⟩
      rw [hsz]
      refine hK.out _ _ (⟨hca, hcn⟩) (fun hHeld => ?_)
      clear hK K
      try simp only [Act.put, List.setIfInBounds_toArray, List.set_cons_zero, List.set_cons_succ]
      refine onlyH (i := 21) rfl (by kernel_rfl) rfl (fun K hK => ?_)
      go_simp
      refine (size_lies hsr nm).mono ?_
      rintro e w10 ⟨rfl, rfl⟩
      refine hK.out _ _ (⟨hca, hcn⟩) (fun hHeld => ?_)
      clear hK K
      try simp only [Act.put, List.setIfInBounds_toArray, List.set_cons_zero, List.set_cons_succ]
      refine takeH (i := 22) (v := ?_) rfl (by kernel_rfl) (by kernel_rfl) (by kernel_rfl) (fun _ _ _ h => h) rfl ?_ hHeld ?_
      rotate_left
      · intro w hS; (try dsimp only at hS); obtain ⟨hS0, hS1⟩ := hS; go_simp; first | done | (with_reducible rfl)
      try simp only [Act.put, List.setIfInBounds_toArray, List.set_cons_zero, List.set_cons_succ]
      refine takeH (i := 23) (v := ?_) rfl (by kernel_rfl) (by kernel_rfl) (by kernel_rfl) (fun _ _ _ h => h) rfl ?_ hHeld ?_
      rotate_left
      · intro w hS; (try dsimp only at hS); obtain ⟨hS0, hS1⟩ := hS; go_simp; first | done | (with_reducible rfl)
      try simp only [Act.put, List.setIfInBounds_toArray, List.set_cons_zero, List.set_cons_succ]
      refine wpAnyH_done (by kernel_rfl) ?_ _
      go_wp2_with fail
      exact ⟨⟨j + 1, by go_num, by omega, hcr.drew⟩, by simp [intOf]; omega⟩
    · have hzr := hbr.size
      have hsx10 := hsx9.keep hcr (fun _ _ h => h)
      have hsy10 := hsy9.keep hcr (fun _ _ h => h)
      have hby := bulk_crash (S := S.crash keep torn) again again
      clear hsx9 hsy9 hsa9 hs9 hva hvn9 hb9 hcr
      go_wp2_with fail
      refine (names_stands hsx10 (by omega)).mono ?_
      rintro e w11 ⟨vm, rfl, hvm, hsx11, hc11⟩
      have hsy11 := hsy10.keep hc11 (fun _ _ h => h)
      have hb11 := hbr.trans (chg_below hc11 hzr)
      have hz11 := hb11.size
      have hmx : ∀ g, vm.ownBlock = some g → g < w11.heap.size ∧ ¬ Fx g ∧ ¬ Fy g := fun g hg => ⟨(own_base hvm g hg).2, fun hf => by have := (own_base hvm g hg).1; have := (hsx10.2.1 g hf).2; omega, fun hf => by have := (own_base hvm g hg).1; have := (hsy10.2.1 g hf).2; omega⟩
      clear hsx10 hsy10 hbr hc11
      go_wp2_with fail
      refine (names_stands hsy11 (by omega)).mono ?_
      rintro e w12 ⟨vy, rfl, hvy, hsy12, hc12⟩
      have hsx12 := hsx11.keep hc12 (fun _ _ h => h)
      have hvm12 := own_keep hvm hc12 (fun _ _ h => h)
      have hb12 := hb11.trans (chg_below hc12 hz11)
      have hz12 := hb12.size
      have hmy : ∀ g, vy.ownBlock = some g → g < w12.heap.size ∧ ¬ Fx g ∧ ¬ Fy g := fun g hg => ⟨(own_base hvy g hg).2, fun hf => by have := (own_base hvy g hg).1; have := (hsx11.2.1 g hf).2; omega, fun hf => by have := (own_base hvy g hg).1; have := (hsy11.2.1 g hf).2; omega⟩
      have hmx12 : ∀ g, vm.ownBlock = some g → g < w12.heap.size ∧ ¬ Fx g ∧ ¬ Fy g := fun g hg => ⟨Nat.lt_of_lt_of_le (hmx g hg).1 hc12.size, (hmx g hg).2⟩
      clear hsx11 hsy11 hb11 hc12 hvm hmx
      rw [crash_again_dir] at hvy
      have hokx := hsx12.ok
      have hnm := hsx12.2.2.dir hokx
      have hlx := dir_len hokx
      have hso := hokx.sortD
      have hcx : Calm (S.crash keep torn) := calm_crash keep torn
      have hcy : Calm ((S.crash keep torn).crash again again) := calm_crash again again
      have hdy : ((S.crash keep torn).crash again again).dir = (S.crash keep torn).dir := crash_again_dir keep torn again again
      have hyy : ∀ f, (S.crash keep torn).bytes f = ((S.crash keep torn).crash again again).bytes f := fun f => (crash_again_bytes keep torn again again f).symm
      generalize (S.crash keep torn).crash again again = Y at *
      generalize S.crash keep torn = X at *
      obtain ⟨D, hD⟩ : ∃ D, D = X.dir := ⟨_, rfl⟩
      rw [← hD] at hvm12 hvy hnm hlx hso hdy
      obtain ⟨ms, hms⟩ : ∃ ms, ms = D.map (·.1) := ⟨_, rfl⟩
      have hml : D.length = ms.length := by rw [hms]; simp
      rw [← hms, hml] at hvm12 hvy
      rw [hml] at hlx
      have hlm : ms.length ≤ 160000 := by omega
      have hmem : ∀ k (h : k < ms.length), ∃ f, (ms[k], f) ∈ D := fun k h => by
        have : ms[k] ∈ D.map (·.1) := by rw [← hms]; exact List.getElem_mem h
        obtain ⟨p, hp, hp'⟩ := List.mem_map.1 this
        exact ⟨p.2, by rw [← hp']; exact hp⟩
      have hDX : X.dir = D := hD.symm
      clear hms hml hD hlx
      obtain ⟨am, cm, rfl⟩ := own_shaped hvm12
      obtain ⟨ay, cy, rfl⟩ := own_shaped hvy
      clear e1 e2 hsz hba hn0 hac hz2 hz3 hz6 hz7 hz8 hz9 hz11 hdl hokx hok
      go_wp2
      go_loopw [22] (fun i wr => ∃ (j : Nat) (Fx Fy : Nat → Prop) (X Y : Dk), i = .int .i64 (j : Int) ∧ j ≤ ms.length ∧ Stands w.heap.size wr Fx dx X ∧ Stands w.heap.size wr Fy dy Y ∧ (∀ k, Fx k → ¬ Fy k) ∧
          (∀ g, (Value.slice am ms.length cm).ownBlock = some g → g < wr.heap.size ∧ ¬ Fx g ∧ ¬ Fy g) ∧ (∀ g, (Value.slice ay ms.length cy).ownBlock = some g → g < wr.heap.size ∧ ¬ Fx g ∧ ¬ Fy g) ∧ Calm X ∧ Calm Y ∧ X.dir = D ∧ Y.dir = D ∧ (∀ f, X.bytes f = Y.bytes f) ∧
          X.bulk ≤ 160000 + j ∧ Y.bulk ≤ 160000 + j ∧ (∃ b, wr.ownsRow b 9 1 (.slice am ms.length cm) ms.length (tc ms)) ∧ (∃ b, wr.ownsRow b 9 1 (.slice ay ms.length cy) ms.length (tc ms)) ∧ Below w.heap.size w wr)
        (fun i _ => ms.length - (intOf i).toNat)
      case atStart => exact ⟨0, Fx, Fy, X, Y, rfl, by omega, hsx12, hsy12, hdis, hmx12, hmy, hcx, hcy, hDX, hdy, hyy, by omega, by omega, ⟨_, hvm12⟩, ⟨_, hvy⟩, hb12⟩
      case round =>
        clear hsx12 hsy12 hdis hmx12 hmy hcx hcy hDX hdy hyy hvm12 hvy hb12 hby hbx
        obtain ⟨k, Gx, Gy, X, Y, rfl, hk, hsx, hsy, hdis, hmx, hmy, hcx, hcy, hdx, hdy, hyy, hbx, hby, ⟨bm, hvm⟩, ⟨bz, hvy⟩, hbr⟩ := hrel
        have hzr := hbr.size
        by_cases hlt : k < ms.length
        · obtain ⟨gm, rfl, hgm, -, hcm⟩ := own_at hvm hlt
          obtain ⟨gy, rfl, hgy, -, hcn⟩ := own_at hvy hlt
          obtain ⟨f, hpm⟩ := hmem k hlt
          generalize ms[k] = nm at hcm hcn hpm
          have hisn := hnm _ hpm
          have hlook := mem_look hso hpm
          have hrx := Calm.read hcx hisn (hdx.symm ▸ hlook)
          have hry := Calm.read hcy hisn (hdy.symm ▸ hlook)
          rw [← hyy] at hry
          obtain ⟨bx1, bx2, bx3, -⟩ := hcx.begun
          obtain ⟨by1, by2, by3, -⟩ := hcy.begun
          have bxb := bulk_bg (S := X)
          have byb := bulk_bg (S := Y)
          have hmx' := hmx gm rfl
          have hmy' := hmy gy rfl
          go_wp2_with fail
          refine (read_lies hsx hzr nm (by omega)).mono ?_
          rintro e w13 ⟨ra, rfl, hra, Hx, hsx13, hHx, hc13, -⟩
          rw [hrx] at hra ⊢
          dsimp only at hra ⊢
          have hsy13 := hsy.keep hc13 (fun q hq hx => hdis q hx hq)
          have hb13 := hbr.trans (hsx.below hzr hc13)
          have hz13 := hb13.size
          have hvm13 := own_keep hvm hc13 (fun g hg => (hmx g hg).2.1)
          have hvy13 := own_keep hvy hc13 (fun g hg => (hmy g hg).2.1)
          have hlo := fun q hq => (hsy.2.1 q hq).2
          have hhi := fun q hq => (hsx13.2.1 q hq).2
          have hax := own_base hra
          have hcm13 := (cell_keep hc13 k hgm hmx'.2.1).trans hcm
          have hcn13 := (cell_keep hc13 k hgy hmy'.2.1).trans hcn
          have hs13 := hc13.size
          have hgm13 : gm < w13.heap.size := by omega
          have hgy13 : gy < w13.heap.size := by omega
          clear hsx hsy hvm hvy hcm hcn
          go_wp2_with fail
          refine (read_lies hsy13 hz13 nm (by omega)).mono ?_
          rintro e w14 ⟨rb, rfl, hrb, Hy, hsy14, hHy, hc14, -⟩
          rw [hry] at hrb ⊢
          dsimp only at hrb ⊢
          have hsx14 := hsx13.keep hc14 (fun q hq hy => by
            rcases hHx q hq with h | h
            · exact hdis q h hy
            · have := hlo q hy
              omega)
          have hb14 := hb13.trans (hsy13.below hz13 hc14)
          have hz14 := hb14.size
          have hs14 := hc14.size
          have hra14 := own_keep hra hc14 (fun g hg hy => by
            have := (hax g hg).1
            have := hlo g hy
            omega)
          have hvm14 := own_keep hvm13 hc14 (fun g hg => (hmx g hg).2.2)
          have hvy14 := own_keep hvy13 hc14 (fun g hg => (hmy g hg).2.2)
          have hcm14 := (cell_keep hc14 k hgm13 hmx'.2.2).trans hcm13
          have hcn14 := (cell_keep hc14 k hgy13 hmy'.2.2).trans hcn13
          have hdr := (Chg.refl (fun _ => False) w14).drew
          have hstr1 := run_str w14.drew ra _ (sl_of_own (own_keep hra14 hdr (fun _ _ h => h)))
          have hstr2 := run_str w14.drew rb _ (sl_of_own (own_keep hrb hdr (fun _ _ h => h)))
          have hr1 : (0 : Int) ≤ (k : Int) := by omega
          have hr2 : (k : Int) < (ms.length : Int) := by omega
          have hbR := hb14.trans ((Below.refl w.heap.size w14).drew)
          have hdis' : ∀ q, Hx q → ¬ Hy q := fun q hx hy => by
            rcases hHy q hy with h | h
            · rcases hHx q hx with h' | h'
              · exact hdis q h' h
              · have := hlo q h
                omega
            · have := hhi q hx
              omega
          have hmxn : ∀ g, (Value.slice (some ⟨gm, 0, none⟩) ms.length cm).ownBlock = some g → g < w14.heap.size ∧ ¬ Hx g ∧ ¬ Hy g := fun g hg => by
            obtain ⟨m1, m2, m3⟩ := hmx g hg
            refine ⟨by omega, fun hx => ?_, fun hy => ?_⟩
            · rcases hHx g hx with h | h
              · exact m2 h
              · omega
            · rcases hHy g hy with h | h
              · exact m3 h
              · omega
          have hmyn : ∀ g, (Value.slice (some ⟨gy, 0, none⟩) ms.length cy).ownBlock = some g → g < w14.heap.size ∧ ¬ Hx g ∧ ¬ Hy g := fun g hg => by
            obtain ⟨m1, m2, m3⟩ := hmy g hg
            refine ⟨by omega, fun hx => ?_, fun hy => ?_⟩
            · rcases hHx g hx with h | h
              · exact m2 h
              · omega
            · rcases hHy g hy with h | h
              · exact m3 h
              · omega
          have hyy' : ∀ f, X.begun.bytes f = Y.begun.bytes f := fun f => by rw [bx3, by3]; exact hyy f
          have hsxR := hsx14.keep hdr (fun _ _ h => h)
          have hsyR := hsy14.keep hdr (fun _ _ h => h)
          have hvmR := own_keep hvm14 hdr (fun _ _ h => h)
          have hvyR := own_keep hvy14 hdr (fun _ _ h => h)
          rw [hdx] at bx2
          rw [hdy] at by2
          generalize X.begun = X2 at *
          generalize Y.begun = Y2 at *
          generalize X.bytes f = bs at *
          clear hsx13 hsx14 hsy13 hsy14 hvm13 hvm14 hvy13 hvy14 hb13 hb14 hra14 hra hrb hmx hmy hrx hry hyy bx3 by3 hc13 hc14 hdr hlo hhi hax hdis hcm13 hcn13 hbr hHx hHy hmem hnm
          go_wp2_with fail
          refine wp_region_held_drew (S := fun W => W.cell? ⟨gm, k, none⟩ = some (.string (strB nm)) ∧ W.cell? ⟨gy, k, none⟩ = some (.string (strB nm)) ∧ (convert 33 9 ra).run Try.prog W = .ok (.string ⟨bs.toArray⟩) W ∧ (convert 33 9 rb).run Try.prog W = .ok (.string ⟨bs.toArray⟩) W) (by kernel_rfl) (⟨hcm14, hcn14, hstr1, hstr2⟩) (fun hHeld => ?_)
          refine takeH (i := 0) (v := ?_) rfl (by kernel_rfl) (by kernel_rfl) (by kernel_rfl) (fun _ _ _ h => h) rfl ?_ hHeld ?_
          rotate_left
          · intro w hS; (try dsimp only at hS); obtain ⟨hS0, hS1, hS2, hS3⟩ := hS; go_simp; first | done | (with_reducible rfl)
          try simp only [Act.put, List.setIfInBounds_toArray, List.set_cons_zero, List.set_cons_succ]
          refine takeH (i := 1) (v := ?_) rfl (by kernel_rfl) (by kernel_rfl) (by kernel_rfl) (fun _ _ _ h => h) rfl ?_ hHeld ?_
          rotate_left
          · intro w hS; (try dsimp only at hS); obtain ⟨hS0, hS1, hS2, hS3⟩ := hS; go_simp; first | done | (with_reducible rfl)
          try simp only [Act.put, List.setIfInBounds_toArray, List.set_cons_zero, List.set_cons_succ]
          refine takeH (i := 2) (v := ?_) rfl (by kernel_rfl) (by kernel_rfl) (by kernel_rfl) (fun _ _ _ h => h) rfl ?_ hHeld ?_
          rotate_left
          · intro w hS; (try dsimp only at hS); obtain ⟨hS0, hS1, hS2, hS3⟩ := hS; go_simp; first | done | (with_reducible rfl)
          try simp only [Act.put, List.setIfInBounds_toArray, List.set_cons_zero, List.set_cons_succ]
          refine takeH (i := 3) (v := ?_) rfl (by kernel_rfl) (by kernel_rfl) (by kernel_rfl) (fun _ _ _ h => h) rfl ?_ hHeld ?_
          rotate_left
          · intro w hS; (try dsimp only at hS); obtain ⟨hS0, hS1, hS2, hS3⟩ := hS; go_simp; first | done | (with_reducible rfl)
          try simp only [Act.put, List.setIfInBounds_toArray, List.set_cons_zero, List.set_cons_succ]
          refine takeH (i := 4) (v := ?_) rfl (by kernel_rfl) (by kernel_rfl) (by kernel_rfl) (fun _ _ _ h => h) rfl ?_ hHeld ?_
          rotate_left
          · intro w hS; (try dsimp only at hS); obtain ⟨hS0, hS1, hS2, hS3⟩ := hS; go_simp; first | done | (with_reducible rfl)
          try simp only [Act.put, List.setIfInBounds_toArray, List.set_cons_zero, List.set_cons_succ]
          refine takeH (i := 5) (v := ?_) rfl (by kernel_rfl) (by kernel_rfl) (by kernel_rfl) (fun _ _ _ h => h) rfl ?_ hHeld ?_
          rotate_left
          · intro w hS; (try dsimp only at hS); obtain ⟨hS0, hS1, hS2, hS3⟩ := hS; go_simp; first | done | (with_reducible rfl)
          try simp only [Act.put, List.setIfInBounds_toArray, List.set_cons_zero, List.set_cons_succ]
          refine takeH (i := 6) (v := ?_) rfl (by kernel_rfl) (by kernel_rfl) (by kernel_rfl) (fun _ _ _ h => h) rfl ?_ hHeld ?_
          rotate_left
          · intro w hS; (try dsimp only at hS); obtain ⟨hS0, hS1, hS2, hS3⟩ := hS; go_simp; first | done | (with_reducible rfl)
          try simp only [Act.put, List.setIfInBounds_toArray, List.set_cons_zero, List.set_cons_succ]
          refine takeH (i := 7) (v := ?_) rfl (by kernel_rfl) (by kernel_rfl) (by kernel_rfl) (fun _ _ _ h => h) rfl ?_ hHeld ?_
          rotate_left
          · intro w hS; (try dsimp only at hS); obtain ⟨hS0, hS1, hS2, hS3⟩ := hS; go_simp; first | done | (with_reducible rfl)
          try simp only [Act.put, List.setIfInBounds_toArray, List.set_cons_zero, List.set_cons_succ]
          refine takeH (i := 8) (v := ?_) rfl (by kernel_rfl) (by kernel_rfl) (by kernel_rfl) (fun _ _ _ h => h) rfl ?_ hHeld ?_
          rotate_left
          · intro w hS; (try dsimp only at hS); obtain ⟨hS0, hS1, hS2, hS3⟩ := hS; go_simp; first | done | (with_reducible rfl)
          try simp only [Act.put, List.setIfInBounds_toArray, List.set_cons_zero, List.set_cons_succ]
          refine takeH (i := 9) (v := ?_) rfl (by kernel_rfl) (by kernel_rfl) (by kernel_rfl) (fun _ _ _ h => h) rfl ?_ hHeld ?_
          rotate_left
          · intro w hS; (try dsimp only at hS); obtain ⟨hS0, hS1, hS2, hS3⟩ := hS; go_simp; first | done | (with_reducible rfl)
          try simp only [Act.put, List.setIfInBounds_toArray, List.set_cons_zero, List.set_cons_succ]
          refine takeH (i := 10) (v := ?_) rfl (by kernel_rfl) (by kernel_rfl) (by kernel_rfl) (fun _ _ _ h => h) rfl ?_ hHeld ?_
          rotate_left
          · intro w hS; (try dsimp only at hS); obtain ⟨hS0, hS1, hS2, hS3⟩ := hS; go_simp; first | done | (with_reducible rfl)
          try simp only [Act.put, List.setIfInBounds_toArray, List.set_cons_zero, List.set_cons_succ]
          refine takeH (i := 11) (v := ?_) rfl (by kernel_rfl) (by kernel_rfl) (by kernel_rfl) (fun _ _ _ h => h) rfl ?_ hHeld ?_
          rotate_left
          · intro w hS; (try dsimp only at hS); obtain ⟨hS0, hS1, hS2, hS3⟩ := hS; go_simp; first | done | (with_reducible rfl)
          try simp only [Act.put, List.setIfInBounds_toArray, List.set_cons_zero, List.set_cons_succ]
          refine takeH (i := 12) (v := ?_) rfl (by kernel_rfl) (by kernel_rfl) (by kernel_rfl) (fun _ _ _ h => h) rfl ?_ hHeld ?_
          rotate_left
          · intro w hS; (try dsimp only at hS); obtain ⟨hS0, hS1, hS2, hS3⟩ := hS; go_simp; first | done | (with_reducible rfl)
          try simp only [Act.put, List.setIfInBounds_toArray, List.set_cons_zero, List.set_cons_succ]
          refine takeH (i := 13) (v := ?_) rfl (by kernel_rfl) (by kernel_rfl) (by kernel_rfl) (fun _ _ _ h => h) rfl ?_ hHeld ?_
          rotate_left
          · intro w hS; (try dsimp only at hS); obtain ⟨hS0, hS1, hS2, hS3⟩ := hS; go_simp; first | done | (with_reducible rfl)
          try simp only [Act.put, List.setIfInBounds_toArray, List.set_cons_zero, List.set_cons_succ]
          refine takeH (i := 14) (v := ?_) rfl (by kernel_rfl) (by kernel_rfl) (by kernel_rfl) (fun _ _ _ h => h) rfl ?_ hHeld ?_
          rotate_left
          · intro w hS; (try dsimp only at hS); obtain ⟨hS0, hS1, hS2, hS3⟩ := hS; go_simp; first | done | (with_reducible rfl)
          try simp only [Act.put, List.setIfInBounds_toArray, List.set_cons_zero, List.set_cons_succ]
          refine takeH (i := 15) (v := ?_) rfl (by kernel_rfl) (by kernel_rfl) (by kernel_rfl) (fun _ _ _ h => h) rfl ?_ hHeld ?_
          rotate_left
          · intro w hS; (try dsimp only at hS); obtain ⟨hS0, hS1, hS2, hS3⟩ := hS; go_simp; first | done | (with_reducible rfl)
          try simp only [Act.put, List.setIfInBounds_toArray, List.set_cons_zero, List.set_cons_succ]
          refine takeH (i := 16) (v := ?_) rfl (by kernel_rfl) (by kernel_rfl) (by kernel_rfl) (fun _ _ _ h => h) rfl ?_ hHeld ?_
          rotate_left
          · intro w hS; (try dsimp only at hS); obtain ⟨hS0, hS1, hS2, hS3⟩ := hS; go_simp; first | done | (with_reducible rfl)
          try simp only [Act.put, List.setIfInBounds_toArray, List.set_cons_zero, List.set_cons_succ]
          refine takeH (i := 17) (v := ?_) rfl (by kernel_rfl) (by kernel_rfl) (by kernel_rfl) (fun _ _ _ h => h) rfl ?_ hHeld ?_
          rotate_left
          · intro w hS; (try dsimp only at hS); obtain ⟨hS0, hS1, hS2, hS3⟩ := hS; go_simp; first | done | (with_reducible rfl)
          try simp only [Act.put, List.setIfInBounds_toArray, List.set_cons_zero, List.set_cons_succ]
          refine takeH (i := 18) (v := ?_) rfl (by kernel_rfl) (by kernel_rfl) (by kernel_rfl) (fun _ _ _ h => h) rfl ?_ hHeld ?_
          rotate_left
          · intro w hS; (try dsimp only at hS); obtain ⟨hS0, hS1, hS2, hS3⟩ := hS; go_simp; first | done | (with_reducible rfl)
          try simp only [Act.put, List.setIfInBounds_toArray, List.set_cons_zero, List.set_cons_succ]
          refine takeH (i := 19) (v := ?_) rfl (by kernel_rfl) (by kernel_rfl) (by kernel_rfl) (fun _ _ _ h => h) rfl ?_ hHeld ?_
          rotate_left
          · intro w hS; (try dsimp only at hS); obtain ⟨hS0, hS1, hS2, hS3⟩ := hS; go_simp; first | done | (with_reducible rfl)
          try simp only [Act.put, List.setIfInBounds_toArray, List.set_cons_zero, List.set_cons_succ]
          refine takeH (i := 20) (v := ?_) rfl (by kernel_rfl) (by kernel_rfl) (by kernel_rfl) (fun _ _ _ h => h) rfl ?_ hHeld ?_
          rotate_left
          · intro w hS; (try dsimp only at hS); obtain ⟨hS0, hS1, hS2, hS3⟩ := hS; go_simp; first | done | (with_reducible rfl)
          try simp only [Act.put, List.setIfInBounds_toArray, List.set_cons_zero, List.set_cons_succ]
          refine takeH (i := 21) (v := ?_) rfl (by kernel_rfl) (by kernel_rfl) (by kernel_rfl) (fun _ _ _ h => h) rfl ?_ hHeld ?_
          rotate_left
          · intro w hS; (try dsimp only at hS); obtain ⟨hS0, hS1, hS2, hS3⟩ := hS; go_simp; first | done | (with_reducible rfl)
          try simp only [Act.put, List.setIfInBounds_toArray, List.set_cons_zero, List.set_cons_succ]
          refine takeH (i := 22) (v := ?_) rfl (by kernel_rfl) (by kernel_rfl) (by kernel_rfl) (fun _ _ _ h => h) rfl ?_ hHeld ?_
          rotate_left
          · intro w hS; (try dsimp only at hS); obtain ⟨hS0, hS1, hS2, hS3⟩ := hS; go_simp; first | done | (with_reducible rfl)
          try simp only [Act.put, List.setIfInBounds_toArray, List.set_cons_zero, List.set_cons_succ]
          refine takeH (i := 23) (v := ?_) rfl (by kernel_rfl) (by kernel_rfl) (by kernel_rfl) (fun _ _ _ h => h) rfl ?_ hHeld ?_
          rotate_left
          · intro w hS; (try dsimp only at hS); obtain ⟨hS0, hS1, hS2, hS3⟩ := hS; go_simp; first | done | (with_reducible rfl)
          try simp only [Act.put, List.setIfInBounds_toArray, List.set_cons_zero, List.set_cons_succ]
          refine wpAnyH_done (by kernel_rfl) ?_ _
          go_wp2_with fail
          exact ⟨⟨k + 1, Hx, Hy, X2, Y2, by go_num, by omega, hsxR, hsyR, hdis', hmxn, hmyn, bx1, by1, bx2, by2, hyy', by omega, by omega, ⟨_, hvmR⟩, ⟨_, hvyR⟩, hbR⟩, by simp [intOf]; omega⟩
        · go_wp2
          go_ret
          exact ⟨rfl, hbr⟩
end Go.Proofs.Ytlpojgkpbjpbeaa
