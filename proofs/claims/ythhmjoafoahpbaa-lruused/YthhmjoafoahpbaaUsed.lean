/-
  LruUsed, walked: a text that is used again and again never goes. Conditions: what came in lies there.
-/
import Derived.Test.YthhmjoafoahpbaaScript
namespace Go.Proofs.Ythhmjoafoahpbaa
open Go.RowKit

theorem used_step {S : Lr} {key val k v : Bs} {rest : List Tx} (hl : S.l = (key, val) :: rest) (hk : k ≠ key) (hb : wt (key, val) + wt (k, v) ≤ S.budget) :
    S.code k v = 0 ∧ seek key (S.put k v).l = some val ∧ (∃ rest', ((S.put k v).get key).l = (key, val) :: rest') ∧ ((S.put k v).get key).l.length ≤ S.l.length + 1 := by
  have hle : wt (k, v) ≤ S.budget := by omega
  have hput : (S.put k v).l = (k, v) :: (key, val) :: fit (S.budget - wt (k, v) - wt (key, val)) (del k rest) := by
    unfold Lr.put
    rw [if_pos hle, hl]
    unfold del
    rw [List.filter_cons_of_pos (by simpa using fun e => hk e.symm)]
    simp only [fit]
    rw [if_pos hle, if_pos (by omega)]
  have hsk : seek key (S.put k v).l = some val := by
    rw [hput]
    unfold seek
    rw [if_neg hk]
    unfold seek
    rw [if_pos rfl]
  refine ⟨by unfold Lr.code; rw [if_pos hle], hsk, ?_, ?_⟩
  · unfold Lr.get
    rw [hsk]
    exact ⟨_, rfl⟩
  · unfold Lr.get
    rw [hsk, hput]
    have h1 := (fit_prefix (S.budget - wt (k, v) - wt (key, val)) (del k rest)).length_le
    have h2 : (del k rest).length ≤ rest.length := List.length_filter_le ..
    unfold del
    rw [List.filter_cons_of_pos (by simpa using hk), List.filter_cons_of_neg (by simp)]
    have h3 := List.length_filter_le (fun p : Tx => decide (p.1 ≠ key)) (fit (S.budget - wt (k, v) - wt (key, val)) (del k rest))
    rw [hl]
    simp only [List.length_cons]
    unfold del at h1 h2 h3
    omega

set_option maxRecDepth 20000 in
set_option maxHeartbeats 4000000 in
theorem used_any (w : World) (key val : Bs) (v : Value) (os : List Oq) (hk : Short (key, val)) (h : Ob w.heap.size w v os) (hs : Small os) (hn : os.length ≤ 4611686018427387904) :
    Calls Try.prog 6 #[.string (strB key), .string (strB val), v] w fun e w' => e = .returned (.bool true) ∧ Below w.heap.size w w' := by
  have h' := h
  obtain ⟨ao, cap, rfl, q1, q2, -⟩ := h'
  have sk := strB_size key
  have sv := strB_size val
  obtain ⟨hk1, hk2⟩ := hk
  simp only at hk1 hk2
  have hq2 : (os.length : Int) ≤ (cap : Int) := by omega
  go_enter Try.func6, Try.ntmps6
  go_wp2_with fail
  refine (shown_any w).mono ?_
  rintro e w1 ⟨rfl, hb1⟩
  go_wp2_with fail
  go_loopw [8, 9] (fun g i wr => ∃ (j G : Nat), i = .int .i64 (j : Int) ∧ g = .int .i64 (G : Int) ∧ j ≤ os.length ∧ j ≤ 100 ∧ G ≤ 281474976702464 ∧ (∀ i (hi : i < os.length), i < j → wt (os[i].key, os[i].val) ≤ G) ∧ Below w.heap.size w wr)
    (fun _ i _ => 100 - (intOf i).toNat)
  case atStart => exact ⟨0, 0, rfl, rfl, by omega, by omega, by omega, (fun i hi h => by omega), hb1⟩
  case round =>
    obtain ⟨j, G, rfl, rfl, hj1, hj2, hG, hall, hb⟩ := hrel
    by_cases hlt : j < os.length ∧ j < 100
    · obtain ⟨j1, j2⟩ := hlt
      obtain ⟨b, off, rfl, hbB, hop⟩ := Ob.at (h.keep hb) j1
      have hsm := (hs os[j] (List.getElem_mem j1)).1
      have hall2 : ∀ G', G ≤ G' → wt (os[j].key, os[j].val) ≤ G' → ∀ i (hi : i < os.length), i < j + 1 → wt (os[i].key, os[i].val) ≤ G' := fun G' h1 h2 i hi hij => by
        by_cases e : i = j
        · subst e; exact h2
        · exact Nat.le_trans (hall i hi (by omega)) h1
      have HA := hide hall2
      clear hall hall2
      generalize os[j] = o at hop hsm HA
      obtain ⟨kind, k1, v1, kk⟩ := o
      obtain ⟨-, d1, d2, -, -⟩ := hop
      obtain ⟨m1, m2⟩ := hsm
      dsimp only at d1 d2 m1 m2
      have z1 := strB_size k1
      have z2 := strB_size v1
      have hwr : IntKind.i64.wrap ((k1.length : Int) + (v1.length : Int)) = ((wt (k1, v1) : Nat) : Int) := by unfold wt; rw [IntKind.wrap_i64]; simp only; omega
      have hw0 : wt (k1, v1) ≤ 281474976702464 := by unfold wt; simp only; omega
      have HW := hide hwr
      generalize wt (k1, v1) = T at *
      clear HW
      by_cases hGT : G < T
      · have hg2 : (G : Int) < (T : Int) := by omega
        go_wp2_with fail
        refine wp_region_held_drew (S := fun W => W.cell? ⟨b, off + j * 4 + 1, none⟩ = some (.string (strB k1)) ∧ W.cell? ⟨b, off + j * 4 + 2, none⟩ = some (.string (strB v1))) (by kernel_rfl) (⟨d1, d2⟩) (fun hHeld => ?_)
        refine takeH (i := 0) (v := ?_) rfl (by kernel_rfl) (by kernel_rfl) (by kernel_rfl) (fun _ _ _ h => h) rfl ?_ hHeld ?_
        rotate_left
        · intro w hS; (try dsimp only at hS); obtain ⟨hS0, hS1⟩ := hS; go_simp; first | done | (with_reducible rfl)
        try simp only [Act.put, List.setIfInBounds_toArray, List.set_cons_zero, List.set_cons_succ]
        refine takeH (i := 1) (v := ?_) rfl (by kernel_rfl) (by kernel_rfl) (by kernel_rfl) (fun _ _ _ h => h) rfl ?_ hHeld ?_
        rotate_left
        · intro w hS; (try dsimp only at hS); obtain ⟨hS0, hS1⟩ := hS; go_simp; first | done | (with_reducible rfl)
        try simp only [Act.put, List.setIfInBounds_toArray, List.set_cons_zero, List.set_cons_succ]
        refine takeH (i := 2) (v := ?_) rfl (by kernel_rfl) (by kernel_rfl) (by kernel_rfl) (fun _ _ _ h => h) rfl ?_ hHeld ?_
        rotate_left
        · intro w hS; (try dsimp only at hS); obtain ⟨hS0, hS1⟩ := hS; go_simp; first | done | (with_reducible rfl)
        try simp only [Act.put, List.setIfInBounds_toArray, List.set_cons_zero, List.set_cons_succ]
        refine takeH (i := 3) (v := ?_) rfl (by kernel_rfl) (by kernel_rfl) (by kernel_rfl) (fun _ _ _ h => h) rfl ?_ hHeld ?_
        rotate_left
        · intro w hS; (try dsimp only at hS); obtain ⟨hS0, hS1⟩ := hS; go_simp; first | done | (with_reducible rfl)
        try simp only [Act.put, List.setIfInBounds_toArray, List.set_cons_zero, List.set_cons_succ]
        refine takeH (i := 4) (v := ?_) rfl (by kernel_rfl) (by kernel_rfl) (by kernel_rfl) (fun _ _ _ h => h) rfl ?_ hHeld ?_
        rotate_left
        · intro w hS; (try dsimp only at hS); obtain ⟨hS0, hS1⟩ := hS; go_simp; first | done | (with_reducible rfl)
        try simp only [Act.put, List.setIfInBounds_toArray, List.set_cons_zero, List.set_cons_succ]
        refine takeH (i := 5) (v := ?_) rfl (by kernel_rfl) (by kernel_rfl) (by kernel_rfl) (fun _ _ _ h => h) rfl ?_ hHeld ?_
        rotate_left
        · intro w hS; (try dsimp only at hS); obtain ⟨hS0, hS1⟩ := hS; go_simp; first | done | (with_reducible rfl)
        try simp only [Act.put, List.setIfInBounds_toArray, List.set_cons_zero, List.set_cons_succ]
        refine takeH (i := 6) (v := ?_) rfl (by kernel_rfl) (by kernel_rfl) (by kernel_rfl) (fun _ _ _ h => h) rfl ?_ hHeld ?_
        rotate_left
        · intro w hS; (try dsimp only at hS); obtain ⟨hS0, hS1⟩ := hS; go_simp; first | done | (with_reducible rfl)
        try simp only [Act.put, List.setIfInBounds_toArray, List.set_cons_zero, List.set_cons_succ]
        refine takeH (i := 7) (v := ?_) rfl (by kernel_rfl) (by kernel_rfl) (by kernel_rfl) (fun _ _ _ h => h) rfl ?_ hHeld ?_
        rotate_left
        · intro w hS; (try dsimp only at hS); obtain ⟨hS0, hS1⟩ := hS; go_simp; first | done | (with_reducible rfl)
        try simp only [Act.put, List.setIfInBounds_toArray, List.set_cons_zero, List.set_cons_succ]
        refine takeH (i := 8) (v := ?_) rfl (by kernel_rfl) (by kernel_rfl) (by kernel_rfl) (fun _ _ _ h => h) rfl ?_ hHeld ?_
        rotate_left
        · intro w hS; (try dsimp only at hS); obtain ⟨hS0, hS1⟩ := hS; go_simp; first | done | (with_reducible rfl)
        try simp only [Act.put, List.setIfInBounds_toArray, List.set_cons_zero, List.set_cons_succ]
        refine takeH (i := 9) (v := ?_) rfl (by kernel_rfl) (by kernel_rfl) (by kernel_rfl) (fun _ _ _ h => h) rfl ?_ hHeld ?_
        rotate_left
        · intro w hS; (try dsimp only at hS); obtain ⟨hS0, hS1⟩ := hS; go_simp; first | done | (with_reducible rfl)
        try simp only [Act.put, List.setIfInBounds_toArray, List.set_cons_zero, List.set_cons_succ]
        refine takeH (i := 10) (v := ?_) rfl (by kernel_rfl) (by kernel_rfl) (by kernel_rfl) (fun _ _ _ h => h) rfl ?_ hHeld ?_
        rotate_left
        · intro w hS; (try dsimp only at hS); obtain ⟨hS0, hS1⟩ := hS; go_simp; first | done | (with_reducible rfl)
        try simp only [Act.put, List.setIfInBounds_toArray, List.set_cons_zero, List.set_cons_succ]
        refine takeH (i := 11) (v := ?_) rfl (by kernel_rfl) (by kernel_rfl) (by kernel_rfl) (fun _ _ _ h => h) rfl ?_ hHeld ?_
        rotate_left
        · intro w hS; (try dsimp only at hS); obtain ⟨hS0, hS1⟩ := hS; go_simp; first | done | (with_reducible rfl)
        try simp only [Act.put, List.setIfInBounds_toArray, List.set_cons_zero, List.set_cons_succ]
        refine takeH (i := 12) (v := ?_) rfl (by kernel_rfl) (by kernel_rfl) (by kernel_rfl) (fun _ _ _ h => h) rfl ?_ hHeld ?_
        rotate_left
        · intro w hS; (try dsimp only at hS); obtain ⟨hS0, hS1⟩ := hS; go_simp; first | done | (with_reducible rfl)
        try simp only [Act.put, List.setIfInBounds_toArray, List.set_cons_zero, List.set_cons_succ]
        refine takeH (i := 13) (v := ?_) rfl (by kernel_rfl) (by kernel_rfl) (by kernel_rfl) (fun _ _ _ h => h) rfl ?_ hHeld ?_
        rotate_left
        · intro w hS; (try dsimp only at hS); obtain ⟨hS0, hS1⟩ := hS; go_simp; first | done | (with_reducible rfl)
        try simp only [Act.put, List.setIfInBounds_toArray, List.set_cons_zero, List.set_cons_succ]
        refine takeH (i := 14) (v := ?_) rfl (by kernel_rfl) (by kernel_rfl) (by kernel_rfl) (fun _ _ _ h => h) rfl ?_ hHeld ?_
        rotate_left
        · intro w hS; (try dsimp only at hS); obtain ⟨hS0, hS1⟩ := hS; go_simp; first | done | (with_reducible rfl)
        try simp only [Act.put, List.setIfInBounds_toArray, List.set_cons_zero, List.set_cons_succ]
        refine takeH (i := 15) (v := ?_) rfl (by kernel_rfl) (by kernel_rfl) (by kernel_rfl) (fun _ _ _ h => h) rfl ?_ hHeld ?_
        rotate_left
        · intro w hS; (try dsimp only at hS); obtain ⟨hS0, hS1⟩ := hS; go_simp; first | done | (with_reducible rfl)
        try simp only [Act.put, List.setIfInBounds_toArray, List.set_cons_zero, List.set_cons_succ]
        refine wpAnyH_done (by kernel_rfl) ?_ _
        clear hHeld
        go_wp2_with fail
        exact ⟨⟨j + 1, T, by go_num, by simp, by omega, by omega, hw0, HA.out T (by omega) (Nat.le_refl _), hb.drew⟩, by simp [intOf]; omega⟩
      · have hg2 : ¬ (G : Int) < (T : Int) := by omega
        go_wp2_with fail
        refine wp_region_held_drew (S := fun W => W.cell? ⟨b, off + j * 4 + 1, none⟩ = some (.string (strB k1)) ∧ W.cell? ⟨b, off + j * 4 + 2, none⟩ = some (.string (strB v1))) (by kernel_rfl) (⟨d1, d2⟩) (fun hHeld => ?_)
        refine takeH (i := 0) (v := ?_) rfl (by kernel_rfl) (by kernel_rfl) (by kernel_rfl) (fun _ _ _ h => h) rfl ?_ hHeld ?_
        rotate_left
        · intro w hS; (try dsimp only at hS); obtain ⟨hS0, hS1⟩ := hS; go_simp; first | done | (with_reducible rfl)
        try simp only [Act.put, List.setIfInBounds_toArray, List.set_cons_zero, List.set_cons_succ]
        refine takeH (i := 1) (v := ?_) rfl (by kernel_rfl) (by kernel_rfl) (by kernel_rfl) (fun _ _ _ h => h) rfl ?_ hHeld ?_
        rotate_left
        · intro w hS; (try dsimp only at hS); obtain ⟨hS0, hS1⟩ := hS; go_simp; first | done | (with_reducible rfl)
        try simp only [Act.put, List.setIfInBounds_toArray, List.set_cons_zero, List.set_cons_succ]
        refine takeH (i := 2) (v := ?_) rfl (by kernel_rfl) (by kernel_rfl) (by kernel_rfl) (fun _ _ _ h => h) rfl ?_ hHeld ?_
        rotate_left
        · intro w hS; (try dsimp only at hS); obtain ⟨hS0, hS1⟩ := hS; go_simp; first | done | (with_reducible rfl)
        try simp only [Act.put, List.setIfInBounds_toArray, List.set_cons_zero, List.set_cons_succ]
        refine takeH (i := 3) (v := ?_) rfl (by kernel_rfl) (by kernel_rfl) (by kernel_rfl) (fun _ _ _ h => h) rfl ?_ hHeld ?_
        rotate_left
        · intro w hS; (try dsimp only at hS); obtain ⟨hS0, hS1⟩ := hS; go_simp; first | done | (with_reducible rfl)
        try simp only [Act.put, List.setIfInBounds_toArray, List.set_cons_zero, List.set_cons_succ]
        refine takeH (i := 4) (v := ?_) rfl (by kernel_rfl) (by kernel_rfl) (by kernel_rfl) (fun _ _ _ h => h) rfl ?_ hHeld ?_
        rotate_left
        · intro w hS; (try dsimp only at hS); obtain ⟨hS0, hS1⟩ := hS; go_simp; first | done | (with_reducible rfl)
        try simp only [Act.put, List.setIfInBounds_toArray, List.set_cons_zero, List.set_cons_succ]
        refine takeH (i := 5) (v := ?_) rfl (by kernel_rfl) (by kernel_rfl) (by kernel_rfl) (fun _ _ _ h => h) rfl ?_ hHeld ?_
        rotate_left
        · intro w hS; (try dsimp only at hS); obtain ⟨hS0, hS1⟩ := hS; go_simp; first | done | (with_reducible rfl)
        try simp only [Act.put, List.setIfInBounds_toArray, List.set_cons_zero, List.set_cons_succ]
        refine takeH (i := 6) (v := ?_) rfl (by kernel_rfl) (by kernel_rfl) (by kernel_rfl) (fun _ _ _ h => h) rfl ?_ hHeld ?_
        rotate_left
        · intro w hS; (try dsimp only at hS); obtain ⟨hS0, hS1⟩ := hS; go_simp; first | done | (with_reducible rfl)
        try simp only [Act.put, List.setIfInBounds_toArray, List.set_cons_zero, List.set_cons_succ]
        refine takeH (i := 7) (v := ?_) rfl (by kernel_rfl) (by kernel_rfl) (by kernel_rfl) (fun _ _ _ h => h) rfl ?_ hHeld ?_
        rotate_left
        · intro w hS; (try dsimp only at hS); obtain ⟨hS0, hS1⟩ := hS; go_simp; first | done | (with_reducible rfl)
        try simp only [Act.put, List.setIfInBounds_toArray, List.set_cons_zero, List.set_cons_succ]
        refine takeH (i := 8) (v := ?_) rfl (by kernel_rfl) (by kernel_rfl) (by kernel_rfl) (fun _ _ _ h => h) rfl ?_ hHeld ?_
        rotate_left
        · intro w hS; (try dsimp only at hS); obtain ⟨hS0, hS1⟩ := hS; go_simp; first | done | (with_reducible rfl)
        try simp only [Act.put, List.setIfInBounds_toArray, List.set_cons_zero, List.set_cons_succ]
        refine takeH (i := 9) (v := ?_) rfl (by kernel_rfl) (by kernel_rfl) (by kernel_rfl) (fun _ _ _ h => h) rfl ?_ hHeld ?_
        rotate_left
        · intro w hS; (try dsimp only at hS); obtain ⟨hS0, hS1⟩ := hS; go_simp; first | done | (with_reducible rfl)
        try simp only [Act.put, List.setIfInBounds_toArray, List.set_cons_zero, List.set_cons_succ]
        refine takeH (i := 10) (v := ?_) rfl (by kernel_rfl) (by kernel_rfl) (by kernel_rfl) (fun _ _ _ h => h) rfl ?_ hHeld ?_
        rotate_left
        · intro w hS; (try dsimp only at hS); obtain ⟨hS0, hS1⟩ := hS; go_simp; first | done | (with_reducible rfl)
        try simp only [Act.put, List.setIfInBounds_toArray, List.set_cons_zero, List.set_cons_succ]
        refine takeH (i := 11) (v := ?_) rfl (by kernel_rfl) (by kernel_rfl) (by kernel_rfl) (fun _ _ _ h => h) rfl ?_ hHeld ?_
        rotate_left
        · intro w hS; (try dsimp only at hS); obtain ⟨hS0, hS1⟩ := hS; go_simp; first | done | (with_reducible rfl)
        try simp only [Act.put, List.setIfInBounds_toArray, List.set_cons_zero, List.set_cons_succ]
        refine takeH (i := 12) (v := ?_) rfl (by kernel_rfl) (by kernel_rfl) (by kernel_rfl) (fun _ _ _ h => h) rfl ?_ hHeld ?_
        rotate_left
        · intro w hS; (try dsimp only at hS); obtain ⟨hS0, hS1⟩ := hS; go_simp; first | done | (with_reducible rfl)
        try simp only [Act.put, List.setIfInBounds_toArray, List.set_cons_zero, List.set_cons_succ]
        refine takeH (i := 13) (v := ?_) rfl (by kernel_rfl) (by kernel_rfl) (by kernel_rfl) (fun _ _ _ h => h) rfl ?_ hHeld ?_
        rotate_left
        · intro w hS; (try dsimp only at hS); obtain ⟨hS0, hS1⟩ := hS; go_simp; first | done | (with_reducible rfl)
        try simp only [Act.put, List.setIfInBounds_toArray, List.set_cons_zero, List.set_cons_succ]
        refine takeH (i := 14) (v := ?_) rfl (by kernel_rfl) (by kernel_rfl) (by kernel_rfl) (fun _ _ _ h => h) rfl ?_ hHeld ?_
        rotate_left
        · intro w hS; (try dsimp only at hS); obtain ⟨hS0, hS1⟩ := hS; go_simp; first | done | (with_reducible rfl)
        try simp only [Act.put, List.setIfInBounds_toArray, List.set_cons_zero, List.set_cons_succ]
        refine takeH (i := 15) (v := ?_) rfl (by kernel_rfl) (by kernel_rfl) (by kernel_rfl) (fun _ _ _ h => h) rfl ?_ hHeld ?_
        rotate_left
        · intro w hS; (try dsimp only at hS); obtain ⟨hS0, hS1⟩ := hS; go_simp; first | done | (with_reducible rfl)
        try simp only [Act.put, List.setIfInBounds_toArray, List.set_cons_zero, List.set_cons_succ]
        refine wpAnyH_done (by kernel_rfl) ?_ _
        clear hHeld
        go_wp2_with fail
        exact ⟨⟨j + 1, G, by go_num, by simp, by omega, by omega, hG, HA.out G (Nat.le_refl _) (by omega), hb.drew⟩, by simp [intOf]; omega⟩
    · have HALL := hide hall
      clear hall
      by_cases hjl : j < os.length
      · obtain rfl : j = 100 := by omega
        go_wp2_with fail
        refine (new_st (B := w.heap.size) wr _ (by unfold I64; omega) hb.size).mono ?_
        rintro e w2 ⟨c, rfl, -, s0, hc0, -⟩
        have b2 := hb.trans (quiet_below hb.size hc0)
        have z2 := b2.size
        have hbud : (((List.length key : Int) + (List.length val : Int) + (G : Int)).toNat) = wt (key, val) + G := by unfold wt; simp only; omega
        rw [hbud] at s0
        unfold pt
        go_wp2_with fail
        refine (put_st s0 z2 key val ⟨hk1, hk2⟩ (by simp)).mono ?_
        rintro e w3 ⟨gv, -, F3, rfl, -, -, s3, -, hc3⟩
        have b3 := b2.trans (s0.below z2 hc3)
        have hl3 : ((⟨wt (key, val) + G, []⟩ : Lr).put key val).l = [(key, val)] := by
          unfold Lr.put
          rw [if_pos (by simp)]
          simp [del, fit]
        have hd3 := put_budget ⟨wt (key, val) + G, []⟩ key val
        generalize (⟨wt (key, val) + G, []⟩ : Lr).put key val = S3 at *
        generalize (⟨wt (key, val) + G, []⟩ : Lr).code key val = cd at *
        simp only at hd3
        clear s0 hc3 hc0 hbud
        have t0 := toL key
        have t9 := toL val
        go_wp2_with fail
        go_loopw [11] (fun i wr => ∃ (j : Nat) (F : Nat → Prop) (S : Lr) (rest : List Tx), i = .int .i64 (j : Int) ∧ j ≤ os.length ∧ j ≤ 100 ∧ St w.heap.size wr F c S ∧ S.budget = wt (key, val) + G ∧ S.l = (key, val) :: rest ∧ S.l.length ≤ j + 1 ∧ Below w.heap.size w wr)
          (fun i _ => 100 - (intOf i).toNat)
        case atStart => exact ⟨0, F3, S3, [], rfl, by omega, by omega, s3, hd3, hl3, by rw [hl3]; simp, b3⟩
        case round =>
          clear s3 hd3 hl3 b3 b2 z2
          obtain ⟨i, F, S, rest, rfl, i1, i2, st, sb, sl, sn, bb⟩ := hrel
          have HSL := hide sl
          clear sl
          by_cases hlt : i < os.length ∧ i < 100
          · obtain ⟨i3, i4⟩ := hlt
            obtain ⟨b, off, rfl, hbB, hop⟩ := Ob.at (h.keep bb) i3
            have hsm := (hs os[i] (List.getElem_mem i3)).1
            have hwt := HALL.out i i3 (by omega)
            generalize os[i] = o at hop hsm hwt
            obtain ⟨kind, k1, v1, kk⟩ := o
            obtain ⟨-, d1, d2, -, -⟩ := hop
            dsimp only at d1 d2 hsm hwt
            have t1 := toL k1
            by_cases hkk : k1 = key
            · subst hkk
              go_wp2_with fail
              exact ⟨⟨i + 1, F, S, rest, by go_num, by omega, by omega, st, sb, HSL.out, by omega, bb⟩, by simp [intOf]; omega⟩
            · have bk := str_ne hkk
              obtain ⟨u1, u2, ⟨rest', u3⟩, u4⟩ := used_step HSL.out hkk (by rw [sb]; exact Nat.add_le_add_left hwt _)
              have ub := (get_budget (S.put k1 v1) key).trans (put_budget S k1 v1)
              have hpp := put_st st.drew bb.size k1 v1 hsm (by omega)
              rw [u1] at hpp
              clear u1
              unfold pt at hpp
              go_wp2_with fail
              refine wp_region_held_drew (S := fun W => W.cell? ⟨b, off + i * 4 + 1, none⟩ = some (.string (strB k1)) ∧ W.cell? ⟨b, off + i * 4 + 2, none⟩ = some (.string (strB v1))) (by kernel_rfl) (⟨d1, d2⟩) (fun hHeld => ?_)
              refine takeH (i := 0) (v := ?_) rfl (by kernel_rfl) (by kernel_rfl) (by kernel_rfl) (fun _ _ _ h => h) rfl ?_ hHeld ?_
              rotate_left
              · intro w hS; (try dsimp only at hS); obtain ⟨hS0, hS1⟩ := hS; go_simp; first | done | (with_reducible rfl)
              try simp only [Act.put, List.setIfInBounds_toArray, List.set_cons_zero, List.set_cons_succ]
              refine takeH (i := 1) (v := ?_) rfl (by kernel_rfl) (by kernel_rfl) (by kernel_rfl) (fun _ _ _ h => h) rfl ?_ hHeld ?_
              rotate_left
              · intro w hS; (try dsimp only at hS); obtain ⟨hS0, hS1⟩ := hS; go_simp; first | done | (with_reducible rfl)
              try simp only [Act.put, List.setIfInBounds_toArray, List.set_cons_zero, List.set_cons_succ]
              refine takeH (i := 2) (v := ?_) rfl (by kernel_rfl) (by kernel_rfl) (by kernel_rfl) (fun _ _ _ h => h) rfl ?_ hHeld ?_
              rotate_left
              · intro w hS; (try dsimp only at hS); obtain ⟨hS0, hS1⟩ := hS; go_simp; first | done | (with_reducible rfl)
              try simp only [Act.put, List.setIfInBounds_toArray, List.set_cons_zero, List.set_cons_succ]
              refine takeH (i := 3) (v := ?_) rfl (by kernel_rfl) (by kernel_rfl) (by kernel_rfl) (fun _ _ _ h => h) rfl ?_ hHeld ?_
              rotate_left
              · intro w hS; (try dsimp only at hS); obtain ⟨hS0, hS1⟩ := hS; go_simp; first | done | (with_reducible rfl)
              try simp only [Act.put, List.setIfInBounds_toArray, List.set_cons_zero, List.set_cons_succ]
              refine takeH (i := 4) (v := ?_) rfl (by kernel_rfl) (by kernel_rfl) (by kernel_rfl) (fun _ _ _ h => h) rfl ?_ hHeld ?_
              rotate_left
              · intro w hS; (try dsimp only at hS); obtain ⟨hS0, hS1⟩ := hS; go_simp; first | done | (with_reducible rfl)
              try simp only [Act.put, List.setIfInBounds_toArray, List.set_cons_zero, List.set_cons_succ]
              refine takeH (i := 5) (v := ?_) rfl (by kernel_rfl) (by kernel_rfl) (by kernel_rfl) (fun _ _ _ h => h) rfl ?_ hHeld ?_
              rotate_left
              · intro w hS; (try dsimp only at hS); obtain ⟨hS0, hS1⟩ := hS; go_simp; first | done | (with_reducible rfl)
              try simp only [Act.put, List.setIfInBounds_toArray, List.set_cons_zero, List.set_cons_succ]
              refine takeH (i := 6) (v := ?_) rfl (by kernel_rfl) (by kernel_rfl) (by kernel_rfl) (fun _ _ _ h => h) rfl ?_ hHeld ?_
              rotate_left
              · intro w hS; (try dsimp only at hS); obtain ⟨hS0, hS1⟩ := hS; go_simp; first | done | (with_reducible rfl)
              try simp only [Act.put, List.setIfInBounds_toArray, List.set_cons_zero, List.set_cons_succ]
              refine takeH (i := 7) (v := ?_) rfl (by kernel_rfl) (by kernel_rfl) (by kernel_rfl) (fun _ _ _ h => h) rfl ?_ hHeld ?_
              rotate_left
              · intro w hS; (try dsimp only at hS); obtain ⟨hS0, hS1⟩ := hS; go_simp; first | done | (with_reducible rfl)
              try simp only [Act.put, List.setIfInBounds_toArray, List.set_cons_zero, List.set_cons_succ]
              refine takeH (i := 8) (v := ?_) rfl (by kernel_rfl) (by kernel_rfl) (by kernel_rfl) (fun _ _ _ h => h) rfl ?_ hHeld ?_
              rotate_left
              · intro w hS; (try dsimp only at hS); obtain ⟨hS0, hS1⟩ := hS; go_simp; first | done | (with_reducible rfl)
              try simp only [Act.put, List.setIfInBounds_toArray, List.set_cons_zero, List.set_cons_succ]
              refine takeH (i := 9) (v := ?_) rfl (by kernel_rfl) (by kernel_rfl) (by kernel_rfl) (fun _ _ _ h => h) rfl ?_ hHeld ?_
              rotate_left
              · intro w hS; (try dsimp only at hS); obtain ⟨hS0, hS1⟩ := hS; go_simp; first | done | (with_reducible rfl)
              try simp only [Act.put, List.setIfInBounds_toArray, List.set_cons_zero, List.set_cons_succ]
              refine takeH (i := 10) (v := ?_) rfl (by kernel_rfl) (by kernel_rfl) (by kernel_rfl) (fun _ _ _ h => h) rfl ?_ hHeld ?_
              rotate_left
              · intro w hS; (try dsimp only at hS); obtain ⟨hS0, hS1⟩ := hS; go_simp; first | done | (with_reducible rfl)
              try simp only [Act.put, List.setIfInBounds_toArray, List.set_cons_zero, List.set_cons_succ]
              refine onlyH (i := 11) rfl (by kernel_rfl) rfl (fun K hK => ?_)
              go_simp
              refine hpp.mono ?_
              rintro e w4 ⟨g4, -, F4, rfl, -, -, s4, -, hc4⟩
              have bq : Below w.heap.size wr w4 := st.below bb.size (((Chg.refl F wr).drew).then hc4)
              have b4 := bb.trans bq
              have hgg := get_st s4 key
              rw [u2] at hgg
              clear u2
              unfold pt at hgg
              refine hK.out _ _ (⟨(bq.cell (p := ⟨b, off + i * 4 + 1, none⟩) hbB).trans d1, (bq.cell (p := ⟨b, off + i * 4 + 2, none⟩) hbB).trans d2⟩) (fun hHeld => ?_)
              clear hK K
              try simp only [Act.put, List.setIfInBounds_toArray, List.set_cons_zero, List.set_cons_succ]
              refine takeH (i := 12) (v := ?_) rfl (by kernel_rfl) (by kernel_rfl) (by kernel_rfl) (fun _ _ _ h => h) rfl ?_ hHeld ?_
              rotate_left
              · intro w hS; (try dsimp only at hS); obtain ⟨hS0, hS1⟩ := hS; go_simp; first | done | (with_reducible rfl)
              try simp only [Act.put, List.setIfInBounds_toArray, List.set_cons_zero, List.set_cons_succ]
              refine takeH (i := 13) (v := ?_) rfl (by kernel_rfl) (by kernel_rfl) (by kernel_rfl) (fun _ _ _ h => h) rfl ?_ hHeld ?_
              rotate_left
              · intro w hS; (try dsimp only at hS); obtain ⟨hS0, hS1⟩ := hS; go_simp; first | done | (with_reducible rfl)
              try simp only [Act.put, List.setIfInBounds_toArray, List.set_cons_zero, List.set_cons_succ]
              refine takeH (i := 14) (v := ?_) rfl (by kernel_rfl) (by kernel_rfl) (by kernel_rfl) (fun _ _ _ h => h) rfl ?_ hHeld ?_
              rotate_left
              · intro w hS; (try dsimp only at hS); obtain ⟨hS0, hS1⟩ := hS; go_simp; first | done | (with_reducible rfl)
              try simp only [Act.put, List.setIfInBounds_toArray, List.set_cons_zero, List.set_cons_succ]
              refine takeH (i := 15) (v := ?_) rfl (by kernel_rfl) (by kernel_rfl) (by kernel_rfl) (fun _ _ _ h => h) rfl ?_ hHeld ?_
              rotate_left
              · intro w hS; (try dsimp only at hS); obtain ⟨hS0, hS1⟩ := hS; go_simp; first | done | (with_reducible rfl)
              try simp only [Act.put, List.setIfInBounds_toArray, List.set_cons_zero, List.set_cons_succ]
              refine takeH (i := 16) (v := ?_) rfl (by kernel_rfl) (by kernel_rfl) (by kernel_rfl) (fun _ _ _ h => h) rfl ?_ hHeld ?_
              rotate_left
              · intro w hS; (try dsimp only at hS); obtain ⟨hS0, hS1⟩ := hS; go_simp; first | done | (with_reducible rfl)
              try simp only [Act.put, List.setIfInBounds_toArray, List.set_cons_zero, List.set_cons_succ]
              refine wpAnyH_done (by kernel_rfl) ?_ _
              clear hHeld
              go_wp2_with fail
              refine hgg.mono ?_
              rintro e w5 ⟨rfl, s5, hc5⟩
              have b5 := b4.trans (s4.below b4.size hc5)
              simp only [Option.getD_some, Option.isSome_some]
              go_wp2_with fail
              exact ⟨⟨i + 1, F4, _, rest', by go_num, by omega, by omega, s5, ub.trans sb, u3, by omega, b5⟩, by simp [intOf]; omega⟩
          · by_cases hil : i < os.length
            · obtain rfl : i = 100 := by omega
              go_wp2
              go_ret
              exact ⟨rfl, bb⟩
            · obtain rfl : i = os.length := by omega
              go_wp2
              go_ret
              exact ⟨rfl, bb⟩
      · obtain rfl : j = os.length := by omega
        go_wp2_with fail
        refine (new_st (B := w.heap.size) wr _ (by unfold I64; omega) hb.size).mono ?_
        rintro e w2 ⟨c, rfl, -, s0, hc0, -⟩
        have b2 := hb.trans (quiet_below hb.size hc0)
        have z2 := b2.size
        have hbud : (((List.length key : Int) + (List.length val : Int) + (G : Int)).toNat) = wt (key, val) + G := by unfold wt; simp only; omega
        rw [hbud] at s0
        unfold pt
        go_wp2_with fail
        refine (put_st s0 z2 key val ⟨hk1, hk2⟩ (by simp)).mono ?_
        rintro e w3 ⟨gv, -, F3, rfl, -, -, s3, -, hc3⟩
        have b3 := b2.trans (s0.below z2 hc3)
        have hl3 : ((⟨wt (key, val) + G, []⟩ : Lr).put key val).l = [(key, val)] := by
          unfold Lr.put
          rw [if_pos (by simp)]
          simp [del, fit]
        have hd3 := put_budget ⟨wt (key, val) + G, []⟩ key val
        generalize (⟨wt (key, val) + G, []⟩ : Lr).put key val = S3 at *
        generalize (⟨wt (key, val) + G, []⟩ : Lr).code key val = cd at *
        simp only at hd3
        clear s0 hc3 hc0 hbud
        have t0 := toL key
        have t9 := toL val
        go_wp2_with fail
        go_loopw [11] (fun i wr => ∃ (j : Nat) (F : Nat → Prop) (S : Lr) (rest : List Tx), i = .int .i64 (j : Int) ∧ j ≤ os.length ∧ j ≤ 100 ∧ St w.heap.size wr F c S ∧ S.budget = wt (key, val) + G ∧ S.l = (key, val) :: rest ∧ S.l.length ≤ j + 1 ∧ Below w.heap.size w wr)
          (fun i _ => 100 - (intOf i).toNat)
        case atStart => exact ⟨0, F3, S3, [], rfl, by omega, by omega, s3, hd3, hl3, by rw [hl3]; simp, b3⟩
        case round =>
          clear s3 hd3 hl3 b3 b2 z2
          obtain ⟨i, F, S, rest, rfl, i1, i2, st, sb, sl, sn, bb⟩ := hrel
          have HSL := hide sl
          clear sl
          by_cases hlt : i < os.length ∧ i < 100
          · obtain ⟨i3, i4⟩ := hlt
            obtain ⟨b, off, rfl, hbB, hop⟩ := Ob.at (h.keep bb) i3
            have hsm := (hs os[i] (List.getElem_mem i3)).1
            have hwt := HALL.out i i3 i3
            generalize os[i] = o at hop hsm hwt
            obtain ⟨kind, k1, v1, kk⟩ := o
            obtain ⟨-, d1, d2, -, -⟩ := hop
            dsimp only at d1 d2 hsm hwt
            have t1 := toL k1
            by_cases hkk : k1 = key
            · subst hkk
              go_wp2_with fail
              exact ⟨⟨i + 1, F, S, rest, by go_num, by omega, by omega, st, sb, HSL.out, by omega, bb⟩, by simp [intOf]; omega⟩
            · have bk := str_ne hkk
              obtain ⟨u1, u2, ⟨rest', u3⟩, u4⟩ := used_step HSL.out hkk (by rw [sb]; exact Nat.add_le_add_left hwt _)
              have ub := (get_budget (S.put k1 v1) key).trans (put_budget S k1 v1)
              have hpp := put_st st.drew bb.size k1 v1 hsm (by omega)
              rw [u1] at hpp
              clear u1
              unfold pt at hpp
              go_wp2_with fail
              refine wp_region_held_drew (S := fun W => W.cell? ⟨b, off + i * 4 + 1, none⟩ = some (.string (strB k1)) ∧ W.cell? ⟨b, off + i * 4 + 2, none⟩ = some (.string (strB v1))) (by kernel_rfl) (⟨d1, d2⟩) (fun hHeld => ?_)
              refine takeH (i := 0) (v := ?_) rfl (by kernel_rfl) (by kernel_rfl) (by kernel_rfl) (fun _ _ _ h => h) rfl ?_ hHeld ?_
              rotate_left
              · intro w hS; (try dsimp only at hS); obtain ⟨hS0, hS1⟩ := hS; go_simp; first | done | (with_reducible rfl)
              try simp only [Act.put, List.setIfInBounds_toArray, List.set_cons_zero, List.set_cons_succ]
              refine takeH (i := 1) (v := ?_) rfl (by kernel_rfl) (by kernel_rfl) (by kernel_rfl) (fun _ _ _ h => h) rfl ?_ hHeld ?_
              rotate_left
              · intro w hS; (try dsimp only at hS); obtain ⟨hS0, hS1⟩ := hS; go_simp; first | done | (with_reducible rfl)
              try simp only [Act.put, List.setIfInBounds_toArray, List.set_cons_zero, List.set_cons_succ]
              refine takeH (i := 2) (v := ?_) rfl (by kernel_rfl) (by kernel_rfl) (by kernel_rfl) (fun _ _ _ h => h) rfl ?_ hHeld ?_
              rotate_left
              · intro w hS; (try dsimp only at hS); obtain ⟨hS0, hS1⟩ := hS; go_simp; first | done | (with_reducible rfl)
              try simp only [Act.put, List.setIfInBounds_toArray, List.set_cons_zero, List.set_cons_succ]
              refine takeH (i := 3) (v := ?_) rfl (by kernel_rfl) (by kernel_rfl) (by kernel_rfl) (fun _ _ _ h => h) rfl ?_ hHeld ?_
              rotate_left
              · intro w hS; (try dsimp only at hS); obtain ⟨hS0, hS1⟩ := hS; go_simp; first | done | (with_reducible rfl)
              try simp only [Act.put, List.setIfInBounds_toArray, List.set_cons_zero, List.set_cons_succ]
              refine takeH (i := 4) (v := ?_) rfl (by kernel_rfl) (by kernel_rfl) (by kernel_rfl) (fun _ _ _ h => h) rfl ?_ hHeld ?_
              rotate_left
              · intro w hS; (try dsimp only at hS); obtain ⟨hS0, hS1⟩ := hS; go_simp; first | done | (with_reducible rfl)
              try simp only [Act.put, List.setIfInBounds_toArray, List.set_cons_zero, List.set_cons_succ]
              refine takeH (i := 5) (v := ?_) rfl (by kernel_rfl) (by kernel_rfl) (by kernel_rfl) (fun _ _ _ h => h) rfl ?_ hHeld ?_
              rotate_left
              · intro w hS; (try dsimp only at hS); obtain ⟨hS0, hS1⟩ := hS; go_simp; first | done | (with_reducible rfl)
              try simp only [Act.put, List.setIfInBounds_toArray, List.set_cons_zero, List.set_cons_succ]
              refine takeH (i := 6) (v := ?_) rfl (by kernel_rfl) (by kernel_rfl) (by kernel_rfl) (fun _ _ _ h => h) rfl ?_ hHeld ?_
              rotate_left
              · intro w hS; (try dsimp only at hS); obtain ⟨hS0, hS1⟩ := hS; go_simp; first | done | (with_reducible rfl)
              try simp only [Act.put, List.setIfInBounds_toArray, List.set_cons_zero, List.set_cons_succ]
              refine takeH (i := 7) (v := ?_) rfl (by kernel_rfl) (by kernel_rfl) (by kernel_rfl) (fun _ _ _ h => h) rfl ?_ hHeld ?_
              rotate_left
              · intro w hS; (try dsimp only at hS); obtain ⟨hS0, hS1⟩ := hS; go_simp; first | done | (with_reducible rfl)
              try simp only [Act.put, List.setIfInBounds_toArray, List.set_cons_zero, List.set_cons_succ]
              refine takeH (i := 8) (v := ?_) rfl (by kernel_rfl) (by kernel_rfl) (by kernel_rfl) (fun _ _ _ h => h) rfl ?_ hHeld ?_
              rotate_left
              · intro w hS; (try dsimp only at hS); obtain ⟨hS0, hS1⟩ := hS; go_simp; first | done | (with_reducible rfl)
              try simp only [Act.put, List.setIfInBounds_toArray, List.set_cons_zero, List.set_cons_succ]
              refine takeH (i := 9) (v := ?_) rfl (by kernel_rfl) (by kernel_rfl) (by kernel_rfl) (fun _ _ _ h => h) rfl ?_ hHeld ?_
              rotate_left
              · intro w hS; (try dsimp only at hS); obtain ⟨hS0, hS1⟩ := hS; go_simp; first | done | (with_reducible rfl)
              try simp only [Act.put, List.setIfInBounds_toArray, List.set_cons_zero, List.set_cons_succ]
              refine takeH (i := 10) (v := ?_) rfl (by kernel_rfl) (by kernel_rfl) (by kernel_rfl) (fun _ _ _ h => h) rfl ?_ hHeld ?_
              rotate_left
              · intro w hS; (try dsimp only at hS); obtain ⟨hS0, hS1⟩ := hS; go_simp; first | done | (with_reducible rfl)
              try simp only [Act.put, List.setIfInBounds_toArray, List.set_cons_zero, List.set_cons_succ]
              refine onlyH (i := 11) rfl (by kernel_rfl) rfl (fun K hK => ?_)
              go_simp
              refine hpp.mono ?_
              rintro e w4 ⟨g4, -, F4, rfl, -, -, s4, -, hc4⟩
              have bq : Below w.heap.size wr w4 := st.below bb.size (((Chg.refl F wr).drew).then hc4)
              have b4 := bb.trans bq
              have hgg := get_st s4 key
              rw [u2] at hgg
              clear u2
              unfold pt at hgg
              refine hK.out _ _ (⟨(bq.cell (p := ⟨b, off + i * 4 + 1, none⟩) hbB).trans d1, (bq.cell (p := ⟨b, off + i * 4 + 2, none⟩) hbB).trans d2⟩) (fun hHeld => ?_)
              clear hK K
              try simp only [Act.put, List.setIfInBounds_toArray, List.set_cons_zero, List.set_cons_succ]
              refine takeH (i := 12) (v := ?_) rfl (by kernel_rfl) (by kernel_rfl) (by kernel_rfl) (fun _ _ _ h => h) rfl ?_ hHeld ?_
              rotate_left
              · intro w hS; (try dsimp only at hS); obtain ⟨hS0, hS1⟩ := hS; go_simp; first | done | (with_reducible rfl)
              try simp only [Act.put, List.setIfInBounds_toArray, List.set_cons_zero, List.set_cons_succ]
              refine takeH (i := 13) (v := ?_) rfl (by kernel_rfl) (by kernel_rfl) (by kernel_rfl) (fun _ _ _ h => h) rfl ?_ hHeld ?_
              rotate_left
              · intro w hS; (try dsimp only at hS); obtain ⟨hS0, hS1⟩ := hS; go_simp; first | done | (with_reducible rfl)
              try simp only [Act.put, List.setIfInBounds_toArray, List.set_cons_zero, List.set_cons_succ]
              refine takeH (i := 14) (v := ?_) rfl (by kernel_rfl) (by kernel_rfl) (by kernel_rfl) (fun _ _ _ h => h) rfl ?_ hHeld ?_
              rotate_left
              · intro w hS; (try dsimp only at hS); obtain ⟨hS0, hS1⟩ := hS; go_simp; first | done | (with_reducible rfl)
              try simp only [Act.put, List.setIfInBounds_toArray, List.set_cons_zero, List.set_cons_succ]
              refine takeH (i := 15) (v := ?_) rfl (by kernel_rfl) (by kernel_rfl) (by kernel_rfl) (fun _ _ _ h => h) rfl ?_ hHeld ?_
              rotate_left
              · intro w hS; (try dsimp only at hS); obtain ⟨hS0, hS1⟩ := hS; go_simp; first | done | (with_reducible rfl)
              try simp only [Act.put, List.setIfInBounds_toArray, List.set_cons_zero, List.set_cons_succ]
              refine takeH (i := 16) (v := ?_) rfl (by kernel_rfl) (by kernel_rfl) (by kernel_rfl) (fun _ _ _ h => h) rfl ?_ hHeld ?_
              rotate_left
              · intro w hS; (try dsimp only at hS); obtain ⟨hS0, hS1⟩ := hS; go_simp; first | done | (with_reducible rfl)
              try simp only [Act.put, List.setIfInBounds_toArray, List.set_cons_zero, List.set_cons_succ]
              refine wpAnyH_done (by kernel_rfl) ?_ _
              clear hHeld
              go_wp2_with fail
              refine hgg.mono ?_
              rintro e w5 ⟨rfl, s5, hc5⟩
              have b5 := b4.trans (s4.below b4.size hc5)
              simp only [Option.getD_some, Option.isSome_some]
              go_wp2_with fail
              exact ⟨⟨i + 1, F4, _, rest', by go_num, by omega, by omega, s5, ub.trans sb, u3, by omega, b5⟩, by simp [intOf]; omega⟩
          · by_cases hil : i < os.length
            · exfalso; omega
            · obtain rfl : i = os.length := by omega
              go_wp2
              go_ret
              exact ⟨rfl, bb⟩
end Go.Proofs.Ythhmjoafoahpbaa
