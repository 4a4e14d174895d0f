/-
  Which pairs a map may have, by the reference. Condition: they lie there.
-/
import Derived.Test.YtldfjpgcemfpjaaM32PRLeaves
namespace Go.Proofs.Ytldfjpgcemfpjaa
open Go.RowKit

theorem rise_snoc : ∀ (l : List Bs) (a b : Bs), rise ltB (l ++ [a, b]) = (rise ltB (l ++ [a]) && ltB a b)
  | [], a, b => by simp [rise]
  | [c], a, b => by simp [rise]
  | c :: d :: l, a, b => by
    have := rise_snoc (d :: l) a b
    simp only [List.cons_append, rise] at this ⊢
    rw [this, Bool.and_assoc]
/-- Is a pair right behind the one ahead of it? -/
def nextOk (l : List Pair) (i : Nat) (x : Pair) : Bool := pairOk x && (decide (i = 0) || ltB ((l[i - 1]?.map (·.1)).getD []) x.1)
theorem pairsOk_step (l : List Pair) (i : Nat) (h : i < l.length) : pairsOk (l.take (i + 1)) = (pairsOk (l.take i) && nextOk l i l[i]) := by
  unfold pairsOk nextOk
  rw [List.take_succ_eq_append_getElem h, List.all_append, List.map_append]
  cases i with
  | zero => simp [rise]
  | succ k =>
    have hk : k < l.length := by omega
    rw [List.take_succ_eq_append_getElem hk, List.map_append, List.append_assoc]
    have := rise_snoc ((l.take k).map (·.1)) l[k].1 l[k + 1].1
    simp only [List.map_cons, List.map_nil, List.singleton_append, List.all_cons, List.all_nil, Bool.and_true, Nat.add_sub_cancel, List.getElem?_eq_getElem hk, Option.map_some, Option.getD_some, Nat.add_eq_zero_iff, Nat.one_ne_zero, and_false, decide_false, Bool.false_or] at this ⊢
    rw [this]
    simp only [Bool.and_assoc, Bool.and_left_comm]
theorem pairsOk_take {l : List Pair} (h : pairsOk l = true) (k : Nat) : pairsOk (l.take k) = true := by
  unfold pairsOk at h ⊢
  simp only [Bool.and_eq_true, List.all_eq_true] at h ⊢
  exact ⟨fun p hp => h.1 p (List.mem_of_mem_take hp), (rise_iff _).2 (((rise_iff _).1 h.2).sublist ((List.take_sublist k l).map _))⟩
theorem nextOk_no {l : List Pair} {i : Nat} {x : Pair} (h : pairOk x = false) : nextOk l i x = false := by unfold nextOk; rw [h]; rfl
theorem pairOk_no2 {x : Pair} (h : x.1.length < 1 ∨ 64 < x.1.length ∨ 128 < x.2.length) : pairOk x = false := by
  unfold pairOk isKeyB
  rw [Bool.eq_false_iff]
  simp only [ne_eq, Bool.and_eq_true, decide_eq_true_eq]
  omega
theorem pairOk_yes {x : Pair} (h1 : ¬ x.1.length < 1) (h2 : ¬ 64 < x.1.length) (h3 : ¬ 128 < x.2.length) : pairOk x = true := by
  unfold pairOk isKeyB
  simp only [Bool.and_eq_true, decide_eq_true_eq]
  omega
set_option maxRecDepth 40000 in
set_option maxHeartbeats 3200000 in
theorem right12_any (w : World) (l : List Pair) (v : Value) (hv : Ls w.heap.size w 2 pairC v l) :
    Calls Try.prog 29 #[v] w fun e w' => e = .returned (.bool (pairsOk l)) ∧ Below w.heap.size w w' := by
  obtain ⟨ao, cap, rfl, hcap, hcap2, h4⟩ := hv
  unfold maxLen at hcap2
  obtain ⟨m, hm⟩ : ∃ m, m = l.length := ⟨_, rfl⟩
  rw [← hm] at hcap ⊢
  have HM := hide hm
  clear hm
  go_enter Try.func29, Try.ntmps29
  go_wp2_with fail
  go_loopw [3] (fun t wr => ∃ i : Nat, i ≤ m ∧ t = .int .i64 i ∧ pairsOk (l.take i) = true ∧ Below w.heap.size w wr) (fun t _ => m - (intOf t).toNat)
  case atStart => exact ⟨0, by omega, rfl, rfl, Below.refl _ _⟩
  case round =>
    obtain ⟨i, him, rfl, hok, hbw⟩ := hrel
    by_cases hlt : i < m
    · have hlt2 : i < l.length := by have := HM.out; omega
      obtain ⟨b, off, rfl, hbB, hcell⟩ := h4 (by rintro rfl; simp at hlt2)
      have hst := pairsOk_step l i hlt2
      rw [hok, Bool.true_and] at hst
      have k0 := (hbw.cell (p := ⟨b, off + i * 2 + 0, none⟩) hbB).trans (hcell i hlt2 0 _ rfl)
      have k1 := (hbw.cell (p := ⟨b, off + i * 2 + 1, none⟩) hbB).trans (hcell i hlt2 1 _ rfl)
      simp only [Nat.add_zero] at k0
      have hno : nextOk l i l[i] = false → pairsOk l = false := fun h => by
        rw [Bool.eq_false_iff]
        intro q
        have := pairsOk_take q (i + 1)
        rw [hst, h] at this
        cases this
      have hpv : ∀ k, i = k + 1 → ∃ y : Pair, (l[i - 1]?.map (·.1)).getD [] = y.1 ∧ wr.cell? ⟨b, off + (i - 1) * 2, none⟩ = some (.string (strB y.1)) := fun k hk => by
        have hk1 : i - 1 < l.length := by omega
        refine ⟨l[i - 1], by rw [List.getElem?_eq_getElem hk1]; rfl, ?_⟩
        have := (hbw.cell (p := ⟨b, off + (i - 1) * 2 + 0, none⟩) hbB).trans (hcell (i - 1) hk1 0 _ rfl)
        simpa using this
      have hnx : nextOk l i l[i] = (pairOk l[i] && (decide (i = 0) || ltB ((l[i - 1]?.map (·.1)).getD []) l[i].1)) := rfl
      generalize l[i] = x at *
      have hx1 := strB_size x.1
      have hx2 := strB_size x.2
      have HNO := hide hno
      have HST := hide hst
      have HNX := hide hnx
      have HPV := hide hpv
      have HB := hide (hbw.drew)
      clear hno hst hcell hok hnx hpv hbw h4
      by_cases q1 : x.1.length < 1
      · have p1 : decide ((x.1.length : Int) < 1) = true := decide_eq_true (by omega)
        have hf := nextOk_no (l := l) (i := i) (pairOk_no2 (.inl q1))
        go_wp2_with fail
        refine wp_region_held_drew (S := fun W => W.cell? ⟨b, off + i * 2, none⟩ = some (.string (strB x.1)) ∧ W.cell? ⟨b, off + i * 2 + 1, none⟩ = some (.string (strB x.2))) (by kernel_rfl) (⟨k0, k1⟩) (fun hHeld => ?_)
        refine takeK 0 hHeld ?_
        refine takeK 1 hHeld ?_
        refine takeK 2 hHeld ?_
        refine takeK 3 hHeld ?_
        refine takeK 4 hHeld ?_
        refine takeK 5 hHeld ?_
        refine takeK 6 hHeld ?_
        refine takeK 7 hHeld ?_
        refine skipK 8 hHeld ?_
        refine skipK 9 hHeld ?_
        refine skipK 10 hHeld ?_
        refine skipK 11 hHeld ?_
        refine skipK 12 hHeld ?_
        refine skipK 13 hHeld ?_
        refine skipK 14 hHeld ?_
        refine takeK 15 hHeld ?_
        refine takeK 16 hHeld ?_
        refine skipK 17 hHeld ?_
        refine skipK 18 hHeld ?_
        refine skipK 19 hHeld ?_
        refine skipK 20 hHeld ?_
        refine skipK 21 hHeld ?_
        refine skipK 22 hHeld ?_
        refine skipK 23 hHeld ?_
        refine takeK 24 hHeld ?_
        refine takeK 25 hHeld ?_
        refine skipK 26 hHeld ?_
        refine skipK 27 hHeld ?_
        refine skipK 28 hHeld ?_
        refine skipK 29 hHeld ?_
        refine skipK 30 hHeld ?_
        refine skipK 31 hHeld ?_
        refine skipK 32 hHeld ?_
        refine skipK 33 hHeld ?_
        refine skipK 34 hHeld ?_
        refine skipK 35 hHeld ?_
        refine skipK 36 hHeld ?_
        refine skipK 37 hHeld ?_
        refine skipK 38 hHeld ?_
        refine skipK 39 hHeld ?_
        refine skipK 40 hHeld ?_
        refine skipK 41 hHeld ?_
        refine takeK 42 hHeld ?_
        refine wpAnyH_done (by kernel_rfl) ?_ _
        clear hHeld
        go_wp2
        go_ret
        exact ⟨ret_bool (Eq.symm (HNO.out hf)), HB.out⟩
      · have p1 : decide ((x.1.length : Int) < 1) = false := decide_eq_false (by omega)
        by_cases q2 : 64 < x.1.length
        · have p2 : decide ((64 : Int) < (x.1.length : Int)) = true := decide_eq_true (by omega)
          have hf := nextOk_no (l := l) (i := i) (pairOk_no2 (.inr (.inl q2)))
          go_wp2_with fail
          refine wp_region_held_drew (S := fun W => W.cell? ⟨b, off + i * 2, none⟩ = some (.string (strB x.1)) ∧ W.cell? ⟨b, off + i * 2 + 1, none⟩ = some (.string (strB x.2))) (by kernel_rfl) (⟨k0, k1⟩) (fun hHeld => ?_)
          refine takeK 0 hHeld ?_
          refine takeK 1 hHeld ?_
          refine takeK 2 hHeld ?_
          refine takeK 3 hHeld ?_
          refine takeK 4 hHeld ?_
          refine takeK 5 hHeld ?_
          refine takeK 6 hHeld ?_
          refine takeK 7 hHeld ?_
          refine takeK 8 hHeld ?_
          refine takeK 9 hHeld ?_
          refine takeK 10 hHeld ?_
          refine takeK 11 hHeld ?_
          refine takeK 12 hHeld ?_
          refine takeK 13 hHeld ?_
          refine takeK 14 hHeld ?_
          refine takeK 15 hHeld ?_
          refine takeK 16 hHeld ?_
          refine skipK 17 hHeld ?_
          refine skipK 18 hHeld ?_
          refine skipK 19 hHeld ?_
          refine skipK 20 hHeld ?_
          refine skipK 21 hHeld ?_
          refine skipK 22 hHeld ?_
          refine skipK 23 hHeld ?_
          refine takeK 24 hHeld ?_
          refine takeK 25 hHeld ?_
          refine skipK 26 hHeld ?_
          refine skipK 27 hHeld ?_
          refine skipK 28 hHeld ?_
          refine skipK 29 hHeld ?_
          refine skipK 30 hHeld ?_
          refine skipK 31 hHeld ?_
          refine skipK 32 hHeld ?_
          refine skipK 33 hHeld ?_
          refine skipK 34 hHeld ?_
          refine skipK 35 hHeld ?_
          refine skipK 36 hHeld ?_
          refine skipK 37 hHeld ?_
          refine skipK 38 hHeld ?_
          refine skipK 39 hHeld ?_
          refine skipK 40 hHeld ?_
          refine skipK 41 hHeld ?_
          refine takeK 42 hHeld ?_
          refine wpAnyH_done (by kernel_rfl) ?_ _
          clear hHeld
          go_wp2
          go_ret
          exact ⟨ret_bool (Eq.symm (HNO.out hf)), HB.out⟩
        · have p2 : decide ((64 : Int) < (x.1.length : Int)) = false := decide_eq_false (by omega)
          by_cases q3 : 128 < x.2.length
          · have p3 : decide ((128 : Int) < (x.2.length : Int)) = true := decide_eq_true (by omega)
            have hf := nextOk_no (l := l) (i := i) (pairOk_no2 (.inr (.inr q3)))
            go_wp2_with fail
            refine wp_region_held_drew (S := fun W => W.cell? ⟨b, off + i * 2, none⟩ = some (.string (strB x.1)) ∧ W.cell? ⟨b, off + i * 2 + 1, none⟩ = some (.string (strB x.2))) (by kernel_rfl) (⟨k0, k1⟩) (fun hHeld => ?_)
            refine takeK 0 hHeld ?_
            refine takeK 1 hHeld ?_
            refine takeK 2 hHeld ?_
            refine takeK 3 hHeld ?_
            refine takeK 4 hHeld ?_
            refine takeK 5 hHeld ?_
            refine takeK 6 hHeld ?_
            refine takeK 7 hHeld ?_
            refine takeK 8 hHeld ?_
            refine takeK 9 hHeld ?_
            refine takeK 10 hHeld ?_
            refine takeK 11 hHeld ?_
            refine takeK 12 hHeld ?_
            refine takeK 13 hHeld ?_
            refine takeK 14 hHeld ?_
            refine takeK 15 hHeld ?_
            refine takeK 16 hHeld ?_
            refine takeK 17 hHeld ?_
            refine takeK 18 hHeld ?_
            refine takeK 19 hHeld ?_
            refine takeK 20 hHeld ?_
            refine takeK 21 hHeld ?_
            refine takeK 22 hHeld ?_
            refine takeK 23 hHeld ?_
            refine takeK 24 hHeld ?_
            refine takeK 25 hHeld ?_
            refine skipK 26 hHeld ?_
            refine skipK 27 hHeld ?_
            refine skipK 28 hHeld ?_
            refine skipK 29 hHeld ?_
            refine skipK 30 hHeld ?_
            refine skipK 31 hHeld ?_
            refine skipK 32 hHeld ?_
            refine skipK 33 hHeld ?_
            refine skipK 34 hHeld ?_
            refine skipK 35 hHeld ?_
            refine skipK 36 hHeld ?_
            refine skipK 37 hHeld ?_
            refine skipK 38 hHeld ?_
            refine skipK 39 hHeld ?_
            refine skipK 40 hHeld ?_
            refine skipK 41 hHeld ?_
            refine takeK 42 hHeld ?_
            refine wpAnyH_done (by kernel_rfl) ?_ _
            clear hHeld
            go_wp2
            go_ret
            exact ⟨ret_bool (Eq.symm (HNO.out hf)), HB.out⟩
          · have p3 : decide ((128 : Int) < (x.2.length : Int)) = false := decide_eq_false (by omega)
            have hpo := pairOk_yes q1 q2 q3
            by_cases q4 : i = 0
            · have p4 : decide ((0 : Int) < (i : Int)) = false := decide_eq_false (by omega)
              have p5 : decide (0 < i) = false := decide_eq_false (by omega)
              have hf : nextOk l i x = true := by rw [HNX.out, hpo, decide_eq_true q4]; rfl
              clear q4
              go_wp2_with fail
              refine wp_region_held_drew (S := fun W => W.cell? ⟨b, off + i * 2, none⟩ = some (.string (strB x.1)) ∧ W.cell? ⟨b, off + i * 2 + 1, none⟩ = some (.string (strB x.2))) (by kernel_rfl) (⟨k0, k1⟩) (fun hHeld => ?_)
              refine takeK 0 hHeld ?_
              refine takeK 1 hHeld ?_
              refine takeK 2 hHeld ?_
              refine takeK 3 hHeld ?_
              refine takeK 4 hHeld ?_
              refine takeK 5 hHeld ?_
              refine takeK 6 hHeld ?_
              refine takeK 7 hHeld ?_
              refine takeK 8 hHeld ?_
              refine takeK 9 hHeld ?_
              refine takeK 10 hHeld ?_
              refine takeK 11 hHeld ?_
              refine takeK 12 hHeld ?_
              refine takeK 13 hHeld ?_
              refine takeK 14 hHeld ?_
              refine takeK 15 hHeld ?_
              refine takeK 16 hHeld ?_
              refine takeK 17 hHeld ?_
              refine takeK 18 hHeld ?_
              refine takeK 19 hHeld ?_
              refine takeK 20 hHeld ?_
              refine takeK 21 hHeld ?_
              refine takeK 22 hHeld ?_
              refine takeK 23 hHeld ?_
              refine takeK 24 hHeld ?_
              refine takeK 25 hHeld ?_
              refine takeK 26 hHeld ?_
              refine takeK 27 hHeld ?_
              refine takeK 28 hHeld ?_
              refine skipK 29 hHeld ?_
              refine skipK 30 hHeld ?_
              refine skipK 31 hHeld ?_
              refine skipK 32 hHeld ?_
              refine skipK 33 hHeld ?_
              refine skipK 34 hHeld ?_
              refine skipK 35 hHeld ?_
              refine skipK 36 hHeld ?_
              refine skipK 37 hHeld ?_
              refine skipK 38 hHeld ?_
              refine skipK 39 hHeld ?_
              refine skipK 40 hHeld ?_
              refine takeK 41 hHeld ?_
              refine takeK 42 hHeld ?_
              refine wpAnyH_done (by kernel_rfl) ?_ _
              clear hHeld
              go_wp2
              go_roundw
              case rel => exact ⟨i + 1, by omega, by go_num, HST.out.trans hf, HB.out⟩
              case measure => simp [intOf]; omega
            · have p4 : decide ((0 : Int) < (i : Int)) = true := decide_eq_true (by omega)
              have p5 : decide (0 < i) = true := decide_eq_true (by omega)
              obtain ⟨y, hy, ky⟩ := HPV.out (i - 1) (by omega)
              have hge := geq_str 9 y.1 x.1
              have hsub : (i : Int) - 1 = ((i - 1 : Nat) : Int) := by omega
              have hi1 : i - 1 ≤ m := by omega
              have hi2 : i - 1 < m := by omega
              have hwi : IntKind.i64.wrap ((i - 1 : Nat) : Int) = ((i - 1 : Nat) : Int) := by rw [IntKind.wrap_i64]; omega
              by_cases hl : ltB y.1 x.1 = true
              · have hf : nextOk l i x = true := by rw [HNX.out, hpo, hy, hl]; simp
                rw [hl] at hge
                clear q4
                go_wp2_with fail
                refine wp_region_held_drew (S := fun W => W.cell? ⟨b, off + i * 2, none⟩ = some (.string (strB x.1)) ∧ W.cell? ⟨b, off + i * 2 + 1, none⟩ = some (.string (strB x.2)) ∧ W.cell? ⟨b, off + (i - 1) * 2, none⟩ = some (.string (strB y.1))) (by kernel_rfl) (⟨k0, k1, ky⟩) (fun hHeld => ?_)
                refine takeK 0 hHeld ?_
                refine takeK 1 hHeld ?_
                refine takeK 2 hHeld ?_
                refine takeK 3 hHeld ?_
                refine takeK 4 hHeld ?_
                refine takeK 5 hHeld ?_
                refine takeK 6 hHeld ?_
                refine takeK 7 hHeld ?_
                refine takeK 8 hHeld ?_
                refine takeK 9 hHeld ?_
                refine takeK 10 hHeld ?_
                refine takeK 11 hHeld ?_
                refine takeK 12 hHeld ?_
                refine takeK 13 hHeld ?_
                refine takeK 14 hHeld ?_
                refine takeK 15 hHeld ?_
                refine takeK 16 hHeld ?_
                refine takeK 17 hHeld ?_
                refine takeK 18 hHeld ?_
                refine takeK 19 hHeld ?_
                refine takeK 20 hHeld ?_
                refine takeK 21 hHeld ?_
                refine takeK 22 hHeld ?_
                refine takeK 23 hHeld ?_
                refine takeK 24 hHeld ?_
                refine takeK 25 hHeld ?_
                refine takeK 26 hHeld ?_
                refine takeK 27 hHeld ?_
                refine takeK 28 hHeld ?_
                refine takeK 29 hHeld ?_
                refine takeK 30 hHeld ?_
                refine takeK 31 hHeld ?_
                refine takeK 32 hHeld ?_
                refine takeK 33 hHeld ?_
                refine takeK 34 hHeld ?_
                refine takeK 35 hHeld ?_
                refine takeK 36 hHeld ?_
                refine takeK 37 hHeld ?_
                refine takeK 38 hHeld ?_
                refine takeK 39 hHeld ?_
                refine takeK 40 hHeld ?_
                refine takeK 41 hHeld ?_
                refine takeK 42 hHeld ?_
                refine wpAnyH_done (by kernel_rfl) ?_ _
                clear hHeld
                go_wp2
                go_roundw
                case rel => exact ⟨i + 1, by omega, by go_num, HST.out.trans hf, HB.out⟩
                case measure => simp [intOf]; omega
              · have hl : ltB y.1 x.1 = false := by simpa using hl
                have hf : nextOk l i x = false := by rw [HNX.out, hpo, hy, hl, decide_eq_false q4]; rfl
                rw [hl] at hge
                clear q4
                go_wp2_with fail
                refine wp_region_held_drew (S := fun W => W.cell? ⟨b, off + i * 2, none⟩ = some (.string (strB x.1)) ∧ W.cell? ⟨b, off + i * 2 + 1, none⟩ = some (.string (strB x.2)) ∧ W.cell? ⟨b, off + (i - 1) * 2, none⟩ = some (.string (strB y.1))) (by kernel_rfl) (⟨k0, k1, ky⟩) (fun hHeld => ?_)
                refine takeK 0 hHeld ?_
                refine takeK 1 hHeld ?_
                refine takeK 2 hHeld ?_
                refine takeK 3 hHeld ?_
                refine takeK 4 hHeld ?_
                refine takeK 5 hHeld ?_
                refine takeK 6 hHeld ?_
                refine takeK 7 hHeld ?_
                refine takeK 8 hHeld ?_
                refine takeK 9 hHeld ?_
                refine takeK 10 hHeld ?_
                refine takeK 11 hHeld ?_
                refine takeK 12 hHeld ?_
                refine takeK 13 hHeld ?_
                refine takeK 14 hHeld ?_
                refine takeK 15 hHeld ?_
                refine takeK 16 hHeld ?_
                refine takeK 17 hHeld ?_
                refine takeK 18 hHeld ?_
                refine takeK 19 hHeld ?_
                refine takeK 20 hHeld ?_
                refine takeK 21 hHeld ?_
                refine takeK 22 hHeld ?_
                refine takeK 23 hHeld ?_
                refine takeK 24 hHeld ?_
                refine takeK 25 hHeld ?_
                refine takeK 26 hHeld ?_
                refine takeK 27 hHeld ?_
                refine takeK 28 hHeld ?_
                refine takeK 29 hHeld ?_
                refine takeK 30 hHeld ?_
                refine takeK 31 hHeld ?_
                refine takeK 32 hHeld ?_
                refine takeK 33 hHeld ?_
                refine takeK 34 hHeld ?_
                refine takeK 35 hHeld ?_
                refine takeK 36 hHeld ?_
                refine takeK 37 hHeld ?_
                refine takeK 38 hHeld ?_
                refine takeK 39 hHeld ?_
                refine takeK 40 hHeld ?_
                refine takeK 41 hHeld ?_
                refine takeK 42 hHeld ?_
                refine wpAnyH_done (by kernel_rfl) ?_ _
                clear hHeld
                go_wp2
                go_ret
                exact ⟨ret_bool (Eq.symm (HNO.out hf)), HB.out⟩
    · obtain rfl : i = m := by omega
      have hall : l.take i = l := by rw [HM.out, List.take_length]
      rw [hall] at hok
      clear hall h4
      go_wp2
      go_ret
      exact ⟨ret_bool hok.symm, hbw⟩
end Go.Proofs.Ytldfjpgcemfpjaa
