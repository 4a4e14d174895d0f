/-
  A commit, looked at by the reference. Conditions: its parents lie there.
-/
import Derived.Test.YtdbmngbinhemeabGreatDoorRORLeaf
import Derived.Test.YtdbmngbinhemeabGreatDoorROSame0
namespace Go.Proofs.YtdbmngbinhemeabGreatDoor
open Go.RowKit

theorem once_le2 : ∀ (ps acc : List Bs), (once acc ps).length ≤ acc.length + ps.length
  | [], acc => by simp [once]
  | x :: r, acc => by
    simp only [once]
    split
    · have := once_le2 r acc; simp only [List.length_cons]; omega
    · have := once_le2 r (acc ++ [x]); simp only [List.length_append, List.length_cons, List.length_nil] at this ⊢; omega
theorem once_iff : ∀ (ps acc : List Bs), (once acc ps).length = acc.length + ps.length ↔ ps.Nodup ∧ ∀ x ∈ ps, x ∉ acc
  | [], acc => by simp [once]
  | x :: r, acc => by
    simp only [once]
    by_cases h : acc.contains x = true
    · rw [if_pos h]
      have h1 := once_le2 r acc
      have h2 : x ∈ acc := by simpa using h
      constructor
      · intro g
        simp only [List.length_cons] at g
        omega
      · intro g
        exact absurd h2 (g.2 x (by simp))
    · rw [if_neg h]
      have h2 : x ∉ acc := by simpa using h
      have ih := once_iff r (acc ++ [x])
      simp only [List.length_append, List.length_cons, List.length_nil] at ih ⊢
      rw [show acc.length + (r.length + 1) = acc.length + (0 + 1) + r.length from by omega, ih, List.nodup_cons]
      constructor
      · rintro ⟨g1, g2⟩
        refine ⟨⟨fun hx => (g2 x hx) (by simp), g1⟩, fun y hy => ?_⟩
        rcases List.mem_cons.1 hy with rfl | hy
        · exact h2
        · exact fun hz => g2 y hy (by simp [hz])
      · rintro ⟨⟨g1, g2⟩, g3⟩
        refine ⟨g2, fun y hy hz => ?_⟩
        rcases List.mem_append.1 hz with hz | hz
        · exact g3 y (by simp [hy]) hz
        · have : y = x := by simpa using hz
          exact g1 (this ▸ hy)
theorem once_nodup (ps : List Bs) : decide ((once [] ps).length = ps.length) = true ↔ ps.Nodup := by
  rw [decide_eq_true_eq]
  have := once_iff ps []
  simp only [List.length_nil, Nat.zero_add] at this
  rw [this]
  simp
theorem nodup_snoc {ps : List Bs} {k : Nat} (hk : k < ps.length) (h : (ps.take k).Nodup) (hn : ∀ i (hi : i < k), ps[i]'(by omega) ≠ ps[k]) : (ps.take (k + 1)).Nodup := by
  rw [List.take_succ_eq_append_getElem hk, List.nodup_append]
  refine ⟨h, by simp, fun a ha b hb => ?_⟩
  have hb' : b = ps[k] := by simpa using hb
  obtain ⟨i, hi, rfl⟩ := List.getElem_of_mem ha
  have hi' : i < k := by rw [List.length_take] at hi; omega
  rw [List.getElem_take, hb']
  exact hn i hi'
theorem nodup_no {ps : List Bs} {i k : Nat} (hk : k < ps.length) (hi : i < k) (h : ps[i]'(by omega) = ps[k]) : ¬ ps.Nodup := by
  exact fun g => List.pairwise_iff_getElem.1 g i k (by omega) hk hi h
theorem commitOk_alike (c : Commit) (h0 : isIdB c.1 = true) (h1 : c.2.1.length ≤ 8) (h2 : c.2.2.1.length ≤ 64) (h3 : c.2.2.2.2.length ≤ 1024) (h4 : 0 ≤ c.2.2.2.1) (h5 : c.2.2.2.1 ≤ 4611686018427387904) :
    commitOk c = (c.2.1.all isIdB && decide ((once [] c.2.1).length = c.2.1.length)) := by
  unfold commitOk
  rw [h0, decide_eq_true h1, decide_eq_true h2, decide_eq_true h3, decide_eq_true (show 0 ≤ c.2.2.2.1 ∧ c.2.2.2.1 ≤ 4611686018427387904 from ⟨h4, h5⟩)]
  simp
set_option maxRecDepth 20000 in
set_option maxHeartbeats 3200000 in
theorem rcommitRight_any (w : World) (c : Commit) (v : Value) (hv : Ls w.heap.size w 1 idC v c.2.1) :
    Calls Tryz.prog 52 #[.agg #[.string (strB c.1), v, .string (strB c.2.2.1), .int .i64 c.2.2.2.1, .string (strB c.2.2.2.2)]] w fun e w' => e = .returned (.bool (commitOk c)) ∧ Below w.heap.size w w' := by
  have hb0 : Below w.heap.size w (w.alloc (.cells #[.string (strB c.1), v, .string (strB c.2.2.1), .int .i64 c.2.2.2.1, .string (strB c.2.2.2.2)] 64)) := (Below.refl _ _).alloc (Nat.le_refl _) _
  have x0 := heap_last w (.cells #[.string (strB c.1), v, .string (strB c.2.2.1), .int .i64 c.2.2.2.1, .string (strB c.2.2.2.2)] 64) _ rfl
  have hv0 := hv.keep hb0
  obtain ⟨tr, ps, wh, tm, nt⟩ := c
  simp only at *
  obtain ⟨ao, cap, rfl, g1, g2, h4⟩ := hv0
  unfold maxLen at g2
  have c0 := rc (i := 0) x0 rfl
  have c1 := rc (i := 1) x0 rfl
  have c2 := rc (i := 2) x0 rfl
  have c3 := rc (i := 3) x0 rfl
  have c4 := rc (i := 4) x0 rfl
  have hlt0 := lt_of_heap x0
  have hsz0 := hb0.size
  have s2 := strB_size wh
  have s4 := strB_size nt
  clear hv
  generalize hw0 : w.alloc (.cells #[.string (strB tr), .slice ao ps.length cap, .string (strB wh), .int .i64 tm, .string (strB nt)] 64) = w0 at *
  have HW := hide hw0
  clear hw0
  obtain ⟨q, hq⟩ : ∃ q, isIdB tr = q := ⟨_, rfl⟩
  have hI := risId_any w0 tr
  rw [hq] at hI
  cases q with
  | false =>
    have hok : commitOk (tr, ps, wh, tm, nt) = false := by unfold commitOk; rw [hq]; rfl
    rw [hok]
    go_enter Tryz.func52, Tryz.ntmps52
    go_wp2_with fail
    try rw [HW.out]
    refine hI.mono ?_
    rintro e w1 ⟨rfl, hw1⟩
    rw [hw1]
    clear hw1 w1
    go_wp2
    go_ret
    exact ⟨rfl, hb0⟩
  | true =>
    by_cases ha : 8 < ps.length
    · have hok : commitOk (tr, ps, wh, tm, nt) = false := by unfold commitOk; rw [decide_eq_false (by simp only; omega : ¬ (tr, ps, wh, tm, nt).2.1.length ≤ 8)]; simp
      rw [hok]
      go_enter Tryz.func52, Tryz.ntmps52
      go_wp2_with fail
      try rw [HW.out]
      refine hI.mono ?_
      rintro e w1 ⟨rfl, hw1⟩
      rw [hw1]
      clear hw1 w1
      go_wp2
      go_ret
      exact ⟨rfl, hb0⟩
    by_cases hb : 64 < wh.length
    · have hb' : (64 : Int) < (wh.length : Int) := by omega
      have hok : commitOk (tr, ps, wh, tm, nt) = false := by unfold commitOk; rw [decide_eq_false (by simp only; omega : ¬ (tr, ps, wh, tm, nt).2.2.1.length ≤ 64)]; simp
      rw [hok]
      go_enter Tryz.func52, Tryz.ntmps52
      go_wp2_with fail
      try rw [HW.out]
      refine hI.mono ?_
      rintro e w1 ⟨rfl, hw1⟩
      rw [hw1]
      clear hw1 w1
      go_wp2
      go_ret
      exact ⟨rfl, hb0⟩
    have hb' : ¬ (64 : Int) < (wh.length : Int) := by omega
    by_cases hc : 1024 < nt.length
    · have hc' : (1024 : Int) < (nt.length : Int) := by omega
      have hok : commitOk (tr, ps, wh, tm, nt) = false := by unfold commitOk; rw [decide_eq_false (by simp only; omega : ¬ (tr, ps, wh, tm, nt).2.2.2.2.length ≤ 1024)]; simp
      rw [hok]
      go_enter Tryz.func52, Tryz.ntmps52
      go_wp2_with fail
      try rw [HW.out]
      refine hI.mono ?_
      rintro e w1 ⟨rfl, hw1⟩
      rw [hw1]
      clear hw1 w1
      go_wp2
      go_ret
      exact ⟨rfl, hb0⟩
    have hc' : ¬ (1024 : Int) < (nt.length : Int) := by omega
    by_cases hd : tm < 0
    · have hok : commitOk (tr, ps, wh, tm, nt) = false := by unfold commitOk; rw [decide_eq_false (by simp only; omega : ¬ (0 ≤ (tr, ps, wh, tm, nt).2.2.2.1 ∧ (tr, ps, wh, tm, nt).2.2.2.1 ≤ 4611686018427387904))]; simp
      rw [hok]
      go_enter Tryz.func52, Tryz.ntmps52
      go_wp2_with fail
      try rw [HW.out]
      refine hI.mono ?_
      rintro e w1 ⟨rfl, hw1⟩
      rw [hw1]
      clear hw1 w1
      go_wp2
      go_ret
      exact ⟨rfl, hb0⟩
    by_cases he : 4611686018427387904 < tm
    · have hok : commitOk (tr, ps, wh, tm, nt) = false := by unfold commitOk; rw [decide_eq_false (by simp only; omega : ¬ (0 ≤ (tr, ps, wh, tm, nt).2.2.2.1 ∧ (tr, ps, wh, tm, nt).2.2.2.1 ≤ 4611686018427387904))]; simp
      rw [hok]
      go_enter Tryz.func52, Tryz.ntmps52
      go_wp2_with fail
      try rw [HW.out]
      refine hI.mono ?_
      rintro e w1 ⟨rfl, hw1⟩
      rw [hw1]
      clear hw1 w1
      go_wp2
      go_ret
      exact ⟨rfl, hb0⟩
    have hok := commitOk_alike (tr, ps, wh, tm, nt) hq (by simp only; omega) (by simp only; omega) (by simp only; omega) (by simp only; omega) (by simp only; omega)
    simp only at hok
    rw [hok]
    clear hok
    go_enter Tryz.func52, Tryz.ntmps52
    go_wp2_with fail
    try rw [HW.out]
    refine hI.mono ?_
    rintro e w1 ⟨rfl, hw1⟩
    rw [hw1]
    clear hw1 w1
    go_wp2_with fail
    go_loopw [4] (fun t wr => ∃ k : Nat, k ≤ ps.length ∧ t = .int .i64 k ∧ (ps.take k).all isIdB = true ∧ (ps.take k).Nodup ∧ Below w0.heap.size w0 wr)
      (fun t _ => ps.length - (intOf t).toNat)
    case atStart => exact ⟨0, by omega, rfl, by simp, by simp, Below.refl _ _⟩
    case round =>
      obtain ⟨k, hk, rfl, hall, hnd, hbr⟩ := hrel
      have HA := hide hall
      have HN := hide hnd
      have c1r := (hbr.cell (p := ⟨w.heap.size, 1, none⟩) hlt0).trans c1
      have hBr := hb0.trans (hbr.mono hsz0)
      have HB := hide hbr
      clear hall hnd hbr
      by_cases hlt : k < ps.length
      · obtain ⟨b, off, rfl, hbB, hcl⟩ := h4 (by rintro rfl; simp at hlt)
        have hst := all_step isIdB ps k hlt HA.out
        have hno := all_false isIdB ps k hlt
        have hbw := Nat.lt_of_lt_of_le hbB hsz0
        have k0 := (HB.out.cell (p := ⟨b, off + k * 1 + 0, none⟩) hbw).trans (hcl k hlt 0 _ rfl)
        simp only [Nat.add_zero, Nat.mul_one] at k0
        have HST := hide hst
        have HNO := hide hno
        have HCL := hide hcl
        clear hst hno hcl h4
        obtain ⟨x, hx⟩ : ∃ x, ps[k] = x := ⟨_, rfl⟩
        rw [hx] at k0 HST HNO
        have HX := hide hx
        clear hx
        by_cases q0 : isIdB x = true
        · go_wp2_with fail
          refine (risId_any _ x).mono ?_
          rintro e w2 ⟨rfl, rfl⟩
          rw [q0]
          go_wp2_with fail
          go_loopw [6] (fun s wj => ∃ m : Nat, m ≤ k ∧ s = .int .i64 m ∧ (∀ i (hi : i < m) (hi2 : i < ps.length), ps[i] ≠ x) ∧ Below w0.heap.size w0 wj) (fun s _ => k - (intOf s).toNat)
          case atStart => exact ⟨0, by omega, rfl, fun i hi => by omega, HB.out⟩
          case round =>
            obtain ⟨m, hm, rfl, hne, hbj⟩ := hrel
            have HNE := hide hne
            have HBJ := hide hbj
            have hBj := hb0.trans (hbj.mono hsz0)
            clear hne hbj
            by_cases hmk : m < k
            · have e1 := (HBJ.out.cell (p := ⟨w.heap.size, 1, none⟩) hlt0).trans c1
              have e2 := (HBJ.out.cell (p := ⟨b, off + k * 1 + 0, none⟩) hbw).trans (HCL.out k hlt 0 _ rfl)
              have e3 := (HBJ.out.cell (p := ⟨b, off + m * 1 + 0, none⟩) hbw).trans (HCL.out m (by omega) 0 _ rfl)
              simp only [Nat.add_zero, Nat.mul_one] at e2 e3
              rw [HX.out] at e2
              have hml : m < ps.length := by omega
              obtain ⟨y, hy⟩ : ∃ y, ps[m] = y := ⟨_, rfl⟩
              rw [hy] at e3
              have HY := hide hy
              clear hy
              have heq := eql_str 9 y x
              go_wp2_with fail
              refine wp_region_held_drew (S := fun W => W.cell? ⟨w.heap.size, 1, none⟩ = some (.slice (some ⟨b, off, none⟩) ps.length cap) ∧ W.cell? ⟨b, off + k, none⟩ = some (.string (strB x)) ∧ W.cell? ⟨b, off + m, none⟩ = some (.string (strB y))) (by kernel_rfl) (⟨e1, e2, e3⟩) (fun hHeld => ?_)
              refine takeH (i := 0) (v := ?_) rfl (by kernel_rfl) (by kernel_rfl) (by kernel_rfl) (fun _ _ _ h => h) rfl ?_ hHeld ?_
              rotate_left
              · intro w hS; (try dsimp only at hS); obtain ⟨hS0, hS1, hS2⟩ := hS; go_simp; first | done | (with_reducible rfl)
              try simp only [Act.put, List.setIfInBounds_toArray, List.set_cons_zero, List.set_cons_succ]
              refine takeH (i := 1) (v := ?_) rfl (by kernel_rfl) (by kernel_rfl) (by kernel_rfl) (fun _ _ _ h => h) rfl ?_ hHeld ?_
              rotate_left
              · intro w hS; (try dsimp only at hS); obtain ⟨hS0, hS1, hS2⟩ := hS; go_simp; first | done | (with_reducible rfl)
              try simp only [Act.put, List.setIfInBounds_toArray, List.set_cons_zero, List.set_cons_succ]
              refine takeH (i := 2) (v := ?_) rfl (by kernel_rfl) (by kernel_rfl) (by kernel_rfl) (fun _ _ _ h => h) rfl ?_ hHeld ?_
              rotate_left
              · intro w hS; (try dsimp only at hS); obtain ⟨hS0, hS1, hS2⟩ := hS; go_simp; first | done | (with_reducible rfl)
              try simp only [Act.put, List.setIfInBounds_toArray, List.set_cons_zero, List.set_cons_succ]
              refine takeH (i := 3) (v := ?_) rfl (by kernel_rfl) (by kernel_rfl) (by kernel_rfl) (fun _ _ _ h => h) rfl ?_ hHeld ?_
              rotate_left
              · intro w hS; (try dsimp only at hS); obtain ⟨hS0, hS1, hS2⟩ := hS; go_simp; first | done | (with_reducible rfl)
              try simp only [Act.put, List.setIfInBounds_toArray, List.set_cons_zero, List.set_cons_succ]
              refine takeH (i := 4) (v := ?_) rfl (by kernel_rfl) (by kernel_rfl) (by kernel_rfl) (fun _ _ _ h => h) rfl ?_ hHeld ?_
              rotate_left
              · intro w hS; (try dsimp only at hS); obtain ⟨hS0, hS1, hS2⟩ := hS; go_simp; first | done | (with_reducible rfl)
              try simp only [Act.put, List.setIfInBounds_toArray, List.set_cons_zero, List.set_cons_succ]
              refine takeH (i := 5) (v := ?_) rfl (by kernel_rfl) (by kernel_rfl) (by kernel_rfl) (fun _ _ _ h => h) rfl ?_ hHeld ?_
              rotate_left
              · intro w hS; (try dsimp only at hS); obtain ⟨hS0, hS1, hS2⟩ := hS; go_simp; first | done | (with_reducible rfl)
              try simp only [Act.put, List.setIfInBounds_toArray, List.set_cons_zero, List.set_cons_succ]
              refine takeH (i := 6) (v := ?_) rfl (by kernel_rfl) (by kernel_rfl) (by kernel_rfl) (fun _ _ _ h => h) rfl ?_ hHeld ?_
              rotate_left
              · intro w hS; (try dsimp only at hS); obtain ⟨hS0, hS1, hS2⟩ := hS; go_simp; first | done | (with_reducible rfl)
              try simp only [Act.put, List.setIfInBounds_toArray, List.set_cons_zero, List.set_cons_succ]
              refine takeH (i := 7) (v := ?_) rfl (by kernel_rfl) (by kernel_rfl) (by kernel_rfl) (fun _ _ _ h => h) rfl ?_ hHeld ?_
              rotate_left
              · intro w hS; (try dsimp only at hS); obtain ⟨hS0, hS1, hS2⟩ := hS; go_simp; first | done | (with_reducible rfl)
              try simp only [Act.put, List.setIfInBounds_toArray, List.set_cons_zero, List.set_cons_succ]
              refine takeH (i := 8) (v := ?_) rfl (by kernel_rfl) (by kernel_rfl) (by kernel_rfl) (fun _ _ _ h => h) rfl ?_ hHeld ?_
              rotate_left
              · intro w hS; (try dsimp only at hS); obtain ⟨hS0, hS1, hS2⟩ := hS; go_simp; first | done | (with_reducible rfl)
              try simp only [Act.put, List.setIfInBounds_toArray, List.set_cons_zero, List.set_cons_succ]
              refine takeH (i := 9) (v := ?_) rfl (by kernel_rfl) (by kernel_rfl) (by kernel_rfl) (fun _ _ _ h => h) rfl ?_ hHeld ?_
              rotate_left
              · intro w hS; (try dsimp only at hS); obtain ⟨hS0, hS1, hS2⟩ := hS; go_simp; first | done | (with_reducible rfl)
              try simp only [Act.put, List.setIfInBounds_toArray, List.set_cons_zero, List.set_cons_succ]
              refine takeH (i := 10) (v := ?_) rfl (by kernel_rfl) (by kernel_rfl) (by kernel_rfl) (fun _ _ _ h => h) rfl ?_ hHeld ?_
              rotate_left
              · intro w hS; (try dsimp only at hS); obtain ⟨hS0, hS1, hS2⟩ := hS; go_simp; first | done | (with_reducible rfl)
              try simp only [Act.put, List.setIfInBounds_toArray, List.set_cons_zero, List.set_cons_succ]
              refine wpAnyH_done (by kernel_rfl) ?_ _
              clear hHeld
              by_cases hxy : y = x
              · have hb1 : (y == x) = true := by simpa using hxy
                rw [hb1]
                have hnn : decide ((once [] ps).length = ps.length) = false := by
                  rw [Bool.eq_false_iff]
                  intro g
                  refine nodup_no hlt hmk ?_ ((once_nodup ps).1 g)
                  rw [HY.out, HX.out, hxy]
                have HNN := hide hnn
                clear hnn hxy
                go_wp2
                go_ret
                exact ⟨ret_bool (by rw [HNN.out]; simp), hBj.drew⟩
              · have hb1 : (y == x) = false := by simpa using hxy
                rw [hb1]
                have HXY := hide hxy
                clear hxy
                go_wp2
                go_roundw
                case rel =>
                  refine ⟨m + 1, by omega, by go_num, fun i hi hi2 => ?_, HBJ.out.drew⟩
                  by_cases him : i < m
                  · exact HNE.out i him hi2
                  · obtain rfl : i = m := by omega
                    rw [HY.out]
                    exact HXY.out
                case measure => simp [intOf]; omega
            · obtain rfl : m = k := by omega
              have hnl : ¬ ((m : Int) < (m : Int)) := by omega
              go_wp2
              go_roundw
              case rel =>
                refine ⟨m + 1, by omega, by go_num, HST.out q0, nodup_snoc hlt HN.out (fun i hi => ?_), HBJ.out⟩
                rw [HX.out]
                exact HNE.out i hi (by omega)
              case measure => simp [intOf]; omega
        · have q0 := Bool.eq_false_iff.2 q0
          go_wp2_with fail
          refine (risId_any _ x).mono ?_
          rintro e w2 ⟨rfl, rfl⟩
          rw [q0]
          go_wp2
          go_ret
          exact ⟨ret_bool (by rw [← HNO.out q0]; rfl), hBr⟩
      · obtain rfl : k = ps.length := by omega
        have ht := HA.out
        have hn := HN.out
        rw [List.take_length] at ht hn
        have hn2 := (once_nodup ps).2 hn
        have HF := hide (show true = (ps.all isIdB && decide ((once [] ps).length = ps.length)) from by rw [ht, hn2]; rfl)
        clear ht hn hn2
        go_wp2
        go_ret
        exact ⟨ret_bool (by first | rfl | exact HF.out), hBr⟩
end Go.Proofs.YtdbmngbinhemeabGreatDoor
