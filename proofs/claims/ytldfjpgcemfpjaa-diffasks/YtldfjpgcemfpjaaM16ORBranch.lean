/-
  A branch, looked at and made by the reference. Conditions: its links lie there.
-/
import Derived.Test.YtldfjpgcemfpjaaM15ORLeaf
namespace Go.Proofs.Ytldfjpgcemfpjaa
open Go.RowKit

def rlinkOk (p : Link) : Bool := isKeyB p.1 && isIdB p.2.1 && decide (1 ≤ p.2.2) && decide (p.2.2 ≤ 4096)
theorem rlinkOk_no {x : Link} (h : isKeyB x.1 = false ∨ isIdB x.2.1 = false ∨ x.2.2 < 1 ∨ 4096 < x.2.2) : rlinkOk x = false := by
  unfold rlinkOk
  rcases h with h | h | h | h
  · rw [h]; rfl
  · rw [h]; simp
  · rw [decide_eq_false (by omega : ¬ 1 ≤ x.2.2)]; simp
  · rw [decide_eq_false (by omega : ¬ x.2.2 ≤ 4096)]; simp
theorem branchOk_alike (f : Branch) (h : levelB f.1 = true) (h1 : 1 ≤ f.2.length) (h2 : f.2.length ≤ 64) : branchOk ltB f = (f.2.all rlinkOk && rise ltB (f.2.map (·.1)) && decide ((f.2.map (·.2.2)).sum ≤ 4096)) := by
  unfold branchOk
  rw [within_alike _ _ (by omega), h, decide_eq_true (show 1 ≤ f.2.length ∧ f.2.length ≤ 64 from ⟨h1, h2⟩)]
  rw [Bool.eq_iff_iff]
  simp only [rlinkOk, Bool.and_eq_true, List.all_eq_true, decide_eq_true_eq, List.mem_map, forall_exists_index, and_imp]
  constructor
  · rintro ⟨⟨⟨_, g1⟩, g2⟩, g3, g4⟩
    exact ⟨⟨fun x hx => ⟨⟨g1 x hx, (g3 _ x hx rfl).1⟩, (g3 _ x hx rfl).2⟩, g2⟩, g4⟩
  · rintro ⟨⟨g1, g2⟩, g4⟩
    exact ⟨⟨⟨by simp, fun x hx => (g1 x hx).1.1⟩, g2⟩, fun n x hx e => by subst e; exact ⟨(g1 x hx).1.2, (g1 x hx).2⟩, g4⟩
theorem sum_stepL (xs : List Link) (k : Nat) (h : k < xs.length) : ((xs.take (k + 1)).map (·.2.2)).sum = ((xs.take k).map (·.2.2)).sum + xs[k].2.2 := by
  rw [List.take_succ_eq_append_getElem h, List.map_append, List.sum_append]
  simp only [List.map_cons, List.map_nil, List.sum_cons, List.sum_nil, Int.add_zero]
theorem sum_smallL (xs : List Link) (k : Nat) (hk : k ≤ 64) (h : (xs.take k).all rlinkOk = true) : 0 ≤ ((xs.take k).map (·.2.2)).sum ∧ ((xs.take k).map (·.2.2)).sum ≤ 4096 * 64 := by
  have key : ∀ ys : List Link, ys.all rlinkOk = true → 0 ≤ (ys.map (·.2.2)).sum ∧ (ys.map (·.2.2)).sum ≤ 4096 * ys.length := by
    intro ys
    induction ys with
    | nil => intro _; simp
    | cons y ys ih =>
      intro g
      simp only [List.all_cons, Bool.and_eq_true] at g
      have g1 := ih g.2
      have g2 := g.1
      unfold rlinkOk at g2
      simp only [Bool.and_eq_true, decide_eq_true_eq] at g2
      simp only [List.map_cons, List.sum_cons, List.length_cons]
      omega
  have h1 := key _ h
  have h2 : (xs.take k).length ≤ k := by rw [List.length_take]; omega
  omega
set_option maxRecDepth 20000 in
set_option maxHeartbeats 3200000 in
theorem rbranchRight_any (w : World) (f : Branch) (v : Value) (hv : Ls w.heap.size w 3 linkC v f.2) :
    Calls Try.prog 57 #[.agg #[.int .i64 f.1, v]] w fun e w' => e = .returned (.bool (branchOk ltB f)) ∧ Below w.heap.size w w' := by
  have hb0 : Below w.heap.size w (w.alloc (.cells #[.int .i64 f.1, v] 99)) := (Below.refl _ _).alloc (Nat.le_refl _) _
  have x0 := heap_last w (.cells #[.int .i64 f.1, v] 99) _ rfl
  have hv0 := hv.keep hb0
  obtain ⟨lv, xs⟩ := f
  simp only at *
  obtain ⟨ao, cap, rfl, g1, g2, h4⟩ := hv0
  unfold maxLen at g2
  have c0 := rc (i := 0) x0 rfl
  have c1 := rc (i := 1) x0 rfl
  have hlt0 := lt_of_heap x0
  have hsz0 := hb0.size
  clear hv
  generalize hw0 : w.alloc (.cells #[.int .i64 lv, .slice ao xs.length cap] 99) = w0 at *
  have HW := hide hw0
  clear hw0
  by_cases ha : lv < 1
  · have hok : branchOk ltB (lv, xs) = false := by unfold branchOk levelB; simp; omega
    rw [hok]
    go_enter Try.func57, Try.ntmps57
    go_wp2_with fail
    try rw [HW.out]
    go_wp2
    go_ret
    exact ⟨rfl, hb0⟩
  by_cases hb : 20 < lv
  · have hok : branchOk ltB (lv, xs) = false := by unfold branchOk levelB; simp; omega
    rw [hok]
    go_enter Try.func57, Try.ntmps57
    go_wp2_with fail
    try rw [HW.out]
    go_wp2
    go_ret
    exact ⟨rfl, hb0⟩
  by_cases hc : xs.length < 1
  · have hok : branchOk ltB (lv, xs) = false := by unfold branchOk levelB; simp; omega
    rw [hok]
    go_enter Try.func57, Try.ntmps57
    go_wp2_with fail
    try rw [HW.out]
    go_wp2
    go_ret
    exact ⟨rfl, hb0⟩
  by_cases hd : 64 < xs.length
  · have hok : branchOk ltB (lv, xs) = false := by unfold branchOk levelB; simp; omega
    rw [hok]
    go_enter Try.func57, Try.ntmps57
    go_wp2_with fail
    try rw [HW.out]
    go_wp2
    go_ret
    exact ⟨rfl, hb0⟩
  have hok := branchOk_alike (lv, xs) (by unfold levelB; simp; omega) (by simp only; omega) (by simp only; omega)
  simp only at hok
  rw [hok]
  clear hok
  go_enter Try.func57, Try.ntmps57
  go_wp2_with fail
  try rw [HW.out]
  go_wp2_with fail
  go_loopw [3, 4] (fun s t wr => ∃ k : Nat, k ≤ xs.length ∧ t = .int .i64 k ∧ s = .int .i64 ((xs.take k).map (·.2.2)).sum ∧ (xs.take k).all rlinkOk = true ∧ rise ltB (xs.map (·.1)) = rise ltB ((xs.drop (k - 1)).map (·.1)) ∧ Below w0.heap.size w0 wr)
    (fun _ t _ => xs.length - (intOf t).toNat)
  case atStart => exact ⟨0, by omega, rfl, by simp, by simp, by simp, Below.refl _ _⟩
  case round =>
    obtain ⟨k, hk, rfl, rfl, hall, hri, hbr⟩ := hrel
    have HA := hide hall
    have HR := hide hri
    have c1 := (hbr.cell (p := ⟨w.heap.size, 1, none⟩) hlt0).trans c1
    have hBr := hb0.trans (hbr.mono hsz0)
    have HB := hide hbr
    clear hall hri
    by_cases hlt : k < xs.length
    · obtain ⟨b, off, rfl, hbB, hcl⟩ := h4 (by rintro rfl; simp at hlt)
      have hst := all_step rlinkOk xs k hlt HA.out
      have hno := all_false rlinkOk xs k hlt
      have hsm := sum_smallL xs k (by omega) HA.out
      have hss := sum_stepL xs k hlt
      have k0 := (HB.out.cell (p := ⟨b, off + k * 3 + 0, none⟩) (Nat.lt_of_lt_of_le hbB hsz0)).trans (hcl k hlt 0 _ rfl)
      have k1 := (HB.out.cell (p := ⟨b, off + k * 3 + 1, none⟩) (Nat.lt_of_lt_of_le hbB hsz0)).trans (hcl k hlt 1 _ rfl)
      have k2 := (HB.out.cell (p := ⟨b, off + k * 3 + 2, none⟩) (Nat.lt_of_lt_of_le hbB hsz0)).trans (hcl k hlt 2 _ rfl)
      simp only [Nat.add_zero] at k0
      have HST := hide hst
      have HNO := hide hno
      have SS := hide hss
      clear hst hno hss hbr
      cases k with
      | zero =>
        simp only [Nat.zero_mul, Nat.add_zero] at k0 k1 k2
        generalize xs[0] = x at *
        clear hcl h4
        have hba : Below wr.heap.size wr (wr.alloc (.cells #[.string (strB x.1), .string (strB x.2.1), .int .i64 x.2.2] 81)) := (Below.refl _ _).alloc (Nat.le_refl _) _
        have za := heap_last wr (.cells #[.string (strB x.1), .string (strB x.2.1), .int .i64 x.2.2] 81) _ rfl
        have a0 := rc (i := 0) za rfl
        have a1 := rc (i := 1) za rfl
        have a2 := rc (i := 2) za rfl
        have HBa := hide (HB.out.trans (hba.mono HB.out.size))
        have hBa := hBr.trans (hba.mono hBr.size)
        have c1 := (hba.cell (p := ⟨w.heap.size, 1, none⟩) (Nat.lt_of_lt_of_le hlt0 HB.out.size)).trans c1
        clear hba za
        by_cases q0 : isKeyB x.1 = true
        · by_cases q1 : isIdB x.2.1 = true
          · by_cases q2 : x.2.2 < 1
            · have hf := rlinkOk_no (.inr (.inr (.inl q2)))
              go_wp2_with fail
              generalize hwa : wr.alloc (.cells #[.string (strB x.1), .string (strB x.2.1), .int .i64 x.2.2] 81) = wa at *
              generalize hlk : wr.heap.size = lk at *
              clear hwa hlk
              refine (risKey_any _ x.1).mono ?_
              rintro e w2 ⟨rfl, rfl⟩
              rw [q0]
              go_wp2_with fail
              refine (risId_any _ x.2.1).mono ?_
              rintro e w3 ⟨rfl, rfl⟩
              rw [q1]
              go_wp2_with fail
              refine wp_region_held_drew (S := fun W => W.cell? ⟨lk, 0, none⟩ = some (.string (strB x.1)) ∧ W.cell? ⟨lk, 2, none⟩ = some (.int .i64 x.2.2)) (by kernel_rfl) (⟨a0, a2⟩) (fun hHeld => ?_)
              refine takeK 0 hHeld ?_
              refine takeK 1 hHeld ?_
              refine takeK 2 hHeld ?_
              refine takeK 3 hHeld ?_
              refine takeK 4 hHeld ?_
              refine takeK 5 hHeld ?_
              refine takeK 6 hHeld ?_
              refine takeK 7 hHeld ?_
              refine takeK 8 hHeld ?_
              refine takeK 9 hHeld ?_
              refine takeK 10 hHeld ?_
              refine takeK 11 hHeld ?_
              refine skipK 12 hHeld ?_
              refine skipK 13 hHeld ?_
              refine skipK 14 hHeld ?_
              refine takeK 15 hHeld ?_
              refine takeK 16 hHeld ?_
              refine skipK 17 hHeld ?_
              refine skipK 18 hHeld ?_
              refine skipK 19 hHeld ?_
              refine skipK 20 hHeld ?_
              refine skipK 21 hHeld ?_
              refine skipK 22 hHeld ?_
              refine skipK 23 hHeld ?_
              refine skipK 24 hHeld ?_
              refine skipK 25 hHeld ?_
              refine skipK 26 hHeld ?_
              refine skipK 27 hHeld ?_
              refine skipK 28 hHeld ?_
              refine skipK 29 hHeld ?_
              refine skipK 30 hHeld ?_
              refine takeK 31 hHeld ?_
              refine wpAnyH_done (by kernel_rfl) ?_ _
              clear hHeld
              go_wp2
              go_ret
              exact ⟨ret_bool (by rw [← HNO.out hf]; rfl), hBa.drew⟩
            · have q2' : decide (x.2.2 < 1) = false := decide_eq_false q2
              by_cases q3 : 4096 < x.2.2
              · have hf := rlinkOk_no (.inr (.inr (.inr q3)))
                go_wp2_with fail
                generalize hwa : wr.alloc (.cells #[.string (strB x.1), .string (strB x.2.1), .int .i64 x.2.2] 81) = wa at *
                generalize hlk : wr.heap.size = lk at *
                clear hwa hlk
                refine (risKey_any _ x.1).mono ?_
                rintro e w2 ⟨rfl, rfl⟩
                rw [q0]
                go_wp2_with fail
                refine (risId_any _ x.2.1).mono ?_
                rintro e w3 ⟨rfl, rfl⟩
                rw [q1]
                go_wp2_with fail
                refine wp_region_held_drew (S := fun W => W.cell? ⟨lk, 0, none⟩ = some (.string (strB x.1)) ∧ W.cell? ⟨lk, 2, none⟩ = some (.int .i64 x.2.2)) (by kernel_rfl) (⟨a0, a2⟩) (fun hHeld => ?_)
                refine takeK 0 hHeld ?_
                refine takeK 1 hHeld ?_
                refine takeK 2 hHeld ?_
                refine takeK 3 hHeld ?_
                refine takeK 4 hHeld ?_
                refine takeK 5 hHeld ?_
                refine takeK 6 hHeld ?_
                refine takeK 7 hHeld ?_
                refine takeK 8 hHeld ?_
                refine takeK 9 hHeld ?_
                refine takeK 10 hHeld ?_
                refine takeK 11 hHeld ?_
                refine takeK 12 hHeld ?_
                refine takeK 13 hHeld ?_
                refine takeK 14 hHeld ?_
                refine takeK 15 hHeld ?_
                refine takeK 16 hHeld ?_
                refine skipK 17 hHeld ?_
                refine skipK 18 hHeld ?_
                refine skipK 19 hHeld ?_
                refine skipK 20 hHeld ?_
                refine skipK 21 hHeld ?_
                refine skipK 22 hHeld ?_
                refine skipK 23 hHeld ?_
                refine skipK 24 hHeld ?_
                refine skipK 25 hHeld ?_
                refine skipK 26 hHeld ?_
                refine skipK 27 hHeld ?_
                refine skipK 28 hHeld ?_
                refine skipK 29 hHeld ?_
                refine skipK 30 hHeld ?_
                refine takeK 31 hHeld ?_
                refine wpAnyH_done (by kernel_rfl) ?_ _
                clear hHeld
                go_wp2
                go_ret
                exact ⟨ret_bool (by rw [← HNO.out hf]; rfl), hBa.drew⟩
              · have q3' : decide (4096 < x.2.2) = false := decide_eq_false q3
                have hf : rlinkOk x = true := by unfold rlinkOk; rw [q0, q1, decide_eq_true (by omega : 1 ≤ x.2.2), decide_eq_true (by omega : x.2.2 ≤ 4096)]; rfl
                have hwr : IntKind.i64.wrap (((xs.take 0).map (·.2.2)).sum + x.2.2) = ((xs.take 0).map (·.2.2)).sum + x.2.2 := by rw [IntKind.wrap_i64]; omega
                generalize ((xs.take 0).map (·.2.2)).sum = Sm at *
                go_wp2_with fail
                generalize hwa : wr.alloc (.cells #[.string (strB x.1), .string (strB x.2.1), .int .i64 x.2.2] 81) = wa at *
                generalize hlk : wr.heap.size = lk at *
                clear hwa hlk
                refine (risKey_any _ x.1).mono ?_
                rintro e w2 ⟨rfl, rfl⟩
                rw [q0]
                go_wp2_with fail
                refine (risId_any _ x.2.1).mono ?_
                rintro e w3 ⟨rfl, rfl⟩
                rw [q1]
                go_wp2_with fail
                refine wp_region_held_drew (S := fun W => W.cell? ⟨lk, 0, none⟩ = some (.string (strB x.1)) ∧ W.cell? ⟨lk, 2, none⟩ = some (.int .i64 x.2.2)) (by kernel_rfl) (⟨a0, a2⟩) (fun hHeld => ?_)
                refine takeK 0 hHeld ?_
                refine takeK 1 hHeld ?_
                refine takeK 2 hHeld ?_
                refine takeK 3 hHeld ?_
                refine takeK 4 hHeld ?_
                refine takeK 5 hHeld ?_
                refine takeK 6 hHeld ?_
                refine takeK 7 hHeld ?_
                refine takeK 8 hHeld ?_
                refine takeK 9 hHeld ?_
                refine takeK 10 hHeld ?_
                refine takeK 11 hHeld ?_
                refine takeK 12 hHeld ?_
                refine takeK 13 hHeld ?_
                refine takeK 14 hHeld ?_
                refine takeK 15 hHeld ?_
                refine takeK 16 hHeld ?_
                refine takeK 17 hHeld ?_
                refine takeK 18 hHeld ?_
                refine takeK 19 hHeld ?_
                refine skipK 20 hHeld ?_
                refine skipK 21 hHeld ?_
                refine skipK 22 hHeld ?_
                refine skipK 23 hHeld ?_
                refine skipK 24 hHeld ?_
                refine skipK 25 hHeld ?_
                refine skipK 26 hHeld ?_
                refine skipK 27 hHeld ?_
                refine skipK 28 hHeld ?_
                refine skipK 29 hHeld ?_
                refine takeK 30 hHeld ?_
                refine takeK 31 hHeld ?_
                refine wpAnyH_done (by kernel_rfl) ?_ _
                clear hHeld
                have a2 : w3.drew.cell? ⟨lk, 2, none⟩ = some (.int .i64 x.2.2) := a2
                go_wp2
                go_roundw
                case rel => exact ⟨1, by omega, by go_num, by rw [SS.out], HST.out hf, HR.out, HBa.out.drew⟩
                case measure => simp [intOf]; omega
          · have q1 := Bool.eq_false_iff.2 q1
            have hf := rlinkOk_no (.inr (.inl q1))
            go_wp2_with fail
            generalize hwa : wr.alloc (.cells #[.string (strB x.1), .string (strB x.2.1), .int .i64 x.2.2] 81) = wa at *
            generalize hlk : wr.heap.size = lk at *
            clear hwa hlk
            refine (risKey_any _ x.1).mono ?_
            rintro e w2 ⟨rfl, rfl⟩
            rw [q0]
            go_wp2_with fail
            refine (risId_any _ x.2.1).mono ?_
            rintro e w3 ⟨rfl, rfl⟩
            rw [q1]
            go_wp2_with fail
            refine wp_region_held_drew (S := fun W => W.cell? ⟨lk, 0, none⟩ = some (.string (strB x.1)) ∧ W.cell? ⟨lk, 2, none⟩ = some (.int .i64 x.2.2)) (by kernel_rfl) (⟨a0, a2⟩) (fun hHeld => ?_)
            refine takeK 0 hHeld ?_
            refine takeK 1 hHeld ?_
            refine takeK 2 hHeld ?_
            refine takeK 3 hHeld ?_
            refine takeK 4 hHeld ?_
            refine takeK 5 hHeld ?_
            refine takeK 6 hHeld ?_
            refine skipK 7 hHeld ?_
            refine skipK 8 hHeld ?_
            refine skipK 9 hHeld ?_
            refine takeK 10 hHeld ?_
            refine takeK 11 hHeld ?_
            refine skipK 12 hHeld ?_
            refine skipK 13 hHeld ?_
            refine skipK 14 hHeld ?_
            refine takeK 15 hHeld ?_
            refine takeK 16 hHeld ?_
            refine skipK 17 hHeld ?_
            refine skipK 18 hHeld ?_
            refine skipK 19 hHeld ?_
            refine skipK 20 hHeld ?_
            refine skipK 21 hHeld ?_
            refine skipK 22 hHeld ?_
            refine skipK 23 hHeld ?_
            refine skipK 24 hHeld ?_
            refine skipK 25 hHeld ?_
            refine skipK 26 hHeld ?_
            refine skipK 27 hHeld ?_
            refine skipK 28 hHeld ?_
            refine skipK 29 hHeld ?_
            refine skipK 30 hHeld ?_
            refine takeK 31 hHeld ?_
            refine wpAnyH_done (by kernel_rfl) ?_ _
            clear hHeld
            go_wp2
            go_ret
            exact ⟨ret_bool (by rw [← HNO.out hf]; rfl), hBa.drew⟩
        · have q0 := Bool.eq_false_iff.2 q0
          have hf := rlinkOk_no (.inl q0)
          obtain ⟨qi, hqi⟩ : ∃ q, isIdB x.2.1 = q := ⟨_, rfl⟩
          go_wp2_with fail
          generalize hwa : wr.alloc (.cells #[.string (strB x.1), .string (strB x.2.1), .int .i64 x.2.2] 81) = wa at *
          generalize hlk : wr.heap.size = lk at *
          clear hwa hlk
          refine (risKey_any _ x.1).mono ?_
          rintro e w2 ⟨rfl, rfl⟩
          rw [q0]
          go_wp2_with fail
          refine (risId_any _ x.2.1).mono ?_
          rintro e w3 ⟨rfl, rfl⟩
          rw [hqi]
          go_wp2_with fail
          refine wp_region_held_drew (S := fun W => W.cell? ⟨lk, 0, none⟩ = some (.string (strB x.1)) ∧ W.cell? ⟨lk, 2, none⟩ = some (.int .i64 x.2.2)) (by kernel_rfl) (⟨a0, a2⟩) (fun hHeld => ?_)
          refine takeK 0 hHeld ?_
          refine takeK 1 hHeld ?_
          refine takeK 2 hHeld ?_
          refine skipK 3 hHeld ?_
          refine skipK 4 hHeld ?_
          refine takeK 5 hHeld ?_
          refine takeK 6 hHeld ?_
          refine skipK 7 hHeld ?_
          refine skipK 8 hHeld ?_
          refine skipK 9 hHeld ?_
          refine takeK 10 hHeld ?_
          refine takeK 11 hHeld ?_
          refine skipK 12 hHeld ?_
          refine skipK 13 hHeld ?_
          refine skipK 14 hHeld ?_
          refine takeK 15 hHeld ?_
          refine takeK 16 hHeld ?_
          refine skipK 17 hHeld ?_
          refine skipK 18 hHeld ?_
          refine skipK 19 hHeld ?_
          refine skipK 20 hHeld ?_
          refine skipK 21 hHeld ?_
          refine skipK 22 hHeld ?_
          refine skipK 23 hHeld ?_
          refine skipK 24 hHeld ?_
          refine skipK 25 hHeld ?_
          refine skipK 26 hHeld ?_
          refine skipK 27 hHeld ?_
          refine skipK 28 hHeld ?_
          refine skipK 29 hHeld ?_
          refine skipK 30 hHeld ?_
          refine takeK 31 hHeld ?_
          refine wpAnyH_done (by kernel_rfl) ?_ _
          clear hHeld
          go_wp2
          go_ret
          exact ⟨ret_bool (by rw [← HNO.out hf]; rfl), hBa.drew⟩
      | succ m =>
        have hnx := rise_next (fun p : Link => p.1) xs m hlt
        have HNX := hide hnx
        clear hnx
        have d0 := (HB.out.cell (p := ⟨b, off + m * 3 + 0, none⟩) (Nat.lt_of_lt_of_le hbB hsz0)).trans (hcl m (by omega) 0 _ rfl)
        simp only [Nat.add_zero] at d0
        have hm0 : (0 : Int) ≤ (m : Int) + 1 := by omega
        have hw : IntKind.i64.wrap (m : Int) = (m : Int) := by rw [IntKind.wrap_i64]; omega
        have hk1' : ((m + 1 : Nat) : Int) - 1 = (m : Int) := by omega
        have hml : m < xs.length := by omega
        have hpos : (0 : Int) < (m : Int) + 1 := by omega
        generalize hx : xs[m + 1] = x at *
        generalize hy : xs[m] = y at *
        have hge := geq_str 9 y.1 x.1
        have hdb := Nat.lt_of_lt_of_le (Nat.lt_of_lt_of_le hbB hsz0) HB.out.size
        clear hcl h4 hx hy
        have hba : Below wr.heap.size wr (wr.alloc (.cells #[.string (strB x.1), .string (strB x.2.1), .int .i64 x.2.2] 81)) := (Below.refl _ _).alloc (Nat.le_refl _) _
        have za := heap_last wr (.cells #[.string (strB x.1), .string (strB x.2.1), .int .i64 x.2.2] 81) _ rfl
        have a0 := rc (i := 0) za rfl
        have a1 := rc (i := 1) za rfl
        have a2 := rc (i := 2) za rfl
        have HBa := hide (HB.out.trans (hba.mono HB.out.size))
        have hBa := hBr.trans (hba.mono hBr.size)
        have c1 := (hba.cell (p := ⟨w.heap.size, 1, none⟩) (Nat.lt_of_lt_of_le hlt0 HB.out.size)).trans c1
        have d0 := (hba.cell (p := ⟨b, off + m * 3, none⟩) hdb).trans d0
        clear hba za
        by_cases q0 : isKeyB x.1 = true
        · by_cases q1 : isIdB x.2.1 = true
          · by_cases q2 : x.2.2 < 1
            · have hf := rlinkOk_no (.inr (.inr (.inl q2)))
              go_wp2_with fail
              generalize hwa : wr.alloc (.cells #[.string (strB x.1), .string (strB x.2.1), .int .i64 x.2.2] 81) = wa at *
              generalize hlk : wr.heap.size = lk at *
              clear hwa hlk
              refine (risKey_any _ x.1).mono ?_
              rintro e w2 ⟨rfl, rfl⟩
              rw [q0]
              go_wp2_with fail
              refine (risId_any _ x.2.1).mono ?_
              rintro e w3 ⟨rfl, rfl⟩
              rw [q1]
              go_wp2_with fail
              refine wp_region_held_drew (S := fun W => W.cell? ⟨lk, 0, none⟩ = some (.string (strB x.1)) ∧ W.cell? ⟨lk, 2, none⟩ = some (.int .i64 x.2.2) ∧ W.cell? ⟨w.heap.size, 1, none⟩ = some (.slice (some ⟨b, off, none⟩) xs.length cap) ∧ W.cell? ⟨b, off + m * 3, none⟩ = some (.string (strB y.1))) (by kernel_rfl) (⟨a0, a2, c1, d0⟩) (fun hHeld => ?_)
              refine takeK 0 hHeld ?_
              refine takeK 1 hHeld ?_
              refine takeK 2 hHeld ?_
              refine takeK 3 hHeld ?_
              refine takeK 4 hHeld ?_
              refine takeK 5 hHeld ?_
              refine takeK 6 hHeld ?_
              refine takeK 7 hHeld ?_
              refine takeK 8 hHeld ?_
              refine takeK 9 hHeld ?_
              refine takeK 10 hHeld ?_
              refine takeK 11 hHeld ?_
              refine skipK 12 hHeld ?_
              refine skipK 13 hHeld ?_
              refine skipK 14 hHeld ?_
              refine takeK 15 hHeld ?_
              refine takeK 16 hHeld ?_
              refine skipK 17 hHeld ?_
              refine skipK 18 hHeld ?_
              refine skipK 19 hHeld ?_
              refine skipK 20 hHeld ?_
              refine skipK 21 hHeld ?_
              refine skipK 22 hHeld ?_
              refine skipK 23 hHeld ?_
              refine skipK 24 hHeld ?_
              refine skipK 25 hHeld ?_
              refine skipK 26 hHeld ?_
              refine skipK 27 hHeld ?_
              refine skipK 28 hHeld ?_
              refine skipK 29 hHeld ?_
              refine skipK 30 hHeld ?_
              refine takeK 31 hHeld ?_
              refine wpAnyH_done (by kernel_rfl) ?_ _
              clear hHeld
              go_wp2
              go_ret
              exact ⟨ret_bool (by rw [← HNO.out hf]; rfl), hBa.drew⟩
            · have q2' : decide (x.2.2 < 1) = false := decide_eq_false q2
              by_cases q3 : 4096 < x.2.2
              · have hf := rlinkOk_no (.inr (.inr (.inr q3)))
                go_wp2_with fail
                generalize hwa : wr.alloc (.cells #[.string (strB x.1), .string (strB x.2.1), .int .i64 x.2.2] 81) = wa at *
                generalize hlk : wr.heap.size = lk at *
                clear hwa hlk
                refine (risKey_any _ x.1).mono ?_
                rintro e w2 ⟨rfl, rfl⟩
                rw [q0]
                go_wp2_with fail
                refine (risId_any _ x.2.1).mono ?_
                rintro e w3 ⟨rfl, rfl⟩
                rw [q1]
                go_wp2_with fail
                refine wp_region_held_drew (S := fun W => W.cell? ⟨lk, 0, none⟩ = some (.string (strB x.1)) ∧ W.cell? ⟨lk, 2, none⟩ = some (.int .i64 x.2.2) ∧ W.cell? ⟨w.heap.size, 1, none⟩ = some (.slice (some ⟨b, off, none⟩) xs.length cap) ∧ W.cell? ⟨b, off + m * 3, none⟩ = some (.string (strB y.1))) (by kernel_rfl) (⟨a0, a2, c1, d0⟩) (fun hHeld => ?_)
                refine takeK 0 hHeld ?_
                refine takeK 1 hHeld ?_
                refine takeK 2 hHeld ?_
                refine takeK 3 hHeld ?_
                refine takeK 4 hHeld ?_
                refine takeK 5 hHeld ?_
                refine takeK 6 hHeld ?_
                refine takeK 7 hHeld ?_
                refine takeK 8 hHeld ?_
                refine takeK 9 hHeld ?_
                refine takeK 10 hHeld ?_
                refine takeK 11 hHeld ?_
                refine takeK 12 hHeld ?_
                refine takeK 13 hHeld ?_
                refine takeK 14 hHeld ?_
                refine takeK 15 hHeld ?_
                refine takeK 16 hHeld ?_
                refine skipK 17 hHeld ?_
                refine skipK 18 hHeld ?_
                refine skipK 19 hHeld ?_
                refine skipK 20 hHeld ?_
                refine skipK 21 hHeld ?_
                refine skipK 22 hHeld ?_
                refine skipK 23 hHeld ?_
                refine skipK 24 hHeld ?_
                refine skipK 25 hHeld ?_
                refine skipK 26 hHeld ?_
                refine skipK 27 hHeld ?_
                refine skipK 28 hHeld ?_
                refine skipK 29 hHeld ?_
                refine skipK 30 hHeld ?_
                refine takeK 31 hHeld ?_
                refine wpAnyH_done (by kernel_rfl) ?_ _
                clear hHeld
                go_wp2
                go_ret
                exact ⟨ret_bool (by rw [← HNO.out hf]; rfl), hBa.drew⟩
              · have q3' : decide (4096 < x.2.2) = false := decide_eq_false q3
                have hf : rlinkOk x = true := by unfold rlinkOk; rw [q0, q1, decide_eq_true (by omega : 1 ≤ x.2.2), decide_eq_true (by omega : x.2.2 ≤ 4096)]; rfl
                have hwr : IntKind.i64.wrap (((xs.take (m + 1)).map (·.2.2)).sum + x.2.2) = ((xs.take (m + 1)).map (·.2.2)).sum + x.2.2 := by rw [IntKind.wrap_i64]; omega
                generalize ((xs.take (m + 1)).map (·.2.2)).sum = Sm at *
                go_wp2_with fail
                generalize hwa : wr.alloc (.cells #[.string (strB x.1), .string (strB x.2.1), .int .i64 x.2.2] 81) = wa at *
                generalize hlk : wr.heap.size = lk at *
                clear hwa hlk
                refine (risKey_any _ x.1).mono ?_
                rintro e w2 ⟨rfl, rfl⟩
                rw [q0]
                go_wp2_with fail
                refine (risId_any _ x.2.1).mono ?_
                rintro e w3 ⟨rfl, rfl⟩
                rw [q1]
                go_wp2_with fail
                refine wp_region_held_drew (S := fun W => W.cell? ⟨lk, 0, none⟩ = some (.string (strB x.1)) ∧ W.cell? ⟨lk, 2, none⟩ = some (.int .i64 x.2.2) ∧ W.cell? ⟨w.heap.size, 1, none⟩ = some (.slice (some ⟨b, off, none⟩) xs.length cap) ∧ W.cell? ⟨b, off + m * 3, none⟩ = some (.string (strB y.1))) (by kernel_rfl) (⟨a0, a2, c1, d0⟩) (fun hHeld => ?_)
                refine takeK 0 hHeld ?_
                refine takeK 1 hHeld ?_
                refine takeK 2 hHeld ?_
                refine takeK 3 hHeld ?_
                refine takeK 4 hHeld ?_
                refine takeK 5 hHeld ?_
                refine takeK 6 hHeld ?_
                refine takeK 7 hHeld ?_
                refine takeK 8 hHeld ?_
                refine takeK 9 hHeld ?_
                refine takeK 10 hHeld ?_
                refine takeK 11 hHeld ?_
                refine takeK 12 hHeld ?_
                refine takeK 13 hHeld ?_
                refine takeK 14 hHeld ?_
                refine takeK 15 hHeld ?_
                refine takeK 16 hHeld ?_
                refine takeK 17 hHeld ?_
                refine takeK 18 hHeld ?_
                refine takeK 19 hHeld ?_
                refine takeK 20 hHeld ?_
                refine takeK 21 hHeld ?_
                refine takeK 22 hHeld ?_
                refine takeK 23 hHeld ?_
                refine takeK 24 hHeld ?_
                refine takeK 25 hHeld ?_
                refine takeK 26 hHeld ?_
                refine takeK 27 hHeld ?_
                refine takeK 28 hHeld ?_
                refine takeK 29 hHeld ?_
                refine takeK 30 hHeld ?_
                refine takeK 31 hHeld ?_
                refine wpAnyH_done (by kernel_rfl) ?_ _
                clear hHeld
                have a2 : w3.drew.cell? ⟨lk, 2, none⟩ = some (.int .i64 x.2.2) := a2
                by_cases hl : ltB y.1 x.1 = true
                · rw [hl]
                  go_wp2
                  go_roundw
                  case rel =>
                    refine ⟨m + 1 + 1, by omega, by go_num, by rw [SS.out], HST.out hf, ?_, HBa.out.drew⟩
                    have h1 := HR.out
                    rw [Nat.add_sub_cancel] at h1 ⊢
                    rw [h1, HNX.out, hl]
                    rfl
                  case measure => simp [intOf]; omega
                · have hl := Bool.eq_false_iff.2 hl
                  rw [hl]
                  go_wp2
                  go_ret
                  have h1 := HR.out
                  rw [Nat.add_sub_cancel, HNX.out, hl] at h1
                  exact ⟨ret_bool (by rw [h1]; simp), hBa.drew⟩
          · have q1 := Bool.eq_false_iff.2 q1
            have hf := rlinkOk_no (.inr (.inl q1))
            go_wp2_with fail
            generalize hwa : wr.alloc (.cells #[.string (strB x.1), .string (strB x.2.1), .int .i64 x.2.2] 81) = wa at *
            generalize hlk : wr.heap.size = lk at *
            clear hwa hlk
            refine (risKey_any _ x.1).mono ?_
            rintro e w2 ⟨rfl, rfl⟩
            rw [q0]
            go_wp2_with fail
            refine (risId_any _ x.2.1).mono ?_
            rintro e w3 ⟨rfl, rfl⟩
            rw [q1]
            go_wp2_with fail
            refine wp_region_held_drew (S := fun W => W.cell? ⟨lk, 0, none⟩ = some (.string (strB x.1)) ∧ W.cell? ⟨lk, 2, none⟩ = some (.int .i64 x.2.2) ∧ W.cell? ⟨w.heap.size, 1, none⟩ = some (.slice (some ⟨b, off, none⟩) xs.length cap) ∧ W.cell? ⟨b, off + m * 3, none⟩ = some (.string (strB y.1))) (by kernel_rfl) (⟨a0, a2, c1, d0⟩) (fun hHeld => ?_)
            refine takeK 0 hHeld ?_
            refine takeK 1 hHeld ?_
            refine takeK 2 hHeld ?_
            refine takeK 3 hHeld ?_
            refine takeK 4 hHeld ?_
            refine takeK 5 hHeld ?_
            refine takeK 6 hHeld ?_
            refine skipK 7 hHeld ?_
            refine skipK 8 hHeld ?_
            refine skipK 9 hHeld ?_
            refine takeK 10 hHeld ?_
            refine takeK 11 hHeld ?_
            refine skipK 12 hHeld ?_
            refine skipK 13 hHeld ?_
            refine skipK 14 hHeld ?_
            refine takeK 15 hHeld ?_
            refine takeK 16 hHeld ?_
            refine skipK 17 hHeld ?_
            refine skipK 18 hHeld ?_
            refine skipK 19 hHeld ?_
            refine skipK 20 hHeld ?_
            refine skipK 21 hHeld ?_
            refine skipK 22 hHeld ?_
            refine skipK 23 hHeld ?_
            refine skipK 24 hHeld ?_
            refine skipK 25 hHeld ?_
            refine skipK 26 hHeld ?_
            refine skipK 27 hHeld ?_
            refine skipK 28 hHeld ?_
            refine skipK 29 hHeld ?_
            refine skipK 30 hHeld ?_
            refine takeK 31 hHeld ?_
            refine wpAnyH_done (by kernel_rfl) ?_ _
            clear hHeld
            go_wp2
            go_ret
            exact ⟨ret_bool (by rw [← HNO.out hf]; rfl), hBa.drew⟩
        · have q0 := Bool.eq_false_iff.2 q0
          have hf := rlinkOk_no (.inl q0)
          obtain ⟨qi, hqi⟩ : ∃ q, isIdB x.2.1 = q := ⟨_, rfl⟩
          go_wp2_with fail
          generalize hwa : wr.alloc (.cells #[.string (strB x.1), .string (strB x.2.1), .int .i64 x.2.2] 81) = wa at *
          generalize hlk : wr.heap.size = lk at *
          clear hwa hlk
          refine (risKey_any _ x.1).mono ?_
          rintro e w2 ⟨rfl, rfl⟩
          rw [q0]
          go_wp2_with fail
          refine (risId_any _ x.2.1).mono ?_
          rintro e w3 ⟨rfl, rfl⟩
          rw [hqi]
          go_wp2_with fail
          refine wp_region_held_drew (S := fun W => W.cell? ⟨lk, 0, none⟩ = some (.string (strB x.1)) ∧ W.cell? ⟨lk, 2, none⟩ = some (.int .i64 x.2.2) ∧ W.cell? ⟨w.heap.size, 1, none⟩ = some (.slice (some ⟨b, off, none⟩) xs.length cap) ∧ W.cell? ⟨b, off + m * 3, none⟩ = some (.string (strB y.1))) (by kernel_rfl) (⟨a0, a2, c1, d0⟩) (fun hHeld => ?_)
          refine takeK 0 hHeld ?_
          refine takeK 1 hHeld ?_
          refine takeK 2 hHeld ?_
          refine skipK 3 hHeld ?_
          refine skipK 4 hHeld ?_
          refine takeK 5 hHeld ?_
          refine takeK 6 hHeld ?_
          refine skipK 7 hHeld ?_
          refine skipK 8 hHeld ?_
          refine skipK 9 hHeld ?_
          refine takeK 10 hHeld ?_
          refine takeK 11 hHeld ?_
          refine skipK 12 hHeld ?_
          refine skipK 13 hHeld ?_
          refine skipK 14 hHeld ?_
          refine takeK 15 hHeld ?_
          refine takeK 16 hHeld ?_
          refine skipK 17 hHeld ?_
          refine skipK 18 hHeld ?_
          refine skipK 19 hHeld ?_
          refine skipK 20 hHeld ?_
          refine skipK 21 hHeld ?_
          refine skipK 22 hHeld ?_
          refine skipK 23 hHeld ?_
          refine skipK 24 hHeld ?_
          refine skipK 25 hHeld ?_
          refine skipK 26 hHeld ?_
          refine skipK 27 hHeld ?_
          refine skipK 28 hHeld ?_
          refine skipK 29 hHeld ?_
          refine skipK 30 hHeld ?_
          refine takeK 31 hHeld ?_
          refine wpAnyH_done (by kernel_rfl) ?_ _
          clear hHeld
          go_wp2
          go_ret
          exact ⟨ret_bool (by rw [← HNO.out hf]; rfl), hBa.drew⟩
    · obtain rfl : k = xs.length := by omega
      have ht := HA.out
      rw [List.take_length] at ht
      have hr := HR.out
      rw [rise_end _ xs _ (by omega)] at hr
      rw [List.take_length]
      go_wp2
      go_ret
      exact ⟨ret_bool (by first | rfl | (rw [ht, hr]; simp)), hBr⟩
theorem flatLink_le (xs : List Link) (h : ∀ p ∈ xs, rlinkOk p = true) : (xs.flatMap linkB).length ≤ 116 * xs.length := by
  induction xs with
  | nil => simp
  | cons y ys ih =>
    have h1 := ih (fun p hp => h p (by simp [hp]))
    have h2 := h y (by simp)
    unfold rlinkOk isKeyB isIdB at h2
    simp only [Bool.and_eq_true, decide_eq_true_eq] at h2
    have h3 := txt_pos y.1
    have h4 := num_length y.2.2
    rw [List.flatMap_cons, List.length_append, List.length_cons, linkB_length]
    omega
theorem branchOk_links {f : Branch} (h : branchOk ltB f = true) : f.2.length ≤ 64 ∧ ∀ p ∈ f.2, rlinkOk p = true := by
  have h' := h
  simp only [branchOk, Bool.and_eq_true, decide_eq_true_eq] at h
  rw [branchOk_alike f h.1.1.1.1 h.1.1.1.2.1 h.1.1.1.2.2] at h'
  simp only [Bool.and_eq_true, List.all_eq_true] at h'
  exact ⟨h.1.1.1.2.2, h'.1.1⟩
end Go.Proofs.Ytldfjpgcemfpjaa
