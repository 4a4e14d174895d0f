/-
  Whether keys rise. Condition: lists lie there.
-/
import Derived.Test.YtdbmngbinhemeabDoorCORight
namespace Go.Proofs.YtdbmngbinhemeabDoor
open Go.RowKit

/-- How two texts stand, as the program asks it. -/
def ltB (a b : Bs) : Bool := Op.bytesLess a b
theorem toLr (l : List UInt8) : (strB l).toList = l := by rw [ByteArray.toList_eq]; exact strB_list l

theorem geq_str (t : TypeId) (a b : Bs) : binOp .geq t (.string (strB a)) (.string (strB b)) = pure (.bool (!ltB a b)) := by simp [binOp, Op.stringOp, toLr, ltB]

set_option maxRecDepth 20000 in
theorem risePairs_any (w : World) (v : Value) (xs : List (Pair)) (hv : Ls w.heap.size w 2 pairC v xs) :
    Calls Tryd.prog 105 #[v, .func (.func 106) #[] #[]] w fun e w' => e = .returned (.bool (rise ltB (xs.map (·.1)))) ∧ Below w.heap.size w w' := by
  obtain ⟨ao, cap, rfl, h1, h2, h4⟩ := hv
  unfold maxLen at h2
  go_enter Tryd.func105, Tryd.ntmps105
  go_wp2_with fail
  go_loopw [5] (fun t wr => ∃ k : Nat, 1 ≤ k ∧ (k ≤ xs.length ∨ k = 1) ∧ t = .int .i64 k ∧ rise ltB (xs.map (·.1)) = rise ltB ((xs.drop (k - 1)).map (·.1)) ∧ Below w.heap.size w wr)
    (fun t _ => xs.length - (intOf t).toNat)
  case atStart => exact ⟨1, by omega, .inr rfl, rfl, by simp, Below.refl _ _⟩
  case round =>
    obtain ⟨k, hk1, hk, rfl, hall, hb⟩ := hrel
    have HB := hide hb
    have HA := hide hall
    clear hb hall
    by_cases hlt : k < xs.length
    · obtain ⟨m, rfl⟩ : ∃ m, k = m + 1 := ⟨k - 1, by omega⟩
      rw [Nat.add_sub_cancel] at HA
      have hml : m < xs.length := by omega
      have hm0 : (0 : Int) ≤ (m : Int) + 1 := by omega
      have hw : IntKind.i64.wrap (m : Int) = (m : Int) := by rw [IntKind.wrap_i64]; omega
      have hk1' : ((m + 1 : Nat) : Int) - 1 = (m : Int) := by omega
      obtain ⟨b, off, rfl, hbB, hc⟩ := h4 (by rintro rfl; simp at hlt)
      have hst : rise ltB ((xs.drop m).map (·.1)) = (ltB (xs[m]'(by omega)).1 (xs[m + 1]'hlt).1 && rise ltB ((xs.drop (m + 1)).map (·.1))) := by
        rw [List.drop_eq_getElem_cons (show m < xs.length by omega), List.drop_eq_getElem_cons hlt]
        rfl
      obtain ⟨x, hx⟩ : ∃ x, x = xs[m] := ⟨_, rfl⟩
      obtain ⟨y, hy⟩ : ∃ y, y = xs[m + 1] := ⟨_, rfl⟩
      rw [← hx, ← hy] at hst
      have hcx := hc m (by omega)
      have hcy := hc (m + 1) hlt
      rw [← hx] at hcx
      rw [← hy] at hcy
      have c0 : wr.cell? ⟨b, off + m * 2, none⟩ = some (.string (strB x.1)) := by
        have := (HB.out.cell (p := ⟨b, off + m * 2 + 0, none⟩) hbB).trans (hcx 0 _ rfl)
        simpa using this
      have c1 : wr.cell? ⟨b, off + m * 2 + 1, none⟩ = some (.string (strB x.2)) := by
        have := (HB.out.cell (p := ⟨b, off + m * 2 + 1, none⟩) hbB).trans (hcx 1 _ rfl)
        simpa using this
      have d0 : wr.cell? ⟨b, off + (m + 1) * 2, none⟩ = some (.string (strB y.1)) := by
        have := (HB.out.cell (p := ⟨b, off + (m + 1) * 2 + 0, none⟩) hbB).trans (hcy 0 _ rfl)
        simpa using this
      have d1 : wr.cell? ⟨b, off + (m + 1) * 2 + 1, none⟩ = some (.string (strB y.2)) := by
        have := (HB.out.cell (p := ⟨b, off + (m + 1) * 2 + 1, none⟩) hbB).trans (hcy 1 _ rfl)
        simpa using this
      have HST := hide hst
      clear hst hc hcx hcy hx hy h4
      have hge := geq_str 9 x.1 y.1
      have hkp : ∀ (W : World) (i : Nat) (u : Value), Below wr.heap.size wr W → wr.cell? ⟨b, i, none⟩ = some u → W.cell? ⟨b, i, none⟩ = some u := fun W i u hW hu => (hW.cell (p := ⟨b, i, none⟩) (Nat.lt_of_lt_of_le hbB HB.out.size)).trans hu
      go_wp2_with fail
      refine wp_region_held_drew (S := fun W => W.cell? ⟨b, off + m * 2, none⟩ = some (.string (strB x.1)) ∧ W.cell? ⟨b, off + m * 2 + 1, none⟩ = some (.string (strB x.2)) ∧ W.cell? ⟨b, off + (m + 1) * 2, none⟩ = some (.string (strB y.1)) ∧ W.cell? ⟨b, off + (m + 1) * 2 + 1, none⟩ = some (.string (strB y.2))) (by kernel_rfl) (⟨c0, c1, d0, d1⟩) (fun hHeld => ?_)
      refine takeH (i := 0) (v := ?_) rfl (by kernel_rfl) (by kernel_rfl) (by kernel_rfl) (fun _ _ _ h => h) rfl ?_ hHeld ?_
      rotate_left
      · intro w hS; (try dsimp only at hS); obtain ⟨hS0, hS1, hS2, hS3⟩ := hS; go_simp; first | done | (with_reducible rfl)
      try simp only [Act.put, List.setIfInBounds_toArray, List.set_cons_zero, List.set_cons_succ]
      refine takeH (i := 1) (v := ?_) rfl (by kernel_rfl) (by kernel_rfl) (by kernel_rfl) (fun _ _ _ h => h) rfl ?_ hHeld ?_
      rotate_left
      · intro w hS; (try dsimp only at hS); obtain ⟨hS0, hS1, hS2, hS3⟩ := hS; go_simp; first | done | (with_reducible rfl)
      try simp only [Act.put, List.setIfInBounds_toArray, List.set_cons_zero, List.set_cons_succ]
      refine takeH (i := 2) (v := ?_) rfl (by kernel_rfl) (by kernel_rfl) (by kernel_rfl) (fun _ _ _ h => h) rfl ?_ hHeld ?_
      rotate_left
      · intro w hS; (try dsimp only at hS); obtain ⟨hS0, hS1, hS2, hS3⟩ := hS; go_simp; first | done | (with_reducible rfl)
      try simp only [Act.put, List.setIfInBounds_toArray, List.set_cons_zero, List.set_cons_succ]
      refine takeH (i := 3) (v := ?_) rfl (by kernel_rfl) (by kernel_rfl) (by kernel_rfl) (fun _ _ _ h => h) rfl ?_ hHeld ?_
      rotate_left
      · intro w hS; (try dsimp only at hS); obtain ⟨hS0, hS1, hS2, hS3⟩ := hS; go_simp; first | done | (with_reducible rfl)
      try simp only [Act.put, List.setIfInBounds_toArray, List.set_cons_zero, List.set_cons_succ]
      refine takeH (i := 4) (v := ?_) rfl (by kernel_rfl) (by kernel_rfl) (by kernel_rfl) (fun _ _ _ h => h) rfl ?_ hHeld ?_
      rotate_left
      · intro w hS; (try dsimp only at hS); obtain ⟨hS0, hS1, hS2, hS3⟩ := hS; go_simp; first | done | (with_reducible rfl)
      try simp only [Act.put, List.setIfInBounds_toArray, List.set_cons_zero, List.set_cons_succ]
      refine takeH (i := 5) (v := ?_) rfl (by kernel_rfl) (by kernel_rfl) (by kernel_rfl) (fun _ _ _ h => h) rfl ?_ hHeld ?_
      rotate_left
      · intro w hS; (try dsimp only at hS); obtain ⟨hS0, hS1, hS2, hS3⟩ := hS; go_simp; first | done | (with_reducible rfl)
      try simp only [Act.put, List.setIfInBounds_toArray, List.set_cons_zero, List.set_cons_succ]
      refine takeH (i := 7) (v := ?_) rfl (by kernel_rfl) (by kernel_rfl) (by kernel_rfl) (fun _ _ _ h => h) rfl ?_ hHeld ?_
      rotate_left
      · intro w hS; (try dsimp only at hS); obtain ⟨hS0, hS1, hS2, hS3⟩ := hS; go_simp; first | done | (with_reducible rfl)
      try simp only [Act.put, List.setIfInBounds_toArray, List.set_cons_zero, List.set_cons_succ]
      refine takeH (i := 8) (v := ?_) rfl (by kernel_rfl) (by kernel_rfl) (by kernel_rfl) (fun _ _ _ h => h) rfl ?_ hHeld ?_
      rotate_left
      · intro w hS; (try dsimp only at hS); obtain ⟨hS0, hS1, hS2, hS3⟩ := hS; go_simp; first | done | (with_reducible rfl)
      try simp only [Act.put, List.setIfInBounds_toArray, List.set_cons_zero, List.set_cons_succ]
      refine takeH (i := 9) (v := ?_) rfl (by kernel_rfl) (by kernel_rfl) (by kernel_rfl) (fun _ _ _ h => h) rfl ?_ hHeld ?_
      rotate_left
      · intro w hS; (try dsimp only at hS); obtain ⟨hS0, hS1, hS2, hS3⟩ := hS; go_simp; first | done | (with_reducible rfl)
      try simp only [Act.put, List.setIfInBounds_toArray, List.set_cons_zero, List.set_cons_succ]
      refine takeH (i := 10) (v := ?_) rfl (by kernel_rfl) (by kernel_rfl) (by kernel_rfl) (fun _ _ _ h => h) rfl ?_ hHeld ?_
      rotate_left
      · intro w hS; (try dsimp only at hS); obtain ⟨hS0, hS1, hS2, hS3⟩ := hS; go_simp; first | done | (with_reducible rfl)
      try simp only [Act.put, List.setIfInBounds_toArray, List.set_cons_zero, List.set_cons_succ]
      refine takeH (i := 11) (v := ?_) rfl (by kernel_rfl) (by kernel_rfl) (by kernel_rfl) (fun _ _ _ h => h) rfl ?_ hHeld ?_
      rotate_left
      · intro w hS; (try dsimp only at hS); obtain ⟨hS0, hS1, hS2, hS3⟩ := hS; go_simp; first | done | (with_reducible rfl)
      try simp only [Act.put, List.setIfInBounds_toArray, List.set_cons_zero, List.set_cons_succ]
      refine onlyH (i := 6) rfl (by kernel_rfl) rfl (fun K hK => ?_)
      go_simp
      refine (leaf2_any _ x).mono ?_
      rintro e w2 ⟨rfl, hb2⟩
      have hb2' : Below wr.heap.size wr w2 := (Below.refl wr.heap.size wr).drew.trans hb2
      refine hK.out _ _ (⟨hkp w2 _ _ hb2' c0, hkp w2 _ _ hb2' c1, hkp w2 _ _ hb2' d0, hkp w2 _ _ hb2' d1⟩) (fun hHeld => ?_)
      clear hK K
      try simp only [Act.put, List.setIfInBounds_toArray, List.set_cons_zero, List.set_cons_succ]
      refine onlyH (i := 12) rfl (by kernel_rfl) rfl (fun K hK => ?_)
      go_simp
      refine (leaf2_any _ y).mono ?_
      rintro e w3 ⟨rfl, hb3⟩
      have hb3' : Below wr.heap.size wr w3 := hb2'.trans (hb3.mono hb2'.size)
      refine hK.out _ _ (⟨hkp w3 _ _ hb3' c0, hkp w3 _ _ hb3' c1, hkp w3 _ _ hb3' d0, hkp w3 _ _ hb3' d1⟩) (fun hHeld => ?_)
      clear hK K
      try simp only [Act.put, List.setIfInBounds_toArray, List.set_cons_zero, List.set_cons_succ]
      refine takeH (i := 13) (v := ?_) rfl (by kernel_rfl) (by kernel_rfl) (by kernel_rfl) (fun _ _ _ h => h) rfl ?_ hHeld ?_
      rotate_left
      · intro w hS; (try dsimp only at hS); obtain ⟨hS0, hS1, hS2, hS3⟩ := hS; go_simp; first | done | (with_reducible rfl)
      try simp only [Act.put, List.setIfInBounds_toArray, List.set_cons_zero, List.set_cons_succ]
      refine wpAnyH_done (by kernel_rfl) ?_ _
      clear hHeld
      have HB3 : Hid (Below w.heap.size w w3) := hide (HB.out.trans (hb3'.mono HB.out.size))
      clear hb2 hb2' hb3 hb3' hkp
      by_cases hf : ltB x.1 y.1 = true
      · rw [hf]
        go_wp2
        go_roundw
        case rel =>
          refine ⟨m + 1 + 1, by omega, .inl (by omega), by go_num, ?_, HB3.out⟩
          rw [HA.out, HST.out, hf, Nat.add_sub_cancel]
          rfl
        case measure => simp [intOf]; omega
      · have hf := Bool.eq_false_iff.2 hf
        rw [hf]
        go_wp2
        go_ret
        exact ⟨ret_bool (by rw [HA.out, HST.out, hf]; rfl), HB3.out⟩
    · have ht : rise ltB ((xs.drop (k - 1)).map (·.1)) = true := by
        have hl : (xs.drop (k - 1)).length ≤ 1 := by rw [List.length_drop]; omega
        match xs.drop (k - 1), hl with
        | [], _ => rfl
        | [_], _ => rfl
      go_wp2
      go_ret
      exact ⟨ret_bool (by rw [HA.out, ht]), HB.out⟩

set_option maxRecDepth 20000 in
theorem riseLinks_any (w : World) (v : Value) (xs : List (Link)) (hv : Ls w.heap.size w 3 linkC v xs) :
    Calls Tryd.prog 111 #[v, .func (.func 112) #[] #[]] w fun e w' => e = .returned (.bool (rise ltB (xs.map (·.1)))) ∧ Below w.heap.size w w' := by
  obtain ⟨ao, cap, rfl, h1, h2, h4⟩ := hv
  unfold maxLen at h2
  go_enter Tryd.func111, Tryd.ntmps111
  go_wp2_with fail
  go_loopw [5] (fun t wr => ∃ k : Nat, 1 ≤ k ∧ (k ≤ xs.length ∨ k = 1) ∧ t = .int .i64 k ∧ rise ltB (xs.map (·.1)) = rise ltB ((xs.drop (k - 1)).map (·.1)) ∧ Below w.heap.size w wr)
    (fun t _ => xs.length - (intOf t).toNat)
  case atStart => exact ⟨1, by omega, .inr rfl, rfl, by simp, Below.refl _ _⟩
  case round =>
    obtain ⟨k, hk1, hk, rfl, hall, hb⟩ := hrel
    have HB := hide hb
    have HA := hide hall
    clear hb hall
    by_cases hlt : k < xs.length
    · obtain ⟨m, rfl⟩ : ∃ m, k = m + 1 := ⟨k - 1, by omega⟩
      rw [Nat.add_sub_cancel] at HA
      have hml : m < xs.length := by omega
      have hm0 : (0 : Int) ≤ (m : Int) + 1 := by omega
      have hw : IntKind.i64.wrap (m : Int) = (m : Int) := by rw [IntKind.wrap_i64]; omega
      have hk1' : ((m + 1 : Nat) : Int) - 1 = (m : Int) := by omega
      obtain ⟨b, off, rfl, hbB, hc⟩ := h4 (by rintro rfl; simp at hlt)
      have hst : rise ltB ((xs.drop m).map (·.1)) = (ltB (xs[m]'(by omega)).1 (xs[m + 1]'hlt).1 && rise ltB ((xs.drop (m + 1)).map (·.1))) := by
        rw [List.drop_eq_getElem_cons (show m < xs.length by omega), List.drop_eq_getElem_cons hlt]
        rfl
      obtain ⟨x, hx⟩ : ∃ x, x = xs[m] := ⟨_, rfl⟩
      obtain ⟨y, hy⟩ : ∃ y, y = xs[m + 1] := ⟨_, rfl⟩
      rw [← hx, ← hy] at hst
      have hcx := hc m (by omega)
      have hcy := hc (m + 1) hlt
      rw [← hx] at hcx
      rw [← hy] at hcy
      have c0 : wr.cell? ⟨b, off + m * 3, none⟩ = some (.string (strB x.1)) := by
        have := (HB.out.cell (p := ⟨b, off + m * 3 + 0, none⟩) hbB).trans (hcx 0 _ rfl)
        simpa using this
      have c1 : wr.cell? ⟨b, off + m * 3 + 1, none⟩ = some (.string (strB x.2.1)) := by
        have := (HB.out.cell (p := ⟨b, off + m * 3 + 1, none⟩) hbB).trans (hcx 1 _ rfl)
        simpa using this
      have c2 : wr.cell? ⟨b, off + m * 3 + 2, none⟩ = some (.int .i64 x.2.2) := by
        have := (HB.out.cell (p := ⟨b, off + m * 3 + 2, none⟩) hbB).trans (hcx 2 _ rfl)
        simpa using this
      have d0 : wr.cell? ⟨b, off + (m + 1) * 3, none⟩ = some (.string (strB y.1)) := by
        have := (HB.out.cell (p := ⟨b, off + (m + 1) * 3 + 0, none⟩) hbB).trans (hcy 0 _ rfl)
        simpa using this
      have d1 : wr.cell? ⟨b, off + (m + 1) * 3 + 1, none⟩ = some (.string (strB y.2.1)) := by
        have := (HB.out.cell (p := ⟨b, off + (m + 1) * 3 + 1, none⟩) hbB).trans (hcy 1 _ rfl)
        simpa using this
      have d2 : wr.cell? ⟨b, off + (m + 1) * 3 + 2, none⟩ = some (.int .i64 y.2.2) := by
        have := (HB.out.cell (p := ⟨b, off + (m + 1) * 3 + 2, none⟩) hbB).trans (hcy 2 _ rfl)
        simpa using this
      have HST := hide hst
      clear hst hc hcx hcy hx hy h4
      have hge := geq_str 9 x.1 y.1
      have hkp : ∀ (W : World) (i : Nat) (u : Value), Below wr.heap.size wr W → wr.cell? ⟨b, i, none⟩ = some u → W.cell? ⟨b, i, none⟩ = some u := fun W i u hW hu => (hW.cell (p := ⟨b, i, none⟩) (Nat.lt_of_lt_of_le hbB HB.out.size)).trans hu
      go_wp2_with fail
      refine wp_region_held_drew (S := fun W => W.cell? ⟨b, off + m * 3, none⟩ = some (.string (strB x.1)) ∧ W.cell? ⟨b, off + m * 3 + 1, none⟩ = some (.string (strB x.2.1)) ∧ W.cell? ⟨b, off + m * 3 + 2, none⟩ = some (.int .i64 x.2.2) ∧ W.cell? ⟨b, off + (m + 1) * 3, none⟩ = some (.string (strB y.1)) ∧ W.cell? ⟨b, off + (m + 1) * 3 + 1, none⟩ = some (.string (strB y.2.1)) ∧ W.cell? ⟨b, off + (m + 1) * 3 + 2, none⟩ = some (.int .i64 y.2.2)) (by kernel_rfl) (⟨c0, c1, c2, d0, d1, d2⟩) (fun hHeld => ?_)
      refine takeH (i := 0) (v := ?_) rfl (by kernel_rfl) (by kernel_rfl) (by kernel_rfl) (fun _ _ _ h => h) rfl ?_ hHeld ?_
      rotate_left
      · intro w hS; (try dsimp only at hS); obtain ⟨hS0, hS1, hS2, hS3, hS4, hS5⟩ := hS; go_simp; first | done | (with_reducible rfl)
      try simp only [Act.put, List.setIfInBounds_toArray, List.set_cons_zero, List.set_cons_succ]
      refine takeH (i := 1) (v := ?_) rfl (by kernel_rfl) (by kernel_rfl) (by kernel_rfl) (fun _ _ _ h => h) rfl ?_ hHeld ?_
      rotate_left
      · intro w hS; (try dsimp only at hS); obtain ⟨hS0, hS1, hS2, hS3, hS4, hS5⟩ := hS; go_simp; first | done | (with_reducible rfl)
      try simp only [Act.put, List.setIfInBounds_toArray, List.set_cons_zero, List.set_cons_succ]
      refine takeH (i := 2) (v := ?_) rfl (by kernel_rfl) (by kernel_rfl) (by kernel_rfl) (fun _ _ _ h => h) rfl ?_ hHeld ?_
      rotate_left
      · intro w hS; (try dsimp only at hS); obtain ⟨hS0, hS1, hS2, hS3, hS4, hS5⟩ := hS; go_simp; first | done | (with_reducible rfl)
      try simp only [Act.put, List.setIfInBounds_toArray, List.set_cons_zero, List.set_cons_succ]
      refine takeH (i := 3) (v := ?_) rfl (by kernel_rfl) (by kernel_rfl) (by kernel_rfl) (fun _ _ _ h => h) rfl ?_ hHeld ?_
      rotate_left
      · intro w hS; (try dsimp only at hS); obtain ⟨hS0, hS1, hS2, hS3, hS4, hS5⟩ := hS; go_simp; first | done | (with_reducible rfl)
      try simp only [Act.put, List.setIfInBounds_toArray, List.set_cons_zero, List.set_cons_succ]
      refine takeH (i := 4) (v := ?_) rfl (by kernel_rfl) (by kernel_rfl) (by kernel_rfl) (fun _ _ _ h => h) rfl ?_ hHeld ?_
      rotate_left
      · intro w hS; (try dsimp only at hS); obtain ⟨hS0, hS1, hS2, hS3, hS4, hS5⟩ := hS; go_simp; first | done | (with_reducible rfl)
      try simp only [Act.put, List.setIfInBounds_toArray, List.set_cons_zero, List.set_cons_succ]
      refine takeH (i := 5) (v := ?_) rfl (by kernel_rfl) (by kernel_rfl) (by kernel_rfl) (fun _ _ _ h => h) rfl ?_ hHeld ?_
      rotate_left
      · intro w hS; (try dsimp only at hS); obtain ⟨hS0, hS1, hS2, hS3, hS4, hS5⟩ := hS; go_simp; first | done | (with_reducible rfl)
      try simp only [Act.put, List.setIfInBounds_toArray, List.set_cons_zero, List.set_cons_succ]
      refine takeH (i := 7) (v := ?_) rfl (by kernel_rfl) (by kernel_rfl) (by kernel_rfl) (fun _ _ _ h => h) rfl ?_ hHeld ?_
      rotate_left
      · intro w hS; (try dsimp only at hS); obtain ⟨hS0, hS1, hS2, hS3, hS4, hS5⟩ := hS; go_simp; first | done | (with_reducible rfl)
      try simp only [Act.put, List.setIfInBounds_toArray, List.set_cons_zero, List.set_cons_succ]
      refine takeH (i := 8) (v := ?_) rfl (by kernel_rfl) (by kernel_rfl) (by kernel_rfl) (fun _ _ _ h => h) rfl ?_ hHeld ?_
      rotate_left
      · intro w hS; (try dsimp only at hS); obtain ⟨hS0, hS1, hS2, hS3, hS4, hS5⟩ := hS; go_simp; first | done | (with_reducible rfl)
      try simp only [Act.put, List.setIfInBounds_toArray, List.set_cons_zero, List.set_cons_succ]
      refine takeH (i := 9) (v := ?_) rfl (by kernel_rfl) (by kernel_rfl) (by kernel_rfl) (fun _ _ _ h => h) rfl ?_ hHeld ?_
      rotate_left
      · intro w hS; (try dsimp only at hS); obtain ⟨hS0, hS1, hS2, hS3, hS4, hS5⟩ := hS; go_simp; first | done | (with_reducible rfl)
      try simp only [Act.put, List.setIfInBounds_toArray, List.set_cons_zero, List.set_cons_succ]
      refine takeH (i := 10) (v := ?_) rfl (by kernel_rfl) (by kernel_rfl) (by kernel_rfl) (fun _ _ _ h => h) rfl ?_ hHeld ?_
      rotate_left
      · intro w hS; (try dsimp only at hS); obtain ⟨hS0, hS1, hS2, hS3, hS4, hS5⟩ := hS; go_simp; first | done | (with_reducible rfl)
      try simp only [Act.put, List.setIfInBounds_toArray, List.set_cons_zero, List.set_cons_succ]
      refine takeH (i := 11) (v := ?_) rfl (by kernel_rfl) (by kernel_rfl) (by kernel_rfl) (fun _ _ _ h => h) rfl ?_ hHeld ?_
      rotate_left
      · intro w hS; (try dsimp only at hS); obtain ⟨hS0, hS1, hS2, hS3, hS4, hS5⟩ := hS; go_simp; first | done | (with_reducible rfl)
      try simp only [Act.put, List.setIfInBounds_toArray, List.set_cons_zero, List.set_cons_succ]
      refine onlyH (i := 6) rfl (by kernel_rfl) rfl (fun K hK => ?_)
      go_simp
      refine (branch2_any _ x).mono ?_
      rintro e w2 ⟨rfl, hb2⟩
      have hb2' : Below wr.heap.size wr w2 := (Below.refl wr.heap.size wr).drew.trans hb2
      refine hK.out _ _ (⟨hkp w2 _ _ hb2' c0, hkp w2 _ _ hb2' c1, hkp w2 _ _ hb2' c2, hkp w2 _ _ hb2' d0, hkp w2 _ _ hb2' d1, hkp w2 _ _ hb2' d2⟩) (fun hHeld => ?_)
      clear hK K
      try simp only [Act.put, List.setIfInBounds_toArray, List.set_cons_zero, List.set_cons_succ]
      refine onlyH (i := 12) rfl (by kernel_rfl) rfl (fun K hK => ?_)
      go_simp
      refine (branch2_any _ y).mono ?_
      rintro e w3 ⟨rfl, hb3⟩
      have hb3' : Below wr.heap.size wr w3 := hb2'.trans (hb3.mono hb2'.size)
      refine hK.out _ _ (⟨hkp w3 _ _ hb3' c0, hkp w3 _ _ hb3' c1, hkp w3 _ _ hb3' c2, hkp w3 _ _ hb3' d0, hkp w3 _ _ hb3' d1, hkp w3 _ _ hb3' d2⟩) (fun hHeld => ?_)
      clear hK K
      try simp only [Act.put, List.setIfInBounds_toArray, List.set_cons_zero, List.set_cons_succ]
      refine takeH (i := 13) (v := ?_) rfl (by kernel_rfl) (by kernel_rfl) (by kernel_rfl) (fun _ _ _ h => h) rfl ?_ hHeld ?_
      rotate_left
      · intro w hS; (try dsimp only at hS); obtain ⟨hS0, hS1, hS2, hS3, hS4, hS5⟩ := hS; go_simp; first | done | (with_reducible rfl)
      try simp only [Act.put, List.setIfInBounds_toArray, List.set_cons_zero, List.set_cons_succ]
      refine wpAnyH_done (by kernel_rfl) ?_ _
      clear hHeld
      have HB3 : Hid (Below w.heap.size w w3) := hide (HB.out.trans (hb3'.mono HB.out.size))
      clear hb2 hb2' hb3 hb3' hkp
      by_cases hf : ltB x.1 y.1 = true
      · rw [hf]
        go_wp2
        go_roundw
        case rel =>
          refine ⟨m + 1 + 1, by omega, .inl (by omega), by go_num, ?_, HB3.out⟩
          rw [HA.out, HST.out, hf, Nat.add_sub_cancel]
          rfl
        case measure => simp [intOf]; omega
      · have hf := Bool.eq_false_iff.2 hf
        rw [hf]
        go_wp2
        go_ret
        exact ⟨ret_bool (by rw [HA.out, HST.out, hf]; rfl), HB3.out⟩
    · have ht : rise ltB ((xs.drop (k - 1)).map (·.1)) = true := by
        have hl : (xs.drop (k - 1)).length ≤ 1 := by rw [List.length_drop]; omega
        match xs.drop (k - 1), hl with
        | [], _ => rfl
        | [_], _ => rfl
      go_wp2
      go_ret
      exact ⟨ret_bool (by rw [HA.out, ht]), HB.out⟩
end Go.Proofs.YtdbmngbinhemeabDoor
