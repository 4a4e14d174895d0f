/-
  Whether keys rise. Condition: lists lie there.
  Whether a fan, a leaf, a branch is right. Condition: lists lie there.
-/
import Derived.Test.YtdbmngbinhemeabGreatDoorRORight
namespace Go.Proofs.YtdbmngbinhemeabGreatDoor
open Go.RowKit

/-- How two texts stand, as the program asks it. -/
def ltB (a b : Bs) : Bool := Op.bytesLess a b
theorem toLr (l : List UInt8) : (strB l).toList = l := by rw [ByteArray.toList_eq]; exact strB_list l

theorem geq_str (t : TypeId) (a b : Bs) : binOp .geq t (.string (strB a)) (.string (strB b)) = pure (.bool (!ltB a b)) := by simp [binOp, Op.stringOp, toLr, ltB]

set_option maxRecDepth 20000 in
theorem risePairs_any (w : World) (v : Value) (xs : List (Pair)) (hv : Ls w.heap.size w 2 pairC v xs) :
    Calls Tryz.prog 63 #[v, .func (.func 64) #[] #[]] w fun e w' => e = .returned (.bool (rise ltB (xs.map (·.1)))) ∧ Below w.heap.size w w' := by
  obtain ⟨ao, cap, rfl, h1, h2, h4⟩ := hv
  unfold maxLen at h2
  go_enter Tryz.func63, Tryz.ntmps63
  go_wp2_with fail
  go_loopw [5] (fun t wr => ∃ k : Nat, 1 ≤ k ∧ (k ≤ xs.length ∨ k = 1) ∧ t = .int .i64 k ∧ rise ltB (xs.map (·.1)) = rise ltB ((xs.drop (k - 1)).map (·.1)) ∧ Below w.heap.size w wr)
    (fun t _ => xs.length - (intOf t).toNat)
  case atStart => exact ⟨1, by omega, .inr rfl, rfl, by simp, Below.refl _ _⟩
  case round =>
    obtain ⟨k, hk1, hk, rfl, hall, hb⟩ := hrel
    have HB := hide hb
    have HA := hide hall
    clear hb hall
    by_cases hlt : k < xs.length
    · obtain ⟨m, rfl⟩ : ∃ m, k = m + 1 := ⟨k - 1, by omega⟩
      rw [Nat.add_sub_cancel] at HA
      have hml : m < xs.length := by omega
      have hm0 : (0 : Int) ≤ (m : Int) + 1 := by omega
      have hw : IntKind.i64.wrap (m : Int) = (m : Int) := by rw [IntKind.wrap_i64]; omega
      have hk1' : ((m + 1 : Nat) : Int) - 1 = (m : Int) := by omega
      obtain ⟨b, off, rfl, hbB, hc⟩ := h4 (by rintro rfl; simp at hlt)
      have hst : rise ltB ((xs.drop m).map (·.1)) = (ltB (xs[m]'(by omega)).1 (xs[m + 1]'hlt).1 && rise ltB ((xs.drop (m + 1)).map (·.1))) := by
        rw [List.drop_eq_getElem_cons (show m < xs.length by omega), List.drop_eq_getElem_cons hlt]
        rfl
      obtain ⟨x, hx⟩ : ∃ x, x = xs[m] := ⟨_, rfl⟩
      obtain ⟨y, hy⟩ : ∃ y, y = xs[m + 1] := ⟨_, rfl⟩
      rw [← hx, ← hy] at hst
      have hcx := hc m (by omega)
      have hcy := hc (m + 1) hlt
      rw [← hx] at hcx
      rw [← hy] at hcy
      have c0 : wr.cell? ⟨b, off + m * 2, none⟩ = some (.string (strB x.1)) := by
        have := (HB.out.cell (p := ⟨b, off + m * 2 + 0, none⟩) hbB).trans (hcx 0 _ rfl)
        simpa using this
      have c1 : wr.cell? ⟨b, off + m * 2 + 1, none⟩ = some (.string (strB x.2)) := by
        have := (HB.out.cell (p := ⟨b, off + m * 2 + 1, none⟩) hbB).trans (hcx 1 _ rfl)
        simpa using this
      have d0 : wr.cell? ⟨b, off + (m + 1) * 2, none⟩ = some (.string (strB y.1)) := by
        have := (HB.out.cell (p := ⟨b, off + (m + 1) * 2 + 0, none⟩) hbB).trans (hcy 0 _ rfl)
        simpa using this
      have d1 : wr.cell? ⟨b, off + (m + 1) * 2 + 1, none⟩ = some (.string (strB y.2)) := by
        have := (HB.out.cell (p := ⟨b, off + (m + 1) * 2 + 1, none⟩) hbB).trans (hcy 1 _ rfl)
        simpa using this
      have HST := hide hst
      clear hst hc hcx hcy hx hy h4
      have hge := geq_str 9 x.1 y.1
      have hkp : ∀ (W : World) (i : Nat) (u : Value), Below wr.heap.size wr W → wr.cell? ⟨b, i, none⟩ = some u → W.cell? ⟨b, i, none⟩ = some u := fun W i u hW hu => (hW.cell (p := ⟨b, i, none⟩) (Nat.lt_of_lt_of_le hbB HB.out.size)).trans hu
      go_wp2_with fail
      refine wp_region_held_drew (S := fun W => W.cell? ⟨b, off + m * 2, none⟩ = some (.string (strB x.1)) ∧ W.cell? ⟨b, off + m * 2 + 1, none⟩ = some (.string (strB x.2)) ∧ W.cell? ⟨b, off + (m + 1) * 2, none⟩ = some (.string (strB y.1)) ∧ W.cell? ⟨b, off + (m + 1) * 2 + 1, none⟩ = some (.string (strB y.2))) (by kernel_rfl) (⟨c0, c1, d0, d1⟩) (fun hHeld => ?_)
      refine takeH (i := 0) (v := ?_) rfl (by kernel_rfl) (by kernel_rfl) (by kernel_rfl) (fun _ _ _ h => h) rfl ?_ hHeld ?_
      rotate_left
      · intro w hS; (try dsimp only at hS); obtain ⟨hS0, hS1, hS2, hS3⟩ := hS; go_simp; first | done | (with_reducible rfl)
      try simp only [Act.put, List.setIfInBounds_toArray, List.set_cons_zero, List.set_cons_succ]
      refine takeH (i := 1) (v := ?_) rfl (by kernel_rfl) (by kernel_rfl) (by kernel_rfl) (fun _ _ _ h => h) rfl ?_ hHeld ?_
      rotate_left
      · intro w hS; (try dsimp only at hS); obtain ⟨hS0, hS1, hS2, hS3⟩ := hS; go_simp; first | done | (with_reducible rfl)
      try simp only [Act.put, List.setIfInBounds_toArray, List.set_cons_zero, List.set_cons_succ]
      refine takeH (i := 2) (v := ?_) rfl (by kernel_rfl) (by kernel_rfl) (by kernel_rfl) (fun _ _ _ h => h) rfl ?_ hHeld ?_
      rotate_left
      · intro w hS; (try dsimp only at hS); obtain ⟨hS0, hS1, hS2, hS3⟩ := hS; go_simp; first | done | (with_reducible rfl)
      try simp only [Act.put, List.setIfInBounds_toArray, List.set_cons_zero, List.set_cons_succ]
      refine takeH (i := 3) (v := ?_) rfl (by kernel_rfl) (by kernel_rfl) (by kernel_rfl) (fun _ _ _ h => h) rfl ?_ hHeld ?_
      rotate_left
      · intro w hS; (try dsimp only at hS); obtain ⟨hS0, hS1, hS2, hS3⟩ := hS; go_simp; first | done | (with_reducible rfl)
      try simp only [Act.put, List.setIfInBounds_toArray, List.set_cons_zero, List.set_cons_succ]
      refine takeH (i := 4) (v := ?_) rfl (by kernel_rfl) (by kernel_rfl) (by kernel_rfl) (fun _ _ _ h => h) rfl ?_ hHeld ?_
      rotate_left
      · intro w hS; (try dsimp only at hS); obtain ⟨hS0, hS1, hS2, hS3⟩ := hS; go_simp; first | done | (with_reducible rfl)
      try simp only [Act.put, List.setIfInBounds_toArray, List.set_cons_zero, List.set_cons_succ]
      refine takeH (i := 5) (v := ?_) rfl (by kernel_rfl) (by kernel_rfl) (by kernel_rfl) (fun _ _ _ h => h) rfl ?_ hHeld ?_
      rotate_left
      · intro w hS; (try dsimp only at hS); obtain ⟨hS0, hS1, hS2, hS3⟩ := hS; go_simp; first | done | (with_reducible rfl)
      try simp only [Act.put, List.setIfInBounds_toArray, List.set_cons_zero, List.set_cons_succ]
      refine takeH (i := 7) (v := ?_) rfl (by kernel_rfl) (by kernel_rfl) (by kernel_rfl) (fun _ _ _ h => h) rfl ?_ hHeld ?_
      rotate_left
      · intro w hS; (try dsimp only at hS); obtain ⟨hS0, hS1, hS2, hS3⟩ := hS; go_simp; first | done | (with_reducible rfl)
      try simp only [Act.put, List.setIfInBounds_toArray, List.set_cons_zero, List.set_cons_succ]
      refine takeH (i := 8) (v := ?_) rfl (by kernel_rfl) (by kernel_rfl) (by kernel_rfl) (fun _ _ _ h => h) rfl ?_ hHeld ?_
      rotate_left
      · intro w hS; (try dsimp only at hS); obtain ⟨hS0, hS1, hS2, hS3⟩ := hS; go_simp; first | done | (with_reducible rfl)
      try simp only [Act.put, List.setIfInBounds_toArray, List.set_cons_zero, List.set_cons_succ]
      refine takeH (i := 9) (v := ?_) rfl (by kernel_rfl) (by kernel_rfl) (by kernel_rfl) (fun _ _ _ h => h) rfl ?_ hHeld ?_
      rotate_left
      · intro w hS; (try dsimp only at hS); obtain ⟨hS0, hS1, hS2, hS3⟩ := hS; go_simp; first | done | (with_reducible rfl)
      try simp only [Act.put, List.setIfInBounds_toArray, List.set_cons_zero, List.set_cons_succ]
      refine takeH (i := 10) (v := ?_) rfl (by kernel_rfl) (by kernel_rfl) (by kernel_rfl) (fun _ _ _ h => h) rfl ?_ hHeld ?_
      rotate_left
      · intro w hS; (try dsimp only at hS); obtain ⟨hS0, hS1, hS2, hS3⟩ := hS; go_simp; first | done | (with_reducible rfl)
      try simp only [Act.put, List.setIfInBounds_toArray, List.set_cons_zero, List.set_cons_succ]
      refine takeH (i := 11) (v := ?_) rfl (by kernel_rfl) (by kernel_rfl) (by kernel_rfl) (fun _ _ _ h => h) rfl ?_ hHeld ?_
      rotate_left
      · intro w hS; (try dsimp only at hS); obtain ⟨hS0, hS1, hS2, hS3⟩ := hS; go_simp; first | done | (with_reducible rfl)
      try simp only [Act.put, List.setIfInBounds_toArray, List.set_cons_zero, List.set_cons_succ]
      refine onlyH (i := 6) rfl (by kernel_rfl) rfl (fun K hK => ?_)
      go_simp
      refine (leaf2_any _ x).mono ?_
      rintro e w2 ⟨rfl, hb2⟩
      have hb2' : Below wr.heap.size wr w2 := (Below.refl wr.heap.size wr).drew.trans hb2
      refine hK.out _ _ (⟨hkp w2 _ _ hb2' c0, hkp w2 _ _ hb2' c1, hkp w2 _ _ hb2' d0, hkp w2 _ _ hb2' d1⟩) (fun hHeld => ?_)
      clear hK K
      try simp only [Act.put, List.setIfInBounds_toArray, List.set_cons_zero, List.set_cons_succ]
      refine onlyH (i := 12) rfl (by kernel_rfl) rfl (fun K hK => ?_)
      go_simp
      refine (leaf2_any _ y).mono ?_
      rintro e w3 ⟨rfl, hb3⟩
      have hb3' : Below wr.heap.size wr w3 := hb2'.trans (hb3.mono hb2'.size)
      refine hK.out _ _ (⟨hkp w3 _ _ hb3' c0, hkp w3 _ _ hb3' c1, hkp w3 _ _ hb3' d0, hkp w3 _ _ hb3' d1⟩) (fun hHeld => ?_)
      clear hK K
      try simp only [Act.put, List.setIfInBounds_toArray, List.set_cons_zero, List.set_cons_succ]
      refine takeH (i := 13) (v := ?_) rfl (by kernel_rfl) (by kernel_rfl) (by kernel_rfl) (fun _ _ _ h => h) rfl ?_ hHeld ?_
      rotate_left
      · intro w hS; (try dsimp only at hS); obtain ⟨hS0, hS1, hS2, hS3⟩ := hS; go_simp; first | done | (with_reducible rfl)
      try simp only [Act.put, List.setIfInBounds_toArray, List.set_cons_zero, List.set_cons_succ]
      refine wpAnyH_done (by kernel_rfl) ?_ _
      clear hHeld
      have HB3 : Hid (Below w.heap.size w w3) := hide (HB.out.trans (hb3'.mono HB.out.size))
      clear hb2 hb2' hb3 hb3' hkp
      by_cases hf : ltB x.1 y.1 = true
      · rw [hf]
        go_wp2
        go_roundw
        case rel =>
          refine ⟨m + 1 + 1, by omega, .inl (by omega), by go_num, ?_, HB3.out⟩
          rw [HA.out, HST.out, hf, Nat.add_sub_cancel]
          rfl
        case measure => simp [intOf]; omega
      · have hf := Bool.eq_false_iff.2 hf
        rw [hf]
        go_wp2
        go_ret
        exact ⟨ret_bool (by rw [HA.out, HST.out, hf]; rfl), HB3.out⟩
    · have ht : rise ltB ((xs.drop (k - 1)).map (·.1)) = true := by
        have hl : (xs.drop (k - 1)).length ≤ 1 := by rw [List.length_drop]; omega
        match xs.drop (k - 1), hl with
        | [], _ => rfl
        | [_], _ => rfl
      go_wp2
      go_ret
      exact ⟨ret_bool (by rw [HA.out, ht]), HB.out⟩

set_option maxRecDepth 20000 in
theorem riseLinks_any (w : World) (v : Value) (xs : List (Link)) (hv : Ls w.heap.size w 3 linkC v xs) :
    Calls Tryz.prog 108 #[v, .func (.func 109) #[] #[]] w fun e w' => e = .returned (.bool (rise ltB (xs.map (·.1)))) ∧ Below w.heap.size w w' := by
  obtain ⟨ao, cap, rfl, h1, h2, h4⟩ := hv
  unfold maxLen at h2
  go_enter Tryz.func108, Tryz.ntmps108
  go_wp2_with fail
  go_loopw [5] (fun t wr => ∃ k : Nat, 1 ≤ k ∧ (k ≤ xs.length ∨ k = 1) ∧ t = .int .i64 k ∧ rise ltB (xs.map (·.1)) = rise ltB ((xs.drop (k - 1)).map (·.1)) ∧ Below w.heap.size w wr)
    (fun t _ => xs.length - (intOf t).toNat)
  case atStart => exact ⟨1, by omega, .inr rfl, rfl, by simp, Below.refl _ _⟩
  case round =>
    obtain ⟨k, hk1, hk, rfl, hall, hb⟩ := hrel
    have HB := hide hb
    have HA := hide hall
    clear hb hall
    by_cases hlt : k < xs.length
    · obtain ⟨m, rfl⟩ : ∃ m, k = m + 1 := ⟨k - 1, by omega⟩
      rw [Nat.add_sub_cancel] at HA
      have hml : m < xs.length := by omega
      have hm0 : (0 : Int) ≤ (m : Int) + 1 := by omega
      have hw : IntKind.i64.wrap (m : Int) = (m : Int) := by rw [IntKind.wrap_i64]; omega
      have hk1' : ((m + 1 : Nat) : Int) - 1 = (m : Int) := by omega
      obtain ⟨b, off, rfl, hbB, hc⟩ := h4 (by rintro rfl; simp at hlt)
      have hst : rise ltB ((xs.drop m).map (·.1)) = (ltB (xs[m]'(by omega)).1 (xs[m + 1]'hlt).1 && rise ltB ((xs.drop (m + 1)).map (·.1))) := by
        rw [List.drop_eq_getElem_cons (show m < xs.length by omega), List.drop_eq_getElem_cons hlt]
        rfl
      obtain ⟨x, hx⟩ : ∃ x, x = xs[m] := ⟨_, rfl⟩
      obtain ⟨y, hy⟩ : ∃ y, y = xs[m + 1] := ⟨_, rfl⟩
      rw [← hx, ← hy] at hst
      have hcx := hc m (by omega)
      have hcy := hc (m + 1) hlt
      rw [← hx] at hcx
      rw [← hy] at hcy
      have c0 : wr.cell? ⟨b, off + m * 3, none⟩ = some (.string (strB x.1)) := by
        have := (HB.out.cell (p := ⟨b, off + m * 3 + 0, none⟩) hbB).trans (hcx 0 _ rfl)
        simpa using this
      have c1 : wr.cell? ⟨b, off + m * 3 + 1, none⟩ = some (.string (strB x.2.1)) := by
        have := (HB.out.cell (p := ⟨b, off + m * 3 + 1, none⟩) hbB).trans (hcx 1 _ rfl)
        simpa using this
      have c2 : wr.cell? ⟨b, off + m * 3 + 2, none⟩ = some (.int .i64 x.2.2) := by
        have := (HB.out.cell (p := ⟨b, off + m * 3 + 2, none⟩) hbB).trans (hcx 2 _ rfl)
        simpa using this
      have d0 : wr.cell? ⟨b, off + (m + 1) * 3, none⟩ = some (.string (strB y.1)) := by
        have := (HB.out.cell (p := ⟨b, off + (m + 1) * 3 + 0, none⟩) hbB).trans (hcy 0 _ rfl)
        simpa using this
      have d1 : wr.cell? ⟨b, off + (m + 1) * 3 + 1, none⟩ = some (.string (strB y.2.1)) := by
        have := (HB.out.cell (p := ⟨b, off + (m + 1) * 3 + 1, none⟩) hbB).trans (hcy 1 _ rfl)
        simpa using this
      have d2 : wr.cell? ⟨b, off + (m + 1) * 3 + 2, none⟩ = some (.int .i64 y.2.2) := by
        have := (HB.out.cell (p := ⟨b, off + (m + 1) * 3 + 2, none⟩) hbB).trans (hcy 2 _ rfl)
        simpa using this
      have HST := hide hst
      clear hst hc hcx hcy hx hy h4
      have hge := geq_str 9 x.1 y.1
      have hkp : ∀ (W : World) (i : Nat) (u : Value), Below wr.heap.size wr W → wr.cell? ⟨b, i, none⟩ = some u → W.cell? ⟨b, i, none⟩ = some u := fun W i u hW hu => (hW.cell (p := ⟨b, i, none⟩) (Nat.lt_of_lt_of_le hbB HB.out.size)).trans hu
      go_wp2_with fail
      refine wp_region_held_drew (S := fun W => W.cell? ⟨b, off + m * 3, none⟩ = some (.string (strB x.1)) ∧ W.cell? ⟨b, off + m * 3 + 1, none⟩ = some (.string (strB x.2.1)) ∧ W.cell? ⟨b, off + m * 3 + 2, none⟩ = some (.int .i64 x.2.2) ∧ W.cell? ⟨b, off + (m + 1) * 3, none⟩ = some (.string (strB y.1)) ∧ W.cell? ⟨b, off + (m + 1) * 3 + 1, none⟩ = some (.string (strB y.2.1)) ∧ W.cell? ⟨b, off + (m + 1) * 3 + 2, none⟩ = some (.int .i64 y.2.2)) (by kernel_rfl) (⟨c0, c1, c2, d0, d1, d2⟩) (fun hHeld => ?_)
      refine takeH (i := 0) (v := ?_) rfl (by kernel_rfl) (by kernel_rfl) (by kernel_rfl) (fun _ _ _ h => h) rfl ?_ hHeld ?_
      rotate_left
      · intro w hS; (try dsimp only at hS); obtain ⟨hS0, hS1, hS2, hS3, hS4, hS5⟩ := hS; go_simp; first | done | (with_reducible rfl)
      try simp only [Act.put, List.setIfInBounds_toArray, List.set_cons_zero, List.set_cons_succ]
      refine takeH (i := 1) (v := ?_) rfl (by kernel_rfl) (by kernel_rfl) (by kernel_rfl) (fun _ _ _ h => h) rfl ?_ hHeld ?_
      rotate_left
      · intro w hS; (try dsimp only at hS); obtain ⟨hS0, hS1, hS2, hS3, hS4, hS5⟩ := hS; go_simp; first | done | (with_reducible rfl)
      try simp only [Act.put, List.setIfInBounds_toArray, List.set_cons_zero, List.set_cons_succ]
      refine takeH (i := 2) (v := ?_) rfl (by kernel_rfl) (by kernel_rfl) (by kernel_rfl) (fun _ _ _ h => h) rfl ?_ hHeld ?_
      rotate_left
      · intro w hS; (try dsimp only at hS); obtain ⟨hS0, hS1, hS2, hS3, hS4, hS5⟩ := hS; go_simp; first | done | (with_reducible rfl)
      try simp only [Act.put, List.setIfInBounds_toArray, List.set_cons_zero, List.set_cons_succ]
      refine takeH (i := 3) (v := ?_) rfl (by kernel_rfl) (by kernel_rfl) (by kernel_rfl) (fun _ _ _ h => h) rfl ?_ hHeld ?_
      rotate_left
      · intro w hS; (try dsimp only at hS); obtain ⟨hS0, hS1, hS2, hS3, hS4, hS5⟩ := hS; go_simp; first | done | (with_reducible rfl)
      try simp only [Act.put, List.setIfInBounds_toArray, List.set_cons_zero, List.set_cons_succ]
      refine takeH (i := 4) (v := ?_) rfl (by kernel_rfl) (by kernel_rfl) (by kernel_rfl) (fun _ _ _ h => h) rfl ?_ hHeld ?_
      rotate_left
      · intro w hS; (try dsimp only at hS); obtain ⟨hS0, hS1, hS2, hS3, hS4, hS5⟩ := hS; go_simp; first | done | (with_reducible rfl)
      try simp only [Act.put, List.setIfInBounds_toArray, List.set_cons_zero, List.set_cons_succ]
      refine takeH (i := 5) (v := ?_) rfl (by kernel_rfl) (by kernel_rfl) (by kernel_rfl) (fun _ _ _ h => h) rfl ?_ hHeld ?_
      rotate_left
      · intro w hS; (try dsimp only at hS); obtain ⟨hS0, hS1, hS2, hS3, hS4, hS5⟩ := hS; go_simp; first | done | (with_reducible rfl)
      try simp only [Act.put, List.setIfInBounds_toArray, List.set_cons_zero, List.set_cons_succ]
      refine takeH (i := 7) (v := ?_) rfl (by kernel_rfl) (by kernel_rfl) (by kernel_rfl) (fun _ _ _ h => h) rfl ?_ hHeld ?_
      rotate_left
      · intro w hS; (try dsimp only at hS); obtain ⟨hS0, hS1, hS2, hS3, hS4, hS5⟩ := hS; go_simp; first | done | (with_reducible rfl)
      try simp only [Act.put, List.setIfInBounds_toArray, List.set_cons_zero, List.set_cons_succ]
      refine takeH (i := 8) (v := ?_) rfl (by kernel_rfl) (by kernel_rfl) (by kernel_rfl) (fun _ _ _ h => h) rfl ?_ hHeld ?_
      rotate_left
      · intro w hS; (try dsimp only at hS); obtain ⟨hS0, hS1, hS2, hS3, hS4, hS5⟩ := hS; go_simp; first | done | (with_reducible rfl)
      try simp only [Act.put, List.setIfInBounds_toArray, List.set_cons_zero, List.set_cons_succ]
      refine takeH (i := 9) (v := ?_) rfl (by kernel_rfl) (by kernel_rfl) (by kernel_rfl) (fun _ _ _ h => h) rfl ?_ hHeld ?_
      rotate_left
      · intro w hS; (try dsimp only at hS); obtain ⟨hS0, hS1, hS2, hS3, hS4, hS5⟩ := hS; go_simp; first | done | (with_reducible rfl)
      try simp only [Act.put, List.setIfInBounds_toArray, List.set_cons_zero, List.set_cons_succ]
      refine takeH (i := 10) (v := ?_) rfl (by kernel_rfl) (by kernel_rfl) (by kernel_rfl) (fun _ _ _ h => h) rfl ?_ hHeld ?_
      rotate_left
      · intro w hS; (try dsimp only at hS); obtain ⟨hS0, hS1, hS2, hS3, hS4, hS5⟩ := hS; go_simp; first | done | (with_reducible rfl)
      try simp only [Act.put, List.setIfInBounds_toArray, List.set_cons_zero, List.set_cons_succ]
      refine takeH (i := 11) (v := ?_) rfl (by kernel_rfl) (by kernel_rfl) (by kernel_rfl) (fun _ _ _ h => h) rfl ?_ hHeld ?_
      rotate_left
      · intro w hS; (try dsimp only at hS); obtain ⟨hS0, hS1, hS2, hS3, hS4, hS5⟩ := hS; go_simp; first | done | (with_reducible rfl)
      try simp only [Act.put, List.setIfInBounds_toArray, List.set_cons_zero, List.set_cons_succ]
      refine onlyH (i := 6) rfl (by kernel_rfl) rfl (fun K hK => ?_)
      go_simp
      refine (branch2_any _ x).mono ?_
      rintro e w2 ⟨rfl, hb2⟩
      have hb2' : Below wr.heap.size wr w2 := (Below.refl wr.heap.size wr).drew.trans hb2
      refine hK.out _ _ (⟨hkp w2 _ _ hb2' c0, hkp w2 _ _ hb2' c1, hkp w2 _ _ hb2' c2, hkp w2 _ _ hb2' d0, hkp w2 _ _ hb2' d1, hkp w2 _ _ hb2' d2⟩) (fun hHeld => ?_)
      clear hK K
      try simp only [Act.put, List.setIfInBounds_toArray, List.set_cons_zero, List.set_cons_succ]
      refine onlyH (i := 12) rfl (by kernel_rfl) rfl (fun K hK => ?_)
      go_simp
      refine (branch2_any _ y).mono ?_
      rintro e w3 ⟨rfl, hb3⟩
      have hb3' : Below wr.heap.size wr w3 := hb2'.trans (hb3.mono hb2'.size)
      refine hK.out _ _ (⟨hkp w3 _ _ hb3' c0, hkp w3 _ _ hb3' c1, hkp w3 _ _ hb3' c2, hkp w3 _ _ hb3' d0, hkp w3 _ _ hb3' d1, hkp w3 _ _ hb3' d2⟩) (fun hHeld => ?_)
      clear hK K
      try simp only [Act.put, List.setIfInBounds_toArray, List.set_cons_zero, List.set_cons_succ]
      refine takeH (i := 13) (v := ?_) rfl (by kernel_rfl) (by kernel_rfl) (by kernel_rfl) (fun _ _ _ h => h) rfl ?_ hHeld ?_
      rotate_left
      · intro w hS; (try dsimp only at hS); obtain ⟨hS0, hS1, hS2, hS3, hS4, hS5⟩ := hS; go_simp; first | done | (with_reducible rfl)
      try simp only [Act.put, List.setIfInBounds_toArray, List.set_cons_zero, List.set_cons_succ]
      refine wpAnyH_done (by kernel_rfl) ?_ _
      clear hHeld
      have HB3 : Hid (Below w.heap.size w w3) := hide (HB.out.trans (hb3'.mono HB.out.size))
      clear hb2 hb2' hb3 hb3' hkp
      by_cases hf : ltB x.1 y.1 = true
      · rw [hf]
        go_wp2
        go_roundw
        case rel =>
          refine ⟨m + 1 + 1, by omega, .inl (by omega), by go_num, ?_, HB3.out⟩
          rw [HA.out, HST.out, hf, Nat.add_sub_cancel]
          rfl
        case measure => simp [intOf]; omega
      · have hf := Bool.eq_false_iff.2 hf
        rw [hf]
        go_wp2
        go_ret
        exact ⟨ret_bool (by rw [HA.out, HST.out, hf]; rfl), HB3.out⟩
    · have ht : rise ltB ((xs.drop (k - 1)).map (·.1)) = true := by
        have hl : (xs.drop (k - 1)).length ≤ 1 := by rw [List.length_drop]; omega
        match xs.drop (k - 1), hl with
        | [], _ => rfl
        | [_], _ => rfl
      go_wp2
      go_ret
      exact ⟨ret_bool (by rw [HA.out, ht]), HB.out⟩
end Go.Proofs.YtdbmngbinhemeabGreatDoor
namespace Go.Proofs.YtdbmngbinhemeabGreatDoor
open Go.RowKit

theorem Ls.alloc {α : Type} {w : World} {k : Nat} {cs : α → List Value} {v : Value} {xs : List α} (h : Ls w.heap.size w k cs v xs) (o : Obj) : Ls (w.alloc o).heap.size (w.alloc o) k cs v xs :=
  (h.keep ((Below.refl _ _).alloc (Nat.le_refl _) o)).up (by simp)
theorem Ls.past {α : Type} {w w' : World} {k : Nat} {cs : α → List Value} {v : Value} {xs : List α} (h : Ls w.heap.size w k cs v xs) (hb : Below w.heap.size w w') : Ls w'.heap.size w' k cs v xs := (h.keep hb).up hb.size
theorem sizeRight_any (w : World) (k n : Int) : Calls Tryz.prog 123 #[.int .i64 k, .int .i64 n] w fun e w' => e = .returned (.bool (sizeOk k n)) ∧ w' = w := by
  by_cases h1 : k = 1
  · subst h1
    by_cases h : 0 ≤ n
    all_goals
      go_enter Tryz.func123, Tryz.ntmps123
      go_wp2
      go_ret
      refine ⟨ret_bool ?_, rfl⟩
      rw [Bool.eq_iff_iff]; simp [sizeOk]; omega
  · by_cases h2 : k = 2
    · subst h2
      by_cases h : 1 ≤ n
      all_goals
        go_enter Tryz.func123, Tryz.ntmps123
        go_wp2
        go_ret
        refine ⟨ret_bool ?_, rfl⟩
        rw [Bool.eq_iff_iff]; simp [sizeOk]; omega
    · have b1 : (k == 1) = false := by simpa using h1
      have b2 : (k == 2) = false := by simpa using h2
      go_enter Tryz.func123, Tryz.ntmps123
      go_wp2
      go_ret
      refine ⟨ret_bool ?_, rfl⟩
      simp [sizeOk, h1, h2]

set_option maxRecDepth 20000 in
theorem fanRight_any (w : World) (f : Fan) (v : Value) (hv : Ls w.heap.size w 2 partC v f.2) :
    Calls Tryz.prog 74 #[.agg #[.int .i64 f.1, v]] w fun e w' => e = .returned (.bool (fanOk f)) ∧ Below w.heap.size w w' := by
  have hL0 := hv.alloc (.cells #[.int .i64 f.1, v] 46)
  have hbA0 : Below w.heap.size w (w.alloc (.cells #[.int .i64 f.1, v] 46)) := (Below.refl _ _).alloc (Nat.le_refl _) _
  have x0 := heap_last w (.cells #[.int .i64 f.1, v] 46) _ rfl
  obtain ⟨ao, cap, rfl, g1, g2, -⟩ := hv
  unfold maxLen at g2
  by_cases h0 : levelB f.1 = true
  rotate_left
  · have h0 := Bool.eq_false_iff.2 h0
    go_enter Tryz.func74, Tryz.ntmps74
    go_wp2_with fail
    refine (isLevel_any _ f.1).mono ?_
    rintro e w1 ⟨rfl, rfl⟩
    rw [h0]
    go_wp2
    go_ret
    exact ⟨ret_bool (by simp [fanOk, h0]), hbA0⟩
  by_cases h1p : 1 ≤ f.2.length
  rotate_left
  · have h1 : decide (1 ≤ f.2.length) = false := by simpa using h1p
    go_enter Tryz.func74, Tryz.ntmps74
    go_wp2_with fail
    refine (isLevel_any _ f.1).mono ?_
    rintro e w1 ⟨rfl, rfl⟩
    rw [h0]
    go_wp2
    go_ret
    exact ⟨ret_bool (by simp [fanOk, h0, h1]), hbA0⟩
  have h1 : decide (1 ≤ f.2.length) = true := by simpa using h1p
  by_cases h2p : f.2.length ≤ 32
  rotate_left
  · have h2 : decide (f.2.length ≤ 32) = false := by simpa using h2p
    go_enter Tryz.func74, Tryz.ntmps74
    go_wp2_with fail
    refine (isLevel_any _ f.1).mono ?_
    rintro e w1 ⟨rfl, rfl⟩
    rw [h0]
    go_wp2
    go_ret
    exact ⟨ret_bool (by simp [fanOk, h0, h1, h2]), hbA0⟩
  have h2 : decide (f.2.length ≤ 32) = true := by simpa using h2p
  by_cases h3 : f.2.all (fun p => isIdB p.1) = true
  rotate_left
  · have h3 := Bool.eq_false_iff.2 h3
    go_enter Tryz.func74, Tryz.ntmps74
    go_wp2_with fail
    refine (isLevel_any _ f.1).mono ?_
    rintro e w1 ⟨rfl, rfl⟩
    rw [h0]
    go_wp2_with fail
    refine (eachParts_any _ _ f.2 hL0).mono ?_
    rintro e w1 ⟨rfl, hb1⟩
    rw [h3]
    have hbA1 := hbA0.trans (hb1.mono hbA0.size)
    have x1 := (hb1.block _ (lt_of_heap x0)).trans x0
    have c10 := cell_of_row w1 w.heap.size 0 _ _ _ x1
    simp only [List.getElem?_toArray, List.getElem?_cons_zero] at c10
    have c11 := cell_of_row w1 w.heap.size 1 _ _ _ x1
    simp only [List.getElem?_toArray, List.getElem?_cons_zero, List.getElem?_cons_succ] at c11
    have hL1 := hL0.past hb1
    clear hb1 hL0
    go_wp2
    go_ret
    exact ⟨ret_bool (by simp [fanOk, h0, h1, h2, h3]), hbA1⟩
  by_cases h4 : within (f.2.map (fun p => p.2)) 262144 = true
  rotate_left
  · have h4 := Bool.eq_false_iff.2 h4
    go_enter Tryz.func74, Tryz.ntmps74
    go_wp2_with fail
    refine (isLevel_any _ f.1).mono ?_
    rintro e w1 ⟨rfl, rfl⟩
    rw [h0]
    go_wp2_with fail
    refine (eachParts_any _ _ f.2 hL0).mono ?_
    rintro e w1 ⟨rfl, hb1⟩
    rw [h3]
    have hbA1 := hbA0.trans (hb1.mono hbA0.size)
    have x1 := (hb1.block _ (lt_of_heap x0)).trans x0
    have c10 := cell_of_row w1 w.heap.size 0 _ _ _ x1
    simp only [List.getElem?_toArray, List.getElem?_cons_zero] at c10
    have c11 := cell_of_row w1 w.heap.size 1 _ _ _ x1
    simp only [List.getElem?_toArray, List.getElem?_cons_zero, List.getElem?_cons_succ] at c11
    have hL1 := hL0.past hb1
    clear hb1 hL0
    go_wp2_with fail
    refine (sumParts_any _ _ f.2 hL1).mono ?_
    rintro e w2 ⟨rfl, hb2⟩
    rw [h4]
    have hbA2 := hbA1.trans (hb2.mono hbA1.size)
    have x2 := (hb2.block _ (lt_of_heap x1)).trans x1
    have c20 := cell_of_row w2 w.heap.size 0 _ _ _ x2
    simp only [List.getElem?_toArray, List.getElem?_cons_zero] at c20
    have c21 := cell_of_row w2 w.heap.size 1 _ _ _ x2
    simp only [List.getElem?_toArray, List.getElem?_cons_zero, List.getElem?_cons_succ] at c21
    have hL2 := hL1.past hb2
    clear hb2 hL1
    go_wp2
    go_ret
    exact ⟨ret_bool (by simp [fanOk, h0, h1, h2, h3, h4]), hbA2⟩
  go_enter Tryz.func74, Tryz.ntmps74
  go_wp2_with fail
  refine (isLevel_any _ f.1).mono ?_
  rintro e w1 ⟨rfl, rfl⟩
  rw [h0]
  go_wp2_with fail
  refine (eachParts_any _ _ f.2 hL0).mono ?_
  rintro e w1 ⟨rfl, hb1⟩
  rw [h3]
  have hbA1 := hbA0.trans (hb1.mono hbA0.size)
  have x1 := (hb1.block _ (lt_of_heap x0)).trans x0
  have c10 := cell_of_row w1 w.heap.size 0 _ _ _ x1
  simp only [List.getElem?_toArray, List.getElem?_cons_zero] at c10
  have c11 := cell_of_row w1 w.heap.size 1 _ _ _ x1
  simp only [List.getElem?_toArray, List.getElem?_cons_zero, List.getElem?_cons_succ] at c11
  have hL1 := hL0.past hb1
  clear hb1 hL0
  go_wp2_with fail
  refine (sumParts_any _ _ f.2 hL1).mono ?_
  rintro e w2 ⟨rfl, hb2⟩
  rw [h4]
  have hbA2 := hbA1.trans (hb2.mono hbA1.size)
  have x2 := (hb2.block _ (lt_of_heap x1)).trans x1
  have c20 := cell_of_row w2 w.heap.size 0 _ _ _ x2
  simp only [List.getElem?_toArray, List.getElem?_cons_zero] at c20
  have c21 := cell_of_row w2 w.heap.size 1 _ _ _ x2
  simp only [List.getElem?_toArray, List.getElem?_cons_zero, List.getElem?_cons_succ] at c21
  have hL2 := hL1.past hb2
  clear hb2 hL1
  go_wp2
  go_ret
  exact ⟨ret_bool (by simp [fanOk, h0, h1, h2, h3, h4]), hbA2⟩

set_option maxRecDepth 20000 in
theorem leafRight_any (w : World) (f : List Pair) (v : Value) (hv : Ls w.heap.size w 2 pairC v f) :
    Calls Tryz.prog 24 #[v] w fun e w' => e = .returned (.bool (leafOk ltB f)) ∧ Below w.heap.size w w' := by
  have hL0 := hv
  have hbA0 : Below w.heap.size w w := Below.refl _ _
  obtain ⟨ao, cap, rfl, g1, g2, -⟩ := hv
  unfold maxLen at g2
  by_cases h0p : f.length ≤ 64
  rotate_left
  · have h0 : decide (f.length ≤ 64) = false := by simpa using h0p
    go_enter Tryz.func24, Tryz.ntmps24
    go_wp2
    go_ret
    exact ⟨ret_bool (by simp [leafOk, h0]), hbA0⟩
  have h0 : decide (f.length ≤ 64) = true := by simpa using h0p
  by_cases h1 : f.all (fun p => isKeyB p.1 && decide (p.2.length ≤ 128)) = true
  rotate_left
  · have h1 := Bool.eq_false_iff.2 h1
    go_enter Tryz.func24, Tryz.ntmps24
    go_wp2_with fail
    refine (eachPairs_any _ _ f hL0).mono ?_
    rintro e w1 ⟨rfl, hb1⟩
    rw [h1]
    have hbA1 := hbA0.trans (hb1.mono hbA0.size)
    have hL1 := hL0.past hb1
    clear hb1 hL0
    go_wp2
    go_ret
    exact ⟨ret_bool (by simp [leafOk, h0, h1]), hbA1⟩
  by_cases h2 : rise ltB (f.map (fun p => p.1)) = true
  rotate_left
  · have h2 := Bool.eq_false_iff.2 h2
    go_enter Tryz.func24, Tryz.ntmps24
    go_wp2_with fail
    refine (eachPairs_any _ _ f hL0).mono ?_
    rintro e w1 ⟨rfl, hb1⟩
    rw [h1]
    have hbA1 := hbA0.trans (hb1.mono hbA0.size)
    have hL1 := hL0.past hb1
    clear hb1 hL0
    go_wp2_with fail
    refine (risePairs_any _ _ f hL1).mono ?_
    rintro e w2 ⟨rfl, hb2⟩
    rw [h2]
    have hbA2 := hbA1.trans (hb2.mono hbA1.size)
    have hL2 := hL1.past hb2
    clear hb2 hL1
    go_wp2
    go_ret
    exact ⟨ret_bool (by simp [leafOk, h0, h1, h2]), hbA2⟩
  go_enter Tryz.func24, Tryz.ntmps24
  go_wp2_with fail
  refine (eachPairs_any _ _ f hL0).mono ?_
  rintro e w1 ⟨rfl, hb1⟩
  rw [h1]
  have hbA1 := hbA0.trans (hb1.mono hbA0.size)
  have hL1 := hL0.past hb1
  clear hb1 hL0
  go_wp2_with fail
  refine (risePairs_any _ _ f hL1).mono ?_
  rintro e w2 ⟨rfl, hb2⟩
  rw [h2]
  have hbA2 := hbA1.trans (hb2.mono hbA1.size)
  have hL2 := hL1.past hb2
  clear hb2 hL1
  go_wp2
  go_ret
  exact ⟨ret_bool (by simp [leafOk, h0, h1, h2]), hbA2⟩

set_option maxRecDepth 20000 in
theorem branchRight_any (w : World) (f : Branch) (v : Value) (hv : Ls w.heap.size w 3 linkC v f.2) :
    Calls Tryz.prog 78 #[.agg #[.int .i64 f.1, v]] w fun e w' => e = .returned (.bool (branchOk ltB f)) ∧ Below w.heap.size w w' := by
  have hL0 := hv.alloc (.cells #[.int .i64 f.1, v] 54)
  have hbA0 : Below w.heap.size w (w.alloc (.cells #[.int .i64 f.1, v] 54)) := (Below.refl _ _).alloc (Nat.le_refl _) _
  have x0 := heap_last w (.cells #[.int .i64 f.1, v] 54) _ rfl
  obtain ⟨ao, cap, rfl, g1, g2, -⟩ := hv
  unfold maxLen at g2
  by_cases h0 : levelB f.1 = true
  rotate_left
  · have h0 := Bool.eq_false_iff.2 h0
    go_enter Tryz.func78, Tryz.ntmps78
    go_wp2_with fail
    refine (isLevel_any _ f.1).mono ?_
    rintro e w1 ⟨rfl, rfl⟩
    rw [h0]
    go_wp2
    go_ret
    exact ⟨ret_bool (by simp [branchOk, h0]), hbA0⟩
  by_cases h1p : 1 ≤ f.2.length
  rotate_left
  · have h1 : decide (1 ≤ f.2.length) = false := by simpa using h1p
    go_enter Tryz.func78, Tryz.ntmps78
    go_wp2_with fail
    refine (isLevel_any _ f.1).mono ?_
    rintro e w1 ⟨rfl, rfl⟩
    rw [h0]
    go_wp2
    go_ret
    exact ⟨ret_bool (by simp [branchOk, h0, h1]), hbA0⟩
  have h1 : decide (1 ≤ f.2.length) = true := by simpa using h1p
  by_cases h2p : f.2.length ≤ 64
  rotate_left
  · have h2 : decide (f.2.length ≤ 64) = false := by simpa using h2p
    go_enter Tryz.func78, Tryz.ntmps78
    go_wp2_with fail
    refine (isLevel_any _ f.1).mono ?_
    rintro e w1 ⟨rfl, rfl⟩
    rw [h0]
    go_wp2
    go_ret
    exact ⟨ret_bool (by simp [branchOk, h0, h1, h2]), hbA0⟩
  have h2 : decide (f.2.length ≤ 64) = true := by simpa using h2p
  by_cases h3 : f.2.all (fun p => isKeyB p.1 && isIdB p.2.1) = true
  rotate_left
  · have h3 := Bool.eq_false_iff.2 h3
    go_enter Tryz.func78, Tryz.ntmps78
    go_wp2_with fail
    refine (isLevel_any _ f.1).mono ?_
    rintro e w1 ⟨rfl, rfl⟩
    rw [h0]
    go_wp2_with fail
    refine (eachLinks_any _ _ f.2 hL0).mono ?_
    rintro e w1 ⟨rfl, hb1⟩
    rw [h3]
    have hbA1 := hbA0.trans (hb1.mono hbA0.size)
    have x1 := (hb1.block _ (lt_of_heap x0)).trans x0
    have c10 := cell_of_row w1 w.heap.size 0 _ _ _ x1
    simp only [List.getElem?_toArray, List.getElem?_cons_zero] at c10
    have c11 := cell_of_row w1 w.heap.size 1 _ _ _ x1
    simp only [List.getElem?_toArray, List.getElem?_cons_zero, List.getElem?_cons_succ] at c11
    have hL1 := hL0.past hb1
    clear hb1 hL0
    go_wp2
    go_ret
    exact ⟨ret_bool (by simp [branchOk, h0, h1, h2, h3]), hbA1⟩
  by_cases h4 : rise ltB (f.2.map (fun p => p.1)) = true
  rotate_left
  · have h4 := Bool.eq_false_iff.2 h4
    go_enter Tryz.func78, Tryz.ntmps78
    go_wp2_with fail
    refine (isLevel_any _ f.1).mono ?_
    rintro e w1 ⟨rfl, rfl⟩
    rw [h0]
    go_wp2_with fail
    refine (eachLinks_any _ _ f.2 hL0).mono ?_
    rintro e w1 ⟨rfl, hb1⟩
    rw [h3]
    have hbA1 := hbA0.trans (hb1.mono hbA0.size)
    have x1 := (hb1.block _ (lt_of_heap x0)).trans x0
    have c10 := cell_of_row w1 w.heap.size 0 _ _ _ x1
    simp only [List.getElem?_toArray, List.getElem?_cons_zero] at c10
    have c11 := cell_of_row w1 w.heap.size 1 _ _ _ x1
    simp only [List.getElem?_toArray, List.getElem?_cons_zero, List.getElem?_cons_succ] at c11
    have hL1 := hL0.past hb1
    clear hb1 hL0
    go_wp2_with fail
    refine (riseLinks_any _ _ f.2 hL1).mono ?_
    rintro e w2 ⟨rfl, hb2⟩
    rw [h4]
    have hbA2 := hbA1.trans (hb2.mono hbA1.size)
    have x2 := (hb2.block _ (lt_of_heap x1)).trans x1
    have c20 := cell_of_row w2 w.heap.size 0 _ _ _ x2
    simp only [List.getElem?_toArray, List.getElem?_cons_zero] at c20
    have c21 := cell_of_row w2 w.heap.size 1 _ _ _ x2
    simp only [List.getElem?_toArray, List.getElem?_cons_zero, List.getElem?_cons_succ] at c21
    have hL2 := hL1.past hb2
    clear hb2 hL1
    go_wp2
    go_ret
    exact ⟨ret_bool (by simp [branchOk, h0, h1, h2, h3, h4]), hbA2⟩
  by_cases h5 : within (f.2.map (fun p => p.2.2)) 4096 = true
  rotate_left
  · have h5 := Bool.eq_false_iff.2 h5
    go_enter Tryz.func78, Tryz.ntmps78
    go_wp2_with fail
    refine (isLevel_any _ f.1).mono ?_
    rintro e w1 ⟨rfl, rfl⟩
    rw [h0]
    go_wp2_with fail
    refine (eachLinks_any _ _ f.2 hL0).mono ?_
    rintro e w1 ⟨rfl, hb1⟩
    rw [h3]
    have hbA1 := hbA0.trans (hb1.mono hbA0.size)
    have x1 := (hb1.block _ (lt_of_heap x0)).trans x0
    have c10 := cell_of_row w1 w.heap.size 0 _ _ _ x1
    simp only [List.getElem?_toArray, List.getElem?_cons_zero] at c10
    have c11 := cell_of_row w1 w.heap.size 1 _ _ _ x1
    simp only [List.getElem?_toArray, List.getElem?_cons_zero, List.getElem?_cons_succ] at c11
    have hL1 := hL0.past hb1
    clear hb1 hL0
    go_wp2_with fail
    refine (riseLinks_any _ _ f.2 hL1).mono ?_
    rintro e w2 ⟨rfl, hb2⟩
    rw [h4]
    have hbA2 := hbA1.trans (hb2.mono hbA1.size)
    have x2 := (hb2.block _ (lt_of_heap x1)).trans x1
    have c20 := cell_of_row w2 w.heap.size 0 _ _ _ x2
    simp only [List.getElem?_toArray, List.getElem?_cons_zero] at c20
    have c21 := cell_of_row w2 w.heap.size 1 _ _ _ x2
    simp only [List.getElem?_toArray, List.getElem?_cons_zero, List.getElem?_cons_succ] at c21
    have hL2 := hL1.past hb2
    clear hb2 hL1
    go_wp2_with fail
    refine (sumLinks_any _ _ f.2 hL2).mono ?_
    rintro e w3 ⟨rfl, hb3⟩
    rw [h5]
    have hbA3 := hbA2.trans (hb3.mono hbA2.size)
    have x3 := (hb3.block _ (lt_of_heap x2)).trans x2
    have c30 := cell_of_row w3 w.heap.size 0 _ _ _ x3
    simp only [List.getElem?_toArray, List.getElem?_cons_zero] at c30
    have c31 := cell_of_row w3 w.heap.size 1 _ _ _ x3
    simp only [List.getElem?_toArray, List.getElem?_cons_zero, List.getElem?_cons_succ] at c31
    have hL3 := hL2.past hb3
    clear hb3 hL2
    go_wp2
    go_ret
    exact ⟨ret_bool (by simp [branchOk, h0, h1, h2, h3, h4, h5]), hbA3⟩
  go_enter Tryz.func78, Tryz.ntmps78
  go_wp2_with fail
  refine (isLevel_any _ f.1).mono ?_
  rintro e w1 ⟨rfl, rfl⟩
  rw [h0]
  go_wp2_with fail
  refine (eachLinks_any _ _ f.2 hL0).mono ?_
  rintro e w1 ⟨rfl, hb1⟩
  rw [h3]
  have hbA1 := hbA0.trans (hb1.mono hbA0.size)
  have x1 := (hb1.block _ (lt_of_heap x0)).trans x0
  have c10 := cell_of_row w1 w.heap.size 0 _ _ _ x1
  simp only [List.getElem?_toArray, List.getElem?_cons_zero] at c10
  have c11 := cell_of_row w1 w.heap.size 1 _ _ _ x1
  simp only [List.getElem?_toArray, List.getElem?_cons_zero, List.getElem?_cons_succ] at c11
  have hL1 := hL0.past hb1
  clear hb1 hL0
  go_wp2_with fail
  refine (riseLinks_any _ _ f.2 hL1).mono ?_
  rintro e w2 ⟨rfl, hb2⟩
  rw [h4]
  have hbA2 := hbA1.trans (hb2.mono hbA1.size)
  have x2 := (hb2.block _ (lt_of_heap x1)).trans x1
  have c20 := cell_of_row w2 w.heap.size 0 _ _ _ x2
  simp only [List.getElem?_toArray, List.getElem?_cons_zero] at c20
  have c21 := cell_of_row w2 w.heap.size 1 _ _ _ x2
  simp only [List.getElem?_toArray, List.getElem?_cons_zero, List.getElem?_cons_succ] at c21
  have hL2 := hL1.past hb2
  clear hb2 hL1
  go_wp2_with fail
  refine (sumLinks_any _ _ f.2 hL2).mono ?_
  rintro e w3 ⟨rfl, hb3⟩
  rw [h5]
  have hbA3 := hbA2.trans (hb3.mono hbA2.size)
  have x3 := (hb3.block _ (lt_of_heap x2)).trans x2
  have c30 := cell_of_row w3 w.heap.size 0 _ _ _ x3
  simp only [List.getElem?_toArray, List.getElem?_cons_zero] at c30
  have c31 := cell_of_row w3 w.heap.size 1 _ _ _ x3
  simp only [List.getElem?_toArray, List.getElem?_cons_zero, List.getElem?_cons_succ] at c31
  have hL3 := hL2.past hb3
  clear hb3 hL2
  go_wp2
  go_ret
  exact ⟨ret_bool (by simp [branchOk, h0, h1, h2, h3, h4, h5]), hbA3⟩
end Go.Proofs.YtdbmngbinhemeabGreatDoor
