/-
  Texts joined: ORise, OSay, OTop1, OTop2, OTop3, OShown, OOnce, OCommit, OTop4, OEntry.
-/
import Derived.Test.YtldfjpgcemfpjaaM4OPlain
import Derived.Test.YtldfjpgcemfpjaaM5ORead
import Derived.Deep.Onto
import Derived.Lib.Bytealg
/-
  Whether keys rise. Condition: lists lie there.
-/
namespace Go.Proofs.Ytldfjpgcemfpjaa
open Go.RowKit

/-- How two texts stand, as the program asks it. -/
def ltB (a b : Bs) : Bool := Op.bytesLess a b
theorem toLr (l : List UInt8) : (strB l).toList = l := by rw [ByteArray.toList_eq]; exact strB_list l

theorem geq_str (t : TypeId) (a b : Bs) : binOp .geq t (.string (strB a)) (.string (strB b)) = pure (.bool (!ltB a b)) := by simp [binOp, Op.stringOp, toLr, ltB]

set_option maxRecDepth 20000 in
theorem risePairs_any (w : World) (v : Value) (xs : List (Pair)) (hv : Ls w.heap.size w 2 pairC v xs) :
    Calls Try.prog 93 #[v, .func (.func 94) #[] #[]] w fun e w' => e = .returned (.bool (rise ltB (xs.map (·.1)))) ∧ Below w.heap.size w w' := by
  obtain ⟨ao, cap, rfl, h1, h2, h4⟩ := hv
  unfold maxLen at h2
  go_enter Try.func93, Try.ntmps93
  go_wp2_with fail
  go_loopw [5] (fun t wr => ∃ k : Nat, 1 ≤ k ∧ (k ≤ xs.length ∨ k = 1) ∧ t = .int .i64 k ∧ rise ltB (xs.map (·.1)) = rise ltB ((xs.drop (k - 1)).map (·.1)) ∧ Below w.heap.size w wr)
    (fun t _ => xs.length - (intOf t).toNat)
  case atStart => exact ⟨1, by omega, .inr rfl, rfl, by simp, Below.refl _ _⟩
  case round =>
    obtain ⟨k, hk1, hk, rfl, hall, hb⟩ := hrel
    have HB := hide hb
    have HA := hide hall
    clear hb hall
    by_cases hlt : k < xs.length
    · obtain ⟨m, rfl⟩ : ∃ m, k = m + 1 := ⟨k - 1, by omega⟩
      rw [Nat.add_sub_cancel] at HA
      have hml : m < xs.length := by omega
      have hm0 : (0 : Int) ≤ (m : Int) + 1 := by omega
      have hw : IntKind.i64.wrap (m : Int) = (m : Int) := by rw [IntKind.wrap_i64]; omega
      have hk1' : ((m + 1 : Nat) : Int) - 1 = (m : Int) := by omega
      obtain ⟨b, off, rfl, hbB, hc⟩ := h4 (by rintro rfl; simp at hlt)
      have hst : rise ltB ((xs.drop m).map (·.1)) = (ltB (xs[m]'(by omega)).1 (xs[m + 1]'hlt).1 && rise ltB ((xs.drop (m + 1)).map (·.1))) := by
        rw [List.drop_eq_getElem_cons (show m < xs.length by omega), List.drop_eq_getElem_cons hlt]
        rfl
      obtain ⟨x, hx⟩ : ∃ x, x = xs[m] := ⟨_, rfl⟩
      obtain ⟨y, hy⟩ : ∃ y, y = xs[m + 1] := ⟨_, rfl⟩
      rw [← hx, ← hy] at hst
      have hcx := hc m (by omega)
      have hcy := hc (m + 1) hlt
      rw [← hx] at hcx
      rw [← hy] at hcy
      have c0 : wr.cell? ⟨b, off + m * 2, none⟩ = some (.string (strB x.1)) := by
        have := (HB.out.cell (p := ⟨b, off + m * 2 + 0, none⟩) hbB).trans (hcx 0 _ rfl)
        simpa using this
      have c1 : wr.cell? ⟨b, off + m * 2 + 1, none⟩ = some (.string (strB x.2)) := by
        have := (HB.out.cell (p := ⟨b, off + m * 2 + 1, none⟩) hbB).trans (hcx 1 _ rfl)
        simpa using this
      have d0 : wr.cell? ⟨b, off + (m + 1) * 2, none⟩ = some (.string (strB y.1)) := by
        have := (HB.out.cell (p := ⟨b, off + (m + 1) * 2 + 0, none⟩) hbB).trans (hcy 0 _ rfl)
        simpa using this
      have d1 : wr.cell? ⟨b, off + (m + 1) * 2 + 1, none⟩ = some (.string (strB y.2)) := by
        have := (HB.out.cell (p := ⟨b, off + (m + 1) * 2 + 1, none⟩) hbB).trans (hcy 1 _ rfl)
        simpa using this
      have HST := hide hst
      clear hst hc hcx hcy hx hy h4
      have hge := geq_str 9 x.1 y.1
      have hkp : ∀ (W : World) (i : Nat) (u : Value), Below wr.heap.size wr W → wr.cell? ⟨b, i, none⟩ = some u → W.cell? ⟨b, i, none⟩ = some u := fun W i u hW hu => (hW.cell (p := ⟨b, i, none⟩) (Nat.lt_of_lt_of_le hbB HB.out.size)).trans hu
      go_wp2_with fail
      refine wp_region_held_drew (S := fun W => W.cell? ⟨b, off + m * 2, none⟩ = some (.string (strB x.1)) ∧ W.cell? ⟨b, off + m * 2 + 1, none⟩ = some (.string (strB x.2)) ∧ W.cell? ⟨b, off + (m + 1) * 2, none⟩ = some (.string (strB y.1)) ∧ W.cell? ⟨b, off + (m + 1) * 2 + 1, none⟩ = some (.string (strB y.2))) (by kernel_rfl) (⟨c0, c1, d0, d1⟩) (fun hHeld => ?_)
      refine takeK 0 hHeld ?_
      refine takeK 1 hHeld ?_
      refine takeK 2 hHeld ?_
      refine takeK 3 hHeld ?_
      refine takeK 4 hHeld ?_
      refine takeK 5 hHeld ?_
      refine takeK 7 hHeld ?_
      refine takeK 8 hHeld ?_
      refine takeK 9 hHeld ?_
      refine takeK 10 hHeld ?_
      refine takeK 11 hHeld ?_
      refine onlyH (i := 6) rfl (by kernel_rfl) rfl (fun K hK => ?_)
      go_simp
      refine (leaf2_any _ x).mono ?_
      rintro e w2 ⟨rfl, hb2⟩
      have hb2' : Below wr.heap.size wr w2 := (Below.refl wr.heap.size wr).drew.trans hb2
      refine hK.out _ _ (⟨hkp w2 _ _ hb2' c0, hkp w2 _ _ hb2' c1, hkp w2 _ _ hb2' d0, hkp w2 _ _ hb2' d1⟩) (fun hHeld => ?_)
      clear hK K
      try simp only [Act.put, List.setIfInBounds_toArray, List.set_cons_zero, List.set_cons_succ]
      refine onlyH (i := 12) rfl (by kernel_rfl) rfl (fun K hK => ?_)
      go_simp
      refine (leaf2_any _ y).mono ?_
      rintro e w3 ⟨rfl, hb3⟩
      have hb3' : Below wr.heap.size wr w3 := hb2'.trans (hb3.mono hb2'.size)
      refine hK.out _ _ (⟨hkp w3 _ _ hb3' c0, hkp w3 _ _ hb3' c1, hkp w3 _ _ hb3' d0, hkp w3 _ _ hb3' d1⟩) (fun hHeld => ?_)
      clear hK K
      try simp only [Act.put, List.setIfInBounds_toArray, List.set_cons_zero, List.set_cons_succ]
      refine takeK 13 hHeld ?_
      refine wpAnyH_done (by kernel_rfl) ?_ _
      clear hHeld
      have HB3 : Hid (Below w.heap.size w w3) := hide (HB.out.trans (hb3'.mono HB.out.size))
      clear hb2 hb2' hb3 hb3' hkp
      by_cases hf : ltB x.1 y.1 = true
      · rw [hf]
        go_wp2
        go_roundw
        case rel =>
          refine ⟨m + 1 + 1, by omega, .inl (by omega), by go_num, ?_, HB3.out⟩
          rw [HA.out, HST.out, hf, Nat.add_sub_cancel]
          rfl
        case measure => simp [intOf]; omega
      · have hf := Bool.eq_false_iff.2 hf
        rw [hf]
        go_wp2
        go_ret
        exact ⟨ret_bool (by rw [HA.out, HST.out, hf]; rfl), HB3.out⟩
    · have ht : rise ltB ((xs.drop (k - 1)).map (·.1)) = true := by
        have hl : (xs.drop (k - 1)).length ≤ 1 := by rw [List.length_drop]; omega
        match xs.drop (k - 1), hl with
        | [], _ => rfl
        | [_], _ => rfl
      go_wp2
      go_ret
      exact ⟨ret_bool (by rw [HA.out, ht]), HB.out⟩

set_option maxRecDepth 20000 in
theorem riseLinks_any (w : World) (v : Value) (xs : List (Link)) (hv : Ls w.heap.size w 3 linkC v xs) :
    Calls Try.prog 102 #[v, .func (.func 103) #[] #[]] w fun e w' => e = .returned (.bool (rise ltB (xs.map (·.1)))) ∧ Below w.heap.size w w' := by
  obtain ⟨ao, cap, rfl, h1, h2, h4⟩ := hv
  unfold maxLen at h2
  go_enter Try.func102, Try.ntmps102
  go_wp2_with fail
  go_loopw [5] (fun t wr => ∃ k : Nat, 1 ≤ k ∧ (k ≤ xs.length ∨ k = 1) ∧ t = .int .i64 k ∧ rise ltB (xs.map (·.1)) = rise ltB ((xs.drop (k - 1)).map (·.1)) ∧ Below w.heap.size w wr)
    (fun t _ => xs.length - (intOf t).toNat)
  case atStart => exact ⟨1, by omega, .inr rfl, rfl, by simp, Below.refl _ _⟩
  case round =>
    obtain ⟨k, hk1, hk, rfl, hall, hb⟩ := hrel
    have HB := hide hb
    have HA := hide hall
    clear hb hall
    by_cases hlt : k < xs.length
    · obtain ⟨m, rfl⟩ : ∃ m, k = m + 1 := ⟨k - 1, by omega⟩
      rw [Nat.add_sub_cancel] at HA
      have hml : m < xs.length := by omega
      have hm0 : (0 : Int) ≤ (m : Int) + 1 := by omega
      have hw : IntKind.i64.wrap (m : Int) = (m : Int) := by rw [IntKind.wrap_i64]; omega
      have hk1' : ((m + 1 : Nat) : Int) - 1 = (m : Int) := by omega
      obtain ⟨b, off, rfl, hbB, hc⟩ := h4 (by rintro rfl; simp at hlt)
      have hst : rise ltB ((xs.drop m).map (·.1)) = (ltB (xs[m]'(by omega)).1 (xs[m + 1]'hlt).1 && rise ltB ((xs.drop (m + 1)).map (·.1))) := by
        rw [List.drop_eq_getElem_cons (show m < xs.length by omega), List.drop_eq_getElem_cons hlt]
        rfl
      obtain ⟨x, hx⟩ : ∃ x, x = xs[m] := ⟨_, rfl⟩
      obtain ⟨y, hy⟩ : ∃ y, y = xs[m + 1] := ⟨_, rfl⟩
      rw [← hx, ← hy] at hst
      have hcx := hc m (by omega)
      have hcy := hc (m + 1) hlt
      rw [← hx] at hcx
      rw [← hy] at hcy
      have c0 : wr.cell? ⟨b, off + m * 3, none⟩ = some (.string (strB x.1)) := by
        have := (HB.out.cell (p := ⟨b, off + m * 3 + 0, none⟩) hbB).trans (hcx 0 _ rfl)
        simpa using this
      have c1 : wr.cell? ⟨b, off + m * 3 + 1, none⟩ = some (.string (strB x.2.1)) := by
        have := (HB.out.cell (p := ⟨b, off + m * 3 + 1, none⟩) hbB).trans (hcx 1 _ rfl)
        simpa using this
      have c2 : wr.cell? ⟨b, off + m * 3 + 2, none⟩ = some (.int .i64 x.2.2) := by
        have := (HB.out.cell (p := ⟨b, off + m * 3 + 2, none⟩) hbB).trans (hcx 2 _ rfl)
        simpa using this
      have d0 : wr.cell? ⟨b, off + (m + 1) * 3, none⟩ = some (.string (strB y.1)) := by
        have := (HB.out.cell (p := ⟨b, off + (m + 1) * 3 + 0, none⟩) hbB).trans (hcy 0 _ rfl)
        simpa using this
      have d1 : wr.cell? ⟨b, off + (m + 1) * 3 + 1, none⟩ = some (.string (strB y.2.1)) := by
        have := (HB.out.cell (p := ⟨b, off + (m + 1) * 3 + 1, none⟩) hbB).trans (hcy 1 _ rfl)
        simpa using this
      have d2 : wr.cell? ⟨b, off + (m + 1) * 3 + 2, none⟩ = some (.int .i64 y.2.2) := by
        have := (HB.out.cell (p := ⟨b, off + (m + 1) * 3 + 2, none⟩) hbB).trans (hcy 2 _ rfl)
        simpa using this
      have HST := hide hst
      clear hst hc hcx hcy hx hy h4
      have hge := geq_str 9 x.1 y.1
      have hkp : ∀ (W : World) (i : Nat) (u : Value), Below wr.heap.size wr W → wr.cell? ⟨b, i, none⟩ = some u → W.cell? ⟨b, i, none⟩ = some u := fun W i u hW hu => (hW.cell (p := ⟨b, i, none⟩) (Nat.lt_of_lt_of_le hbB HB.out.size)).trans hu
      go_wp2_with fail
      refine wp_region_held_drew (S := fun W => W.cell? ⟨b, off + m * 3, none⟩ = some (.string (strB x.1)) ∧ W.cell? ⟨b, off + m * 3 + 1, none⟩ = some (.string (strB x.2.1)) ∧ W.cell? ⟨b, off + m * 3 + 2, none⟩ = some (.int .i64 x.2.2) ∧ W.cell? ⟨b, off + (m + 1) * 3, none⟩ = some (.string (strB y.1)) ∧ W.cell? ⟨b, off + (m + 1) * 3 + 1, none⟩ = some (.string (strB y.2.1)) ∧ W.cell? ⟨b, off + (m + 1) * 3 + 2, none⟩ = some (.int .i64 y.2.2)) (by kernel_rfl) (⟨c0, c1, c2, d0, d1, d2⟩) (fun hHeld => ?_)
      refine takeK 0 hHeld ?_
      refine takeK 1 hHeld ?_
      refine takeK 2 hHeld ?_
      refine takeK 3 hHeld ?_
      refine takeK 4 hHeld ?_
      refine takeK 5 hHeld ?_
      refine takeK 7 hHeld ?_
      refine takeK 8 hHeld ?_
      refine takeK 9 hHeld ?_
      refine takeK 10 hHeld ?_
      refine takeK 11 hHeld ?_
      refine onlyH (i := 6) rfl (by kernel_rfl) rfl (fun K hK => ?_)
      go_simp
      refine (branch2_any _ x).mono ?_
      rintro e w2 ⟨rfl, hb2⟩
      have hb2' : Below wr.heap.size wr w2 := (Below.refl wr.heap.size wr).drew.trans hb2
      refine hK.out _ _ (⟨hkp w2 _ _ hb2' c0, hkp w2 _ _ hb2' c1, hkp w2 _ _ hb2' c2, hkp w2 _ _ hb2' d0, hkp w2 _ _ hb2' d1, hkp w2 _ _ hb2' d2⟩) (fun hHeld => ?_)
      clear hK K
      try simp only [Act.put, List.setIfInBounds_toArray, List.set_cons_zero, List.set_cons_succ]
      refine onlyH (i := 12) rfl (by kernel_rfl) rfl (fun K hK => ?_)
      go_simp
      refine (branch2_any _ y).mono ?_
      rintro e w3 ⟨rfl, hb3⟩
      have hb3' : Below wr.heap.size wr w3 := hb2'.trans (hb3.mono hb2'.size)
      refine hK.out _ _ (⟨hkp w3 _ _ hb3' c0, hkp w3 _ _ hb3' c1, hkp w3 _ _ hb3' c2, hkp w3 _ _ hb3' d0, hkp w3 _ _ hb3' d1, hkp w3 _ _ hb3' d2⟩) (fun hHeld => ?_)
      clear hK K
      try simp only [Act.put, List.setIfInBounds_toArray, List.set_cons_zero, List.set_cons_succ]
      refine takeK 13 hHeld ?_
      refine wpAnyH_done (by kernel_rfl) ?_ _
      clear hHeld
      have HB3 : Hid (Below w.heap.size w w3) := hide (HB.out.trans (hb3'.mono HB.out.size))
      clear hb2 hb2' hb3 hb3' hkp
      by_cases hf : ltB x.1 y.1 = true
      · rw [hf]
        go_wp2
        go_roundw
        case rel =>
          refine ⟨m + 1 + 1, by omega, .inl (by omega), by go_num, ?_, HB3.out⟩
          rw [HA.out, HST.out, hf, Nat.add_sub_cancel]
          rfl
        case measure => simp [intOf]; omega
      · have hf := Bool.eq_false_iff.2 hf
        rw [hf]
        go_wp2
        go_ret
        exact ⟨ret_bool (by rw [HA.out, HST.out, hf]; rfl), HB3.out⟩
    · have ht : rise ltB ((xs.drop (k - 1)).map (·.1)) = true := by
        have hl : (xs.drop (k - 1)).length ≤ 1 := by rw [List.length_drop]; omega
        match xs.drop (k - 1), hl with
        | [], _ => rfl
        | [_], _ => rfl
      go_wp2
      go_ret
      exact ⟨ret_bool (by rw [HA.out, ht]), HB.out⟩
end Go.Proofs.Ytldfjpgcemfpjaa

/-
  Whether a fan, a leaf, a branch is right. Condition: lists lie there.
-/
namespace Go.Proofs.Ytldfjpgcemfpjaa
open Go.RowKit

theorem Ls.alloc {α : Type} {w : World} {k : Nat} {cs : α → List Value} {v : Value} {xs : List α} (h : Ls w.heap.size w k cs v xs) (o : Obj) : Ls (w.alloc o).heap.size (w.alloc o) k cs v xs :=
  (h.keep ((Below.refl _ _).alloc (Nat.le_refl _) o)).up (by simp)
theorem Ls.past {α : Type} {w w' : World} {k : Nat} {cs : α → List Value} {v : Value} {xs : List α} (h : Ls w.heap.size w k cs v xs) (hb : Below w.heap.size w w') : Ls w'.heap.size w' k cs v xs := (h.keep hb).up hb.size
set_option maxRecDepth 20000 in
theorem leafRight_any (w : World) (f : List Pair) (v : Value) (hv : Ls w.heap.size w 2 pairC v f) :
    Calls Try.prog 80 #[v] w fun e w' => e = .returned (.bool (leafOk ltB f)) ∧ Below w.heap.size w w' := by
  have hL0 := hv
  have hbA0 : Below w.heap.size w w := Below.refl _ _
  obtain ⟨ao, cap, rfl, g1, g2, -⟩ := hv
  unfold maxLen at g2
  by_cases h0p : f.length ≤ 64
  rotate_left
  · have h0 : decide (f.length ≤ 64) = false := by simpa using h0p
    go_enter Try.func80, Try.ntmps80
    go_wp2
    go_ret
    exact ⟨ret_bool (by simp [leafOk, h0]), hbA0⟩
  have h0 : decide (f.length ≤ 64) = true := by simpa using h0p
  by_cases h1 : f.all (fun p => isKeyB p.1 && decide (p.2.length ≤ 128)) = true
  rotate_left
  · have h1 := Bool.eq_false_iff.2 h1
    go_enter Try.func80, Try.ntmps80
    go_wp2_with fail
    refine (eachPairs_any _ _ f hL0).mono ?_
    rintro e w1 ⟨rfl, hb1⟩
    rw [h1]
    have hbA1 := hbA0.trans (hb1.mono hbA0.size)
    have hL1 := hL0.past hb1
    clear hb1 hL0
    go_wp2
    go_ret
    exact ⟨ret_bool (by simp [leafOk, h0, h1]), hbA1⟩
  by_cases h2 : rise ltB (f.map (fun p => p.1)) = true
  rotate_left
  · have h2 := Bool.eq_false_iff.2 h2
    go_enter Try.func80, Try.ntmps80
    go_wp2_with fail
    refine (eachPairs_any _ _ f hL0).mono ?_
    rintro e w1 ⟨rfl, hb1⟩
    rw [h1]
    have hbA1 := hbA0.trans (hb1.mono hbA0.size)
    have hL1 := hL0.past hb1
    clear hb1 hL0
    go_wp2_with fail
    refine (risePairs_any _ _ f hL1).mono ?_
    rintro e w2 ⟨rfl, hb2⟩
    rw [h2]
    have hbA2 := hbA1.trans (hb2.mono hbA1.size)
    have hL2 := hL1.past hb2
    clear hb2 hL1
    go_wp2
    go_ret
    exact ⟨ret_bool (by simp [leafOk, h0, h1, h2]), hbA2⟩
  go_enter Try.func80, Try.ntmps80
  go_wp2_with fail
  refine (eachPairs_any _ _ f hL0).mono ?_
  rintro e w1 ⟨rfl, hb1⟩
  rw [h1]
  have hbA1 := hbA0.trans (hb1.mono hbA0.size)
  have hL1 := hL0.past hb1
  clear hb1 hL0
  go_wp2_with fail
  refine (risePairs_any _ _ f hL1).mono ?_
  rintro e w2 ⟨rfl, hb2⟩
  rw [h2]
  have hbA2 := hbA1.trans (hb2.mono hbA1.size)
  have hL2 := hL1.past hb2
  clear hb2 hL1
  go_wp2
  go_ret
  exact ⟨ret_bool (by simp [leafOk, h0, h1, h2]), hbA2⟩

set_option maxRecDepth 20000 in
theorem branchRight_any (w : World) (f : Branch) (v : Value) (hv : Ls w.heap.size w 3 linkC v f.2) :
    Calls Try.prog 84 #[.agg #[.int .i64 f.1, v]] w fun e w' => e = .returned (.bool (branchOk ltB f)) ∧ Below w.heap.size w w' := by
  have hL0 := hv.alloc (.cells #[.int .i64 f.1, v] 99)
  have hbA0 : Below w.heap.size w (w.alloc (.cells #[.int .i64 f.1, v] 99)) := (Below.refl _ _).alloc (Nat.le_refl _) _
  have x0 := heap_last w (.cells #[.int .i64 f.1, v] 99) _ rfl
  obtain ⟨ao, cap, rfl, g1, g2, -⟩ := hv
  unfold maxLen at g2
  by_cases h0 : levelB f.1 = true
  rotate_left
  · have h0 := Bool.eq_false_iff.2 h0
    go_enter Try.func84, Try.ntmps84
    go_wp2_with fail
    refine (isLevel_any _ f.1).mono ?_
    rintro e w1 ⟨rfl, rfl⟩
    rw [h0]
    go_wp2
    go_ret
    exact ⟨ret_bool (by simp [branchOk, h0]), hbA0⟩
  by_cases h1p : 1 ≤ f.2.length
  rotate_left
  · have h1 : decide (1 ≤ f.2.length) = false := by simpa using h1p
    go_enter Try.func84, Try.ntmps84
    go_wp2_with fail
    refine (isLevel_any _ f.1).mono ?_
    rintro e w1 ⟨rfl, rfl⟩
    rw [h0]
    go_wp2
    go_ret
    exact ⟨ret_bool (by simp [branchOk, h0, h1]), hbA0⟩
  have h1 : decide (1 ≤ f.2.length) = true := by simpa using h1p
  by_cases h2p : f.2.length ≤ 64
  rotate_left
  · have h2 : decide (f.2.length ≤ 64) = false := by simpa using h2p
    go_enter Try.func84, Try.ntmps84
    go_wp2_with fail
    refine (isLevel_any _ f.1).mono ?_
    rintro e w1 ⟨rfl, rfl⟩
    rw [h0]
    go_wp2
    go_ret
    exact ⟨ret_bool (by simp [branchOk, h0, h1, h2]), hbA0⟩
  have h2 : decide (f.2.length ≤ 64) = true := by simpa using h2p
  by_cases h3 : f.2.all (fun p => isKeyB p.1 && isIdB p.2.1) = true
  rotate_left
  · have h3 := Bool.eq_false_iff.2 h3
    go_enter Try.func84, Try.ntmps84
    go_wp2_with fail
    refine (isLevel_any _ f.1).mono ?_
    rintro e w1 ⟨rfl, rfl⟩
    rw [h0]
    go_wp2_with fail
    refine (eachLinks_any _ _ f.2 hL0).mono ?_
    rintro e w1 ⟨rfl, hb1⟩
    rw [h3]
    have hbA1 := hbA0.trans (hb1.mono hbA0.size)
    have x1 := (hb1.block _ (lt_of_heap x0)).trans x0
    have c10 := cell_of_row w1 w.heap.size 0 _ _ _ x1
    simp only [List.getElem?_toArray, List.getElem?_cons_zero] at c10
    have c11 := cell_of_row w1 w.heap.size 1 _ _ _ x1
    simp only [List.getElem?_toArray, List.getElem?_cons_zero, List.getElem?_cons_succ] at c11
    have hL1 := hL0.past hb1
    clear hb1 hL0
    go_wp2
    go_ret
    exact ⟨ret_bool (by simp [branchOk, h0, h1, h2, h3]), hbA1⟩
  by_cases h4 : rise ltB (f.2.map (fun p => p.1)) = true
  rotate_left
  · have h4 := Bool.eq_false_iff.2 h4
    go_enter Try.func84, Try.ntmps84
    go_wp2_with fail
    refine (isLevel_any _ f.1).mono ?_
    rintro e w1 ⟨rfl, rfl⟩
    rw [h0]
    go_wp2_with fail
    refine (eachLinks_any _ _ f.2 hL0).mono ?_
    rintro e w1 ⟨rfl, hb1⟩
    rw [h3]
    have hbA1 := hbA0.trans (hb1.mono hbA0.size)
    have x1 := (hb1.block _ (lt_of_heap x0)).trans x0
    have c10 := cell_of_row w1 w.heap.size 0 _ _ _ x1
    simp only [List.getElem?_toArray, List.getElem?_cons_zero] at c10
    have c11 := cell_of_row w1 w.heap.size 1 _ _ _ x1
    simp only [List.getElem?_toArray, List.getElem?_cons_zero, List.getElem?_cons_succ] at c11
    have hL1 := hL0.past hb1
    clear hb1 hL0
    go_wp2_with fail
    refine (riseLinks_any _ _ f.2 hL1).mono ?_
    rintro e w2 ⟨rfl, hb2⟩
    rw [h4]
    have hbA2 := hbA1.trans (hb2.mono hbA1.size)
    have x2 := (hb2.block _ (lt_of_heap x1)).trans x1
    have c20 := cell_of_row w2 w.heap.size 0 _ _ _ x2
    simp only [List.getElem?_toArray, List.getElem?_cons_zero] at c20
    have c21 := cell_of_row w2 w.heap.size 1 _ _ _ x2
    simp only [List.getElem?_toArray, List.getElem?_cons_zero, List.getElem?_cons_succ] at c21
    have hL2 := hL1.past hb2
    clear hb2 hL1
    go_wp2
    go_ret
    exact ⟨ret_bool (by simp [branchOk, h0, h1, h2, h3, h4]), hbA2⟩
  by_cases h5 : within (f.2.map (fun p => p.2.2)) 4096 = true
  rotate_left
  · have h5 := Bool.eq_false_iff.2 h5
    go_enter Try.func84, Try.ntmps84
    go_wp2_with fail
    refine (isLevel_any _ f.1).mono ?_
    rintro e w1 ⟨rfl, rfl⟩
    rw [h0]
    go_wp2_with fail
    refine (eachLinks_any _ _ f.2 hL0).mono ?_
    rintro e w1 ⟨rfl, hb1⟩
    rw [h3]
    have hbA1 := hbA0.trans (hb1.mono hbA0.size)
    have x1 := (hb1.block _ (lt_of_heap x0)).trans x0
    have c10 := cell_of_row w1 w.heap.size 0 _ _ _ x1
    simp only [List.getElem?_toArray, List.getElem?_cons_zero] at c10
    have c11 := cell_of_row w1 w.heap.size 1 _ _ _ x1
    simp only [List.getElem?_toArray, List.getElem?_cons_zero, List.getElem?_cons_succ] at c11
    have hL1 := hL0.past hb1
    clear hb1 hL0
    go_wp2_with fail
    refine (riseLinks_any _ _ f.2 hL1).mono ?_
    rintro e w2 ⟨rfl, hb2⟩
    rw [h4]
    have hbA2 := hbA1.trans (hb2.mono hbA1.size)
    have x2 := (hb2.block _ (lt_of_heap x1)).trans x1
    have c20 := cell_of_row w2 w.heap.size 0 _ _ _ x2
    simp only [List.getElem?_toArray, List.getElem?_cons_zero] at c20
    have c21 := cell_of_row w2 w.heap.size 1 _ _ _ x2
    simp only [List.getElem?_toArray, List.getElem?_cons_zero, List.getElem?_cons_succ] at c21
    have hL2 := hL1.past hb2
    clear hb2 hL1
    go_wp2_with fail
    refine (sumLinks_any _ _ f.2 hL2).mono ?_
    rintro e w3 ⟨rfl, hb3⟩
    rw [h5]
    have hbA3 := hbA2.trans (hb3.mono hbA2.size)
    have x3 := (hb3.block _ (lt_of_heap x2)).trans x2
    have c30 := cell_of_row w3 w.heap.size 0 _ _ _ x3
    simp only [List.getElem?_toArray, List.getElem?_cons_zero] at c30
    have c31 := cell_of_row w3 w.heap.size 1 _ _ _ x3
    simp only [List.getElem?_toArray, List.getElem?_cons_zero, List.getElem?_cons_succ] at c31
    have hL3 := hL2.past hb3
    clear hb3 hL2
    go_wp2
    go_ret
    exact ⟨ret_bool (by simp [branchOk, h0, h1, h2, h3, h4, h5]), hbA3⟩
  go_enter Try.func84, Try.ntmps84
  go_wp2_with fail
  refine (isLevel_any _ f.1).mono ?_
  rintro e w1 ⟨rfl, rfl⟩
  rw [h0]
  go_wp2_with fail
  refine (eachLinks_any _ _ f.2 hL0).mono ?_
  rintro e w1 ⟨rfl, hb1⟩
  rw [h3]
  have hbA1 := hbA0.trans (hb1.mono hbA0.size)
  have x1 := (hb1.block _ (lt_of_heap x0)).trans x0
  have c10 := cell_of_row w1 w.heap.size 0 _ _ _ x1
  simp only [List.getElem?_toArray, List.getElem?_cons_zero] at c10
  have c11 := cell_of_row w1 w.heap.size 1 _ _ _ x1
  simp only [List.getElem?_toArray, List.getElem?_cons_zero, List.getElem?_cons_succ] at c11
  have hL1 := hL0.past hb1
  clear hb1 hL0
  go_wp2_with fail
  refine (riseLinks_any _ _ f.2 hL1).mono ?_
  rintro e w2 ⟨rfl, hb2⟩
  rw [h4]
  have hbA2 := hbA1.trans (hb2.mono hbA1.size)
  have x2 := (hb2.block _ (lt_of_heap x1)).trans x1
  have c20 := cell_of_row w2 w.heap.size 0 _ _ _ x2
  simp only [List.getElem?_toArray, List.getElem?_cons_zero] at c20
  have c21 := cell_of_row w2 w.heap.size 1 _ _ _ x2
  simp only [List.getElem?_toArray, List.getElem?_cons_zero, List.getElem?_cons_succ] at c21
  have hL2 := hL1.past hb2
  clear hb2 hL1
  go_wp2_with fail
  refine (sumLinks_any _ _ f.2 hL2).mono ?_
  rintro e w3 ⟨rfl, hb3⟩
  rw [h5]
  have hbA3 := hbA2.trans (hb3.mono hbA2.size)
  have x3 := (hb3.block _ (lt_of_heap x2)).trans x2
  have c30 := cell_of_row w3 w.heap.size 0 _ _ _ x3
  simp only [List.getElem?_toArray, List.getElem?_cons_zero] at c30
  have c31 := cell_of_row w3 w.heap.size 1 _ _ _ x3
  simp only [List.getElem?_toArray, List.getElem?_cons_zero, List.getElem?_cons_succ] at c31
  have hL3 := hL2.past hb3
  clear hb3 hL2
  go_wp2
  go_ret
  exact ⟨ret_bool (by simp [branchOk, h0, h1, h2, h3, h4, h5]), hbA3⟩
end Go.Proofs.Ytldfjpgcemfpjaa

/-
  Leaves made and read. Conditions: the table holds its numbers; lengths within reach.
-/
namespace Go.Proofs.Ytldfjpgcemfpjaa
open Go.RowKit

theorem flat_get {α : Type} (cs : α → List Value) (k : Nat) (hk : ∀ x, (cs x).length = k) : ∀ (xs : List α) (j i : Nat) (hj : j < xs.length), i < k → (xs.flatMap cs)[j * k + i]? = (cs xs[j])[i]?
  | [], j, i, hj, _ => by simp at hj
  | x :: xs, 0, i, _, hi => by
    rw [List.flatMap_cons, Nat.zero_mul, Nat.zero_add, List.getElem?_append_left (by rw [hk]; exact hi)]
    rfl
  | x :: xs, j + 1, i, hj, hi => by
    rw [List.flatMap_cons, List.getElem?_append_right (by rw [hk, Nat.add_mul]; omega), hk, show (j + 1) * k + i - k = j * k + i from by rw [Nat.add_mul]; omega, flat_get cs k hk xs j i (by simpa using hj) hi]
    rfl
theorem ls_of_own {α : Type} {w : World} {base k : Nat} {t : TypeId} {v : Value} {cs : α → List Value} {xs : List α} (hk : ∀ x, (cs x).length = k) (h : w.ownsRow base t k v xs.length (xs.flatMap cs)) : Ls w.heap.size w k cs v xs := by
  have h' := h
  obtain ⟨h1, h2⟩ := h
  rcases h2 with ⟨rfl, hn⟩ | ⟨g, cap, cur, rfl, hg, hh, hc, hm, hs, ht⟩
  · obtain rfl : xs = [] := List.eq_nil_of_length_eq_zero hn
    exact Ls.nil _ _ _ _
  · refine ⟨_, _, rfl, hc, hm, fun _ => ⟨g, 0, rfl, lt_of_heap hh, fun j hj i u hu => ?_⟩⟩
    have hi : i < k := by
      have := (List.getElem?_eq_some_iff.1 hu).1
      rwa [hk] at this
    have := h'.cells (g := g) rfl (j * k + i) u (by rw [flat_get cs k hk xs j i hj hi]; exact hu)
    rw [Addr.add_lit] at this
    rw [Nat.add_assoc]
    exact this
theorem own_below {w w' : World} {base k n : Nat} {t : TypeId} {v : Value} {xs : List Value} (h : w.ownsRow base t k v n xs) (hb : Below w.heap.size w w') : w'.ownsRow base t k v n xs :=
  h.kept (row := none) (gb_below hb) (by cases hq : v.ownBlock with | none => exact .inl rfl | some k => exact .inr (by simp))
/-- What bytes behind a mark say. -/
def taken {α : Type} (m : Bs) (one : Bs → Pos → α × Pos) (right : α → Bool) (b : Bs) : Option α :=
  if (one (begin m b).1 (begin m b).2).2 = some (begin m b).1.length ∧ right (one (begin m b).1 (begin m b).2).1 = true then some (one (begin m b).1 (begin m b).2).1 else none
theorem taken_iff {α : Type} {m : UInt8} {one : Bs → Pos → α × Pos} {right : α → Bool} {b : Bs} {enc : α → Bs} (hstop : (one [] none).2 = none) (h : ∀ l, l.length ≤ b.length → ∀ x, said one right l = some x ↔ right x = true ∧ l = enc x) (x : α) :
    taken [m] one right b = some x ↔ right x = true ∧ b = m :: enc x := by
  unfold taken begin
  cases b with
  | nil =>
    simp only [List.isPrefixOf]
    constructor
    · intro h1
      simp [hstop] at h1
    · rintro ⟨_, h1⟩
      cases h1
  | cons c l =>
    by_cases hc : m = c
    · subst hc
      have hp : List.isPrefixOf [m] (m :: l) = true := by simp [List.isPrefixOf]
      rw [if_pos hp]
      have := h l (by simp) x
      unfold said at this
      simp only [List.length_cons, List.length_nil, Nat.zero_add, List.drop_succ_cons, List.drop_zero]
      rw [this]
      simp
    · have hp : List.isPrefixOf [m] (c :: l) = false := by simp [List.isPrefixOf, hc]
      rw [hp]
      simp only [Bool.false_eq_true, if_false]
      constructor
      · intro h1
        simp [hstop] at h1
      · rintro ⟨_, h1⟩
        injection h1 with h1 _
        exact absurd h1.symm hc
theorem pairC_length (x : Pair) : (pairC x).length = 2 := rfl
theorem linkC_length (x : Link) : (linkC x).length = 3 := rfl
theorem begin_le (p b : Bs) : (begin p b).1.length ≤ b.length := by
  unfold begin
  split
  · simp
  · simp
def takenLeaf (b : Bs) : Option (List Pair) := taken [76] gLeaf (leafOk ltB) b
/-- What TakeLeaf answers. -/
def LeafSaid (B : Nat) (b : Bs) (e : Ending) (w' : World) : Prop :=
  match takenLeaf b with
  | some f => ∃ v, e = .returned (.tuple #[v, .int .i64 0]) ∧ w'.ownsRow B 48 2 v f.length (f.flatMap pairC)
  | none => e = .returned (.tuple #[.slice none 0 0, .int .i64 81])
set_option maxRecDepth 20000 in
theorem takeLeaf_any (w : World) (b : Bs) (hb : b.length ≤ 140737488355328) :
    Calls Try.prog 68 #[.string (strB b)] w fun e w' => LeafSaid w.heap.size b e w' ∧ Below w.heap.size w w' := by
  have hrd := read_any w b [76] hb (by simp)
  have hle := begin_le [76] b
  unfold LeafSaid takenLeaf taken
  generalize hx : begin [76] b = x at *
  obtain ⟨l, s⟩ := x
  simp only at *
  have hl : l.length ≤ 140737488355328 := by omega
  generalize hy : gLeaf l s = y at *
  obtain ⟨f, s2⟩ := y
  simp only at *
  have hrl : rL l 64 (rPair l l.length l.length) s = (f, s2) := hy
  clear hx hy
  by_cases h1 : s2 = some l.length
  · have hdec := decide_eq_true h1
    by_cases h2 : leafOk ltB f = true
    · rw [if_pos ⟨h1, h2⟩]
      simp only
      go_enter Try.func68, Try.ntmps68
      go_wp2_with fail
      refine hrd.mono ?_
      rintro e w1 ⟨g, rfl, hR1, hg1, hb1⟩
      have hT := takePairs_any w1 g l s 64 (by omega) hR1 hl
      rw [show ((64 : Nat) : Int) = 64 from rfl, hrl] at hT
      simp only at hT
      clear hrd hR1
      go_wp2_with fail
      refine hT.mono ?_
      rintro e w2 ⟨v, rfl, hown2, hR2, hgb2⟩
      clear hT
      have hb2 : Below w.heap.size w w2 := hb1.grown hgb2 hb1.size (fun k hk => by injection hk with hk; omega)
      have hW := wasAll_any w2 g l s2 hR2
      rw [hdec] at hW
      obtain ⟨ao, cap, rfl, -⟩ := own_form hown2
      have HO := hide (World.ownsRow.mono hown2 hb1.size)
      have HB := hide hb2
      clear hown2 hb2 hR2 hgb2 hb1 hg1
      go_wp2_with fail
      refine hW.mono ?_
      rintro e w3 ⟨rfl, hb3⟩
      have hown3 := own_below HO.out hb3
      have HB3 := hide (HB.out.trans (hb3.mono HB.out.size))
      clear hb3 hW
      have hlr := leafRight_any w3 f _ (ls_of_own pairC_length hown3)
      rw [h2] at hlr
      have HO3 := hide hown3
      clear hown3
      go_wp2_with fail
      refine hlr.mono ?_
      rintro e w4 ⟨rfl, hb4⟩
      have hown4 := own_below HO3.out hb4
      have HB4 := hide (HB3.out.trans (hb4.mono HB3.out.size))
      have HO4 := hide hown4
      clear hb4 hown4 hlr
      go_wp2
      go_ret2
      exact ⟨⟨_, rfl, HO4.out⟩, HB4.out⟩
    · have h2 := Bool.eq_false_iff.2 h2
      rw [if_neg (by rw [h2]; simp)]
      simp only
      go_enter Try.func68, Try.ntmps68
      go_wp2_with fail
      refine hrd.mono ?_
      rintro e w1 ⟨g, rfl, hR1, hg1, hb1⟩
      have hT := takePairs_any w1 g l s 64 (by omega) hR1 hl
      rw [show ((64 : Nat) : Int) = 64 from rfl, hrl] at hT
      simp only at hT
      clear hrd hR1
      go_wp2_with fail
      refine hT.mono ?_
      rintro e w2 ⟨v, rfl, hown2, hR2, hgb2⟩
      clear hT
      have hb2 : Below w.heap.size w w2 := hb1.grown hgb2 hb1.size (fun k hk => by injection hk with hk; omega)
      have hW := wasAll_any w2 g l s2 hR2
      rw [hdec] at hW
      obtain ⟨ao, cap, rfl, -⟩ := own_form hown2
      have HO := hide (World.ownsRow.mono hown2 hb1.size)
      have HB := hide hb2
      clear hown2 hb2 hR2 hgb2 hb1 hg1
      go_wp2_with fail
      refine hW.mono ?_
      rintro e w3 ⟨rfl, hb3⟩
      have hown3 := own_below HO.out hb3
      have HB3 := hide (HB.out.trans (hb3.mono HB.out.size))
      clear hb3 hW
      have hlr := leafRight_any w3 f _ (ls_of_own pairC_length hown3)
      rw [h2] at hlr
      have HO3 := hide hown3
      clear hown3
      go_wp2_with fail
      refine hlr.mono ?_
      rintro e w4 ⟨rfl, hb4⟩
      have hown4 := own_below HO3.out hb4
      have HB4 := hide (HB3.out.trans (hb4.mono HB3.out.size))
      have HO4 := hide hown4
      clear hb4 hown4 hlr
      go_wp2
      go_ret2
      exact ⟨rfl, HB4.out⟩
  · have hdec := decide_eq_false h1
    rw [if_neg (fun h => h1 h.1)]
    simp only
    go_enter Try.func68, Try.ntmps68
    go_wp2_with fail
    refine hrd.mono ?_
    rintro e w1 ⟨g, rfl, hR1, hg1, hb1⟩
    have hT := takePairs_any w1 g l s 64 (by omega) hR1 hl
    rw [show ((64 : Nat) : Int) = 64 from rfl, hrl] at hT
    simp only at hT
    clear hrd hR1
    go_wp2_with fail
    refine hT.mono ?_
    rintro e w2 ⟨v, rfl, hown2, hR2, hgb2⟩
    clear hT
    have hb2 : Below w.heap.size w w2 := hb1.grown hgb2 hb1.size (fun k hk => by injection hk with hk; omega)
    have hW := wasAll_any w2 g l s2 hR2
    rw [hdec] at hW
    obtain ⟨ao, cap, rfl, -⟩ := own_form hown2
    have HO := hide (World.ownsRow.mono hown2 hb1.size)
    have HB := hide hb2
    clear hown2 hb2 hR2 hgb2 hb1 hg1
    go_wp2_with fail
    refine hW.mono ?_
    rintro e w3 ⟨rfl, hb3⟩
    have hown3 := own_below HO.out hb3
    have HB3 := hide (HB.out.trans (hb3.mono HB.out.size))
    clear hb3 hW
    clear hown3
    go_wp2
    go_ret2
    exact ⟨rfl, HB3.out⟩

theorem objV_def (l : Bs) : objV l = .agg #[.string (strB (sha l)), .string (strB l)] := rfl
theorem results_cell_tmp_row {P : Program} {fn : Func} {p u : Tmp} {ty : TypeId} (h : fn.results = #[.cell p ty, .tmp u]) (tmps : Array Value) (w : World) (g : Nat) (t : TypeId) (cs : Array Value) (fr : Nat × Nat) (d : TypeDesc)
    (hp : tmps.getD p undef = .pointer (some ⟨g, 0, none⟩)) (hg : w.heap[g]? = some (.cells cs t fr))
    (hu : P.underlying ty = some d) (hd : (match d with | .struct _ | .array _ _ => true | _ => false) = true) (hi : (P.info? ty).map (·.size) = some cs.size) :
    (results fn tmps).run P w = .ok (.tuple #[.agg cs, tmps.getD u undef]) w := by
  have hp' : tmps[p]?.getD undef = .pointer (some ⟨g, 0, none⟩) := by simpa using hp
  rw [results_cell_tmp h]
  simp [hp', asAddr, run_loadVar_row w g t ty cs fr d hg hu hd hi]
/-- What is made: an object, or the error. -/
def made (ok : Bool) (b : Bs) : Value := if ok then .tuple #[objV b, .int .i64 0] else .tuple #[.agg #[.string ⟨#[]⟩, .string ⟨#[]⟩], .int .i64 80]
end Go.Proofs.Ytldfjpgcemfpjaa

/-
  Leaves, fans, branches made. Conditions: the table holds its numbers; lists lie there.
-/
namespace Go.Proofs.Ytldfjpgcemfpjaa
open Go.RowKit

end Go.Proofs.Ytldfjpgcemfpjaa

/-
  Fans and branches read. Conditions: lengths within reach.
-/
namespace Go.Proofs.Ytldfjpgcemfpjaa
open Go.RowKit

theorem Try.infoBranch : (Try.prog.info? 99).map (·.size) = some 2 := by kernel_rfl
def takenBranch (b : Bs) : Option Branch := taken [66] gBranch (branchOk ltB) b

/-- What TakeBranch answers. -/
def branchSaid (B : Nat) (b : Bs) (e : Ending) (w' : World) : Prop :=
  match takenBranch b with
  | some f => ∃ v, e = .returned (.tuple #[.agg #[.int .i64 f.1, v], .int .i64 0]) ∧ w'.ownsRow B 81 3 v f.2.length (f.2.flatMap linkC)
  | none => e = .returned (.tuple #[.agg #[.int .i64 0, .slice none 0 0], .int .i64 81])
set_option maxRecDepth 20000 in
set_option maxHeartbeats 800000 in
theorem takeBranch_any (w : World) (b : Bs) (hb : b.length ≤ 140737488355328) :
    Calls Try.prog 69 #[.string (strB b)] w fun e w' => branchSaid w.heap.size b e w' ∧ Below w.heap.size w w' := by
  have hbE : Below w.heap.size w ((w.alloc (.cells #[.int .i64 0, .slice none 0 0] 99)).alloc (.cells #[.int .i64 0, .slice none 0 0] 99)) := ((Below.refl _ _).alloc (Nat.le_refl _) _).alloc (by simp) _
  have hx0 : ((w.alloc (.cells #[.int .i64 0, .slice none 0 0] 99)).alloc (.cells #[.int .i64 0, .slice none 0 0] 99)).heap[w.heap.size]? = some (.cells #[.int .i64 0, .slice none 0 0] 99) := (heap_past _ _ _ (by simp)).trans (heap_last w _ _ rfl)
  have hy0 : ((w.alloc (.cells #[.int .i64 0, .slice none 0 0] 99)).alloc (.cells #[.int .i64 0, .slice none 0 0] 99)).heap[w.heap.size + 1]? = some (.cells #[.int .i64 0, .slice none 0 0] 99) := heap_last (w.alloc (.cells #[.int .i64 0, .slice none 0 0] 99)) _ _ (by simp)
  have hn0 : ((w.alloc (.cells #[.int .i64 0, .slice none 0 0] 99)).alloc (.cells #[.int .i64 0, .slice none 0 0] 99)).heap.size = w.heap.size + 2 := by simp
  generalize hw0 : (w.alloc (.cells #[.int .i64 0, .slice none 0 0] 99)).alloc (.cells #[.int .i64 0, .slice none 0 0] 99) = w0 at *
  have hrd := read_any w0 b [66] hb (by simp)
  have hle := begin_le [66] b
  unfold branchSaid takenBranch taken
  generalize hx : begin [66] b = x at *
  obtain ⟨l, s⟩ := x
  simp only at *
  have hl : l.length ≤ 140737488355328 := by omega
  have hg : gBranch l s = (((rC l 20 s).1, (rL l 64 (rLink l l.length) (rC l 20 s).2).1), (rL l 64 (rLink l l.length) (rC l 20 s).2).2) := rfl
  rw [hg]
  have h64 := rC_le l 20 s (by omega)
  generalize hc : rC l 20 s = c at *
  obtain ⟨lev, s1⟩ := c
  simp only at *
  generalize hy : rL l 64 (rLink l l.length) s1 = y at *
  obtain ⟨f, s2⟩ := y
  simp only at *
  have HC := hide hc
  have HY := hide hy
  clear hx hg hc hy
  by_cases h1 : s2 = some l.length
  · have hdec := decide_eq_true h1
    by_cases h2 : branchOk ltB (lev, f) = true
    · rw [if_pos ⟨h1, h2⟩]
      simp only
      go_enter Try.func69, Try.ntmps69
      go_wp2_with fail
      try rw [hw0]
      refine hrd.mono ?_
      rintro e w1 ⟨g, rfl, hR1, hg1, hb1⟩
      have hx1 := (hb1.block _ (by omega)).trans hx0
      have hy1 := (hb1.block _ (by omega)).trans hy0
      have hS := takeSmall_any w1 g l s 20 hR1 hl
      unfold Took at hS
      rw [HC.out] at hS
      simp only at hS
      clear hrd hR1
      go_wp2_with fail
      refine hS.mono ?_
      rintro e w2 ⟨rfl, hR2, hgb2⟩
      have hx2 := (hgb2.block _ (lt_of_heap hx1) (fun e => by injection e with e; omega)).trans hx1
      have hy2 := (hgb2.block _ (lt_of_heap hy1) (fun e => by injection e with e; omega)).trans hy1
      have cy0 := cell_of_row w2 (w.heap.size + 1) 0 _ _ _ hy2
      simp only [List.getElem?_toArray, List.getElem?_cons_zero] at cy0
      have fy0 := frozen0 (j := 0) hy2
      have hR3 := hR2.set (n := w.heap.size + 1) (i := 0) (u := .int .i64 lev) (.inr ⟨by omega, by omega⟩)
      have hy3 : (w2.setCell ⟨w.heap.size + 1, 0, none⟩ (.int .i64 lev)).heap[w.heap.size + 1]? = some (.cells #[.int .i64 lev, .slice none 0 0] 99) := by rw [heap_setCell _ _ _ _ _ _ _ hy2]; simp
      have hx3 := ((gb_set w2 (w.heap.size + 1) 0 (.int .i64 lev)).block _ (lt_of_heap hx2) (fun e => by injection e with e; omega)).trans hx2
      have hb3 : Below w.heap.size w (w2.setCell ⟨w.heap.size + 1, 0, none⟩ (.int .i64 lev)) := ((hbE.trans (hb1.mono hbE.size)).grown hgb2 (Nat.le_trans hbE.size hb1.size) (fun k hk => by injection hk with hk; omega)).setCell (p := ⟨w.heap.size + 1, 0, none⟩) (by simp) _
      have hT := takeLinks_any (w2.setCell ⟨w.heap.size + 1, 0, none⟩ (.int .i64 lev)) g l s1 64 (by omega) hR3 hl
      rw [show ((64 : Nat) : Int) = 64 from rfl, HY.out] at hT
      simp only at hT
      have hsz3 := hb3.size
      have HB3 := hide hb3
      have HX3 := hide hx3
      have HY3 := hide hy3
      clear hS hR2 hgb2 hb3 hx3 hy3 hR3 hx2 hy2 hx1 hy1
      go_wp2_with fail
      generalize hw3 : w2.setCell ⟨w.heap.size + 1, 0, none⟩ (.int .i64 lev) = w3 at *
      refine hT.mono ?_
      rintro e w4 ⟨v, rfl, hown4, hR4, hgb4⟩
      have hx4 := (hgb4.block _ (lt_of_heap HX3.out) (fun e => by injection e with e; omega)).trans HX3.out
      have hy4 := (hgb4.block _ (lt_of_heap HY3.out) (fun e => by injection e with e; omega)).trans HY3.out
      have cy1 := cell_of_row w4 (w.heap.size + 1) 1 _ _ _ hy4
      simp only [List.getElem?_toArray, List.getElem?_cons_zero, List.getElem?_cons_succ] at cy1
      have fy1 := frozen0 (j := 1) hy4
      obtain ⟨ao, cap, rfl, -⟩ := own_form hown4
      have hb4 := HB3.out.grown hgb4 hsz3 (fun k hk => by injection hk with hk; omega)
      have hy5 : (w4.setCell ⟨w.heap.size + 1, 1, none⟩ (.slice ao f.length cap)).heap[w.heap.size + 1]? = some (.cells #[.int .i64 lev, .slice ao f.length cap] 99) := by rw [heap_setCell _ _ _ _ _ _ _ hy4]; simp
      have hx5 := ((gb_set w4 (w.heap.size + 1) 1 (.slice ao f.length cap)).block _ (lt_of_heap hx4) (fun e => by injection e with e; omega)).trans hx4
      have hR5 := hR4.set (n := w.heap.size + 1) (i := 1) (u := .slice ao f.length cap) (.inr ⟨by omega, by omega⟩)
      have hown5 : (w4.setCell ⟨w.heap.size + 1, 1, none⟩ (.slice ao f.length cap)).ownsRow w.heap.size 81 3 (.slice ao f.length cap) f.length (f.flatMap linkC) := World.ownsRow.mono (ownsRow_setCell_other hown4 (ne_own' hown4 hy4 (by decide)) _) hsz3
      have hb5 := hb4.setCell (p := ⟨w.heap.size + 1, 1, none⟩) (by simp) (.slice ao f.length cap)
      have HB5 := hide hb5
      have HX5 := hide hx5
      have HY5 := hide hy5
      have HO5 := hide hown5
      have HR5 := hide hR5
      clear hT hown4 hR4 hgb4 hb4 hb5 hx5 hy5 hown5 hR5 hx4 hy4 HX3 HY3 HB3
      go_wp2_with fail
      generalize hw5 : w4.setCell ⟨w.heap.size + 1, 1, none⟩ (.slice ao f.length cap) = w5 at *
      have hW := wasAll_any w5 g l s2 HR5.out
      rw [hdec] at hW
      refine hW.mono ?_
      rintro e w6 ⟨rfl, hb6⟩
      have hs5 := HB5.out.size
      have hx6 := (hb6.block _ (lt_of_heap HX5.out)).trans HX5.out
      have hy6 := (hb6.block _ (lt_of_heap HY5.out)).trans HY5.out
      have hb6' := HB5.out.trans (hb6.mono hs5)
      have hown6 := own_below HO5.out hb6
      have cz0 := cell_of_row w6 (w.heap.size + 1) 0 _ _ _ hy6
      have cz1 := cell_of_row w6 (w.heap.size + 1) 1 _ _ _ hy6
      simp only [List.getElem?_toArray, List.getElem?_cons_zero, List.getElem?_cons_succ] at cz0 cz1
      clear hW hb6 HR5
      have hlr := branchRight_any w6 (lev, f) _ (ls_of_own linkC_length hown6)
      rw [h2] at hlr
      simp only at hlr
      have hs6 := hb6'.size
      go_wp2_with fail
      refine hlr.mono ?_
      rintro e w7 ⟨rfl, hb7⟩
      have hx7 := (hb7.block _ (lt_of_heap hx6)).trans hx6
      have hy7 := (hb7.block _ (lt_of_heap hy6)).trans hy6
      have hb7' := hb6'.trans (hb7.mono hs6)
      have hown7 := own_below hown6 hb7
      have cd0 := cell_of_row w7 (w.heap.size + 1) 0 _ _ _ hy7
      have cd1 := cell_of_row w7 (w.heap.size + 1) 1 _ _ _ hy7
      have ce0 := cell_of_row w7 w.heap.size 0 _ _ _ hx7
      have ce1 := cell_of_row w7 w.heap.size 1 _ _ _ hx7
      simp only [List.getElem?_toArray, List.getElem?_cons_zero, List.getElem?_cons_succ] at cd0 cd1 ce0 ce1
      have fe0 := frozen0 (j := 0) hx7
      have fe1 := frozen0 (j := 1) hx7
      have HO7 := hide hown7
      clear hlr hb7 hown7 hown6
      go_wp2
      refine bodyPost_ret (results_cell_tmp_row rfl _ _ _ _ _ _ _ rfl (heap_set2 hx7) Try.underlying99 rfl Try.infoBranch) rfl ⟨⟨_, rfl, ?_⟩, (hb7'.setCell (p := ⟨w.heap.size, 0, none⟩) (by simp) _).setCell (p := ⟨w.heap.size, 1, none⟩) (by simp) _⟩
      have hh0 := heap_setCell w7 w.heap.size 0 _ _ _ (.int .i64 lev) hx7
      exact ownsRow_setCell_other (ownsRow_setCell_other HO7.out (ne_own' HO7.out hx7 (by decide)) _) (ne_own' (ownsRow_setCell_other HO7.out (ne_own' HO7.out hx7 (by decide)) _) hh0 (by decide)) _
    · have h2 := Bool.eq_false_iff.2 h2
      rw [if_neg (by rw [h2]; simp)]
      simp only
      go_enter Try.func69, Try.ntmps69
      go_wp2_with fail
      try rw [hw0]
      refine hrd.mono ?_
      rintro e w1 ⟨g, rfl, hR1, hg1, hb1⟩
      have hx1 := (hb1.block _ (by omega)).trans hx0
      have hy1 := (hb1.block _ (by omega)).trans hy0
      have hS := takeSmall_any w1 g l s 20 hR1 hl
      unfold Took at hS
      rw [HC.out] at hS
      simp only at hS
      clear hrd hR1
      go_wp2_with fail
      refine hS.mono ?_
      rintro e w2 ⟨rfl, hR2, hgb2⟩
      have hx2 := (hgb2.block _ (lt_of_heap hx1) (fun e => by injection e with e; omega)).trans hx1
      have hy2 := (hgb2.block _ (lt_of_heap hy1) (fun e => by injection e with e; omega)).trans hy1
      have cy0 := cell_of_row w2 (w.heap.size + 1) 0 _ _ _ hy2
      simp only [List.getElem?_toArray, List.getElem?_cons_zero] at cy0
      have fy0 := frozen0 (j := 0) hy2
      have hR3 := hR2.set (n := w.heap.size + 1) (i := 0) (u := .int .i64 lev) (.inr ⟨by omega, by omega⟩)
      have hy3 : (w2.setCell ⟨w.heap.size + 1, 0, none⟩ (.int .i64 lev)).heap[w.heap.size + 1]? = some (.cells #[.int .i64 lev, .slice none 0 0] 99) := by rw [heap_setCell _ _ _ _ _ _ _ hy2]; simp
      have hx3 := ((gb_set w2 (w.heap.size + 1) 0 (.int .i64 lev)).block _ (lt_of_heap hx2) (fun e => by injection e with e; omega)).trans hx2
      have hb3 : Below w.heap.size w (w2.setCell ⟨w.heap.size + 1, 0, none⟩ (.int .i64 lev)) := ((hbE.trans (hb1.mono hbE.size)).grown hgb2 (Nat.le_trans hbE.size hb1.size) (fun k hk => by injection hk with hk; omega)).setCell (p := ⟨w.heap.size + 1, 0, none⟩) (by simp) _
      have hT := takeLinks_any (w2.setCell ⟨w.heap.size + 1, 0, none⟩ (.int .i64 lev)) g l s1 64 (by omega) hR3 hl
      rw [show ((64 : Nat) : Int) = 64 from rfl, HY.out] at hT
      simp only at hT
      have hsz3 := hb3.size
      have HB3 := hide hb3
      have HX3 := hide hx3
      have HY3 := hide hy3
      clear hS hR2 hgb2 hb3 hx3 hy3 hR3 hx2 hy2 hx1 hy1
      go_wp2_with fail
      generalize hw3 : w2.setCell ⟨w.heap.size + 1, 0, none⟩ (.int .i64 lev) = w3 at *
      refine hT.mono ?_
      rintro e w4 ⟨v, rfl, hown4, hR4, hgb4⟩
      have hx4 := (hgb4.block _ (lt_of_heap HX3.out) (fun e => by injection e with e; omega)).trans HX3.out
      have hy4 := (hgb4.block _ (lt_of_heap HY3.out) (fun e => by injection e with e; omega)).trans HY3.out
      have cy1 := cell_of_row w4 (w.heap.size + 1) 1 _ _ _ hy4
      simp only [List.getElem?_toArray, List.getElem?_cons_zero, List.getElem?_cons_succ] at cy1
      have fy1 := frozen0 (j := 1) hy4
      obtain ⟨ao, cap, rfl, -⟩ := own_form hown4
      have hb4 := HB3.out.grown hgb4 hsz3 (fun k hk => by injection hk with hk; omega)
      have hy5 : (w4.setCell ⟨w.heap.size + 1, 1, none⟩ (.slice ao f.length cap)).heap[w.heap.size + 1]? = some (.cells #[.int .i64 lev, .slice ao f.length cap] 99) := by rw [heap_setCell _ _ _ _ _ _ _ hy4]; simp
      have hx5 := ((gb_set w4 (w.heap.size + 1) 1 (.slice ao f.length cap)).block _ (lt_of_heap hx4) (fun e => by injection e with e; omega)).trans hx4
      have hR5 := hR4.set (n := w.heap.size + 1) (i := 1) (u := .slice ao f.length cap) (.inr ⟨by omega, by omega⟩)
      have hown5 : (w4.setCell ⟨w.heap.size + 1, 1, none⟩ (.slice ao f.length cap)).ownsRow w.heap.size 81 3 (.slice ao f.length cap) f.length (f.flatMap linkC) := World.ownsRow.mono (ownsRow_setCell_other hown4 (ne_own' hown4 hy4 (by decide)) _) hsz3
      have hb5 := hb4.setCell (p := ⟨w.heap.size + 1, 1, none⟩) (by simp) (.slice ao f.length cap)
      have HB5 := hide hb5
      have HX5 := hide hx5
      have HY5 := hide hy5
      have HO5 := hide hown5
      have HR5 := hide hR5
      clear hT hown4 hR4 hgb4 hb4 hb5 hx5 hy5 hown5 hR5 hx4 hy4 HX3 HY3 HB3
      go_wp2_with fail
      generalize hw5 : w4.setCell ⟨w.heap.size + 1, 1, none⟩ (.slice ao f.length cap) = w5 at *
      have hW := wasAll_any w5 g l s2 HR5.out
      rw [hdec] at hW
      refine hW.mono ?_
      rintro e w6 ⟨rfl, hb6⟩
      have hs5 := HB5.out.size
      have hx6 := (hb6.block _ (lt_of_heap HX5.out)).trans HX5.out
      have hy6 := (hb6.block _ (lt_of_heap HY5.out)).trans HY5.out
      have hb6' := HB5.out.trans (hb6.mono hs5)
      have hown6 := own_below HO5.out hb6
      have cz0 := cell_of_row w6 (w.heap.size + 1) 0 _ _ _ hy6
      have cz1 := cell_of_row w6 (w.heap.size + 1) 1 _ _ _ hy6
      simp only [List.getElem?_toArray, List.getElem?_cons_zero, List.getElem?_cons_succ] at cz0 cz1
      clear hW hb6 HR5
      have hlr := branchRight_any w6 (lev, f) _ (ls_of_own linkC_length hown6)
      rw [h2] at hlr
      simp only at hlr
      have hs6 := hb6'.size
      go_wp2_with fail
      refine hlr.mono ?_
      rintro e w7 ⟨rfl, hb7⟩
      have hx7 := (hb7.block _ (lt_of_heap hx6)).trans hx6
      have hy7 := (hb7.block _ (lt_of_heap hy6)).trans hy6
      have hb7' := hb6'.trans (hb7.mono hs6)
      have hown7 := own_below hown6 hb7
      have cd0 := cell_of_row w7 (w.heap.size + 1) 0 _ _ _ hy7
      have cd1 := cell_of_row w7 (w.heap.size + 1) 1 _ _ _ hy7
      have ce0 := cell_of_row w7 w.heap.size 0 _ _ _ hx7
      have ce1 := cell_of_row w7 w.heap.size 1 _ _ _ hx7
      simp only [List.getElem?_toArray, List.getElem?_cons_zero, List.getElem?_cons_succ] at cd0 cd1 ce0 ce1
      have fe0 := frozen0 (j := 0) hx7
      have fe1 := frozen0 (j := 1) hx7
      have HO7 := hide hown7
      clear hlr hb7 hown7 hown6
      go_wp2
      refine bodyPost_ret (results_cell_tmp_row rfl _ _ _ _ _ _ _ rfl (heap_set2 hx7) Try.underlying99 rfl Try.infoBranch) rfl ⟨rfl, (hb7'.setCell (p := ⟨w.heap.size, 0, none⟩) (by simp) _).setCell (p := ⟨w.heap.size, 1, none⟩) (by simp) _⟩
  · have hdec := decide_eq_false h1
    rw [if_neg (fun h => h1 h.1)]
    simp only
    go_enter Try.func69, Try.ntmps69
    go_wp2_with fail
    try rw [hw0]
    refine hrd.mono ?_
    rintro e w1 ⟨g, rfl, hR1, hg1, hb1⟩
    have hx1 := (hb1.block _ (by omega)).trans hx0
    have hy1 := (hb1.block _ (by omega)).trans hy0
    have hS := takeSmall_any w1 g l s 20 hR1 hl
    unfold Took at hS
    rw [HC.out] at hS
    simp only at hS
    clear hrd hR1
    go_wp2_with fail
    refine hS.mono ?_
    rintro e w2 ⟨rfl, hR2, hgb2⟩
    have hx2 := (hgb2.block _ (lt_of_heap hx1) (fun e => by injection e with e; omega)).trans hx1
    have hy2 := (hgb2.block _ (lt_of_heap hy1) (fun e => by injection e with e; omega)).trans hy1
    have cy0 := cell_of_row w2 (w.heap.size + 1) 0 _ _ _ hy2
    simp only [List.getElem?_toArray, List.getElem?_cons_zero] at cy0
    have fy0 := frozen0 (j := 0) hy2
    have hR3 := hR2.set (n := w.heap.size + 1) (i := 0) (u := .int .i64 lev) (.inr ⟨by omega, by omega⟩)
    have hy3 : (w2.setCell ⟨w.heap.size + 1, 0, none⟩ (.int .i64 lev)).heap[w.heap.size + 1]? = some (.cells #[.int .i64 lev, .slice none 0 0] 99) := by rw [heap_setCell _ _ _ _ _ _ _ hy2]; simp
    have hx3 := ((gb_set w2 (w.heap.size + 1) 0 (.int .i64 lev)).block _ (lt_of_heap hx2) (fun e => by injection e with e; omega)).trans hx2
    have hb3 : Below w.heap.size w (w2.setCell ⟨w.heap.size + 1, 0, none⟩ (.int .i64 lev)) := ((hbE.trans (hb1.mono hbE.size)).grown hgb2 (Nat.le_trans hbE.size hb1.size) (fun k hk => by injection hk with hk; omega)).setCell (p := ⟨w.heap.size + 1, 0, none⟩) (by simp) _
    have hT := takeLinks_any (w2.setCell ⟨w.heap.size + 1, 0, none⟩ (.int .i64 lev)) g l s1 64 (by omega) hR3 hl
    rw [show ((64 : Nat) : Int) = 64 from rfl, HY.out] at hT
    simp only at hT
    have hsz3 := hb3.size
    have HB3 := hide hb3
    have HX3 := hide hx3
    have HY3 := hide hy3
    clear hS hR2 hgb2 hb3 hx3 hy3 hR3 hx2 hy2 hx1 hy1
    go_wp2_with fail
    generalize hw3 : w2.setCell ⟨w.heap.size + 1, 0, none⟩ (.int .i64 lev) = w3 at *
    refine hT.mono ?_
    rintro e w4 ⟨v, rfl, hown4, hR4, hgb4⟩
    have hx4 := (hgb4.block _ (lt_of_heap HX3.out) (fun e => by injection e with e; omega)).trans HX3.out
    have hy4 := (hgb4.block _ (lt_of_heap HY3.out) (fun e => by injection e with e; omega)).trans HY3.out
    have cy1 := cell_of_row w4 (w.heap.size + 1) 1 _ _ _ hy4
    simp only [List.getElem?_toArray, List.getElem?_cons_zero, List.getElem?_cons_succ] at cy1
    have fy1 := frozen0 (j := 1) hy4
    obtain ⟨ao, cap, rfl, -⟩ := own_form hown4
    have hb4 := HB3.out.grown hgb4 hsz3 (fun k hk => by injection hk with hk; omega)
    have hy5 : (w4.setCell ⟨w.heap.size + 1, 1, none⟩ (.slice ao f.length cap)).heap[w.heap.size + 1]? = some (.cells #[.int .i64 lev, .slice ao f.length cap] 99) := by rw [heap_setCell _ _ _ _ _ _ _ hy4]; simp
    have hx5 := ((gb_set w4 (w.heap.size + 1) 1 (.slice ao f.length cap)).block _ (lt_of_heap hx4) (fun e => by injection e with e; omega)).trans hx4
    have hR5 := hR4.set (n := w.heap.size + 1) (i := 1) (u := .slice ao f.length cap) (.inr ⟨by omega, by omega⟩)
    have hown5 : (w4.setCell ⟨w.heap.size + 1, 1, none⟩ (.slice ao f.length cap)).ownsRow w.heap.size 81 3 (.slice ao f.length cap) f.length (f.flatMap linkC) := World.ownsRow.mono (ownsRow_setCell_other hown4 (ne_own' hown4 hy4 (by decide)) _) hsz3
    have hb5 := hb4.setCell (p := ⟨w.heap.size + 1, 1, none⟩) (by simp) (.slice ao f.length cap)
    have HB5 := hide hb5
    have HX5 := hide hx5
    have HY5 := hide hy5
    have HO5 := hide hown5
    have HR5 := hide hR5
    clear hT hown4 hR4 hgb4 hb4 hb5 hx5 hy5 hown5 hR5 hx4 hy4 HX3 HY3 HB3
    go_wp2_with fail
    generalize hw5 : w4.setCell ⟨w.heap.size + 1, 1, none⟩ (.slice ao f.length cap) = w5 at *
    have hW := wasAll_any w5 g l s2 HR5.out
    rw [hdec] at hW
    refine hW.mono ?_
    rintro e w6 ⟨rfl, hb6⟩
    have hs5 := HB5.out.size
    have hx6 := (hb6.block _ (lt_of_heap HX5.out)).trans HX5.out
    have hy6 := (hb6.block _ (lt_of_heap HY5.out)).trans HY5.out
    have hb6' := HB5.out.trans (hb6.mono hs5)
    have hown6 := own_below HO5.out hb6
    have cz0 := cell_of_row w6 (w.heap.size + 1) 0 _ _ _ hy6
    have cz1 := cell_of_row w6 (w.heap.size + 1) 1 _ _ _ hy6
    simp only [List.getElem?_toArray, List.getElem?_cons_zero, List.getElem?_cons_succ] at cz0 cz1
    clear hW hb6 HR5
    have ce0 := cell_of_row w6 w.heap.size 0 _ _ _ hx6
    have ce1 := cell_of_row w6 w.heap.size 1 _ _ _ hx6
    simp only [List.getElem?_toArray, List.getElem?_cons_zero, List.getElem?_cons_succ] at ce0 ce1
    have fe0 := frozen0 (j := 0) hx6
    have fe1 := frozen0 (j := 1) hx6
    clear hown6
    go_wp2
    refine bodyPost_ret (results_cell_tmp_row rfl _ _ _ _ _ _ _ rfl (heap_set2 hx6) Try.underlying99 rfl Try.infoBranch) rfl ⟨rfl, (hb6'.setCell (p := ⟨w.heap.size, 0, none⟩) (by simp) _).setCell (p := ⟨w.heap.size, 1, none⟩) (by simp) _⟩
end Go.Proofs.Ytldfjpgcemfpjaa

/-
  What bytes say, told plainly; what the statements show first. Condition: the table holds its numbers.
-/
namespace Go.Proofs.Ytldfjpgcemfpjaa
open Go.RowKit

theorem takenLeaf_iff (b : Bs) (hb : b.length ≤ 140737488355328) (f : List Pair) : takenLeaf b = some f ↔ leafOk ltB f = true ∧ b = 76 :: leafB f :=
  taken_iff (enc := leafB) rfl (fun l hl x => leaf_iff ltB l (by omega) x) f
theorem takenBranch_iff (b : Bs) (hb : b.length ≤ 140737488355328) (f : Branch) : takenBranch b = some f ↔ branchOk ltB f = true ∧ b = 66 :: branchB f :=
  taken_iff (enc := branchB) rfl (fun l hl x => branch_iff ltB l (by omega) x) f
theorem out_length (s : St) : (out s).length = 32 := rfl
theorem sha_length (l : List UInt8) : (sha l).length = 32 := out_length _
end Go.Proofs.Ytldfjpgcemfpjaa

/-
  Each text once. Conditions: lists lie there, and are short.
-/
namespace Go.Proofs.Ytldfjpgcemfpjaa
open Go.RowKit

end Go.Proofs.Ytldfjpgcemfpjaa

/-
  Whether a commit is right. Condition: its parents lie there.
-/
namespace Go.Proofs.Ytldfjpgcemfpjaa
open Go.RowKit

end Go.Proofs.Ytldfjpgcemfpjaa

/-
  Commits made and read. Conditions: the table holds its numbers; lengths within reach.
-/
namespace Go.Proofs.Ytldfjpgcemfpjaa
open Go.RowKit

end Go.Proofs.Ytldfjpgcemfpjaa

/-
  Names; entries' values read. Conditions: lengths within reach.
-/
namespace Go.Proofs.Ytldfjpgcemfpjaa
open Go.RowKit

namespace Pt
end Pt
theorem rc {w : World} {k i : Nat} {cs : Array Value} {t : TypeId} {fr : Nat × Nat} {u : Value} (h : w.heap[k]? = some (Obj.cells cs t fr)) (hu : cs[i]? = some u) : w.cell? ⟨k, i, none⟩ = some u := by rw [cell_of_row w k i _ _ _ h, hu]
end Go.Proofs.Ytldfjpgcemfpjaa
