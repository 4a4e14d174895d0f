/-
  What is right: of each of a list, of sums. Conditions: lists lie there.
-/
import Derived.Test.YtdbmngbinhemeabGreatDoorROMake
namespace Go.Proofs.YtdbmngbinhemeabGreatDoor
open Go.RowKit

theorem ret_bool {a b : Bool} (h : a = b) : Ending.returned (.bool a) = .returned (.bool b) := by rw [h]
theorem all_step {α : Type} (f : α → Bool) (xs : List α) (k : Nat) (hk : k < xs.length) (h : (xs.take k).all f = true) (hf : f xs[k] = true) : (xs.take (k + 1)).all f = true := by
  rw [List.take_succ_eq_append_getElem hk, List.all_append, h]
  simp [hf]
theorem all_false {α : Type} (f : α → Bool) (xs : List α) (k : Nat) (hk : k < xs.length) (hf : f xs[k] = false) : false = xs.all f := by
  refine Eq.symm (Bool.eq_false_iff.2 fun h => ?_)
  rw [List.all_eq_true] at h
  have := h _ (List.getElem_mem hk)
  rw [hf] at this
  cases this
theorem isId_any (w : World) (s : Bs) : Calls Tryz.prog 102 #[.string (strB s)] w fun e w' => e = .returned (.bool (isIdB s)) ∧ w' = w := by
  have hs := strB_size s
  go_enter Tryz.func102, Tryz.ntmps102
  go_wp2
  go_ret
  refine ⟨ret_bool ?_, rfl⟩
  unfold isIdB
  (try rw [Bool.eq_iff_iff]); simp <;> omega
theorem isKey_any (w : World) (s : Bs) : Calls Tryz.prog 62 #[.string (strB s)] w fun e w' => e = .returned (.bool (isKeyB s)) ∧ w' = w := by
  have hs := strB_size s
  by_cases h : 1 ≤ s.length
  · go_enter Tryz.func62, Tryz.ntmps62
    go_wp2
    go_ret
    refine ⟨ret_bool ?_, rfl⟩
    unfold isKeyB
    rw [Bool.eq_iff_iff]; simp; omega
  · go_enter Tryz.func62, Tryz.ntmps62
    go_wp2
    go_ret
    refine ⟨ret_bool ?_, rfl⟩
    unfold isKeyB
    rw [Bool.eq_iff_iff]; simp; omega
theorem isLevel_any (w : World) (n : Int) : Calls Tryz.prog 99 #[.int .i64 n] w fun e w' => e = .returned (.bool (levelB n)) ∧ w' = w := by
  by_cases h : 1 ≤ n
  · go_enter Tryz.func99, Tryz.ntmps99
    go_wp2
    go_ret
    refine ⟨ret_bool ?_, rfl⟩
    unfold levelB
    rw [Bool.eq_iff_iff]; simp; omega
  · go_enter Tryz.func99, Tryz.ntmps99
    go_wp2
    go_ret
    refine ⟨ret_bool ?_, rfl⟩
    unfold levelB
    rw [Bool.eq_iff_iff]; simp; omega

theorem fan1_any (w : World) (x : Part) : Calls Tryz.prog 101 #[.agg #[.string (strB x.1), .int .i64 x.2]] w fun e w' => e = .returned (.bool (isIdB x.1)) ∧ Below w.heap.size w w' := by
  go_enter Tryz.func101, Tryz.ntmps101
  go_wp2_with fail
  refine (isId_any _ x.1).mono ?_
  rintro e w1 ⟨rfl, rfl⟩
  go_wp2
  go_ret
  exact ⟨rfl, (Below.refl _ _).alloc (Nat.le_refl _) _⟩
theorem leaf1_any (w : World) (x : Pair) : Calls Tryz.prog 61 #[.agg #[.string (strB x.1), .string (strB x.2)]] w fun e w' => e = .returned (.bool (isKeyB x.1 && decide (x.2.length ≤ 128))) ∧ Below w.heap.size w w' := by
  have hs := strB_size x.2
  by_cases h : isKeyB x.1 = true
  · go_enter Tryz.func61, Tryz.ntmps61
    go_wp2_with fail
    refine (isKey_any _ x.1).mono ?_
    rintro e w1 ⟨rfl, rfl⟩
    rw [h]
    go_wp2
    go_ret
    refine ⟨ret_bool ?_, (Below.refl _ _).alloc (Nat.le_refl _) _⟩
    rw [h, Bool.eq_iff_iff]; simp; omega
  · have h := Bool.eq_false_iff.2 h
    go_enter Tryz.func61, Tryz.ntmps61
    go_wp2_with fail
    refine (isKey_any _ x.1).mono ?_
    rintro e w1 ⟨rfl, rfl⟩
    rw [h]
    go_wp2
    go_ret
    exact ⟨ret_bool (by simp [h]), (Below.refl _ _).alloc (Nat.le_refl _) _⟩
theorem branch1_any (w : World) (x : Link) : Calls Tryz.prog 107 #[.agg #[.string (strB x.1), .string (strB x.2.1), .int .i64 x.2.2]] w fun e w' => e = .returned (.bool (isKeyB x.1 && isIdB x.2.1)) ∧ Below w.heap.size w w' := by
  by_cases h : isKeyB x.1 = true
  · go_enter Tryz.func107, Tryz.ntmps107
    go_wp2_with fail
    refine (isKey_any _ x.1).mono ?_
    rintro e w1 ⟨rfl, rfl⟩
    rw [h]
    go_wp2_with fail
    refine (isId_any _ x.2.1).mono ?_
    rintro e w1 ⟨rfl, rfl⟩
    go_wp2
    go_ret
    refine ⟨ret_bool ?_, (Below.refl _ _).alloc (Nat.le_refl _) _⟩
    simp [h]
  · have h := Bool.eq_false_iff.2 h
    go_enter Tryz.func107, Tryz.ntmps107
    go_wp2_with fail
    refine (isKey_any _ x.1).mono ?_
    rintro e w1 ⟨rfl, rfl⟩
    rw [h]
    go_wp2
    go_ret
    exact ⟨ret_bool (by simp [h]), (Below.refl _ _).alloc (Nat.le_refl _) _⟩
theorem id1_any (w : World) (x : Bs) : Calls Tryz.prog 102 #[.string (strB x)] w fun e w' => e = .returned (.bool (isIdB x)) ∧ Below w.heap.size w w' :=
  (isId_any w x).mono fun _ _ h => ⟨h.1, by rw [h.2]; exact Below.refl _ _⟩
theorem fan2_any (w : World) (x : Part) : Calls Tryz.prog 104 #[.agg #[.string (strB x.1), .int .i64 x.2]] w fun e w' => e = .returned (.int .i64 x.2) ∧ Below w.heap.size w w' := by
  go_enter Tryz.func104, Tryz.ntmps104
  go_wp2
  go_ret
  exact ⟨rfl, (Below.refl _ _).alloc (Nat.le_refl _) _⟩
theorem branch3_any (w : World) (x : Link) : Calls Tryz.prog 111 #[.agg #[.string (strB x.1), .string (strB x.2.1), .int .i64 x.2.2]] w fun e w' => e = .returned (.int .i64 x.2.2) ∧ Below w.heap.size w w' := by
  go_enter Tryz.func111, Tryz.ntmps111
  go_wp2
  go_ret
  exact ⟨rfl, (Below.refl _ _).alloc (Nat.le_refl _) _⟩
theorem leaf2_any (w : World) (x : Pair) : Calls Tryz.prog 64 #[.agg #[.string (strB x.1), .string (strB x.2)]] w fun e w' => e = .returned (.string (strB x.1)) ∧ Below w.heap.size w w' := by
  go_enter Tryz.func64, Tryz.ntmps64
  go_wp2
  go_ret
  exact ⟨rfl, (Below.refl _ _).alloc (Nat.le_refl _) _⟩
theorem branch2_any (w : World) (x : Link) : Calls Tryz.prog 109 #[.agg #[.string (strB x.1), .string (strB x.2.1), .int .i64 x.2.2]] w fun e w' => e = .returned (.string (strB x.1)) ∧ Below w.heap.size w w' := by
  go_enter Tryz.func109, Tryz.ntmps109
  go_wp2
  go_ret
  exact ⟨rfl, (Below.refl _ _).alloc (Nat.le_refl _) _⟩

set_option maxRecDepth 20000 in
theorem eachParts_any (w : World) (v : Value) (xs : List (Part)) (hv : Ls w.heap.size w 2 partC v xs) :
    Calls Tryz.prog 100 #[v, .func (.func 101) #[] #[]] w fun e w' => e = .returned (.bool (xs.all (fun p => isIdB p.1))) ∧ Below w.heap.size w w' := by
  obtain ⟨ao, cap, rfl, h1, h2, h4⟩ := hv
  unfold maxLen at h2
  go_enter Tryz.func100, Tryz.ntmps100
  go_wp2_with fail
  go_loopw [9] (fun t wr => ∃ k : Nat, k ≤ xs.length ∧ t = .int .i64 k ∧ (xs.take k).all (fun p => isIdB p.1) = true ∧ Below w.heap.size w wr)
    (fun t _ => xs.length - (intOf t).toNat)
  case atStart => exact ⟨0, by omega, rfl, by simp, Below.refl _ _⟩
  case round =>
    obtain ⟨k, hk, rfl, hall, hb⟩ := hrel
    have HB := hide hb
    have HA := hide hall
    clear hb hall
    by_cases hlt : k < xs.length
    · obtain ⟨b, off, rfl, hbB, hc⟩ := h4 (by rintro rfl; simp at hlt)
      have hst := all_step (fun p => isIdB p.1) xs k hlt HA.out
      have hno := all_false (fun p => isIdB p.1) xs k hlt
      have hcell : ∀ i u, (partC xs[k])[i]? = some u → wr.cell? ⟨b, off + k * 2 + i, none⟩ = some u := fun i u hu => (HB.out.cell (p := ⟨b, off + k * 2 + i, none⟩) hbB).trans (hc k hlt i u hu)
      generalize xs[k] = x at *
      have c0 := hcell 0 _ rfl
      have c1 := hcell 1 _ rfl
      try simp only [Nat.add_zero] at c0
      have HST := hide hst
      have HNO := hide hno
      clear hst hno
      by_cases hf : ((fun p => isIdB p.1)) x = true
      · go_wp2_with fail
        refine (fan1_any _ x).mono ?_
        rintro e w2 ⟨rfl, hb2⟩
        have HB2 : Hid (Below w.heap.size w w2) := hide (((HB.out.alloc HB.out.size _).trans (hb2.mono (HB.out.alloc HB.out.size _).size)))
        clear hb2
        (try dsimp only at hf)
        rw [hf]
        go_wp2
        go_roundw
        case rel => exact ⟨k + 1, by omega, by go_num, HST.out hf, HB2.out⟩
        case measure => simp [intOf]; omega
      · have hf := Bool.eq_false_iff.2 hf
        go_wp2_with fail
        refine (fan1_any _ x).mono ?_
        rintro e w2 ⟨rfl, hb2⟩
        have HB2 : Hid (Below w.heap.size w w2) := hide (((HB.out.alloc HB.out.size _).trans (hb2.mono (HB.out.alloc HB.out.size _).size)))
        clear hb2
        (try dsimp only at hf)
        rw [hf]
        go_wp2
        go_ret
        exact ⟨ret_bool (HNO.out hf), HB2.out⟩
    · obtain rfl : k = xs.length := by omega
      have ht := HA.out
      rw [List.take_length] at ht
      go_wp2
      go_ret
      exact ⟨ret_bool ht.symm, HB.out⟩

set_option maxRecDepth 20000 in
theorem eachPairs_any (w : World) (v : Value) (xs : List (Pair)) (hv : Ls w.heap.size w 2 pairC v xs) :
    Calls Tryz.prog 60 #[v, .func (.func 61) #[] #[]] w fun e w' => e = .returned (.bool (xs.all (fun p => isKeyB p.1 && decide (p.2.length ≤ 128)))) ∧ Below w.heap.size w w' := by
  obtain ⟨ao, cap, rfl, h1, h2, h4⟩ := hv
  unfold maxLen at h2
  go_enter Tryz.func60, Tryz.ntmps60
  go_wp2_with fail
  go_loopw [9] (fun t wr => ∃ k : Nat, k ≤ xs.length ∧ t = .int .i64 k ∧ (xs.take k).all (fun p => isKeyB p.1 && decide (p.2.length ≤ 128)) = true ∧ Below w.heap.size w wr)
    (fun t _ => xs.length - (intOf t).toNat)
  case atStart => exact ⟨0, by omega, rfl, by simp, Below.refl _ _⟩
  case round =>
    obtain ⟨k, hk, rfl, hall, hb⟩ := hrel
    have HB := hide hb
    have HA := hide hall
    clear hb hall
    by_cases hlt : k < xs.length
    · obtain ⟨b, off, rfl, hbB, hc⟩ := h4 (by rintro rfl; simp at hlt)
      have hst := all_step (fun p => isKeyB p.1 && decide (p.2.length ≤ 128)) xs k hlt HA.out
      have hno := all_false (fun p => isKeyB p.1 && decide (p.2.length ≤ 128)) xs k hlt
      have hcell : ∀ i u, (pairC xs[k])[i]? = some u → wr.cell? ⟨b, off + k * 2 + i, none⟩ = some u := fun i u hu => (HB.out.cell (p := ⟨b, off + k * 2 + i, none⟩) hbB).trans (hc k hlt i u hu)
      generalize xs[k] = x at *
      have c0 := hcell 0 _ rfl
      have c1 := hcell 1 _ rfl
      try simp only [Nat.add_zero] at c0
      have HST := hide hst
      have HNO := hide hno
      clear hst hno
      by_cases hf : ((fun p => isKeyB p.1 && decide (p.2.length ≤ 128))) x = true
      · go_wp2_with fail
        refine (leaf1_any _ x).mono ?_
        rintro e w2 ⟨rfl, hb2⟩
        have HB2 : Hid (Below w.heap.size w w2) := hide (((HB.out.alloc HB.out.size _).trans (hb2.mono (HB.out.alloc HB.out.size _).size)))
        clear hb2
        (try dsimp only at hf)
        rw [hf]
        go_wp2
        go_roundw
        case rel => exact ⟨k + 1, by omega, by go_num, HST.out hf, HB2.out⟩
        case measure => simp [intOf]; omega
      · have hf := Bool.eq_false_iff.2 hf
        go_wp2_with fail
        refine (leaf1_any _ x).mono ?_
        rintro e w2 ⟨rfl, hb2⟩
        have HB2 : Hid (Below w.heap.size w w2) := hide (((HB.out.alloc HB.out.size _).trans (hb2.mono (HB.out.alloc HB.out.size _).size)))
        clear hb2
        (try dsimp only at hf)
        rw [hf]
        go_wp2
        go_ret
        exact ⟨ret_bool (HNO.out hf), HB2.out⟩
    · obtain rfl : k = xs.length := by omega
      have ht := HA.out
      rw [List.take_length] at ht
      go_wp2
      go_ret
      exact ⟨ret_bool ht.symm, HB.out⟩

set_option maxRecDepth 20000 in
theorem eachLinks_any (w : World) (v : Value) (xs : List (Link)) (hv : Ls w.heap.size w 3 linkC v xs) :
    Calls Tryz.prog 106 #[v, .func (.func 107) #[] #[]] w fun e w' => e = .returned (.bool (xs.all (fun p => isKeyB p.1 && isIdB p.2.1))) ∧ Below w.heap.size w w' := by
  obtain ⟨ao, cap, rfl, h1, h2, h4⟩ := hv
  unfold maxLen at h2
  go_enter Tryz.func106, Tryz.ntmps106
  go_wp2_with fail
  go_loopw [9] (fun t wr => ∃ k : Nat, k ≤ xs.length ∧ t = .int .i64 k ∧ (xs.take k).all (fun p => isKeyB p.1 && isIdB p.2.1) = true ∧ Below w.heap.size w wr)
    (fun t _ => xs.length - (intOf t).toNat)
  case atStart => exact ⟨0, by omega, rfl, by simp, Below.refl _ _⟩
  case round =>
    obtain ⟨k, hk, rfl, hall, hb⟩ := hrel
    have HB := hide hb
    have HA := hide hall
    clear hb hall
    by_cases hlt : k < xs.length
    · obtain ⟨b, off, rfl, hbB, hc⟩ := h4 (by rintro rfl; simp at hlt)
      have hst := all_step (fun p => isKeyB p.1 && isIdB p.2.1) xs k hlt HA.out
      have hno := all_false (fun p => isKeyB p.1 && isIdB p.2.1) xs k hlt
      have hcell : ∀ i u, (linkC xs[k])[i]? = some u → wr.cell? ⟨b, off + k * 3 + i, none⟩ = some u := fun i u hu => (HB.out.cell (p := ⟨b, off + k * 3 + i, none⟩) hbB).trans (hc k hlt i u hu)
      generalize xs[k] = x at *
      have c0 := hcell 0 _ rfl
      have c1 := hcell 1 _ rfl
      have c2 := hcell 2 _ rfl
      try simp only [Nat.add_zero] at c0
      have HST := hide hst
      have HNO := hide hno
      clear hst hno
      by_cases hf : ((fun p => isKeyB p.1 && isIdB p.2.1)) x = true
      · go_wp2_with fail
        refine (branch1_any _ x).mono ?_
        rintro e w2 ⟨rfl, hb2⟩
        have HB2 : Hid (Below w.heap.size w w2) := hide (((HB.out.alloc HB.out.size _).trans (hb2.mono (HB.out.alloc HB.out.size _).size)))
        clear hb2
        (try dsimp only at hf)
        rw [hf]
        go_wp2
        go_roundw
        case rel => exact ⟨k + 1, by omega, by go_num, HST.out hf, HB2.out⟩
        case measure => simp [intOf]; omega
      · have hf := Bool.eq_false_iff.2 hf
        go_wp2_with fail
        refine (branch1_any _ x).mono ?_
        rintro e w2 ⟨rfl, hb2⟩
        have HB2 : Hid (Below w.heap.size w w2) := hide (((HB.out.alloc HB.out.size _).trans (hb2.mono (HB.out.alloc HB.out.size _).size)))
        clear hb2
        (try dsimp only at hf)
        rw [hf]
        go_wp2
        go_ret
        exact ⟨ret_bool (HNO.out hf), HB2.out⟩
    · obtain rfl : k = xs.length := by omega
      have ht := HA.out
      rw [List.take_length] at ht
      go_wp2
      go_ret
      exact ⟨ret_bool ht.symm, HB.out⟩

set_option maxRecDepth 20000 in
theorem eachIds_any (w : World) (v : Value) (xs : List (Bs)) (hv : Ls w.heap.size w 1 idC v xs) :
    Calls Tryz.prog 113 #[v, .func (.func 102) #[] #[]] w fun e w' => e = .returned (.bool (xs.all isIdB)) ∧ Below w.heap.size w w' := by
  obtain ⟨ao, cap, rfl, h1, h2, h4⟩ := hv
  unfold maxLen at h2
  go_enter Tryz.func113, Tryz.ntmps113
  go_wp2_with fail
  go_loopw [9] (fun t wr => ∃ k : Nat, k ≤ xs.length ∧ t = .int .i64 k ∧ (xs.take k).all isIdB = true ∧ Below w.heap.size w wr)
    (fun t _ => xs.length - (intOf t).toNat)
  case atStart => exact ⟨0, by omega, rfl, by simp, Below.refl _ _⟩
  case round =>
    obtain ⟨k, hk, rfl, hall, hb⟩ := hrel
    have HB := hide hb
    have HA := hide hall
    clear hb hall
    by_cases hlt : k < xs.length
    · obtain ⟨b, off, rfl, hbB, hc⟩ := h4 (by rintro rfl; simp at hlt)
      have hst := all_step isIdB xs k hlt HA.out
      have hno := all_false isIdB xs k hlt
      have hcell : ∀ i u, (idC xs[k])[i]? = some u → wr.cell? ⟨b, off + k * 1 + i, none⟩ = some u := fun i u hu => (HB.out.cell (p := ⟨b, off + k * 1 + i, none⟩) hbB).trans (hc k hlt i u hu)
      generalize xs[k] = x at *
      have c0 := hcell 0 _ rfl
      try simp only [Nat.mul_one, Nat.add_zero] at c0
      have HST := hide hst
      have HNO := hide hno
      clear hst hno
      by_cases hf : (isIdB) x = true
      · go_wp2_with fail
        refine (id1_any _ x).mono ?_
        rintro e w2 ⟨rfl, hb2⟩
        have HB2 : Hid (Below w.heap.size w w2) := hide ((HB.out.trans (hb2.mono HB.out.size)))
        clear hb2
        (try dsimp only at hf)
        rw [hf]
        go_wp2
        go_roundw
        case rel => exact ⟨k + 1, by omega, by go_num, HST.out hf, HB2.out⟩
        case measure => simp [intOf]; omega
      · have hf := Bool.eq_false_iff.2 hf
        go_wp2_with fail
        refine (id1_any _ x).mono ?_
        rintro e w2 ⟨rfl, hb2⟩
        have HB2 : Hid (Below w.heap.size w w2) := hide ((HB.out.trans (hb2.mono HB.out.size)))
        clear hb2
        (try dsimp only at hf)
        rw [hf]
        go_wp2
        go_ret
        exact ⟨ret_bool (HNO.out hf), HB2.out⟩
    · obtain rfl : k = xs.length := by omega
      have ht := HA.out
      rw [List.take_length] at ht
      go_wp2
      go_ret
      exact ⟨ret_bool ht.symm, HB.out⟩

set_option maxRecDepth 20000 in
theorem sumParts_any (w : World) (v : Value) (xs : List (Part)) (hv : Ls w.heap.size w 2 partC v xs) :
    Calls Tryz.prog 103 #[v, .func (.func 104) #[] #[], .int .i64 262144] w fun e w' => e = .returned (.bool (within (xs.map (fun p => p.2)) 262144)) ∧ Below w.heap.size w w' := by
  obtain ⟨ao, cap, rfl, h1, h2, h4⟩ := hv
  unfold maxLen at h2
  go_enter Tryz.func103, Tryz.ntmps103
  go_wp2_with fail
  go_loopw [12, 2] (fun t r wr => ∃ (k : Nat) (m : Int), k ≤ xs.length ∧ t = .int .i64 k ∧ r = .int .i64 m ∧ 0 ≤ m ∧ m ≤ 262144 ∧ within (xs.map (fun p => p.2)) 262144 = within ((xs.drop k).map (fun p => p.2)) m ∧ Below w.heap.size w wr)
    (fun t _ _ => xs.length - (intOf t).toNat)
  case atStart => exact ⟨0, 262144, by omega, rfl, rfl, by omega, by omega, rfl, Below.refl _ _⟩
  case round =>
    obtain ⟨k, m, hk, rfl, rfl, hm0, hm1, hall, hb⟩ := hrel
    have HB := hide hb
    have HA := hide hall
    clear hb hall
    by_cases hlt : k < xs.length
    · obtain ⟨b, off, rfl, hbB, hc⟩ := h4 (by rintro rfl; simp at hlt)
      have hst : within ((xs.drop k).map (fun p => p.2)) m = (!(decide (((fun p => p.2)) xs[k] < 1 ∨ m < ((fun p => p.2)) xs[k])) && within ((xs.drop (k + 1)).map (fun p => p.2)) (m - ((fun p => p.2)) xs[k])) := by
        rw [List.drop_eq_getElem_cons hlt, List.map_cons]
        rfl
      have hcell : ∀ i u, (partC xs[k])[i]? = some u → wr.cell? ⟨b, off + k * 2 + i, none⟩ = some u := fun i u hu => (HB.out.cell (p := ⟨b, off + k * 2 + i, none⟩) hbB).trans (hc k hlt i u hu)
      generalize xs[k] = x at *
      have c0 := hcell 0 _ rfl
      have c1 := hcell 1 _ rfl
      try simp only [Nat.add_zero] at c0
      obtain ⟨x1, n⟩ := x
      dsimp only at hst c0 c1
      have HST := hide hst
      clear hst hcell
      by_cases hf : n < 1
      · go_wp2_with fail
        refine (fan2_any _ (x1, n)).mono ?_
        rintro e w2 ⟨rfl, hb2⟩
        have HB2 : Hid (Below w.heap.size w w2) := hide (((HB.out.alloc HB.out.size _).trans (hb2.mono (HB.out.alloc HB.out.size _).size)))
        clear hb2
        go_wp2
        go_ret
        refine ⟨ret_bool ?_, HB2.out⟩
        rw [HA.out, HST.out]
        simp [hf]
      · by_cases hg : m < n
        · go_wp2_with fail
          refine (fan2_any _ (x1, n)).mono ?_
          rintro e w2 ⟨rfl, hb2⟩
          have HB2 : Hid (Below w.heap.size w w2) := hide (((HB.out.alloc HB.out.size _).trans (hb2.mono (HB.out.alloc HB.out.size _).size)))
          clear hb2
          go_wp2
          go_ret
          refine ⟨ret_bool ?_, HB2.out⟩
          rw [HA.out, HST.out]
          simp [hg]
        · go_wp2_with fail
          refine (fan2_any _ (x1, n)).mono ?_
          rintro e w2 ⟨rfl, hb2⟩
          have HB2 : Hid (Below w.heap.size w w2) := hide (((HB.out.alloc HB.out.size _).trans (hb2.mono (HB.out.alloc HB.out.size _).size)))
          clear hb2
          go_wp2
          go_roundw
          case rel =>
            refine ⟨k + 1, m - n, by omega, by go_num, by go_num, by omega, by omega, ?_, HB2.out⟩
            rw [HA.out, HST.out]
            simp [hf, hg]
          case measure => simp [intOf]; omega
    · obtain rfl : k = xs.length := by omega
      have ht := HA.out
      rw [List.drop_length] at ht
      go_wp2
      go_ret
      exact ⟨ret_bool (by rw [ht]; rfl), HB.out⟩

set_option maxRecDepth 20000 in
theorem sumLinks_any (w : World) (v : Value) (xs : List (Link)) (hv : Ls w.heap.size w 3 linkC v xs) :
    Calls Tryz.prog 110 #[v, .func (.func 111) #[] #[], .int .i64 4096] w fun e w' => e = .returned (.bool (within (xs.map (fun p => p.2.2)) 4096)) ∧ Below w.heap.size w w' := by
  obtain ⟨ao, cap, rfl, h1, h2, h4⟩ := hv
  unfold maxLen at h2
  go_enter Tryz.func110, Tryz.ntmps110
  go_wp2_with fail
  go_loopw [12, 2] (fun t r wr => ∃ (k : Nat) (m : Int), k ≤ xs.length ∧ t = .int .i64 k ∧ r = .int .i64 m ∧ 0 ≤ m ∧ m ≤ 4096 ∧ within (xs.map (fun p => p.2.2)) 4096 = within ((xs.drop k).map (fun p => p.2.2)) m ∧ Below w.heap.size w wr)
    (fun t _ _ => xs.length - (intOf t).toNat)
  case atStart => exact ⟨0, 4096, by omega, rfl, rfl, by omega, by omega, rfl, Below.refl _ _⟩
  case round =>
    obtain ⟨k, m, hk, rfl, rfl, hm0, hm1, hall, hb⟩ := hrel
    have HB := hide hb
    have HA := hide hall
    clear hb hall
    by_cases hlt : k < xs.length
    · obtain ⟨b, off, rfl, hbB, hc⟩ := h4 (by rintro rfl; simp at hlt)
      have hst : within ((xs.drop k).map (fun p => p.2.2)) m = (!(decide (((fun p => p.2.2)) xs[k] < 1 ∨ m < ((fun p => p.2.2)) xs[k])) && within ((xs.drop (k + 1)).map (fun p => p.2.2)) (m - ((fun p => p.2.2)) xs[k])) := by
        rw [List.drop_eq_getElem_cons hlt, List.map_cons]
        rfl
      have hcell : ∀ i u, (linkC xs[k])[i]? = some u → wr.cell? ⟨b, off + k * 3 + i, none⟩ = some u := fun i u hu => (HB.out.cell (p := ⟨b, off + k * 3 + i, none⟩) hbB).trans (hc k hlt i u hu)
      generalize xs[k] = x at *
      have c0 := hcell 0 _ rfl
      have c1 := hcell 1 _ rfl
      have c2 := hcell 2 _ rfl
      try simp only [Nat.add_zero] at c0
      obtain ⟨x1, x2, n⟩ := x
      dsimp only at hst c0 c1 c2
      have HST := hide hst
      clear hst hcell
      by_cases hf : n < 1
      · go_wp2_with fail
        refine (branch3_any _ (x1, x2, n)).mono ?_
        rintro e w2 ⟨rfl, hb2⟩
        have HB2 : Hid (Below w.heap.size w w2) := hide (((HB.out.alloc HB.out.size _).trans (hb2.mono (HB.out.alloc HB.out.size _).size)))
        clear hb2
        go_wp2
        go_ret
        refine ⟨ret_bool ?_, HB2.out⟩
        rw [HA.out, HST.out]
        simp [hf]
      · by_cases hg : m < n
        · go_wp2_with fail
          refine (branch3_any _ (x1, x2, n)).mono ?_
          rintro e w2 ⟨rfl, hb2⟩
          have HB2 : Hid (Below w.heap.size w w2) := hide (((HB.out.alloc HB.out.size _).trans (hb2.mono (HB.out.alloc HB.out.size _).size)))
          clear hb2
          go_wp2
          go_ret
          refine ⟨ret_bool ?_, HB2.out⟩
          rw [HA.out, HST.out]
          simp [hg]
        · go_wp2_with fail
          refine (branch3_any _ (x1, x2, n)).mono ?_
          rintro e w2 ⟨rfl, hb2⟩
          have HB2 : Hid (Below w.heap.size w w2) := hide (((HB.out.alloc HB.out.size _).trans (hb2.mono (HB.out.alloc HB.out.size _).size)))
          clear hb2
          go_wp2
          go_roundw
          case rel =>
            refine ⟨k + 1, m - n, by omega, by go_num, by go_num, by omega, by omega, ?_, HB2.out⟩
            rw [HA.out, HST.out]
            simp [hf, hg]
          case measure => simp [intOf]; omega
    · obtain rfl : k = xs.length := by omega
      have ht := HA.out
      rw [List.drop_length] at ht
      go_wp2
      go_ret
      exact ⟨ret_bool (by rw [ht]; rfl), HB.out⟩
end Go.Proofs.YtdbmngbinhemeabGreatDoor
