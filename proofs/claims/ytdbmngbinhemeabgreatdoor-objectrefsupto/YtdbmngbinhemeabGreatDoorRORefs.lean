/-
  Which ids an object names. Conditions: lengths within reach.
-/
import Derived.Test.YtdbmngbinhemeabGreatDoorROEntry
import Derived.Test.YtdbmngbinhemeabGreatDoorROChunk
namespace Go.Proofs.YtdbmngbinhemeabGreatDoor
open Go.RowKit

theorem takenFan_nil : takenFan [] = none := by
  cases h : takenFan [] with
  | none => rfl
  | some f => exact absurd ((takenFan_iff _ f).1 h).2 (by simp)
def idOf (o : Option Bs) : Value := .tuple #[.string (strB (o.getD [])), .bool o.isSome]
def entryIdOf (p : Pair) : Option Bs := (takenEntry p.1 p.2).map (·.2.1)
theorem names1_any (w : World) (x : Part) : Calls Tryz.prog 34 #[.agg #[.string (strB x.1), .int .i64 x.2]] w fun e w' => e = .returned (idOf (some x.1)) ∧ Below w.heap.size w w' := by
  go_enter Tryz.func34, Tryz.ntmps34
  go_wp2
  go_ret2
  exact ⟨rfl, (Below.refl _ _).alloc (Nat.le_refl _) _⟩
theorem names2_any (w : World) (x : Link) : Calls Tryz.prog 39 #[.agg #[.string (strB x.1), .string (strB x.2.1), .int .i64 x.2.2]] w fun e w' => e = .returned (idOf (some x.2.1)) ∧ Below w.heap.size w w' := by
  go_enter Tryz.func39, Tryz.ntmps39
  go_wp2
  go_ret2
  exact ⟨rfl, (Below.refl _ _).alloc (Nat.le_refl _) _⟩
set_option maxRecDepth 20000 in
theorem entryId_any (w : World) (x : Pair) (h1 : x.1.length ≤ 140737488355328) (h2 : x.2.length ≤ 140737488355328) : Calls Tryz.prog 36 #[.agg #[.string (strB x.1), .string (strB x.2)]] w fun e w' => e = .returned (idOf (entryIdOf x)) ∧ Below w.heap.size w w' := by
  have hb0 : Below w.heap.size w (w.alloc (.cells #[.string (strB x.1), .string (strB x.2)] 37)) := (Below.refl _ _).alloc (Nat.le_refl _) _
  have hT := takeEntry_any (w.alloc (.cells #[.string (strB x.1), .string (strB x.2)] 37)) x.1 x.2 h1 h2
  unfold entrySaid at hT
  unfold entryIdOf
  cases ht : takenEntry x.1 x.2 with
  | none =>
    rw [ht] at hT
    simp only at hT
    go_enter Tryz.func36, Tryz.ntmps36
    go_wp2_with fail
    refine hT.mono ?_
    rintro e w1 ⟨rfl, hb1⟩
    have hB := hb0.trans (hb1.mono hb0.size)
    go_wp2
    go_ret2
    exact ⟨rfl, hB.alloc hB.size _⟩
  | some v =>
    rw [ht] at hT
    simp only at hT
    go_enter Tryz.func36, Tryz.ntmps36
    go_wp2_with fail
    refine hT.mono ?_
    rintro e w1 ⟨rfl, hb1⟩
    have hB := hb0.trans (hb1.mono hb0.size)
    go_wp2
    go_ret2
    exact ⟨rfl, hB.alloc hB.size _⟩
theorem fm_step {α : Type} (f : α → Option Bs) (xs : List α) (k : Nat) (hk : k < xs.length) : (xs.take (k + 1)).filterMap f = (xs.take k).filterMap f ++ (f xs[k]).toList := by
  rw [List.take_succ_eq_append_getElem hk, List.filterMap_append]
  cases h : f xs[k] <;> simp [h]
theorem fm_le {α : Type} (f : α → Option Bs) (xs : List α) : (xs.filterMap f).length ≤ xs.length := List.length_filterMap_le f xs

set_option maxRecDepth 20000 in
set_option maxHeartbeats 800000 in
theorem idsParts_any (w : World) (v : Value) (xs : List (Part)) (hv : Ls w.heap.size w 2 partC v xs) (hn : xs.length ≤ 1000)  :
    Calls Tryz.prog 33 #[v, .func (.func 34) #[] #[]] w fun e w' => ∃ v', e = .returned v' ∧ w'.ownsRow w.heap.size 9 1 v' (xs.filterMap (fun p : Part => some p.1)).length ((xs.filterMap (fun p : Part => some p.1)).flatMap idC) ∧ Below w.heap.size w w' := by
  obtain ⟨i0, hi, hz0, hz1, hz2⟩ := info_parts Tryz.zStr
  obtain ⟨ao, cap, rfl, h1, h2, h4⟩ := hv
  unfold maxLen at h2
  go_enter Tryz.func33, Tryz.ntmps33
  go_wp2_with fail
  go_loopw [12, 5] (fun t v wr => ∃ k : Nat, k ≤ xs.length ∧ t = .int .i64 k ∧ wr.ownsRow w.heap.size 9 1 v ((xs.take k).filterMap (fun p : Part => some p.1)).length (((xs.take k).filterMap (fun p : Part => some p.1)).flatMap idC) ∧ Below w.heap.size w wr)
    (fun t _ _ => xs.length - (intOf t).toNat)
  case atStart => exact ⟨0, by omega, rfl, World.ownsRow_nil _ _ _ _, Below.refl _ _⟩
  case round =>
    obtain ⟨k, hk, rfl, hown, hb⟩ := hrel
    have HB := hide hb
    have HO := hide hown
    have hle := fm_le (fun p : Part => some p.1) (xs.take k)
    rw [List.length_take] at hle
    clear hb
    by_cases hlt : k < xs.length
    · obtain ⟨b, off, rfl, hbB, hc⟩ := h4 (by rintro rfl; simp at hlt)
      have hcell : ∀ i u, (partC xs[k])[i]? = some u → wr.cell? ⟨b, off + k * 2 + i, none⟩ = some u := fun i u hu => (HB.out.cell (p := ⟨b, off + k * 2 + i, none⟩) hbB).trans (hc k hlt i u hu)
      have hst := fm_step (fun p : Part => some p.1) xs k hlt
      have hmem : xs[k] ∈ xs := List.getElem_mem hlt
      generalize xs[k] = x at *
      have c0 := hcell 0 _ rfl
      have c1 := hcell 1 _ rfl
      try simp only [Nat.add_zero] at c0
      have HST := hide hst
      generalize (xs.take k).filterMap (fun p : Part => some p.1) = A at *
      obtain ⟨a3, c3, rfl, -⟩ := own_form hown
      have hA : Below w.heap.size w (wr.alloc (.cells #[.string (strB x.1), .int .i64 x.2] 51)) := HB.out.alloc HB.out.size _
      have hoA := HO.out.alloc (.cells #[.string (strB x.1), .int .i64 x.2] 51)
      have hq := names1_any (wr.alloc (.cells #[.string (strB x.1), .int .i64 x.2] 51)) x
      have HA := hide hA
      have HOA := hide hoA
      clear hown hst hc hcell hA hoA h4
      obtain ⟨fx, hfx⟩ : ∃ fx, fx = (fun p : Part => some p.1) x := ⟨_, rfl⟩
      have hq : Calls Tryz.prog 34 #[.agg #[.string (strB x.1), .int .i64 x.2]] (wr.alloc (.cells #[.string (strB x.1), .int .i64 x.2] 51)) fun e w' => e = .returned (idOf fx) ∧ Below (wr.alloc (.cells #[.string (strB x.1), .int .i64 x.2] 51)).heap.size (wr.alloc (.cells #[.string (strB x.1), .int .i64 x.2] 51)) w' := by rw [hfx]; exact hq
      have HST : Hid ((xs.take (k + 1)).filterMap (fun p : Part => some p.1) = A ++ fx.toList) := by rw [hfx]; exact HST
      clear hfx
      cases fx with
      | none =>
        unfold idOf at hq
        simp only [Option.getD_none, Option.isSome_none] at hq
        go_wp2_with fail
        refine hq.mono ?_
        rintro e w1 ⟨rfl, hb1⟩
        have HB1 := hide (HA.out.trans (hb1.mono HA.out.size))
        have HO1 := hide (own_below HOA.out hb1)
        clear hb1 hq
        go_wp2
        go_roundw
        case rel => exact ⟨k + 1, by omega, by go_num, by rw [HST.out]; simpa using HO1.out, HB1.out⟩
        case measure => simp [intOf]; omega
      | some y =>
        unfold idOf at hq
        simp only [Option.getD_some, Option.isSome_some] at hq
        go_wp2_with fail
        refine hq.mono ?_
        rintro e w1 ⟨rfl, hb1⟩
        have HB1 := hide (HA.out.trans (hb1.mono HA.out.size))
        have HO1 := hide (own_below HOA.out hb1)
        have hnw := news_at w1 [.string (strB y)] 9
        have HOB := hide (HO1.out.alloc (.cells #[.string (strB y)] 9))
        have HBB := hide (HB1.out.alloc HB1.out.size (.cells #[.string (strB y)] 9))
        have hszr := HB1.out.size
        clear hb1 hq
        go_wp2_with (at_builtin; refine wpList_append_own _ rfl (.tmp 23) (.tmp 25) 22 rfl w.heap.size 9 i0 (.string ⟨#[]⟩) 1 16 Tryz.underlying22 hi hz0 hz1 hz2 rfl (by decide) _ _ _ rfl HOB.out ⟨w1.heap.size, 0, none⟩ 1 1 [.string (strB y)] rfl rfl hnw (by simp [Value.oneCell']) (by unfold maxLen; omega) (by omega) (by simp; omega) ?_; intro v3 w3 hown3 hgr3 _; have HO3 := hide hown3; obtain ⟨a4, c4, rfl, -⟩ := own_form hown3; clear hown3)
        have hb3 := HBB.out.grown hgr3 HBB.out.size (fun q hq => (HOB.out.lt q hq).1)
        have HB3 := hide hb3
        clear hgr3 hb3 hnw
        go_wp2
        go_roundw
        case rel =>
          refine ⟨k + 1, by omega, by go_num, ?_, HB3.out⟩
          rw [HST.out]
          simp only [Option.toList_some]
          rw [flat_one, List.length_append]
          exact HO3.out
        case measure => simp [intOf]; omega
    · obtain rfl : k = xs.length := by omega
      rw [List.take_length] at hown
      clear HO
      have HO := hide hown
      obtain ⟨a3, c3, rfl, -⟩ := own_form hown
      clear hown
      go_wp2
      go_ret
      exact ⟨_, rfl, HO.out, HB.out⟩

set_option maxRecDepth 20000 in
set_option maxHeartbeats 800000 in
theorem idsPairs_any (w : World) (v : Value) (xs : List (Pair)) (hv : Ls w.heap.size w 2 pairC v xs) (hn : xs.length ≤ 1000) (hp : ∀ x ∈ xs, x.1.length ≤ 140737488355328 ∧ x.2.length ≤ 140737488355328) :
    Calls Tryz.prog 35 #[v, .func (.func 36) #[] #[]] w fun e w' => ∃ v', e = .returned v' ∧ w'.ownsRow w.heap.size 9 1 v' (xs.filterMap entryIdOf).length ((xs.filterMap entryIdOf).flatMap idC) ∧ Below w.heap.size w w' := by
  obtain ⟨i0, hi, hz0, hz1, hz2⟩ := info_parts Tryz.zStr
  obtain ⟨ao, cap, rfl, h1, h2, h4⟩ := hv
  unfold maxLen at h2
  go_enter Tryz.func35, Tryz.ntmps35
  go_wp2_with fail
  go_loopw [12, 5] (fun t v wr => ∃ k : Nat, k ≤ xs.length ∧ t = .int .i64 k ∧ wr.ownsRow w.heap.size 9 1 v ((xs.take k).filterMap entryIdOf).length (((xs.take k).filterMap entryIdOf).flatMap idC) ∧ Below w.heap.size w wr)
    (fun t _ _ => xs.length - (intOf t).toNat)
  case atStart => exact ⟨0, by omega, rfl, World.ownsRow_nil _ _ _ _, Below.refl _ _⟩
  case round =>
    obtain ⟨k, hk, rfl, hown, hb⟩ := hrel
    have HB := hide hb
    have HO := hide hown
    have hle := fm_le entryIdOf (xs.take k)
    rw [List.length_take] at hle
    clear hb
    by_cases hlt : k < xs.length
    · obtain ⟨b, off, rfl, hbB, hc⟩ := h4 (by rintro rfl; simp at hlt)
      have hcell : ∀ i u, (pairC xs[k])[i]? = some u → wr.cell? ⟨b, off + k * 2 + i, none⟩ = some u := fun i u hu => (HB.out.cell (p := ⟨b, off + k * 2 + i, none⟩) hbB).trans (hc k hlt i u hu)
      have hst := fm_step entryIdOf xs k hlt
      have hmem : xs[k] ∈ xs := List.getElem_mem hlt
      generalize xs[k] = x at *
      have c0 := hcell 0 _ rfl
      have c1 := hcell 1 _ rfl
      try simp only [Nat.add_zero] at c0
      have HST := hide hst
      generalize (xs.take k).filterMap entryIdOf = A at *
      obtain ⟨a3, c3, rfl, -⟩ := own_form hown
      have hA : Below w.heap.size w (wr.alloc (.cells #[.string (strB x.1), .string (strB x.2)] 37)) := HB.out.alloc HB.out.size _
      have hoA := HO.out.alloc (.cells #[.string (strB x.1), .string (strB x.2)] 37)
      have hq := entryId_any (wr.alloc (.cells #[.string (strB x.1), .string (strB x.2)] 37)) x (hp x hmem).1 (hp x hmem).2
      have HA := hide hA
      have HOA := hide hoA
      clear hown hst hc hcell hA hoA h4
      obtain ⟨fx, hfx⟩ : ∃ fx, fx = entryIdOf x := ⟨_, rfl⟩
      have hq : Calls Tryz.prog 36 #[.agg #[.string (strB x.1), .string (strB x.2)]] (wr.alloc (.cells #[.string (strB x.1), .string (strB x.2)] 37)) fun e w' => e = .returned (idOf fx) ∧ Below (wr.alloc (.cells #[.string (strB x.1), .string (strB x.2)] 37)).heap.size (wr.alloc (.cells #[.string (strB x.1), .string (strB x.2)] 37)) w' := by rw [hfx]; exact hq
      have HST : Hid ((xs.take (k + 1)).filterMap entryIdOf = A ++ fx.toList) := by rw [hfx]; exact HST
      clear hfx
      cases fx with
      | none =>
        unfold idOf at hq
        simp only [Option.getD_none, Option.isSome_none] at hq
        go_wp2_with fail
        refine hq.mono ?_
        rintro e w1 ⟨rfl, hb1⟩
        have HB1 := hide (HA.out.trans (hb1.mono HA.out.size))
        have HO1 := hide (own_below HOA.out hb1)
        clear hb1 hq
        go_wp2
        go_roundw
        case rel => exact ⟨k + 1, by omega, by go_num, by rw [HST.out]; simpa using HO1.out, HB1.out⟩
        case measure => simp [intOf]; omega
      | some y =>
        unfold idOf at hq
        simp only [Option.getD_some, Option.isSome_some] at hq
        go_wp2_with fail
        refine hq.mono ?_
        rintro e w1 ⟨rfl, hb1⟩
        have HB1 := hide (HA.out.trans (hb1.mono HA.out.size))
        have HO1 := hide (own_below HOA.out hb1)
        have hnw := news_at w1 [.string (strB y)] 9
        have HOB := hide (HO1.out.alloc (.cells #[.string (strB y)] 9))
        have HBB := hide (HB1.out.alloc HB1.out.size (.cells #[.string (strB y)] 9))
        have hszr := HB1.out.size
        clear hb1 hq
        go_wp2_with (at_builtin; refine wpList_append_own _ rfl (.tmp 23) (.tmp 25) 22 rfl w.heap.size 9 i0 (.string ⟨#[]⟩) 1 16 Tryz.underlying22 hi hz0 hz1 hz2 rfl (by decide) _ _ _ rfl HOB.out ⟨w1.heap.size, 0, none⟩ 1 1 [.string (strB y)] rfl rfl hnw (by simp [Value.oneCell']) (by unfold maxLen; omega) (by omega) (by simp; omega) ?_; intro v3 w3 hown3 hgr3 _; have HO3 := hide hown3; obtain ⟨a4, c4, rfl, -⟩ := own_form hown3; clear hown3)
        have hb3 := HBB.out.grown hgr3 HBB.out.size (fun q hq => (HOB.out.lt q hq).1)
        have HB3 := hide hb3
        clear hgr3 hb3 hnw
        go_wp2
        go_roundw
        case rel =>
          refine ⟨k + 1, by omega, by go_num, ?_, HB3.out⟩
          rw [HST.out]
          simp only [Option.toList_some]
          rw [flat_one, List.length_append]
          exact HO3.out
        case measure => simp [intOf]; omega
    · obtain rfl : k = xs.length := by omega
      rw [List.take_length] at hown
      clear HO
      have HO := hide hown
      obtain ⟨a3, c3, rfl, -⟩ := own_form hown
      clear hown
      go_wp2
      go_ret
      exact ⟨_, rfl, HO.out, HB.out⟩

set_option maxRecDepth 20000 in
set_option maxHeartbeats 800000 in
theorem idsLinks_any (w : World) (v : Value) (xs : List (Link)) (hv : Ls w.heap.size w 3 linkC v xs) (hn : xs.length ≤ 1000)  :
    Calls Tryz.prog 38 #[v, .func (.func 39) #[] #[]] w fun e w' => ∃ v', e = .returned v' ∧ w'.ownsRow w.heap.size 9 1 v' (xs.filterMap (fun p : Link => some p.2.1)).length ((xs.filterMap (fun p : Link => some p.2.1)).flatMap idC) ∧ Below w.heap.size w w' := by
  obtain ⟨i0, hi, hz0, hz1, hz2⟩ := info_parts Tryz.zStr
  obtain ⟨ao, cap, rfl, h1, h2, h4⟩ := hv
  unfold maxLen at h2
  go_enter Tryz.func38, Tryz.ntmps38
  go_wp2_with fail
  go_loopw [12, 5] (fun t v wr => ∃ k : Nat, k ≤ xs.length ∧ t = .int .i64 k ∧ wr.ownsRow w.heap.size 9 1 v ((xs.take k).filterMap (fun p : Link => some p.2.1)).length (((xs.take k).filterMap (fun p : Link => some p.2.1)).flatMap idC) ∧ Below w.heap.size w wr)
    (fun t _ _ => xs.length - (intOf t).toNat)
  case atStart => exact ⟨0, by omega, rfl, World.ownsRow_nil _ _ _ _, Below.refl _ _⟩
  case round =>
    obtain ⟨k, hk, rfl, hown, hb⟩ := hrel
    have HB := hide hb
    have HO := hide hown
    have hle := fm_le (fun p : Link => some p.2.1) (xs.take k)
    rw [List.length_take] at hle
    clear hb
    by_cases hlt : k < xs.length
    · obtain ⟨b, off, rfl, hbB, hc⟩ := h4 (by rintro rfl; simp at hlt)
      have hcell : ∀ i u, (linkC xs[k])[i]? = some u → wr.cell? ⟨b, off + k * 3 + i, none⟩ = some u := fun i u hu => (HB.out.cell (p := ⟨b, off + k * 3 + i, none⟩) hbB).trans (hc k hlt i u hu)
      have hst := fm_step (fun p : Link => some p.2.1) xs k hlt
      have hmem : xs[k] ∈ xs := List.getElem_mem hlt
      generalize xs[k] = x at *
      have c0 := hcell 0 _ rfl
      have c1 := hcell 1 _ rfl
      have c2 := hcell 2 _ rfl
      try simp only [Nat.add_zero] at c0
      have HST := hide hst
      generalize (xs.take k).filterMap (fun p : Link => some p.2.1) = A at *
      obtain ⟨a3, c3, rfl, -⟩ := own_form hown
      have hA : Below w.heap.size w (wr.alloc (.cells #[.string (strB x.1), .string (strB x.2.1), .int .i64 x.2.2] 58)) := HB.out.alloc HB.out.size _
      have hoA := HO.out.alloc (.cells #[.string (strB x.1), .string (strB x.2.1), .int .i64 x.2.2] 58)
      have hq := names2_any (wr.alloc (.cells #[.string (strB x.1), .string (strB x.2.1), .int .i64 x.2.2] 58)) x
      have HA := hide hA
      have HOA := hide hoA
      clear hown hst hc hcell hA hoA h4
      obtain ⟨fx, hfx⟩ : ∃ fx, fx = (fun p : Link => some p.2.1) x := ⟨_, rfl⟩
      have hq : Calls Tryz.prog 39 #[.agg #[.string (strB x.1), .string (strB x.2.1), .int .i64 x.2.2]] (wr.alloc (.cells #[.string (strB x.1), .string (strB x.2.1), .int .i64 x.2.2] 58)) fun e w' => e = .returned (idOf fx) ∧ Below (wr.alloc (.cells #[.string (strB x.1), .string (strB x.2.1), .int .i64 x.2.2] 58)).heap.size (wr.alloc (.cells #[.string (strB x.1), .string (strB x.2.1), .int .i64 x.2.2] 58)) w' := by rw [hfx]; exact hq
      have HST : Hid ((xs.take (k + 1)).filterMap (fun p : Link => some p.2.1) = A ++ fx.toList) := by rw [hfx]; exact HST
      clear hfx
      cases fx with
      | none =>
        unfold idOf at hq
        simp only [Option.getD_none, Option.isSome_none] at hq
        go_wp2_with fail
        refine hq.mono ?_
        rintro e w1 ⟨rfl, hb1⟩
        have HB1 := hide (HA.out.trans (hb1.mono HA.out.size))
        have HO1 := hide (own_below HOA.out hb1)
        clear hb1 hq
        go_wp2
        go_roundw
        case rel => exact ⟨k + 1, by omega, by go_num, by rw [HST.out]; simpa using HO1.out, HB1.out⟩
        case measure => simp [intOf]; omega
      | some y =>
        unfold idOf at hq
        simp only [Option.getD_some, Option.isSome_some] at hq
        go_wp2_with fail
        refine hq.mono ?_
        rintro e w1 ⟨rfl, hb1⟩
        have HB1 := hide (HA.out.trans (hb1.mono HA.out.size))
        have HO1 := hide (own_below HOA.out hb1)
        have hnw := news_at w1 [.string (strB y)] 9
        have HOB := hide (HO1.out.alloc (.cells #[.string (strB y)] 9))
        have HBB := hide (HB1.out.alloc HB1.out.size (.cells #[.string (strB y)] 9))
        have hszr := HB1.out.size
        clear hb1 hq
        go_wp2_with (at_builtin; refine wpList_append_own _ rfl (.tmp 23) (.tmp 25) 22 rfl w.heap.size 9 i0 (.string ⟨#[]⟩) 1 16 Tryz.underlying22 hi hz0 hz1 hz2 rfl (by decide) _ _ _ rfl HOB.out ⟨w1.heap.size, 0, none⟩ 1 1 [.string (strB y)] rfl rfl hnw (by simp [Value.oneCell']) (by unfold maxLen; omega) (by omega) (by simp; omega) ?_; intro v3 w3 hown3 hgr3 _; have HO3 := hide hown3; obtain ⟨a4, c4, rfl, -⟩ := own_form hown3; clear hown3)
        have hb3 := HBB.out.grown hgr3 HBB.out.size (fun q hq => (HOB.out.lt q hq).1)
        have HB3 := hide hb3
        clear hgr3 hb3 hnw
        go_wp2
        go_roundw
        case rel =>
          refine ⟨k + 1, by omega, by go_num, ?_, HB3.out⟩
          rw [HST.out]
          simp only [Option.toList_some]
          rw [flat_one, List.length_append]
          exact HO3.out
        case measure => simp [intOf]; omega
    · obtain rfl : k = xs.length := by omega
      rw [List.take_length] at hown
      clear HO
      have HO := hide hown
      obtain ⟨a3, c3, rfl, -⟩ := own_form hown
      clear hown
      go_wp2
      go_ret
      exact ⟨_, rfl, HO.out, HB.out⟩
end Go.Proofs.YtdbmngbinhemeabGreatDoor
