/-
  What the document's own Of answers. Conditions: the texts lie there; not too many; lengths within reach.
-/
import Derived.Test.YtkihldkaiddbkaaCIns
import Derived.Test.YtkihldkaiddbkaaRefWithin
import Derived.Test.YtkihldkaiddbkaaOrders
namespace Go.Proofs.Ytkihldkaiddbkaa
open Go.RowKit

theorem Ts.at {w : World} {ao : Option Addr} {n cap : Nat} {xs : List Bs} (h : Ts w (.slice ao n cap) xs) (k : Nat) (hk : k < xs.length) :
    ∃ b off, ao = some ⟨b, off, none⟩ ∧ b < w.heap.size ∧ w.cell? ⟨b, off + k, none⟩ = some (.string (strB xs[k])) := by
  obtain ⟨ao', cap', e, h1, h2, h4⟩ := h
  injection e with e1 e2 e3
  subst e1
  obtain ⟨b, off, rfl, hb, hc⟩ := h4 (by rintro rfl; simp at hk)
  exact ⟨b, off, rfl, hb, hc k hk⟩
theorem Ts.all {w : World} {ao : Option Addr} {n cap : Nat} {xs : List Bs} (h : Ts w (.slice ao n cap) xs) (hne : 0 < xs.length) :
    ∃ b off, ao = some ⟨b, off, none⟩ ∧ b < w.heap.size ∧ ∀ k (hk : k < xs.length), w.cell? ⟨b, off + k, none⟩ = some (.string (strB xs[k])) := by
  obtain ⟨ao', cap', e, h1, h2, h4⟩ := h
  injection e with e1 e2 e3
  subst e1
  exact h4 (by rintro rfl; simp at hne)
theorem formS_take {xs : List Bs} {i : Nat} (h : i < xs.length) : Pt.formS xs [] (xs.take (i + 1)) = if Pt.inner xs xs[i] then Pt.formS xs [] (xs.take i) else Pt.insS (Pt.formS xs [] (xs.take i)) xs[i] := by
  rw [take_snoc h, Pt.formS_snoc]
theorem formS_size (xs : List Bs) (i : Nat) : (Pt.formS xs [] (xs.take i)).length ≤ xs.length := by
  have := Pt.formS_len xs (xs.take i) []
  rw [List.length_nil, List.length_take] at this
  omega
theorem formS_short {xs : List Bs} (h : ∀ x ∈ xs, x.length ≤ 1040) (i : Nat) : ∀ x ∈ Pt.formS xs [] (xs.take i), x.length ≤ 1040 := fun x hx => by
  have := ((Pt.formS_spec xs (xs.take i) [] (by simp [Pt.Rising])).2 x).1 hx
  rcases this with h1 | h1
  · simp at h1
  · exact h x (List.mem_of_mem_take h1.1)
theorem inner_take {xs : List Bs} {k : Nat} (h : k < xs.length) (d : Bs) : Pt.inner (xs.take (k + 1)) d = (Pt.inner (xs.take k) d || (Pt.within xs[k] d && decide (xs[k] ≠ d))) := by
  unfold Pt.inner
  rw [take_snoc h, List.any_append]
  simp
theorem insS_at {out : List Bs} {d : Bs} (h : out[Pt.place out d]? = some d) : Pt.insS out d = out := by unfold Pt.insS; rw [if_pos h]
theorem insS_new {out : List Bs} {d : Bs} (h : ¬ out[Pt.place out d]? = some d) : Pt.insS out d = (out.take (Pt.place out d) ++ [d]) ++ out.drop (Pt.place out d) := by unfold Pt.insS; rw [if_neg h]; simp
/-- A part of a slice, from z on. -/
def cutA (ao : Option Addr) (z cap : Nat) : Option Addr := if cap - z = 0 then ao else ao.map fun x => x.add z

set_option maxRecDepth 40000 in
set_option maxHeartbeats 3200000 in
theorem rof_any (w : World) (v : Value) (xs : List Bs) (h : Ts w v xs) (hn : xs.length ≤ 1000000) (hl : ∀ x ∈ xs, x.length ≤ 4611686018427387000) :
    Calls Try.prog 12 #[v] w fun e w' => ∃ u, e = .returned (.tuple #[u, .int .i64 (Pt.ofM xs).2]) ∧ w'.ownsRow w.heap.size 9 1 u (Pt.ofM xs).1.length (tc (Pt.ofM xs).1) ∧ Below w.heap.size w w' := by
  have hV := h
  obtain ⟨ao, cap, rfl, h1, h2, -⟩ := h
  unfold maxLen at h2
  have HV := hide hV
  have HL := hide hl
  clear hV hl
  go_enter Try.func12, Try.ntmps12
  go_wp2
  go_loopw [4] (fun t wr => Below w.heap.size w wr ∧ ∃ k : Nat, t = .int .i64 (k : Int) ∧ k ≤ xs.length ∧ ∀ j (hj : j < xs.length), j < k → Pt.path xs[j] = true) (fun t _ => xs.length - (intOf t).toNat)
  case atStart => exact ⟨Below.refl _ _, 0, rfl, by omega, fun j _ h => absurd h (by omega)⟩
  case round =>
    obtain ⟨hb, k, rfl, hk, hp⟩ := hrel
    have HB := hide hb
    by_cases hlt : k < xs.length
    · obtain ⟨b, off, rfl, hbl, hc⟩ := Ts.at (HV.out.keep hb) k hlt
      have hr := rparse_all wr xs[k] (HL.out xs[k] (List.getElem_mem hlt))
      unfold err at hr
      have HP := hide hp
      cases hpk : Pt.path xs[k] with
      | false =>
        rw [hpk, if_neg (by simp)] at hr
        have HA := hide (show xs.all Pt.path = false from by
          rw [Bool.eq_false_iff]
          intro h
          rw [List.all_eq_true.1 h xs[k] (List.getElem_mem hlt)] at hpk
          cases hpk)
        clear hp hb hpk
        go_wp2_with fail
        refine hr.mono ?_
        rintro e w2 ⟨u, rfl, hu, hb2⟩
        obtain ⟨uo, uc, rfl⟩ := own_shape hu
        have HB2 := hide (HB.out.trans (hb2.mono HB.out.size))
        clear hu hb2 hr
        go_wp2
        all_goals (go_ret2; rw [ofM_none HA.out]; exact ⟨_, rfl, World.ownsRow_nil _ _ _ _, HB2.out⟩)
      | true =>
        rw [hpk, if_pos rfl] at hr
        have HK := hide hpk
        clear hp hb hpk
        go_wp2_with fail
        refine hr.mono ?_
        rintro e w2 ⟨u, rfl, hu, hb2⟩
        obtain ⟨uo, uc, rfl⟩ := own_shape hu
        have HB2 := hide (HB.out.trans (hb2.mono HB.out.size))
        clear hu hb2 hr
        go_wp2
        go_roundw
        case rel =>
          refine ⟨HB2.out, k + 1, by go_num, by omega, fun j hj hjk => ?_⟩
          by_cases e : j = k
          · subst e; exact HK.out
          · exact HP.out j hj (by omega)
        case measure => simp [intOf]; omega
    · have hall : xs.all Pt.path = true := List.all_eq_true.2 (fun x hx => by
        obtain ⟨j, hj, rfl⟩ := List.getElem_of_mem hx
        exact hp j hj (by omega))
      have HA := hide hall
      have HX := hide (fun x hx => path_length (List.all_eq_true.1 hall x hx) : ∀ x ∈ xs, x.length ≤ 1040)
      clear hp hb hall
      go_wp2_with fail
      go_loopw [7, 8] (fun o t wr => Below w.heap.size w wr ∧ ∃ i : Nat, t = .int .i64 (i : Int) ∧ i ≤ xs.length ∧ OwnT wr w.heap.size o (Pt.formS xs [] (xs.take i))) (fun _ t _ => xs.length - (intOf t).toNat)
      case atStart => exact ⟨HB.out, 0, rfl, by omega, World.ownsRow_nil _ _ _ _⟩
      case round =>
        obtain ⟨hb2, i, rfl, hi, ho⟩ := hrel
        have HB2 := hide hb2
        by_cases hlt2 : i < xs.length
        · have HFS := hide (formS_take hlt2)
          have HOL := hide (formS_size xs i)
          obtain ⟨b, off, rfl, hbl, hc⟩ := Ts.all HV.out (by omega)
          have HXD := hide (HX.out xs[i] (List.getElem_mem hlt2))
          have HCD := hide (fun W (hW : Below wr.heap.size wr W) k (hk : k < xs.length) => ((HB2.out.trans (hW.mono HB2.out.size)).cell (p := ⟨b, off + k, none⟩) hbl).trans (hc k hk))
          have HDI := hide (fun W (hW : Below wr.heap.size wr W) => HCD.out W hW i hlt2)
          have HOX := hide (formS_short HX.out i)
          generalize xs[i] = d at *
          generalize Pt.formS xs [] (xs.take i) = out at *
          obtain ⟨oo, oc, rfl⟩ := own_shape ho
          have HO := hide ho
          clear hb2 ho hc
          generalize wr = wo at *
          go_wp2_with fail
          go_loopw [9, 10] (fun inn t wr => Below wo.heap.size wo wr ∧ ∃ k : Nat, t = .int .i64 (k : Int) ∧ k ≤ xs.length ∧ inn = .bool (Pt.inner (xs.take k) d)) (fun _ t _ => xs.length - (intOf t).toNat)
          case atStart => exact ⟨Below.refl _ _, 0, rfl, by omega, rfl⟩
          case round =>
            obtain ⟨hb3, k3, rfl, hk3, rfl⟩ := hrel
            have HB3 := hide hb3
            by_cases hlt3 : k3 < xs.length
            · have HIN := hide (inner_take hlt3 d)
              have c0 := HCD.out wr hb3 k3 hlt3
              have c1 := HDI.out wr hb3
              have HCK := hide (fun W (hW : Below wo.heap.size wo W) => HCD.out W hW k3 hlt3)
              have HXY := hide (HX.out xs[k3] (List.getElem_mem hlt3))
              have HW := hide (fun W => rwithin_any W xs[k3] d (by have := HXY.out; omega) (by have := HXD.out; omega))
              generalize xs[k3] = y at *
              generalize Pt.inner (xs.take k3) d = acc at *
              have ty := toL y
              have td := toL d
              clear hb3
              go_wp2_with fail
              refine wp_region_held_drew (S := fun W => W.cell? ⟨b, off + k3, none⟩ = some (.string (strB y)) ∧ W.cell? ⟨b, off + i, none⟩ = some (.string (strB d))) (by kernel_rfl) (⟨c0, c1⟩) (fun hHeld => ?_)
              refine takeK 0 hHeld ?_
              refine takeK 1 hHeld ?_
              refine takeK 2 hHeld ?_
              refine takeK 3 hHeld ?_
              refine takeK 4 hHeld ?_
              refine takeK 5 hHeld ?_
              refine takeK 6 hHeld ?_
              refine takeK 7 hHeld ?_
              refine onlyH (i := 8) rfl (by kernel_rfl) rfl (fun K hK => ?_)
              go_simp
              refine (HW.out _).mono ?_
              rintro e w4 ⟨rfl, hb4⟩
              have hb4' := HB3.out.trans (((Below.refl _ _).drew.trans hb4).mono HB3.out.size)
              have HB4 := hide hb4'
              have d0 := HCK.out _ hb4'
              have d1 := HDI.out _ hb4'
              clear hb4 hb4' c0 c1
              refine hK.out _ _ (⟨d0, d1⟩) (fun hHeld => ?_)
              clear hK K
              try simp only [Act.put, List.setIfInBounds_toArray, List.set_cons_zero, List.set_cons_succ]
              refine takeK 9 hHeld ?_
              refine wpAnyH_done (by kernel_rfl) ?_ _
              clear hHeld
              cases acc with
              | true =>
                go_wp2_with fail
                refine wp_region_held_drew (S := fun W => W.cell? ⟨b, off + k3, none⟩ = some (.string (strB y)) ∧ W.cell? ⟨b, off + i, none⟩ = some (.string (strB d))) (by kernel_rfl) (⟨d0, d1⟩) (fun hHeld => ?_)
                refine takeK 0 hHeld ?_
                refine takeK 1 hHeld ?_
                refine skipK 2 hHeld ?_
                refine skipK 3 hHeld ?_
                refine skipK 4 hHeld ?_
                refine skipK 5 hHeld ?_
                refine skipK 6 hHeld ?_
                refine skipK 7 hHeld ?_
                refine skipK 8 hHeld ?_
                refine skipK 9 hHeld ?_
                refine skipK 10 hHeld ?_
                refine skipK 11 hHeld ?_
                refine skipK 12 hHeld ?_
                refine skipK 13 hHeld ?_
                refine takeK 14 hHeld ?_
                refine takeK 15 hHeld ?_
                refine wpAnyH_done (by kernel_rfl) ?_ _
                clear hHeld
                go_wp2_with fail
                go_roundw
                case rel => exact ⟨HB4.out.drew, k3 + 1, by go_num, by omega, by rw [HIN.out]; rfl⟩
                case measure => simp [intOf]; omega
              | false =>
                cases hwy : Pt.within y d with
                | false =>
                  have HWY := hide hwy
                  go_wp2_with fail
                  refine wp_region_held_drew (S := fun W => W.cell? ⟨b, off + k3, none⟩ = some (.string (strB y)) ∧ W.cell? ⟨b, off + i, none⟩ = some (.string (strB d))) (by kernel_rfl) (⟨d0, d1⟩) (fun hHeld => ?_)
                  refine takeK 0 hHeld ?_
                  refine takeK 1 hHeld ?_
                  refine takeK 2 hHeld ?_
                  refine takeK 3 hHeld ?_
                  refine skipK 4 hHeld ?_
                  refine skipK 5 hHeld ?_
                  refine skipK 6 hHeld ?_
                  refine skipK 7 hHeld ?_
                  refine skipK 8 hHeld ?_
                  refine skipK 9 hHeld ?_
                  refine skipK 10 hHeld ?_
                  refine skipK 11 hHeld ?_
                  refine skipK 12 hHeld ?_
                  refine takeK 13 hHeld ?_
                  refine takeK 14 hHeld ?_
                  refine takeK 15 hHeld ?_
                  refine wpAnyH_done (by kernel_rfl) ?_ _
                  clear hHeld
                  go_wp2_with fail
                  go_roundw
                  case rel => exact ⟨HB4.out.drew, k3 + 1, by go_num, by omega, by rw [HIN.out, HWY.out]; rfl⟩
                  case measure => simp [intOf]; omega
                | true =>
                  have HWY := hide hwy
                  by_cases hyd : y = d
                  · have HYD := hide hyd
                    have byd : (y == d) = true := by simp [hyd]
                    clear hyd
                    go_wp2_with fail
                    refine wp_region_held_drew (S := fun W => W.cell? ⟨b, off + k3, none⟩ = some (.string (strB y)) ∧ W.cell? ⟨b, off + i, none⟩ = some (.string (strB d))) (by kernel_rfl) (⟨d0, d1⟩) (fun hHeld => ?_)
                    refine takeK 0 hHeld ?_
                    refine takeK 1 hHeld ?_
                    refine takeK 2 hHeld ?_
                    refine takeK 3 hHeld ?_
                    refine takeK 4 hHeld ?_
                    refine takeK 5 hHeld ?_
                    refine takeK 6 hHeld ?_
                    refine takeK 7 hHeld ?_
                    refine takeK 8 hHeld ?_
                    refine takeK 9 hHeld ?_
                    refine takeK 10 hHeld ?_
                    refine takeK 11 hHeld ?_
                    refine takeK 12 hHeld ?_
                    refine takeK 13 hHeld ?_
                    refine takeK 14 hHeld ?_
                    refine takeK 15 hHeld ?_
                    refine wpAnyH_done (by kernel_rfl) ?_ _
                    clear hHeld
                    go_wp2_with fail
                    go_roundw
                    case rel => exact ⟨HB4.out.drew, k3 + 1, by go_num, by omega, by rw [HIN.out, HWY.out, HYD.out]; simp⟩
                    case measure => simp [intOf]; omega
                  · have HYD := hide hyd
                    have byd : (y == d) = false := by simp [hyd]
                    clear hyd
                    go_wp2_with fail
                    refine wp_region_held_drew (S := fun W => W.cell? ⟨b, off + k3, none⟩ = some (.string (strB y)) ∧ W.cell? ⟨b, off + i, none⟩ = some (.string (strB d))) (by kernel_rfl) (⟨d0, d1⟩) (fun hHeld => ?_)
                    refine takeK 0 hHeld ?_
                    refine takeK 1 hHeld ?_
                    refine takeK 2 hHeld ?_
                    refine takeK 3 hHeld ?_
                    refine takeK 4 hHeld ?_
                    refine takeK 5 hHeld ?_
                    refine takeK 6 hHeld ?_
                    refine takeK 7 hHeld ?_
                    refine takeK 8 hHeld ?_
                    refine takeK 9 hHeld ?_
                    refine takeK 10 hHeld ?_
                    refine takeK 11 hHeld ?_
                    refine takeK 12 hHeld ?_
                    refine takeK 13 hHeld ?_
                    refine takeK 14 hHeld ?_
                    refine takeK 15 hHeld ?_
                    refine wpAnyH_done (by kernel_rfl) ?_ _
                    clear hHeld
                    go_wp2_with fail
                    go_roundw
                    case rel => exact ⟨HB4.out.drew, k3 + 1, by go_num, by omega, by rw [HIN.out, HWY.out, decide_eq_true HYD.out]; rfl⟩
                    case measure => simp [intOf]; omega
            · obtain rfl : k3 = xs.length := by omega
              rw [List.take_length]
              clear hb3
              have HPL := hide (Pt.place_le out d)
              go_wp2_with fail
              go_loopw [12] (fun t wr => Below wo.heap.size wo wr ∧ ∃ k : Nat, t = .int .i64 (k : Int) ∧ k ≤ Pt.place out d) (fun t _ => out.length + 1 - (intOf t).toNat)
              case atStart => exact ⟨HB3.out, 0, rfl, by omega⟩
              case round =>
                obtain ⟨hb4, k4, rfl, hk4⟩ := hrel
                have HB4 := hide hb4
                have c1 := HDI.out wr hb4
                have td := toL d
                by_cases hlt4 : k4 < Pt.place out d
                · obtain ⟨hko, hord⟩ := Pt.place_lt hlt4
                  obtain ⟨ob, ooff, rfl, hobl, hoc⟩ := Ts.all (ts_of_own (own_keep HO.out hb4)) (by omega)
                  have c0 := hoc k4 hko
                  have hko2 : (k4 : Int) < (out.length : Int) := by omega
                  have hol := HOL.out
                  have HXO := hide (HOX.out out[k4] (List.getElem_mem hko))
                  generalize out[k4] = x at *
                  have tx := toL x
                  have HC := hide (fun W => rcompare_any W x d (by have := HXO.out; omega) (by have := HXD.out; omega))
                  have hord2 : decide (Pt.order x d < 0) = true := decide_eq_true hord
                  generalize Pt.order x d = r at *
                  clear hoc hb4
                  go_wp2_with fail
                  refine wp_region_held_drew (S := fun W => W.cell? ⟨ob, ooff + k4, none⟩ = some (.string (strB x)) ∧ W.cell? ⟨b, off + i, none⟩ = some (.string (strB d))) (by kernel_rfl) (⟨c0, c1⟩) (fun hHeld => ?_)
                  refine takeK 0 hHeld ?_
                  refine takeK 1 hHeld ?_
                  refine takeK 2 hHeld ?_
                  refine takeK 3 hHeld ?_
                  refine takeK 4 hHeld ?_
                  refine takeK 5 hHeld ?_
                  refine takeK 6 hHeld ?_
                  refine takeK 7 hHeld ?_
                  refine takeK 8 hHeld ?_
                  refine takeK 9 hHeld ?_
                  refine takeK 10 hHeld ?_
                  refine takeK 11 hHeld ?_
                  refine takeK 12 hHeld ?_
                  refine onlyH (i := 13) rfl (by kernel_rfl) rfl (fun K hK => ?_)
                  go_simp
                  refine (HC.out _).mono ?_
                  rintro e w5 ⟨rfl, rfl⟩
                  refine hK.out _ _ (⟨c0, c1⟩) (fun hHeld => ?_)
                  clear hK K
                  try simp only [Act.put, List.setIfInBounds_toArray, List.set_cons_zero, List.set_cons_succ]
                  refine takeK 14 hHeld ?_
                  refine takeK 15 hHeld ?_
                  refine wpAnyH_done (by kernel_rfl) ?_ _
                  clear hHeld
                  go_wp2_with fail
                  go_roundw
                  case rel => exact ⟨HB4.out.drew, k4 + 1, by go_num, by omega⟩
                  case measure => simp [intOf]; omega
                · obtain rfl : k4 = Pt.place out d := by omega
                  have hol := HOL.out
                  by_cases hend : Pt.place out d < out.length
                  · have hstop := Pt.place_stop hend
                    obtain ⟨ob, ooff, rfl, hobl, hoc⟩ := Ts.all (ts_of_own (own_keep HO.out hb4)) (by omega)
                    have c0 := hoc _ hend
                    have hko2 : (Pt.place out d : Int) < (out.length : Int) := by omega
                    have HGET := hide (show out[Pt.place out d]? = some (out[Pt.place out d]'hend) from List.getElem?_eq_getElem hend)
                    have HXO := hide (HOX.out (out[Pt.place out d]'hend) (List.getElem_mem hend))
                    have HNEW := hide (insS_new (out := out) (d := d))
                    have HAT := hide (insS_at (out := out) (d := d))
                    generalize (out[Pt.place out d]'hend) = x at *
                    have tx := toL x
                    have HC := hide (fun W => rcompare_any W x d (by have := HXO.out; omega) (by have := HXD.out; omega))
                    have hord2 : decide (Pt.order x d < 0) = false := decide_eq_false hstop
                    generalize Pt.order x d = r at *
                    clear hoc hb4 hstop
                    generalize Pt.place out d = P at *
                    go_wp2_with fail
                    refine wp_region_held_drew (S := fun W => W.cell? ⟨ob, ooff + P, none⟩ = some (.string (strB x)) ∧ W.cell? ⟨b, off + i, none⟩ = some (.string (strB d))) (by kernel_rfl) (⟨c0, c1⟩) (fun hHeld => ?_)
                    refine takeK 0 hHeld ?_
                    refine takeK 1 hHeld ?_
                    refine takeK 2 hHeld ?_
                    refine takeK 3 hHeld ?_
                    refine takeK 4 hHeld ?_
                    refine takeK 5 hHeld ?_
                    refine takeK 6 hHeld ?_
                    refine takeK 7 hHeld ?_
                    refine takeK 8 hHeld ?_
                    refine takeK 9 hHeld ?_
                    refine takeK 10 hHeld ?_
                    refine takeK 11 hHeld ?_
                    refine takeK 12 hHeld ?_
                    refine onlyH (i := 13) rfl (by kernel_rfl) rfl (fun K hK => ?_)
                    go_simp
                    refine (HC.out _).mono ?_
                    rintro e w5 ⟨rfl, rfl⟩
                    refine hK.out _ _ (⟨c0, c1⟩) (fun hHeld => ?_)
                    clear hK K
                    try simp only [Act.put, List.setIfInBounds_toArray, List.set_cons_zero, List.set_cons_succ]
                    refine takeK 14 hHeld ?_
                    refine takeK 15 hHeld ?_
                    refine wpAnyH_done (by kernel_rfl) ?_ _
                    clear hHeld
                    go_wp2_with fail
                    cases hin : Pt.inner xs d with
                    | true =>
                      have HIN := hide hin
                      clear hin
                      refine wp_region_held_drew (S := fun _ => True) (by kernel_rfl) (trivial) (fun hHeld => ?_)
                      refine takeK 0 hHeld ?_
                      refine takeK 1 hHeld ?_
                      refine skipK 2 hHeld ?_
                      refine skipK 3 hHeld ?_
                      refine skipK 4 hHeld ?_
                      refine skipK 5 hHeld ?_
                      refine skipK 6 hHeld ?_
                      refine skipK 7 hHeld ?_
                      refine skipK 8 hHeld ?_
                      refine skipK 9 hHeld ?_
                      refine skipK 10 hHeld ?_
                      refine skipK 11 hHeld ?_
                      refine skipK 12 hHeld ?_
                      refine skipK 13 hHeld ?_
                      refine skipK 14 hHeld ?_
                      refine skipK 15 hHeld ?_
                      refine skipK 16 hHeld ?_
                      refine takeK 17 hHeld ?_
                      refine wpAnyH_done (by kernel_rfl) ?_ _
                      clear hHeld
                      go_wp2_with fail
                      go_roundw
                      case rel =>
                        have hB6 := HB4.out.drew.drew
                        exact ⟨HB2.out.trans (hB6.mono HB2.out.size), i + 1, by go_num, by omega, by rw [HFS.out, if_pos HIN.out]; exact own_keep HO.out hB6⟩
                      case measure => simp [intOf]; omega
                    | false =>
                      have HIN := hide hin
                      clear hin
                      by_cases hxd : x = d
                      · have HAT2 := hide (HAT.out (by rw [HGET.out, hxd]))
                        have bxd : (x == d) = true := by simp [hxd]
                        clear hxd
                        refine wp_region_held_drew (S := fun W => W.cell? ⟨ob, ooff + P, none⟩ = some (.string (strB x)) ∧ W.cell? ⟨b, off + i, none⟩ = some (.string (strB d))) (by kernel_rfl) (⟨c0, c1⟩) (fun hHeld => ?_)
                        refine takeK 0 hHeld ?_
                        refine takeK 1 hHeld ?_
                        refine takeK 2 hHeld ?_
                        refine takeK 3 hHeld ?_
                        refine takeK 4 hHeld ?_
                        refine takeK 5 hHeld ?_
                        refine takeK 6 hHeld ?_
                        refine takeK 7 hHeld ?_
                        refine takeK 8 hHeld ?_
                        refine takeK 9 hHeld ?_
                        refine takeK 10 hHeld ?_
                        refine takeK 11 hHeld ?_
                        refine takeK 12 hHeld ?_
                        refine takeK 13 hHeld ?_
                        refine takeK 14 hHeld ?_
                        refine takeK 15 hHeld ?_
                        refine takeK 16 hHeld ?_
                        refine takeK 17 hHeld ?_
                        refine wpAnyH_done (by kernel_rfl) ?_ _
                        clear hHeld
                        go_wp2_with fail
                        go_roundw
                        case rel =>
                          have hB6 := HB4.out.drew.drew
                          exact ⟨HB2.out.trans (hB6.mono HB2.out.size), i + 1, by go_num, by omega, by rw [HFS.out, if_neg (by rw [HIN.out]; simp), HAT2.out]; exact own_keep HO.out hB6⟩
                        case measure => simp [intOf]; omega
                      · have HNEW2 := hide (HNEW.out (by rw [HGET.out]; simpa using hxd))
                        have bxd : (x == d) = false := by simp [hxd]
                        clear hxd
                        refine wp_region_held_drew (S := fun W => W.cell? ⟨ob, ooff + P, none⟩ = some (.string (strB x)) ∧ W.cell? ⟨b, off + i, none⟩ = some (.string (strB d))) (by kernel_rfl) (⟨c0, c1⟩) (fun hHeld => ?_)
                        refine takeK 0 hHeld ?_
                        refine takeK 1 hHeld ?_
                        refine takeK 2 hHeld ?_
                        refine takeK 3 hHeld ?_
                        refine takeK 4 hHeld ?_
                        refine takeK 5 hHeld ?_
                        refine takeK 6 hHeld ?_
                        refine takeK 7 hHeld ?_
                        refine takeK 8 hHeld ?_
                        refine takeK 9 hHeld ?_
                        refine takeK 10 hHeld ?_
                        refine takeK 11 hHeld ?_
                        refine takeK 12 hHeld ?_
                        refine takeK 13 hHeld ?_
                        refine takeK 14 hHeld ?_
                        refine takeK 15 hHeld ?_
                        refine takeK 16 hHeld ?_
                        refine takeK 17 hHeld ?_
                        refine wpAnyH_done (by kernel_rfl) ?_ _
                        clear hHeld
                        have hs2 := HB2.out.size
                        have hol2 : out.length ≤ 1000000 := by have := HOL.out; omega
                        have hroom : P ≤ oc ∧ out.length ≤ oc ∧ oc ≤ maxLen := by
                          obtain ⟨ao', cap', e, k1, k2, -⟩ := ts_of_own HO.out
                          injection e with e1 e2 e3
                          subst e3
                          have := HPL.out
                          omega
                        have hPc := hroom.1
                        have HRM := hide hroom
                        clear hroom c0 c1
                        have HB6 := hide (HB4.out.drew.drew)
                        go_wp2_with fail
                        refine wp_region_held_drew (S := fun _ => True) (by kernel_rfl) (trivial) (fun hHeld => ?_)
                        refine takeK 0 hHeld ?_
                        refine takeK 1 hHeld ?_
                        refine takeK 2 hHeld ?_
                        refine takeK 4 hHeld ?_
                        refine takeK 5 hHeld ?_
                        refine takeK 6 hHeld ?_
                        refine onlyH (i := 3) rfl (by kernel_rfl) rfl (fun K hK => ?_)
                        refine wp_make_texts wr.heap.size (out.length + 1) _ _ rfl rfl rfl ?_ (Nat.le_refl _) (by omega) ?_
                        · first | go_num | (rw [IntKind.wrap_i64]; omega)
                        intro w6 hown6 hb6
                        have HB7 := hide (HB6.out.drew.trans (hb6.mono HB4.out.size))
                        have hz6 : wr.heap.size ≤ w6.heap.size := hb6.size
                        refine hK.out _ _ (trivial) (fun hHeld => ?_)
                        clear hK K
                        try simp only [Act.put, List.setIfInBounds_toArray, List.set_cons_zero, List.set_cons_succ]
                        refine onlyH (i := 7) rfl (by kernel_rfl) rfl (fun K hK => ?_)
                        refine wp_append_texts (.tmp 105) (.tmp 108) rfl rfl rfl rfl P (by have := HPL.out; rw [List.nil_append, List.length_take]; omega) hown6 (Ts.takeT (ts_of_own (own_keep HO.out HB7.out)) HPL.out) hz6 (by simp) (by rw [List.length_take]; omega) ?_
                        intro a7 c7 w7 hown7 hb7
                        have HB8 := hide (HB7.out.trans (hb7.mono HB4.out.size))
                        have hz7 : wr.heap.size ≤ w7.heap.size := Nat.le_trans hz6 hb7.size
                        have HOW7 := hide hown7
                        have hl7 : ([] ++ out.take P).length ≤ 1000000 := by rw [List.nil_append, List.length_take]; omega
                        clear hown6 hb6 hown7 hb7
                        refine hK.out _ _ (trivial) (fun hHeld => ?_)
                        clear hK K
                        try simp only [Act.put, List.setIfInBounds_toArray, List.set_cons_zero, List.set_cons_succ]
                        refine takeK 8 hHeld ?_
                        refine wpAnyH_done (by kernel_rfl) ?_ _
                        clear hHeld
                        have d7 := HDI.out w7 HB8.out
                        go_wp2_with (at_builtin; refine wpList_append_texts rfl (.tmp 110) (.tmp 115) rfl rfl rfl rfl (P + 1) (by have := HPL.out; rw [List.nil_append, List.length_append, List.length_take]; simp; omega) (own_keep HOW7.out ((Below.refl _ _).alloc (Nat.le_refl _) _)) (ts_one _ d) (by simp; omega) (by omega) (by simp) ?_)
                        intro a8 c8 w8 hown8 hb8
                        have hz8 : wr.heap.size ≤ w8.heap.size := Nat.le_trans (Nat.le_trans hz7 (by simp)) hb8.size
                        have HB9 := hide (HB8.out.trans ((((Below.refl _ w7).alloc (Nat.le_refl _) (.cells #[.string (strB d)] 9)).mono (Nat.le_trans HB4.out.size hz7)).trans (hb8.mono HB4.out.size)))
                        have HOW8 := hide hown8
                        clear hown8 hb8 d7
                        have hne : ¬ oc = P := by have := HRM.out; omega
                        have HU := hide (Ts.dropT (ts_of_own (own_keep HO.out HB9.out)) (z := P) HPL.out (some ⟨ob, ooff + P, none⟩) (fun _ _ _ h => by cases h; rfl))
                        have HE1 := hide (show (([] ++ out.take P ++ [d]) ++ out.drop P).length = out.length + 1 by have := HPL.out; simp <;> omega)
                        have HE2 := hide (show ([] ++ out.take P ++ [d]).length ≤ 4294967296 by simp <;> omega)
                        have HE3 := hide (show (out.drop P).length ≤ 4294967296 by simp <;> omega)
                        go_wp2_with (at_builtin; refine wpList_append_texts rfl (.tmp 117) (.tmp 120) rfl rfl rfl rfl (out.length + 1) HE1.out HOW8.out HU.out hz8 HE2.out HE3.out ?_)
                        intro a9 c9 w9 hown9 hb9
                        have HBA := hide (HB9.out.trans (hb9.mono HB4.out.size))
                        have HOW9 := hide hown9
                        clear hown9 hb9
                        go_wp2_with fail
                        go_roundw
                        case rel =>
                          refine ⟨HB2.out.trans (HBA.out.mono HB2.out.size), i + 1, by go_num, by omega, ?_⟩
                          rw [HFS.out, if_neg (by rw [HIN.out]; simp), HNEW2.out]
                          have h9 : OwnT w9 wr.heap.size (.slice a9 (out.length + 1) c9) ((out.take P ++ [d]) ++ out.drop P) := by have := HOW9.out; simpa using this
                          have hlen : ((out.take P ++ [d]) ++ out.drop P).length = out.length + 1 := by have := HPL.out; simp <;> omega
                          unfold OwnT at h9 ⊢
                          rw [hlen] at h9 ⊢
                          exact own_down h9 (Nat.le_trans hs2 HB4.out.size)
                        case measure => simp [intOf]; omega
                  · have HNEW := hide (insS_new (out := out) (d := d))
                    generalize Pt.place out d = P at *
                    have hko2 : ¬ (P : Int) < (out.length : Int) := by omega
                    have HGET := hide (show out[P]? = none from List.getElem?_eq_none (by have := HPL.out; omega))
                    have HNEW2 := hide (HNEW.out (by rw [HGET.out]; simp))
                    have c0 : True := trivial
                    clear hb4
                    go_wp2_with fail
                    refine wp_region_held_drew (S := fun _ => True) (by kernel_rfl) (trivial) (fun hHeld => ?_)
                    refine takeK 0 hHeld ?_
                    refine takeK 1 hHeld ?_
                    refine takeK 2 hHeld ?_
                    refine takeK 3 hHeld ?_
                    refine takeK 4 hHeld ?_
                    refine skipK 5 hHeld ?_
                    refine skipK 6 hHeld ?_
                    refine skipK 7 hHeld ?_
                    refine skipK 8 hHeld ?_
                    refine skipK 9 hHeld ?_
                    refine skipK 10 hHeld ?_
                    refine skipK 11 hHeld ?_
                    refine skipK 12 hHeld ?_
                    refine skipK 13 hHeld ?_
                    refine skipK 14 hHeld ?_
                    refine takeK 15 hHeld ?_
                    refine wpAnyH_done (by kernel_rfl) ?_ _
                    clear hHeld
                    go_wp2_with fail
                    cases hin : Pt.inner xs d with
                    | true =>
                      have HIN := hide hin
                      clear hin
                      refine wp_region_held_drew (S := fun _ => True) (by kernel_rfl) (trivial) (fun hHeld => ?_)
                      refine takeK 0 hHeld ?_
                      refine takeK 1 hHeld ?_
                      refine skipK 2 hHeld ?_
                      refine skipK 3 hHeld ?_
                      refine skipK 4 hHeld ?_
                      refine skipK 5 hHeld ?_
                      refine skipK 6 hHeld ?_
                      refine skipK 7 hHeld ?_
                      refine skipK 8 hHeld ?_
                      refine skipK 9 hHeld ?_
                      refine skipK 10 hHeld ?_
                      refine skipK 11 hHeld ?_
                      refine skipK 12 hHeld ?_
                      refine skipK 13 hHeld ?_
                      refine skipK 14 hHeld ?_
                      refine skipK 15 hHeld ?_
                      refine skipK 16 hHeld ?_
                      refine takeK 17 hHeld ?_
                      refine wpAnyH_done (by kernel_rfl) ?_ _
                      clear hHeld
                      go_wp2_with fail
                      go_roundw
                      case rel =>
                        have hB6 := HB4.out.drew.drew
                        exact ⟨HB2.out.trans (hB6.mono HB2.out.size), i + 1, by go_num, by omega, by rw [HFS.out, if_pos HIN.out]; exact own_keep HO.out hB6⟩
                      case measure => simp [intOf]; omega
                    | false =>
                      have HIN := hide hin
                      clear hin
                      refine wp_region_held_drew (S := fun _ => True) (by kernel_rfl) (trivial) (fun hHeld => ?_)
                      refine takeK 0 hHeld ?_
                      refine takeK 1 hHeld ?_
                      refine takeK 2 hHeld ?_
                      refine takeK 3 hHeld ?_
                      refine takeK 4 hHeld ?_
                      refine takeK 5 hHeld ?_
                      refine takeK 6 hHeld ?_
                      refine skipK 7 hHeld ?_
                      refine skipK 8 hHeld ?_
                      refine skipK 9 hHeld ?_
                      refine skipK 10 hHeld ?_
                      refine skipK 11 hHeld ?_
                      refine skipK 12 hHeld ?_
                      refine skipK 13 hHeld ?_
                      refine skipK 14 hHeld ?_
                      refine skipK 15 hHeld ?_
                      refine takeK 16 hHeld ?_
                      refine takeK 17 hHeld ?_
                      refine wpAnyH_done (by kernel_rfl) ?_ _
                      clear hHeld
                      have hs2 := HB2.out.size
                      have hol2 : out.length ≤ 1000000 := by have := HOL.out; omega
                      have hroom : P ≤ oc ∧ out.length ≤ oc ∧ oc ≤ maxLen := by
                        obtain ⟨ao', cap', e, k1, k2, -⟩ := ts_of_own HO.out
                        injection e with e1 e2 e3
                        subst e3
                        have := HPL.out
                        omega
                      have hPc := hroom.1
                      have HRM := hide hroom
                      clear hroom c0 c1
                      have HB6 := hide (HB4.out.drew.drew)
                      go_wp2_with fail
                      refine wp_region_held_drew (S := fun _ => True) (by kernel_rfl) (trivial) (fun hHeld => ?_)
                      refine takeK 0 hHeld ?_
                      refine takeK 1 hHeld ?_
                      refine takeK 2 hHeld ?_
                      refine takeK 4 hHeld ?_
                      refine takeK 5 hHeld ?_
                      refine takeK 6 hHeld ?_
                      refine onlyH (i := 3) rfl (by kernel_rfl) rfl (fun K hK => ?_)
                      refine wp_make_texts wr.heap.size (out.length + 1) _ _ rfl rfl rfl ?_ (Nat.le_refl _) (by omega) ?_
                      · first | go_num | (rw [IntKind.wrap_i64]; omega)
                      intro w6 hown6 hb6
                      have HB7 := hide (HB6.out.drew.trans (hb6.mono HB4.out.size))
                      have hz6 : wr.heap.size ≤ w6.heap.size := hb6.size
                      refine hK.out _ _ (trivial) (fun hHeld => ?_)
                      clear hK K
                      try simp only [Act.put, List.setIfInBounds_toArray, List.set_cons_zero, List.set_cons_succ]
                      refine onlyH (i := 7) rfl (by kernel_rfl) rfl (fun K hK => ?_)
                      refine wp_append_texts (.tmp 105) (.tmp 108) rfl rfl rfl rfl P (by have := HPL.out; rw [List.nil_append, List.length_take]; omega) hown6 (Ts.takeT (ts_of_own (own_keep HO.out HB7.out)) HPL.out) hz6 (by simp) (by rw [List.length_take]; omega) ?_
                      intro a7 c7 w7 hown7 hb7
                      have HB8 := hide (HB7.out.trans (hb7.mono HB4.out.size))
                      have hz7 : wr.heap.size ≤ w7.heap.size := Nat.le_trans hz6 hb7.size
                      have HOW7 := hide hown7
                      have hl7 : ([] ++ out.take P).length ≤ 1000000 := by rw [List.nil_append, List.length_take]; omega
                      clear hown6 hb6 hown7 hb7
                      refine hK.out _ _ (trivial) (fun hHeld => ?_)
                      clear hK K
                      try simp only [Act.put, List.setIfInBounds_toArray, List.set_cons_zero, List.set_cons_succ]
                      refine takeK 8 hHeld ?_
                      refine wpAnyH_done (by kernel_rfl) ?_ _
                      clear hHeld
                      have d7 := HDI.out w7 HB8.out
                      go_wp2_with (at_builtin; refine wpList_append_texts rfl (.tmp 110) (.tmp 115) rfl rfl rfl rfl (P + 1) (by have := HPL.out; rw [List.nil_append, List.length_append, List.length_take]; simp; omega) (own_keep HOW7.out ((Below.refl _ _).alloc (Nat.le_refl _) _)) (ts_one _ d) (by simp; omega) (by omega) (by simp) ?_)
                      intro a8 c8 w8 hown8 hb8
                      have hz8 : wr.heap.size ≤ w8.heap.size := Nat.le_trans (Nat.le_trans hz7 (by simp)) hb8.size
                      have HB9 := hide (HB8.out.trans ((((Below.refl _ w7).alloc (Nat.le_refl _) (.cells #[.string (strB d)] 9)).mono (Nat.le_trans HB4.out.size hz7)).trans (hb8.mono HB4.out.size)))
                      have HOW8 := hide hown8
                      clear hown8 hb8 d7
                      rcases oo with _ | ⟨ob, ooff, osp⟩
                      · have hoc0 : oc = 0 := by
                          rcases HO.out.2 with ⟨e, -⟩ | ⟨g, cap', cur, e, -⟩
                          · injection e
                          · cases e
                        subst hoc0
                        obtain rfl : P = 0 := by omega
                        have hl0 : out.length = 0 := by omega
                        obtain rfl : out = [] := List.eq_nil_of_length_eq_zero hl0
                        have HU := hide (Ts.dropT (ts_of_own (own_keep HO.out HB9.out)) (z := 0) HPL.out none (fun h => absurd h (by simp)))
                        have HE1 := hide (show (([] ++ ([] : List Bs).take 0 ++ [d]) ++ ([] : List Bs).drop 0).length = 1 by have := HPL.out; simp <;> omega)
                        have HE2 := hide (show ([] ++ ([] : List Bs).take 0 ++ [d]).length ≤ 4294967296 by simp <;> omega)
                        have HE3 := hide (show (([] : List Bs).drop 0).length ≤ 4294967296 by simp <;> omega)
                        go_wp2_with (at_builtin; refine wpList_append_texts rfl (.tmp 117) (.tmp 120) rfl rfl rfl rfl 1 HE1.out HOW8.out HU.out hz8 HE2.out HE3.out ?_)
                        intro a9 c9 w9 hown9 hb9
                        have HBA := hide (HB9.out.trans (hb9.mono HB4.out.size))
                        have HOW9 := hide hown9
                        clear hown9 hb9
                        go_wp2_with fail
                        go_roundw
                        case rel =>
                          refine ⟨HB2.out.trans (HBA.out.mono HB2.out.size), i + 1, by go_num, by omega, ?_⟩
                          rw [HFS.out, if_neg (by rw [HIN.out]; simp), HNEW2.out]
                          have h9 : OwnT w9 wr.heap.size (.slice a9 1 c9) ((([] : List Bs).take 0 ++ [d]) ++ ([] : List Bs).drop 0) := by have := HOW9.out; simpa using this
                          have hlen : ((([] : List Bs).take 0 ++ [d]) ++ ([] : List Bs).drop 0).length = 1 := by have := HPL.out; simp <;> omega
                          unfold OwnT at h9 ⊢
                          rw [hlen] at h9 ⊢
                          exact own_down h9 (Nat.le_trans hs2 HB4.out.size)
                        case measure => simp [intOf]; omega
                      · by_cases hoc : oc = P
                        · subst hoc
                          have HU0 := (Ts.dropT (ts_of_own (own_keep HO.out HB9.out)) (z := oc) HPL.out (some ⟨ob, ooff, osp⟩) (fun h => absurd h (by omega)))
                          rw [Nat.sub_self oc] at HU0
                          have HU := hide HU0
                          clear HU0
                          have HE1 := hide (show (([] ++ out.take oc ++ [d]) ++ out.drop oc).length = out.length + 1 by have := HPL.out; simp <;> omega)
                          have HE2 := hide (show ([] ++ out.take oc ++ [d]).length ≤ 4294967296 by simp <;> omega)
                          have HE3 := hide (show (out.drop oc).length ≤ 4294967296 by simp <;> omega)
                          go_wp2_with (at_builtin; refine wpList_append_texts rfl (.tmp 117) (.tmp 120) rfl rfl rfl rfl (out.length + 1) HE1.out HOW8.out HU.out hz8 HE2.out HE3.out ?_)
                          intro a9 c9 w9 hown9 hb9
                          have HBA := hide (HB9.out.trans (hb9.mono HB4.out.size))
                          have HOW9 := hide hown9
                          clear hown9 hb9
                          go_wp2_with fail
                          go_roundw
                          case rel =>
                            refine ⟨HB2.out.trans (HBA.out.mono HB2.out.size), i + 1, by go_num, by omega, ?_⟩
                            rw [HFS.out, if_neg (by rw [HIN.out]; simp), HNEW2.out]
                            have h9 : OwnT w9 wr.heap.size (.slice a9 (out.length + 1) c9) ((out.take oc ++ [d]) ++ out.drop oc) := by have := HOW9.out; simpa using this
                            have hlen : ((out.take oc ++ [d]) ++ out.drop oc).length = out.length + 1 := by have := HPL.out; simp <;> omega
                            unfold OwnT at h9 ⊢
                            rw [hlen] at h9 ⊢
                            exact own_down h9 (Nat.le_trans hs2 HB4.out.size)
                          case measure => simp [intOf]; omega
                        · skip
                          have HU := hide (Ts.dropT (ts_of_own (own_keep HO.out HB9.out)) (z := P) HPL.out (some ((⟨ob, ooff, osp⟩ : Addr).add P)) (fun h => absurd h (by omega)))
                          have HE1 := hide (show (([] ++ out.take P ++ [d]) ++ out.drop P).length = out.length + 1 by have := HPL.out; simp <;> omega)
                          have HE2 := hide (show ([] ++ out.take P ++ [d]).length ≤ 4294967296 by simp <;> omega)
                          have HE3 := hide (show (out.drop P).length ≤ 4294967296 by simp <;> omega)
                          go_wp2_with (at_builtin; refine wpList_append_texts rfl (.tmp 117) (.tmp 120) rfl rfl rfl rfl (out.length + 1) HE1.out HOW8.out HU.out hz8 HE2.out HE3.out ?_)
                          intro a9 c9 w9 hown9 hb9
                          have HBA := hide (HB9.out.trans (hb9.mono HB4.out.size))
                          have HOW9 := hide hown9
                          clear hown9 hb9
                          go_wp2_with fail
                          go_roundw
                          case rel =>
                            refine ⟨HB2.out.trans (HBA.out.mono HB2.out.size), i + 1, by go_num, by omega, ?_⟩
                            rw [HFS.out, if_neg (by rw [HIN.out]; simp), HNEW2.out]
                            have h9 : OwnT w9 wr.heap.size (.slice a9 (out.length + 1) c9) ((out.take P ++ [d]) ++ out.drop P) := by have := HOW9.out; simpa using this
                            have hlen : ((out.take P ++ [d]) ++ out.drop P).length = out.length + 1 := by have := HPL.out; simp <;> omega
                            unfold OwnT at h9 ⊢
                            rw [hlen] at h9 ⊢
                            exact own_down h9 (Nat.le_trans hs2 HB4.out.size)
                          case measure => simp [intOf]; omega
        · obtain rfl : i = xs.length := by omega
          rw [List.take_length] at ho
          have hol : (Pt.formM xs).length ≤ xs.length := Pt.formM_len xs
          change OwnT _ _ _ (Pt.formM xs) at ho
          obtain ⟨oo, oc, rfl⟩ := own_shape ho
          have HO := hide ho
          clear hb2 ho
          by_cases h64 : (Pt.formM xs).length ≤ 64
          · have HE := hide (ofM_ok HA.out h64)
            have h64i : ¬ (64 : Int) < ((Pt.formM xs).length : Int) := by omega
            generalize Pt.formM xs = out at *
            go_wp2_with fail
            all_goals (go_ret2; rw [HE.out]; exact ⟨_, rfl, HO.out, HB2.out⟩)
          · have HE := hide (ofM_many HA.out h64)
            have h64i : (64 : Int) < ((Pt.formM xs).length : Int) := by omega
            generalize Pt.formM xs = out at *
            go_wp2_with fail
            all_goals (go_ret2; rw [HE.out]; exact ⟨_, rfl, World.ownsRow_nil _ _ _ _, HB2.out⟩)
end Go.Proofs.Ytkihldkaiddbkaa
