/-
  What Same answers. Conditions: lengths within reach.
-/
import Derived.Test.YtkihldkaiddbkabSeq
namespace Go.Proofs.Ytkihldkaiddbkab
open Go.RowKit

theorem Ts.form {w : World} {v : Value} {xs : List (List UInt8)} (h : Ts w v xs) : ∃ ao cap, v = .slice ao xs.length cap ∧ xs.length ≤ cap := by
  obtain ⟨ao, cap, rfl, h1, _⟩ := h
  exact ⟨ao, cap, rfl, h1⟩

set_option maxRecDepth 20000 in
theorem same_any (w : World) (v u : Value) (xs ys : List (List UInt8)) (h : Ts w v xs) (k : Ts w u ys) (hx : xs.length ≤ 4611686018427387904) (hy : ys.length ≤ 4611686018427387904) :
    Calls Try.prog 7 #[v, u] w fun e w' => e = .returned (.bool (decide (xs = ys))) ∧ Below w.heap.size w w' := by
  obtain ⟨ao, ca, rfl, h1, h2, h4⟩ := h
  obtain ⟨bo, cb, rfl, k1, k2, k4⟩ := k
  by_cases hl : xs.length = ys.length
  · go_enter Try.func7, Try.ntmps7
    go_wp2
    go_loopw [5] (fun t wr => ∃ j : Nat, t = .int .i64 (j : Int) ∧ j ≤ xs.length ∧ (∀ i, i < j → xs[i]? = ys[i]?) ∧ Below w.heap.size w wr)
      (fun t _ => xs.length - (intOf t).toNat)
    case atStart => exact ⟨0, rfl, by omega, (fun i hi => by omega), Below.refl _ _⟩
    case round =>
      obtain ⟨j, rfl, hj, he, hb⟩ := hrel
      by_cases hlt : j < xs.length
      · have hlt2 : j < ys.length := by omega
        obtain ⟨b1, o1, rfl, hb1, hc1⟩ := h4 (by rintro rfl; simp at hlt)
        obtain ⟨b2, o2, rfl, hb2, hc2⟩ := k4 (by rintro rfl; simp at hlt2)
        have c1 := (hb.cell (p := ⟨b1, o1 + j, none⟩) hb1).trans (hc1 j hlt)
        have c2 := (hb.cell (p := ⟨b2, o2 + j, none⟩) hb2).trans (hc2 j hlt2)
        have n1 : xs[j]? = some xs[j] := by simp [hlt]
        have n2 : ys[j]? = some ys[j] := by simp [hlt2]
        clear hc1 hc2 h4 k4
        generalize xs[j] = x at *
        generalize ys[j] = y at *
        have t1 := toL x
        have t2 := toL y
        by_cases hxy : x = y
        · subst hxy
          go_wp2_with fail
          go_region
          go_wp2_with fail
          refine ⟨⟨j + 1, by go_num, by omega, (fun i hi => ?_), hb.drew⟩, by simp [intOf]; omega⟩
          by_cases hij : i = j
          · subst hij; rw [n1, n2]
          · exact he i (by omega)
        · have bxy : (x == y) = false := by simp [hxy]
          go_wp2_with fail
          go_region
          go_wp2_with fail
          go_ret
          refine ⟨ret_bool (decide_eq_false ?_).symm, hb.drew⟩
          rintro rfl
          rw [n1] at n2
          exact hxy (Option.some.inj n2)
      · have hjl : j = xs.length := by omega
        subst hjl
        go_wp2_with fail
        go_ret
        refine ⟨ret_bool (decide_eq_true (List.ext_getElem? fun i => ?_)).symm, hb⟩
        by_cases hi : i < xs.length
        · exact he i hi
        · rw [List.getElem?_eq_none (by omega), List.getElem?_eq_none (by omega)]
  · have hl2 : ¬ (xs.length : Int) = (ys.length : Int) := by omega
    go_enter Try.func7, Try.ntmps7
    go_wp2
    go_ret
    exact ⟨ret_bool (decide_eq_false (fun e => hl (by rw [e]))).symm, Below.refl _ _⟩
end Go.Proofs.Ytkihldkaiddbkab
