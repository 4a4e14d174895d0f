/-
  What the document's own Within answers. Conditions: lengths within reach.
-/
import Derived.Test.YtkihldkaiddbkaaRefSplit
namespace Go.Proofs.Ytkihldkaiddbkaa
open Go.RowKit

theorem prefix_of {xs ys : List (List UInt8)} (hl : xs.length ≤ ys.length) (h : ∀ i, i < xs.length → xs[i]? = ys[i]?) : xs.isPrefixOf ys = true := by
  rw [List.isPrefixOf_iff_prefix]
  refine ⟨ys.drop xs.length, ?_⟩
  have e : ys.take xs.length = xs := by
    apply List.ext_getElem?
    intro i
    by_cases hi : i < xs.length
    · rw [List.getElem?_take_of_lt hi, h i hi]
    · rw [List.getElem?_eq_none (by simp; omega), List.getElem?_eq_none (by omega)]
  conv => lhs; arg 1; rw [← e]
  exact List.take_append_drop _ _
theorem not_prefix {xs ys : List (List UInt8)} {j : Nat} (hj : j < xs.length) (h : xs[j]? ≠ ys[j]?) : xs.isPrefixOf ys = false := by
  cases hp : xs.isPrefixOf ys with
  | false => rfl
  | true =>
    rw [List.isPrefixOf_iff_prefix] at hp
    obtain ⟨t, rfl⟩ := hp
    exact absurd (by rw [List.getElem?_append_left hj]) h
theorem not_prefix_len {xs ys : List (List UInt8)} (h : ys.length < xs.length) : xs.isPrefixOf ys = false := by
  cases hp : xs.isPrefixOf ys with
  | false => rfl
  | true =>
    rw [List.isPrefixOf_iff_prefix] at hp
    have := hp.length_le
    omega

set_option maxRecDepth 20000 in
theorem rwithin_any (w : World) (d l : List UInt8) (hd : d.length ≤ 4611686018427387000) (hl : l.length ≤ 4611686018427387000) :
    Calls Try.prog 32 #[.string (strB d), .string (strB l)] w fun e w' => e = .returned (.bool (Pt.within d l)) ∧ Below w.heap.size w w' := by
  have hpd := fun W => rparse_all W d hd
  have hpl := fun W => rparse_all W l hl
  have la := ans_length d
  have lb := ans_length l
  by_cases hbad : Pt.path d = false ∨ Pt.path l = false
  · have hw : Pt.within d l = false := by
      unfold Pt.within
      rcases hbad with h | h <;> rw [h] <;> simp
    by_cases h1 : Pt.path d = false
    · have e1 : err d = 40 := by unfold err; rw [h1]; rfl
      rw [e1] at hpd
      go_enter Try.func32, Try.ntmps32
      go_wp2_with fail
      refine (hpd w).mono ?_
      rintro e w1 ⟨v, rfl, hv, hb1⟩
      obtain ⟨ao, ca, rfl, -, -, -⟩ := ts_of_own hv
      clear hv
      go_wp2_with fail
      refine (hpl w1).mono ?_
      rintro e w2 ⟨u, rfl, hu, hb2⟩
      obtain ⟨bo, cb, rfl, -, -, -⟩ := ts_of_own hu
      clear hu
      go_wp2
      go_ret
      exact ⟨ret_bool hw.symm, hb1.trans (hb2.mono hb1.size)⟩
    · have h1' : Pt.path d = true := by simpa using h1
      have h2 : Pt.path l = false := hbad.resolve_left h1
      have e1 : err d = 0 := by unfold err; rw [h1']; rfl
      have e2 : err l = 40 := by unfold err; rw [h2]; rfl
      rw [e1] at hpd
      rw [e2] at hpl
      go_enter Try.func32, Try.ntmps32
      go_wp2_with fail
      refine (hpd w).mono ?_
      rintro e w1 ⟨v, rfl, hv, hb1⟩
      obtain ⟨ao, ca, rfl, -, -, -⟩ := ts_of_own hv
      clear hv
      go_wp2_with fail
      refine (hpl w1).mono ?_
      rintro e w2 ⟨u, rfl, hu, hb2⟩
      obtain ⟨bo, cb, rfl, -, -, -⟩ := ts_of_own hu
      clear hu
      go_wp2
      go_ret
      exact ⟨ret_bool hw.symm, hb1.trans (hb2.mono hb1.size)⟩
  · have h1 : Pt.path d = true := by simpa using fun h => hbad (.inl h)
    have h2 : Pt.path l = true := by simpa using fun h => hbad (.inr h)
    have e1 : err d = 0 := by unfold err; rw [h1]; rfl
    have e2 : err l = 0 := by unfold err; rw [h2]; rfl
    have a1 : ans d = Pt.parts d := by unfold ans; rw [h1]; rfl
    have a2 : ans l = Pt.parts l := by unfold ans; rw [h2]; rfl
    have hw : Pt.within d l = (Pt.parts d).isPrefixOf (Pt.parts l) := by unfold Pt.within; rw [h1, h2]; rfl
    rw [e1, a1] at hpd
    rw [e2, a2] at hpl
    rw [a1] at la
    rw [a2] at lb
    rw [hw]
    clear a1 a2 e1 e2 hw hbad
    generalize Pt.parts d = xs at *
    generalize Pt.parts l = ys at *
    by_cases hlt : ys.length < xs.length
    · rw [not_prefix_len hlt]
      go_enter Try.func32, Try.ntmps32
      go_wp2_with fail
      refine (hpd w).mono ?_
      rintro e w1 ⟨v, rfl, hv, hb1⟩
      obtain ⟨ao, ca, rfl, -, -, -⟩ := ts_of_own hv
      clear hv
      go_wp2_with fail
      refine (hpl w1).mono ?_
      rintro e w2 ⟨u, rfl, hu, hb2⟩
      obtain ⟨bo, cb, rfl, -, -, -⟩ := ts_of_own hu
      clear hu
      go_wp2
      go_ret
      exact ⟨rfl, hb1.trans (hb2.mono hb1.size)⟩
    · go_enter Try.func32, Try.ntmps32
      go_wp2_with fail
      refine (hpd w).mono ?_
      rintro e w1 ⟨v, rfl, hv, hb1⟩
      go_wp2_with fail
      refine (hpl w1).mono ?_
      rintro e w2 ⟨u, rfl, hu, hb2⟩
      have hv2 := own_keep hv hb2
      have hB2 := hb1.trans (hb2.mono hb1.size)
      obtain ⟨ao, ca, rfl, c1, c2, h4⟩ := ts_of_own hv2
      obtain ⟨bo, cb, rfl, k1, k2, k4⟩ := ts_of_own hu
      clear hv hu hv2 hb1 hb2 hpd hpl
      go_wp2
      go_loopw [4, 9] (fun r t wr => ∃ j : Nat, r = .bool false ∧ t = .int .i64 (j : Int) ∧ j ≤ xs.length ∧ (∀ i, i < j → xs[i]? = ys[i]?) ∧ Below w2.heap.size w2 wr)
        (fun _ t _ => xs.length - (intOf t).toNat)
      case atStart => exact ⟨0, rfl, rfl, by omega, (fun i hi => by omega), Below.refl _ _⟩
      case round =>
        obtain ⟨j, rfl, rfl, hj, he, hb⟩ := hrel
        have hBr := hB2.trans (hb.mono hB2.size)
        by_cases hjl : j < xs.length
        · have hjl2 : j < ys.length := by omega
          obtain ⟨b1, o1, rfl, hb1, hc1⟩ := h4 (by rintro rfl; simp at hjl)
          obtain ⟨b2, o2, rfl, hb2, hc2⟩ := k4 (by rintro rfl; simp at hjl2)
          have c1 := (hb.cell (p := ⟨b1, o1 + j, none⟩) hb1).trans (hc1 j hjl)
          have c2 := (hb.cell (p := ⟨b2, o2 + j, none⟩) hb2).trans (hc2 j hjl2)
          have n1 : xs[j]? = some xs[j] := by simp [hjl]
          have n2 : ys[j]? = some ys[j] := by simp [hjl2]
          clear hc1 hc2 h4 k4
          generalize xs[j] = x at *
          generalize ys[j] = y at *
          have t1 := toL x
          have t2 := toL y
          by_cases hxy : x = y
          · subst hxy
            go_wp2_with fail
            go_region
            go_wp2_with fail
            refine ⟨⟨j + 1, rfl, by go_num, by omega, (fun i hi => ?_), hb.drew⟩, by simp [intOf]; omega⟩
            by_cases hij : i = j
            · subst hij; rw [n1, n2]
            · exact he i (by omega)
          · have bxy : (x == y) = false := by simp [hxy]
            have hnp := not_prefix hjl (ys := ys) (by rw [n1, n2]; simpa using hxy)
            go_wp2_with fail
            go_region
            go_wp2_with fail
            go_ret
            exact ⟨ret_bool hnp.symm, hBr.drew⟩
        · obtain rfl : j = xs.length := by omega
          have hpf := prefix_of (by omega) he
          go_wp2_with fail
          go_ret
          exact ⟨ret_bool hpf.symm, hBr⟩
end Go.Proofs.Ytkihldkaiddbkaa
