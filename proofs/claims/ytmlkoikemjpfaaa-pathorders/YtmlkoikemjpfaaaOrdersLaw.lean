/-
  PathOrders' walk: how texts stand is as the document says, and is an order. Conditions: lengths within reach.
-/
import Derived.Test.YtmlkoikemjpfaaaOrders
namespace Go.Proofs.Ytmlkoikemjpfaaa
open Go.RowKit

set_option maxRecDepth 20000 in
theorem orders_any (w : World) (a b c : List UInt8) (ha : a.length ≤ 4611686018427387000) (hb : b.length ≤ 4611686018427387000) (hc : c.length ≤ 4611686018427387000) :
    Calls Try.prog 6 #[.string (strB a), .string (strB b), .string (strB c)] w fun e w' => e = .returned (.bool true) ∧ Below w.heap.size w w' := by
  have cab := fun W => compare_any W a b (by omega) (by omega)
  have cbc := fun W => compare_any W b c (by omega) (by omega)
  have cac := fun W => compare_any W a c (by omega) (by omega)
  have cba := fun W => compare_any W b a (by omega) (by omega)
  have rab := fun W => rcompare_any W a b (by omega) (by omega)
  have rbc := fun W => rcompare_any W b c (by omega) (by omega)
  have ta := toL a
  have tb := toL b
  have hneg := Pt.order_neg a b
  have heq : Pt.order a b = 0 → a = b := Pt.order_eq
  have hself : a = b → Pt.order a b = 0 := fun e => by rw [e]; exact Pt.order_self b
  have htr : Pt.order a b ≤ 0 → Pt.order b c ≤ 0 → Pt.order a c ≤ 0 := Pt.order_trans
  have hry := Pt.order_range b c
  have hrz := Pt.order_range a c
  rw [hneg] at cba
  clear hneg
  rcases Pt.order_range a b with hx | hx | hx
  · rw [hx] at cab cba rab htr heq hself
    have bab : (a == b) = false := by simp; intro e; have := hself e; omega
    clear heq hself hx
    have htr := htr (by omega)
    generalize Pt.order b c = y at *
    generalize Pt.order a c = z at *
    by_cases hy : 0 < y
    · clear htr
      go_enter Try.func6, Try.ntmps6
      go_wp2_with fail
      refine (shown_any w).mono ?_
      rintro e w1 ⟨rfl, hB1⟩
      go_wp2_with fail
      refine (cab w1).mono ?_
      rintro e w2 ⟨rfl, hb2⟩
      have hB2 := hB1.trans (hb2.mono hB1.size)
      go_wp2_with fail
      refine (cbc w2).mono ?_
      rintro e w3 ⟨rfl, hb3⟩
      have hB3 := hB2.trans (hb3.mono hB2.size)
      go_wp2_with fail
      refine (cac w3).mono ?_
      rintro e w4 ⟨rfl, hb4⟩
      have hB4 := hB3.trans (hb4.mono hB3.size)
      go_wp2_with fail
      refine (rab w4).mono ?_
      rintro e w5 ⟨rfl, rfl⟩
      go_wp2_with fail
      refine (rbc w5).mono ?_
      rintro e w6 ⟨rfl, rfl⟩
      go_wp2_with fail
      refine (cba w6).mono ?_
      rintro e w7 ⟨rfl, hb7⟩
      have hB7 := hB4.trans (hb7.mono hB4.size)
      go_wp2
      go_ret
      exact ⟨rfl, hB7⟩
    · have hz := htr (by omega)
      clear htr
      go_enter Try.func6, Try.ntmps6
      go_wp2_with fail
      refine (shown_any w).mono ?_
      rintro e w1 ⟨rfl, hB1⟩
      go_wp2_with fail
      refine (cab w1).mono ?_
      rintro e w2 ⟨rfl, hb2⟩
      have hB2 := hB1.trans (hb2.mono hB1.size)
      go_wp2_with fail
      refine (cbc w2).mono ?_
      rintro e w3 ⟨rfl, hb3⟩
      have hB3 := hB2.trans (hb3.mono hB2.size)
      go_wp2_with fail
      refine (cac w3).mono ?_
      rintro e w4 ⟨rfl, hb4⟩
      have hB4 := hB3.trans (hb4.mono hB3.size)
      go_wp2_with fail
      refine (rab w4).mono ?_
      rintro e w5 ⟨rfl, rfl⟩
      go_wp2_with fail
      refine (rbc w5).mono ?_
      rintro e w6 ⟨rfl, rfl⟩
      go_wp2_with fail
      refine (cba w6).mono ?_
      rintro e w7 ⟨rfl, hb7⟩
      have hB7 := hB4.trans (hb7.mono hB4.size)
      go_wp2
      go_ret
      exact ⟨rfl, hB7⟩
  · rw [hx] at cab cba rab htr heq hself
    have bab : (a == b) = true := by rw [heq rfl]; simp
    clear heq hself hx
    have htr := htr (by omega)
    generalize Pt.order b c = y at *
    generalize Pt.order a c = z at *
    by_cases hy : 0 < y
    · clear htr
      go_enter Try.func6, Try.ntmps6
      go_wp2_with fail
      refine (shown_any w).mono ?_
      rintro e w1 ⟨rfl, hB1⟩
      go_wp2_with fail
      refine (cab w1).mono ?_
      rintro e w2 ⟨rfl, hb2⟩
      have hB2 := hB1.trans (hb2.mono hB1.size)
      go_wp2_with fail
      refine (cbc w2).mono ?_
      rintro e w3 ⟨rfl, hb3⟩
      have hB3 := hB2.trans (hb3.mono hB2.size)
      go_wp2_with fail
      refine (cac w3).mono ?_
      rintro e w4 ⟨rfl, hb4⟩
      have hB4 := hB3.trans (hb4.mono hB3.size)
      go_wp2_with fail
      refine (rab w4).mono ?_
      rintro e w5 ⟨rfl, rfl⟩
      go_wp2_with fail
      refine (rbc w5).mono ?_
      rintro e w6 ⟨rfl, rfl⟩
      go_wp2_with fail
      refine (cba w6).mono ?_
      rintro e w7 ⟨rfl, hb7⟩
      have hB7 := hB4.trans (hb7.mono hB4.size)
      go_wp2
      go_ret
      exact ⟨rfl, hB7⟩
    · have hz := htr (by omega)
      clear htr
      go_enter Try.func6, Try.ntmps6
      go_wp2_with fail
      refine (shown_any w).mono ?_
      rintro e w1 ⟨rfl, hB1⟩
      go_wp2_with fail
      refine (cab w1).mono ?_
      rintro e w2 ⟨rfl, hb2⟩
      have hB2 := hB1.trans (hb2.mono hB1.size)
      go_wp2_with fail
      refine (cbc w2).mono ?_
      rintro e w3 ⟨rfl, hb3⟩
      have hB3 := hB2.trans (hb3.mono hB2.size)
      go_wp2_with fail
      refine (cac w3).mono ?_
      rintro e w4 ⟨rfl, hb4⟩
      have hB4 := hB3.trans (hb4.mono hB3.size)
      go_wp2_with fail
      refine (rab w4).mono ?_
      rintro e w5 ⟨rfl, rfl⟩
      go_wp2_with fail
      refine (rbc w5).mono ?_
      rintro e w6 ⟨rfl, rfl⟩
      go_wp2_with fail
      refine (cba w6).mono ?_
      rintro e w7 ⟨rfl, hb7⟩
      have hB7 := hB4.trans (hb7.mono hB4.size)
      go_wp2
      go_ret
      exact ⟨rfl, hB7⟩
  · rw [hx] at cab cba rab htr heq hself
    have bab : (a == b) = false := by simp; intro e; have := hself e; omega
    clear heq hself hx
    clear htr
    generalize Pt.order b c = y at *
    generalize Pt.order a c = z at *
    go_enter Try.func6, Try.ntmps6
    go_wp2_with fail
    refine (shown_any w).mono ?_
    rintro e w1 ⟨rfl, hB1⟩
    go_wp2_with fail
    refine (cab w1).mono ?_
    rintro e w2 ⟨rfl, hb2⟩
    have hB2 := hB1.trans (hb2.mono hB1.size)
    go_wp2_with fail
    refine (cbc w2).mono ?_
    rintro e w3 ⟨rfl, hb3⟩
    have hB3 := hB2.trans (hb3.mono hB2.size)
    go_wp2_with fail
    refine (cac w3).mono ?_
    rintro e w4 ⟨rfl, hb4⟩
    have hB4 := hB3.trans (hb4.mono hB3.size)
    go_wp2_with fail
    refine (rab w4).mono ?_
    rintro e w5 ⟨rfl, rfl⟩
    go_wp2_with fail
    refine (rbc w5).mono ?_
    rintro e w6 ⟨rfl, rfl⟩
    go_wp2_with fail
    refine (cba w6).mono ?_
    rintro e w7 ⟨rfl, hb7⟩
    have hB7 := hB4.trans (hb7.mono hB4.size)
    go_wp2
    go_ret
    exact ⟨rfl, hB7⟩
end Go.Proofs.Ytmlkoikemjpfaaa
