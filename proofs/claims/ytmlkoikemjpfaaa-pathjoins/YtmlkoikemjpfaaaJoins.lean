/-
  PathJoins' walk: which path parts make is as the document says. Conditions: lengths within reach.
-/
import Derived.Test.YtmlkoikemjpfaaaRefJoin
namespace Go.Proofs.Ytmlkoikemjpfaaa
open Go.RowKit

set_option maxRecDepth 20000 in
theorem pathJoins_any (w : World) (v : Value) (ps : List (List UInt8)) (h : Ts w v ps) (hx : ps.length ≤ 4611686018427387000) :
    Calls Try.prog 4 #[v] w fun e w' => e = .returned (.bool true) ∧ Below w.heap.size w w' := by
  have h' := h
  obtain ⟨ao, cap, rfl, -, -, -⟩ := h'
  have hj := fun (W : World) (hb : Below w.heap.size w W) => join_any W _ ps (h.keep hb) (by omega)
  have hr := fun (W : World) (hb : Below w.heap.size w W) => rjoin_any W _ ps (h.keep hb) (by omega)
  have t0 := toL []
  have t1 := toL (Pt.joined ps)
  cases hf : Pt.few ps with
  | false =>
    rw [hf] at hj hr
    simp only [Bool.false_eq_true, if_false] at hj hr
    go_enter Try.func4, Try.ntmps4
    go_wp2_with fail
    refine (shown_any w).mono ?_
    rintro e w1 ⟨rfl, hB1⟩
    go_wp2_with fail
    refine (hj w1 hB1).mono ?_
    rintro e w2 ⟨rfl, hb2⟩
    have hB2 := hB1.trans (hb2.mono hB1.size)
    go_wp2_with fail
    refine (hr w2 hB2).mono ?_
    rintro e w3 ⟨rfl, rfl⟩
    go_wp2
    go_ret
    exact ⟨rfl, hB2⟩
  | true =>
    rw [hf] at hj hr
    simp only [if_true] at hj hr
    go_enter Try.func4, Try.ntmps4
    go_wp2_with fail
    refine (shown_any w).mono ?_
    rintro e w1 ⟨rfl, hB1⟩
    go_wp2_with fail
    refine (hj w1 hB1).mono ?_
    rintro e w2 ⟨rfl, hb2⟩
    have hB2 := hB1.trans (hb2.mono hB1.size)
    go_wp2_with fail
    refine (hr w2 hB2).mono ?_
    rintro e w3 ⟨rfl, rfl⟩
    go_wp2
    go_ret
    exact ⟨rfl, hB2⟩
end Go.Proofs.Ytmlkoikemjpfaaa
