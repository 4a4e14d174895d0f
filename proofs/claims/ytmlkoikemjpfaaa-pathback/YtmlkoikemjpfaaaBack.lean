/-
  PathBack's own walk: paths and lists of names are one to one. Conditions: lengths within reach.
-/
import Derived.Test.YtmlkoikemjpfaaaSame
namespace Go.Proofs.Ytmlkoikemjpfaaa
open Go.RowKit

set_option maxRecDepth 20000 in
theorem back_any (w : World) (l : List UInt8) (v : Value) (ps : List (List UInt8)) (hl : l.length ≤ 4611686018427387000) (h : Ts w v ps) (hx : ps.length ≤ 4611686018427387000) :
    Calls Try.prog 7 #[.string (strB l), v] w fun e w' => e = .returned (.bool true) ∧ Below w.heap.size w w' := by
  have h' := h
  obtain ⟨ao, cap, rfl, -, -, -⟩ := h'
  have tl := toL l
  have hj := fun (W : World) (hb : Below w.heap.size w W) => join_any W _ ps (h.keep hb) (by omega)
  have hlj := few_length (ps := ps)
  have tj := toL (Pt.joined ps)
  cases hp : Pt.path l with
  | false =>
    cases hf : Pt.few ps with
    | false =>
      rw [hf] at hj
      clear hlj
      simp only [Bool.false_eq_true, if_false] at hj
      go_enter Try.func7, Try.ntmps7
      go_wp2_with fail
      refine (shown_any w).mono ?_
      rintro e w1 ⟨rfl, hb1⟩
      go_wp2_with fail
      refine (parse_bad w1 l hl hp).mono ?_
      rintro e w2 ⟨rfl, hb2⟩
      have hB := hb1.trans (hb2.mono hb1.size)
      go_wp2_with fail
      refine (hj w2 hB).mono ?_
      rintro e w4 ⟨rfl, hb4⟩
      go_wp2
      go_ret
      exact ⟨rfl, hB.trans (hb4.mono hB.size)⟩
    | true =>
      rw [hf] at hj
      have hpj : Pt.path (Pt.joined ps) = true := by unfold Pt.path; rw [Pt.parts_joined hf]; exact hf
      have hlj := hlj hf
      simp only [if_true] at hj
      go_enter Try.func7, Try.ntmps7
      go_wp2_with fail
      refine (shown_any w).mono ?_
      rintro e w1 ⟨rfl, hb1⟩
      go_wp2_with fail
      refine (parse_bad w1 l hl hp).mono ?_
      rintro e w2 ⟨rfl, hb2⟩
      have hB := hb1.trans (hb2.mono hb1.size)
      go_wp2_with fail
      refine (hj w2 hB).mono ?_
      rintro e w4 ⟨rfl, hb4⟩
      have hB4 := hB.trans (hb4.mono hB.size)
      go_wp2_with fail
      refine (parse_ok w4 (Pt.joined ps) (by omega) hpj).mono ?_
      rintro e w5 ⟨v, rfl, hv, hb5⟩
      rw [Pt.parts_joined hf] at hv
      have hB5 := hB4.trans (hb5.mono hB4.size)
      have hs := same_any w5 _ _ ps ps (ts_of_own hv) (h.keep hB5) (by omega) (by omega)
      obtain ⟨a2, c2, rfl, -, -, -⟩ := ts_of_own hv
      clear hv
      rw [decide_eq_true rfl] at hs
      go_wp2_with fail
      refine hs.mono ?_
      rintro e w6 ⟨rfl, hb6⟩
      go_wp2
      go_ret
      exact ⟨rfl, hB5.trans (hb6.mono hB5.size)⟩
  | true =>
    cases hf : Pt.few ps with
    | false =>
      rw [hf] at hj
      clear hlj
      simp only [Bool.false_eq_true, if_false] at hj
      go_enter Try.func7, Try.ntmps7
      go_wp2_with fail
      refine (shown_any w).mono ?_
      rintro e w1 ⟨rfl, hb1⟩
      go_wp2_with fail
      refine (parse_ok w1 l hl hp).mono ?_
      rintro e w2 ⟨v, rfl, hv, hb2⟩
      have hB2 := hb1.trans (hb2.mono hb1.size)
      have ht := ts_of_own hv
      obtain ⟨a2, c2, rfl, -, -, -⟩ := ts_of_own hv
      have hjl := join_any w2 _ _ ht (by have := Pt.few_len hp; omega)
      rw [if_pos (show Pt.few (Pt.parts l) = true from hp), Pt.joined_parts] at hjl
      clear hv ht
      go_wp2_with fail
      refine hjl.mono ?_
      rintro e w3 ⟨rfl, hb3⟩
      have hB := hB2.trans (hb3.mono hB2.size)
      clear hjl
      go_wp2_with fail
      refine (hj w3 hB).mono ?_
      rintro e w4 ⟨rfl, hb4⟩
      go_wp2
      go_ret
      exact ⟨rfl, hB.trans (hb4.mono hB.size)⟩
    | true =>
      rw [hf] at hj
      have hpj : Pt.path (Pt.joined ps) = true := by unfold Pt.path; rw [Pt.parts_joined hf]; exact hf
      have hlj := hlj hf
      simp only [if_true] at hj
      go_enter Try.func7, Try.ntmps7
      go_wp2_with fail
      refine (shown_any w).mono ?_
      rintro e w1 ⟨rfl, hb1⟩
      go_wp2_with fail
      refine (parse_ok w1 l hl hp).mono ?_
      rintro e w2 ⟨v, rfl, hv, hb2⟩
      have hB2 := hb1.trans (hb2.mono hb1.size)
      have ht := ts_of_own hv
      obtain ⟨a2, c2, rfl, -, -, -⟩ := ts_of_own hv
      have hjl := join_any w2 _ _ ht (by have := Pt.few_len hp; omega)
      rw [if_pos (show Pt.few (Pt.parts l) = true from hp), Pt.joined_parts] at hjl
      clear hv ht
      go_wp2_with fail
      refine hjl.mono ?_
      rintro e w3 ⟨rfl, hb3⟩
      have hB := hB2.trans (hb3.mono hB2.size)
      clear hjl
      go_wp2_with fail
      refine (hj w3 hB).mono ?_
      rintro e w4 ⟨rfl, hb4⟩
      have hB4 := hB.trans (hb4.mono hB.size)
      go_wp2_with fail
      refine (parse_ok w4 (Pt.joined ps) (by omega) hpj).mono ?_
      rintro e w5 ⟨v, rfl, hv, hb5⟩
      rw [Pt.parts_joined hf] at hv
      have hB5 := hB4.trans (hb5.mono hB4.size)
      have hs := same_any w5 _ _ ps ps (ts_of_own hv) (h.keep hB5) (by omega) (by omega)
      obtain ⟨a2, c2, rfl, -, -, -⟩ := ts_of_own hv
      clear hv
      rw [decide_eq_true rfl] at hs
      go_wp2_with fail
      refine hs.mono ?_
      rintro e w6 ⟨rfl, hb6⟩
      go_wp2
      go_ret
      exact ⟨rfl, hB5.trans (hb6.mono hB5.size)⟩
end Go.Proofs.Ytmlkoikemjpfaaa
