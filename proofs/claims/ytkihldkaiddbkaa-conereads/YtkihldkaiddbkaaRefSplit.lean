/-
  What the document's own Split and Within answer. Conditions: lengths within reach.
-/
import Derived.Test.YtkihldkaiddbkaaReads
import Derived.Test.YtkihldkaiddbkaaRefJoin
import Derived.Test.YtkihldkaiddbkaaSplit
namespace Go.Proofs.Ytkihldkaiddbkaa
open Go.RowKit

theorem Ts.init {w : World} {b off n cap : Nat} {ps : List (List UInt8)} (h : Ts w (.slice (some ⟨b, off, none⟩) n cap) ps) : Ts w (.slice (some ⟨b, off, none⟩) (n - 1) cap) ps.dropLast := by
  obtain ⟨ao, cap', hv, h1, h2, h4⟩ := h
  injection hv with e1 e2 e3
  subst e1 e2 e3
  refine ⟨_, _, by rw [List.length_dropLast], by simp; omega, h2, fun hne => ?_⟩
  have hps : ps ≠ [] := by rintro rfl; exact hne rfl
  obtain ⟨b', off', hb', hlt, hc⟩ := h4 hps
  injection hb' with hb'
  injection hb' with e1 e2
  subst e1 e2
  refine ⟨_, _, rfl, hlt, fun j hj => ?_⟩
  have hj' : j < ps.length := by simp at hj; omega
  rw [hc j hj']
  simp

set_option maxRecDepth 20000 in
theorem rsplit_any (w : World) (l : List UInt8) (hl : l.length ≤ 4611686018427387000) :
    Calls Try.prog 39 #[.string (strB l)] w fun e w' => e = .returned (splitA l) ∧ Below w.heap.size w w' := by
  have hr := rparse_all w l hl
  unfold splitA
  cases hp : Pt.path l with
  | false =>
    unfold err ans at hr
    rw [hp] at hr
    simp only [Bool.false_eq_true, if_false] at hr
    rw [if_neg (by simp)]
    go_enter Try.func39, Try.ntmps39
    go_wp2_with fail
    refine hr.mono ?_
    rintro e w1 ⟨v, rfl, hv, hb⟩
    obtain ⟨ao, cap, rfl, -, -, -⟩ := ts_of_own hv
    go_wp2
    go_ret3
    exact ⟨rfl, hb⟩
  | true =>
    unfold err ans at hr
    rw [hp] at hr
    simp only [if_true] at hr
    by_cases h0 : l = []
    · subst h0
      rw [if_neg (by simp)]
      go_enter Try.func39, Try.ntmps39
      go_wp2_with fail
      refine hr.mono ?_
      rintro e w1 ⟨v, rfl, hv, hb⟩
      rw [show Pt.parts [] = [] from rfl] at hv
      obtain ⟨ao, cap, rfl, -, -, -⟩ := ts_of_own hv
      go_wp2
      go_ret3
      exact ⟨rfl, hb⟩
    · rw [if_pos ⟨h0, rfl⟩]
      have hne : Pt.parts l ≠ [] := fun e => h0 ((Pt.parts_nil_iff l).1 e)
      have hlen := Pt.few_len hp
      have hpos : 0 < (Pt.parts l).length := List.length_pos_iff.2 hne
      have hdf : Pt.few (Pt.parts l).dropLast = true := by
        obtain ⟨t, ht⟩ := List.dropLast_prefix (Pt.parts l)
        exact Pt.few_prefix (t := t) (by rw [ht]; exact hp)
      have hdir : Pt.joined (Pt.parts l).dropLast = Pt.dir l := rfl
      have hlast : Pt.last l = (Pt.parts l)[(Pt.parts l).length - 1]'(by omega) := by
        unfold Pt.last
        rw [List.getLast?_eq_getElem?, List.getElem?_eq_getElem (by omega)]
        rfl
      go_enter Try.func39, Try.ntmps39
      go_wp2_with fail
      refine hr.mono ?_
      rintro e w1 ⟨v, rfl, hv, hb⟩
      have ht := ts_of_own hv
      obtain ⟨ao, cap, rfl, c1, c2, c4⟩ := ts_of_own hv
      obtain ⟨b, off, rfl, hbl, hc⟩ := c4 hne
      have hj := rjoin_any w1 _ _ ht.init (by simp; omega)
      rw [if_pos hdf, hdir] at hj
      have hcl := hc ((Pt.parts l).length - 1) (by omega)
      rw [← hlast] at hcl
      clear hc c4 ht hv hr hdir hlast hdf
      generalize (Pt.parts l).length = n at *
      obtain ⟨m, rfl⟩ : ∃ m, n = m + 1 := ⟨n - 1, by omega⟩
      simp only [Nat.add_sub_cancel] at hj hcl
      go_wp2_with fail
      refine hj.mono ?_
      rintro e w2 ⟨rfl, rfl⟩
      go_wp2_with fail
      go_region
      go_wp2_with fail
      go_ret3
      exact ⟨rfl, hb.drew⟩
end Go.Proofs.Ytkihldkaiddbkaa
