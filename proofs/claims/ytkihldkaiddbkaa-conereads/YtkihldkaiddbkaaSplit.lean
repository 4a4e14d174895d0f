/-
  What Split and Within answer. Conditions: lengths within reach.
-/
import Derived.Test.YtkihldkaiddbkaaPath
namespace Go.Proofs.Ytkihldkaiddbkaa
open Go.RowKit

theorem byte_at (l : List UInt8) (j : Nat) (h : j < l.length) : (((strB l).data[j]!).toNat : Int) = (l[j].toNat : Int) := by
  simp [strB, h]
theorem byte_47 (c : UInt8) : ((c.toNat : Int) = 47) ↔ c = 47 := by
  constructor
  · intro h; exact UInt8.toNat_inj.1 (by simpa using Int.ofNat.inj h)
  · rintro rfl; rfl
theorem lastIndex_none {l : List UInt8} (h : 47 ∉ l) : Lib.lastIndexByte (strB l) 47 = -1 := by
  rcases Lib.lastIdx_spec (strB l) 47 (strB l).size with ⟨e, _⟩ | ⟨i, hi, _, hb, _⟩
  · exact e
  · rw [strB_size] at hi
    rw [byte_at l i hi, byte_47] at hb
    exact absurd (hb ▸ List.getElem_mem hi) h
theorem lastIndex_some (d : List UInt8) {p : List UInt8} (h : 47 ∉ p) : Lib.lastIndexByte (strB (d ++ 47 :: p)) 47 = d.length := by
  have hlen : (d ++ 47 :: p).length = d.length + 1 + p.length := by simp; omega
  rcases Lib.lastIdx_spec (strB (d ++ 47 :: p)) 47 (strB (d ++ 47 :: p)).size with ⟨_, hn⟩ | ⟨i, hi, e, hb, hn⟩
  · exfalso
    have := hn d.length (by rw [strB_size]; omega)
    rw [byte_at _ _ (by omega)] at this
    simp at this
  · rw [strB_size] at hi
    rw [byte_at _ i hi, byte_47] at hb
    show Lib.lastIdx _ _ _ = _
    rw [e]
    have h1 : ¬ i < d.length := fun hlt => by
      have := hn d.length hlt (by rw [strB_size]; omega)
      rw [byte_at _ _ (by omega)] at this
      simp at this
    have h2 : ¬ d.length < i := fun hlt => by
      have hq : (d ++ 47 :: p)[i]'hi = p[i - d.length - 1]'(by omega) := by
        rw [List.getElem_append_right (by omega), List.getElem_cons]
        rw [dif_neg (by omega)]
      rw [hq] at hb
      exact h (hb ▸ List.getElem_mem _)
    have : i = d.length := by omega
    rw [this]

/-- What Split answers. -/
def splitA (l : List UInt8) : Value := if l ≠ [] ∧ Pt.path l = true then .tuple #[.string (strB (Pt.dir l)), .string (strB (Pt.last l)), .int .i64 0] else .tuple #[.string (strB []), .string (strB []), .int .i64 40]

set_option maxRecDepth 20000 in
theorem split_any (w : World) (l : List UInt8) (hl : l.length ≤ 4611686018427387000) :
    Calls Try.prog 23 #[.string (strB l)] w fun e w' => e = .returned (splitA l) ∧ Below w.heap.size w w' := by
  have hll := toL l
  by_cases h0 : l = []
  · subst h0
    go_enter Try.func23, Try.ntmps23
    go_wp2
    go_ret3
    exact ⟨rfl, Below.refl _ _⟩
  have b0 : (l == []) = false := by simp [h0]
  have hf := fewPath_any w l hl
  unfold splitA
  cases hp : Pt.path l with
  | false =>
    rw [hp] at hf
    rw [if_neg (by simp)]
    go_enter Try.func23, Try.ntmps23
    go_wp2_with fail
    refine hf.mono ?_
    rintro e w1 ⟨rfl, hb⟩
    go_wp2
    go_ret3
    exact ⟨rfl, hb⟩
  | true =>
    rw [hp] at hf
    rw [if_pos ⟨h0, rfl⟩]
    have hli := Try.strings_LastIndexByte (strB l) 47 (by rw [strB_size]; omega)
    rcases Pt.last_slash l with hn | ⟨d, p, rfl, hn⟩
    · rw [lastIndex_none hn] at hli
      rw [(Pt.split_none h0 hn).1, (Pt.split_none h0 hn).2]
      go_enter Try.func23, Try.ntmps23
      go_wp2_with fail
      refine hf.mono ?_
      rintro e w1 ⟨rfl, hb⟩
      go_wp2_with fail
      refine (hli w1).mono ?_
      rintro e w2 ⟨rfl, rfl⟩
      go_wp2
      go_ret3
      exact ⟨rfl, hb⟩
    · rw [lastIndex_some d hn] at hli
      rw [(Pt.split_at d hn).1, (Pt.split_at d hn).2]
      have hs := strB_size (d ++ 47 :: p)
      have hlen : (d ++ 47 :: p).length = d.length + 1 + p.length := by simp; omega
      have x1 : (strB (d ++ 47 :: p)).extract 0 d.length = strB d := by rw [ext_strB]; simp
      have x2 : (strB (d ++ 47 :: p)).extract (d.length + 1) (d.length + 1 + p.length) = strB p := by
        rw [← hlen, ext_strB, List.take_length, show d.length + 1 = (d ++ [47]).length by simp, show d ++ 47 :: p = (d ++ [47]) ++ p by simp, List.drop_left]
      generalize hS : strB (d ++ 47 :: p) = S at *
      go_enter Try.func23, Try.ntmps23
      go_wp2_with fail
      refine hf.mono ?_
      rintro e w1 ⟨rfl, hb⟩
      go_wp2_with fail
      refine (hli w1).mono ?_
      rintro e w2 ⟨rfl, rfl⟩
      go_wp2_with fail
      go_region
      go_wp2_with fail
      go_ret3
      exact ⟨rfl, hb.drew⟩

set_option maxRecDepth 20000 in
theorem within_any (w : World) (d l : List UInt8) (hl : l.length ≤ 4611686018427387000) :
    Calls Try.prog 29 #[.string (strB d), .string (strB l)] w fun e w' => e = .returned (.bool (Pt.within d l)) ∧ Below w.heap.size w w' := by
  have hf := fewPath_any w l hl
  cases hp : Pt.path l with
  | false =>
    have hw : Pt.within d l = false := by unfold Pt.within; rw [hp]; simp
    rw [hp] at hf
    rw [hw]
    go_enter Try.func29, Try.ntmps29
    go_wp2_with fail
    refine hf.mono ?_
    rintro e w1 ⟨rfl, hb⟩
    go_wp2
    go_ret
    exact ⟨rfl, hb⟩
  | true =>
    rw [hp] at hf
    rw [← Pt.below_within hp]
    go_enter Try.func29, Try.ntmps29
    go_wp2_with fail
    refine hf.mono ?_
    rintro e w1 ⟨rfl, hb⟩
    go_wp2_with fail
    refine (below_any w1 l d).mono ?_
    rintro e w2 ⟨rfl, rfl⟩
    go_wp2
    go_ret
    exact ⟨rfl, hb⟩
end Go.Proofs.Ytkihldkaiddbkaa
