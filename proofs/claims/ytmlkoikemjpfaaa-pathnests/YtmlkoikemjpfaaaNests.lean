/-
  PathNests' own walk: what lies within what lies within a directory lies within it. Conditions: lengths within reach.
-/
import Derived.Test.YtmlkoikemjpfaaaShown
import Derived.Test.YtmlkoikemjpfaaaOrder
namespace Go.Proofs.Ytmlkoikemjpfaaa
open Go.RowKit

theorem nest_form {c : List UInt8} (hp : Pt.path c = true) (h0 : c ≠ []) : (Pt.dir c = [] ∧ Pt.last c = c) ∨ (Pt.dir c ≠ [] ∧ Pt.dir c ++ 47 :: Pt.last c = c) := by
  rcases Pt.last_slash c with hn | ⟨d, p, rfl, hn⟩
  · exact .inl (Pt.split_none h0 hn)
  · rw [(Pt.split_at d hn).1, (Pt.split_at d hn).2]
    refine .inr ⟨?_, rfl⟩
    rintro rfl
    have e : Pt.parts ([] ++ 47 :: p) = [[], p] := by unfold Pt.parts; rw [if_neg (by simp), Pt.cut_end [] hn]; rfl
    unfold Pt.path at hp
    rw [e] at hp
    exact absurd (Pt.few_all hp [] (by simp)) (by decide)
theorem nest_len {c : List UInt8} (hp : Pt.path c = true) (h0 : c ≠ []) : (Pt.dir c).length < c.length := by
  rcases nest_form hp h0 with ⟨h1, _⟩ | ⟨_, h2⟩
  · rw [h1]; exact List.length_pos_iff.2 h0
  · have := congrArg List.length h2
    simp at this
    omega
theorem nest_back {c : List UInt8} (hp : Pt.path c = true) (h0 : c ≠ []) : Pt.within c (Pt.dir c) = false := by
  cases h : Pt.within c (Pt.dir c) with
  | false => rfl
  | true =>
    obtain ⟨t, ht⟩ := Pt.within_prefix h
    have h1 := nest_len hp h0
    have h2 := congrArg List.length ht
    simp at h2
    omega
theorem nest_order {c : List UInt8} (hp : Pt.path c = true) (h0 : c ≠ []) : Pt.order (Pt.dir c) c = -1 := by
  obtain ⟨t, ht⟩ := Pt.within_prefix (Pt.within_dir hp)
  have h1 := nest_len hp h0
  have h2 : t ≠ [] := by
    rintro rfl
    have := congrArg List.length ht
    simp at this
    omega
  have h3 := Pt.order_proper (Pt.dir c) t h2
  rw [← ht] at h3
  have := Pt.order_range (Pt.dir c) c
  omega
theorem in_order {a b : List UInt8} (h : Pt.within a b = true) : Pt.order a b ≤ 0 := by
  obtain ⟨t, rfl⟩ := Pt.within_prefix h
  exact Pt.order_prefix a t
theorem cat_str (a b : List UInt8) : strB a ++ strB b = strB (a ++ b) := by
  apply ByteArray.ext
  simp [strB]

set_option maxRecDepth 20000 in
theorem nests_none (w : World) (a b c : List UInt8) (ha : a.length ≤ 4611686018427387000) (hb : b.length ≤ 4611686018427387000) (hc : c.length ≤ 4611686018427387000) (h : ¬ (c ≠ [] ∧ Pt.path c = true)) :
    Calls Try.prog 8 #[.string (strB a), .string (strB b), .string (strB c)] w fun e w' => e = .returned (.bool true) ∧ Below w.heap.size w w' := by
  have hwab := fun W => within_any W a b hb
  have hwbc := fun W => within_any W b c hc
  have hwac := fun W => within_any W a c hc
  have hoab := fun W => compare_any W a b (by omega) (by omega)
  have hsp := fun W => split_any W c hc
  unfold splitA at hsp
  rw [if_neg h] at hsp
  cases hab : Pt.within a b with
  | false =>
    rw [hab] at hwab
    go_enter Try.func8, Try.ntmps8
    go_wp2_with fail
    refine (shown_any w).mono ?_
    rintro e w1 ⟨rfl, hB1⟩
    go_wp2_with fail
    refine (hsp w1).mono ?_
    rintro e w2 ⟨rfl, hb2⟩
    have hB2 := hB1.trans (hb2.mono hB1.size)
    go_wp2_with fail
    refine (hwab w2).mono ?_
    rintro e w3 ⟨rfl, hb3⟩
    have hB3 := hB2.trans (hb3.mono hB2.size)
    go_wp2
    go_ret
    exact ⟨rfl, hB3⟩
  | true =>
    cases hbc : Pt.within b c with
    | false =>
      have ho := in_order hab
      rw [hab] at hwab
      rw [hbc] at hwbc
      go_enter Try.func8, Try.ntmps8
      go_wp2_with fail
      refine (shown_any w).mono ?_
      rintro e w1 ⟨rfl, hB1⟩
      go_wp2_with fail
      refine (hsp w1).mono ?_
      rintro e w2 ⟨rfl, hb2⟩
      have hB2 := hB1.trans (hb2.mono hB1.size)
      go_wp2_with fail
      refine (hwab w2).mono ?_
      rintro e w3 ⟨rfl, hb3⟩
      have hB3 := hB2.trans (hb3.mono hB2.size)
      go_wp2_with fail
      refine (hwbc w3).mono ?_
      rintro e w4 ⟨rfl, hb4⟩
      have hB4 := hB3.trans (hb4.mono hB3.size)
      go_wp2_with fail
      refine (hoab w4).mono ?_
      rintro e w5 ⟨rfl, hb5⟩
      have hB5 := hB4.trans (hb5.mono hB4.size)
      go_wp2
      go_ret
      exact ⟨rfl, hB5⟩
    | true =>
      have ho := in_order hab
      rw [hab] at hwab
      have hac := Pt.within_trans hab hbc
      rw [hbc] at hwbc
      rw [hac] at hwac
      go_enter Try.func8, Try.ntmps8
      go_wp2_with fail
      refine (shown_any w).mono ?_
      rintro e w1 ⟨rfl, hB1⟩
      go_wp2_with fail
      refine (hsp w1).mono ?_
      rintro e w2 ⟨rfl, hb2⟩
      have hB2 := hB1.trans (hb2.mono hB1.size)
      go_wp2_with fail
      refine (hwab w2).mono ?_
      rintro e w3 ⟨rfl, hb3⟩
      have hB3 := hB2.trans (hb3.mono hB2.size)
      go_wp2_with fail
      refine (hwbc w3).mono ?_
      rintro e w4 ⟨rfl, hb4⟩
      have hB4 := hB3.trans (hb4.mono hB3.size)
      go_wp2_with fail
      refine (hwac w4).mono ?_
      rintro e w5 ⟨rfl, hb5⟩
      have hB5 := hB4.trans (hb5.mono hB4.size)
      go_wp2_with fail
      refine (hoab w5).mono ?_
      rintro e w6 ⟨rfl, hb6⟩
      have hB6 := hB5.trans (hb6.mono hB5.size)
      go_wp2
      go_ret
      exact ⟨rfl, hB6⟩
set_option maxRecDepth 20000 in
theorem nests_root (w : World) (a b c : List UInt8) (ha : a.length ≤ 4611686018427387000) (hb : b.length ≤ 4611686018427387000) (hc : c.length ≤ 4611686018427387000) (h0 : c ≠ []) (hp : Pt.path c = true) (hd : Pt.dir c = []) (hn : Pt.last c = c) :
    Calls Try.prog 8 #[.string (strB a), .string (strB b), .string (strB c)] w fun e w' => e = .returned (.bool true) ∧ Below w.heap.size w w' := by
  have hwab := fun W => within_any W a b hb
  have hwbc := fun W => within_any W b c hc
  have hwac := fun W => within_any W a c hc
  have hoab := fun W => compare_any W a b (by omega) (by omega)
  have hsp := fun W => split_any W c hc
  unfold splitA at hsp
  rw [if_pos ⟨h0, hp⟩] at hsp
  have hdl := nest_len hp h0
  have hw1 := fun W => within_any W (Pt.dir c) c hc
  have hw2 := fun W => within_any W c (Pt.dir c) (by omega)
  have ho1 := fun W => compare_any W (Pt.dir c) c (by omega) (by omega)
  rw [Pt.within_dir hp] at hw1
  rw [nest_back hp h0] at hw2
  rw [nest_order hp h0] at ho1
  have tc := toL c
  rw [hd] at hw1 hw2 ho1
  rw [hd, hn] at hsp
  have t0 := toL []
  have x1 : strB [] ++ (ByteArray.mk #[47]) = strB [47] := cat_str [] [47]
  have x2 : strB [47] ++ strB c = strB (47 :: c) := cat_str [47] c
  have y1 := strB_size [47]
  have y2 := strB_size c
  cases hab : Pt.within a b with
  | false =>
    rw [hab] at hwab
    go_enter Try.func8, Try.ntmps8
    go_wp2_with fail
    refine (shown_any w).mono ?_
    rintro e w1 ⟨rfl, hB1⟩
    go_wp2_with fail
    refine (hsp w1).mono ?_
    rintro e w2 ⟨rfl, hb2⟩
    have hB2 := hB1.trans (hb2.mono hB1.size)
    go_wp2_with fail
    refine (hw1 w2).mono ?_
    rintro e w3 ⟨rfl, hb3⟩
    have hB3 := hB2.trans (hb3.mono hB2.size)
    go_wp2_with fail
    refine (hw2 w3).mono ?_
    rintro e w4 ⟨rfl, hb4⟩
    have hB4 := hB3.trans (hb4.mono hB3.size)
    go_wp2_with fail
    refine (ho1 w4).mono ?_
    rintro e w5 ⟨rfl, hb5⟩
    have hB5 := hB4.trans (hb5.mono hB4.size)
    go_wp2_with fail
    refine (hwab w5).mono ?_
    rintro e w6 ⟨rfl, hb6⟩
    have hB6 := hB5.trans (hb6.mono hB5.size)
    go_wp2
    go_ret
    exact ⟨rfl, hB6⟩
  | true =>
    cases hbc : Pt.within b c with
    | false =>
      have ho := in_order hab
      rw [hab] at hwab
      rw [hbc] at hwbc
      go_enter Try.func8, Try.ntmps8
      go_wp2_with fail
      refine (shown_any w).mono ?_
      rintro e w1 ⟨rfl, hB1⟩
      go_wp2_with fail
      refine (hsp w1).mono ?_
      rintro e w2 ⟨rfl, hb2⟩
      have hB2 := hB1.trans (hb2.mono hB1.size)
      go_wp2_with fail
      refine (hw1 w2).mono ?_
      rintro e w3 ⟨rfl, hb3⟩
      have hB3 := hB2.trans (hb3.mono hB2.size)
      go_wp2_with fail
      refine (hw2 w3).mono ?_
      rintro e w4 ⟨rfl, hb4⟩
      have hB4 := hB3.trans (hb4.mono hB3.size)
      go_wp2_with fail
      refine (ho1 w4).mono ?_
      rintro e w5 ⟨rfl, hb5⟩
      have hB5 := hB4.trans (hb5.mono hB4.size)
      go_wp2_with fail
      refine (hwab w5).mono ?_
      rintro e w6 ⟨rfl, hb6⟩
      have hB6 := hB5.trans (hb6.mono hB5.size)
      go_wp2_with fail
      refine (hwbc w6).mono ?_
      rintro e w7 ⟨rfl, hb7⟩
      have hB7 := hB6.trans (hb7.mono hB6.size)
      go_wp2_with fail
      refine (hoab w7).mono ?_
      rintro e w8 ⟨rfl, hb8⟩
      have hB8 := hB7.trans (hb8.mono hB7.size)
      go_wp2
      go_ret
      exact ⟨rfl, hB8⟩
    | true =>
      have ho := in_order hab
      rw [hab] at hwab
      have hac := Pt.within_trans hab hbc
      rw [hbc] at hwbc
      rw [hac] at hwac
      go_enter Try.func8, Try.ntmps8
      go_wp2_with fail
      refine (shown_any w).mono ?_
      rintro e w1 ⟨rfl, hB1⟩
      go_wp2_with fail
      refine (hsp w1).mono ?_
      rintro e w2 ⟨rfl, hb2⟩
      have hB2 := hB1.trans (hb2.mono hB1.size)
      go_wp2_with fail
      refine (hw1 w2).mono ?_
      rintro e w3 ⟨rfl, hb3⟩
      have hB3 := hB2.trans (hb3.mono hB2.size)
      go_wp2_with fail
      refine (hw2 w3).mono ?_
      rintro e w4 ⟨rfl, hb4⟩
      have hB4 := hB3.trans (hb4.mono hB3.size)
      go_wp2_with fail
      refine (ho1 w4).mono ?_
      rintro e w5 ⟨rfl, hb5⟩
      have hB5 := hB4.trans (hb5.mono hB4.size)
      go_wp2_with fail
      refine (hwab w5).mono ?_
      rintro e w6 ⟨rfl, hb6⟩
      have hB6 := hB5.trans (hb6.mono hB5.size)
      go_wp2_with fail
      refine (hwbc w6).mono ?_
      rintro e w7 ⟨rfl, hb7⟩
      have hB7 := hB6.trans (hb7.mono hB6.size)
      go_wp2_with fail
      refine (hwac w7).mono ?_
      rintro e w8 ⟨rfl, hb8⟩
      have hB8 := hB7.trans (hb8.mono hB7.size)
      go_wp2_with fail
      refine (hoab w8).mono ?_
      rintro e w9 ⟨rfl, hb9⟩
      have hB9 := hB8.trans (hb9.mono hB8.size)
      go_wp2
      go_ret
      exact ⟨rfl, hB9⟩
set_option maxRecDepth 20000 in
theorem nests_dir (w : World) (a b c : List UInt8) (ha : a.length ≤ 4611686018427387000) (hb : b.length ≤ 4611686018427387000) (hc : c.length ≤ 4611686018427387000) (h0 : c ≠ []) (hp : Pt.path c = true) (hd : Pt.dir c ≠ []) (hn : Pt.dir c ++ 47 :: Pt.last c = c) :
    Calls Try.prog 8 #[.string (strB a), .string (strB b), .string (strB c)] w fun e w' => e = .returned (.bool true) ∧ Below w.heap.size w w' := by
  have hwab := fun W => within_any W a b hb
  have hwbc := fun W => within_any W b c hc
  have hwac := fun W => within_any W a c hc
  have hoab := fun W => compare_any W a b (by omega) (by omega)
  have hsp := fun W => split_any W c hc
  unfold splitA at hsp
  rw [if_pos ⟨h0, hp⟩] at hsp
  have hdl := nest_len hp h0
  have hw1 := fun W => within_any W (Pt.dir c) c hc
  have hw2 := fun W => within_any W c (Pt.dir c) (by omega)
  have ho1 := fun W => compare_any W (Pt.dir c) c (by omega) (by omega)
  rw [Pt.within_dir hp] at hw1
  rw [nest_back hp h0] at hw2
  rw [nest_order hp h0] at ho1
  have tc := toL c
  have td := toL (Pt.dir c)
  have bd : (Pt.dir c == []) = false := by simp [hd]
  have x1 : strB (Pt.dir c) ++ (ByteArray.mk #[47]) = strB (Pt.dir c ++ [47]) := cat_str _ [47]
  have x2 : strB (Pt.dir c ++ [47]) ++ strB (Pt.last c) = strB c := by rw [cat_str]; simp [hn]
  have y1 := strB_size (Pt.dir c)
  have y2 := strB_size (Pt.dir c ++ [47])
  have y3 := strB_size (Pt.last c)
  have y4 : (Pt.dir c).length + 1 + (Pt.last c).length = c.length := by have := congrArg List.length hn; simp at this; omega
  clear hn
  generalize Pt.dir c = d at *
  generalize Pt.last c = p at *
  cases hab : Pt.within a b with
  | false =>
    rw [hab] at hwab
    go_enter Try.func8, Try.ntmps8
    go_wp2_with fail
    refine (shown_any w).mono ?_
    rintro e w1 ⟨rfl, hB1⟩
    go_wp2_with fail
    refine (hsp w1).mono ?_
    rintro e w2 ⟨rfl, hb2⟩
    have hB2 := hB1.trans (hb2.mono hB1.size)
    go_wp2_with fail
    refine (hw1 w2).mono ?_
    rintro e w3 ⟨rfl, hb3⟩
    have hB3 := hB2.trans (hb3.mono hB2.size)
    go_wp2_with fail
    refine (hw2 w3).mono ?_
    rintro e w4 ⟨rfl, hb4⟩
    have hB4 := hB3.trans (hb4.mono hB3.size)
    go_wp2_with fail
    refine (ho1 w4).mono ?_
    rintro e w5 ⟨rfl, hb5⟩
    have hB5 := hB4.trans (hb5.mono hB4.size)
    go_wp2_with fail
    refine (hwab w5).mono ?_
    rintro e w6 ⟨rfl, hb6⟩
    have hB6 := hB5.trans (hb6.mono hB5.size)
    go_wp2
    go_ret
    exact ⟨rfl, hB6⟩
  | true =>
    cases hbc : Pt.within b c with
    | false =>
      have ho := in_order hab
      rw [hab] at hwab
      rw [hbc] at hwbc
      go_enter Try.func8, Try.ntmps8
      go_wp2_with fail
      refine (shown_any w).mono ?_
      rintro e w1 ⟨rfl, hB1⟩
      go_wp2_with fail
      refine (hsp w1).mono ?_
      rintro e w2 ⟨rfl, hb2⟩
      have hB2 := hB1.trans (hb2.mono hB1.size)
      go_wp2_with fail
      refine (hw1 w2).mono ?_
      rintro e w3 ⟨rfl, hb3⟩
      have hB3 := hB2.trans (hb3.mono hB2.size)
      go_wp2_with fail
      refine (hw2 w3).mono ?_
      rintro e w4 ⟨rfl, hb4⟩
      have hB4 := hB3.trans (hb4.mono hB3.size)
      go_wp2_with fail
      refine (ho1 w4).mono ?_
      rintro e w5 ⟨rfl, hb5⟩
      have hB5 := hB4.trans (hb5.mono hB4.size)
      go_wp2_with fail
      refine (hwab w5).mono ?_
      rintro e w6 ⟨rfl, hb6⟩
      have hB6 := hB5.trans (hb6.mono hB5.size)
      go_wp2_with fail
      refine (hwbc w6).mono ?_
      rintro e w7 ⟨rfl, hb7⟩
      have hB7 := hB6.trans (hb7.mono hB6.size)
      go_wp2_with fail
      refine (hoab w7).mono ?_
      rintro e w8 ⟨rfl, hb8⟩
      have hB8 := hB7.trans (hb8.mono hB7.size)
      go_wp2
      go_ret
      exact ⟨rfl, hB8⟩
    | true =>
      have ho := in_order hab
      rw [hab] at hwab
      have hac := Pt.within_trans hab hbc
      rw [hbc] at hwbc
      rw [hac] at hwac
      go_enter Try.func8, Try.ntmps8
      go_wp2_with fail
      refine (shown_any w).mono ?_
      rintro e w1 ⟨rfl, hB1⟩
      go_wp2_with fail
      refine (hsp w1).mono ?_
      rintro e w2 ⟨rfl, hb2⟩
      have hB2 := hB1.trans (hb2.mono hB1.size)
      go_wp2_with fail
      refine (hw1 w2).mono ?_
      rintro e w3 ⟨rfl, hb3⟩
      have hB3 := hB2.trans (hb3.mono hB2.size)
      go_wp2_with fail
      refine (hw2 w3).mono ?_
      rintro e w4 ⟨rfl, hb4⟩
      have hB4 := hB3.trans (hb4.mono hB3.size)
      go_wp2_with fail
      refine (ho1 w4).mono ?_
      rintro e w5 ⟨rfl, hb5⟩
      have hB5 := hB4.trans (hb5.mono hB4.size)
      go_wp2_with fail
      refine (hwab w5).mono ?_
      rintro e w6 ⟨rfl, hb6⟩
      have hB6 := hB5.trans (hb6.mono hB5.size)
      go_wp2_with fail
      refine (hwbc w6).mono ?_
      rintro e w7 ⟨rfl, hb7⟩
      have hB7 := hB6.trans (hb7.mono hB6.size)
      go_wp2_with fail
      refine (hwac w7).mono ?_
      rintro e w8 ⟨rfl, hb8⟩
      have hB8 := hB7.trans (hb8.mono hB7.size)
      go_wp2_with fail
      refine (hoab w8).mono ?_
      rintro e w9 ⟨rfl, hb9⟩
      have hB9 := hB8.trans (hb9.mono hB8.size)
      go_wp2
      go_ret
      exact ⟨rfl, hB9⟩
theorem nests_any (w : World) (a b c : List UInt8) (ha : a.length ≤ 4611686018427387000) (hb : b.length ≤ 4611686018427387000) (hc : c.length ≤ 4611686018427387000) :
    Calls Try.prog 8 #[.string (strB a), .string (strB b), .string (strB c)] w fun e w' => e = .returned (.bool true) ∧ Below w.heap.size w w' := by
  by_cases h : c ≠ [] ∧ Pt.path c = true
  · rcases nest_form h.2 h.1 with ⟨h1, h2⟩ | ⟨h1, h2⟩
    · exact nests_root w a b c ha hb hc h.1 h.2 h1 h2
    · exact nests_dir w a b c ha hb hc h.1 h.2 h1 h2
  · exact nests_none w a b c ha hb hc h
end Go.Proofs.Ytmlkoikemjpfaaa
