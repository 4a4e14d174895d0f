/-
  ConeAsks', ConeFiles' walks. Conditions: the texts lie there; lengths within reach.
-/
import Derived.Test.YtkihldkaiddbkaaCShown
import Derived.Test.YtkihldkaiddbkaaCRef1
namespace Go.Proofs.Ytkihldkaiddbkaa
open Go.RowKit

set_option maxRecDepth 20000 in
set_option maxHeartbeats 800000 in
theorem lasks_any (w : World) (v : Value) (xs : List Bs) (s : Bs) (h : Ts w v xs) (hx : xs.length ≤ 4611686018427387904) (hl : ∀ x ∈ xs, x.length ≤ 4611686018427387000) (hs : s.length ≤ 4611686018427387000) :
    Calls Try.prog 5 #[v, .string (strB s)] w fun e w' => e = .returned (.bool true) ∧ Below w.heap.size w w' := by
  have hT := fun W (hW : Below w.heap.size w W) => h.keep hW
  obtain ⟨ao, cap, rfl, -, -, -⟩ := h
  go_enter Try.func5, Try.ntmps5
  go_wp2_with fail
  refine (shown_any w).mono ?_
  rintro e w1 ⟨rfl, hb1⟩
  go_wp2_with fail
  refine (lfew_any w1 _ xs (hT w1 hb1) hx).mono ?_
  rintro e w1 ⟨u, rfl, hu, rfl⟩
  have hl' := mem_few hl
  clear hl hx
  generalize xs.take 200 = ys at *
  have c1 := fun W (hW : Below w1.heap.size w1 W) => has_any W u _ s (hu.keep hW) hs hl'
  have c2 := fun W (hW : Below w1.heap.size w1 W) => rhas_any W u _ s (hu.keep hW) hs hl'
  have c3 := fun W (hW : Below w1.heap.size w1 W) => dir_any W u _ s (hu.keep hW) hs hl'
  have c4 := fun W (hW : Below w1.heap.size w1 W) => rdir_any W u _ s (hu.keep hW) hs hl'
  obtain ⟨uo, uc, rfl, -, -, -⟩ := hu
  generalize Pt.hasM ys s = p at *
  generalize Pt.dirM ys s = q at *
  clear hT
  go_wp2_with fail
  refine (c1 _ (Below.refl _ _)).mono ?_
  rintro e w2 ⟨rfl, hb2⟩
  go_wp2_with fail
  refine (c2 _ hb2).mono ?_
  rintro e w3 ⟨rfl, hb3⟩
  have hb3' := hb2.trans (hb3.mono hb2.size)
  go_wp2_with fail
  refine (c3 _ hb3').mono ?_
  rintro e w4 ⟨rfl, hb4⟩
  have hb4' := hb3'.trans (hb4.mono hb3'.size)
  go_wp2_with fail
  refine (c4 _ hb4').mono ?_
  rintro e w5 ⟨rfl, hb5⟩
  have HB := hide (hb1.trans ((hb4'.trans (hb5.mono hb4'.size)).mono hb1.size))
  clear hb1 hb2 hb3 hb4 hb5 hb3' hb4' c1 c2 c3 c4
  go_wp2
  go_ret
  exact ⟨rfl, HB.out⟩

set_option maxRecDepth 20000 in
set_option maxHeartbeats 800000 in
theorem lfiles_any (w : World) (v : Value) (xs : List Bs) (s : Bs) (h : Ts w v xs) (hx : xs.length ≤ 4611686018427387904) (hl : ∀ x ∈ xs, x.length ≤ 4611686018427387000) (hs : s.length ≤ 4611686018427387000) :
    Calls Try.prog 7 #[v, .string (strB s)] w fun e w' => e = .returned (.bool true) ∧ Below w.heap.size w w' := by
  have hT := fun W (hW : Below w.heap.size w W) => h.keep hW
  have hsp := fun W => split_any W s hs
  unfold splitA at hsp
  obtain ⟨ao, cap, rfl, -, -, -⟩ := h
  by_cases hok : s ≠ [] ∧ Pt.path s = true
  · have hdl := dir_length hok.2
    simp only [if_pos hok] at hsp
    go_enter Try.func7, Try.ntmps7
    go_wp2_with fail
    refine (shown_any w).mono ?_
    rintro e w1 ⟨rfl, hb1⟩
    go_wp2_with fail
    refine (lfew_any w1 _ xs (hT w1 hb1) hx).mono ?_
    rintro e w1 ⟨u, rfl, hu, rfl⟩
    have hl' := mem_few hl
    clear hl hx
    generalize xs.take 200 = ys at *
    obtain ⟨f1, f2⟩ := Pt.hasM_files ys s hok.1 hok.2
    have c1 := fun W (hW : Below w1.heap.size w1 W) => has_any W u _ s (hu.keep hW) hs hl'
    have c2 := fun W (hW : Below w1.heap.size w1 W) => dir_any W u _ s (hu.keep hW) hs hl'
    have c3 := fun W (hW : Below w1.heap.size w1 W) => dir_any W u _ (Pt.dir s) (hu.keep hW) (by omega) hl'
    obtain ⟨uo, uc, rfl, -, -, -⟩ := hu
    have HF := hide (And.intro f1 f2)
    generalize Pt.hasM ys s = p at *
    generalize Pt.dirM ys s = q at *
    generalize Pt.dirM ys (Pt.dir s) = r at *
    clear hT f1 f2
    go_wp2_with fail
    refine (hsp _).mono ?_
    rintro e w2 ⟨rfl, hb2⟩
    go_wp2_with fail
    refine (c2 _ hb2).mono ?_
    rintro e w3 ⟨rfl, hb3⟩
    have hb3' := hb2.trans (hb3.mono hb2.size)
    go_wp2_with fail
    refine (c1 _ hb3').mono ?_
    rintro e w4 ⟨rfl, hb4⟩
    have hb4' := hb3'.trans (hb4.mono hb3'.size)
    go_wp2_with fail
    refine (c3 _ hb4').mono ?_
    rintro e w5 ⟨rfl, hb5⟩
    have hb5' := hb4'.trans (hb5.mono hb4'.size)
    have HB := hide (hb1.trans (hb5'.mono hb1.size))
    have HC3 := hide (c3 _ hb5')
    have HW := hide (show w1.heap.size ≤ w5.heap.size from hb5'.size)
    have hq2 : ((q == 2) = true ∧ q = 2) ∨ ((q == 2) = false ∧ ¬ q = 2) := by by_cases e : q = 2 <;> simp [e]
    have hr2 : (decide (0 < r) = true ∧ 0 < r) ∨ (decide (0 < r) = false ∧ ¬ 0 < r) := by by_cases e : 0 < r <;> simp [e]
    clear hb1 hb2 hb3 hb4 hb5 hb3' hb4' hb5' c1 c2 c3 hsp
    have HF' : Hid (p = (decide (0 < r) || decide (q = 2))) := hide (by have := HF.out.1; simpa using this)
    have HG' : Hid (r = 2 → q = 2) := hide (by have := HF.out.2; intro e; simpa [e] using this)
    clear HF
    rcases hq2 with ⟨q1, q2⟩ | ⟨q1, q2⟩ <;> rcases hr2 with ⟨r1, r2⟩ | ⟨r1, r2⟩
    all_goals
      have hp := HF'.out
      first | rw [r1, decide_eq_true q2] at hp | rw [r1, decide_eq_false q2] at hp
      simp only [Bool.or_true, Bool.or_false] at hp
      subst hp
      go_wp2_with fail
      refine (HC3.out).mono ?_
      rintro e w6 ⟨rfl, hb6⟩
      have HB6 := hide (HB.out.trans (hb6.mono HB.out.size))
      clear hb6
      have hr3 : (r != 2) = true ∨ ((r != 2) = false ∧ (q == 2) = true) := by
        by_cases e : r = 2
        · right
          have := HG'.out e
          subst e this
          decide
        · left
          simpa using e
      rcases hr3 with e3 | ⟨e3, e4⟩
      · go_wp2
        all_goals (go_ret; exact ⟨rfl, HB6.out⟩)
      · first
          | (rw [q1] at e4; cases e4; done)
          | (go_wp2
             all_goals (go_ret; exact ⟨rfl, HB6.out⟩))
  · have hr : ∀ ys, Pt.hasM ys s = false := fun ys => by
      unfold Pt.hasM
      by_cases h0 : s = []
      · subst h0; rfl
      · cases hp : Pt.path s with
        | false => simp
        | true => exact absurd ⟨h0, hp⟩ hok
    simp only [if_neg hok] at hsp
    go_enter Try.func7, Try.ntmps7
    go_wp2_with fail
    refine (shown_any w).mono ?_
    rintro e w1 ⟨rfl, hb1⟩
    go_wp2_with fail
    refine (lfew_any w1 _ xs (hT w1 hb1) hx).mono ?_
    rintro e w1 ⟨u, rfl, hu, rfl⟩
    have hl' := mem_few hl
    clear hl hx
    generalize xs.take 200 = ys at *
    have c1 := fun W (hW : Below w1.heap.size w1 W) => has_any W u _ s (hu.keep hW) hs hl'
    simp only [hr ys] at c1
    obtain ⟨uo, uc, rfl, -, -, -⟩ := hu
    clear hT hr
    go_wp2_with fail
    refine (hsp _).mono ?_
    rintro e w2 ⟨rfl, hb2⟩
    go_wp2_with fail
    refine (c1 _ hb2).mono ?_
    rintro e w3 ⟨rfl, hb3⟩
    have HB := hide (hb1.trans ((hb2.trans (hb3.mono hb2.size)).mono hb1.size))
    clear hb1 hb2 hb3 c1 hsp
    go_wp2
    go_ret
    exact ⟨rfl, HB.out⟩
end Go.Proofs.Ytkihldkaiddbkaa
