/-
  ConeMore's walk. Conditions: the texts lie there; lengths within reach.
-/
import Derived.Test.YtkihldkaiddbkaaCAsks
namespace Go.Proofs.Ytkihldkaiddbkaa
open Go.RowKit

set_option maxRecDepth 20000 in
set_option maxHeartbeats 1600000 in
theorem lmore_any (w : World) (v0 v1 : Value) (xs zs : List Bs) (s : Bs) (h : Ts w v0 xs) (h1 : Ts w v1 zs) (hx : xs.length * 16 ≤ 140737488351232) (hz : zs.length * 16 ≤ 140737488351232) (hl : ∀ x ∈ xs, x.length ≤ 4611686018427387000) (hl1 : ∀ x ∈ zs, x.length ≤ 4611686018427387000) (hs : s.length ≤ 4611686018427387000) :
    Calls Try.prog 8 #[v0, v1, .string (strB s)] w fun e w' => e = .returned (.bool true) ∧ Below w.heap.size w w' := by
  have hT := fun W (hW : Below w.heap.size w W) => h.keep hW
  have hT1 := fun W (hW : Below w.heap.size w W) => h1.keep hW
  have hsp := fun W => split_any W s hs
  obtain ⟨ao, cap, rfl, -, -, -⟩ := h
  obtain ⟨bo, cap1, rfl, -, -, -⟩ := h1
  have hl' := mem_few hl
  have hl1' := mem_few hl1
  have hy := few_le xs
  have hy1 := few_le zs
  have hF := fun W (hW : Below w.heap.size w W) => lfew_any W _ xs (hT W hW) (by omega)
  have hF1 := fun W (hW : Below w.heap.size w W) => lfew_any W _ zs (hT1 W hW) (by omega)
  clear hT hT1 hl hl1
  generalize xs.take 200 = ys at *
  generalize zs.take 200 = us at *
  obtain ⟨M, hM, hmk⟩ := make_any (ys.length + zs.length) (by omega)
  obtain ⟨M2, hM2, hmk2⟩ := make_any (ys.length + 1) (by omega)
  rw [show ((ys.length + zs.length : Nat) : Int) = (ys.length : Int) + (zs.length : Int) by omega] at hmk
  rw [show ((ys.length + 1 : Nat) : Int) = (ys.length : Int) + 1 by omega] at hmk2
  go_enter Try.func8, Try.ntmps8
  go_wp2_with fail
  refine (shown_any w).mono ?_
  rintro e w1 ⟨rfl, hb1⟩
  go_wp2_with fail
  refine (hF w1 hb1).mono ?_
  rintro e w1 ⟨u, rfl, hu, rfl⟩
  obtain ⟨uo, uc, rfl, -, -, -⟩ := id hu
  have hz1 : w1.heap.size ≤ (w1.alloc (.cells M 9)).heap.size := by simp
  have hbA : Below w1.heap.size w1 (w1.alloc (.cells M 9)) := (Below.refl _ w1).alloc (Nat.le_refl _) _
  have hownA := own_made w1 w1.heap.size _ M hM (Nat.le_refl _) (by omega)
  go_wp2_with (at_builtin; refine wpList_append_texts rfl (.tmp 21) (.tmp 22) rfl rfl rfl rfl ys.length (by simp) hownA (hu.keep hbA) hz1 (by simp) (by omega) ?_)
  intro a7 c7 w7 hown7 hb7
  have hB7 := hbA.trans hb7
  have HOW7 : Hid (OwnT w7 w1.heap.size (.slice a7 ys.length c7) ys) := hide hown7
  clear hown7 hb7 hownA hbA hz1 hmk
  go_wp2_with fail
  refine (hF1 w7 (hb1.trans (hB7.mono hb1.size))).mono ?_
  rintro e w7 ⟨u1, rfl, hu1, rfl⟩
  obtain ⟨uo1, uc1, rfl, -, -, -⟩ := id hu1
  go_wp2_with (at_builtin; refine wpList_append_texts rfl (.tmp 23) (.tmp 25) rfl rfl rfl rfl (ys.length + us.length) (by simp) HOW7.out hu1 hB7.size (by omega) (by omega) ?_)
  intro a8 c8 w8 hown8 hb8
  have hB8 := hB7.trans hb8
  have HOW8 : Hid (OwnT w8 w1.heap.size (.slice a8 (ys.length + us.length) c8) (ys ++ us)) := hide (by simpa using hown8)
  have hu8 := hu.keep hB8
  clear hown8 hb8 hu1 HOW7 hF hF1
  have hz8 : w8.heap.size ≤ (w8.alloc (.cells M2 9)).heap.size := by simp
  have hbC : Below w8.heap.size w8 (w8.alloc (.cells M2 9)) := (Below.refl _ w8).alloc (Nat.le_refl _) _
  have hownC := own_made w8 w8.heap.size _ M2 hM2 (Nat.le_refl _) (by omega)
  go_wp2_with (at_builtin; refine wpList_append_texts rfl (.tmp 30) (.tmp 31) rfl rfl rfl rfl ys.length (by simp) hownC (hu8.keep hbC) hz8 (by simp) (by omega) ?_)
  intro a9 c9 w9 hown9 hb9
  have hB9 := hbC.trans hb9
  have HOW9 : Hid (OwnT w9 w8.heap.size (.slice a9 ys.length c9) ys) := hide hown9
  clear hown9 hb9 hownC hbC hz8 hmk2
  have hbD : Below w8.heap.size w8 (w9.alloc (.cells #[.string (strB [])] 9)) := hB9.alloc hB9.size _
  go_wp2_with (at_builtin; refine wpList_append_texts rfl (.tmp 32) (.tmp 33) rfl rfl rfl rfl (ys.length + 1) (by simp) (own_keep HOW9.out ((Below.refl _ w9).alloc (Nat.le_refl _) _)) (ts_one w9 []) hbD.size (by omega) (by simp) ?_)
  intro a10 c10 w10 hown10 hb10
  have hB10 := hbD.trans hb10
  have HOW10 : Hid (OwnT w10 w8.heap.size (.slice a10 (ys.length + 1) c10) (ys ++ [[]])) := hide (by simpa using hown10)
  have hW10 := hB8.trans (hB10.mono hB8.size)
  have hu10 := hu8.keep hB10
  have hall : Ts w10 (.slice a8 (ys.length + us.length) c8) (ys ++ us) := ts_of_own (own_keep HOW8.out hB10)
  have hwhole : Ts w10 (.slice a10 (ys.length + 1) c10) (ys ++ [[]]) := ts_of_own HOW10.out
  clear hown10 hb10 hbD hB9 HOW9 HOW10 HOW8 hu8 hB8 hB7
  have hlu : ∀ x ∈ ys ++ us, x.length ≤ 4611686018427387000 := fun x hx => by
    rcases List.mem_append.1 hx with h | h
    · exact hl' x h
    · exact hl1' x h
  have hlw : ∀ x ∈ ys ++ [[]], x.length ≤ 4611686018427387000 := fun x hx => by
    rcases List.mem_append.1 hx with h | h
    · exact hl' x h
    · simp at h; subst h; simp
  have c1 := fun W (hW : Below w10.heap.size w10 W) => has_any W _ _ s (hu10.keep hW) hs hl'
  have c2 := fun W (hW : Below w10.heap.size w10 W) => has_any W _ _ s (hall.keep hW) hs hlu
  have c3 := fun W (hW : Below w10.heap.size w10 W) => dir_any W _ _ s (hu10.keep hW) hs hl'
  have c4 := fun W (hW : Below w10.heap.size w10 W) => dir_any W _ _ s (hall.keep hW) hs hlu
  have c5 := fun W (hW : Below w10.heap.size w10 W) => has_any W _ _ s (hwhole.keep hW) hs hlw
  have hm1 := Pt.hasM_more ys us s
  have hm2 := Pt.dirM_more ys us s
  simp only [Pt.hasM_root] at c5
  generalize Pt.hasM ys s = p at *
  generalize Pt.hasM (ys ++ us) s = p2 at *
  generalize Pt.dirM ys s = q at *
  generalize Pt.dirM (ys ++ us) s = q2 at *
  clear hu10 hall hwhole hlu hlw hu
  have HB := hide (hb1.trans (hW10.mono hb1.size))
  clear hb1 hW10 hB10
  have hq : decide (q ≤ q2) = true := decide_eq_true hm2
  obtain ⟨b, A, hA, hAb⟩ : ∃ (b : Bool) (A : Value), splitA s = A ∧ ((b = true ∧ A = .tuple #[.string (strB (Pt.dir s)), .string (strB (Pt.last s)), .int .i64 0]) ∨ (b = false ∧ A = .tuple #[.string (strB []), .string (strB []), .int .i64 40])) ∧ (decide (s ≠ []) && Pt.path s) = b := by
    unfold splitA
    by_cases hok : s ≠ [] ∧ Pt.path s = true
    · refine ⟨true, _, rfl, .inl ⟨rfl, by rw [if_pos hok]⟩, ?_⟩
      rw [decide_eq_true hok.1, hok.2]
      rfl
    · refine ⟨false, _, rfl, .inr ⟨rfl, by rw [if_neg hok]⟩, ?_⟩
      by_cases h0 : s = []
      · subst h0; rfl
      · cases hp : Pt.path s with
        | false => simp
        | true => exact absurd ⟨h0, hp⟩ hok
  obtain ⟨hAb, hbb⟩ := hAb
  simp only [hA] at hsp
  simp only [hbb] at c5
  clear hA hbb hm2
  rcases hAb with ⟨rfl, rfl⟩ | ⟨rfl, rfl⟩
  all_goals
    cases p
    · clear hm1 c2
      go_wp2_with fail
      refine (hsp _).mono ?_
      rintro e w11 ⟨rfl, hb11⟩
      go_wp2_with fail
      refine (c1 _ hb11).mono ?_
      rintro e w12 ⟨rfl, hb12⟩
      have hb12' := hb11.trans (hb12.mono hb11.size)
      go_wp2_with fail
      refine (c3 _ hb12').mono ?_
      rintro e w13 ⟨rfl, hb13⟩
      have hb13' := hb12'.trans (hb13.mono hb12'.size)
      go_wp2_with fail
      refine (c4 _ hb13').mono ?_
      rintro e w14 ⟨rfl, hb14⟩
      have hb14' := hb13'.trans (hb14.mono hb13'.size)
      go_wp2_with fail
      refine (c5 _ hb14').mono ?_
      rintro e w15 ⟨rfl, hb15⟩
      have HB2 := hide (HB.out.trans ((hb14'.trans (hb15.mono hb14'.size)).mono HB.out.size))
      clear hb11 hb12 hb13 hb14 hb15 hb12' hb13' hb14' c1 c3 c4 c5 hsp
      go_wp2
      go_ret
      exact ⟨rfl, HB2.out⟩
    · obtain rfl := hm1 rfl
      clear hm1
      go_wp2_with fail
      refine (hsp _).mono ?_
      rintro e w11 ⟨rfl, hb11⟩
      go_wp2_with fail
      refine (c1 _ hb11).mono ?_
      rintro e w12 ⟨rfl, hb12⟩
      have hb12' := hb11.trans (hb12.mono hb11.size)
      go_wp2_with fail
      refine (c2 _ hb12').mono ?_
      rintro e w16 ⟨rfl, hb16⟩
      have hb16' := hb12'.trans (hb16.mono hb12'.size)
      go_wp2_with fail
      refine (c3 _ hb16').mono ?_
      rintro e w13 ⟨rfl, hb13⟩
      have hb13' := hb16'.trans (hb13.mono hb16'.size)
      go_wp2_with fail
      refine (c4 _ hb13').mono ?_
      rintro e w14 ⟨rfl, hb14⟩
      have hb14' := hb13'.trans (hb14.mono hb13'.size)
      go_wp2_with fail
      refine (c5 _ hb14').mono ?_
      rintro e w15 ⟨rfl, hb15⟩
      have HB2 := hide (HB.out.trans ((hb14'.trans (hb15.mono hb14'.size)).mono HB.out.size))
      clear hb11 hb12 hb13 hb14 hb15 hb16 hb12' hb13' hb14' hb16' c1 c2 c3 c4 c5 hsp
      go_wp2
      go_ret
      exact ⟨rfl, HB2.out⟩
end Go.Proofs.Ytkihldkaiddbkaa
