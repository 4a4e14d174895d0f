/-
  ConeTwo's walk. Conditions: the texts lie there; lengths within reach.
-/
import Derived.Test.YtkihldkaiddbkabCShown
import Derived.Test.YtkihldkaiddbkabSame
import Derived.Deep.CutBlock
import Derived.Deep.CutRange
namespace Go.Proofs.Ytkihldkaiddbkab
open Go.RowKit

theorem ofM_len (xs : List Bs) : (Pt.ofM xs).1.length ≤ 64 := by
  unfold Pt.ofM
  split
  · split
    · assumption
    · simp
  · simp
theorem ofM_codes (xs : List Bs) : (Pt.ofM xs).2 = 0 ∨ (Pt.ofM xs).2 = 40 ∨ (Pt.ofM xs).2 = 181 := by
  unfold Pt.ofM
  split
  · split <;> simp
  · simp
theorem ofM_zero {xs : List Bs} (h : (Pt.ofM xs).2 = 0) : (∀ x ∈ xs, Pt.path x = true) ∧ (Pt.ofM xs).1 = Pt.formM xs := by
  cases hp : xs.all Pt.path with
  | false => rw [ofM_none hp] at h; simp at h
  | true =>
    refine ⟨List.all_eq_true.1 hp, ?_⟩
    by_cases h64 : (Pt.formM xs).length ≤ 64
    · rw [ofM_ok hp h64]
    · rw [ofM_many hp h64] at h; simp at h
theorem ofM_two {ys us : List Bs} (h : (Pt.ofM ys).2 = 0) (k : (Pt.ofM us).2 = 0) : Pt.ofM ((Pt.ofM ys).1 ++ (Pt.ofM us).1) = Pt.ofM (ys ++ us) := by
  obtain ⟨h1, h2⟩ := ofM_zero h
  obtain ⟨k1, k2⟩ := ofM_zero k
  rw [h2, k2]
  have hf := Pt.formM_two h1 k1
  have e1 : (ys ++ us).all Pt.path = true := List.all_eq_true.2 fun x hx => by
    rcases List.mem_append.1 hx with hx | hx
    · exact h1 x hx
    · exact k1 x hx
  have e2 : (Pt.formM ys ++ Pt.formM us).all Pt.path = true := List.all_eq_true.2 fun x hx => by
    rcases List.mem_append.1 hx with hx | hx
    · exact h1 x (Pt.mem_formM.1 hx).1
    · exact k1 x (Pt.mem_formM.1 hx).1
  unfold Pt.ofM
  rw [e1, e2, hf]
set_option maxRecDepth 20000 in
set_option maxHeartbeats 1600000 in
theorem ltwo_any (w : World) (v0 v1 : Value) (xs zs : List Bs) (h : Ts w v0 xs) (h1 : Ts w v1 zs) (hx : xs.length * 16 ≤ 140737488351232) (hz : zs.length * 16 ≤ 140737488351232) (hl : ∀ x ∈ xs, x.length ≤ 4611686018427387000) (hl1 : ∀ x ∈ zs, x.length ≤ 4611686018427387000) :
    Calls Try.prog 3 #[v0, v1] w fun e w' => e = .returned (.bool true) ∧ Below w.heap.size w w' := by
  have hT := fun W (hW : Below w.heap.size w W) => h.keep hW
  have hT1 := fun W (hW : Below w.heap.size w W) => h1.keep hW
  obtain ⟨ao, cap, rfl, -, -, -⟩ := h
  obtain ⟨bo, cap1, rfl, -, -, -⟩ := h1
  have hl' := mem_few hl
  have hl1' := mem_few hl1
  have hy := few_le xs
  have hy1 := few_le zs
  have hF := fun W (hW : Below w.heap.size w W) => lfew2_any W _ xs (hT W hW) (by omega)
  have hF1 := fun W (hW : Below w.heap.size w W) => lfew2_any W _ zs (hT1 W hW) (by omega)
  clear hl hl1
  generalize xs.take 200 = ys at *
  generalize zs.take 200 = us at *
  go_enter Try.func3, Try.ntmps3
  go_wp2_with fail
  refine (shown_any w).mono ?_
  rintro e w1 ⟨rfl, hb1⟩
  go_wp2_with fail
  refine (hF w1 hb1).mono ?_
  rintro e w1 ⟨uo, uc, rfl, hu, rfl⟩
  go_wp2_with fail
  refine (of_any w1 _ ys (hu w1 (hT w1 hb1)) (by omega) hl').mono ?_
  rintro e w2 ⟨A, rfl, hA, hb2⟩
  have hB2 := hb1.trans (hb2.mono hb1.size)
  obtain ⟨Ao, Ac, rfl⟩ := own_shape hA
  go_wp2_with fail
  refine (hF1 w2 hB2).mono ?_
  rintro e w2 ⟨uo1, uc1, rfl, hu1, rfl⟩
  go_wp2_with fail
  refine (of_any w2 _ us (hu1 w2 (hT1 w2 hB2)) (by omega) hl1').mono ?_
  rintro e w3 ⟨B, rfl, hBo, hb3⟩
  have hB3 := hB2.trans (hb3.mono hB2.size)
  obtain ⟨Bo, Bc, rfl⟩ := own_shape hBo
  have hA3 := own_keep hA hb3
  have HAB := hide (And.intro hA3 hBo)
  have HB3 := hide hB3
  clear hA hBo hb1 hb2 hb3 hB2 hB3 hu hu1 hA3
  by_cases he : (Pt.ofM ys).2 = 0
  · by_cases hf : (Pt.ofM us).2 = 0
    · have HTWO := hide (ofM_two he hf)
      have hAl := ofM_len ys
      have hBl := ofM_len us
      have hAs : ∀ x ∈ (Pt.ofM ys).1, x.length ≤ 4611686018427387000 := fun x hx => by
        rw [(ofM_zero he).2] at hx
        exact hl' x (Pt.mem_formM.1 hx).1
      have hBs : ∀ x ∈ (Pt.ofM us).1, x.length ≤ 4611686018427387000 := fun x hx => by
        rw [(ofM_zero hf).2] at hx
        exact hl1' x (Pt.mem_formM.1 hx).1
      generalize hPA : Pt.ofM ys = PA at *
      generalize hPB : Pt.ofM us = PB at *
      obtain ⟨fa, ea⟩ := PA
      obtain ⟨fb, eb⟩ := PB
      simp only at he hf hAl hBl hAs hBs HTWO HAB
      subst he hf
      clear hPA hPB
      go_upto_region 6 with fail
      have hW3 := fun W (hW : Below w3.heap.size w3 W) => HB3.out.trans (hW.mono HB3.out.size)
      go_cut [10] from 35 to 46 (fun v wx => ∃ a c, v = .slice a (ys.length + us.length) c ∧ OwnT wx w3.heap.size v (ys ++ us) ∧ Below w3.heap.size w3 wx)
      case first =>
        refine wp_region_held_drew (S := fun _ => True) (by kernel_rfl) (trivial) (fun hHeld => ?_)
        refine takeK 0 hHeld ?_
        refine takeK 1 hHeld ?_
        refine takeK 2 hHeld ?_
        refine takeK 3 hHeld ?_
        refine takeK 4 hHeld ?_
        refine takeK 6 hHeld ?_
        refine takeK 9 hHeld ?_
        have H0 := hide ((Below.refl w3.heap.size w3).drew)
        refine twoH (i := 5) (j := 7) rfl rfl (by kernel_rfl) rfl rfl (fun K hK => ?_) (fun K hK => ?_)
        · refine wp_make_texts w3.heap.size (xs.length + zs.length) _ _ rfl rfl rfl ?_ H0.out.size (by omega) ?_
          · first | go_num | (rw [IntKind.wrap_i64]; omega) | (simp; omega)
          intro W1 hown hb
          have H1 := hide (H0.out.trans hb)
          have HM1 := hide hown
          clear hown hb
          refine hK.out _ _ (trivial) (fun hHeld => ?_)
          clear hK K
          try simp only [Act.put, List.setIfInBounds_toArray, List.set_cons_zero, List.set_cons_succ]
          refine onlyH (i := 7) rfl (by kernel_rfl) rfl (fun K hK => ?_)
          go_simp
          refine (hF _ (hW3 _ H1.out)).mono ?_
          rintro e V ⟨uo2, uc2, rfl, hu, rfl⟩
          have HU := hide hu
          clear hu
          refine hK.out _ _ (trivial) (fun hHeld => ?_)
          clear hK K
          try simp only [Act.put, List.setIfInBounds_toArray, List.set_cons_zero, List.set_cons_succ]
          refine onlyH (i := 8) rfl (by kernel_rfl) rfl (fun K hK => ?_)
          refine wp_append_texts (.tmp 40) (.tmp 42) rfl rfl rfl rfl ys.length (by simp) HM1.out (HU.out _ (hT _ (hW3 _ H1.out))) H1.out.size (by simp) (by omega) ?_
          intro a8 c8 W2 hown hb
          have H2 := hide (H1.out.trans hb)
          have HM2 : Hid (OwnT W2 w3.heap.size (.slice a8 ys.length c8) ys) := hide hown
          clear hown hb
          refine hK.out _ _ (trivial) (fun hHeld => ?_)
          clear hK K
          try simp only [Act.put, List.setIfInBounds_toArray, List.set_cons_zero, List.set_cons_succ]
          refine onlyH (i := 10) rfl (by kernel_rfl) rfl (fun K hK => ?_)
          go_simp
          refine (hF1 _ (hW3 _ H2.out)).mono ?_
          rintro e V ⟨uo3, uc3, rfl, hu1, rfl⟩
          have HU1 := hide hu1
          clear hu1
          refine hK.out _ _ (trivial) (fun hHeld => ?_)
          clear hK K
          try simp only [Act.put, List.setIfInBounds_toArray, List.set_cons_zero, List.set_cons_succ]
          refine onlyH (i := 11) rfl (by kernel_rfl) rfl (fun K hK => ?_)
          refine wp_append_texts (.tmp 43) (.tmp 45) rfl rfl rfl rfl (ys.length + us.length) (by simp) HM2.out (HU1.out _ (hT1 _ (hW3 _ H2.out))) H2.out.size (by omega) (by omega) ?_
          intro a9 c9 W3 hown hb
          have H3 := hide (H2.out.trans hb)
          have HM3 : Hid (OwnT W3 w3.heap.size (.slice a9 (ys.length + us.length) c9) (ys ++ us)) := hide hown
          clear hown hb
          refine hK.out _ _ (trivial) (fun hHeld => ?_)
          clear hK K
          try simp only [Act.put, List.setIfInBounds_toArray, List.set_cons_zero, List.set_cons_succ]
          refine takeK 12 hHeld ?_
          refine wpAnyH_done (by kernel_rfl) ?_ _
          clear hHeld
          go_wp2_with fail
          go_meet
          exact ⟨_, _, rfl, HM3.out, H3.out⟩
        · go_simp
          refine (hF _ (hW3 _ H0.out)).mono ?_
          rintro e V ⟨uo2, uc2, rfl, hu, rfl⟩
          have HU := hide hu
          clear hu
          refine hK.out _ _ (trivial) (fun hHeld => ?_)
          clear hK K
          try simp only [Act.put, List.setIfInBounds_toArray, List.set_cons_zero, List.set_cons_succ]
          refine onlyH (i := 5) rfl (by kernel_rfl) rfl (fun K hK => ?_)
          refine wp_make_texts w3.heap.size (xs.length + zs.length) _ _ rfl rfl rfl ?_ H0.out.size (by omega) ?_
          · first | go_num | (rw [IntKind.wrap_i64]; omega) | (simp; omega)
          intro W1 hown hb
          have H1 := hide (H0.out.trans hb)
          have HM1 := hide hown
          clear hown hb
          refine hK.out _ _ (trivial) (fun hHeld => ?_)
          clear hK K
          try simp only [Act.put, List.setIfInBounds_toArray, List.set_cons_zero, List.set_cons_succ]
          refine onlyH (i := 8) rfl (by kernel_rfl) rfl (fun K hK => ?_)
          refine wp_append_texts (.tmp 40) (.tmp 42) rfl rfl rfl rfl ys.length (by simp) HM1.out (HU.out _ (hT _ (hW3 _ H1.out))) H1.out.size (by simp) (by omega) ?_
          intro a8 c8 W2 hown hb
          have H2 := hide (H1.out.trans hb)
          have HM2 : Hid (OwnT W2 w3.heap.size (.slice a8 ys.length c8) ys) := hide hown
          clear hown hb
          refine hK.out _ _ (trivial) (fun hHeld => ?_)
          clear hK K
          try simp only [Act.put, List.setIfInBounds_toArray, List.set_cons_zero, List.set_cons_succ]
          refine onlyH (i := 10) rfl (by kernel_rfl) rfl (fun K hK => ?_)
          go_simp
          refine (hF1 _ (hW3 _ H2.out)).mono ?_
          rintro e V ⟨uo3, uc3, rfl, hu1, rfl⟩
          have HU1 := hide hu1
          clear hu1
          refine hK.out _ _ (trivial) (fun hHeld => ?_)
          clear hK K
          try simp only [Act.put, List.setIfInBounds_toArray, List.set_cons_zero, List.set_cons_succ]
          refine onlyH (i := 11) rfl (by kernel_rfl) rfl (fun K hK => ?_)
          refine wp_append_texts (.tmp 43) (.tmp 45) rfl rfl rfl rfl (ys.length + us.length) (by simp) HM2.out (HU1.out _ (hT1 _ (hW3 _ H2.out))) H2.out.size (by omega) (by omega) ?_
          intro a9 c9 W3 hown hb
          have H3 := hide (H2.out.trans hb)
          have HM3 : Hid (OwnT W3 w3.heap.size (.slice a9 (ys.length + us.length) c9) (ys ++ us)) := hide hown
          clear hown hb
          refine hK.out _ _ (trivial) (fun hHeld => ?_)
          clear hK K
          try simp only [Act.put, List.setIfInBounds_toArray, List.set_cons_zero, List.set_cons_succ]
          refine takeK 12 hHeld ?_
          refine wpAnyH_done (by kernel_rfl) ?_ _
          clear hHeld
          go_wp2_with fail
          go_meet
          exact ⟨_, _, rfl, HM3.out, H3.out⟩
      case rest =>
        obtain ⟨a, c, rfl, hall, hbc⟩ := hcut
        have hO := of_any wc _ (ys ++ us) (ts_of_own (xs := ys ++ us) hall) (by rw [List.length_append]; omega) (fun x hx => by
          rcases List.mem_append.1 hx with h | h
          · exact hl' x h
          · exact hl1' x h)
        have HBC := hide hbc
        have HC1 := ofM_codes (ys ++ us)
        have hcl := ofM_len (ys ++ us)
        rw [← HTWO.out] at hO HC1 hcl
        have HTW := ofM_len (fa ++ fb)
        have HO := hide hO
        clear hall hbc hO hF hF1 hT hT1 hW3
        obtain ⟨M2, hM2, hmk2⟩ := make_any (fa.length + fb.length) (by omega)
        rw [show ((fa.length + fb.length : Nat) : Int) = (fa.length : Int) + (fb.length : Int) by omega] at hmk2
        go_wp2_with fail
        refine (HO.out).mono ?_
        rintro e w5 ⟨C, rfl, hC, hb5⟩
        obtain ⟨Co, Cc, rfl⟩ := own_shape hC
        have hB5 := HBC.out.trans (hb5.mono HBC.out.size)
        have hA5 := own_keep HAB.out.1 hB5
        have hBo5 := own_keep HAB.out.2 hB5
        have HC5 := hide hC
        have HB5 := hide hB5
        have hz1 : w5.heap.size ≤ (w5.alloc (.cells M2 9)).heap.size := by simp
        have hbA : Below w5.heap.size w5 (w5.alloc (.cells M2 9)) := (Below.refl _ w5).alloc (Nat.le_refl _) _
        have hownA := own_made w5 w5.heap.size _ M2 hM2 (Nat.le_refl _) (by omega)
        have htA := ts_of_own hA5
        have htB := ts_of_own hBo5
        clear hC hB5 hb5 hA5 hBo5 HO
        go_wp2_with (at_builtin; refine wpList_append_texts rfl (.tmp 58) (.tmp 59) rfl rfl rfl rfl fa.length (by simp) hownA (htA.keep hbA) hz1 (by simp) (by omega) ?_)
        intro a6 c6 w6 hown6 hb6
        have hB6 := hbA.trans hb6
        have HOW6 : Hid (OwnT w6 w5.heap.size (.slice a6 fa.length c6) fa) := hide hown6
        have htB6 := htB.keep hB6
        clear hown6 hb6 hownA hbA hz1 hmk2 htA htB
        go_wp2_with (at_builtin; refine wpList_append_texts rfl (.tmp 60) (.tmp 61) rfl rfl rfl rfl (fa.length + fb.length) (by simp) HOW6.out htB6 hB6.size (by omega) (by omega) ?_)
        intro a7 c7 w7 hown7 hb7
        have hB7 := hB6.trans hb7
        have HOW7 : Hid (OwnT w7 w5.heap.size (.slice a7 (fa.length + fb.length) c7) (fa ++ fb)) := hide hown7
        clear hown7 hb7 htB6 HOW6
        have hO2 := of_any w7 _ (fa ++ fb) (ts_of_own (xs := fa ++ fb) HOW7.out) (by rw [List.length_append]; omega) (fun x hx => by
          rcases List.mem_append.1 hx with h | h
          · exact hAs x h
          · exact hBs x h)
        have HO2 := hide hO2
        clear hO2 hAs hBs hl' hl1'
        generalize Pt.ofM (fa ++ fb) = R at *
        obtain ⟨rl, rc⟩ := R
        simp only at HO2 HC5 HC1 hcl
        go_wp2_with fail
        refine (HO2.out).mono ?_
        rintro e w8 ⟨D, rfl, hD, hb8⟩
        obtain ⟨Do, Dc, rfl⟩ := own_shape hD
        have hB8 := hB7.trans (hb8.mono hB7.size)
        have hsm := same_any w8 _ _ rl rl (ts_of_own (own_keep HC5.out hB8)) (ts_of_own hD) (by omega) (by omega)
        rw [decide_eq_true rfl] at hsm
        have HS := hide hsm
        have HB8 := hide (HB3.out.trans ((HB5.out.trans (hB8.mono HB5.out.size)).mono HB3.out.size))
        clear hsm hD hb8 hB8 hB7 hB6
        go_wp2_with fail
        refine (HS.out).mono ?_
        rintro e w9 ⟨rfl, hb9⟩
        have HB9 := hide (HB8.out.trans (hb9.mono HB8.out.size))
        clear hb9
        go_wp2
        go_ret
        exact ⟨rfl, HB9.out⟩
    · have HC := ofM_codes us
      have hee : (Pt.ofM us).2 = 40 ∨ (Pt.ofM us).2 = 181 := by omega
      have HB4 := hide HB3.out
      generalize (Pt.ofM us).2 = eb at *
      generalize (Pt.ofM ys).2 = ea at *
      subst he
      have hfb : (eb == 0) = false := by simpa using hf
      clear hF hF1 hT hT1
      go_wp2
      go_ret
      exact ⟨rfl, HB3.out⟩
  · generalize (Pt.ofM ys).2 = ea at *
    have hfa : (ea == 0) = false := by simpa using he
    clear hF hF1 hT hT1
    go_wp2
    all_goals (go_ret; exact ⟨rfl, HB3.out⟩)
end Go.Proofs.Ytkihldkaiddbkab
