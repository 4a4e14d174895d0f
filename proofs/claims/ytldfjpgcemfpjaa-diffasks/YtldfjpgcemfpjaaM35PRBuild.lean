/-
  A map built by the reference. Condition: the pairs lie there.
-/
import Derived.Test.YtldfjpgcemfpjaaM33PRRight
import Derived.Test.YtldfjpgcemfpjaaM34PKept
namespace Go.Proofs.Ytldfjpgcemfpjaa
open Go.RowKit

theorem buildM_many {l : List Pair} (h : 4096 < l.length) : buildM l = ([], [], 121) := if_pos h
theorem buildM_form {l : List Pair} (h : ¬ 4096 < l.length) (h2 : pairsOk l = false) : buildM l = ([], [], 120) := by unfold buildM; rw [if_neg h, if_pos h2]
theorem buildM_nil : buildM [] = ((leafO []).1, [leafO []], 0) := by unfold buildM; rw [if_neg (by simp), if_neg (by decide), if_pos (show ([] : List Pair).length = 0 from rfl)]
theorem buildM_some {l : List Pair} (h : ¬ 4096 < l.length) (h2 : pairsOk l = true) (h3 : l.length ≠ 0) : buildM l = ((mapR l).1.2.1, keptP [] (mapR l).2, 0) := by unfold buildM; rw [if_neg h, if_neg (by rw [h2]; simp), if_neg h3]
theorem own_one_obj (w : World) (o : Pair) (B : Nat) (hB : B ≤ w.heap.size) : Rw B (w.alloc (.cells #[.string (strB o.1), .string (strB o.2)] 73)) 73 2 pairC (.slice (some ⟨w.heap.size, 0, none⟩) 1 1) [o] :=
  ⟨rfl, .inr ⟨w.heap.size, 1, #[.string (strB o.1), .string (strB o.2)], rfl, hB, heap_last w _ _ rfl, Nat.le_refl _, by unfold maxLen; omega, rfl, rfl⟩⟩
set_option maxRecDepth 40000 in
set_option maxHeartbeats 3200000 in
theorem build12_any (w : World) (l : List Pair) (v : Value) (hv : Ls w.heap.size w 2 pairC v l) :
    Calls Try.prog 18 #[v] w fun e w' => ∃ u, e = .returned (.tuple #[.string (strB (buildM l).1), u, .int .i64 (buildM l).2.2]) ∧ Rw w.heap.size w' 73 2 pairC u (buildM l).2.1 ∧ Below w.heap.size w w' := by
  have HV := hide hv
  obtain ⟨ao, cap, rfl, hcap, hcap2, -⟩ := hv
  unfold maxLen at hcap2
  obtain ⟨m, hm⟩ : ∃ m, m = l.length := ⟨_, rfl⟩
  rw [← hm] at hcap ⊢
  have HM := hide hm
  have HV2 : Hid (Ls w.heap.size w 2 pairC (.slice ao m cap) l) := hide (by rw [hm]; exact HV.out)
  clear HV
  obtain ⟨R, hR⟩ : ∃ R, R = buildM l := ⟨_, rfl⟩
  rw [← hR]
  have HR := hide hR
  clear hR hm
  by_cases h1 : 4096 < m
  · have hgt : decide ((4096 : Int) < (m : Int)) = true := decide_eq_true (by omega)
    have hb := buildM_many (l := l) (by rw [← HM.out]; exact h1)
    go_enter Try.func18, Try.ntmps18
    go_wp2
    go_ret3
    rw [HR.out, hb]
    exact ⟨_, rfl, World.ownsRow_nil _ _ _ _, Below.refl _ _⟩
  have hgt : decide ((4096 : Int) < (m : Int)) = false := decide_eq_false (by omega)
  have hri := right12_any w l _ HV2.out
  cases hpk : pairsOk l with
  | false =>
    have hb := buildM_form (l := l) (by rw [← HM.out]; exact h1) hpk
    rw [hpk] at hri
    clear hpk
    go_enter Try.func18, Try.ntmps18
    go_wp2_with fail
    refine hri.mono ?_
    rintro e w1 ⟨rfl, hb1⟩
    clear hri
    go_wp2
    go_ret3
    rw [HR.out, hb]
    exact ⟨_, rfl, World.ownsRow_nil _ _ _ _, hb1⟩
  | true =>
    rw [hpk] at hri
    by_cases h0 : m = 0
    · have hl0 : l = [] := List.length_eq_zero_iff.1 (by rw [← HM.out]; exact h0)
      have hb : R = ((leafO []).1, [leafO []], 0) := by rw [HR.out, hl0, buildM_nil]
      have hz : ((m : Int) == 0) = true := by simp; omega
      have hlf := fun W : World => rleaf_any W [] (.slice none 0 0) (Ls.nil _ _ _ _)
      rw [show leafOk ltB [] = true from rfl] at hlf
      unfold made at hlf
      simp only [if_true] at hlf
      simp only [objV_def] at hlf
      obtain ⟨fb, hfb⟩ : ∃ fb, fb = leafB [] := ⟨_, rfl⟩
      rw [← hfb] at hlf
      obtain ⟨sc, hsc⟩ : ∃ sc, sc = sha (76 :: fb) := ⟨_, rfl⟩
      rw [← hsc] at hlf
      have hb2 : R = (sc, [(sc, 76 :: fb)], 0) := by rw [hb]; unfold leafO; rw [← hfb, ← hsc]
      have HR2 := hide hb2
      clear hb hb2 hsc hfb hpk hl0 h0
      go_enter Try.func18, Try.ntmps18
      go_wp2_with fail
      refine hri.mono ?_
      rintro e w1 ⟨rfl, hb1⟩
      clear hri
      go_wp2_with fail
      refine (hlf w1).mono ?_
      rintro e w2 ⟨rfl, hb2⟩
      have hB2 := hb1.trans (hb2.mono hb1.size)
      have hb3 : Below w2.heap.size w2 (w2.alloc (.cells #[.string (strB sc), .string (strB (76 :: fb))] 73)) := (Below.refl _ _).alloc (Nat.le_refl _) _
      have hx3 := heap_last w2 (.cells #[.string (strB sc), .string (strB (76 :: fb))] 73) _ rfl
      have hB3 := hB2.trans (hb3.mono hB2.size)
      generalize hw3 : w2.alloc (.cells #[.string (strB sc), .string (strB (76 :: fb))] 73) = w3 at *
      have x0 := cell_of_row w3 w2.heap.size 0 _ _ _ hx3
      have x1 := cell_of_row w3 w2.heap.size 1 _ _ _ hx3
      have hxA := (heap_past w3 (.cells #[.string (strB sc), .string (strB (76 :: fb))] 73) _ (lt_of_heap hx3)).trans hx3
      have xA := cell_of_row _ w2.heap.size 0 _ _ _ hxA
      have xB := cell_of_row _ w2.heap.size 1 _ _ _ hxA
      simp only [List.getElem?_toArray, List.getElem?_cons_zero, List.getElem?_cons_succ] at x0 x1 xA xB
      have hrow := own_one_obj w3 (sc, 76 :: fb) w.heap.size hB3.size
      have H4 := hide (And.intro hrow (hB3.alloc hB3.size (.cells #[.string (strB sc), .string (strB (76 :: fb))] 73)))
      clear hlf hb1 hb2 hb3 hx3 hB2 hB3 hxA hrow
      go_wp2_with fail
      try rw [hw3]
      refine wp_region_held_drew (S := fun W => W.cell? ⟨w2.heap.size, 0, none⟩ = some (.string (strB sc)) ∧ W.cell? ⟨w2.heap.size, 1, none⟩ = some (.string (strB (76 :: fb)))) (by kernel_rfl) (⟨x0, x1⟩) (fun hHeld => ?_)
      refine takeK 0 hHeld ?_
      refine takeK 1 hHeld ?_
      refine takeK 2 hHeld ?_
      refine takeK 4 hHeld ?_
      refine onlyH (i := 3) rfl (by kernel_rfl) rfl (fun K hK => ?_)
      go_simp
      refine hK.out _ _ (⟨xA, xB⟩) (fun hHeld => ?_)
      clear hK K
      try simp only [Act.put, List.setIfInBounds_toArray, List.set_cons_zero, List.set_cons_succ]
      refine takeK 5 hHeld ?_
      refine takeK 6 hHeld ?_
      refine wpAnyH_done (by kernel_rfl) ?_ _
      clear hHeld
      go_wp2
      go_ret3
      rw [HR2.out]
      exact ⟨_, rfl, H4.out.1, H4.out.2.drew⟩
    · have hz : ((m : Int) == 0) = false := by rw [beq_eq_false_iff_ne]; omega
      have hlen : l.length ≤ 4096 := by rw [← HM.out]; omega
      have hl0 : l.length ≠ 0 := by rw [← HM.out]; exact h0
      have hne : l ≠ [] := by rintro rfl; simp at hl0
      have hb := buildM_some (l := l) (by omega) hpk hl0
      have hR2 := HR.out.trans hb
      have hlv0 := leaves_ok hpk hlen hl0
      have hle := fun (W : World) (hW : Below w.heap.size w W) => leaves_any W l _ ((HV2.out.keep hW).up hW.size) hpk hlen hne
      have HR2 := hide (And.intro hR2 hlv0)
      have HLE := hide hle
      clear hb hR2 hlv0 hle hne hl0 hlen hpk
      go_enter Try.func18, Try.ntmps18
      go_wp2_with fail
      refine hri.mono ?_
      rintro e w1 ⟨rfl, hb1⟩
      have hle := HLE.out w1 hb1
      clear hri
      go_wp2_with fail
      refine hle.mono ?_
      rintro e w2 ⟨vp, vo, rfl, hrp, hro, hb2⟩
      have HS := hide (And.intro (own_low hrp hb1.size) (And.intro (own_low hro hb1.size) (hb1.trans (hb2.mono hb1.size))))
      obtain ⟨pa, pm, pc, rfl⟩ := row_form hrp
      obtain ⟨oa, om, oc, rfl⟩ := row_form hro
      clear hle hrp hro hb1 hb2
      go_wp2_with fail
      go_loopw [8, 9, 10] (fun vp vo u wr => ∃ (j : Nat) (ks : List Link) (raw : List Pair) (lv : Int), u = .int .i64 lv ∧ lv = ((j + 1 : Nat) : Int) ∧ LevOk j ks raw ∧ mapR l = riseL (13 - j) (j + 1) ks raw ∧ Rw w.heap.size wr 81 3 linkC vp ks ∧ Rw w.heap.size wr 73 2 pairC vo raw ∧ Below w.heap.size w wr)
        (fun _ _ u _ => 20 - (intOf u).toNat)
      case atStart => exact ⟨0, _, _, 1, rfl, rfl, HR2.out.2, rfl, HS.out.1, HS.out.2.1, HS.out.2.2⟩
      case round =>
        obtain ⟨j, ks, raw, lv, rfl, hlv, hlev, hfp, hrp, hro, hbr⟩ := hrel
        obtain ⟨ap, cp, rfl, hcp, hcp2⟩ := own_form hrp
        have q2 := hlev.few
        have q6 := hlev.objs
        have q1 := hlev.pos
        by_cases hlt2 : 1 < ks.length
        · have hj : j < 13 := by
            rcases Nat.lt_or_ge j 13 with h | h
            · exact h
            · rw [show 13 - j = 0 from by omega] at q2
              simp at q2
              omega
          have hab := above12_any wr j ks raw _ ((ls_of_own linkC_length hrp).up (Nat.le_refl _)) hlev hj
          rw [← hlv] at hab
          have hnx := hlev.next hlt2
          rw [← hlv] at hnx
          have hfn : mapR l = riseL (13 - (j + 1)) (j + 1 + 1) ((brG (j + 1) ks).map (brK lv)) (raw ++ (brG (j + 1) ks).map (brO lv)) := by
            rw [hfp, show 13 - j = (13 - (j + 1)) + 1 from by omega, riseL, if_pos hlt2, hlv]
          have hg1 : 1 ≤ (brG (j + 1) ks).length := by have := hnx.pos; rwa [List.length_map] at this
          have hgo := hnx.objs
          rw [List.length_append, List.length_map] at hgo
          have HN := hide (And.intro hnx (And.intro hfn (And.intro hro (And.intro hbr hlv))))
          obtain ⟨oa2, om2, oc2, rfl⟩ := row_form hro
          have hlvb : 1 ≤ lv ∧ lv ≤ 13 := by omega
          obtain ⟨nn, hnn⟩ : ∃ nn, nn = ks.length := ⟨_, rfl⟩
          rw [← hnn] at hab hcp hlt2 ⊢
          have hnn9 : nn ≤ 100000 := by omega
          have hsw := hbr.size
          clear hnx hfn hrp hro hbr hfp hlev q1 q2 q6 hlv hnn hcp2
          go_wp2_with fail
          refine hab.mono ?_
          rintro e w8 ⟨vp8, vo8, rfl, hp8, ho8, hb8⟩
          have hro8 := own_below HN.out.2.2.1 hb8
          have hB8 := HN.out.2.2.2.1.trans (hb8.mono HN.out.2.2.2.1.size)
          obtain ⟨vo9, w9, run9, row9, hb9, gr9⟩ := app_objs w8 w.heap.size _ _ _ _ _ hro8 ho8 (by rw [List.length_map]; exact hg1) hB8.size (by rw [List.length_map]; omega)
          have hp9 := grow_other hp8 hro8 gr9 (own_ne hp8 hro8 (by decide))
          have R9 := hide run9
          have H9 := hide (And.intro (own_low hp9 hsw) (And.intro row9 (hB8.trans hb9)))
          obtain ⟨pa8, pm8, pc8, rfl⟩ := row_form hp8
          obtain ⟨oa8, om8, oc8, rfl⟩ := row_form ho8
          obtain ⟨oa9, om9, oc9, rfl⟩ := row_form row9
          clear hab hp8 ho8 hb8 hro8 hB8 run9 row9 hb9 gr9 hp9
          go_wp2_with (at_builtin; refine wpList_plain rfl (fun K hK => wp_append_run (.tmp 46) (.tmp 47) 22 rfl rfl rfl R9.out (hK _ _ ?_)))
          go_wp2
          go_roundw
          case rel => exact ⟨j + 1, _, _, lv + 1, rfl, by have := HN.out.2.2.2.2; omega, HN.out.1, HN.out.2.1, H9.out.1, H9.out.2.1, H9.out.2.2⟩
          case measure => simp [intOf]; omega
        · have h1 : ks.length = 1 := by omega
          have hone := riseL_one (n := 13 - j) (level := j + 1) (raw := raw) hlt2
          have hls := ls_of_own linkC_length hrp
          obtain ⟨ap', cp', he1, -, -, hc⟩ := hls
          obtain ⟨pb, poff, rfl, hpb, hpc⟩ := hc (by rintro rfl; simp at h1)
          injection he1 with he1 _ he2
          subst he1 he2
          have hhd : ks.headD ([], [], 0) = ks[0] := by
            rcases ks with _ | ⟨a, t⟩
            · simp at h1
            · rfl
          rw [hhd] at hone
          have p1 := hpc 0 (by omega) 1 _ rfl
          have hfin : R = (ks[0].2.1, keptP [] raw, 0) := by rw [HR2.out.1, hfp, hone]
          generalize ks[0] = pt at *
          simp only [Nat.zero_mul, Nat.add_zero] at p1
          have hkp := kept_any wr.drew raw _ ((ls_of_own pairC_length (show wr.drew.ownsRow _ _ _ _ _ _ from hro)).up (Nat.le_refl _)) (by omega)
          have HX := hide (And.intro hfin hbr)
          have hpl := hpb
          obtain ⟨oa2, om2, oc2, rfl⟩ := row_form hro
          rw [h1] at hcp ⊢
          clear hone hhd hfp hfin hlev q1 q2 q6 hrp hro hbr hpc hc h1 hlt2
          go_wp2_with fail
          refine wp_region_held_drew (S := fun W => W.cell? ⟨pb, poff + 1, none⟩ = some (.string (strB pt.2.1))) (by kernel_rfl) (p1) (fun hHeld => ?_)
          refine takeK 0 hHeld ?_
          refine takeK 1 hHeld ?_
          refine takeK 2 hHeld ?_
          refine takeK 3 hHeld ?_
          refine takeK 4 hHeld ?_
          refine onlyH (i := 5) rfl (by kernel_rfl) rfl (fun K hK => ?_)
          go_simp
          refine hkp.mono ?_
          rintro e w8 ⟨vk, rfl, hrk, hb8⟩
          have hbw8 : Below wr.heap.size wr w8 := (Below.refl wr.heap.size wr).drew.trans hb8
          have c1 := (hbw8.cell (p := ⟨pb, poff + 1, none⟩) hpl).trans p1
          have HB8 := hide (And.intro (HX.out.2.trans (hbw8.mono HX.out.2.size)) (own_low hrk (show w.heap.size ≤ wr.drew.heap.size from HX.out.2.size)))
          obtain ⟨ka, km, kc, rfl⟩ := row_form hrk
          clear hkp hb8 hbw8 hrk
          refine hK.out _ _ (c1) (fun hHeld => ?_)
          clear hK K
          try simp only [Act.put, List.setIfInBounds_toArray, List.set_cons_zero, List.set_cons_succ]
          refine takeK 6 hHeld ?_
          refine takeK 7 hHeld ?_
          refine takeK 8 hHeld ?_
          refine wpAnyH_done (by kernel_rfl) ?_ _
          clear hHeld
          go_wp2
          go_ret3
          rw [HX.out.1]
          exact ⟨_, rfl, HB8.out.2, HB8.out.1⟩
end Go.Proofs.Ytldfjpgcemfpjaa
