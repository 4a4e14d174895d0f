/-
  A map's leaves, by the reference. Conditions: the pairs lie there, and are right.
-/
import Derived.Test.YtldfjpgcemfpjaaM31PRAbove
namespace Go.Proofs.Ytldfjpgcemfpjaa
open Go.RowKit

set_option maxRecDepth 40000 in
set_option maxHeartbeats 3200000 in
theorem leaves_any (w : World) (l : List Pair) (v : Value) (hv : Ls w.heap.size w 2 pairC v l) (hok : pairsOk l = true) (hn : l.length ≤ 4096) (hne : l ≠ []) :
    Calls Try.prog 31 #[v] w fun e w' => ∃ vp vo, e = .returned (.tuple #[vp, vo]) ∧ Rw w.heap.size w' 81 3 linkC vp ((leafG l).map leafK) ∧ Rw w.heap.size w' 73 2 pairC vo ((leafG l).map leafO) ∧ Below w.heap.size w w' := by
  have HV := hide hv
  obtain ⟨ao, cap, rfl, hcap, hcap2, h4⟩ := hv
  obtain ⟨b, off, rfl, hbB, hcell⟩ := h4 hne
  unfold maxLen at hcap2
  obtain ⟨m, hm⟩ : ∃ m, m = l.length := ⟨_, rfl⟩
  have HC := hide hcell
  have HI := hide (And.intro hok (Gat.start (fun n (p : Pair) => ends12 n p.1 0) l))
  rw [← hm] at hcap hn ⊢
  have HM := hide hm
  clear hm hok hcell h4 hne
  go_enter Try.func31, Try.ntmps31
  go_wp2_with fail
  go_loopw [4, 5, 6, 7] (fun vp vo t u wr => ∃ (i fr : Nat) (done : List (List Pair)) (cur rest : List Pair), i ≤ m ∧ u = .int .i64 i ∧ t = .int .i64 fr ∧ fr = done.flatten.length ∧ i = fr + cur.length ∧ Gat (fun n (p : Pair) => ends12 n p.1 0) l done cur rest ∧ Rw w.heap.size wr 81 3 linkC vp (done.map leafK) ∧ Rw w.heap.size wr 73 2 pairC vo (done.map leafO) ∧ Below w.heap.size w wr)
    (fun _ _ _ u _ => m - (intOf u).toNat)
  case atStart => exact ⟨0, 0, [], [], l, by omega, rfl, rfl, rfl, rfl, HI.out.2, World.ownsRow_nil _ _ _ _, World.ownsRow_nil _ _ _ _, Below.refl _ _⟩
  case round =>
    obtain ⟨i, fr, done, cur, rest, him, rfl, rfl, hfr, hie, hG, hrp, hro, hbw⟩ := hrel
    have hrest := hG.rest (i := i) (by rw [← hfr]; exact hie)
    by_cases hlt : i < m
    · have hlt2 : i < l.length := by have := HM.out; omega
      have hcons : l.drop i = l[i] :: l.drop (i + 1) := List.drop_eq_getElem_cons hlt2
      obtain ⟨x, hx⟩ : ∃ x, x = l[i] := ⟨_, rfl⟩
      obtain ⟨r, hr⟩ : ∃ r, r = l.drop (i + 1) := ⟨_, rfl⟩
      rw [← hx, ← hr] at hcons
      have hrl : r.length = m - (i + 1) := by rw [hr, List.length_drop, ← HM.out]
      rw [hrest, hcons] at hG
      have hxo : pairOk x = true := by
        have := HI.out.1
        unfold pairsOk at this
        simp only [Bool.and_eq_true, List.all_eq_true] at this
        exact this.1 x (by rw [hx]; exact List.getElem_mem hlt2)
      have hxk : x.1.length ≤ 64 := by
        unfold pairOk isKeyB at hxo
        simp only [Bool.and_eq_true, decide_eq_true_eq] at hxo
        omega
      have hfew := hG.few
      have cellk : ∀ W : World, Below w.heap.size w W → W.cell? ⟨b, off + i * 2, none⟩ = some (.string (strB x.1)) := fun W hW => by
        have e0 := (hW.cell (p := ⟨b, off + i * 2 + 0, none⟩) hbB).trans (HC.out i hlt2 0 _ rfl)
        simp only [Nat.add_zero] at e0
        rw [← hx] at e0
        exact e0
      have k0 := cellk wr hbw
      obtain ⟨nk, hnk⟩ : ∃ nk, nk = cur.length + 1 := ⟨_, rfl⟩
      have hsub : (i : Int) + 1 - (fr : Int) = (nk : Int) := by omega
      have hsmall := hG.small
      have hnk2 : nk ≤ 64 := by omega
      have hpart : (l.take (i + 1)).drop fr = cur ++ [x] := by
        have e : l = done.flatten ++ ((cur ++ [x]) ++ r) := by rw [hG.all]; simp
        have e2 : i + 1 = (done.flatten ++ (cur ++ [x])).length := by simp only [List.length_append, List.length_singleton]; omega
        rw [e, ← List.append_assoc, e2, List.take_left, hfr, List.drop_left]
      have hen := rends12_any wr nk x.1 0 (by omega) (by omega) (by omega)
      rw [show ((0 : Nat) : Int) = 0 from rfl] at hen
      obtain ⟨en, hen0⟩ : ∃ en, ends12 nk x.1 0 = en := ⟨_, rfl⟩
      rw [hen0] at hen
      have HG := hide (And.intro hG (And.intro hie (And.intro hrl (And.intro hfew (And.intro hnk hfr)))))
      have HEN := hide hen0
      have CK := hide cellk
      have HP := hide hpart
      have HR := hide (And.intro hrp (And.intro hro hbw))
      have hfi : fr ≤ i := by omega
      obtain ⟨pa0, pm0, pc0, rfl⟩ := row_form hrp
      obtain ⟨oa0, om0, oc0, rfl⟩ := row_form hro
      clear hrest hcons hG hie hrl hfew hnk hen0 cellk hpart hrp hro hbw hx hr hxo hsmall hfr
      go_wp2_with fail
      refine hen.mono ?_
      rintro e w3 ⟨rfl, hb3⟩
      have hB3 := HR.out.2.2.trans (hb3.mono HR.out.2.2.size)
      have H3 := hide (And.intro (own_below HR.out.1 hb3) (And.intro (own_below HR.out.2.1 hb3) hB3))
      have hE : ends12 (cur.length + 1) x.1 0 = en := by rw [← HG.out.2.2.2.2.1]; exact HEN.out
      have hrl := HG.out.2.2.1
      clear hen hb3 hB3 k0
      by_cases hc : en = true ∨ r = []
      · have hcl := HG.out.1.close (by rw [hE]; exact hc)
        have hin : cur ++ [x] ∈ leafG l := by
          have := hcl.grp
          show cur ++ [x] ∈ gath _ [] l
          rw [this]
          simp
        obtain ⟨o1, o2, o3⟩ := leaf_group HI.out.1 hin
        have hlast : r = [] → ((i : Int) == (m : Int) - 1) = true := fun e => by rw [e] at hrl; simp at hrl; simp; omega
        have hls : Ls w3.heap.size w3 2 pairC (.slice (some ⟨b, off + fr * 2, none⟩) (i + 1 - fr) (cap - fr)) (cur ++ [x]) := by
          have h1 := ((HV.out.keep H3.out.2.2).up H3.out.2.2.size)
          have := h1.part (a := fr) (z := i + 1) (by omega) (by have := HM.out; omega)
          rwa [HP.out] at this
        have hlf := rleaf_any w3 (cur ++ [x]) _ hls
        rw [o2] at hlf
        unfold made at hlf
        simp only [if_true] at hlf
        rw [objV_def] at hlf
        obtain ⟨fb, hfb⟩ : ∃ fb, fb = leafB (cur ++ [x]) := ⟨_, rfl⟩
        rw [← hfb] at hlf
        obtain ⟨sc, hsc⟩ : ∃ sc, sc = sha (76 :: fb) := ⟨_, rfl⟩
        rw [← hsc] at hlf
        have HSC := hide (And.intro hsc hfb)
        have HCL := hide hcl
        have HLA := hide hlast
        have hcf : ¬ cap = fr := by omega
        clear hcl hsc hfb hlast hE hrl hin o1 o2 o3 hls
        have hc2 : en = true ∨ (en = false ∧ r = []) := by
          cases en
          · exact .inr ⟨rfl, by simpa using hc⟩
          · exact .inl rfl
        clear hc
        rcases hc2 with hc | ⟨hc, hr⟩
        all_goals
          subst hc
          try (have hla := HLA.out hr; clear hr)
          go_wp2_with fail
          refine hlf.mono ?_
          rintro e w4 ⟨rfl, hb4⟩
          have hB4 := H3.out.2.2.trans (hb4.mono H3.out.2.2.size)
          have hb5 : Below w4.heap.size w4 (w4.alloc (.cells #[.string (strB sc), .string (strB (76 :: fb))] 73)) := (Below.refl _ _).alloc (Nat.le_refl _) _
          have hx5 := heap_last w4 (.cells #[.string (strB sc), .string (strB (76 :: fb))] 73) _ rfl
          have hB5 := hB4.trans (hb5.mono hB4.size)
          generalize hw5 : w4.alloc (.cells #[.string (strB sc), .string (strB (76 :: fb))] 73) = w5 at *
          have hrp5 := own_below (own_below H3.out.1 hb4) hb5
          have hro5 := own_below (own_below H3.out.2.1 hb4) hb5
          obtain ⟨vp', w6, vo', w7, run6, hx6, hb6, run7, hp7, ho7, hb7, -⟩ := add_both hrp5 hro5 (x.1, (sc, (nk : Int))) (sc, 76 :: fb) w4.heap.size hx5 hB5.size (by have := HG.out.2.2.2.1; rw [List.length_map]; have := HM.out; omega) (by have := HG.out.2.2.2.1; rw [List.length_map]; have := HM.out; omega)
          have x0 := cell_of_row w5 w4.heap.size 0 _ _ _ hx5
          have hxA := (heap_past w5 (.cells #[.string (strB x.1), .string (strB sc), .int .i64 (nk : Int)] 81) _ (lt_of_heap hx5)).trans hx5
          have xA := cell_of_row _ w4.heap.size 0 _ _ _ hxA
          have z0 := cell_of_row w6 w4.heap.size 0 _ _ _ hx6
          have z1 := cell_of_row w6 w4.heap.size 1 _ _ _ hx6
          simp only [List.getElem?_toArray, List.getElem?_cons_zero, List.getElem?_cons_succ] at x0 xA z0 z1
          have y5 := CK.out w5 hB5
          have yA := CK.out _ (hB5.alloc hB5.size (.cells #[.string (strB x.1), .string (strB sc), .int .i64 (nk : Int)] 81))
          have y6 := CK.out w6 (hB5.trans hb6)
          have hwn : IntKind.i64.wrap (nk : Int) = (nk : Int) := by rw [IntKind.wrap_i64]; omega
          have hwi : IntKind.i64.wrap ((i : Int) + 1) = (i : Int) + 1 := by rw [IntKind.wrap_i64]; omega
          have R6 := hide run6
          have R7 := hide run7
          have H7 := hide (And.intro hp7 (And.intro ho7 (hB5.trans hb7)))
          obtain ⟨pa, pm, pc, rfl⟩ := row_form hp7
          obtain ⟨oa, om, oc, rfl⟩ := row_form ho7
          clear hlf hb4 hB4 hb5 hx5 hrp5 hro5 hB5 run6 run7 hx6 hp7 ho7 hb7 hb6 hxA
          go_wp2_with fail
          refine wp_region_held_drew (S := fun W => W.cell? ⟨w4.heap.size, 0, none⟩ = some (.string (strB sc)) ∧ W.cell? ⟨b, off + i * 2, none⟩ = some (.string (strB x.1))) (by kernel_rfl) (⟨x0, y5⟩) (fun hHeld => ?_)
          refine takeK 0 hHeld ?_
          refine takeK 1 hHeld ?_
          refine takeK 2 hHeld ?_
          refine takeK 3 hHeld ?_
          refine takeK 4 hHeld ?_
          refine takeK 5 hHeld ?_
          refine takeK 6 hHeld ?_
          refine takeK 7 hHeld ?_
          refine takeK 8 hHeld ?_
          refine takeK 9 hHeld ?_
          refine takeK 10 hHeld ?_
          refine takeK 11 hHeld ?_
          refine takeK 12 hHeld ?_
          refine onlyH (i := 13) rfl (by kernel_rfl) rfl (fun K hK => ?_)
          go_simp
          refine hK.out _ _ (⟨xA, yA⟩) (fun hHeld => ?_)
          clear hK K
          try simp only [Act.put, List.setIfInBounds_toArray, List.set_cons_zero, List.set_cons_succ]
          refine onlyH (i := 14) rfl (by kernel_rfl) rfl (fun K hK => ?_)
          refine wp_append_run (.tmp 44) (.tmp 57) 76 rfl rfl rfl R6.out ?_
          refine hK.out _ _ (⟨z0, y6⟩) (fun hHeld => ?_)
          clear hK K
          try simp only [Act.put, List.setIfInBounds_toArray, List.set_cons_zero, List.set_cons_succ]
          refine takeK 15 hHeld ?_
          refine wpAnyH_done (by kernel_rfl) ?_ _
          clear hHeld x0 xA y5 yA
          go_wp2_with (at_builtin; refine wpList_plain rfl (fun K hK => wp_append_run (.tmp 59) (.tmp 61) 22 rfl rfl rfl R7.out (hK _ _ ?_)))
          go_wp2
          go_roundw
          case rel =>
            have q1 := HG.out.2.1
            have q2 := HG.out.2.2.2.2.1
            have q3 := HG.out.2.2.2.2.2
            refine ⟨i + 1, i + 1, done ++ [cur ++ [x]], [], r, by omega, by go_num, by go_num, ?_, by simp, HCL.out, ?_, ?_, H7.out.2.2⟩
            · simp only [List.flatten_append, List.flatten_singleton, List.length_append, List.length_singleton]
              omega
            · have e1 : (done ++ [cur ++ [x]]).map leafK = done.map leafK ++ [(x.1, (sc, (nk : Int)))] := by
                rw [List.map_append]
                have e3 : lastP (cur ++ [x]) = x.1 := by simp [lastP]
                have e4 : ((cur ++ [x]).length : Int) = (nk : Int) := by simp; omega
                unfold leafK leafO
                rw [List.map_singleton, e3, e4, HSC.out.1, HSC.out.2]
              rw [e1]
              exact H7.out.1
            · have e2 : (done ++ [cur ++ [x]]).map leafO = done.map leafO ++ [(sc, 76 :: fb)] := by rw [List.map_append]; unfold leafO; rw [HSC.out.1, HSC.out.2]; rfl
              rw [e2]
              exact H7.out.2.1
          case measure => simp [intOf]; omega
      · have hen2 : en = false := by cases en with
          | false => rfl
          | true => exact absurd (.inl rfl) hc
        have hnx := HG.out.1.next (fun y => ends12_64 y.1 0) (by rw [hE]; exact hc)
        have hrn : 1 ≤ r.length := by
          rcases r with _ | ⟨a, t⟩
          · exact absurd (.inr rfl) hc
          · simp
        have hla : ((i : Int) == (m : Int) - 1) = false := by rw [beq_eq_false_iff_ne]; omega
        subst hen2
        have HNX := hide hnx
        clear hnx hc hE hrl hrn
        go_wp2
        go_roundw
        case rel =>
          refine ⟨i + 1, fr, done, cur ++ [x], r, by omega, by go_num, rfl, HG.out.2.2.2.2.2, ?_, HNX.out, H3.out.1, H3.out.2.1, H3.out.2.2⟩
          have := HG.out.2.1
          simp only [List.length_append, List.length_singleton]
          omega
        case measure => simp [intOf]; omega
    · obtain rfl : i = m := by omega
      rw [HM.out, List.drop_length] at hrest
      rw [hrest] at hG
      have hst : leafG l = done := hG.stop
      rw [← hst] at hrp hro
      have HA := hide (And.intro hrp (And.intro hro hbw))
      obtain ⟨pa, pm, pc, rfl⟩ := row_form hrp
      obtain ⟨oa, om, oc, rfl⟩ := row_form hro
      clear hrest hG hst hrp hro hbw hie hfr
      go_wp2
      go_ret2
      exact ⟨_, _, rfl, HA.out.1, HA.out.2.1, HA.out.2.2⟩
end Go.Proofs.Ytldfjpgcemfpjaa
