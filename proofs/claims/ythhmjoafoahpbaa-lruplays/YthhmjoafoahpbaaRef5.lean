/-
  The reference: Put. Conditions: the list lies there; few texts.
-/
import Derived.Test.YthhmjoafoahpbaaRef4
import Derived.Deep.CutBlock
import Derived.Deep.CutRange
namespace Go.Proofs.Ythhmjoafoahpbaa
open Go.RowKit

set_option maxRecDepth 20000 in
set_option maxHeartbeats 2000000 in
theorem rput_any {w : World} {G : Nat → Prop} {r : Nat} {S : Lr} (h : Rf w G r S) (hu : Uniq S.l) (k v : Bs) (hs : Short (k, v)) (hf : S.l.length < 999) (hbud : S.budget ≤ 9223372036854775807) :
    Calls Try.prog 13 #[pt r, .string (strB k), .string (strB v)] w fun e w' => ∃ gv, e = .returned (.tuple #[gv, .int .i64 (S.code k v)]) ∧ Own w' w.heap.size gv (S.went k v) ∧ RAfter w G r (S.put k v) w' := by
  obtain ⟨i0, hi, hz0, hz1, hz2⟩ := info_parts Try.info9
  obtain ⟨lv, h1, h2, h3⟩ := h.lies
  have c1 : w.cell? ⟨r, 1, none⟩ = some (.int .i64 (S.budget : Int)) := cell_of h1 1
  have sk := strB_size k
  have sv := strB_size v
  obtain ⟨m1, m2⟩ := hs
  simp only at m1 m2
  by_cases hw : wt (k, v) ≤ S.budget
  · have hw2 : ¬ ((S.budget : Int) < (k.length : Int) + (v.length : Int)) := by unfold wt at hw; simp only at hw; omega
    have e1 : S.put k v = ⟨S.budget, fit S.budget ((k, v) :: del k S.l)⟩ := by unfold Lr.put; rw [if_pos hw]
    have e2 : S.went k v = gone S.budget ((k, v) :: del k S.l) := by unfold Lr.went; rw [if_pos hw]
    have e3 : S.code k v = 0 := by unfold Lr.code; rw [if_pos hw]
    rw [e1, e2, e3]
    clear e1 e2 e3
    have hfi := find_any h k
    have hdl : (del k S.l).length ≤ S.l.length := List.length_filter_le ..
    -- what out leaves
    have hou : ∀ i : Nat, idx k S.l = (i : Int) → Calls Try.prog 28 #[pt r, .int .i64 (i : Int)] w fun e w' => e = .returned (.tuple #[]) ∧ RAfter w G r ⟨S.budget, del k S.l⟩ w' := fun i hix => by
      rcases seek_split k S.l with hno | ⟨a, vv, bb, hab, ha⟩
      · rw [idx_none hno] at hix
        omega
      · have hix2 : idx k S.l = (a.length : Int) := by rw [hab]; exact idx_mid ha
        obtain rfl : i = a.length := by omega
        have hil : a.length < S.l.length := by rw [hab]; simp
        have hdel : del k S.l = a ++ bb := by
          have := del_mid (p := (k, vv)) (a := a) (b := bb) (by rw [← hab]; exact hu)
          rw [hab]
          exact this
        have hout : S.l.take a.length ++ S.l.drop (a.length + 1) = a ++ bb := by rw [hab]; exact mid_take a bb (k, vv)
        have := out_any h a.length hil
        rw [hout, ← hdel] at this
        exact this
    have hno : idx k S.l < 0 → del k S.l = S.l := fun hix => by
      rcases seek_split k S.l with hno | ⟨a, vv, bb, hab, ha⟩
      · exact del_none hno
      · have hix2 : idx k S.l = (a.length : Int) := by rw [hab]; exact idx_mid ha
        omega
    have HOU := hide hou
    have HNO := hide hno
    have HH := hide h
    clear hou hno h1 h2 h3 h
    unfold pt at hfi ⊢
    generalize hL : (k, v) :: del k S.l = L at *
    go_enter Try.func13, Try.ntmps13
    go_wp2_with fail
    refine hfi.mono ?_
    rintro e w1 ⟨rfl, rfl⟩
    generalize hix : idx k S.l = ix at *
    go_upto_if 26 with fail
    go_cut [8] from 25 to 29 (fun _ wx => RAfter w1 G r ⟨S.budget, del k S.l⟩ wx)
    case first =>
      by_cases h0 : 0 ≤ ix
      · obtain ⟨i, rfl⟩ : ∃ i : Nat, ix = (i : Int) := ⟨ix.toNat, by omega⟩
        have hou := HOU.out i rfl
        unfold pt at hou
        go_wp2_with fail
        refine hou.mono ?_
        rintro e w2 ⟨rfl, hra⟩
        go_wp2
        go_meet
        exact hra
      · have hd := HNO.out (by omega)
        have HD := hide hd
        clear hd
        go_wp2
        go_meet
        rw [HD.out]
        exact RAfter.self HH.out
    case rest =>
      obtain ⟨G2, hr2, hG2, hc2⟩ := hcut
      have hfr := rfirst_any hr2 (k, v) ⟨m1, m2⟩ (by simp only; omega)
      simp only [hL] at hfr
      unfold pt at hfr
      go_wp2_with fail
      refine hfr.mono ?_
      rintro e w3 ⟨rfl, G3, hr3, hG3, hc3⟩
      have hc13 : Chg G w1 w3 := hc2.trans hc3 (fun i hi hg => (hG2 i hg).resolve_right (fun hh => absurd hi (Nat.not_lt.2 hh)))
      have hG13 : ∀ k, G3 k → G k ∨ w1.heap.size ≤ k := fun k hk => by
        rcases hG3 k hk with hh | hh
        · exact hG2 k hh
        · exact Or.inr (Nat.le_trans hc2.size hh)
      have hby := rbytes_any hr3
      unfold pt at hby
      clear hr2 hc2 hc3 hG2 hG3 hfr
      go_wp2_with fail
      refine hby.mono ?_
      rintro e w4 ⟨rfl, hc4⟩
      have hr4 := hr3.quiet hc4
      have hc14 : Chg G w1 w4 := hc13.trans hc4 (fun _ _ h => h.elim)
      clear hr3 hby hc13 hc4
      simp only
      go_wp2_with fail
      go_loopw [9, 10] (fun gv n wr => ∃ (l' : List Tx) (gl : List Bs) (G' : Nat → Prop), Rf wr G' r ⟨S.budget, l'⟩ ∧ n = .int .i64 (tot l' : Int) ∧ fit S.budget l' = fit S.budget L ∧ gl ++ gone S.budget l' = gone S.budget L ∧ Own wr w1.heap.size gv gl ∧ (∀ k, gv.ownBlock = some k → ¬ G' k) ∧ (∀ k, G' k → G k ∨ w1.heap.size ≤ k) ∧ Chg G w1 wr)
        (fun gv _ _ => (gone S.budget L).length - slen gv)
      case atStart => exact ⟨L, [], G3, hr4, rfl, rfl, rfl, World.ownsRow_nil _ _ _ _, (fun k hk => by cases hk), hG13, hc14⟩
      case round =>
        clear hr4 hG13 hc14
        obtain ⟨l', gl, G', hr, rfl, hfit, hgone, hown, hdis, hG', hg⟩ := hrel
        obtain ⟨lv, h1, h2, h3⟩ := hr.lies
        have c1r : wr.cell? ⟨r, 1, none⟩ = some (.int .i64 (S.budget : Int)) := cell_of h1 1
        have htl := hr.tot_le
        have hfw := hr.few
        simp only at htl hfw h2
        obtain ⟨va, vc, rfl⟩ := own_shape hown
        by_cases hle : tot l' ≤ S.budget
        · have hng : ¬ ((S.budget : Int) < ((tot l' : Nat) : Int)) := by omega
          rw [gone_of_le hle, List.append_nil] at hgone
          rw [fit_of_le hle] at hfit
          subst hfit hgone
          have HO := hide hown
          have HR := hide hr
          clear hr h1 h2 h3 hown
          go_wp2
          go_ret2
          exact ⟨_, rfl, HO.out, G', HR.out, hG', hg⟩
        · have hng : ((S.budget : Int) < ((tot l' : Nat) : Int)) := by omega
          have hne : l' ≠ [] := by
            rintro rfl
            simp [tot] at hle
          obtain ⟨la, p, rfl⟩ : ∃ la p, l' = la ++ [p] := ⟨l'.dropLast, l'.getLast hne, (List.dropLast_concat_getLast hne).symm⟩
          have hlt : S.budget < tot (la ++ [p]) := by omega
          rw [gone_last hlt] at hgone
          rw [fit_last hlt] at hfit
          have hgll : gl.length < (gone S.budget L).length := by rw [← hgone]; simp
          have hgL : (gone S.budget L).length ≤ 1000 := by
            rw [← hL]
            simp only [gone, List.length_reverse, List.length_map, List.length_drop, List.length_cons]
            omega
          obtain ⟨ao, cap, rfl⟩ := own_shape h2
          obtain ⟨g, rfl, -, hgl, hcap, hc⟩ := own_pos h2 (by simp)
          have hil : la.length < (la ++ [p]).length := by simp
          have hat : (la ++ [p])[la.length] = p := by simp
          have k1 := hc _ _ (kc_at (la ++ [p]) la.length hil).1
          have k2 := hc _ _ (kc_at (la ++ [p]) la.length hil).2
          rw [hat] at k1 k2
          have c0 := cell_of h1 0
          simp at c0
          have hgA : Chg (fun _ => False) wr (wr.alloc (.cells #[.string (strB p.1), .string (strB p.2)] 62)).drew := ((Chg.refl _ wr).alloc _).drew
          have AL : Hid (∀ b, b < wr.heap.size → ∀ o u, wr.cell? ⟨b, o, none⟩ = some u → (wr.alloc (.cells #[.string ⟨#[]⟩, .string ⟨#[]⟩] 62)).drew.cell? ⟨b, o, none⟩ = some u) := fun b hb o u hu => (World.cell?_of_block ((((Chg.refl (fun _ => False) wr).alloc _).drew).block b hb (fun h => h))).trans hu
          have AL2 : Hid (∀ b, b < wr.heap.size → ∀ o u, wr.cell? ⟨b, o, none⟩ = some u → (wr.alloc (.cells #[.string (strB p.1), .string (strB p.2)] 62)).drew.cell? ⟨b, o, none⟩ = some u) := fun b hb o u hu => (World.cell?_of_block (hgA.block b hb (fun h => h))).trans hu
          have hrl := lt_of_heap h1
          have H1 := hide hgone
          have H2 := hide hfit
          have HO := hide hown
          have HR := hide hr
          have HH1 := hide h1
          have HH2 := hide h2
          clear hgone hfit hown hr h1 h2 hc hat
          generalize tot (la ++ [p]) = TT at *
          generalize hm : la.length = m at *
          have hfm : m ≤ 1000 := by simp at hfw; omega
          have hmm : (m : Int) < (m : Int) + 1 := by omega
          have hwm : IntKind.i64.wrap (m : Int) = (m : Int) := by rw [IntKind.wrap_i64]; omega
          go_wp2_with fail
          refine wp_region_held_drew (S := fun W => W.cell? ⟨r, 0, none⟩ = some (.slice (some ⟨g, 0, none⟩) (m + 1) cap) ∧ W.cell? ⟨g, m * 2, none⟩ = some (.string (strB p.1)) ∧ W.cell? ⟨g, m * 2 + 1, none⟩ = some (.string (strB p.2))) (by kernel_rfl) (⟨c0, k1, k2⟩) (fun hHeld => ?_)
          refine takeH (i := 0) (v := ?_) rfl (by kernel_rfl) (by kernel_rfl) (by kernel_rfl) (fun _ _ _ h => h) rfl ?_ hHeld ?_
          rotate_left
          · intro w hS; (try dsimp only at hS); obtain ⟨hS0, hS1, hS2⟩ := hS; go_simp; first | done | (with_reducible rfl)
          try simp only [Act.put, List.setIfInBounds_toArray, List.set_cons_zero, List.set_cons_succ]
          refine takeH (i := 1) (v := ?_) rfl (by kernel_rfl) (by kernel_rfl) (by kernel_rfl) (fun _ _ _ h => h) rfl ?_ hHeld ?_
          rotate_left
          · intro w hS; (try dsimp only at hS); obtain ⟨hS0, hS1, hS2⟩ := hS; go_simp; first | done | (with_reducible rfl)
          try simp only [Act.put, List.setIfInBounds_toArray, List.set_cons_zero, List.set_cons_succ]
          refine takeH (i := 2) (v := ?_) rfl (by kernel_rfl) (by kernel_rfl) (by kernel_rfl) (fun _ _ _ h => h) rfl ?_ hHeld ?_
          rotate_left
          · intro w hS; (try dsimp only at hS); obtain ⟨hS0, hS1, hS2⟩ := hS; go_simp; first | done | (with_reducible rfl)
          try simp only [Act.put, List.setIfInBounds_toArray, List.set_cons_zero, List.set_cons_succ]
          refine takeH (i := 3) (v := ?_) rfl (by kernel_rfl) (by kernel_rfl) (by kernel_rfl) (fun _ _ _ h => h) rfl ?_ hHeld ?_
          rotate_left
          · intro w hS; (try dsimp only at hS); obtain ⟨hS0, hS1, hS2⟩ := hS; go_simp; first | done | (with_reducible rfl)
          try simp only [Act.put, List.setIfInBounds_toArray, List.set_cons_zero, List.set_cons_succ]
          refine takeH (i := 4) (v := ?_) rfl (by kernel_rfl) (by kernel_rfl) (by kernel_rfl) (fun _ _ _ h => h) rfl ?_ hHeld ?_
          rotate_left
          · intro w hS; (try dsimp only at hS); obtain ⟨hS0, hS1, hS2⟩ := hS; go_simp; first | done | (with_reducible rfl)
          try simp only [Act.put, List.setIfInBounds_toArray, List.set_cons_zero, List.set_cons_succ]
          refine takeH (i := 5) (v := ?_) rfl (by kernel_rfl) (by kernel_rfl) (by kernel_rfl) (fun _ _ _ h => h) rfl ?_ hHeld ?_
          rotate_left
          · intro w hS; (try dsimp only at hS); obtain ⟨hS0, hS1, hS2⟩ := hS; go_simp; first | done | (with_reducible rfl)
          try simp only [Act.put, List.setIfInBounds_toArray, List.set_cons_zero, List.set_cons_succ]
          refine takeH (i := 6) (v := ?_) rfl (by kernel_rfl) (by kernel_rfl) (by kernel_rfl) (fun _ _ _ h => h) rfl ?_ hHeld ?_
          rotate_left
          · intro w hS; (try dsimp only at hS); obtain ⟨hS0, hS1, hS2⟩ := hS; go_simp; first | done | (with_reducible rfl)
          try simp only [Act.put, List.setIfInBounds_toArray, List.set_cons_zero, List.set_cons_succ]
          refine takeH (i := 7) (v := ?_) rfl (by kernel_rfl) (by kernel_rfl) (by kernel_rfl) (fun _ _ _ h => h) rfl ?_ hHeld ?_
          rotate_left
          · intro w hS; (try dsimp only at hS); obtain ⟨hS0, hS1, hS2⟩ := hS; go_simp; first | done | (with_reducible rfl)
          try simp only [Act.put, List.setIfInBounds_toArray, List.set_cons_zero, List.set_cons_succ]
          refine takeH (i := 8) (v := ?_) rfl (by kernel_rfl) (by kernel_rfl) (by kernel_rfl) (fun _ _ _ h => h) rfl ?_ hHeld ?_
          rotate_left
          · intro w hS; (try dsimp only at hS); obtain ⟨hS0, hS1, hS2⟩ := hS; go_simp; first | done | (with_reducible rfl)
          try simp only [Act.put, List.setIfInBounds_toArray, List.set_cons_zero, List.set_cons_succ]
          refine takeH (i := 9) (v := ?_) rfl (by kernel_rfl) (by kernel_rfl) (by kernel_rfl) (fun _ _ _ h => h) rfl ?_ hHeld ?_
          rotate_left
          · intro w hS; (try dsimp only at hS); obtain ⟨hS0, hS1, hS2⟩ := hS; go_simp; first | done | (with_reducible rfl)
          try simp only [Act.put, List.setIfInBounds_toArray, List.set_cons_zero, List.set_cons_succ]
          refine takeH (i := 10) (v := ?_) rfl (by kernel_rfl) (by kernel_rfl) (by kernel_rfl) (fun _ _ _ h => h) rfl ?_ hHeld ?_
          rotate_left
          · intro w hS; (try dsimp only at hS); obtain ⟨hS0, hS1, hS2⟩ := hS; go_simp; first | done | (with_reducible rfl)
          try simp only [Act.put, List.setIfInBounds_toArray, List.set_cons_zero, List.set_cons_succ]
          refine takeH (i := 11) (v := ?_) rfl (by kernel_rfl) (by kernel_rfl) (by kernel_rfl) (fun _ _ _ h => h) rfl ?_ hHeld ?_
          rotate_left
          · intro w hS; (try dsimp only at hS); obtain ⟨hS0, hS1, hS2⟩ := hS; go_simp; first | done | (with_reducible rfl)
          try simp only [Act.put, List.setIfInBounds_toArray, List.set_cons_zero, List.set_cons_succ]
          refine onlyH (i := 12) rfl (by kernel_rfl) rfl (fun K hK => ?_)
          go_simp
          refine hK.out _ _ (⟨AL.out r hrl _ _ c0, AL.out g hgl _ _ k1, AL.out g hgl _ _ k2⟩) (fun hHeld => ?_)
          clear hK K
          try simp only [Act.put, List.setIfInBounds_toArray, List.set_cons_zero, List.set_cons_succ]
          refine onlyH (i := 13) rfl (by kernel_rfl) rfl (fun K hK => ?_)
          go_simp
          refine hK.out _ _ (⟨AL2.out r hrl _ _ c0, AL2.out g hgl _ _ k1, AL2.out g hgl _ _ k2⟩) (fun hHeld => ?_)
          clear hK K
          try simp only [Act.put, List.setIfInBounds_toArray, List.set_cons_zero, List.set_cons_succ]
          refine wpAnyH_done (by kernel_rfl) ?_ _
          clear hHeld
          have xk : (wr.alloc (.cells #[.string (strB p.1), .string (strB p.2)] 62)).drew.cell? ⟨wr.heap.size, 0, none⟩ = some (.string (strB p.1)) := cell_of (w := (wr.alloc (.cells #[.string (strB p.1), .string (strB p.2)] 62)).drew) (heap_last wr _) 0
          have hrA := HR.out.quiet hgA
          have hownA : (wr.alloc (.cells #[.string (strB p.1), .string (strB p.2)] 62)).drew.ownsRow w1.heap.size 9 1 (.slice va gl.length vc) gl.length (tc gl) := own_keep HO.out hgA (fun _ _ h => h)
          have hgGA : Chg G w1 (wr.alloc (.cells #[.string (strB p.1), .string (strB p.2)] 62)).drew := hg.trans hgA (fun _ _ h => h.elim)
          have hszA : wr.heap.size ≤ (wr.alloc (.cells #[.string (strB p.1), .string (strB p.2)] 62)).drew.heap.size := hgA.size
          generalize (wr.alloc (.cells #[.string (strB p.1), .string (strB p.2)] 62)).drew = wA at *
          go_wp2_with (at_builtin; refine wpList_append_own_at _ rfl (.tmp 55) (.tmp 58) 28 rfl w1.heap.size 9 i0 (.string ⟨#[]⟩) 1 16 Try.underlying28 hi hz0 hz1 hz2 rfl (by decide) _ _ _ rfl (hownA.alloc _) ⟨wA.heap.size, 0, none⟩ 1 1 [.string (strB p.1)] rfl rfl (cell_one_new _ _ _) (by simp [Value.oneCell']) (by unfold maxLen; omega) (by omega) (by have := hgGA.size; simp; omega) ?_)
          intro v5 w5 hown5 hgrow5 _ hloc5
          have hdA : ∀ k, G' k → ¬ some k = (Value.slice va gl.length vc).ownBlock := fun k hk e => hdis k e.symm hk
          have hr5 : Rf w5 G' r ⟨S.budget, la ++ [p]⟩ := (hrA.quiet ((Chg.refl (fun _ => False) wA).alloc _)).keep (Chg.of_grown hgrow5) hdA
          have hc5 : Chg (fun k => w1.heap.size ≤ k) wA w5 := grown_chg hownA hgrow5
          have hg5 : Chg G w1 w5 := hgGA.trans hc5 (fun i hi h => absurd hi (Nat.not_lt.2 h))
          have hdis5 : ∀ k, v5.ownBlock = some k → ¬ G' k := fun k hk hgk => by
            rcases hloc5 with hh | hh
            · exact hdis k (by rw [← hh]; exact hk) hgk
            · rw [hh] at hk
              injection hk with hk
              have h8 := hrA.inn k hgk
              have h9 : wA.heap.size ≤ (wA.alloc (.cells #[.string (strB p.1)] 9)).heap.size := ((Chg.refl (fun _ => False) wA).alloc _).size
              omega
          obtain ⟨a5, c5, rfl⟩ := own_shape hown5
          have hown5 : Own w5 w1.heap.size (.slice a5 (gl.length + 1) c5) (gl ++ [p.1]) := by
            unfold Own
            rw [← tc_snoc]
            simpa using hown5
          have hou := out_any hr5 m (by simp; omega)
          have hou2 : (la ++ [p]).take m ++ (la ++ [p]).drop (m + 1) = la := by
            rw [← hm, List.take_left' rfl, List.drop_eq_nil_of_le (by simp), List.append_nil]
          simp only at hou
          rw [hou2] at hou
          unfold pt at hou
          obtain ⟨lv5, j1, j2, j3⟩ := hr5.lies
          obtain ⟨lo5, lc5, rfl⟩ := own_shape j2
          have d0 := cell_of j1 0
          simp at d0
          rw [hm] at d0
          have HO5 := hide hown5
          clear hown5 hgrow5 hownA hrA j1 j2 j3 hou2 hloc5 hc5
          go_wp2_with fail
          refine hou.mono ?_
          rintro e w6 ⟨rfl, G6, hr6, hG6, hc6⟩
          have hby := rbytes_any hr6
          unfold pt at hby
          simp only at hby
          go_wp2_with fail
          refine hby.mono ?_
          rintro e w7 ⟨rfl, hc7⟩
          have hr7 := hr6.quiet hc7
          have hg7 : Chg G w1 w7 := (hg5.trans hc6 (fun i hi hgi => (hG' i hgi).resolve_right (fun hh => absurd hi (Nat.not_lt.2 hh)))).trans hc7 (fun _ _ h => h.elim)
          have hown7 : Own w7 w1.heap.size (.slice a5 (gl.length + 1) c5) (gl ++ [p.1]) := own_keep (own_keep HO5.out hc6 (fun k hk => hdis5 k hk)) hc7 (fun _ _ h => h)
          have hdis7 : ∀ k, (Value.slice a5 (gl.length + 1) c5).ownBlock = some k → ¬ G6 k := fun k hk hgk => by
            rcases hG6 k hgk with hh | hh
            · exact hdis5 k hk hh
            · have := (World.ownsRow.lt HO5.out k hk).2
              omega
          have hG7 : ∀ k, G6 k → G k ∨ w1.heap.size ≤ k := fun k hk => by
            rcases hG6 k hk with hh | hh
            · exact hG' k hh
            · exact Or.inr (Nat.le_trans hg5.size hh)
          go_wp2
          go_roundw
          case rel => exact ⟨la, gl ++ [p.1], G6, hr7, rfl, H2.out, by rw [List.append_assoc]; exact H1.out, hown7, hdis7, hG7, hg7⟩
          case measure => simp [slen]; omega
  · have hw2 : (S.budget : Int) < (k.length : Int) + (v.length : Int) := by unfold wt at hw; simp only at hw; omega
    have e1 : S.put k v = S := by unfold Lr.put; rw [if_neg hw]
    have e2 : S.went k v = [] := by unfold Lr.went; rw [if_neg hw]
    have e3 : S.code k v = 70 := by unfold Lr.code; rw [if_neg hw]
    rw [e1, e2, e3]
    have HH := hide h
    clear h1 h2 h3 e1 e2 e3 h
    unfold pt
    go_enter Try.func13, Try.ntmps13
    go_wp2
    go_ret2
    exact ⟨_, rfl, World.ownsRow_nil _ _ _ _, RAfter.self HH.out⟩
end Go.Proofs.Ythhmjoafoahpbaa
