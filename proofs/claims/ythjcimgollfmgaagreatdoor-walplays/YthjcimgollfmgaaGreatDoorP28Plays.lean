/-
  WalPlays, walked: a log has just the groups that were laid, whatever fails meanwhile. Conditions: what came in lies there; the table holds its numbers.
-/
import Derived.Test.YthjcimgollfmgaaGreatDoorP27Names
import Derived.Deep.CutBlock
import Derived.Deep.CutRange
namespace Go.Proofs.YthjcimgollfmgaaGreatDoor
open Go.RowKit

set_option maxRecDepth 400000 in
set_option maxHeartbeats 16000000 in
theorem plays_any (w : World) (v : Value) (os : List Oq) (keep torn : Int) (hv : Ob w.heap.size w v os) (hs : Small os) (hr64 : ∀ o ∈ os, (-9223372036854775808 ≤ o.n ∧ o.n ≤ 9223372036854775807) ∧ (-9223372036854775808 ≤ o.torn ∧ o.torn ≤ 9223372036854775807)) (hB0 : 0 < w.heap.size) (hT : TabW w) :
    Calls Tryz.prog 3 #[v, .int .i64 keep, .int .i64 torn] w fun e w' => e = .returned (.bool true) ∧ Below w.heap.size w w' := by
  have HO := hide hv
  obtain ⟨la, lc, rfl, l1, l2, -⟩ := hv
  have HT := hide hT
  have hsh := shown_any w hB0 hT
  clear hT
  go_enter Tryz.func3, Tryz.ntmps3
  go_wp2_with fail
  refine hsh.mono ?_
  rintro e w1 ⟨rfl, hb1⟩
  clear hsh
  have hno := none_any w1
  go_wp2_with fail
  refine hno.mono ?_
  rintro e wn ⟨rfl, hcn⟩
  have hb1 := hb1.trans (hcn.below (fun _ h => h.elim) hb1.size)
  clear hno hcn
  have hbg := begun_any w.heap.size wn hB0 hb1.size (HT.out.keep hb1)
  go_wp2_with fail
  refine hbg.mono ?_
  rintro e w2 ⟨X, d, a, F0, rfl, hX, ⟨S0, L0, hLg, hHas, hCalm, hbk, hrm⟩, hFX, hal, haX, hb2⟩
  have hOne : Pw w.heap.size w2 X d a F0 S0 L0 (.slice none 0 0) [] (.slice none 0 0) [] false := ⟨hX, hLg, Rk.nil _, fun h => by have := (hFX _ h).2; omega, by omega, by have := hb1.size; omega, World.ownsRow_nil _ _ _ _, fun k e => by cases e⟩
  have hPi : Pi 0 S0 L0 [] [] false := ⟨hHas, hCalm.1, fun i h => (by rw [hCalm.2 i] at h; cases h), fun _ => hrm, by unfold bd; omega, by rw [l0]; omega, by simp, by simp⟩
  have hb2' : Below w.heap.size w w2 := hb1.trans (hb2.mono hb1.size)
  clear hbg hX hLg hFX hal haX hb2 hb1 hHas hCalm hbk hrm
  go_wp2_with fail
  go_loopw [11] (fun i wr => ∃ (j a : Nat) (F : Nat → Prop) (S : Dk) (La : Lw) (ga : Value) (gsa : List (List (List UInt8))) (f : Value) (ks : List Int) (t : Bool), i = .int .i64 (j : Int) ∧ j ≤ os.length ∧ j ≤ 60 ∧ Pw w.heap.size wr X d a F S La ga gsa f ks t ∧ Pi j S La gsa ks t ∧ Below w.heap.size w wr)
    (fun t _ => 60 - (intOf t).toNat)
  case atStart => exact ⟨0, a, F0, S0, L0, _, [], _, [], false, rfl, by omega, by omega, hOne, hPi, hb2'⟩
  case round =>
    clear hOne hPi hb2'
    obtain ⟨j, a, F, S, La, ga, gsa, f, ks, t, rfl, k1, k2, hO, hA, bb⟩ := hrel
    by_cases hlt : j < os.length ∧ j < 60
    · obtain ⟨k3, k4⟩ := hlt
      obtain ⟨ob, off, rfl, hbB, hop⟩ := Ob.at (HO.out.keep bb) k3
      obtain ⟨hsk, hsr⟩ := hs os[j] (List.getElem_mem k3)
      obtain ⟨hrn, hrt⟩ := hr64 os[j] (List.getElem_mem k3)
      generalize os[j] = o at hop hsk hsr hrn hrt
      obtain ⟨kind, rs, nn, tt⟩ := o
      obtain ⟨e0, ⟨u, e1, hu⟩, e2, e3⟩ := hop
      dsimp only at e0 e1 e2 e3 hu hsk hsr hrn hrt
      have HUU := hide hu
      obtain ⟨va, vc, rfl, v1, v2, -⟩ := hu
      have hgA := alloc_quiet wr (.cells #[.int .i64 kind, .slice va rs.length vc, .int .i64 nn, .int .i64 tt] 29)
      have hqA := heap_last wr (.cells #[.int .i64 kind, .slice va rs.length vc, .int .i64 nn, .int .i64 tt] 29)
      have hOA := hO.quiet hgA
      have hbA : Below w.heap.size w (wr.alloc (.cells #[.int .i64 kind, .slice va rs.length vc, .int .i64 nn, .int .i64 tt] 29)) := bb.trans (hgA.below (fun _ h => h.elim) bb.size)
      have hq0 := hO.since (Nat.le_refl wr.heap.size)
      obtain ⟨q, hq⟩ : ∃ q, q = wr.heap.size := ⟨_, rfl⟩
      have q0' := cell_of hqA 0
      rw [← hq] at hqA hq0
      have hpk := fun W => pick_any W kind 8 hsk (by omega)
      generalize hWA : wr.alloc (.cells #[.int .i64 kind, .slice va rs.length vc, .int .i64 nn, .int .i64 tt] 29) = wA at *
      have hqlt := lt_of_heap hqA
      have q0 : wA.cell? ⟨q, 0, none⟩ = some (.int .i64 kind) := cell_of hqA 0
      have HQ := hide hq
      clear hq hO
      go_wp2_with fail
      refine (hpk _).mono ?_
      rintro e w3 ⟨rfl, hw3⟩
      rw [hw3]
      clear hw3 w3 hpk q0'
      rw [← HQ.out]
      obtain ⟨kd, hkd⟩ : ∃ kd, kd = pk kind 8 := ⟨_, rfl⟩
      rw [← hkd]
      have HKD := hide hkd
      clear hkd
      have q1 : wA.cell? ⟨q, 1, none⟩ = some (.slice va rs.length vc) := cell_of hqA 1
      have q2 : wA.cell? ⟨q, 2, none⟩ = some (.int .i64 nn) := cell_of hqA 2
      have q3 : wA.cell? ⟨q, 3, none⟩ = some (.int .i64 tt) := cell_of hqA 3
      have hwAr : Below w.heap.size wr wA := (show Chg (fun _ => False) wr wA from hgA).below (fun _ h => h.elim) bb.size
      have hnm := isLg_nm nmLog_ok
      have hbd := bd_le k2
      have hAb := hA.bulk
      have hAl := hA.len
      have hAc := hA.cnt
      have hAf := hA.few
      have hbdS : bd (j + 1) = bd j + 7264 * j + 7290 := rfl
      by_cases h5 : kd = 5
      · as_aux_lemma =>
          subst h5
          have hon := hA.lit.on
          have hHas := hA.has
          obtain ⟨-, tl, hOn, -⟩ := hHas
          have hops := ops_lies hOA.la.1
          have x0A : wA.cell? ⟨X, 0, none⟩ = some (.pointer (some ⟨d, 0, none⟩)) := cell_of hOA.wx 0
          have hop := open_may hOA.la.1 hOn hon hbA.size hB0 (HT.out.keep hbA) (by omega)
          have hnb : S.begun.n = S.n + 1 := by rw [begun_n hA.lit]; rfl
          have hbb1 := bulk_begun' S
          have hlit1 : Lit S.begun := (near_begun S).lit hA.lit
          have hfl1 : ∀ i : Nat, S.begun.fails i = true → (i : Int) ∈ ks := fun i h => hA.fl i (by rw [← (alt_begun S).2.1]; exact h)
          have hroom1 : t = false → S.begun.room = 16777216 := fun e => (alt_begun S).2.2.trans (hA.room e)
          have hle12 : ¬ ((12 : Int) < ((S.begun.n : Nat) : Int) - ((S.n : Nat) : Int)) := by rw [hnb]; omega
          have hPi1 : ∀ L1 : Lw, Has nmLog S.begun L1 gsa → Pi (j + 1) S.begun L1 gsa ks t := fun L1 h => ⟨h, hlit1, hfl1, hroom1, by omega, by omega, by omega, by omega⟩
          have HPI := hide hPi1
          clear hPi1 hlit1 hfl1 hroom1 q0 q1 q2 q3
          rcases hop with hop | ⟨hfail, hop⟩
          · go_wp2_with fail
            refine hops.mono ?_
            rintro e w3 ⟨rfl, hw3⟩
            rw [hw3]
            clear hw3 w3
            go_wp2_with fail
            refine hop.mono ?_
            rintro e w4 ⟨l4, v4, F4, b4, rfl, hl4, lg4, hF4, hc4, hG4⟩
            have hX4 := hOA.wx.keep hc4 hOA.XF
            have hrow4 := row_keep hOA.row hc4 (fun k e h => (hOA.rx k e).1 h)
            have hmay := may_any hX4 lg4.1 hrow4 (by omega) (e := 0) (ops := (S.n : Int)) (.inl rfl)
            have hra4 := hOA.ra.keep hc4 (fun k ho h => ho.1.1 h)
            obtain ⟨a4, c4, rfl, -⟩ := hG4.form
            clear hop hops x0A
            go_wp2_with fail
            refine hmay.mono ?_
            rintro e w5 ⟨rfl, hc5⟩
            have hX5 := hX4.keep hc5 (fun h => h)
            have hsm := same_any w5 (.slice a4 gsa.length c4) ga gsa gsa (hG4.rs.quiet hc5) (hra4.rs.quiet hc5)
            rw [decide_eq_true rfl] at hsm
            have x25 : w5.cell? ⟨X, 2, none⟩ = some ga := cell_of hX5 2
            clear hmay hX4 hra4 hrow4 hG4
            go_wp2_with fail
            refine hsm.mono ?_
            rintro e w6 ⟨rfl, hc6⟩
            have hX6 := hX5.keep hc6 (fun h => h)
            have lg6 := (lg4.keep hc5 (fun _ _ h => h) (fun h => h)).keep hc6 (fun _ _ h => h) (fun h => h)
            have x06 : w6.cell? ⟨X, 0, none⟩ = some (.pointer (some ⟨d, 0, none⟩)) := cell_of hX6 0
            have x16 : w6.cell? ⟨X, 1, none⟩ = some (.pointer (some ⟨a, 0, none⟩)) := cell_of hX6 1
            have f16 : w6.frozen? ⟨X, 1, none⟩ = false := thawed hX6 1
            have hops6 := ops_lies lg6.1
            have hc46 : Chg F wA w6 := (hc4.trans hc5 (fun _ _ h => h.elim)).trans hc6 (fun _ _ h => h.elim)
            obtain ⟨hPn, hbn⟩ := hOA.putL hc46 lg6 hl4 hF4
            have HPN := hide hPn
            have HB := hide (hbA.trans hbn)
            have HPI2 := hide (HPI.out _ (hOn.begun.has false))
            clear hsm hX5 x25 hX6 lg6 lg4 hc4 hc5 hc6 hc46 hPn hbn hOA hOn
            generalize S.begun = S1 at *
            go_wp2_with fail
            refine hops6.mono ?_
            rintro e w7 ⟨rfl, hw7⟩
            rw [hw7]
            clear hw7 w7 hops6
            go_wp2
            go_roundw
            case rel => exact ⟨j + 1, l4, F4, S1, _, ga, gsa, f, ks, t, by go_num, by omega, by omega, HPN.out, HPI2.out, HB.out⟩
            case measure => simp [intOf]; omega
          · have hmb := hA.may (ans_fail hfail (show S.n < S.begun.n by omega))
            have HPI2 := hide (HPI.out _ hA.has.begun)
            go_wp2_with fail
            refine hops.mono ?_
            rintro e w3 ⟨rfl, hw3⟩
            rw [hw3]
            clear hw3 w3
            go_wp2_with fail
            refine hop.mono ?_
            rintro e w4 ⟨rfl, haf⟩
            obtain ⟨F4, hP4, hbl, hF4, hc4⟩ := hOA.step (hOA.la.after haf)
            have hmay := may_any hP4.wx hP4.la.1 hP4.row (by omega) hmb
            clear hop hops x0A hF4 hc4 haf
            go_wp2_with fail
            refine hmay.mono ?_
            rintro e w5 ⟨rfl, hc5⟩
            have hP5 := hP4.quiet hc5
            have x05 : w5.cell? ⟨X, 0, none⟩ = some (.pointer (some ⟨d, 0, none⟩)) := cell_of hP5.wx 0
            have hops5 := ops_lies hP5.la.1
            have hb4 := hbA.trans hbl
            have HB := hide (hb4.trans (hc5.below (fun _ h => h.elim) hb4.size))
            have HP5 := hide hP5
            clear hP5 hP4 hmay hmb hOA hc5
            generalize S.begun = S1 at *
            go_wp2_with fail
            refine hops5.mono ?_
            rintro e w7 ⟨rfl, hw7⟩
            rw [hw7]
            clear hw7 w7 hops5
            go_wp2
            go_roundw
            case rel => exact ⟨j + 1, a, F4, S1, La, ga, gsa, f, ks, t, by go_num, by omega, by omega, HP5.out, HPI2.out, HB.out⟩
            case measure => simp [intOf]; omega
      by_cases h6 : kd = 6
      · as_aux_lemma =>
          subst h6
          obtain ⟨i0, hi0, hz0, hz1, hz2⟩ := info_parts Tryz.infoI
          have hPD := hOA.quiet ((Chg.refl (fun _ => False) wA).drew)
          have hbD : Below w.heap.size w wA.drew := hbA.drew
          have hqD : wA.drew.heap[q]? = some (.cells #[.int .i64 kind, .slice va rs.length vc, .int .i64 nn, .int .i64 tt] 29) := hqA
          have hops := ops_lies hPD.la.1
          have x0d : wA.drew.cell? ⟨X, 0, none⟩ = some (.pointer (some ⟨d, 0, none⟩)) := cell_of hOA.wx 0
          have q2d : wA.drew.cell? ⟨q, 2, none⟩ = some (.int .i64 nn) := cell_of hqA 2
          have hpk := fun W => pick_any W nn 12 hrn (by omega)
          have hpk5 := fun W => pick_any W tt 5 hrt (by omega)
          obtain ⟨hp0, hp1⟩ := pk_range (c := tt) (n := 5) (by omega)
          obtain ⟨n0, hn0⟩ : ∃ n0, IntKind.i64.wrap ((S.n : Int) + pk nn 12) = n0 := ⟨_, rfl⟩
          have hqoff : Off2 F a X f q := hq0
          have HA := hide hA
          have HPD := hide hPD
          clear hOA hPD hqA hq0 q0 q1 q2 q3 hA
          go_wp2_with fail
          refine wp_region_held_drew (S := fun W => W.cell? ⟨X, 0, none⟩ = some (.pointer (some ⟨d, 0, none⟩)) ∧ W.cell? ⟨q, 2, none⟩ = some (.int .i64 nn)) (by kernel_rfl) (⟨x0d, q2d⟩) (fun hHeld => ?_)
          refine takeH (i := 0) (v := ?_) rfl (by kernel_rfl) (by kernel_rfl) (by kernel_rfl) (fun _ _ _ h => h) rfl ?_ hHeld ?_
          rotate_left
          · intro w hS; (try dsimp only at hS); obtain ⟨hS0, hS1⟩ := hS; go_simp; first | done | (with_reducible rfl)
          try simp only [Act.put, List.setIfInBounds_toArray, List.set_cons_zero, List.set_cons_succ]
          refine takeH (i := 1) (v := ?_) rfl (by kernel_rfl) (by kernel_rfl) (by kernel_rfl) (fun _ _ _ h => h) rfl ?_ hHeld ?_
          rotate_left
          · intro w hS; (try dsimp only at hS); obtain ⟨hS0, hS1⟩ := hS; go_simp; first | done | (with_reducible rfl)
          try simp only [Act.put, List.setIfInBounds_toArray, List.set_cons_zero, List.set_cons_succ]
          refine takeH (i := 2) (v := ?_) rfl (by kernel_rfl) (by kernel_rfl) (by kernel_rfl) (fun _ _ _ h => h) rfl ?_ hHeld ?_
          rotate_left
          · intro w hS; (try dsimp only at hS); obtain ⟨hS0, hS1⟩ := hS; go_simp; first | done | (with_reducible rfl)
          try simp only [Act.put, List.setIfInBounds_toArray, List.set_cons_zero, List.set_cons_succ]
          refine takeH (i := 3) (v := ?_) rfl (by kernel_rfl) (by kernel_rfl) (by kernel_rfl) (fun _ _ _ h => h) rfl ?_ hHeld ?_
          rotate_left
          · intro w hS; (try dsimp only at hS); obtain ⟨hS0, hS1⟩ := hS; go_simp; first | done | (with_reducible rfl)
          try simp only [Act.put, List.setIfInBounds_toArray, List.set_cons_zero, List.set_cons_succ]
          refine takeH (i := 5) (v := ?_) rfl (by kernel_rfl) (by kernel_rfl) (by kernel_rfl) (fun _ _ _ h => h) rfl ?_ hHeld ?_
          rotate_left
          · intro w hS; (try dsimp only at hS); obtain ⟨hS0, hS1⟩ := hS; go_simp; first | done | (with_reducible rfl)
          try simp only [Act.put, List.setIfInBounds_toArray, List.set_cons_zero, List.set_cons_succ]
          refine takeH (i := 6) (v := ?_) rfl (by kernel_rfl) (by kernel_rfl) (by kernel_rfl) (fun _ _ _ h => h) rfl ?_ hHeld ?_
          rotate_left
          · intro w hS; (try dsimp only at hS); obtain ⟨hS0, hS1⟩ := hS; go_simp; first | done | (with_reducible rfl)
          try simp only [Act.put, List.setIfInBounds_toArray, List.set_cons_zero, List.set_cons_succ]
          refine onlyH (i := 4) rfl (by kernel_rfl) rfl (fun K hK => ?_)
          go_simp
          refine hops.mono ?_
          rintro e w3 ⟨rfl, hw3⟩
          rw [hw3]
          clear hw3 w3
          refine hK.out _ _ (⟨x0d, q2d⟩) (fun hHeld => ?_)
          clear hK K
          try simp only [Act.put, List.setIfInBounds_toArray, List.set_cons_zero, List.set_cons_succ]
          refine onlyH (i := 7) rfl (by kernel_rfl) rfl (fun K hK => ?_)
          go_simp
          refine (hpk _).mono ?_
          rintro e w3 ⟨rfl, hw3⟩
          rw [hw3]
          clear hw3 w3
          refine hK.out _ _ (⟨x0d, q2d⟩) (fun hHeld => ?_)
          clear hK K
          try simp only [Act.put, List.setIfInBounds_toArray, List.set_cons_zero, List.set_cons_succ]
          refine takeH (i := 8) (v := ?_) rfl (by kernel_rfl) (by kernel_rfl) (by kernel_rfl) (fun _ _ _ h => h) rfl ?_ hHeld ?_
          rotate_left
          · intro w hS; (try dsimp only at hS); obtain ⟨hS0, hS1⟩ := hS; go_simp; first | done | (with_reducible rfl)
          try simp only [Act.put, List.setIfInBounds_toArray, List.set_cons_zero, List.set_cons_succ]
          refine takeH (i := 9) (v := ?_) rfl (by kernel_rfl) (by kernel_rfl) (by kernel_rfl) (fun _ _ _ h => h) rfl ?_ hHeld ?_
          rotate_left
          · intro w hS; (try dsimp only at hS); obtain ⟨hS0, hS1⟩ := hS; go_simp; first | done | (with_reducible rfl)
          try simp only [Act.put, List.setIfInBounds_toArray, List.set_cons_zero, List.set_cons_succ]
          refine wpAnyH_done (by kernel_rfl) ?_ _
          clear hHeld hops hpk x0d q2d
          generalize pk tt 5 = p5 at *
          generalize wA.drew = wD at *
          clear hn0
          go_wp2_with fail
          go_loopw [19] (fun i wr => ∃ (k : Nat) (F' : Nat → Prop) (S' : Dk) (f' : Value) (ks' : List Int), i = .int .i64 (k : Int) ∧ k ≤ 5 ∧ Pw w.heap.size wr X d a F' S' La ga gsa f' ks' t ∧ (Has nmLog S' La gsa ∧ Lit S' ∧ (∀ i : Nat, S'.fails i = true → (i : Int) ∈ ks') ∧ (t = false → S'.room = 16777216) ∧ S'.bulk = S.bulk) ∧ ks'.length ≤ ks.length + k ∧ wr.heap[q]? = some (.cells #[.int .i64 kind, .slice va rs.length vc, .int .i64 nn, .int .i64 tt] 29) ∧ Off2 F' a X f' q ∧ Below w.heap.size w wr) (fun i _ => 6 - (intOf i).toNat)
          case atStart => exact ⟨0, F, S, f, ks, rfl, by omega, HPD.out, ⟨HA.out.has, HA.out.lit, HA.out.fl, HA.out.room, rfl⟩, by omega, hqD, hqoff, hbD⟩
          case round =>
            clear HPD HA hqD hqoff hbD
            obtain ⟨k, F', S', f', ks', rfl, hk5, hP, ⟨g1, g2, g3, g4, g5⟩, hkl, hqr, hqo, hbr⟩ := hrel
            have q3r : wr.cell? ⟨q, 3, none⟩ = some (.int .i64 tt) := cell_of hqr 3
            have HG1 := hide g1
            have HG3 := hide g3
            have HG4 := hide g4
            have HG5 := hide g5
            have HKL := hide hkl
            clear g1 g3 g4 g5 hkl
            by_cases hkp : (k : Int) ≤ p5
            · obtain ⟨x, hx⟩ : ∃ x, IntKind.i64.wrap (n0 + (k : Int)) = x := ⟨_, rfl⟩
              have x0r : wr.cell? ⟨X, 0, none⟩ = some (.pointer (some ⟨d, 0, none⟩)) := cell_of hP.wx 0
              have hfa := failAt_one hP.la.1 hbr.size x
              go_wp2_with fail
              refine (hpk5 _).mono ?_
              rintro e w3 ⟨rfl, hw3⟩
              rw [hw3]
              clear hw3 w3
              go_wp2_with fail
              refine hfa.mono ?_
              rintro e w5 ⟨rfl, haf⟩
              obtain ⟨F5, hP5, hbl5, hF5, hc5⟩ := hP.step (hP.la.after haf)
              have hb5 := hbr.trans hbl5
              have hq5 := hc5.keep hqr (fun h => h.elim hqo.1.1 hqo.1.2.1)
              have hqo5 : Off2 F5 a X f' q := ⟨⟨fun h => (hF5 q h).elim hqo.1.1 (fun h2 => by have := lt_of_heap hqr; omega), hqo.1.2⟩, hqo.2⟩
              have hgA5 := alloc_quiet w5 (.cells #[.int .i64 x] 3)
              have hP5a := hP5.quiet hgA5
              have hq5a := hgA5.keep hq5 (fun h => h)
              have hb5a : Below w.heap.size w (w5.alloc (.cells #[.int .i64 x] 3)) := hb5.trans (hgA5.below (fun _ h => h.elim) hb5.size)
              have hnc : ∀ (i : Nat) (u : Value), ([.int .i64 x] : List Value)[i]? = some u → (w5.alloc (.cells #[.int .i64 x] 3)).cell? ((⟨w5.heap.size, 0, none⟩ : Addr).add i) = some u := fun i u hu => by
                match i, hu with
                | 0, hu => rw [Addr.add_lit]; simp at hu; subst hu; exact cell_of (heap_last w5 _) 0
              have hkl2 := HKL.out
              obtain ⟨v6, w6, hrun, hown6, hgr6, -, hv6⟩ := run_append_own_at (P := Tryz.prog) (w5.alloc (.cells #[.int .i64 x] 3)) w.heap.size 34 34 3 i0 (.int .i64 0) 1 8 Tryz.underlying34 hi0 hz0 hz1 hz2 rfl (by decide) _ _ _ hP5a.row ⟨w5.heap.size, 0, none⟩ 1 1 [.int .i64 x] rfl hnc (by simp [Value.oneCell']) (by unfold maxLen; omega) (by omega) hb5a.size
              have hcf : Chg (fun k => f'.ownBlock = some k) (w5.alloc (.cells #[.int .i64 x] 3)) w6 := (Chg.of_grown hgr6).mono (fun k _ e => e.symm)
              have hq6 := hcf.keep hq5a (fun e => hqo5.2 e)
              have hX6 := hP5a.wx.keep hcf (fun e => (hP5a.rx X e).2.2 rfl)
              have x36 : w6.cell? ⟨X, 3, none⟩ = some f' := cell_of hX6 3
              have f36 : w6.frozen? ⟨X, 3, none⟩ = false := thawed hX6 3
              have hown6' : w6.ownsRow w.heap.size 3 1 v6 (ks' ++ [x]).length (icW (ks' ++ [x])) := by
                have e1 : (ks' ++ [x]).length = ks'.length + 1 := by simp
                have e2 : icW (ks' ++ [x]) = icW ks' ++ [.int .i64 x] := by simp [icW]
                rw [e1, e2]
                exact hown6
              have hv6' : ∀ k, v6.ownBlock = some k → f'.ownBlock = some k ∨ (w5.alloc (.cells #[.int .i64 x] 3)).heap.size ≤ k := fun k e => hv6.imp (fun h => by rw [← h]; exact e) (fun h => by rw [h] at e; injection e with e; omega)
              obtain ⟨hP7, hbl7⟩ := hP5a.putF hown6' hcf hv6'
              have hqz := hq6
              have hq7 := ((Chg.refl (· = X) w6).setCell (p := ⟨X, 3, none⟩) (Or.inl rfl) v6).keep hq6 (fun e => hqo5.1.2.2 e)
              have hqo7 : Off2 F5 a X v6 q := ⟨hqo5.1, fun e => (hv6' q e).elim hqo5.2 (fun h2 => by have := lt_of_heap hq5a; omega)⟩
              have HP7 := hide hP7
              have HB7 := hide (hb5a.trans hbl7)
              have HQ7 := hide hq7
              have x35 : w5.cell? ⟨X, 3, none⟩ = some f' := cell_of hP5.wx 3
              obtain ⟨af, cf, hff, -⟩ := own_form hP5.row
              subst hff
              have HRUN := hide hrun
              have hfl7 : ∀ i : Nat, (S'.failAt [x]).fails i = true → (i : Int) ∈ ks' ++ [x] := fun i h => by
                have h : (S'.fails i || [x].contains (i : Int)) = true := h
                rw [Bool.or_eq_true] at h
                rw [List.mem_append]
                exact h.imp (HG3.out i) (fun h => by rwa [List.contains_iff_mem] at h)
              clear hfa haf hP5 hP5a hX6 hcf hown6 hown6' hgr6 hv6 hv6' hP7 hbl7 hq7 hq6 hqz hq5 hq5a hc5 hF5 hP hqr q3r x0r hnc hb5a hgA5 hrun
              obtain ⟨a6, c6, n6, rfl⟩ := row_form HP7.out.row
              go_wp2_with (at_builtin; refine wpList_plain rfl (fun K hK => wp_append_run (.tmp 272) (.tmp 276) 34 rfl rfl rfl HRUN.out (hK _ _ ?_)))
              try go_wp2
              go_roundw
              case rel => exact ⟨k + 1, F5, S'.failAt [x], _, ks' ++ [x], by go_num, by omega, HP7.out, ⟨HG1.out.failAt _, g2, hfl7, HG4.out, HG5.out⟩, by simp; omega, HQ7.out, hqo7, HB7.out⟩
              case measure => simp [intOf]; omega
            · have hnk : ¬ ((k : Int) ≤ p5) := hkp
              have HP := hide hP
              clear hP
              go_wp2_with fail
              refine (hpk5 _).mono ?_
              rintro e w3 ⟨rfl, hw3⟩
              rw [hw3]
              clear hw3 w3
              go_wp2
              go_roundw
              case rel => exact ⟨j + 1, a, F', S', La, ga, gsa, f', ks', t, by go_num, by omega, by omega, HP.out, ⟨HG1.out, g2, HG3.out, HG4.out, by rw [HG5.out]; omega, by omega, by omega, by have := HKL.out; omega⟩, hbr⟩
              case measure => simp [intOf]; omega
      by_cases h7 : kd = 7
      · as_aux_lemma =>
          subst h7
          have hnames := names_stands1 hOA.la.1 (by omega)
          have x0A : wA.cell? ⟨X, 0, none⟩ = some (.pointer (some ⟨d, 0, none⟩)) := cell_of hOA.wx 0
          go_wp2_with fail
          refine hnames.mono ?_
          rintro e w4 ⟨v4, rfl, hrow, hst4, hc4, hdl⟩
          have hP4 := hOA.quiet hc4
          have hb4 : Below w.heap.size w w4 := hbA.trans (hc4.below (fun _ h => h.elim) hbA.size)
          have hq4 := hc4.keep hqA (fun h => h)
          obtain ⟨an, cn, rfl, hn1, hn2⟩ := own_form hrow
          have hcells : ∀ k (h : k < S.dir.length), ∃ g nm, an = some ⟨g, 0, none⟩ ∧ g < w4.heap.size ∧ w4.cell? ⟨g, k, none⟩ = some (.string (strB nm)) := by
            intro k hk
            have h0 := hrow
            rcases hrow.2 with ⟨-, hn⟩ | ⟨g, cap, cur, he, hg, hh, -⟩
            · omega
            · injection he with he _ _
              subst he
              refine ⟨g, (S.dir[k]).1, rfl, lt_of_heap hh, ?_⟩
              have := World.ownsRow.cells h0 (g := g) rfl k (.string (strB (S.dir[k]).1)) (by simp [tc, hk])
              rw [Addr.add_lit, Nat.zero_add] at this
              exact this
          have HC := hide hcells
          have HP4 := hide hP4
          have HA := hide hA
          have HQ4 := hide hq4
          clear hnames hrow hst4 hc4 hcells hOA hP4 hA q0 q1 q2 q3 x0A hq4 hqA
          unfold maxLen at hn2
          go_wp2_with fail
          go_loopw [20, 22] (fun u i wr => ∃ (k : Nat) (uu : Int), k ≤ S.dir.length ∧ i = .int .i64 (k : Int) ∧ u = .int .i64 uu ∧ Chg (fun _ => False) w4 wr) (fun _ i _ => S.dir.length - (intOf i).toNat)
          case atStart => exact ⟨0, 0, by omega, rfl, rfl, Chg.refl _ _⟩
          case round =>
            obtain ⟨k, uu, hk, rfl, rfl, hcr⟩ := hrel
            have hPr := HP4.out.quiet hcr
            have x0r : wr.cell? ⟨X, 0, none⟩ = some (.pointer (some ⟨d, 0, none⟩)) := cell_of hPr.wx 0
            by_cases hkl : k < S.dir.length
            · obtain ⟨g, nm, rfl, hgl, hcg⟩ := HC.out k hkl
              have hcg := (World.cell?_of_block (hcr.block g hgl (fun h => h))).trans hcg
              have hcd : Chg (fun _ => False) w4 wr.drew := hcr.trans ((Chg.refl (fun _ => False) wr).drew) (fun _ _ h => h)
              have hsz := size_lies (hPr.la.1.keep ((Chg.refl (fun _ => False) wr).drew) (fun _ _ h => h)) nm
              generalize S.size nm = sz at *
              clear hPr
              go_wp2_with fail
              refine wp_region_held_drew (S := fun W => W.cell? ⟨X, 0, none⟩ = some (.pointer (some ⟨d, 0, none⟩)) ∧ W.cell? ⟨g, k, none⟩ = some (.string (strB nm))) (by kernel_rfl) (⟨x0r, hcg⟩) (fun hHeld => ?_)
              refine takeH (i := 0) (v := ?_) rfl (by kernel_rfl) (by kernel_rfl) (by kernel_rfl) (fun _ _ _ h => h) rfl ?_ hHeld ?_
              rotate_left
              · intro w hS; (try dsimp only at hS); obtain ⟨hS0, hS1⟩ := hS; go_simp; first | done | (with_reducible rfl)
              try simp only [Act.put, List.setIfInBounds_toArray, List.set_cons_zero, List.set_cons_succ]
              refine takeH (i := 1) (v := ?_) rfl (by kernel_rfl) (by kernel_rfl) (by kernel_rfl) (fun _ _ _ h => h) rfl ?_ hHeld ?_
              rotate_left
              · intro w hS; (try dsimp only at hS); obtain ⟨hS0, hS1⟩ := hS; go_simp; first | done | (with_reducible rfl)
              try simp only [Act.put, List.setIfInBounds_toArray, List.set_cons_zero, List.set_cons_succ]
              refine takeH (i := 2) (v := ?_) rfl (by kernel_rfl) (by kernel_rfl) (by kernel_rfl) (fun _ _ _ h => h) rfl ?_ hHeld ?_
              rotate_left
              · intro w hS; (try dsimp only at hS); obtain ⟨hS0, hS1⟩ := hS; go_simp; first | done | (with_reducible rfl)
              try simp only [Act.put, List.setIfInBounds_toArray, List.set_cons_zero, List.set_cons_succ]
              refine takeH (i := 3) (v := ?_) rfl (by kernel_rfl) (by kernel_rfl) (by kernel_rfl) (fun _ _ _ h => h) rfl ?_ hHeld ?_
              rotate_left
              · intro w hS; (try dsimp only at hS); obtain ⟨hS0, hS1⟩ := hS; go_simp; first | done | (with_reducible rfl)
              try simp only [Act.put, List.setIfInBounds_toArray, List.set_cons_zero, List.set_cons_succ]
              refine takeH (i := 4) (v := ?_) rfl (by kernel_rfl) (by kernel_rfl) (by kernel_rfl) (fun _ _ _ h => h) rfl ?_ hHeld ?_
              rotate_left
              · intro w hS; (try dsimp only at hS); obtain ⟨hS0, hS1⟩ := hS; go_simp; first | done | (with_reducible rfl)
              try simp only [Act.put, List.setIfInBounds_toArray, List.set_cons_zero, List.set_cons_succ]
              refine takeH (i := 5) (v := ?_) rfl (by kernel_rfl) (by kernel_rfl) (by kernel_rfl) (fun _ _ _ h => h) rfl ?_ hHeld ?_
              rotate_left
              · intro w hS; (try dsimp only at hS); obtain ⟨hS0, hS1⟩ := hS; go_simp; first | done | (with_reducible rfl)
              try simp only [Act.put, List.setIfInBounds_toArray, List.set_cons_zero, List.set_cons_succ]
              refine takeH (i := 6) (v := ?_) rfl (by kernel_rfl) (by kernel_rfl) (by kernel_rfl) (fun _ _ _ h => h) rfl ?_ hHeld ?_
              rotate_left
              · intro w hS; (try dsimp only at hS); obtain ⟨hS0, hS1⟩ := hS; go_simp; first | done | (with_reducible rfl)
              try simp only [Act.put, List.setIfInBounds_toArray, List.set_cons_zero, List.set_cons_succ]
              refine takeH (i := 7) (v := ?_) rfl (by kernel_rfl) (by kernel_rfl) (by kernel_rfl) (fun _ _ _ h => h) rfl ?_ hHeld ?_
              rotate_left
              · intro w hS; (try dsimp only at hS); obtain ⟨hS0, hS1⟩ := hS; go_simp; first | done | (with_reducible rfl)
              try simp only [Act.put, List.setIfInBounds_toArray, List.set_cons_zero, List.set_cons_succ]
              refine takeH (i := 8) (v := ?_) rfl (by kernel_rfl) (by kernel_rfl) (by kernel_rfl) (fun _ _ _ h => h) rfl ?_ hHeld ?_
              rotate_left
              · intro w hS; (try dsimp only at hS); obtain ⟨hS0, hS1⟩ := hS; go_simp; first | done | (with_reducible rfl)
              try simp only [Act.put, List.setIfInBounds_toArray, List.set_cons_zero, List.set_cons_succ]
              refine onlyH (i := 9) rfl (by kernel_rfl) rfl (fun K hK => ?_)
              go_simp
              refine hsz.mono ?_
              rintro e w5 ⟨rfl, hw5⟩
              rw [hw5]
              clear hw5 w5
              refine hK.out _ _ (⟨x0r, hcg⟩) (fun hHeld => ?_)
              clear hK K
              try simp only [Act.put, List.setIfInBounds_toArray, List.set_cons_zero, List.set_cons_succ]
              refine takeH (i := 10) (v := ?_) rfl (by kernel_rfl) (by kernel_rfl) (by kernel_rfl) (fun _ _ _ h => h) rfl ?_ hHeld ?_
              rotate_left
              · intro w hS; (try dsimp only at hS); obtain ⟨hS0, hS1⟩ := hS; go_simp; first | done | (with_reducible rfl)
              try simp only [Act.put, List.setIfInBounds_toArray, List.set_cons_zero, List.set_cons_succ]
              refine takeH (i := 11) (v := ?_) rfl (by kernel_rfl) (by kernel_rfl) (by kernel_rfl) (fun _ _ _ h => h) rfl ?_ hHeld ?_
              rotate_left
              · intro w hS; (try dsimp only at hS); obtain ⟨hS0, hS1⟩ := hS; go_simp; first | done | (with_reducible rfl)
              try simp only [Act.put, List.setIfInBounds_toArray, List.set_cons_zero, List.set_cons_succ]
              refine wpAnyH_done (by kernel_rfl) ?_ _
              clear hHeld
              go_wp2
              go_roundw
              case rel => exact ⟨k + 1, _, by omega, by go_num, rfl, hcd⟩
              case measure => simp [intOf]; omega
            · obtain rfl : k = S.dir.length := by omega
              have hqr := hcr.keep HQ4.out (fun h => h)
              have qr2 : wr.cell? ⟨q, 2, none⟩ = some (.int .i64 nn) := cell_of hqr 2
              have x4r : wr.cell? ⟨X, 4, none⟩ = some (.bool t) := cell_of hPr.wx 4
              have f4r : wr.frozen? ⟨X, 4, none⟩ = false := thawed hPr.wx 4
              have hbr : Below w.heap.size w wr := hb4.trans (hcr.below (fun _ h => h.elim) hb4.size)
              have hset := hPr.set 4 (.bool (decide (0 ≤ nn)))
              have hPt := hPr.putT (decide (0 ≤ nn))
              have hbt := hbr.trans hset.2
              have hqt := hset.1.keep hqr (fun e => hq0.1.2.2 e)
              clear hPr hset x0r hqr
              go_upto_region 54 with fail
              generalize wr.setCell ⟨X, 4, none⟩ (.bool (decide (0 ≤ nn))) = wt at *
              have x0t : wt.cell? ⟨X, 0, none⟩ = some (.pointer (some ⟨d, 0, none⟩)) := cell_of hPt.wx 0
              have hsr := setRoom_lies hPt.la.1 hbt.size 16777216 (by omega)
              clear qr2 x4r f4r
              go_wp2_with fail
              refine hsr.mono ?_
              rintro e w6 ⟨rfl, haf⟩
              obtain ⟨F6, hP6, hbl6, hF6, hc6⟩ := hPt.step (hPt.la.after haf)
              have hb6 := hbt.trans hbl6
              have hq6 := hc6.keep hqt (fun h => h.elim hq0.1.1 hq0.1.2.1)
              have x46 : w6.cell? ⟨X, 4, none⟩ = some (.bool (decide (0 ≤ nn))) := cell_of hP6.wx 4
              have hqt0 := hqt
              clear hsr haf x0t hPt hqt hbl6
              by_cases h0n : 0 ≤ nn
              · rw [decide_eq_true h0n] at x46 hP6
                have hP6d := hP6.quiet ((Chg.refl (fun _ => False) w6).drew)
                have x0d : w6.drew.cell? ⟨X, 0, none⟩ = some (.pointer (some ⟨d, 0, none⟩)) := cell_of hP6.wx 0
                have q2d : w6.drew.cell? ⟨q, 2, none⟩ = some (.int .i64 nn) := cell_of hq6 2
                have hsr2 := fun r hr => setRoom_lies hP6d.la.1 hb6.drew.size r hr
                go_wp2_with fail
                refine wp_region_held_drew (S := fun W => W.cell? ⟨X, 0, none⟩ = some (.pointer (some ⟨d, 0, none⟩)) ∧ W.cell? ⟨q, 2, none⟩ = some (.int .i64 nn)) (by kernel_rfl) (⟨x0d, q2d⟩) (fun hHeld => ?_)
                refine takeH (i := 0) (v := ?_) rfl (by kernel_rfl) (by kernel_rfl) (by kernel_rfl) (fun _ _ _ h => h) rfl ?_ hHeld ?_
                rotate_left
                · intro w hS; (try dsimp only at hS); obtain ⟨hS0, hS1⟩ := hS; go_simp; first | done | (with_reducible rfl)
                try simp only [Act.put, List.setIfInBounds_toArray, List.set_cons_zero, List.set_cons_succ]
                refine takeH (i := 1) (v := ?_) rfl (by kernel_rfl) (by kernel_rfl) (by kernel_rfl) (fun _ _ _ h => h) rfl ?_ hHeld ?_
                rotate_left
                · intro w hS; (try dsimp only at hS); obtain ⟨hS0, hS1⟩ := hS; go_simp; first | done | (with_reducible rfl)
                try simp only [Act.put, List.setIfInBounds_toArray, List.set_cons_zero, List.set_cons_succ]
                refine takeH (i := 2) (v := ?_) rfl (by kernel_rfl) (by kernel_rfl) (by kernel_rfl) (fun _ _ _ h => h) rfl ?_ hHeld ?_
                rotate_left
                · intro w hS; (try dsimp only at hS); obtain ⟨hS0, hS1⟩ := hS; go_simp; first | done | (with_reducible rfl)
                try simp only [Act.put, List.setIfInBounds_toArray, List.set_cons_zero, List.set_cons_succ]
                refine takeH (i := 3) (v := ?_) rfl (by kernel_rfl) (by kernel_rfl) (by kernel_rfl) (fun _ _ _ h => h) rfl ?_ hHeld ?_
                rotate_left
                · intro w hS; (try dsimp only at hS); obtain ⟨hS0, hS1⟩ := hS; go_simp; first | done | (with_reducible rfl)
                try simp only [Act.put, List.setIfInBounds_toArray, List.set_cons_zero, List.set_cons_succ]
                refine takeH (i := 4) (v := ?_) rfl (by kernel_rfl) (by kernel_rfl) (by kernel_rfl) (fun _ _ _ h => h) rfl ?_ hHeld ?_
                rotate_left
                · intro w hS; (try dsimp only at hS); obtain ⟨hS0, hS1⟩ := hS; go_simp; first | done | (with_reducible rfl)
                try simp only [Act.put, List.setIfInBounds_toArray, List.set_cons_zero, List.set_cons_succ]
                refine takeH (i := 5) (v := ?_) rfl (by kernel_rfl) (by kernel_rfl) (by kernel_rfl) (fun _ _ _ h => h) rfl ?_ hHeld ?_
                rotate_left
                · intro w hS; (try dsimp only at hS); obtain ⟨hS0, hS1⟩ := hS; go_simp; first | done | (with_reducible rfl)
                try simp only [Act.put, List.setIfInBounds_toArray, List.set_cons_zero, List.set_cons_succ]
                refine takeH (i := 6) (v := ?_) rfl (by kernel_rfl) (by kernel_rfl) (by kernel_rfl) (fun _ _ _ h => h) rfl ?_ hHeld ?_
                rotate_left
                · intro w hS; (try dsimp only at hS); obtain ⟨hS0, hS1⟩ := hS; go_simp; first | done | (with_reducible rfl)
                try simp only [Act.put, List.setIfInBounds_toArray, List.set_cons_zero, List.set_cons_succ]
                refine takeH (i := 7) (v := ?_) rfl (by kernel_rfl) (by kernel_rfl) (by kernel_rfl) (fun _ _ _ h => h) rfl ?_ hHeld ?_
                rotate_left
                · intro w hS; (try dsimp only at hS); obtain ⟨hS0, hS1⟩ := hS; go_simp; first | done | (with_reducible rfl)
                try simp only [Act.put, List.setIfInBounds_toArray, List.set_cons_zero, List.set_cons_succ]
                refine takeH (i := 8) (v := ?_) rfl (by kernel_rfl) (by kernel_rfl) (by kernel_rfl) (fun _ _ _ h => h) rfl ?_ hHeld ?_
                rotate_left
                · intro w hS; (try dsimp only at hS); obtain ⟨hS0, hS1⟩ := hS; go_simp; first | done | (with_reducible rfl)
                try simp only [Act.put, List.setIfInBounds_toArray, List.set_cons_zero, List.set_cons_succ]
                refine onlyH (i := 9) rfl (by kernel_rfl) rfl (fun K hK => ?_)
                go_simp
                have hwr := wrap_hi (uu + nn.tmod 2000)
                generalize IntKind.i64.wrap (uu + nn.tmod 2000) = rr at *
                refine (hsr2 rr hwr).mono ?_
                rintro e w8 ⟨rfl, haf⟩
                obtain ⟨F8, hP8, hbl8, hF8, hc8⟩ := hP6d.step (hP6d.la.after haf)
                have hb8 := hb6.drew.trans hbl8
                have ap6 : ¬ F6 q := fun h => (hF6 q h).elim hq0.1.1 (fun h => by have := lt_of_heap hqt0; omega)
                have hq8 := hc8.keep (show w6.drew.heap[q]? = _ from hq6) (fun h => h.elim ap6 hq0.1.2.1)
                refine hK.out _ _ (⟨cell_of hP8.wx 0, cell_of hq8 2⟩) (fun hHeld => ?_)
                clear hK K
                try simp only [Act.put, List.setIfInBounds_toArray, List.set_cons_zero, List.set_cons_succ]
                refine wpAnyH_done (by kernel_rfl) ?_ _
                clear hHeld
                have HP8 := hide hP8
                have HPI := hide (show Pi (j + 1) ((S.setRoom 16777216).setRoom rr) La gsa ks true from ⟨(HA.out.has.setRoom _).setRoom _, HA.out.lit, HA.out.fl, fun h => (by cases h), Nat.le_trans (show S.bulk ≤ bd j from hAb) (by omega), by omega, by omega, by omega⟩)
                clear hP8 hP6d hP6 hq6 hq8 hsr2 x0d q2d
                go_wp2
                go_roundw
                case rel => exact ⟨j + 1, a, F8, _, La, ga, gsa, f, ks, true, by go_num, by omega, by omega, HP8.out, HPI.out, hb8⟩
                case measure => simp [intOf]; omega
              · have hno : ¬ (0 ≤ nn) := h0n
                rw [decide_eq_false h0n] at x46 hP6
                have HP6 := hide hP6
                have HPI := hide (show Pi (j + 1) (S.setRoom 16777216) La gsa ks false from ⟨HA.out.has.setRoom _, HA.out.lit, HA.out.fl, fun _ => rfl, Nat.le_trans (show S.bulk ≤ bd j from hAb) (by omega), by omega, by omega, by omega⟩)
                clear hP6 hq6
                go_wp2
                go_roundw
                case rel => exact ⟨j + 1, a, F6, _, La, ga, gsa, f, ks, false, by go_num, by omega, by omega, HP6.out, HPI.out, hb6⟩
                case measure => simp [intOf]; omega
      have b5 : (kd == 5) = false := by simp [h5]
      have b6 : (kd == 6) = false := by simp [h6]
      have b7 : (kd == 7) = false := by simp [h7]
      have hok := hOA.la.1.ok
      have hbeh := behind_any wA hOA.wx hOA.ra (by omega) kind nn tt hsk _ rs ((HUU.out.keep hwAr).tx hbA.size) hsr
      rw [← HKD.out] at hbeh
      have hgf := grp_few rs
      have hla2 := laid_then kd gsa (fewW rs)
      have hna2 := gsThen_len1 kd gsa (fewW rs)
      go_wp2_with fail
      refine hbeh.mono ?_
      rintro e wb ⟨v', rfl, hrk, hbb⟩
      have hrk : Rk (Off2 F a X f) wb v' (gsThen kd gsa (fewW rs)) := hrk.mono (fun k _ h => h.elim id (fun h => hOA.since h))
      have hPb := hOA.quiet (chg_new hbb)
      have hbb' : Below w.heap.size w wb := hbA.trans (hbb.mono hbA.size)
      have hqb := (chg_new hbb).keep hqA (fun h => h)
      have p0 : wb.cell? ⟨q, 0, none⟩ = some (.int .i64 kind) := cell_of hqb 0
      have p1 : wb.cell? ⟨q, 1, none⟩ = some (.slice va rs.length vc) := cell_of hqb 1
      have p2 : wb.cell? ⟨q, 2, none⟩ = some (.int .i64 nn) := cell_of hqb 2
      have p3 : wb.cell? ⟨q, 3, none⟩ = some (.int .i64 tt) := cell_of hqb 3
      have hans := lay_ans (rs := fewW rs) hA.has hA.lit hok hnm.1 hnm.2 kd (fewW_right rs) (fun _ => by omega)
      have hnear := lay_near S La kd (fewW rs)
      have hbulk := lay_bulk (rs := fewW rs) hA.has kd
      have hlaid := lay_has hA.has hok hnm.1 kd (fewW_right rs)
      have hmay := hA.may hans
      have hlay := lay_plays hPb.la hPb.wx hPb.row (by omega) (fun k e => ⟨(hPb.rx k e).1, (hPb.rx k e).2.1⟩) hPb.XF hPb.Xl kind nn tt hsk _ rs ((HUU.out.keep (hwAr.trans (hbb.mono hbA.size))).tx hbb'.size) hsr hB0 (HT.out.keep hbb') (by omega) (wh_range hA.has (by omega)) (by rw [← HKD.out]; exact hmay) (by rw [← HKD.out]; exact hnear.2)
      rw [← HKD.out] at hlay
      obtain ⟨wa2, wc2, rfl⟩ := hrk.form
      clear hbeh q0 q1 q2 q3
      go_wp2_with fail
      refine hlay.mono ?_
      rintro e wl ⟨rfl, hthen⟩
      obtain ⟨Fz, hP5, hbl, hF5, hc5⟩ := hPb.step hthen
      have hrk5 := hrk.step2 hF5 hc5
      have hb5 := hbb'.trans hbl
      have hlit5 : Lit (layW kd S La (fewW rs)).1 := hnear.lit hA.lit
      have hfl5 : ∀ i : Nat, (layW kd S La (fewW rs)).1.fails i = true → (i : Int) ∈ ks := fun i h => hA.fl i (by rw [← hnear.1.2.1]; exact h)
      have hroom5 : t = false → (layW kd S La (fewW rs)).1.room = 16777216 := fun e => hnear.1.2.2.trans (hA.room e)
      have hans' : (layW kd S La (fewW rs)).2.2 = 0 ∨ (layW kd S La (fewW rs)).2.2 = 34 ∨ (layW kd S La (fewW rs)).2.2 = 33 := hans.imp id (fun h => h.imp (fun h => h.1) (fun h => h.1))
      have hhas := hA.has
      clear hlay hthen hnear hPb hrk hc5 p0 p1 p2 p3 hans hmay hqb hOA hA HUU hqA
      generalize hR : layW kd S La (fewW rs) = R at *
      clear hR
      generalize gsThen kd gsa (fewW rs) = gs7 at *
      obtain ⟨Sz, Lz, ez⟩ := R
      dsimp only at *
      by_cases hz : ez = 0
      · as_aux_lemma =>
          subst hz
          have z1 : wl.cell? ⟨X, 2, none⟩ = some ga := cell_of hP5.wx 2
          have z2 : wl.frozen? ⟨X, 2, none⟩ = false := thawed hP5.wx 2
          have hPwz := hP5.put hrk5
          have hbwz := hb5.trans (hP5.set 2 (.slice wa2 gs7.length wc2)).2
          have hPi : Pi (j + 1) Sz Lz gs7 ks t := ⟨hlaid.1 rfl, hlit5, hfl5, hroom5, by omega, by omega, by omega, by omega⟩
          clear hrk5 hlaid hlit5 hfl5 hroom5 hans' hhas hP5 hb5
          go_upto_region 17 with fail
          generalize wl.setCell ⟨X, 2, none⟩ (.slice wa2 gs7.length wc2) = wz at *
          clear z1 z2
          obtain ⟨gz, hgz⟩ : ∃ gz, gz = Value.slice wa2 gs7.length wc2 := ⟨_, rfl⟩
          rw [← hgz] at hPwz
          clear hgz
          generalize gs7 = gsz at *
          have hHz := hPi.has
          have hokz := hPwz.la.1.ok
          have hbk := hPi.bulk
          have hbl60 := bd_le (k := j + 1) (by omega)

          have x0wu : wz.drew.cell? ⟨X, 0, none⟩ = some (.pointer (some ⟨d, 0, none⟩)) := cell_of hPwz.wx 0
          have x2wu : wz.drew.cell? ⟨X, 2, none⟩ = some gz := cell_of hPwz.wx 2
          have hPdwu := hPwz.quiet ((Chg.refl (fun _ => False) wz).drew)
          have hbdwu : Below w.heap.size w wz.drew := hbwz.drew
          have hcrwu := crash_lies hPdwu.la.1 hbdwu.size 0 0 (by omega)
          have hcmwu := calm_crash (S := Sz) 0 0
          have hbcwu := bulk_crash (S := Sz) 0 0
          obtain ⟨tlwu, hOnwu⟩ := has_crash1 hHz hokz 0 0
          go_wp2_with fail
          refine wp_region_held_drew (S := fun W => W.cell? ⟨X, 0, none⟩ = some (.pointer (some ⟨d, 0, none⟩)) ∧ W.cell? ⟨X, 2, none⟩ = some gz) (by kernel_rfl) (⟨x0wu, x2wu⟩) (fun hHeld => ?_)
          refine takeH (i := 0) (v := ?_) rfl (by kernel_rfl) (by kernel_rfl) (by kernel_rfl) (fun _ _ _ h => h) rfl ?_ hHeld ?_
          rotate_left
          · intro w hS; (try dsimp only at hS); obtain ⟨hS0, hS1⟩ := hS; go_simp; first | done | (with_reducible rfl)
          try simp only [Act.put, List.setIfInBounds_toArray, List.set_cons_zero, List.set_cons_succ]
          refine takeH (i := 1) (v := ?_) rfl (by kernel_rfl) (by kernel_rfl) (by kernel_rfl) (fun _ _ _ h => h) rfl ?_ hHeld ?_
          rotate_left
          · intro w hS; (try dsimp only at hS); obtain ⟨hS0, hS1⟩ := hS; go_simp; first | done | (with_reducible rfl)
          try simp only [Act.put, List.setIfInBounds_toArray, List.set_cons_zero, List.set_cons_succ]
          refine takeH (i := 2) (v := ?_) rfl (by kernel_rfl) (by kernel_rfl) (by kernel_rfl) (fun _ _ _ h => h) rfl ?_ hHeld ?_
          rotate_left
          · intro w hS; (try dsimp only at hS); obtain ⟨hS0, hS1⟩ := hS; go_simp; first | done | (with_reducible rfl)
          try simp only [Act.put, List.setIfInBounds_toArray, List.set_cons_zero, List.set_cons_succ]
          refine takeH (i := 3) (v := ?_) rfl (by kernel_rfl) (by kernel_rfl) (by kernel_rfl) (fun _ _ _ h => h) rfl ?_ hHeld ?_
          rotate_left
          · intro w hS; (try dsimp only at hS); obtain ⟨hS0, hS1⟩ := hS; go_simp; first | done | (with_reducible rfl)
          try simp only [Act.put, List.setIfInBounds_toArray, List.set_cons_zero, List.set_cons_succ]
          refine takeH (i := 5) (v := ?_) rfl (by kernel_rfl) (by kernel_rfl) (by kernel_rfl) (fun _ _ _ h => h) rfl ?_ hHeld ?_
          rotate_left
          · intro w hS; (try dsimp only at hS); obtain ⟨hS0, hS1⟩ := hS; go_simp; first | done | (with_reducible rfl)
          try simp only [Act.put, List.setIfInBounds_toArray, List.set_cons_zero, List.set_cons_succ]
          refine takeH (i := 6) (v := ?_) rfl (by kernel_rfl) (by kernel_rfl) (by kernel_rfl) (fun _ _ _ h => h) rfl ?_ hHeld ?_
          rotate_left
          · intro w hS; (try dsimp only at hS); obtain ⟨hS0, hS1⟩ := hS; go_simp; first | done | (with_reducible rfl)
          try simp only [Act.put, List.setIfInBounds_toArray, List.set_cons_zero, List.set_cons_succ]
          refine takeH (i := 7) (v := ?_) rfl (by kernel_rfl) (by kernel_rfl) (by kernel_rfl) (fun _ _ _ h => h) rfl ?_ hHeld ?_
          rotate_left
          · intro w hS; (try dsimp only at hS); obtain ⟨hS0, hS1⟩ := hS; go_simp; first | done | (with_reducible rfl)
          try simp only [Act.put, List.setIfInBounds_toArray, List.set_cons_zero, List.set_cons_succ]
          refine takeH (i := 8) (v := ?_) rfl (by kernel_rfl) (by kernel_rfl) (by kernel_rfl) (fun _ _ _ h => h) rfl ?_ hHeld ?_
          rotate_left
          · intro w hS; (try dsimp only at hS); obtain ⟨hS0, hS1⟩ := hS; go_simp; first | done | (with_reducible rfl)
          try simp only [Act.put, List.setIfInBounds_toArray, List.set_cons_zero, List.set_cons_succ]
          refine onlyH (i := 4) rfl (by kernel_rfl) rfl (fun K hK => ?_)
          go_simp
          refine hcrwu.mono ?_
          rintro e wcwu ⟨dcwu, Fcwu, rfl, hstwu, hFwu, hcwu⟩
          have hPcwu := hPdwu.quiet hcwu
          have hbc2wu := hbdwu.trans (hcwu.below (fun _ h => h.elim) hbdwu.size)
          have hrkwu := (hPdwu.ra.mono (Q := fun k => ¬ Fcwu k) (fun k hk _ h => by have := hFwu k h; omega)).keep hcwu (fun _ _ h => h)
          refine hK.out _ _ (⟨cell_of hPcwu.wx 0, cell_of hPcwu.wx 2⟩) (fun hHeld => ?_)
          clear hK K
          try simp only [Act.put, List.setIfInBounds_toArray, List.set_cons_zero, List.set_cons_succ]
          refine onlyH (i := 9) rfl (by kernel_rfl) rfl (fun K hK => ?_)
          go_simp
          refine (told_any hstwu hOnwu (calm_on hcmwu) (hcmwu.2 _) hbc2wu.size hB0 (HT.out.keep hbc2wu) (by omega) hrkwu).mono ?_
          rintro e wu ⟨rfl, htwu⟩
          have hqwu : Chg (fun _ => False) wz.drew wu := hcwu.trans htwu (fun k hk h => by have := hFwu k h; omega)
          have hPwu := hPdwu.quiet hqwu
          have hbwu := hbdwu.trans (hqwu.below (fun _ h => h.elim) hbdwu.size)
          refine hK.out _ _ (⟨cell_of hPwu.wx 0, cell_of hPwu.wx 2⟩) (fun hHeld => ?_)
          clear hK K
          try simp only [Act.put, List.setIfInBounds_toArray, List.set_cons_zero, List.set_cons_succ]
          refine takeH (i := 10) (v := ?_) rfl (by kernel_rfl) (by kernel_rfl) (by kernel_rfl) (fun _ _ _ h => h) rfl ?_ hHeld ?_
          rotate_left
          · intro w hS; (try dsimp only at hS); obtain ⟨hS0, hS1⟩ := hS; go_simp; first | done | (with_reducible rfl)
          try simp only [Act.put, List.setIfInBounds_toArray, List.set_cons_zero, List.set_cons_succ]
          refine wpAnyH_done (by kernel_rfl) ?_ _
          clear hHeld x0wu x2wu hPdwu hbdwu hcrwu hcmwu hbcwu hOnwu hstwu hFwu hcwu hPcwu hbc2wu hrkwu htwu hqwu hPwz hbwz

          have x0wv : wu.drew.cell? ⟨X, 0, none⟩ = some (.pointer (some ⟨d, 0, none⟩)) := cell_of hPwu.wx 0
          have x2wv : wu.drew.cell? ⟨X, 2, none⟩ = some gz := cell_of hPwu.wx 2
          have hPdwv := hPwu.quiet ((Chg.refl (fun _ => False) wu).drew)
          have hbdwv : Below w.heap.size w wu.drew := hbwu.drew
          have hcrwv := crash_lies hPdwv.la.1 hbdwv.size keep torn (by omega)
          have hcmwv := calm_crash (S := Sz) keep torn
          have hbcwv := bulk_crash (S := Sz) keep torn
          obtain ⟨tlwv, hOnwv⟩ := has_crash1 hHz hokz keep torn
          go_wp2_with fail
          refine wp_region_held_drew (S := fun W => W.cell? ⟨X, 0, none⟩ = some (.pointer (some ⟨d, 0, none⟩)) ∧ W.cell? ⟨X, 2, none⟩ = some gz) (by kernel_rfl) (⟨x0wv, x2wv⟩) (fun hHeld => ?_)
          refine takeH (i := 0) (v := ?_) rfl (by kernel_rfl) (by kernel_rfl) (by kernel_rfl) (fun _ _ _ h => h) rfl ?_ hHeld ?_
          rotate_left
          · intro w hS; (try dsimp only at hS); obtain ⟨hS0, hS1⟩ := hS; go_simp; first | done | (with_reducible rfl)
          try simp only [Act.put, List.setIfInBounds_toArray, List.set_cons_zero, List.set_cons_succ]
          refine takeH (i := 1) (v := ?_) rfl (by kernel_rfl) (by kernel_rfl) (by kernel_rfl) (fun _ _ _ h => h) rfl ?_ hHeld ?_
          rotate_left
          · intro w hS; (try dsimp only at hS); obtain ⟨hS0, hS1⟩ := hS; go_simp; first | done | (with_reducible rfl)
          try simp only [Act.put, List.setIfInBounds_toArray, List.set_cons_zero, List.set_cons_succ]
          refine takeH (i := 2) (v := ?_) rfl (by kernel_rfl) (by kernel_rfl) (by kernel_rfl) (fun _ _ _ h => h) rfl ?_ hHeld ?_
          rotate_left
          · intro w hS; (try dsimp only at hS); obtain ⟨hS0, hS1⟩ := hS; go_simp; first | done | (with_reducible rfl)
          try simp only [Act.put, List.setIfInBounds_toArray, List.set_cons_zero, List.set_cons_succ]
          refine takeH (i := 3) (v := ?_) rfl (by kernel_rfl) (by kernel_rfl) (by kernel_rfl) (fun _ _ _ h => h) rfl ?_ hHeld ?_
          rotate_left
          · intro w hS; (try dsimp only at hS); obtain ⟨hS0, hS1⟩ := hS; go_simp; first | done | (with_reducible rfl)
          try simp only [Act.put, List.setIfInBounds_toArray, List.set_cons_zero, List.set_cons_succ]
          refine takeH (i := 4) (v := ?_) rfl (by kernel_rfl) (by kernel_rfl) (by kernel_rfl) (fun _ _ _ h => h) rfl ?_ hHeld ?_
          rotate_left
          · intro w hS; (try dsimp only at hS); obtain ⟨hS0, hS1⟩ := hS; go_simp; first | done | (with_reducible rfl)
          try simp only [Act.put, List.setIfInBounds_toArray, List.set_cons_zero, List.set_cons_succ]
          refine takeH (i := 5) (v := ?_) rfl (by kernel_rfl) (by kernel_rfl) (by kernel_rfl) (fun _ _ _ h => h) rfl ?_ hHeld ?_
          rotate_left
          · intro w hS; (try dsimp only at hS); obtain ⟨hS0, hS1⟩ := hS; go_simp; first | done | (with_reducible rfl)
          try simp only [Act.put, List.setIfInBounds_toArray, List.set_cons_zero, List.set_cons_succ]
          refine takeH (i := 7) (v := ?_) rfl (by kernel_rfl) (by kernel_rfl) (by kernel_rfl) (fun _ _ _ h => h) rfl ?_ hHeld ?_
          rotate_left
          · intro w hS; (try dsimp only at hS); obtain ⟨hS0, hS1⟩ := hS; go_simp; first | done | (with_reducible rfl)
          try simp only [Act.put, List.setIfInBounds_toArray, List.set_cons_zero, List.set_cons_succ]
          refine takeH (i := 8) (v := ?_) rfl (by kernel_rfl) (by kernel_rfl) (by kernel_rfl) (fun _ _ _ h => h) rfl ?_ hHeld ?_
          rotate_left
          · intro w hS; (try dsimp only at hS); obtain ⟨hS0, hS1⟩ := hS; go_simp; first | done | (with_reducible rfl)
          try simp only [Act.put, List.setIfInBounds_toArray, List.set_cons_zero, List.set_cons_succ]
          refine takeH (i := 9) (v := ?_) rfl (by kernel_rfl) (by kernel_rfl) (by kernel_rfl) (fun _ _ _ h => h) rfl ?_ hHeld ?_
          rotate_left
          · intro w hS; (try dsimp only at hS); obtain ⟨hS0, hS1⟩ := hS; go_simp; first | done | (with_reducible rfl)
          try simp only [Act.put, List.setIfInBounds_toArray, List.set_cons_zero, List.set_cons_succ]
          refine takeH (i := 10) (v := ?_) rfl (by kernel_rfl) (by kernel_rfl) (by kernel_rfl) (fun _ _ _ h => h) rfl ?_ hHeld ?_
          rotate_left
          · intro w hS; (try dsimp only at hS); obtain ⟨hS0, hS1⟩ := hS; go_simp; first | done | (with_reducible rfl)
          try simp only [Act.put, List.setIfInBounds_toArray, List.set_cons_zero, List.set_cons_succ]
          refine onlyH (i := 6) rfl (by kernel_rfl) rfl (fun K hK => ?_)
          go_simp
          refine hcrwv.mono ?_
          rintro e wcwv ⟨dcwv, Fcwv, rfl, hstwv, hFwv, hcwv⟩
          have hPcwv := hPdwv.quiet hcwv
          have hbc2wv := hbdwv.trans (hcwv.below (fun _ h => h.elim) hbdwv.size)
          have hrkwv := (hPdwv.ra.mono (Q := fun k => ¬ Fcwv k) (fun k hk _ h => by have := hFwv k h; omega)).keep hcwv (fun _ _ h => h)
          refine hK.out _ _ (⟨cell_of hPcwv.wx 0, cell_of hPcwv.wx 2⟩) (fun hHeld => ?_)
          clear hK K
          try simp only [Act.put, List.setIfInBounds_toArray, List.set_cons_zero, List.set_cons_succ]
          refine onlyH (i := 11) rfl (by kernel_rfl) rfl (fun K hK => ?_)
          go_simp
          refine (told_any hstwv hOnwv (calm_on hcmwv) (hcmwv.2 _) hbc2wv.size hB0 (HT.out.keep hbc2wv) (by omega) hrkwv).mono ?_
          rintro e wv ⟨rfl, htwv⟩
          have hqwv : Chg (fun _ => False) wu.drew wv := hcwv.trans htwv (fun k hk h => by have := hFwv k h; omega)
          have hPwv := hPdwv.quiet hqwv
          have hbwv := hbdwv.trans (hqwv.below (fun _ h => h.elim) hbdwv.size)
          refine hK.out _ _ (⟨cell_of hPwv.wx 0, cell_of hPwv.wx 2⟩) (fun hHeld => ?_)
          clear hK K
          try simp only [Act.put, List.setIfInBounds_toArray, List.set_cons_zero, List.set_cons_succ]
          refine takeH (i := 12) (v := ?_) rfl (by kernel_rfl) (by kernel_rfl) (by kernel_rfl) (fun _ _ _ h => h) rfl ?_ hHeld ?_
          rotate_left
          · intro w hS; (try dsimp only at hS); obtain ⟨hS0, hS1⟩ := hS; go_simp; first | done | (with_reducible rfl)
          try simp only [Act.put, List.setIfInBounds_toArray, List.set_cons_zero, List.set_cons_succ]
          refine wpAnyH_done (by kernel_rfl) ?_ _
          clear hHeld x0wv x2wv hPdwv hbdwv hcrwv hcmwv hbcwv hOnwv hstwv hFwv hcwv hPcwv hbc2wv hrkwv htwv hqwv hPwu hbwu

          have hmz := laid_most gsz
          have hlz := laid_least gsz
          have hPl := hPi.len
          have hcz := hPi.cnt
          have hwh : Lz.wh = ((laid sum4 gsz).length : Int) := by obtain ⟨-, tl, -, h, -⟩ := hHz; exact h
          obtain ⟨az, cz, rfl⟩ := hPwv.ra.form
          have x2v : wv.cell? ⟨X, 2, none⟩ = some (.slice az gsz.length cz) := cell_of hPwv.wx 2
          have HPI := hide hPi
          have HPV := hide hPwv
          clear hPi hPwv
          go_wp2_with fail
          go_loopw [28, 29] (fun m i wr => ∃ k : Nat, k ≤ gsz.length ∧ i = .int .i64 (k : Int) ∧ m = .int .i64 (((100 + 30 * gsz.length + mostW (gsz.take k) : Nat)) : Int) ∧ Chg (fun _ => False) wv wr) (fun _ i _ => gsz.length - (intOf i).toNat)
          case atStart => exact ⟨0, by omega, rfl, by go_num, Chg.refl _ _⟩
          case round =>
            obtain ⟨k, hk, rfl, rfl, hcv⟩ := hrel
            have hPr := HPV.out.quiet hcv
            have x2r : wr.cell? ⟨X, 2, none⟩ = some (.slice az gsz.length cz) := cell_of hPr.wx 2
            have hml := mostW_le gsz k
            clear x2v
            by_cases hkl : k < gsz.length
            · obtain ⟨bz, oz, rfl, -, x, hx, hTx⟩ := hPr.ra.rs.at k hkl
              have hmt := mostW_take hkl
              have hml1 := mostW_le gsz (k + 1)
              obtain ⟨gk, hgk⟩ : ∃ gk, gk = gsz[k] := ⟨_, rfl⟩
              rw [← hgk] at hTx hmt
              obtain ⟨ax, cx, rfl⟩ := hTx.form
              have HTX := hide hTx
              have hgn := hTx.len
              unfold maxLen at hgn
              clear hTx hgk
              go_wp2_with fail
              go_loopw [28, 30] (fun m i wy => ∃ n : Nat, n ≤ gk.length ∧ i = .int .i64 (n : Int) ∧ m = .int .i64 (((100 + 30 * gsz.length + mostW (gsz.take k) + mostG (gk.take n) : Nat)) : Int) ∧ Chg (fun _ => False) wr wy) (fun _ i _ => gk.length - (intOf i).toNat)
              case atStart => exact ⟨0, by omega, rfl, by simp [mostG], Chg.refl _ _⟩
              case round =>
                obtain ⟨n, hn, rfl, rfl, hcy⟩ := hrel
                have hPy := hPr.quiet hcy
                have x2y : wr.cell? ⟨X, 2, none⟩ = some (.slice (some ⟨bz, oz, none⟩) gsz.length cz) := cell_of hPy.wx 2
                have hxy := (World.cell?_of_block (hcy.block bz (World.block_lt_of_cell? _ ⟨bz, oz + k, none⟩ hx) (fun h => h))).trans hx
                have hmg := mostG_le gk n
                clear x2r hx
                by_cases hnl : n < gk.length
                · obtain ⟨by_, oy, rfl, hy⟩ := (HTX.out.quiet hcy).at n hnl
                  have hgt := mostG_take hnl
                  have hmg1 := mostG_le gk (n + 1)
                  have hzs := strB_size gk[n]
                  generalize gk[n] = r at *
                  go_wp2
                  go_roundw
                  case rel => exact ⟨n + 1, by omega, by go_num, by rw [hgt]; go_num, hcy⟩
                  case measure => simp [intOf]; omega
                · obtain rfl : n = gk.length := by omega
                  rw [List.take_length]
                  go_wp2
                  go_roundw
                  case rel => exact ⟨k + 1, by omega, by go_num, by rw [hmt]; go_num, hcv.trans hcy (fun _ _ h => h)⟩
                  case measure => simp [intOf]; omega
            · obtain rfl : k = gsz.length := by omega
              rw [List.take_length]
              have x1r : wr.cell? ⟨X, 1, none⟩ = some (.pointer (some ⟨a, 0, none⟩)) := cell_of hPr.wx 1
              have hby := bytes_lg hPr.la
              rw [hwh] at hby
              have hbr : Below w.heap.size w wr := hbwv.trans (hcv.below (fun _ h => h.elim) hbwv.size)
              have hz0 : gsz.length = 0 → (laid sum4 gsz).length = 0 := fun e => by rw [List.eq_nil_of_length_eq_zero e]; rfl
              have HPR := hide hPr
              clear hPr
              generalize (laid sum4 gsz).length = bl at *
              have hb0 : ¬ ((bl : Int) < 0) := by omega
              have hbm : ¬ ((((100 + 30 * gsz.length + mostW gsz : Nat)) : Int) < (bl : Int)) := by omega
              go_wp2_with fail
              refine hby.mono ?_
              rintro e wx1 ⟨rfl, hwx1⟩
              rw [hwx1]
              clear hwx1 wx1
              go_wp2_with fail
              refine hby.mono ?_
              rintro e wx1 ⟨rfl, hwx1⟩
              rw [hwx1]
              clear hwx1 wx1
              by_cases hg0 : gsz.length = 0
              · have hb1 : bl = 0 := hz0 hg0
                have hg1 : ((gsz.length : Int) == 0) = true := by simp [hg0]
                rw [hb1] at hby
                clear hg0
                go_wp2_with fail
                refine hby.mono ?_
                rintro e wx1 ⟨rfl, hwx1⟩
                rw [hwx1]
                clear hwx1 wx1
                go_wp2
                go_roundw
                case rel => exact ⟨j + 1, a, Fz, Sz, Lz, _, gsz, f, ks, t, by go_num, by omega, by omega, HPR.out, HPI.out, hbr⟩
                case measure => simp [intOf]; omega
              · have hg1 : ((gsz.length : Int) == 0) = false := by rw [beq_eq_false_iff_ne]; omega
                clear hg0
                go_wp2
                go_roundw
                case rel => exact ⟨j + 1, a, Fz, Sz, Lz, _, gsz, f, ks, t, by go_num, by omega, by omega, HPR.out, HPI.out, hbr⟩
                case measure => simp [intOf]; omega
      · as_aux_lemma =>
          have hz1 : (ez == 0) = false := by simp [hz]
          have hz2 : (ez == 35) = false := by rw [beq_eq_false_iff_ne]; omega
          have hPwz := hP5
          have hbwz := hb5
          have hPi : Pi (j + 1) Sz Lz gsa ks t := ⟨laid_old hlaid hz (by intro e; dsimp only at e; omega), hlit5, hfl5, hroom5, by omega, by omega, by omega, by omega⟩
          clear hrk5 hlaid hlit5 hfl5 hroom5 hans' hhas hP5 hb5 hz
          go_upto_region 17 with fail
          generalize wl = wz at *
          generalize ga = gz at *
          generalize gsa = gsz at *
          have hHz := hPi.has
          have hokz := hPwz.la.1.ok
          have hbk := hPi.bulk
          have hbl60 := bd_le (k := j + 1) (by omega)

          have x0wu : wz.drew.cell? ⟨X, 0, none⟩ = some (.pointer (some ⟨d, 0, none⟩)) := cell_of hPwz.wx 0
          have x2wu : wz.drew.cell? ⟨X, 2, none⟩ = some gz := cell_of hPwz.wx 2
          have hPdwu := hPwz.quiet ((Chg.refl (fun _ => False) wz).drew)
          have hbdwu : Below w.heap.size w wz.drew := hbwz.drew
          have hcrwu := crash_lies hPdwu.la.1 hbdwu.size 0 0 (by omega)
          have hcmwu := calm_crash (S := Sz) 0 0
          have hbcwu := bulk_crash (S := Sz) 0 0
          obtain ⟨tlwu, hOnwu⟩ := has_crash1 hHz hokz 0 0
          go_wp2_with fail
          refine wp_region_held_drew (S := fun W => W.cell? ⟨X, 0, none⟩ = some (.pointer (some ⟨d, 0, none⟩)) ∧ W.cell? ⟨X, 2, none⟩ = some gz) (by kernel_rfl) (⟨x0wu, x2wu⟩) (fun hHeld => ?_)
          refine takeH (i := 0) (v := ?_) rfl (by kernel_rfl) (by kernel_rfl) (by kernel_rfl) (fun _ _ _ h => h) rfl ?_ hHeld ?_
          rotate_left
          · intro w hS; (try dsimp only at hS); obtain ⟨hS0, hS1⟩ := hS; go_simp; first | done | (with_reducible rfl)
          try simp only [Act.put, List.setIfInBounds_toArray, List.set_cons_zero, List.set_cons_succ]
          refine takeH (i := 1) (v := ?_) rfl (by kernel_rfl) (by kernel_rfl) (by kernel_rfl) (fun _ _ _ h => h) rfl ?_ hHeld ?_
          rotate_left
          · intro w hS; (try dsimp only at hS); obtain ⟨hS0, hS1⟩ := hS; go_simp; first | done | (with_reducible rfl)
          try simp only [Act.put, List.setIfInBounds_toArray, List.set_cons_zero, List.set_cons_succ]
          refine takeH (i := 2) (v := ?_) rfl (by kernel_rfl) (by kernel_rfl) (by kernel_rfl) (fun _ _ _ h => h) rfl ?_ hHeld ?_
          rotate_left
          · intro w hS; (try dsimp only at hS); obtain ⟨hS0, hS1⟩ := hS; go_simp; first | done | (with_reducible rfl)
          try simp only [Act.put, List.setIfInBounds_toArray, List.set_cons_zero, List.set_cons_succ]
          refine takeH (i := 3) (v := ?_) rfl (by kernel_rfl) (by kernel_rfl) (by kernel_rfl) (fun _ _ _ h => h) rfl ?_ hHeld ?_
          rotate_left
          · intro w hS; (try dsimp only at hS); obtain ⟨hS0, hS1⟩ := hS; go_simp; first | done | (with_reducible rfl)
          try simp only [Act.put, List.setIfInBounds_toArray, List.set_cons_zero, List.set_cons_succ]
          refine takeH (i := 5) (v := ?_) rfl (by kernel_rfl) (by kernel_rfl) (by kernel_rfl) (fun _ _ _ h => h) rfl ?_ hHeld ?_
          rotate_left
          · intro w hS; (try dsimp only at hS); obtain ⟨hS0, hS1⟩ := hS; go_simp; first | done | (with_reducible rfl)
          try simp only [Act.put, List.setIfInBounds_toArray, List.set_cons_zero, List.set_cons_succ]
          refine takeH (i := 6) (v := ?_) rfl (by kernel_rfl) (by kernel_rfl) (by kernel_rfl) (fun _ _ _ h => h) rfl ?_ hHeld ?_
          rotate_left
          · intro w hS; (try dsimp only at hS); obtain ⟨hS0, hS1⟩ := hS; go_simp; first | done | (with_reducible rfl)
          try simp only [Act.put, List.setIfInBounds_toArray, List.set_cons_zero, List.set_cons_succ]
          refine takeH (i := 7) (v := ?_) rfl (by kernel_rfl) (by kernel_rfl) (by kernel_rfl) (fun _ _ _ h => h) rfl ?_ hHeld ?_
          rotate_left
          · intro w hS; (try dsimp only at hS); obtain ⟨hS0, hS1⟩ := hS; go_simp; first | done | (with_reducible rfl)
          try simp only [Act.put, List.setIfInBounds_toArray, List.set_cons_zero, List.set_cons_succ]
          refine takeH (i := 8) (v := ?_) rfl (by kernel_rfl) (by kernel_rfl) (by kernel_rfl) (fun _ _ _ h => h) rfl ?_ hHeld ?_
          rotate_left
          · intro w hS; (try dsimp only at hS); obtain ⟨hS0, hS1⟩ := hS; go_simp; first | done | (with_reducible rfl)
          try simp only [Act.put, List.setIfInBounds_toArray, List.set_cons_zero, List.set_cons_succ]
          refine onlyH (i := 4) rfl (by kernel_rfl) rfl (fun K hK => ?_)
          go_simp
          refine hcrwu.mono ?_
          rintro e wcwu ⟨dcwu, Fcwu, rfl, hstwu, hFwu, hcwu⟩
          have hPcwu := hPdwu.quiet hcwu
          have hbc2wu := hbdwu.trans (hcwu.below (fun _ h => h.elim) hbdwu.size)
          have hrkwu := (hPdwu.ra.mono (Q := fun k => ¬ Fcwu k) (fun k hk _ h => by have := hFwu k h; omega)).keep hcwu (fun _ _ h => h)
          refine hK.out _ _ (⟨cell_of hPcwu.wx 0, cell_of hPcwu.wx 2⟩) (fun hHeld => ?_)
          clear hK K
          try simp only [Act.put, List.setIfInBounds_toArray, List.set_cons_zero, List.set_cons_succ]
          refine onlyH (i := 9) rfl (by kernel_rfl) rfl (fun K hK => ?_)
          go_simp
          refine (told_any hstwu hOnwu (calm_on hcmwu) (hcmwu.2 _) hbc2wu.size hB0 (HT.out.keep hbc2wu) (by omega) hrkwu).mono ?_
          rintro e wu ⟨rfl, htwu⟩
          have hqwu : Chg (fun _ => False) wz.drew wu := hcwu.trans htwu (fun k hk h => by have := hFwu k h; omega)
          have hPwu := hPdwu.quiet hqwu
          have hbwu := hbdwu.trans (hqwu.below (fun _ h => h.elim) hbdwu.size)
          refine hK.out _ _ (⟨cell_of hPwu.wx 0, cell_of hPwu.wx 2⟩) (fun hHeld => ?_)
          clear hK K
          try simp only [Act.put, List.setIfInBounds_toArray, List.set_cons_zero, List.set_cons_succ]
          refine takeH (i := 10) (v := ?_) rfl (by kernel_rfl) (by kernel_rfl) (by kernel_rfl) (fun _ _ _ h => h) rfl ?_ hHeld ?_
          rotate_left
          · intro w hS; (try dsimp only at hS); obtain ⟨hS0, hS1⟩ := hS; go_simp; first | done | (with_reducible rfl)
          try simp only [Act.put, List.setIfInBounds_toArray, List.set_cons_zero, List.set_cons_succ]
          refine wpAnyH_done (by kernel_rfl) ?_ _
          clear hHeld x0wu x2wu hPdwu hbdwu hcrwu hcmwu hbcwu hOnwu hstwu hFwu hcwu hPcwu hbc2wu hrkwu htwu hqwu hPwz hbwz

          have x0wv : wu.drew.cell? ⟨X, 0, none⟩ = some (.pointer (some ⟨d, 0, none⟩)) := cell_of hPwu.wx 0
          have x2wv : wu.drew.cell? ⟨X, 2, none⟩ = some gz := cell_of hPwu.wx 2
          have hPdwv := hPwu.quiet ((Chg.refl (fun _ => False) wu).drew)
          have hbdwv : Below w.heap.size w wu.drew := hbwu.drew
          have hcrwv := crash_lies hPdwv.la.1 hbdwv.size keep torn (by omega)
          have hcmwv := calm_crash (S := Sz) keep torn
          have hbcwv := bulk_crash (S := Sz) keep torn
          obtain ⟨tlwv, hOnwv⟩ := has_crash1 hHz hokz keep torn
          go_wp2_with fail
          refine wp_region_held_drew (S := fun W => W.cell? ⟨X, 0, none⟩ = some (.pointer (some ⟨d, 0, none⟩)) ∧ W.cell? ⟨X, 2, none⟩ = some gz) (by kernel_rfl) (⟨x0wv, x2wv⟩) (fun hHeld => ?_)
          refine takeH (i := 0) (v := ?_) rfl (by kernel_rfl) (by kernel_rfl) (by kernel_rfl) (fun _ _ _ h => h) rfl ?_ hHeld ?_
          rotate_left
          · intro w hS; (try dsimp only at hS); obtain ⟨hS0, hS1⟩ := hS; go_simp; first | done | (with_reducible rfl)
          try simp only [Act.put, List.setIfInBounds_toArray, List.set_cons_zero, List.set_cons_succ]
          refine takeH (i := 1) (v := ?_) rfl (by kernel_rfl) (by kernel_rfl) (by kernel_rfl) (fun _ _ _ h => h) rfl ?_ hHeld ?_
          rotate_left
          · intro w hS; (try dsimp only at hS); obtain ⟨hS0, hS1⟩ := hS; go_simp; first | done | (with_reducible rfl)
          try simp only [Act.put, List.setIfInBounds_toArray, List.set_cons_zero, List.set_cons_succ]
          refine takeH (i := 2) (v := ?_) rfl (by kernel_rfl) (by kernel_rfl) (by kernel_rfl) (fun _ _ _ h => h) rfl ?_ hHeld ?_
          rotate_left
          · intro w hS; (try dsimp only at hS); obtain ⟨hS0, hS1⟩ := hS; go_simp; first | done | (with_reducible rfl)
          try simp only [Act.put, List.setIfInBounds_toArray, List.set_cons_zero, List.set_cons_succ]
          refine takeH (i := 3) (v := ?_) rfl (by kernel_rfl) (by kernel_rfl) (by kernel_rfl) (fun _ _ _ h => h) rfl ?_ hHeld ?_
          rotate_left
          · intro w hS; (try dsimp only at hS); obtain ⟨hS0, hS1⟩ := hS; go_simp; first | done | (with_reducible rfl)
          try simp only [Act.put, List.setIfInBounds_toArray, List.set_cons_zero, List.set_cons_succ]
          refine takeH (i := 4) (v := ?_) rfl (by kernel_rfl) (by kernel_rfl) (by kernel_rfl) (fun _ _ _ h => h) rfl ?_ hHeld ?_
          rotate_left
          · intro w hS; (try dsimp only at hS); obtain ⟨hS0, hS1⟩ := hS; go_simp; first | done | (with_reducible rfl)
          try simp only [Act.put, List.setIfInBounds_toArray, List.set_cons_zero, List.set_cons_succ]
          refine takeH (i := 5) (v := ?_) rfl (by kernel_rfl) (by kernel_rfl) (by kernel_rfl) (fun _ _ _ h => h) rfl ?_ hHeld ?_
          rotate_left
          · intro w hS; (try dsimp only at hS); obtain ⟨hS0, hS1⟩ := hS; go_simp; first | done | (with_reducible rfl)
          try simp only [Act.put, List.setIfInBounds_toArray, List.set_cons_zero, List.set_cons_succ]
          refine takeH (i := 7) (v := ?_) rfl (by kernel_rfl) (by kernel_rfl) (by kernel_rfl) (fun _ _ _ h => h) rfl ?_ hHeld ?_
          rotate_left
          · intro w hS; (try dsimp only at hS); obtain ⟨hS0, hS1⟩ := hS; go_simp; first | done | (with_reducible rfl)
          try simp only [Act.put, List.setIfInBounds_toArray, List.set_cons_zero, List.set_cons_succ]
          refine takeH (i := 8) (v := ?_) rfl (by kernel_rfl) (by kernel_rfl) (by kernel_rfl) (fun _ _ _ h => h) rfl ?_ hHeld ?_
          rotate_left
          · intro w hS; (try dsimp only at hS); obtain ⟨hS0, hS1⟩ := hS; go_simp; first | done | (with_reducible rfl)
          try simp only [Act.put, List.setIfInBounds_toArray, List.set_cons_zero, List.set_cons_succ]
          refine takeH (i := 9) (v := ?_) rfl (by kernel_rfl) (by kernel_rfl) (by kernel_rfl) (fun _ _ _ h => h) rfl ?_ hHeld ?_
          rotate_left
          · intro w hS; (try dsimp only at hS); obtain ⟨hS0, hS1⟩ := hS; go_simp; first | done | (with_reducible rfl)
          try simp only [Act.put, List.setIfInBounds_toArray, List.set_cons_zero, List.set_cons_succ]
          refine takeH (i := 10) (v := ?_) rfl (by kernel_rfl) (by kernel_rfl) (by kernel_rfl) (fun _ _ _ h => h) rfl ?_ hHeld ?_
          rotate_left
          · intro w hS; (try dsimp only at hS); obtain ⟨hS0, hS1⟩ := hS; go_simp; first | done | (with_reducible rfl)
          try simp only [Act.put, List.setIfInBounds_toArray, List.set_cons_zero, List.set_cons_succ]
          refine onlyH (i := 6) rfl (by kernel_rfl) rfl (fun K hK => ?_)
          go_simp
          refine hcrwv.mono ?_
          rintro e wcwv ⟨dcwv, Fcwv, rfl, hstwv, hFwv, hcwv⟩
          have hPcwv := hPdwv.quiet hcwv
          have hbc2wv := hbdwv.trans (hcwv.below (fun _ h => h.elim) hbdwv.size)
          have hrkwv := (hPdwv.ra.mono (Q := fun k => ¬ Fcwv k) (fun k hk _ h => by have := hFwv k h; omega)).keep hcwv (fun _ _ h => h)
          refine hK.out _ _ (⟨cell_of hPcwv.wx 0, cell_of hPcwv.wx 2⟩) (fun hHeld => ?_)
          clear hK K
          try simp only [Act.put, List.setIfInBounds_toArray, List.set_cons_zero, List.set_cons_succ]
          refine onlyH (i := 11) rfl (by kernel_rfl) rfl (fun K hK => ?_)
          go_simp
          refine (told_any hstwv hOnwv (calm_on hcmwv) (hcmwv.2 _) hbc2wv.size hB0 (HT.out.keep hbc2wv) (by omega) hrkwv).mono ?_
          rintro e wv ⟨rfl, htwv⟩
          have hqwv : Chg (fun _ => False) wu.drew wv := hcwv.trans htwv (fun k hk h => by have := hFwv k h; omega)
          have hPwv := hPdwv.quiet hqwv
          have hbwv := hbdwv.trans (hqwv.below (fun _ h => h.elim) hbdwv.size)
          refine hK.out _ _ (⟨cell_of hPwv.wx 0, cell_of hPwv.wx 2⟩) (fun hHeld => ?_)
          clear hK K
          try simp only [Act.put, List.setIfInBounds_toArray, List.set_cons_zero, List.set_cons_succ]
          refine takeH (i := 12) (v := ?_) rfl (by kernel_rfl) (by kernel_rfl) (by kernel_rfl) (fun _ _ _ h => h) rfl ?_ hHeld ?_
          rotate_left
          · intro w hS; (try dsimp only at hS); obtain ⟨hS0, hS1⟩ := hS; go_simp; first | done | (with_reducible rfl)
          try simp only [Act.put, List.setIfInBounds_toArray, List.set_cons_zero, List.set_cons_succ]
          refine wpAnyH_done (by kernel_rfl) ?_ _
          clear hHeld x0wv x2wv hPdwv hbdwv hcrwv hcmwv hbcwv hOnwv hstwv hFwv hcwv hPcwv hbc2wv hrkwv htwv hqwv hPwu hbwu

          have hmz := laid_most gsz
          have hlz := laid_least gsz
          have hPl := hPi.len
          have hcz := hPi.cnt
          have hwh : Lz.wh = ((laid sum4 gsz).length : Int) := by obtain ⟨-, tl, -, h, -⟩ := hHz; exact h
          obtain ⟨az, cz, rfl⟩ := hPwv.ra.form
          have x2v : wv.cell? ⟨X, 2, none⟩ = some (.slice az gsz.length cz) := cell_of hPwv.wx 2
          have HPI := hide hPi
          have HPV := hide hPwv
          clear hPi hPwv
          go_wp2_with fail
          go_loopw [28, 29] (fun m i wr => ∃ k : Nat, k ≤ gsz.length ∧ i = .int .i64 (k : Int) ∧ m = .int .i64 (((100 + 30 * gsz.length + mostW (gsz.take k) : Nat)) : Int) ∧ Chg (fun _ => False) wv wr) (fun _ i _ => gsz.length - (intOf i).toNat)
          case atStart => exact ⟨0, by omega, rfl, by go_num, Chg.refl _ _⟩
          case round =>
            obtain ⟨k, hk, rfl, rfl, hcv⟩ := hrel
            have hPr := HPV.out.quiet hcv
            have x2r : wr.cell? ⟨X, 2, none⟩ = some (.slice az gsz.length cz) := cell_of hPr.wx 2
            have hml := mostW_le gsz k
            clear x2v
            by_cases hkl : k < gsz.length
            · obtain ⟨bz, oz, rfl, -, x, hx, hTx⟩ := hPr.ra.rs.at k hkl
              have hmt := mostW_take hkl
              have hml1 := mostW_le gsz (k + 1)
              obtain ⟨gk, hgk⟩ : ∃ gk, gk = gsz[k] := ⟨_, rfl⟩
              rw [← hgk] at hTx hmt
              obtain ⟨ax, cx, rfl⟩ := hTx.form
              have HTX := hide hTx
              have hgn := hTx.len
              unfold maxLen at hgn
              clear hTx hgk
              go_wp2_with fail
              go_loopw [28, 30] (fun m i wy => ∃ n : Nat, n ≤ gk.length ∧ i = .int .i64 (n : Int) ∧ m = .int .i64 (((100 + 30 * gsz.length + mostW (gsz.take k) + mostG (gk.take n) : Nat)) : Int) ∧ Chg (fun _ => False) wr wy) (fun _ i _ => gk.length - (intOf i).toNat)
              case atStart => exact ⟨0, by omega, rfl, by simp [mostG], Chg.refl _ _⟩
              case round =>
                obtain ⟨n, hn, rfl, rfl, hcy⟩ := hrel
                have hPy := hPr.quiet hcy
                have x2y : wr.cell? ⟨X, 2, none⟩ = some (.slice (some ⟨bz, oz, none⟩) gsz.length cz) := cell_of hPy.wx 2
                have hxy := (World.cell?_of_block (hcy.block bz (World.block_lt_of_cell? _ ⟨bz, oz + k, none⟩ hx) (fun h => h))).trans hx
                have hmg := mostG_le gk n
                clear x2r hx
                by_cases hnl : n < gk.length
                · obtain ⟨by_, oy, rfl, hy⟩ := (HTX.out.quiet hcy).at n hnl
                  have hgt := mostG_take hnl
                  have hmg1 := mostG_le gk (n + 1)
                  have hzs := strB_size gk[n]
                  generalize gk[n] = r at *
                  go_wp2
                  go_roundw
                  case rel => exact ⟨n + 1, by omega, by go_num, by rw [hgt]; go_num, hcy⟩
                  case measure => simp [intOf]; omega
                · obtain rfl : n = gk.length := by omega
                  rw [List.take_length]
                  go_wp2
                  go_roundw
                  case rel => exact ⟨k + 1, by omega, by go_num, by rw [hmt]; go_num, hcv.trans hcy (fun _ _ h => h)⟩
                  case measure => simp [intOf]; omega
            · obtain rfl : k = gsz.length := by omega
              rw [List.take_length]
              have x1r : wr.cell? ⟨X, 1, none⟩ = some (.pointer (some ⟨a, 0, none⟩)) := cell_of hPr.wx 1
              have hby := bytes_lg hPr.la
              rw [hwh] at hby
              have hbr : Below w.heap.size w wr := hbwv.trans (hcv.below (fun _ h => h.elim) hbwv.size)
              have hz0 : gsz.length = 0 → (laid sum4 gsz).length = 0 := fun e => by rw [List.eq_nil_of_length_eq_zero e]; rfl
              have HPR := hide hPr
              clear hPr
              generalize (laid sum4 gsz).length = bl at *
              have hb0 : ¬ ((bl : Int) < 0) := by omega
              have hbm : ¬ ((((100 + 30 * gsz.length + mostW gsz : Nat)) : Int) < (bl : Int)) := by omega
              go_wp2_with fail
              refine hby.mono ?_
              rintro e wx1 ⟨rfl, hwx1⟩
              rw [hwx1]
              clear hwx1 wx1
              go_wp2_with fail
              refine hby.mono ?_
              rintro e wx1 ⟨rfl, hwx1⟩
              rw [hwx1]
              clear hwx1 wx1
              by_cases hg0 : gsz.length = 0
              · have hb1 : bl = 0 := hz0 hg0
                have hg1 : ((gsz.length : Int) == 0) = true := by simp [hg0]
                rw [hb1] at hby
                clear hg0
                go_wp2_with fail
                refine hby.mono ?_
                rintro e wx1 ⟨rfl, hwx1⟩
                rw [hwx1]
                clear hwx1 wx1
                go_wp2
                go_roundw
                case rel => exact ⟨j + 1, a, Fz, Sz, Lz, _, gsz, f, ks, t, by go_num, by omega, by omega, HPR.out, HPI.out, hbr⟩
                case measure => simp [intOf]; omega
              · have hg1 : ((gsz.length : Int) == 0) = false := by rw [beq_eq_false_iff_ne]; omega
                clear hg0
                go_wp2
                go_roundw
                case rel => exact ⟨j + 1, a, Fz, Sz, Lz, _, gsz, f, ks, t, by go_num, by omega, by omega, HPR.out, HPI.out, hbr⟩
                case measure => simp [intOf]; omega
    · have hlt' : ¬ (j : Int) < (os.length : Int) ∨ (j : Int) < (os.length : Int) ∧ ¬ (j : Int) < 60 := by omega
      have hHz := hA.has
      have hokz := hO.la.1.ok
      have hbk := hA.bulk
      have hbl60 := bd_le k2
      have hPwr := hO
      have hbwr := bb
      clear hO bb
      generalize S = Sz at *
      generalize ga = gz at *
      rcases hlt' with hl | ⟨hl, hl2⟩
      · as_aux_lemma =>
          have x0wu : wr.drew.cell? ⟨X, 0, none⟩ = some (.pointer (some ⟨d, 0, none⟩)) := cell_of hPwr.wx 0
          have x2wu : wr.drew.cell? ⟨X, 2, none⟩ = some gz := cell_of hPwr.wx 2
          have hPdwu := hPwr.quiet ((Chg.refl (fun _ => False) wr).drew)
          have hbdwu : Below w.heap.size w wr.drew := hbwr.drew
          have hcrwu := crash_lies hPdwu.la.1 hbdwu.size 0 0 (by omega)
          have hcmwu := calm_crash (S := Sz) 0 0
          have hbcwu := bulk_crash (S := Sz) 0 0
          obtain ⟨tlwu, hOnwu⟩ := has_crash1 hHz hokz 0 0
          go_wp2_with fail
          refine wp_region_held_drew (S := fun W => W.cell? ⟨X, 0, none⟩ = some (.pointer (some ⟨d, 0, none⟩)) ∧ W.cell? ⟨X, 2, none⟩ = some gz) (by kernel_rfl) (⟨x0wu, x2wu⟩) (fun hHeld => ?_)
          refine takeH (i := 0) (v := ?_) rfl (by kernel_rfl) (by kernel_rfl) (by kernel_rfl) (fun _ _ _ h => h) rfl ?_ hHeld ?_
          rotate_left
          · intro w hS; (try dsimp only at hS); obtain ⟨hS0, hS1⟩ := hS; go_simp; first | done | (with_reducible rfl)
          try simp only [Act.put, List.setIfInBounds_toArray, List.set_cons_zero, List.set_cons_succ]
          refine takeH (i := 1) (v := ?_) rfl (by kernel_rfl) (by kernel_rfl) (by kernel_rfl) (fun _ _ _ h => h) rfl ?_ hHeld ?_
          rotate_left
          · intro w hS; (try dsimp only at hS); obtain ⟨hS0, hS1⟩ := hS; go_simp; first | done | (with_reducible rfl)
          try simp only [Act.put, List.setIfInBounds_toArray, List.set_cons_zero, List.set_cons_succ]
          refine takeH (i := 2) (v := ?_) rfl (by kernel_rfl) (by kernel_rfl) (by kernel_rfl) (fun _ _ _ h => h) rfl ?_ hHeld ?_
          rotate_left
          · intro w hS; (try dsimp only at hS); obtain ⟨hS0, hS1⟩ := hS; go_simp; first | done | (with_reducible rfl)
          try simp only [Act.put, List.setIfInBounds_toArray, List.set_cons_zero, List.set_cons_succ]
          refine takeH (i := 3) (v := ?_) rfl (by kernel_rfl) (by kernel_rfl) (by kernel_rfl) (fun _ _ _ h => h) rfl ?_ hHeld ?_
          rotate_left
          · intro w hS; (try dsimp only at hS); obtain ⟨hS0, hS1⟩ := hS; go_simp; first | done | (with_reducible rfl)
          try simp only [Act.put, List.setIfInBounds_toArray, List.set_cons_zero, List.set_cons_succ]
          refine takeH (i := 5) (v := ?_) rfl (by kernel_rfl) (by kernel_rfl) (by kernel_rfl) (fun _ _ _ h => h) rfl ?_ hHeld ?_
          rotate_left
          · intro w hS; (try dsimp only at hS); obtain ⟨hS0, hS1⟩ := hS; go_simp; first | done | (with_reducible rfl)
          try simp only [Act.put, List.setIfInBounds_toArray, List.set_cons_zero, List.set_cons_succ]
          refine takeH (i := 6) (v := ?_) rfl (by kernel_rfl) (by kernel_rfl) (by kernel_rfl) (fun _ _ _ h => h) rfl ?_ hHeld ?_
          rotate_left
          · intro w hS; (try dsimp only at hS); obtain ⟨hS0, hS1⟩ := hS; go_simp; first | done | (with_reducible rfl)
          try simp only [Act.put, List.setIfInBounds_toArray, List.set_cons_zero, List.set_cons_succ]
          refine takeH (i := 7) (v := ?_) rfl (by kernel_rfl) (by kernel_rfl) (by kernel_rfl) (fun _ _ _ h => h) rfl ?_ hHeld ?_
          rotate_left
          · intro w hS; (try dsimp only at hS); obtain ⟨hS0, hS1⟩ := hS; go_simp; first | done | (with_reducible rfl)
          try simp only [Act.put, List.setIfInBounds_toArray, List.set_cons_zero, List.set_cons_succ]
          refine takeH (i := 8) (v := ?_) rfl (by kernel_rfl) (by kernel_rfl) (by kernel_rfl) (fun _ _ _ h => h) rfl ?_ hHeld ?_
          rotate_left
          · intro w hS; (try dsimp only at hS); obtain ⟨hS0, hS1⟩ := hS; go_simp; first | done | (with_reducible rfl)
          try simp only [Act.put, List.setIfInBounds_toArray, List.set_cons_zero, List.set_cons_succ]
          refine onlyH (i := 4) rfl (by kernel_rfl) rfl (fun K hK => ?_)
          go_simp
          refine hcrwu.mono ?_
          rintro e wcwu ⟨dcwu, Fcwu, rfl, hstwu, hFwu, hcwu⟩
          have hPcwu := hPdwu.quiet hcwu
          have hbc2wu := hbdwu.trans (hcwu.below (fun _ h => h.elim) hbdwu.size)
          have hrkwu := (hPdwu.ra.mono (Q := fun k => ¬ Fcwu k) (fun k hk _ h => by have := hFwu k h; omega)).keep hcwu (fun _ _ h => h)
          refine hK.out _ _ (⟨cell_of hPcwu.wx 0, cell_of hPcwu.wx 2⟩) (fun hHeld => ?_)
          clear hK K
          try simp only [Act.put, List.setIfInBounds_toArray, List.set_cons_zero, List.set_cons_succ]
          refine onlyH (i := 9) rfl (by kernel_rfl) rfl (fun K hK => ?_)
          go_simp
          refine (told_any hstwu hOnwu (calm_on hcmwu) (hcmwu.2 _) hbc2wu.size hB0 (HT.out.keep hbc2wu) (by omega) hrkwu).mono ?_
          rintro e wu ⟨rfl, htwu⟩
          have hqwu : Chg (fun _ => False) wr.drew wu := hcwu.trans htwu (fun k hk h => by have := hFwu k h; omega)
          have hPwu := hPdwu.quiet hqwu
          have hbwu := hbdwu.trans (hqwu.below (fun _ h => h.elim) hbdwu.size)
          refine hK.out _ _ (⟨cell_of hPwu.wx 0, cell_of hPwu.wx 2⟩) (fun hHeld => ?_)
          clear hK K
          try simp only [Act.put, List.setIfInBounds_toArray, List.set_cons_zero, List.set_cons_succ]
          refine takeH (i := 10) (v := ?_) rfl (by kernel_rfl) (by kernel_rfl) (by kernel_rfl) (fun _ _ _ h => h) rfl ?_ hHeld ?_
          rotate_left
          · intro w hS; (try dsimp only at hS); obtain ⟨hS0, hS1⟩ := hS; go_simp; first | done | (with_reducible rfl)
          try simp only [Act.put, List.setIfInBounds_toArray, List.set_cons_zero, List.set_cons_succ]
          refine wpAnyH_done (by kernel_rfl) ?_ _
          clear hHeld x0wu x2wu hPdwu hbdwu hcrwu hcmwu hbcwu hOnwu hstwu hFwu hcwu hPcwu hbc2wu hrkwu htwu hqwu hPwr hbwr
          go_wp2
          go_ret
          exact ⟨rfl, hbwu⟩
      · as_aux_lemma =>
          have x0wu : wr.drew.cell? ⟨X, 0, none⟩ = some (.pointer (some ⟨d, 0, none⟩)) := cell_of hPwr.wx 0
          have x2wu : wr.drew.cell? ⟨X, 2, none⟩ = some gz := cell_of hPwr.wx 2
          have hPdwu := hPwr.quiet ((Chg.refl (fun _ => False) wr).drew)
          have hbdwu : Below w.heap.size w wr.drew := hbwr.drew
          have hcrwu := crash_lies hPdwu.la.1 hbdwu.size 0 0 (by omega)
          have hcmwu := calm_crash (S := Sz) 0 0
          have hbcwu := bulk_crash (S := Sz) 0 0
          obtain ⟨tlwu, hOnwu⟩ := has_crash1 hHz hokz 0 0
          go_wp2_with fail
          refine wp_region_held_drew (S := fun W => W.cell? ⟨X, 0, none⟩ = some (.pointer (some ⟨d, 0, none⟩)) ∧ W.cell? ⟨X, 2, none⟩ = some gz) (by kernel_rfl) (⟨x0wu, x2wu⟩) (fun hHeld => ?_)
          refine takeH (i := 0) (v := ?_) rfl (by kernel_rfl) (by kernel_rfl) (by kernel_rfl) (fun _ _ _ h => h) rfl ?_ hHeld ?_
          rotate_left
          · intro w hS; (try dsimp only at hS); obtain ⟨hS0, hS1⟩ := hS; go_simp; first | done | (with_reducible rfl)
          try simp only [Act.put, List.setIfInBounds_toArray, List.set_cons_zero, List.set_cons_succ]
          refine takeH (i := 1) (v := ?_) rfl (by kernel_rfl) (by kernel_rfl) (by kernel_rfl) (fun _ _ _ h => h) rfl ?_ hHeld ?_
          rotate_left
          · intro w hS; (try dsimp only at hS); obtain ⟨hS0, hS1⟩ := hS; go_simp; first | done | (with_reducible rfl)
          try simp only [Act.put, List.setIfInBounds_toArray, List.set_cons_zero, List.set_cons_succ]
          refine takeH (i := 2) (v := ?_) rfl (by kernel_rfl) (by kernel_rfl) (by kernel_rfl) (fun _ _ _ h => h) rfl ?_ hHeld ?_
          rotate_left
          · intro w hS; (try dsimp only at hS); obtain ⟨hS0, hS1⟩ := hS; go_simp; first | done | (with_reducible rfl)
          try simp only [Act.put, List.setIfInBounds_toArray, List.set_cons_zero, List.set_cons_succ]
          refine takeH (i := 3) (v := ?_) rfl (by kernel_rfl) (by kernel_rfl) (by kernel_rfl) (fun _ _ _ h => h) rfl ?_ hHeld ?_
          rotate_left
          · intro w hS; (try dsimp only at hS); obtain ⟨hS0, hS1⟩ := hS; go_simp; first | done | (with_reducible rfl)
          try simp only [Act.put, List.setIfInBounds_toArray, List.set_cons_zero, List.set_cons_succ]
          refine takeH (i := 5) (v := ?_) rfl (by kernel_rfl) (by kernel_rfl) (by kernel_rfl) (fun _ _ _ h => h) rfl ?_ hHeld ?_
          rotate_left
          · intro w hS; (try dsimp only at hS); obtain ⟨hS0, hS1⟩ := hS; go_simp; first | done | (with_reducible rfl)
          try simp only [Act.put, List.setIfInBounds_toArray, List.set_cons_zero, List.set_cons_succ]
          refine takeH (i := 6) (v := ?_) rfl (by kernel_rfl) (by kernel_rfl) (by kernel_rfl) (fun _ _ _ h => h) rfl ?_ hHeld ?_
          rotate_left
          · intro w hS; (try dsimp only at hS); obtain ⟨hS0, hS1⟩ := hS; go_simp; first | done | (with_reducible rfl)
          try simp only [Act.put, List.setIfInBounds_toArray, List.set_cons_zero, List.set_cons_succ]
          refine takeH (i := 7) (v := ?_) rfl (by kernel_rfl) (by kernel_rfl) (by kernel_rfl) (fun _ _ _ h => h) rfl ?_ hHeld ?_
          rotate_left
          · intro w hS; (try dsimp only at hS); obtain ⟨hS0, hS1⟩ := hS; go_simp; first | done | (with_reducible rfl)
          try simp only [Act.put, List.setIfInBounds_toArray, List.set_cons_zero, List.set_cons_succ]
          refine takeH (i := 8) (v := ?_) rfl (by kernel_rfl) (by kernel_rfl) (by kernel_rfl) (fun _ _ _ h => h) rfl ?_ hHeld ?_
          rotate_left
          · intro w hS; (try dsimp only at hS); obtain ⟨hS0, hS1⟩ := hS; go_simp; first | done | (with_reducible rfl)
          try simp only [Act.put, List.setIfInBounds_toArray, List.set_cons_zero, List.set_cons_succ]
          refine onlyH (i := 4) rfl (by kernel_rfl) rfl (fun K hK => ?_)
          go_simp
          refine hcrwu.mono ?_
          rintro e wcwu ⟨dcwu, Fcwu, rfl, hstwu, hFwu, hcwu⟩
          have hPcwu := hPdwu.quiet hcwu
          have hbc2wu := hbdwu.trans (hcwu.below (fun _ h => h.elim) hbdwu.size)
          have hrkwu := (hPdwu.ra.mono (Q := fun k => ¬ Fcwu k) (fun k hk _ h => by have := hFwu k h; omega)).keep hcwu (fun _ _ h => h)
          refine hK.out _ _ (⟨cell_of hPcwu.wx 0, cell_of hPcwu.wx 2⟩) (fun hHeld => ?_)
          clear hK K
          try simp only [Act.put, List.setIfInBounds_toArray, List.set_cons_zero, List.set_cons_succ]
          refine onlyH (i := 9) rfl (by kernel_rfl) rfl (fun K hK => ?_)
          go_simp
          refine (told_any hstwu hOnwu (calm_on hcmwu) (hcmwu.2 _) hbc2wu.size hB0 (HT.out.keep hbc2wu) (by omega) hrkwu).mono ?_
          rintro e wu ⟨rfl, htwu⟩
          have hqwu : Chg (fun _ => False) wr.drew wu := hcwu.trans htwu (fun k hk h => by have := hFwu k h; omega)
          have hPwu := hPdwu.quiet hqwu
          have hbwu := hbdwu.trans (hqwu.below (fun _ h => h.elim) hbdwu.size)
          refine hK.out _ _ (⟨cell_of hPwu.wx 0, cell_of hPwu.wx 2⟩) (fun hHeld => ?_)
          clear hK K
          try simp only [Act.put, List.setIfInBounds_toArray, List.set_cons_zero, List.set_cons_succ]
          refine takeH (i := 10) (v := ?_) rfl (by kernel_rfl) (by kernel_rfl) (by kernel_rfl) (fun _ _ _ h => h) rfl ?_ hHeld ?_
          rotate_left
          · intro w hS; (try dsimp only at hS); obtain ⟨hS0, hS1⟩ := hS; go_simp; first | done | (with_reducible rfl)
          try simp only [Act.put, List.setIfInBounds_toArray, List.set_cons_zero, List.set_cons_succ]
          refine wpAnyH_done (by kernel_rfl) ?_ _
          clear hHeld x0wu x2wu hPdwu hbdwu hcrwu hcmwu hbcwu hOnwu hstwu hFwu hcwu hPcwu hbc2wu hrkwu htwu hqwu hPwr hbwr
          go_wp2
          go_ret
          exact ⟨rfl, hbwu⟩
end Go.Proofs.YthjcimgollfmgaaGreatDoor
