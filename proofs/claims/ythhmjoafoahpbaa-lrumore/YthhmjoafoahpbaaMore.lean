/-
  LruMore, walked: with a greater budget nothing goes that stays with a lesser one. Conditions: what came in lies there.
-/
import Derived.Test.YthhmjoafoahpbaaScript
namespace Go.Proofs.Ythhmjoafoahpbaa
open Go.RowKit

theorem more_put {S T : Lr} (h : S.l <+: T.l) (hb : S.budget ≤ T.budget) {k v : Bs} (hw : wt (k, v) ≤ S.budget) : (S.put k v).l <+: (T.put k v).l ∧ S.code k v = 0 ∧ T.code k v = 0 := by
  have hw2 : wt (k, v) ≤ T.budget := Nat.le_trans hw hb
  unfold Lr.put Lr.code
  rw [if_pos hw, if_pos hw2, if_pos hw, if_pos hw2]
  exact ⟨fit_more (List.cons_prefix_cons.2 ⟨rfl, del_prefix k h⟩) hb, rfl, rfl⟩
theorem Ts.take {w : World} {ao : Option Addr} {n cap : Nat} {ys : List Bs} (h : Ts w (.slice ao n cap) ys) {k : Nat} (hk : k ≤ ys.length) : Ts w (.slice ao k cap) (ys.take k) := by
  obtain ⟨ao', cap', hv, h1, h2, h4⟩ := h
  injection hv with e1 e2 e3
  subst e1 e2 e3
  have hlen : (ys.take k).length = k := by simp; omega
  refine ⟨_, _, by rw [hlen], by omega, h2, fun hl => ?_⟩
  obtain ⟨b, off, ha, hlt, hc⟩ := h4 (by rintro rfl; simp at hl)
  refine ⟨b, off, ha, hlt, fun j hj => ?_⟩
  rw [hc j (by rw [hlen] at hj; omega)]
  simp
theorem Ts.quiet {w w' : World} {v : Value} {xs : List Bs} (h : Ts w v xs) (hb : Chg (fun _ => False) w w') : Ts w' v xs := h.below (quiet_below (Nat.le_refl _) hb)

set_option maxRecDepth 20000 in
set_option maxHeartbeats 4000000 in
theorem more_any (w : World) (budget more : Int) (v : Value) (os : List Oq) (hbu : I64 budget) (hmo : I64 more) (h : Ob w.heap.size w v os) (hs : Small os) (hn : os.length ≤ 4611686018427387904) :
    Calls Try.prog 5 #[.int .i64 budget, .int .i64 more, v] w fun e w' => e = .returned (.bool true) ∧ Below w.heap.size w w' := by
  have h' := h
  obtain ⟨ao, cap, rfl, q1, q2, -⟩ := h'
  have hp1 := fun W => pick_any W budget 200 hbu (by omega)
  have hp2 := fun W => pick_any W more 200 hmo (by omega)
  have r1 := pk_range (c := budget) (n := 200) (by omega)
  have r2 := pk_range (c := more) (n := 200) (by omega)
  generalize pk budget 200 = A at *
  generalize pk more 200 = M at *
  obtain ⟨least, rfl⟩ : ∃ n : Nat, A = (n : Int) := ⟨A.toNat, by omega⟩
  obtain ⟨ext, rfl⟩ : ∃ n : Nat, M = (n : Int) := ⟨M.toNat, by omega⟩
  go_enter Try.func5, Try.ntmps5
  go_wp2_with fail
  refine (shown_any w).mono ?_
  rintro e w1 ⟨rfl, hb1⟩
  go_wp2_with fail
  refine (hp1 _).mono ?_
  rintro e w2 ⟨rfl, rfl⟩
  go_wp2_with fail
  refine (new_st (B := w.heap.size) w2 _ (by unfold I64; omega) hb1.size).mono ?_
  rintro e w3 ⟨c, rfl, hcz, s0, hc0, hz3⟩
  have HC1 : Hid (c < w3.heap.size) := by show c < w3.heap.size; omega
  clear hcz hz3
  have b3 := hb1.trans (quiet_below hb1.size hc0)
  unfold pt
  go_wp2_with fail
  refine (hp2 _).mono ?_
  rintro e w4 ⟨rfl, rfl⟩
  go_wp2_with fail
  refine (new_st (B := w.heap.size) w4 _ (by unfold I64; omega) b3.size).mono ?_
  rintro e w5 ⟨d, rfl, hdz, t0, hc5, -⟩
  have hcd : c ≠ d := by have := HC1.out; omega
  clear hdz HC1
  have b5 := b3.trans (quiet_below b3.size hc5)
  have s5 := s0.quiet hc5
  have e1 : ((least : Int)).toNat = least := by omega
  have e2 : ((least : Int) + (ext : Int)).toNat = least + ext := by omega
  rw [e1] at s5
  rw [e2] at t0
  unfold pt
  clear s0 hc0 hc5 hp1 hp2 e1 e2
  go_wp2_with fail
  go_loopw [11] (fun i wr => ∃ (j : Nat) (F G : Nat → Prop) (S T : Lr), i = .int .i64 (j : Int) ∧ j ≤ os.length ∧ j ≤ 100 ∧ St w.heap.size wr F c S ∧ St w.heap.size wr G d T ∧ (∀ k, F k → ¬ G k) ∧ S.budget = least ∧ T.budget = least + ext ∧ S.l <+: T.l ∧ T.l.length ≤ j ∧ Below w.heap.size w wr)
    (fun i _ => 100 - (intOf i).toNat)
  case atStart => exact ⟨0, _, _, _, _, rfl, by omega, by omega, s5, t0, (fun k hk hk2 => hcd (hk.symm.trans hk2)), rfl, rfl, List.nil_prefix, by simp, b5⟩
  case round =>
    clear s5 t0 b5
    obtain ⟨j, F, G, S, T, rfl, j1, j2, st, tt, hFG, hSb, hTb, hpre, hlen, bb⟩ := hrel
    have hSl : S.l.length ≤ j := Nat.le_trans hpre.length_le hlen
    by_cases hlt : j < os.length ∧ j < 100
    · obtain ⟨j3, j4⟩ := hlt
      obtain ⟨b, off, rfl, hbB, hop⟩ := Ob.at (h.keep bb) j3
      have hsm := hs os[j] (List.getElem_mem j3)
      generalize os[j] = o at hop hsm
      obtain ⟨kind, k1, v1, kk⟩ := o
      obtain ⟨d0, d1, d2, ⟨u, d3, hu⟩, d4⟩ := hop
      obtain ⟨hsm, hkl⟩ := hsm
      dsimp only at d0 d1 d2 d3 hu d4 hsm hkl
      have hu' := hu
      obtain ⟨ua, uc, rfl, u1, u2, -⟩ := hu'
      have z1 := strB_size k1
      have z2 := strB_size v1
      have hm1 := hsm.1
      have hm2 := hsm.2
      simp only at hm1 hm2
      have hcA : Chg (fun _ => False) wr (wr.alloc (.cells #[.int .i64 kind, .string (strB k1), .string (strB v1), .slice ua kk.length uc] 30)) := (Chg.refl _ wr).alloc _
      have bA := bb.trans (quiet_below bb.size hcA)
      have stA := st.quiet hcA
      have ttA := tt.quiet hcA
      have huA := hu.keep (quiet_below bb.size hcA)
      have hlA := heap_last wr (.cells #[.int .i64 kind, .string (strB k1), .string (strB v1), .slice ua kk.length uc] 30)
      obtain ⟨q, hq⟩ : ∃ q, q = wr.heap.size := ⟨_, rfl⟩
      rw [← hq] at hlA
      have hqF : ¬ F q := fun hf => by have := st.lies.inn q hf; omega
      have hqG : ¬ G q := fun hf => by have := tt.lies.inn q hf; omega
      have hqw : w.heap.size ≤ q := by rw [hq]; exact bb.size
      clear st tt hu
      by_cases hbig : least < k1.length + v1.length
      · have hbig2 : (least : Int) < (k1.length : Int) + (v1.length : Int) := by omega
        go_wp2_with fail
        exact ⟨⟨j + 1, F, G, S, T, by go_num, by omega, by omega, stA, ttA, hFG, hSb, hTb, hpre, by omega, bA⟩, by simp [intOf]; omega⟩
      · have hbig2 : ¬ (least : Int) < (k1.length : Int) + (v1.length : Int) := by omega
        have hpk := fun W => pick_any W kind 7 d4 (by omega)
        have pr := pk_range (c := kind) (n := 7) (by omega)
        have x0 := cell_of hlA 0
        have x1 := cell_of hlA 1
        have x2 := cell_of hlA 2
        have x3 := cell_of hlA 3
        simp at x0 x1 x2 x3
        have HQ := hide hq
        rw [hq] at x0 x1 x2 x3
        generalize pk kind 7 = kd at *
        by_cases hk6 : kd = 6
        · subst hk6
          have hdr := drop_st stA _ kk (huA.tf bA.size stA.new) hkl
          unfold pt at hdr
          go_wp2_with fail
          refine (hpk _).mono ?_
          rintro e w6 ⟨rfl, hw6⟩
          rw [hw6]
          clear hw6
          go_wp2_with fail
          refine hdr.mono ?_
          rintro e w6 ⟨rfl, s6, hc6⟩
          have t6 := ttA.keep hc6 (fun k hk hf => hFG k hf hk)
          have b6 := bA.trans (stA.below bA.size hc6)
          have y3 := cell_of (hc6.keep hlA hqF) 3
          simp at y3
          rw [hq] at y3
          have hu6 := huA.keep (stA.below bA.size hc6)
          have hdr2 := drop_st t6 _ kk (hu6.tf b6.size t6.new) hkl
          unfold pt at hdr2
          clear stA ttA
          go_wp2_with fail
          refine hdr2.mono ?_
          rintro e w7 ⟨rfl, tt7, hc7⟩
          have st7 := s6.keep hc7 hFG
          have b7 := b6.trans (t6.below b6.size hc7)
          have hp7 : (S.drop kk).l <+: (T.drop kk).l := dropAll_prefix kk hpre
          have hl7 : (T.drop kk).l.length ≤ j + 1 := Nat.le_trans (dropAll_len kk T.l) (by omega)
          have hSb7 : (S.drop kk).budget = least := hSb
          have hTb7 : (T.drop kk).budget = least + ext := hTb
          have hFG7 := hFG
          generalize S.drop kk = S7 at *
          generalize T.drop kk = T7 at *
          obtain ⟨F7, hF7⟩ : ∃ F7, F7 = F := ⟨_, rfl⟩
          obtain ⟨G7, hG7⟩ : ∃ G7, G7 = G := ⟨_, rfl⟩
          rw [← hF7] at st7 hFG7
          rw [← hG7] at tt7 hFG7
          clear s6 t6 hF7 hG7
          have hxe := List.prefix_iff_eq_take.1 (hp7.map (·.1))
          have hle7 := (hp7.map (·.1)).length_le
          have hn7 : (T7.l.map (·.1)).length ≤ 1000 := by simp; omega
          go_wp2_with fail
          refine (keys_any st7.lies).mono ?_
          rintro e w8 ⟨va, rfl, oa, hc8⟩
          have tt8 := tt7.quiet hc8
          have b8 := b7.trans (quiet_below b7.size hc8)
          have st8 := st7.quiet hc8
          clear st7 tt7
          go_wp2_with fail
          refine (keys_any tt8.lies).mono ?_
          rintro e w9 ⟨vb, rfl, ob, hc9⟩
          have st9 := st8.quiet hc9
          have tt9 := tt8.quiet hc9
          have b9 := b8.trans (quiet_below b8.size hc9)
          have oa9 := oa.ts.quiet hc9
          have ob9 := ob.ts
          obtain ⟨aa, ac, rfl⟩ := own_shape oa
          obtain ⟨ba, bc, rfl⟩ := own_shape ob
          have hcap : (T7.l.map (·.1)).length ≤ bc := by
            obtain ⟨_, _, hv, h1, _⟩ := ob9
            injection hv with _ _ e3
            subst e3
            exact h1
          have ob10 := ob9.take hle7
          have HXE := hide hxe
          clear oa ob st8 tt8 hc8 hc9 ob9 hxe
          have hd7 : (decide (((T7.l.map (·.1)).length : Int) < ((S7.l.map (·.1)).length : Int))) = false := decide_eq_false (by omega)
          have hq7 : ((S7.l.map (·.1)).length : Int) ≤ (bc : Int) := by omega
          generalize hxs : S7.l.map (·.1) = xs at *
          generalize hys : T7.l.map (·.1) = ys at *
          clear hxs hys
          go_wp2_with fail
          refine (same_any _ _ _ xs (ys.take xs.length) oa9 ob10 (by omega) (by simp; omega)).mono ?_
          rintro e w10 ⟨rfl, hc10⟩
          rw [decide_eq_true HXE.out]
          go_wp2_with fail
          exact ⟨⟨j + 1, F7, G7, S7, T7, by go_num, by omega, by omega, st9.quiet hc10, tt9.quiet hc10, hFG7, hSb7, hTb7, hp7, by omega, b9.trans (quiet_below b9.size hc10)⟩, by simp [intOf]; omega⟩
        · have hk7 : (kd == 6) = false := by simp [hk6]
          have hw : wt (k1, v1) ≤ S.budget := by rw [hSb]; unfold wt; simp only; omega
          obtain ⟨hp7, hcS, hcT⟩ := more_put hpre (by omega) hw
          have hpu := put_st stA bA.size k1 v1 hsm (by omega)
          rw [hcS] at hpu
          unfold pt at hpu
          go_wp2_with fail
          refine (hpk _).mono ?_
          rintro e w6 ⟨rfl, hw6⟩
          rw [hw6]
          clear hw6
          go_wp2_with fail
          refine hpu.mono ?_
          rintro e w6 ⟨g6, b0, F7, rfl, hb0, -, s6, hF7, hc6⟩
          have t6 := ttA.keep hc6 (fun k hk hf => hFG k hf hk)
          have b6 := bA.trans (stA.below bA.size hc6)
          have hl6 := hc6.keep hlA hqF
          have y1 := cell_of hl6 1
          have y2 := cell_of hl6 2
          simp at y1 y2
          rw [hq] at y1 y2
          have hFG6 : ∀ k, F7 k → ¬ G k := fun k hk hg => by
            rcases (hF7 k hk).1 with hh | hh
            · exact hFG k hh hg
            · have := ttA.lies.inn k hg
              omega
          have hpu2 := put_st t6 b6.size k1 v1 hsm (by omega)
          rw [hcT] at hpu2
          unfold pt at hpu2
          clear stA ttA hl6
          go_wp2_with fail
          refine hpu2.mono ?_
          rintro e w7 ⟨g7, b1, G7, rfl, hb1', -, tt7, hG7, hc7⟩
          have st7 := s6.keep hc7 (fun k hk hg => hFG6 k hk hg)
          have b7 := b6.trans (t6.below b6.size hc7)
          have hFG7 : ∀ k, F7 k → ¬ G7 k := fun k hk hg => by
            rcases (hG7 k hg).1 with hh | hh
            · exact hFG6 k hk hh
            · have := s6.lies.inn k hk
              omega
          have hl7 : (T.put k1 v1).l.length ≤ j + 1 := Nat.le_trans (put_len T k1 v1) (by omega)
          have hSb7 : (S.put k1 v1).budget = least := (put_budget S k1 v1).trans hSb
          have hTb7 : (T.put k1 v1).budget = least + ext := (put_budget T k1 v1).trans hTb
          generalize S.put k1 v1 = S7 at *
          generalize T.put k1 v1 = T7 at *
          clear s6 t6
          have hxe := List.prefix_iff_eq_take.1 (hp7.map (·.1))
          have hle7 := (hp7.map (·.1)).length_le
          have hn7 : (T7.l.map (·.1)).length ≤ 1000 := by simp; omega
          go_wp2_with fail
          refine (keys_any st7.lies).mono ?_
          rintro e w8 ⟨va, rfl, oa, hc8⟩
          have tt8 := tt7.quiet hc8
          have b8 := b7.trans (quiet_below b7.size hc8)
          have st8 := st7.quiet hc8
          clear st7 tt7
          go_wp2_with fail
          refine (keys_any tt8.lies).mono ?_
          rintro e w9 ⟨vb, rfl, ob, hc9⟩
          have st9 := st8.quiet hc9
          have tt9 := tt8.quiet hc9
          have b9 := b8.trans (quiet_below b8.size hc9)
          have oa9 := oa.ts.quiet hc9
          have ob9 := ob.ts
          obtain ⟨aa, ac, rfl⟩ := own_shape oa
          obtain ⟨ba, bc, rfl⟩ := own_shape ob
          have hcap : (T7.l.map (·.1)).length ≤ bc := by
            obtain ⟨_, _, hv, h1, _⟩ := ob9
            injection hv with _ _ e3
            subst e3
            exact h1
          have ob10 := ob9.take hle7
          have HXE := hide hxe
          clear oa ob st8 tt8 hc8 hc9 ob9 hxe
          have hd7 : (decide (((T7.l.map (·.1)).length : Int) < ((S7.l.map (·.1)).length : Int))) = false := decide_eq_false (by omega)
          have hq7 : ((S7.l.map (·.1)).length : Int) ≤ (bc : Int) := by omega
          generalize hxs : S7.l.map (·.1) = xs at *
          generalize hys : T7.l.map (·.1) = ys at *
          clear hxs hys
          go_wp2_with fail
          refine (same_any _ _ _ xs (ys.take xs.length) oa9 ob10 (by omega) (by simp; omega)).mono ?_
          rintro e w10 ⟨rfl, hc10⟩
          rw [decide_eq_true HXE.out]
          go_wp2_with fail
          exact ⟨⟨j + 1, F7, G7, S7, T7, by go_num, by omega, by omega, st9.quiet hc10, tt9.quiet hc10, hFG7, hSb7, hTb7, hp7, by omega, b9.trans (quiet_below b9.size hc10)⟩, by simp [intOf]; omega⟩
    · by_cases hil : j < os.length
      · obtain rfl : j = 100 := by omega
        go_wp2
        go_ret
        exact ⟨rfl, bb⟩
      · obtain rfl : j = os.length := by omega
        go_wp2
        go_ret
        exact ⟨rfl, bb⟩
end Go.Proofs.Ythhmjoafoahpbaa
