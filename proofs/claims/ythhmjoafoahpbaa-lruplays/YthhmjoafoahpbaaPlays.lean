/-
  LruPlays, walked: a cache does just what the document says, call by call. Conditions: what came in lies there.
-/
import Derived.Test.YthhmjoafoahpbaaRef5
namespace Go.Proofs.Ythhmjoafoahpbaa
open Go.RowKit

set_option maxRecDepth 20000 in
set_option maxHeartbeats 16000000 in
theorem plays_any (w : World) (budget : Int) (v : Value) (os : List Oq) (hbu : I64 budget) (h : Ob w.heap.size w v os) (hs : Small os) (hn : os.length ≤ 4611686018427387904) :
    Calls Try.prog 3 #[.int .i64 budget, v] w fun e w' => e = .returned (.bool true) ∧ Below w.heap.size w w' := by
  have h' := h
  obtain ⟨ao, cap, rfl, q1, q2, -⟩ := h'
  have hmb : budget.toNat ≤ 9223372036854775807 := by unfold I64 at hbu; omega
  go_enter Try.func3, Try.ntmps3
  go_wp2_with fail
  refine (shown_any w).mono ?_
  rintro e w1 ⟨rfl, hb1⟩
  go_wp2_with fail
  refine (none_any w1).mono ?_
  rintro e w1b ⟨rfl, hb1b⟩
  have b1 := hb1.trans (Below.mono hb1b hb1.size)
  go_wp2_with fail
  refine (new_st (B := w.heap.size) w1b _ hbu b1.size).mono ?_
  rintro e w2 ⟨c, rfl, hcz, s0, hc0, hz2⟩
  have HC1 : Hid (c < w2.heap.size) := by show c < w2.heap.size; omega
  clear hcz hz2
  have b2 := b1.trans (quiet_below b1.size hc0)
  unfold pt
  go_wp2_with fail
  refine (rnew_any w2 _ hbu).mono ?_
  rintro e w3 ⟨r, rfl, hrz, rf0, hc3⟩
  have hcr : c ≠ r := by have := HC1.out; omega
  have hrB : w.heap.size ≤ r := by rw [hrz]; exact b2.size
  clear hrz HC1
  have s3 := s0.quiet hc3
  have b3 := b2.trans (quiet_below b2.size hc3)
  obtain ⟨bud, hbud⟩ : ∃ bud, bud = budget.toNat := ⟨_, rfl⟩
  rw [← hbud] at s3 rf0 hmb
  clear s0 hc0 hc3 hbud
  unfold pt
  go_wp2_with fail
  go_loopw [9] (fun i wr => ∃ (j : Nat) (F G : Nat → Prop) (S : Lr), i = .int .i64 (j : Int) ∧ j ≤ os.length ∧ j ≤ 200 ∧ St w.heap.size wr F c S ∧ Rf wr G r S ∧ (∀ k, F k → ¬ G k) ∧ (∀ k, G k → w.heap.size ≤ k) ∧ S.budget = bud ∧ S.l.length ≤ 2 * j ∧ Below w.heap.size w wr)
    (fun i _ => 200 - (intOf i).toNat)
  case atStart => exact ⟨0, _, _, _, rfl, by omega, by omega, s3, rf0, (fun k h1 h2 => hcr (h1.symm.trans h2)), (fun k hk => by rw [hk]; exact hrB), rfl, by simp, b3⟩
  case round =>
    clear s3 rf0 b3 b2 b1 hb1 hb1b
    obtain ⟨j, F, G, S, rfl, j1, j2, st, rf, hFG, hGB, hSb, hln, bb⟩ := hrel
    by_cases hlt : j < os.length ∧ j < 200
    · obtain ⟨j3, j4⟩ := hlt
      obtain ⟨b, off, rfl, hbB, hop⟩ := Ob.at (h.keep bb) j3
      obtain ⟨hsm, hkl⟩ := hs os[j] (List.getElem_mem j3)
      generalize os[j] = o at hop hsm hkl
      obtain ⟨kind, key, val, kk⟩ := o
      obtain ⟨d0, d1, d2, ⟨u, d3, hu⟩, d4⟩ := hop
      dsimp only at d0 d1 d2 d3 hu d4 hsm hkl
      have hu' := hu
      obtain ⟨ua, uc, rfl, u1, u2, u4⟩ := hu'
      have hcA : Chg (fun _ => False) wr (wr.alloc (.cells #[.int .i64 kind, .string (strB key), .string (strB val), .slice ua kk.length uc] 30)) := (Chg.refl _ wr).alloc _
      have bA := bb.trans (quiet_below bb.size hcA)
      have stA := st.quiet hcA
      have rfA := rf.quiet hcA
      have huA := hu.keep (quiet_below bb.size hcA)
      have hlA := heap_last wr (.cells #[.int .i64 kind, .string (strB key), .string (strB val), .slice ua kk.length uc] 30)
      have hqF : ¬ F wr.heap.size := fun hf => by have := st.lies.inn _ hf; omega
      have hqG : ¬ G wr.heap.size := fun hf => by have := rf.inn _ hf; omega
      have hU := st.lies.ok.uniq
      have hpk := fun W => pick_any W kind 7 d4 (by omega)
      have pr := pk_range (c := kind) (n := 7) (by omega)
      have HGL : Hid ((S.went key val).length ≤ 1000) := by
        show (S.went key val).length ≤ 1000
        unfold Lr.went
        split
        · have h1 : (del key S.l).length ≤ S.l.length := List.length_filter_le ..
          simp only [gone, List.length_reverse, List.length_map, List.length_drop, List.length_cons]
          omega
        · simp
      clear st rf hu
      go_wp2_with fail
      refine (hpk _).mono ?_
      rintro e w6 ⟨rfl, hw6⟩
      rw [hw6]
      clear hw6 hpk
      generalize hWA : wr.alloc (.cells #[.int .i64 kind, .string (strB key), .string (strB val), .slice ua kk.length uc] 30) = wA at *
      generalize hq : wr.heap.size = q at *
      clear hWA hq
      have x1 : wA.cell? ⟨q, 1, none⟩ = some (.string (strB key)) := cell_of hlA 1
      have x2 : wA.cell? ⟨q, 2, none⟩ = some (.string (strB val)) := cell_of hlA 2
      have x3 : wA.cell? ⟨q, 3, none⟩ = some (.slice ua kk.length uc) := cell_of hlA 3
      have hcase : pk kind 7 = 0 ∨ pk kind 7 = 1 ∨ pk kind 7 = 2 ∨ pk kind 7 = 3 ∨ pk kind 7 = 4 ∨ pk kind 7 = 5 ∨ pk kind 7 = 6 := by omega
      generalize pk kind 7 = kd at *
      clear pr hcA
      rcases hcase with rfl | rfl | rfl | rfl | rfl | rfl | rfl
      · skip
        have hpu := put_st stA bA.size key val hsm (by omega)
        unfold pt at hpu
        go_wp2_with fail
        refine hpu.mono ?_
        rintro e w6 ⟨gv, b0, F7, rfl, hb0, ow6, s6, hF7, hc6⟩
        have r6 := rfA.keep hc6 (fun k hk hf => hFG k hf hk)
        have lA6 := hc6.keep hlA hqF
        have b6 := bA.trans (stA.below bA.size hc6)
        have y1 : w6.cell? ⟨q, 1, none⟩ = some (.string (strB key)) := cell_of lA6 1
        have y2 : w6.cell? ⟨q, 2, none⟩ = some (.string (strB val)) := cell_of lA6 2
        have hpr := rput_any r6 hU key val hsm (by omega) (by rw [hSb]; exact hmb)
        unfold pt at hpr
        have hFG6 : ∀ k, F7 k → ¬ G k := fun k hk hg => by
          rcases (hF7 k hk).1 with hh | hh
          · exact hFG k hh hg
          · have := rfA.inn k hg
            omega
        go_wp2_with fail
        refine hpr.mono ?_
        rintro e w7 ⟨gw, rfl, ow7, G7, r7, hG7, hc7⟩
        have s7 := s6.keep hc7 (fun k hk hg => hFG6 k hk hg)
        have b7 := b6.trans (hc7.below hGB b6.size)
        have hFG7 : ∀ k, F7 k → ¬ G7 k := fun k hk hg => by
          rcases hG7 k hg with hh | hh
          · exact hFG6 k hk hh
          · have := s6.lies.inn k hk
            omega
        have hGB7 : ∀ k, G7 k → w.heap.size ≤ k := fun k hk => by
          rcases hG7 k hk with hh | hh
          · exact hGB k hh
          · exact Nat.le_trans b6.size hh
        have t6 : Ts w7 gv (S.went key val) := Own.ts (B := b0) (own_keep ow6 hc7 (fun k hk hg => by
          have h1 := (World.ownsRow.lt ow6 k hk).1
          have h2 := rfA.inn k hg
          omega))
        have t7 : Ts w7 gw (S.went key val) := Own.ts ow7
        obtain ⟨ga, gc, rfl⟩ := own_shape ow6
        obtain ⟨ha, hc', rfl⟩ := own_shape ow7
        have hgl9 : (S.went key val).length ≤ 4611686018427387904 := Nat.le_trans HGL.out (by omega)
        have hsm7 := same_any w7 _ _ _ _ t6 t7 hgl9 hgl9
        rw [decide_eq_true rfl] at hsm7
        have hbd7 : (S.put key val).budget = bud := (put_budget S key val).trans hSb
        have hln7 : (S.put key val).l.length ≤ 2 * j + 1 := Nat.le_trans (put_len S key val) (by omega)
        clear stA rfA s6 r6 lA6 ow6 ow7 t6 t7 hpu hpr
        generalize S.put key val = S7 at *
        generalize S.code key val = cd at *
        generalize (S.went key val).length = gn at *
        go_wp2_with fail
        refine hsm7.mono ?_
        rintro e w7b ⟨rfl, hc7b⟩
        replace s7 := s7.quiet hc7b
        replace r7 := r7.quiet hc7b
        replace b7 := b7.trans (quiet_below b7.size hc7b)
        clear hsm7
        have hby := bytes_any s7.lies
        unfold pt at hby
        generalize htt : tot S7.l = TT at *
        go_wp2_with fail
        refine hby.mono ?_
        rintro e w8 ⟨rfl, hw8⟩
        rw [hw8]
        clear hw8 hby
        have hrb := rbytes_any r7
        rw [htt] at hrb
        unfold pt at hrb
        go_wp2_with fail
        refine hrb.mono ?_
        rintro e w9 ⟨rfl, hc9⟩
        have s9 := s7.quiet hc9
        have r9 := r7.quiet hc9
        have b9 := b7.trans (quiet_below b7.size hc9)
        clear hrb s7 r7
        have hky := keys_any s9.lies
        unfold pt at hky
        go_wp2_with fail
        refine hky.mono ?_
        rintro e w10 ⟨va, rfl, oa, hc10⟩
        have s10 := s9.quiet hc10
        have r10 := r9.quiet hc10
        have b10 := b9.trans (quiet_below b9.size hc10)
        clear hky s9 r9
        have hrk := rkeys_any r10
        unfold pt at hrk
        go_wp2_with fail
        refine hrk.mono ?_
        rintro e w11 ⟨vb, rfl, ob, hc11⟩
        have s11 := s10.quiet hc11
        have r11 := r10.quiet hc11
        have b11 := b10.trans (quiet_below b10.size hc11)
        have oa11 : Ts w11 va (S7.l.map (·.1)) := (Own.ts oa).below (quiet_below (Nat.le_refl _) hc11)
        have ob11 : Ts w11 vb (S7.l.map (·.1)) := Own.ts ob
        obtain ⟨aa, ac, rfl⟩ := own_shape oa
        obtain ⟨ba, bc, rfl⟩ := own_shape ob
        have hkl : (S7.l.map (·.1)).length ≤ 4611686018427387904 := by simp; omega
        have hsa := same_any w11 _ _ _ _ oa11 ob11 hkl hkl
        rw [decide_eq_true rfl] at hsa
        clear hrk s10 r10 oa ob oa11 ob11
        generalize (S7.l.map (·.1)).length = nk at *
        go_wp2_with fail
        refine hsa.mono ?_
        rintro e w12 ⟨rfl, hc12⟩
        go_wp2_with fail
        exact ⟨⟨j + 1, F7, G7, S7, by go_num, by omega, by omega, s11.quiet hc12, r11.quiet hc12, hFG7, hGB7, hbd7, by omega, b11.trans (quiet_below b11.size hc12)⟩, by simp [intOf]; omega⟩
      · skip
        have hpu := put_st stA bA.size key val hsm (by omega)
        unfold pt at hpu
        go_wp2_with fail
        refine hpu.mono ?_
        rintro e w6 ⟨gv, b0, F7, rfl, hb0, ow6, s6, hF7, hc6⟩
        have r6 := rfA.keep hc6 (fun k hk hf => hFG k hf hk)
        have lA6 := hc6.keep hlA hqF
        have b6 := bA.trans (stA.below bA.size hc6)
        have y1 : w6.cell? ⟨q, 1, none⟩ = some (.string (strB key)) := cell_of lA6 1
        have y2 : w6.cell? ⟨q, 2, none⟩ = some (.string (strB val)) := cell_of lA6 2
        have hpr := rput_any r6 hU key val hsm (by omega) (by rw [hSb]; exact hmb)
        unfold pt at hpr
        have hFG6 : ∀ k, F7 k → ¬ G k := fun k hk hg => by
          rcases (hF7 k hk).1 with hh | hh
          · exact hFG k hh hg
          · have := rfA.inn k hg
            omega
        go_wp2_with fail
        refine hpr.mono ?_
        rintro e w7 ⟨gw, rfl, ow7, G7, r7, hG7, hc7⟩
        have s7 := s6.keep hc7 (fun k hk hg => hFG6 k hk hg)
        have b7 := b6.trans (hc7.below hGB b6.size)
        have hFG7 : ∀ k, F7 k → ¬ G7 k := fun k hk hg => by
          rcases hG7 k hg with hh | hh
          · exact hFG6 k hk hh
          · have := s6.lies.inn k hk
            omega
        have hGB7 : ∀ k, G7 k → w.heap.size ≤ k := fun k hk => by
          rcases hG7 k hk with hh | hh
          · exact hGB k hh
          · exact Nat.le_trans b6.size hh
        have t6 : Ts w7 gv (S.went key val) := Own.ts (B := b0) (own_keep ow6 hc7 (fun k hk hg => by
          have h1 := (World.ownsRow.lt ow6 k hk).1
          have h2 := rfA.inn k hg
          omega))
        have t7 : Ts w7 gw (S.went key val) := Own.ts ow7
        obtain ⟨ga, gc, rfl⟩ := own_shape ow6
        obtain ⟨ha, hc', rfl⟩ := own_shape ow7
        have hgl9 : (S.went key val).length ≤ 4611686018427387904 := Nat.le_trans HGL.out (by omega)
        have hsm7 := same_any w7 _ _ _ _ t6 t7 hgl9 hgl9
        rw [decide_eq_true rfl] at hsm7
        have hbd7 : (S.put key val).budget = bud := (put_budget S key val).trans hSb
        have hln7 : (S.put key val).l.length ≤ 2 * j + 1 := Nat.le_trans (put_len S key val) (by omega)
        clear stA rfA s6 r6 lA6 ow6 ow7 t6 t7 hpu hpr
        generalize S.put key val = S7 at *
        generalize S.code key val = cd at *
        generalize (S.went key val).length = gn at *
        go_wp2_with fail
        refine hsm7.mono ?_
        rintro e w7b ⟨rfl, hc7b⟩
        replace s7 := s7.quiet hc7b
        replace r7 := r7.quiet hc7b
        replace b7 := b7.trans (quiet_below b7.size hc7b)
        clear hsm7
        have hby := bytes_any s7.lies
        unfold pt at hby
        generalize htt : tot S7.l = TT at *
        go_wp2_with fail
        refine hby.mono ?_
        rintro e w8 ⟨rfl, hw8⟩
        rw [hw8]
        clear hw8 hby
        have hrb := rbytes_any r7
        rw [htt] at hrb
        unfold pt at hrb
        go_wp2_with fail
        refine hrb.mono ?_
        rintro e w9 ⟨rfl, hc9⟩
        have s9 := s7.quiet hc9
        have r9 := r7.quiet hc9
        have b9 := b7.trans (quiet_below b7.size hc9)
        clear hrb s7 r7
        have hky := keys_any s9.lies
        unfold pt at hky
        go_wp2_with fail
        refine hky.mono ?_
        rintro e w10 ⟨va, rfl, oa, hc10⟩
        have s10 := s9.quiet hc10
        have r10 := r9.quiet hc10
        have b10 := b9.trans (quiet_below b9.size hc10)
        clear hky s9 r9
        have hrk := rkeys_any r10
        unfold pt at hrk
        go_wp2_with fail
        refine hrk.mono ?_
        rintro e w11 ⟨vb, rfl, ob, hc11⟩
        have s11 := s10.quiet hc11
        have r11 := r10.quiet hc11
        have b11 := b10.trans (quiet_below b10.size hc11)
        have oa11 : Ts w11 va (S7.l.map (·.1)) := (Own.ts oa).below (quiet_below (Nat.le_refl _) hc11)
        have ob11 : Ts w11 vb (S7.l.map (·.1)) := Own.ts ob
        obtain ⟨aa, ac, rfl⟩ := own_shape oa
        obtain ⟨ba, bc, rfl⟩ := own_shape ob
        have hkl : (S7.l.map (·.1)).length ≤ 4611686018427387904 := by simp; omega
        have hsa := same_any w11 _ _ _ _ oa11 ob11 hkl hkl
        rw [decide_eq_true rfl] at hsa
        clear hrk s10 r10 oa ob oa11 ob11
        generalize (S7.l.map (·.1)).length = nk at *
        go_wp2_with fail
        refine hsa.mono ?_
        rintro e w12 ⟨rfl, hc12⟩
        go_wp2_with fail
        exact ⟨⟨j + 1, F7, G7, S7, by go_num, by omega, by omega, s11.quiet hc12, r11.quiet hc12, hFG7, hGB7, hbd7, by omega, b11.trans (quiet_below b11.size hc12)⟩, by simp [intOf]; omega⟩
      · skip
        have hpu := put_st stA bA.size key val hsm (by omega)
        unfold pt at hpu
        go_wp2_with fail
        refine hpu.mono ?_
        rintro e w6 ⟨gv, b0, F7, rfl, hb0, ow6, s6, hF7, hc6⟩
        have r6 := rfA.keep hc6 (fun k hk hf => hFG k hf hk)
        have lA6 := hc6.keep hlA hqF
        have b6 := bA.trans (stA.below bA.size hc6)
        have y1 : w6.cell? ⟨q, 1, none⟩ = some (.string (strB key)) := cell_of lA6 1
        have y2 : w6.cell? ⟨q, 2, none⟩ = some (.string (strB val)) := cell_of lA6 2
        have hpr := rput_any r6 hU key val hsm (by omega) (by rw [hSb]; exact hmb)
        unfold pt at hpr
        have hFG6 : ∀ k, F7 k → ¬ G k := fun k hk hg => by
          rcases (hF7 k hk).1 with hh | hh
          · exact hFG k hh hg
          · have := rfA.inn k hg
            omega
        go_wp2_with fail
        refine hpr.mono ?_
        rintro e w7 ⟨gw, rfl, ow7, G7, r7, hG7, hc7⟩
        have s7 := s6.keep hc7 (fun k hk hg => hFG6 k hk hg)
        have b7 := b6.trans (hc7.below hGB b6.size)
        have hFG7 : ∀ k, F7 k → ¬ G7 k := fun k hk hg => by
          rcases hG7 k hg with hh | hh
          · exact hFG6 k hk hh
          · have := s6.lies.inn k hk
            omega
        have hGB7 : ∀ k, G7 k → w.heap.size ≤ k := fun k hk => by
          rcases hG7 k hk with hh | hh
          · exact hGB k hh
          · exact Nat.le_trans b6.size hh
        have t6 : Ts w7 gv (S.went key val) := Own.ts (B := b0) (own_keep ow6 hc7 (fun k hk hg => by
          have h1 := (World.ownsRow.lt ow6 k hk).1
          have h2 := rfA.inn k hg
          omega))
        have t7 : Ts w7 gw (S.went key val) := Own.ts ow7
        obtain ⟨ga, gc, rfl⟩ := own_shape ow6
        obtain ⟨ha, hc', rfl⟩ := own_shape ow7
        have hgl9 : (S.went key val).length ≤ 4611686018427387904 := Nat.le_trans HGL.out (by omega)
        have hsm7 := same_any w7 _ _ _ _ t6 t7 hgl9 hgl9
        rw [decide_eq_true rfl] at hsm7
        have hbd7 : (S.put key val).budget = bud := (put_budget S key val).trans hSb
        have hln7 : (S.put key val).l.length ≤ 2 * j + 1 := Nat.le_trans (put_len S key val) (by omega)
        clear stA rfA s6 r6 lA6 ow6 ow7 t6 t7 hpu hpr
        generalize S.put key val = S7 at *
        generalize S.code key val = cd at *
        generalize (S.went key val).length = gn at *
        go_wp2_with fail
        refine hsm7.mono ?_
        rintro e w7b ⟨rfl, hc7b⟩
        replace s7 := s7.quiet hc7b
        replace r7 := r7.quiet hc7b
        replace b7 := b7.trans (quiet_below b7.size hc7b)
        clear hsm7
        have hby := bytes_any s7.lies
        unfold pt at hby
        generalize htt : tot S7.l = TT at *
        go_wp2_with fail
        refine hby.mono ?_
        rintro e w8 ⟨rfl, hw8⟩
        rw [hw8]
        clear hw8 hby
        have hrb := rbytes_any r7
        rw [htt] at hrb
        unfold pt at hrb
        go_wp2_with fail
        refine hrb.mono ?_
        rintro e w9 ⟨rfl, hc9⟩
        have s9 := s7.quiet hc9
        have r9 := r7.quiet hc9
        have b9 := b7.trans (quiet_below b7.size hc9)
        clear hrb s7 r7
        have hky := keys_any s9.lies
        unfold pt at hky
        go_wp2_with fail
        refine hky.mono ?_
        rintro e w10 ⟨va, rfl, oa, hc10⟩
        have s10 := s9.quiet hc10
        have r10 := r9.quiet hc10
        have b10 := b9.trans (quiet_below b9.size hc10)
        clear hky s9 r9
        have hrk := rkeys_any r10
        unfold pt at hrk
        go_wp2_with fail
        refine hrk.mono ?_
        rintro e w11 ⟨vb, rfl, ob, hc11⟩
        have s11 := s10.quiet hc11
        have r11 := r10.quiet hc11
        have b11 := b10.trans (quiet_below b10.size hc11)
        have oa11 : Ts w11 va (S7.l.map (·.1)) := (Own.ts oa).below (quiet_below (Nat.le_refl _) hc11)
        have ob11 : Ts w11 vb (S7.l.map (·.1)) := Own.ts ob
        obtain ⟨aa, ac, rfl⟩ := own_shape oa
        obtain ⟨ba, bc, rfl⟩ := own_shape ob
        have hkl : (S7.l.map (·.1)).length ≤ 4611686018427387904 := by simp; omega
        have hsa := same_any w11 _ _ _ _ oa11 ob11 hkl hkl
        rw [decide_eq_true rfl] at hsa
        clear hrk s10 r10 oa ob oa11 ob11
        generalize (S7.l.map (·.1)).length = nk at *
        go_wp2_with fail
        refine hsa.mono ?_
        rintro e w12 ⟨rfl, hc12⟩
        go_wp2_with fail
        exact ⟨⟨j + 1, F7, G7, S7, by go_num, by omega, by omega, s11.quiet hc12, r11.quiet hc12, hFG7, hGB7, hbd7, by omega, b11.trans (quiet_below b11.size hc12)⟩, by simp [intOf]; omega⟩
      · skip
        have hpu := put_st stA bA.size key val hsm (by omega)
        unfold pt at hpu
        go_wp2_with fail
        refine hpu.mono ?_
        rintro e w6 ⟨gv, b0, F7, rfl, hb0, ow6, s6, hF7, hc6⟩
        have r6 := rfA.keep hc6 (fun k hk hf => hFG k hf hk)
        have lA6 := hc6.keep hlA hqF
        have b6 := bA.trans (stA.below bA.size hc6)
        have y1 : w6.cell? ⟨q, 1, none⟩ = some (.string (strB key)) := cell_of lA6 1
        have y2 : w6.cell? ⟨q, 2, none⟩ = some (.string (strB val)) := cell_of lA6 2
        have hpr := rput_any r6 hU key val hsm (by omega) (by rw [hSb]; exact hmb)
        unfold pt at hpr
        have hFG6 : ∀ k, F7 k → ¬ G k := fun k hk hg => by
          rcases (hF7 k hk).1 with hh | hh
          · exact hFG k hh hg
          · have := rfA.inn k hg
            omega
        go_wp2_with fail
        refine hpr.mono ?_
        rintro e w7 ⟨gw, rfl, ow7, G7, r7, hG7, hc7⟩
        have s7 := s6.keep hc7 (fun k hk hg => hFG6 k hk hg)
        have b7 := b6.trans (hc7.below hGB b6.size)
        have hFG7 : ∀ k, F7 k → ¬ G7 k := fun k hk hg => by
          rcases hG7 k hg with hh | hh
          · exact hFG6 k hk hh
          · have := s6.lies.inn k hk
            omega
        have hGB7 : ∀ k, G7 k → w.heap.size ≤ k := fun k hk => by
          rcases hG7 k hk with hh | hh
          · exact hGB k hh
          · exact Nat.le_trans b6.size hh
        have t6 : Ts w7 gv (S.went key val) := Own.ts (B := b0) (own_keep ow6 hc7 (fun k hk hg => by
          have h1 := (World.ownsRow.lt ow6 k hk).1
          have h2 := rfA.inn k hg
          omega))
        have t7 : Ts w7 gw (S.went key val) := Own.ts ow7
        obtain ⟨ga, gc, rfl⟩ := own_shape ow6
        obtain ⟨ha, hc', rfl⟩ := own_shape ow7
        have hgl9 : (S.went key val).length ≤ 4611686018427387904 := Nat.le_trans HGL.out (by omega)
        have hsm7 := same_any w7 _ _ _ _ t6 t7 hgl9 hgl9
        rw [decide_eq_true rfl] at hsm7
        have hbd7 : (S.put key val).budget = bud := (put_budget S key val).trans hSb
        have hln7 : (S.put key val).l.length ≤ 2 * j + 1 := Nat.le_trans (put_len S key val) (by omega)
        clear stA rfA s6 r6 lA6 ow6 ow7 t6 t7 hpu hpr
        generalize S.put key val = S7 at *
        generalize S.code key val = cd at *
        generalize (S.went key val).length = gn at *
        go_wp2_with fail
        refine hsm7.mono ?_
        rintro e w7b ⟨rfl, hc7b⟩
        replace s7 := s7.quiet hc7b
        replace r7 := r7.quiet hc7b
        replace b7 := b7.trans (quiet_below b7.size hc7b)
        clear hsm7
        have hby := bytes_any s7.lies
        unfold pt at hby
        generalize htt : tot S7.l = TT at *
        go_wp2_with fail
        refine hby.mono ?_
        rintro e w8 ⟨rfl, hw8⟩
        rw [hw8]
        clear hw8 hby
        have hrb := rbytes_any r7
        rw [htt] at hrb
        unfold pt at hrb
        go_wp2_with fail
        refine hrb.mono ?_
        rintro e w9 ⟨rfl, hc9⟩
        have s9 := s7.quiet hc9
        have r9 := r7.quiet hc9
        have b9 := b7.trans (quiet_below b7.size hc9)
        clear hrb s7 r7
        have hky := keys_any s9.lies
        unfold pt at hky
        go_wp2_with fail
        refine hky.mono ?_
        rintro e w10 ⟨va, rfl, oa, hc10⟩
        have s10 := s9.quiet hc10
        have r10 := r9.quiet hc10
        have b10 := b9.trans (quiet_below b9.size hc10)
        clear hky s9 r9
        have hrk := rkeys_any r10
        unfold pt at hrk
        go_wp2_with fail
        refine hrk.mono ?_
        rintro e w11 ⟨vb, rfl, ob, hc11⟩
        have s11 := s10.quiet hc11
        have r11 := r10.quiet hc11
        have b11 := b10.trans (quiet_below b10.size hc11)
        have oa11 : Ts w11 va (S7.l.map (·.1)) := (Own.ts oa).below (quiet_below (Nat.le_refl _) hc11)
        have ob11 : Ts w11 vb (S7.l.map (·.1)) := Own.ts ob
        obtain ⟨aa, ac, rfl⟩ := own_shape oa
        obtain ⟨ba, bc, rfl⟩ := own_shape ob
        have hkl : (S7.l.map (·.1)).length ≤ 4611686018427387904 := by simp; omega
        have hsa := same_any w11 _ _ _ _ oa11 ob11 hkl hkl
        rw [decide_eq_true rfl] at hsa
        clear hrk s10 r10 oa ob oa11 ob11
        generalize (S7.l.map (·.1)).length = nk at *
        go_wp2_with fail
        refine hsa.mono ?_
        rintro e w12 ⟨rfl, hc12⟩
        go_wp2_with fail
        exact ⟨⟨j + 1, F7, G7, S7, by go_num, by omega, by omega, s11.quiet hc12, r11.quiet hc12, hFG7, hGB7, hbd7, by omega, b11.trans (quiet_below b11.size hc12)⟩, by simp [intOf]; omega⟩
      · skip
        have hge := get_st stA key
        unfold pt at hge
        go_wp2_with fail
        refine hge.mono ?_
        rintro e w6 ⟨rfl, s6, hc6⟩
        have r6 := rfA.keep hc6 (fun k hk hf => hFG k hf hk)
        have lA6 := hc6.keep hlA hqF
        have b6 := bA.trans (stA.below bA.size hc6)
        have y1 : w6.cell? ⟨q, 1, none⟩ = some (.string (strB key)) := cell_of lA6 1
        have hgr := rget_any r6 hU key
        unfold pt at hgr
        obtain ⟨F7, hF7⟩ : ∃ F7, F7 = F := ⟨_, rfl⟩
        go_wp2_with fail
        refine hgr.mono ?_
        rintro e w7 ⟨rfl, G7, r7, hG7, hc7⟩
        have s7 := s6.keep hc7 hFG
        have b7 := b6.trans (hc7.below hGB b6.size)
        have hFG7 : ∀ k, F k → ¬ G7 k := fun k hk hg => by
          rcases hG7 k hg with hh | hh
          · exact hFG k hk hh
          · have := s6.lies.inn k hk
            omega
        have hGB7 : ∀ k, G7 k → w.heap.size ≤ k := fun k hk => by
          rcases hG7 k hk with hh | hh
          · exact hGB k hh
          · exact Nat.le_trans b6.size hh
        have hbd7 : (S.get key).budget = bud := (get_budget S key).trans hSb
        have hln7 : (S.get key).l.length ≤ 2 * j + 1 := Nat.le_trans (get_len S key) (by omega)
        have tg := toL ((seek key S.l).getD [])
        rw [← hF7] at s7 hFG7
        clear stA rfA s6 r6 lA6 hge hgr hF7
        generalize S.get key = S7 at *
        generalize (seek key S.l).getD [] = gs at *
        generalize (seek key S.l).isSome = gb at *
        have hgb : (gb != gb) = false := by simp
        have hby := bytes_any s7.lies
        unfold pt at hby
        generalize htt : tot S7.l = TT at *
        go_wp2_with fail
        refine hby.mono ?_
        rintro e w8 ⟨rfl, hw8⟩
        rw [hw8]
        clear hw8 hby
        have hrb := rbytes_any r7
        rw [htt] at hrb
        unfold pt at hrb
        go_wp2_with fail
        refine hrb.mono ?_
        rintro e w9 ⟨rfl, hc9⟩
        have s9 := s7.quiet hc9
        have r9 := r7.quiet hc9
        have b9 := b7.trans (quiet_below b7.size hc9)
        clear hrb s7 r7
        have hky := keys_any s9.lies
        unfold pt at hky
        go_wp2_with fail
        refine hky.mono ?_
        rintro e w10 ⟨va, rfl, oa, hc10⟩
        have s10 := s9.quiet hc10
        have r10 := r9.quiet hc10
        have b10 := b9.trans (quiet_below b9.size hc10)
        clear hky s9 r9
        have hrk := rkeys_any r10
        unfold pt at hrk
        go_wp2_with fail
        refine hrk.mono ?_
        rintro e w11 ⟨vb, rfl, ob, hc11⟩
        have s11 := s10.quiet hc11
        have r11 := r10.quiet hc11
        have b11 := b10.trans (quiet_below b10.size hc11)
        have oa11 : Ts w11 va (S7.l.map (·.1)) := (Own.ts oa).below (quiet_below (Nat.le_refl _) hc11)
        have ob11 : Ts w11 vb (S7.l.map (·.1)) := Own.ts ob
        obtain ⟨aa, ac, rfl⟩ := own_shape oa
        obtain ⟨ba, bc, rfl⟩ := own_shape ob
        have hkl : (S7.l.map (·.1)).length ≤ 4611686018427387904 := by simp; omega
        have hsa := same_any w11 _ _ _ _ oa11 ob11 hkl hkl
        rw [decide_eq_true rfl] at hsa
        clear hrk s10 r10 oa ob oa11 ob11
        generalize (S7.l.map (·.1)).length = nk at *
        go_wp2_with fail
        refine hsa.mono ?_
        rintro e w12 ⟨rfl, hc12⟩
        go_wp2_with fail
        exact ⟨⟨j + 1, F7, G7, S7, by go_num, by omega, by omega, s11.quiet hc12, r11.quiet hc12, hFG7, hGB7, hbd7, by omega, b11.trans (quiet_below b11.size hc12)⟩, by simp [intOf]; omega⟩
      · skip
        have hge := get_st stA key
        unfold pt at hge
        go_wp2_with fail
        refine hge.mono ?_
        rintro e w6 ⟨rfl, s6, hc6⟩
        have r6 := rfA.keep hc6 (fun k hk hf => hFG k hf hk)
        have lA6 := hc6.keep hlA hqF
        have b6 := bA.trans (stA.below bA.size hc6)
        have y1 : w6.cell? ⟨q, 1, none⟩ = some (.string (strB key)) := cell_of lA6 1
        have hgr := rget_any r6 hU key
        unfold pt at hgr
        obtain ⟨F7, hF7⟩ : ∃ F7, F7 = F := ⟨_, rfl⟩
        go_wp2_with fail
        refine hgr.mono ?_
        rintro e w7 ⟨rfl, G7, r7, hG7, hc7⟩
        have s7 := s6.keep hc7 hFG
        have b7 := b6.trans (hc7.below hGB b6.size)
        have hFG7 : ∀ k, F k → ¬ G7 k := fun k hk hg => by
          rcases hG7 k hg with hh | hh
          · exact hFG k hk hh
          · have := s6.lies.inn k hk
            omega
        have hGB7 : ∀ k, G7 k → w.heap.size ≤ k := fun k hk => by
          rcases hG7 k hk with hh | hh
          · exact hGB k hh
          · exact Nat.le_trans b6.size hh
        have hbd7 : (S.get key).budget = bud := (get_budget S key).trans hSb
        have hln7 : (S.get key).l.length ≤ 2 * j + 1 := Nat.le_trans (get_len S key) (by omega)
        have tg := toL ((seek key S.l).getD [])
        rw [← hF7] at s7 hFG7
        clear stA rfA s6 r6 lA6 hge hgr hF7
        generalize S.get key = S7 at *
        generalize (seek key S.l).getD [] = gs at *
        generalize (seek key S.l).isSome = gb at *
        have hgb : (gb != gb) = false := by simp
        have hby := bytes_any s7.lies
        unfold pt at hby
        generalize htt : tot S7.l = TT at *
        go_wp2_with fail
        refine hby.mono ?_
        rintro e w8 ⟨rfl, hw8⟩
        rw [hw8]
        clear hw8 hby
        have hrb := rbytes_any r7
        rw [htt] at hrb
        unfold pt at hrb
        go_wp2_with fail
        refine hrb.mono ?_
        rintro e w9 ⟨rfl, hc9⟩
        have s9 := s7.quiet hc9
        have r9 := r7.quiet hc9
        have b9 := b7.trans (quiet_below b7.size hc9)
        clear hrb s7 r7
        have hky := keys_any s9.lies
        unfold pt at hky
        go_wp2_with fail
        refine hky.mono ?_
        rintro e w10 ⟨va, rfl, oa, hc10⟩
        have s10 := s9.quiet hc10
        have r10 := r9.quiet hc10
        have b10 := b9.trans (quiet_below b9.size hc10)
        clear hky s9 r9
        have hrk := rkeys_any r10
        unfold pt at hrk
        go_wp2_with fail
        refine hrk.mono ?_
        rintro e w11 ⟨vb, rfl, ob, hc11⟩
        have s11 := s10.quiet hc11
        have r11 := r10.quiet hc11
        have b11 := b10.trans (quiet_below b10.size hc11)
        have oa11 : Ts w11 va (S7.l.map (·.1)) := (Own.ts oa).below (quiet_below (Nat.le_refl _) hc11)
        have ob11 : Ts w11 vb (S7.l.map (·.1)) := Own.ts ob
        obtain ⟨aa, ac, rfl⟩ := own_shape oa
        obtain ⟨ba, bc, rfl⟩ := own_shape ob
        have hkl : (S7.l.map (·.1)).length ≤ 4611686018427387904 := by simp; omega
        have hsa := same_any w11 _ _ _ _ oa11 ob11 hkl hkl
        rw [decide_eq_true rfl] at hsa
        clear hrk s10 r10 oa ob oa11 ob11
        generalize (S7.l.map (·.1)).length = nk at *
        go_wp2_with fail
        refine hsa.mono ?_
        rintro e w12 ⟨rfl, hc12⟩
        go_wp2_with fail
        exact ⟨⟨j + 1, F7, G7, S7, by go_num, by omega, by omega, s11.quiet hc12, r11.quiet hc12, hFG7, hGB7, hbd7, by omega, b11.trans (quiet_below b11.size hc12)⟩, by simp [intOf]; omega⟩
      · skip
        have hdr := drop_st stA.drew _ kk ((huA.keep (Below.drew (Below.refl _ wA))).tf bA.size stA.new) hkl
        unfold pt at hdr
        go_wp2_with fail
        refine wp_region_held_drew (S := fun W => W.cell? ⟨q, 3, none⟩ = some (.slice ua kk.length uc)) (by kernel_rfl) (x3) (fun hHeld => ?_)
        refine takeH (i := 0) (v := ?_) rfl (by kernel_rfl) (by kernel_rfl) (by kernel_rfl) (fun _ _ _ h => h) rfl ?_ hHeld ?_
        rotate_left
        · intro w hS; (try dsimp only at hS); obtain hS0 := hS; go_simp; first | done | (with_reducible rfl)
        try simp only [Act.put, List.setIfInBounds_toArray, List.set_cons_zero, List.set_cons_succ]
        refine takeH (i := 1) (v := ?_) rfl (by kernel_rfl) (by kernel_rfl) (by kernel_rfl) (fun _ _ _ h => h) rfl ?_ hHeld ?_
        rotate_left
        · intro w hS; (try dsimp only at hS); obtain hS0 := hS; go_simp; first | done | (with_reducible rfl)
        try simp only [Act.put, List.setIfInBounds_toArray, List.set_cons_zero, List.set_cons_succ]
        refine takeH (i := 2) (v := ?_) rfl (by kernel_rfl) (by kernel_rfl) (by kernel_rfl) (fun _ _ _ h => h) rfl ?_ hHeld ?_
        rotate_left
        · intro w hS; (try dsimp only at hS); obtain hS0 := hS; go_simp; first | done | (with_reducible rfl)
        try simp only [Act.put, List.setIfInBounds_toArray, List.set_cons_zero, List.set_cons_succ]
        refine takeH (i := 4) (v := ?_) rfl (by kernel_rfl) (by kernel_rfl) (by kernel_rfl) (fun _ _ _ h => h) rfl ?_ hHeld ?_
        rotate_left
        · intro w hS; (try dsimp only at hS); obtain hS0 := hS; go_simp; first | done | (with_reducible rfl)
        try simp only [Act.put, List.setIfInBounds_toArray, List.set_cons_zero, List.set_cons_succ]
        refine takeH (i := 5) (v := ?_) rfl (by kernel_rfl) (by kernel_rfl) (by kernel_rfl) (fun _ _ _ h => h) rfl ?_ hHeld ?_
        rotate_left
        · intro w hS; (try dsimp only at hS); obtain hS0 := hS; go_simp; first | done | (with_reducible rfl)
        try simp only [Act.put, List.setIfInBounds_toArray, List.set_cons_zero, List.set_cons_succ]
        refine takeH (i := 6) (v := ?_) rfl (by kernel_rfl) (by kernel_rfl) (by kernel_rfl) (fun _ _ _ h => h) rfl ?_ hHeld ?_
        rotate_left
        · intro w hS; (try dsimp only at hS); obtain hS0 := hS; go_simp; first | done | (with_reducible rfl)
        try simp only [Act.put, List.setIfInBounds_toArray, List.set_cons_zero, List.set_cons_succ]
        refine onlyH (i := 3) rfl (by kernel_rfl) rfl (fun K hK => ?_)
        go_simp
        refine hdr.mono ?_
        rintro e w6 ⟨rfl, s6, hc6⟩
        have hcA6 : Chg F wA w6 := ((Chg.refl F wA).drew).then hc6
        have r6 := rfA.keep hcA6 (fun k hk hf => hFG k hf hk)
        have lA6 := hcA6.keep hlA hqF
        have b6 := bA.trans (stA.below bA.size hcA6)
        have y3 : w6.cell? ⟨q, 3, none⟩ = some (.slice ua kk.length uc) := cell_of lA6 3
        have hu6 := huA.keep (stA.below bA.size hcA6)
        have hdr2 := rdrop_any r6 hU _ kk (hu6.tf b6.size hGB) hkl
        unfold pt at hdr2
        obtain ⟨F7, hF7⟩ : ∃ F7, F7 = F := ⟨_, rfl⟩
        refine hK.out _ _ (y3) (fun hHeld => ?_)
        clear hK K
        try simp only [Act.put, List.setIfInBounds_toArray, List.set_cons_zero, List.set_cons_succ]
        refine onlyH (i := 7) rfl (by kernel_rfl) rfl (fun K hK => ?_)
        go_simp
        refine hdr2.mono ?_
        rintro e w7 ⟨rfl, G7, r7, hG7, hc7⟩
        have s7 := s6.keep hc7 hFG
        have b7 := b6.trans (hc7.below hGB b6.size)
        have hFG7 : ∀ k, F k → ¬ G7 k := fun k hk hg => by
          rcases hG7 k hg with hh | hh
          · exact hFG k hk hh
          · have := s6.lies.inn k hk
            omega
        have hGB7 : ∀ k, G7 k → w.heap.size ≤ k := fun k hk => by
          rcases hG7 k hk with hh | hh
          · exact hGB k hh
          · exact Nat.le_trans b6.size hh
        have y7 : w7.cell? ⟨q, 3, none⟩ = some (.slice ua kk.length uc) := cell_of (hc7.keep lA6 hqG) 3
        have hbd7 : (S.drop kk).budget = bud := hSb
        have hln7 : (S.drop kk).l.length ≤ 2 * j + 1 := Nat.le_trans (dropAll_len kk S.l) (by omega)
        rw [← hF7] at s7 hFG7
        clear stA rfA s6 r6 lA6 hdr hdr2 hF7
        generalize S.drop kk = S7 at *
        refine hK.out _ _ (y7) (fun hHeld => ?_)
        clear hK K
        try simp only [Act.put, List.setIfInBounds_toArray, List.set_cons_zero, List.set_cons_succ]
        refine takeH (i := 8) (v := ?_) rfl (by kernel_rfl) (by kernel_rfl) (by kernel_rfl) (fun _ _ _ h => h) rfl ?_ hHeld ?_
        rotate_left
        · intro w hS; (try dsimp only at hS); obtain hS0 := hS; go_simp; first | done | (with_reducible rfl)
        try simp only [Act.put, List.setIfInBounds_toArray, List.set_cons_zero, List.set_cons_succ]
        refine wpAnyH_done (by kernel_rfl) ?_ _
        clear hHeld
        generalize dropNum kk S.l = dn at *
        have hdn : (((dn : Nat) : Int) != ((dn : Nat) : Int)) = false := by simp
        have hby := bytes_any s7.lies
        unfold pt at hby
        generalize htt : tot S7.l = TT at *
        go_wp2_with fail
        refine hby.mono ?_
        rintro e w8 ⟨rfl, hw8⟩
        rw [hw8]
        clear hw8 hby
        have hrb := rbytes_any r7
        rw [htt] at hrb
        unfold pt at hrb
        go_wp2_with fail
        refine hrb.mono ?_
        rintro e w9 ⟨rfl, hc9⟩
        have s9 := s7.quiet hc9
        have r9 := r7.quiet hc9
        have b9 := b7.trans (quiet_below b7.size hc9)
        clear hrb s7 r7
        have hky := keys_any s9.lies
        unfold pt at hky
        go_wp2_with fail
        refine hky.mono ?_
        rintro e w10 ⟨va, rfl, oa, hc10⟩
        have s10 := s9.quiet hc10
        have r10 := r9.quiet hc10
        have b10 := b9.trans (quiet_below b9.size hc10)
        clear hky s9 r9
        have hrk := rkeys_any r10
        unfold pt at hrk
        go_wp2_with fail
        refine hrk.mono ?_
        rintro e w11 ⟨vb, rfl, ob, hc11⟩
        have s11 := s10.quiet hc11
        have r11 := r10.quiet hc11
        have b11 := b10.trans (quiet_below b10.size hc11)
        have oa11 : Ts w11 va (S7.l.map (·.1)) := (Own.ts oa).below (quiet_below (Nat.le_refl _) hc11)
        have ob11 : Ts w11 vb (S7.l.map (·.1)) := Own.ts ob
        obtain ⟨aa, ac, rfl⟩ := own_shape oa
        obtain ⟨ba, bc, rfl⟩ := own_shape ob
        have hkl : (S7.l.map (·.1)).length ≤ 4611686018427387904 := by simp; omega
        have hsa := same_any w11 _ _ _ _ oa11 ob11 hkl hkl
        rw [decide_eq_true rfl] at hsa
        clear hrk s10 r10 oa ob oa11 ob11
        generalize (S7.l.map (·.1)).length = nk at *
        go_wp2_with fail
        refine hsa.mono ?_
        rintro e w12 ⟨rfl, hc12⟩
        go_wp2_with fail
        exact ⟨⟨j + 1, F7, G7, S7, by go_num, by omega, by omega, s11.quiet hc12, r11.quiet hc12, hFG7, hGB7, hbd7, by omega, b11.trans (quiet_below b11.size hc12)⟩, by simp [intOf]; omega⟩
    · by_cases hil : j < os.length
      · obtain rfl : j = 200 := by omega
        go_wp2
        go_ret
        exact ⟨rfl, bb⟩
      · obtain rfl : j = os.length := by omega
        go_wp2
        go_ret
        exact ⟨rfl, bb⟩
end Go.Proofs.Ythhmjoafoahpbaa
