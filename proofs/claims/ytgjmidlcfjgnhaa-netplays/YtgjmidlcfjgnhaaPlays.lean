/-
  NetPlays, walked. Conditions: what came in lies there, within reach.
-/
import Derived.Test.YtgjmidlcfjgnhaaPlays0
import Derived.Deep.CutBlock
import Derived.Deep.LoopGhost
namespace Go.Proofs.Ytgjmidlcfjgnhaa
open Go.RowKit

set_option maxRecDepth 40000 in
set_option maxHeartbeats 8000000 in
theorem plays_any (w : World) (v u a : Value) (l : List Ft) (xs an : List Bs) (hv : Fs w v l) (hI : ∀ f ∈ l, I64 f.2.1) (hll : l.length * 24 ≤ 140737488355328) (hu : Ts w u xs) (hx : ∀ s ∈ xs, s.length ≤ 140737488351232) (hxl : xs.length ≤ 4611686018427387904) (ha : Ts w a an) (hax : ∀ s ∈ an, s.length ≤ 140737488351232) (hal : an.length ≤ 4611686018427387904) :
    Calls Try.prog 3 #[v, u, a] w fun e w' => e = .returned (.bool true) ∧ Below w.heap.size w w' := by
  have hS := fun mb ab => plays_serves w mb ab a an ha (fun s hs => by have := hax s hs; omega) hal
  have HV := hide hv
  have HU := hide hu
  have HAN := hide ha
  obtain ⟨av, cv, rfl, v1, -⟩ := hv
  obtain ⟨au, cu, rfl, hu1, hu2, hu4⟩ := hu
  obtain ⟨aa, ca, rfl, ha1, ha2, ha4⟩ := ha
  have hb0 : Below w.heap.size w (w.alloc (.cells #[.slice aa an.length ca] 23)) := (Below.refl _ _).alloc (Nat.le_refl _) _
  have ha0 := heap_last w (.cells #[.slice aa an.length ca] 23)
  have hz0 : (w.alloc (.cells #[.slice aa an.length ca] 23)).heap.size = w.heap.size + 1 := by simp
  go_enter Try.func3, Try.ntmps3
  go_wp2_with fail
  generalize hw0 : w.alloc (.cells #[.slice aa an.length ca] 23) = w0 at *
  refine (shown_any w0).mono ?_
  rintro e w1 ⟨rfl, hb1⟩
  have B1 := hb0.trans (hb1.mono hb0.size)
  have ha1' := (hb1.block _ (lt_of_heap ha0)).trans ha0
  have hz1 : w.heap.size < w1.heap.size := by have := hb1.size; omega
  clear hb0 hb1 ha0
  go_wp2_with fail
  refine (none_any w1).mono ?_
  rintro e w1 ⟨rfl, rfl⟩
  -- the box of met, own
  have hm2 := heap_last w1 (.cells #[.slice none 0 0] 23)
  have B2 := B1.alloc B1.size (.cells #[.slice none 0 0] 23)
  have ha2' := heap_past (.cells #[.slice none 0 0] 23) ha1'
  have hz2 : (w1.alloc (.cells #[.slice none 0 0] 23)).heap.size = w1.heap.size + 1 := by simp
  generalize hw2 : w1.alloc (.cells #[.slice none 0 0] 23) = w2 at *
  have B3 := B2.alloc B2.size (.cells #[] 35)
  have k23 : Chg (fun _ => False) w2 (w2.alloc (.cells #[] 35)) := (Chg.refl _ _).alloc _
  obtain ⟨vo, w4, hrun4, ho4, hgr4, hnx4⟩ := app_fates (w2.alloc (.cells #[] 35)) w2.heap.size _ [] _ l (ownF_lit0 w2) ((HV.out.below B3)) (by simp) (by simpa using hll)
  have k34 := Chg.of_grown hgr4
  have k24 : Chg (fun _ => False) w2 w4 := k23.trans (k34.mono (G := fun k => w2.heap.size ≤ k) (fun k _ h => by have h : some k = some w2.heap.size := h; injection h with h; omega)) (fun i hi h => by omega)
  have B4 := B2.trans (k24.below (fun _ h => h.elim) B2.size)
  have hm4 := k24.keep hm2 (fun h => h)
  have ha4' := k24.keep ha2' (fun h => h)
  rw [List.nil_append] at ho4
  have hnew := new_any w4 8 #[.pointer (some ⟨w1.heap.size, 0, none⟩), .pointer (some ⟨w.heap.size, 0, none⟩)] vo l Fr ho4.fs hll hI
  have hz4 := k24.size
  obtain ⟨ao, co, hvo⟩ := own_shape ho4
  subst hvo
  have HB := hide (And.intro B4 (And.intro hm4 (And.intro ha4' (And.intro ho4 (And.intro hz1 (And.intro hz2 hz4))))))
  have H2 := hide hw2
  clear B1 B2 B3 k23 k34 k24 B4 hm4 ha4' ho4 hm2 ha2' ha1' hgr4 hnx4 hz1 hz2 hz4
  go_wp2_with (at_builtin; refine wpList_append_run rfl (.tmp 29) (.tmp 30) 22 rfl rfl rfl hrun4 ?_)
  refine hnew.mono ?_
  rintro e w5 ⟨hb5, hcase⟩
  have B5 := HB.out.1.trans (hb5.mono HB.out.1.size)
  have hright := rright_any w5 _ l (HV.out.below B5) (by omega)
  clear hnew hrun4
  rcases hcase with ⟨hok, n, G, rfl, hN, hG⟩ | ⟨hno, rfl⟩
  rotate_left
  · rw [hno] at hright
    have HB5 := hide B5
    clear hno B5 hb5
    go_wp2_with fail
    refine hright.mono ?_
    rintro e w6 ⟨rfl, rfl⟩
    clear hright
    go_wp2_with fail
    go_ret
    exact ⟨rfl, HB5.out⟩
  rw [hok] at hright
  have k45 := chg_below hb5
  have hm5 := k45.keep HB.out.2.1 (fun h => h)
  have ha5 := k45.keep HB.out.2.2.1 (fun h => h)
  have ho5 : OwnF w5 w2.heap.size _ l := own_keep HB.out.2.2.2.1 k45 (fun _ _ h => h)
  have hz45 := hb5.size
  obtain ⟨hz1, hz2, hz4⟩ := HB.out.2.2.2.2
  have cm5 := cell_of hm5 0
  simp only [List.getElem?_toArray, List.getElem?_cons_zero] at cm5
  -- the reference
  have hr6 := heap_last w5 (.cells #[.slice none 0 0, .slice none 0 0, .slice none 0 0] 33)
  have k56 : Chg (fun _ => False) w5 (w5.alloc (.cells #[.slice none 0 0, .slice none 0 0, .slice none 0 0] 33)) := (Chg.refl _ _).alloc _
  have B6 := B5.alloc B5.size (.cells #[.slice none 0 0, .slice none 0 0, .slice none 0 0] 33)
  have hz6 : (w5.alloc (.cells #[.slice none 0 0, .slice none 0 0, .slice none 0 0] 33)).heap.size = w5.heap.size + 1 := by simp
  have cr5 : (w5.alloc (.cells #[.slice none 0 0, .slice none 0 0, .slice none 0 0] 33)).cell? ⟨w5.heap.size, 0, none⟩ = some (.slice none 0 0) := cell_of hr6 0
  obtain ⟨vr, w7, hrun7, ho7, hgr7, hnx7⟩ := app_fates (w5.alloc (.cells #[.slice none 0 0, .slice none 0 0, .slice none 0 0] 33)) (w5.heap.size + 1) (.slice none 0 0) [] _ l (World.ownsRow_nil _ _ _ _) (HV.out.below B6) (by simp) (by simpa using hll)
  rw [List.nil_append] at ho7
  have k67 : Chg (fun _ => False) (w5.alloc (.cells #[.slice none 0 0, .slice none 0 0, .slice none 0 0] 33)) w7 := (Chg.of_grown hgr7).mono (fun k _ h => by cases h)
  have k57 := k56.then k67
  have hr7 := k67.keep hr6 (fun h => h)
  have c7 := cell_of hr7 0
  have t7 := thawed hr7 0
  simp only [List.getElem?_toArray, List.getElem?_cons_zero] at c7
  have kS := chg_set w7 w5.heap.size 0 vr
  have hr8 := heap_set hr7 0 vr
  have hz7 := k67.size
  have hvrl : ∀ k, vr.ownBlock = some k → w5.heap.size + 1 ≤ k ∧ k < w7.heap.size := fun k hk => ho7.lt k hk
  have hfs8 : Fs (w7.setCell ⟨w5.heap.size, 0, none⟩ vr) vr l := ho7.fs.keep kS (fun k hk e => by have := (hvrl k hk).1; omega)
  have hs8 : (w7.setCell ⟨w5.heap.size, 0, none⟩ vr).heap.size = w7.heap.size := by simp [World.setCell]
  have hR8 : RefW (w7.setCell ⟨w5.heap.size, 0, none⟩ vr) w5.heap.size l [] [] ⟨vr, .slice none 0 0, .slice none 0 0⟩ := by
    refine ⟨fun f hf => ⟨(List.all_eq_true.1 hok) f hf, hI f hf⟩, hr8, hfs8, Ts.nil _, Ts.nil _, fun h => ?_, (fun h => by cases h), (fun h => by cases h), fun k hk => ?_⟩
    · have := (hvrl _ h).1
      omega
    · rw [hs8]
      rcases hk with hk | hk | hk | hk
      · omega
      · exact (hvrl k hk).2
      · cases hk
      · cases hk
  have k58 : Chg (fun _ => False) w5 (w7.setCell ⟨w5.heap.size, 0, none⟩ vr) := k57.trans kS (fun i hi e => by omega)
  have hN8 := hN.keep k58 (fun _ _ h => h)
  have B8 := B5.trans (k58.below (fun _ h => h.elim) B5.size)
  have hm8 := k58.keep hm5 (fun h => h)
  have ha8 := k58.keep ha5 (fun h => h)
  have ho8 : OwnF (w7.setCell ⟨w5.heap.size, 0, none⟩ vr) w2.heap.size _ l := own_keep ho5 k58 (fun _ _ h => h)
  have hNlt : ∀ k, G.has n k → k < w5.heap.size := fun k hk => hN.lt hk
  have P8 : PlayAt w (w7.setCell ⟨w5.heap.size, 0, none⟩ vr) n w5.heap.size w1.heap.size w.heap.size (.slice aa an.length ca) ⟨l, [], [], 0⟩ l [] [] G (fun k => k = w1.heap.size ∨ k = w.heap.size) ⟨vr, .slice none 0 0, .slice none 0 0⟩ 20000 [] := by
    refine ⟨hN8, ⟨.slice none 0 0, hm8, ha8, Own.nil _ _, by simp, by omega, fun k => ⟨fun h => h.elim .inl (fun h => .inr (.inl h)), fun h => h.elim .inl (fun h => h.elim .inr (fun h => by cases h))⟩, by omega, by omega, fun k hk => B8.block k hk, B8.size⟩, hR8, fun k hk h => ?_, fun k hk h => ?_, fun k hk h => ?_, fun k hk => ?_, fun k hk => ?_, fun k hk => ?_, B8⟩
    · have := hG k hk
      rcases h with h | h <;> omega
    · have := hNlt k hk
      rcases h with h | h | h | h
      · omega
      · have := (hvrl k h).1; omega
      · cases h
      · cases h
    · rcases h with h | h | h | h
      · rcases hk with hk | hk <;> omega
      · have := (hvrl k h).1; rcases hk with hk | hk <;> omega
      · cases h
      · cases h
    · have := hG k hk; omega
    · rcases hk with hk | hk <;> omega
    · rcases hk with h | h | h | h
      · omega
      · have := (hvrl k h).1; omega
      · cases h
      · cases h
  have hown8 : l ≠ [] → ∃ g cur, ao = some ⟨g, 0, none⟩ ∧ (w7.setCell ⟨w5.heap.size, 0, none⟩ vr).heap[g]? = some (.cells cur 35) ∧ l.length * 3 ≤ cur.size ∧ ¬ G.has n g ∧ ¬ (g = w1.heap.size ∨ g = w.heap.size) ∧ ¬ (Gr.mk vr (.slice none 0 0) (.slice none 0 0)).has w5.heap.size g ∧ w.heap.size ≤ g := fun hne => by
    rcases ho8.2 with ⟨-, h0⟩ | ⟨g, cap, cur, e, hg, hh, hle, -, hcs, -⟩
    · exact absurd (List.eq_nil_of_length_eq_zero h0) hne
    · injection e with e1 _ e3
      have hg4 : g < w4.heap.size := by
        rcases HB.out.2.2.2.1.2 with ⟨-, h0⟩ | ⟨g', cap', cur', e', hg', hh', -⟩
        · exact absurd (List.eq_nil_of_length_eq_zero h0) hne
        · injection e' with e1' _ _
          rw [e1] at e1'
          injection e1' with e1'
          injection e1' with e1'
          rw [e1']
          exact lt_of_heap hh'
      refine ⟨g, cur, e1, hh, by omega, fun h => by have := hG g h; omega, fun h => by rcases h with h | h <;> omega, fun h => ?_, by omega⟩
      rcases h with h | h | h | h
      · omega
      · have := (hvrl g h).1; omega
      · cases h
      · cases h
  have HP := hide (And.intro P8 hown8)
  obtain ⟨ar, cr, hvr⟩ := own_shape ho7
  subst hvr
  clear hok hz45 hm5 ha5 ho5 hr6 k56 B6 hz6 ho7 hgr7 hnx7 k67 k57 hr7 kS hr8 hz7 hvrl hfs8 hs8 hR8 k58 hN8 B8 hm8 ha8 ho8 hNlt P8 hown8 B5 hb5 k45 hN hG HB hz1 hz2 hz4
  go_wp2_with fail
  refine hright.mono ?_
  rintro e w6 ⟨rfl, rfl⟩
  clear hright
  go_wp2_with (at_builtin; refine wpList_append_run rfl (.tmp 79) (.tmp 80) 22 rfl rfl rfl hrun7 ?_)
  generalize hw8 : w7.setCell ⟨w6.heap.size, 0, none⟩ (.slice ar l.length cr) = w8 at *
  generalize w6.heap.size = r at *
  generalize w1.heap.size = mb at *
  go_loopw [16] (fun i wr => ∃ j : Nat, i = .int .i64 (j : Int) ∧ j ≤ l.length ∧ PlayAt w wr n r mb w.heap.size (.slice aa an.length ca) ⟨l, [], [], 0⟩ l [] [] G (fun k => k = mb ∨ k = w.heap.size) ⟨.slice ar l.length cr, .slice none 0 0, .slice none 0 0⟩ 20000 [] ∧
      (l ≠ [] → ∃ g cur, ao = some ⟨g, 0, none⟩ ∧ wr.heap[g]? = some (.cells cur 35) ∧ l.length * 3 ≤ cur.size ∧ ¬ G.has n g ∧ ¬ (g = mb ∨ g = w.heap.size) ∧ ¬ (Gr.mk (.slice ar l.length cr) (.slice none 0 0) (.slice none 0 0)).has r g ∧ w.heap.size ≤ g))
    (fun i _ => l.length - (intOf i).toNat)
  case atStart => exact ⟨0, rfl, by omega, HP.out.1, HP.out.2⟩
  case round =>
    clear HP
    obtain ⟨j, rfl, hj, P, hown⟩ := hrel
    by_cases hlt : j < l.length
    · obtain ⟨g, cur, rfl, hg, hcs, g1, g2, g3, g4⟩ := hown (by rintro rfl; simp at hlt)
      have cg : wr.cell? ⟨g, j * 3, none⟩ = some (cur[j * 3]'(by omega)) := by
        rw [cell_of hg, Array.getElem?_eq_getElem (by omega)]
      have tg := thawed hg (j * 3)
      have kG := chg_set wr g (j * 3) (.int .i64 99)
      have P2 := P.keep (hS mb w.heap.size) kG (fun k e => by subst e; exact ⟨g1, g2, g3, g4⟩)
      have hg2 := heap_set hg (j * 3) (.int .i64 99)
      have hcs2 : l.length * 3 ≤ (cur.setIfInBounds (j * 3) (.int .i64 99)).size := by rw [Array.size_setIfInBounds]; exact hcs
      have HX := hide (And.intro P2 (And.intro hg2 (And.intro hcs2 (And.intro g1 (And.intro g2 (And.intro g3 g4))))))
      generalize (cur[j * 3]'(by omega)) = cv3 at cg
      clear P hown hg hcs g1 g2 g3 g4 kG P2 hg2 hcs2
      go_wp2_with fail
      go_roundw
      case rel => exact ⟨j + 1, by go_num, by omega, HX.out.1, fun _ => ⟨g, _, rfl, HX.out.2⟩⟩
      case measure => simp [intOf]; omega
    · have HP := hide P
      clear P hown
      go_wp2_with fail
      go_loopw [17, 18, 19, 20] (fun many sent ok i wr => ∃ (q : Nat) (x : Nt) (G : Gn) (H : Nat → Prop) (R : Gr) (m : Nat) (met : List Bs), many = .int .i64 (met.length : Int) ∧ sent = .int .i64 (x.sent : Int) ∧ ok = .bool true ∧ i = .int .i64 (q : Int) ∧ q ≤ xs.length ∧ q ≤ 100 ∧
          PlayAt w wr n r mb w.heap.size (.slice aa an.length ca) x x.fs x.th x.bk G H R m met ∧ x.th.length ≤ q ∧ x.bk.length ≤ 102 * q ∧ x.sent ≤ q ∧ 102 * (100 - q) ≤ m)
        (fun _ _ _ i _ => 100 - (intOf i).toNat)
      case atStart => exact ⟨0, ⟨l, [], [], 0⟩, G, _, _, 20000, [], rfl, rfl, rfl, rfl, by omega, by omega, HP.out, by simp, by simp, by simp, by omega⟩
      case round =>
        clear HP
        obtain ⟨q, x, G, H, R, m, met, rfl, rfl, rfl, rfl, hq1, hq2, P, hth, hbk, hse, hm⟩ := hrel
        by_cases hlt2 : q < xs.length ∧ q < 100
        · obtain ⟨q1, q2⟩ := hlt2
          obtain ⟨ub, uoff, rfl, hubl, hucell⟩ := hu4 (by rintro rfl; simp at q1)
          have c0 := (P.bel.cell (p := ⟨ub, uoff + q, none⟩) hubl).trans (hucell q q1)
          have hsx := hx xs[q] (List.getElem_mem q1)
          have HC := hide (show ∀ W, Below w.heap.size w W → W.cell? ⟨ub, uoff + q, none⟩ = some (.string (strB xs[q])) from fun W hW => (hW.cell (p := ⟨ub, uoff + q, none⟩) hubl).trans (hucell q q1))
          clear hu4 hucell
          generalize xs[q] = s at *
          have tls := toL s
          have q3 : (q : Int) < 100 := by omega
          by_cases hs0 : s = []
          · subst hs0
            have hse0 : (([] : Bs) == []) = true := rfl
            have hno := ask_none P.net
            obtain ⟨vm, s1, s2, s3, s5, s6, s7, s8, s9, s10, s11⟩ := P.srv
            obtain ⟨am39, cm39', rfl⟩ := own_shape s3
            obtain ⟨af39, cf39, hvf, -⟩ := P.ref.fs
            have hrf := P.ref.ref
            rw [hvf] at hrf
            have cm39 := cell_of s1 0
            have cr39 := cell_of hrf 0
            simp only [List.getElem?_toArray, List.getElem?_cons_zero] at cm39 cr39
            have HMB := hide (And.intro s1 hrf)
            have hsame := same_any wr.drew _ _ _ _ (Ts.nil _) (Ts.nil _) (by simp) (by simp)
            have HP39 := hide (P.keep (hS mb w.heap.size) ((Chg.refl (fun _ => False) wr).drew) (fun _ h => h.elim))
            have HQ := hide (And.intro hth (And.intro hbk hm))
            clear P s1 s2 s3 s5 s6 s7 s8 s9 s10 s11 hvf hrf hth hbk hm
            go_wp2_with fail
            refine hno.mono ?_
            rintro e w2 ⟨rfl, hw2'⟩
            rw [hw2']
            clear hno hw2'
            go_wp2_with fail
            refine wp_region_held_drew (S := fun Z => Z.cell? ⟨mb, 0, none⟩ = some (.slice am39 met.length cm39') ∧ Z.cell? ⟨r, 0, none⟩ = some (.slice af39 x.fs.length cf39)) (by kernel_rfl) (⟨cm39, cr39⟩) (fun hHeld => ?_)
            refine takeH (i := 0) (v := ?_) rfl (by kernel_rfl) (by kernel_rfl) (by kernel_rfl) (fun _ _ _ h => h) rfl ?_ hHeld ?_
            rotate_left
            · intro w hS; (try dsimp only at hS); obtain ⟨hS0, hS1⟩ := hS; go_simp; first | done | (with_reducible rfl)
            try simp only [Act.put, List.setIfInBounds_toArray, List.set_cons_zero, List.set_cons_succ]
            refine takeH (i := 1) (v := ?_) rfl (by kernel_rfl) (by kernel_rfl) (by kernel_rfl) (fun _ _ _ h => h) rfl ?_ hHeld ?_
            rotate_left
            · intro w hS; (try dsimp only at hS); obtain ⟨hS0, hS1⟩ := hS; go_simp; first | done | (with_reducible rfl)
            try simp only [Act.put, List.setIfInBounds_toArray, List.set_cons_zero, List.set_cons_succ]
            refine takeH (i := 2) (v := ?_) rfl (by kernel_rfl) (by kernel_rfl) (by kernel_rfl) (fun _ _ _ h => h) rfl ?_ hHeld ?_
            rotate_left
            · intro w hS; (try dsimp only at hS); obtain ⟨hS0, hS1⟩ := hS; go_simp; first | done | (with_reducible rfl)
            try simp only [Act.put, List.setIfInBounds_toArray, List.set_cons_zero, List.set_cons_succ]
            refine takeH (i := 3) (v := ?_) rfl (by kernel_rfl) (by kernel_rfl) (by kernel_rfl) (fun _ _ _ h => h) rfl ?_ hHeld ?_
            rotate_left
            · intro w hS; (try dsimp only at hS); obtain ⟨hS0, hS1⟩ := hS; go_simp; first | done | (with_reducible rfl)
            try simp only [Act.put, List.setIfInBounds_toArray, List.set_cons_zero, List.set_cons_succ]
            refine takeH (i := 4) (v := ?_) rfl (by kernel_rfl) (by kernel_rfl) (by kernel_rfl) (fun _ _ _ h => h) rfl ?_ hHeld ?_
            rotate_left
            · intro w hS; (try dsimp only at hS); obtain ⟨hS0, hS1⟩ := hS; go_simp; first | done | (with_reducible rfl)
            try simp only [Act.put, List.setIfInBounds_toArray, List.set_cons_zero, List.set_cons_succ]
            refine takeH (i := 5) (v := ?_) rfl (by kernel_rfl) (by kernel_rfl) (by kernel_rfl) (fun _ _ _ h => h) rfl ?_ hHeld ?_
            rotate_left
            · intro w hS; (try dsimp only at hS); obtain ⟨hS0, hS1⟩ := hS; go_simp; first | done | (with_reducible rfl)
            try simp only [Act.put, List.setIfInBounds_toArray, List.set_cons_zero, List.set_cons_succ]
            refine takeH (i := 6) (v := ?_) rfl (by kernel_rfl) (by kernel_rfl) (by kernel_rfl) (fun _ _ _ h => h) rfl ?_ hHeld ?_
            rotate_left
            · intro w hS; (try dsimp only at hS); obtain ⟨hS0, hS1⟩ := hS; go_simp; first | done | (with_reducible rfl)
            try simp only [Act.put, List.setIfInBounds_toArray, List.set_cons_zero, List.set_cons_succ]
            refine takeH (i := 7) (v := ?_) rfl (by kernel_rfl) (by kernel_rfl) (by kernel_rfl) (fun _ _ _ h => h) rfl ?_ hHeld ?_
            rotate_left
            · intro w hS; (try dsimp only at hS); obtain ⟨hS0, hS1⟩ := hS; go_simp; first | done | (with_reducible rfl)
            try simp only [Act.put, List.setIfInBounds_toArray, List.set_cons_zero, List.set_cons_succ]
            refine takeH (i := 8) (v := ?_) rfl (by kernel_rfl) (by kernel_rfl) (by kernel_rfl) (fun _ _ _ h => h) rfl ?_ hHeld ?_
            rotate_left
            · intro w hS; (try dsimp only at hS); obtain ⟨hS0, hS1⟩ := hS; go_simp; first | done | (with_reducible rfl)
            try simp only [Act.put, List.setIfInBounds_toArray, List.set_cons_zero, List.set_cons_succ]
            refine takeH (i := 9) (v := ?_) rfl (by kernel_rfl) (by kernel_rfl) (by kernel_rfl) (fun _ _ _ h => h) rfl ?_ hHeld ?_
            rotate_left
            · intro w hS; (try dsimp only at hS); obtain ⟨hS0, hS1⟩ := hS; go_simp; first | done | (with_reducible rfl)
            try simp only [Act.put, List.setIfInBounds_toArray, List.set_cons_zero, List.set_cons_succ]
            refine onlyH (i := 10) rfl (by kernel_rfl) rfl (fun K hK => ?_)
            go_simp
            refine hsame.mono ?_
            rintro e w9 ⟨rfl, k9⟩
            have P9 := HP39.out.keep (hS mb w.heap.size) k9 (fun _ h => h.elim)
            have cm9 : w9.cell? ⟨mb, 0, none⟩ = some (.slice am39 met.length cm39') := (World.cell?_of_block (k9.block mb (lt_of_heap HMB.out.1) (fun h => h))).trans cm39
            have cr9 : w9.cell? ⟨r, 0, none⟩ = some (.slice af39 x.fs.length cf39) := (World.cell?_of_block (k9.block r (lt_of_heap HMB.out.2) (fun h => h))).trans cr39
            have hsn := sent_any P9.net (by omega)
            have hlf := left_any P9.net
            simp only [decide_true]
            refine hK.out _ _ (⟨cm9, cr9⟩) (fun hHeld => ?_)
            clear hK K
            try simp only [Act.put, List.setIfInBounds_toArray, List.set_cons_zero, List.set_cons_succ]
            refine takeH (i := 11) (v := ?_) rfl (by kernel_rfl) (by kernel_rfl) (by kernel_rfl) (fun _ _ _ h => h) rfl ?_ hHeld ?_
            rotate_left
            · intro w hS; (try dsimp only at hS); obtain ⟨hS0, hS1⟩ := hS; go_simp; first | done | (with_reducible rfl)
            try simp only [Act.put, List.setIfInBounds_toArray, List.set_cons_zero, List.set_cons_succ]
            refine takeH (i := 12) (v := ?_) rfl (by kernel_rfl) (by kernel_rfl) (by kernel_rfl) (fun _ _ _ h => h) rfl ?_ hHeld ?_
            rotate_left
            · intro w hS; (try dsimp only at hS); obtain ⟨hS0, hS1⟩ := hS; go_simp; first | done | (with_reducible rfl)
            try simp only [Act.put, List.setIfInBounds_toArray, List.set_cons_zero, List.set_cons_succ]
            refine takeH (i := 13) (v := ?_) rfl (by kernel_rfl) (by kernel_rfl) (by kernel_rfl) (fun _ _ _ h => h) rfl ?_ hHeld ?_
            rotate_left
            · intro w hS; (try dsimp only at hS); obtain ⟨hS0, hS1⟩ := hS; go_simp; first | done | (with_reducible rfl)
            try simp only [Act.put, List.setIfInBounds_toArray, List.set_cons_zero, List.set_cons_succ]
            refine takeH (i := 15) (v := ?_) rfl (by kernel_rfl) (by kernel_rfl) (by kernel_rfl) (fun _ _ _ h => h) rfl ?_ hHeld ?_
            rotate_left
            · intro w hS; (try dsimp only at hS); obtain ⟨hS0, hS1⟩ := hS; go_simp; first | done | (with_reducible rfl)
            try simp only [Act.put, List.setIfInBounds_toArray, List.set_cons_zero, List.set_cons_succ]
            refine onlyH (i := 14) rfl (by kernel_rfl) rfl (fun K hK => ?_)
            go_simp
            refine hsn.mono ?_
            rintro e wA ⟨rfl, hwA⟩
            rw [hwA]
            clear hwA
            refine hK.out _ _ (⟨cm9, cr9⟩) (fun hHeld => ?_)
            clear hK K
            try simp only [Act.put, List.setIfInBounds_toArray, List.set_cons_zero, List.set_cons_succ]
            refine takeH (i := 16) (v := ?_) rfl (by kernel_rfl) (by kernel_rfl) (by kernel_rfl) (fun _ _ _ h => h) rfl ?_ hHeld ?_
            rotate_left
            · intro w hS; (try dsimp only at hS); obtain ⟨hS0, hS1⟩ := hS; go_simp; first | done | (with_reducible rfl)
            try simp only [Act.put, List.setIfInBounds_toArray, List.set_cons_zero, List.set_cons_succ]
            refine takeH (i := 17) (v := ?_) rfl (by kernel_rfl) (by kernel_rfl) (by kernel_rfl) (fun _ _ _ h => h) rfl ?_ hHeld ?_
            rotate_left
            · intro w hS; (try dsimp only at hS); obtain ⟨hS0, hS1⟩ := hS; go_simp; first | done | (with_reducible rfl)
            try simp only [Act.put, List.setIfInBounds_toArray, List.set_cons_zero, List.set_cons_succ]
            refine takeH (i := 18) (v := ?_) rfl (by kernel_rfl) (by kernel_rfl) (by kernel_rfl) (fun _ _ _ h => h) rfl ?_ hHeld ?_
            rotate_left
            · intro w hS; (try dsimp only at hS); obtain ⟨hS0, hS1⟩ := hS; go_simp; first | done | (with_reducible rfl)
            try simp only [Act.put, List.setIfInBounds_toArray, List.set_cons_zero, List.set_cons_succ]
            refine takeH (i := 19) (v := ?_) rfl (by kernel_rfl) (by kernel_rfl) (by kernel_rfl) (fun _ _ _ h => h) rfl ?_ hHeld ?_
            rotate_left
            · intro w hS; (try dsimp only at hS); obtain ⟨hS0, hS1⟩ := hS; go_simp; first | done | (with_reducible rfl)
            try simp only [Act.put, List.setIfInBounds_toArray, List.set_cons_zero, List.set_cons_succ]
            refine takeH (i := 21) (v := ?_) rfl (by kernel_rfl) (by kernel_rfl) (by kernel_rfl) (fun _ _ _ h => h) rfl ?_ hHeld ?_
            rotate_left
            · intro w hS; (try dsimp only at hS); obtain ⟨hS0, hS1⟩ := hS; go_simp; first | done | (with_reducible rfl)
            try simp only [Act.put, List.setIfInBounds_toArray, List.set_cons_zero, List.set_cons_succ]
            refine takeH (i := 22) (v := ?_) rfl (by kernel_rfl) (by kernel_rfl) (by kernel_rfl) (fun _ _ _ h => h) rfl ?_ hHeld ?_
            rotate_left
            · intro w hS; (try dsimp only at hS); obtain ⟨hS0, hS1⟩ := hS; go_simp; first | done | (with_reducible rfl)
            try simp only [Act.put, List.setIfInBounds_toArray, List.set_cons_zero, List.set_cons_succ]
            refine takeH (i := 23) (v := ?_) rfl (by kernel_rfl) (by kernel_rfl) (by kernel_rfl) (fun _ _ _ h => h) rfl ?_ hHeld ?_
            rotate_left
            · intro w hS; (try dsimp only at hS); obtain ⟨hS0, hS1⟩ := hS; go_simp; first | done | (with_reducible rfl)
            try simp only [Act.put, List.setIfInBounds_toArray, List.set_cons_zero, List.set_cons_succ]
            refine takeH (i := 24) (v := ?_) rfl (by kernel_rfl) (by kernel_rfl) (by kernel_rfl) (fun _ _ _ h => h) rfl ?_ hHeld ?_
            rotate_left
            · intro w hS; (try dsimp only at hS); obtain ⟨hS0, hS1⟩ := hS; go_simp; first | done | (with_reducible rfl)
            try simp only [Act.put, List.setIfInBounds_toArray, List.set_cons_zero, List.set_cons_succ]
            refine takeH (i := 25) (v := ?_) rfl (by kernel_rfl) (by kernel_rfl) (by kernel_rfl) (fun _ _ _ h => h) rfl ?_ hHeld ?_
            rotate_left
            · intro w hS; (try dsimp only at hS); obtain ⟨hS0, hS1⟩ := hS; go_simp; first | done | (with_reducible rfl)
            try simp only [Act.put, List.setIfInBounds_toArray, List.set_cons_zero, List.set_cons_succ]
            refine onlyH (i := 20) rfl (by kernel_rfl) rfl (fun K hK => ?_)
            go_simp
            refine hlf.mono ?_
            rintro e wB ⟨rfl, hwB⟩
            rw [hwB]
            clear hwB
            refine hK.out _ _ (⟨cm9, cr9⟩) (fun hHeld => ?_)
            clear hK K
            try simp only [Act.put, List.setIfInBounds_toArray, List.set_cons_zero, List.set_cons_succ]
            refine takeH (i := 26) (v := ?_) rfl (by kernel_rfl) (by kernel_rfl) (by kernel_rfl) (fun _ _ _ h => h) rfl ?_ hHeld ?_
            rotate_left
            · intro w hS; (try dsimp only at hS); obtain ⟨hS0, hS1⟩ := hS; go_simp; first | done | (with_reducible rfl)
            try simp only [Act.put, List.setIfInBounds_toArray, List.set_cons_zero, List.set_cons_succ]
            refine takeH (i := 27) (v := ?_) rfl (by kernel_rfl) (by kernel_rfl) (by kernel_rfl) (fun _ _ _ h => h) rfl ?_ hHeld ?_
            rotate_left
            · intro w hS; (try dsimp only at hS); obtain ⟨hS0, hS1⟩ := hS; go_simp; first | done | (with_reducible rfl)
            try simp only [Act.put, List.setIfInBounds_toArray, List.set_cons_zero, List.set_cons_succ]
            refine takeH (i := 28) (v := ?_) rfl (by kernel_rfl) (by kernel_rfl) (by kernel_rfl) (fun _ _ _ h => h) rfl ?_ hHeld ?_
            rotate_left
            · intro w hS; (try dsimp only at hS); obtain ⟨hS0, hS1⟩ := hS; go_simp; first | done | (with_reducible rfl)
            try simp only [Act.put, List.setIfInBounds_toArray, List.set_cons_zero, List.set_cons_succ]
            refine wpAnyH_done (by kernel_rfl) ?_ _
            clear hHeld
            have HP9 := hide P9
            clear P9 hsn hlf cm9 cr9 k9 hsame
            go_wp2_with fail
            go_roundw
            case rel => exact ⟨q + 1, x, G, H, R, m, met, rfl, rfl, rfl, by go_num, by omega, by omega, HP9.out, by have := HQ.out.1; omega, by have := HQ.out.2.1; omega, by omega, by have := HQ.out.2.2; omega⟩
            case measure => simp [intOf]; omega
          · have hse0 : (s == []) = false := str_ne hs0
            have hfr : Fr s := ⟨hs0, by omega⟩
            have hcome : (x.come s).length ≤ 102 := by
              have := goP_out x.fs x.th s
              show (goP x.fs x.th s).1.length ≤ _
              omega
            have hask := ask_any (hS mb w.heap.size) wr n x G H m met s P.net P.srv P.gh P.bel.size P.gb hfr (by omega) (by omega) (by omega) (by omega) (by omega)
            have HP := hide P
            clear P
            go_wp2_with fail
            refine hask.mono ?_
            rintro e w2 ⟨v5, G', H', rfl, hov, hN', hV', h1, h2, h3, h4, hc⟩
            have hmet : (x.served (pstep an) met s).st = met ++ x.come s := serveL_met an (x.come s) _
            rw [hmet] at hV'
            have P2 := HP.out.asked (hS mb w.heap.size) hN' hV' h1 h2 h3 hc
            have c2 := HC.out _ P2.bel
            have hgo := rgo_any w2 r x.fs x.th x.bk R s P2.ref hfr (by omega)
            have hwait := goP_wait x.fs x.th s
            have hrlt : r < wr.heap.size := HP.out.ref.lt r (.inl rfl)
            have hsz2 : wr.heap.size ≤ w2.heap.size := hc.size
            have hv5 : ∀ k, v5.ownBlock = some k → ¬ G'.has n k ∧ ¬ H' k ∧ wr.heap.size ≤ k ∧ k < w2.heap.size := fun k hk => ⟨(h4 k hk).1, (h4 k hk).2, own_lt hov hk⟩
            have hserved : (x.served (pstep an) met s) = serveL (pstep an) (x.come s) ⟨[], (goP x.fs x.th s).2.1, x.bk, met⟩ := rfl
            have hxa : x.ask (pstep an) met s = ⟨(x.served (pstep an) met s).fs, (goP x.fs x.th s).2.2, (x.served (pstep an) met s).bk, x.sent + 1⟩ := rfl
            have hfew := serveL_few (pstep an) (x.come s) ⟨[], (goP x.fs x.th s).2.1, x.bk, met⟩
            have hcomeE : (goP x.fs x.th s).1 = x.come s := rfl
            rw [hcomeE] at hgo
            have hallc : ∀ p (h : p < (x.come s).length), Fr ((x.come s)[p]'h) := fun p h => (goP_all (fs := x.fs) (fun f s h => h.turn f) hfr HP.out.net.ok1).1 _ (List.getElem_mem h)
            have HOV := hide hov
            have HP2 := hide P2
            have HX := hide (And.intro hserved (And.intro hxa (And.intro hfew (And.intro hwait hv5))))
            obtain ⟨a5, c5, hv5s⟩ := own_shape hov
            subst hv5s
            generalize hL5 : (x.served (pstep an) met s).out.length = L5 at *
            obtain ⟨cs, hcs⟩ : ∃ cs, cs = x.come s := ⟨_, rfl⟩
            have HCS := hide hcs
            have HL5 := hide hL5.symm
            rw [← hcs] at hgo hcome HP2 HX
            have HFRC := hide (show ∀ p (h : p < cs.length), Fr (cs[p]'h) from by rw [hcs]; exact hallc)
            obtain ⟨fs1, hfs1⟩ : ∃ f, f = (goP x.fs x.th s).2.1 := ⟨_, rfl⟩
            obtain ⟨th1, hth1⟩ : ∃ f, f = (goP x.fs x.th s).2.2 := ⟨_, rfl⟩
            rw [← hfs1, ← hth1] at hgo HX
            clear hask hov hN' hV' h1 h2 h3 h4 hc hmet P2 hwait hv5 hserved hxa hfew hcomeE hL5 hcs hfs1 hth1 hallc
            go_wp2_with fail
            refine hgo.mono ?_
            rintro e w3 ⟨vc, R3, rfl, hoc, hR3, hr3, hvc, k3⟩
            have P3 := HP2.out.refd (hS mb w.heap.size) hR3 hr3 k3
            have hsz3 : w2.heap.size ≤ w3.heap.size := k3.size
            have hgot3 := HOV.out.keep k3 (fun k hk e => by have := (HX.out.2.2.2.2 k hk).2.2.1; omega)
            have HV5 := hide (show ∀ k, (Value.slice a5 L5 c5).ownBlock = some k → ¬ G'.has n k ∧ ¬ H' k ∧ wr.heap.size ≤ k ∧ k < w3.heap.size from fun k hk => by
              obtain ⟨z1, z2, z3, z4⟩ := HX.out.2.2.2.2 k hk
              exact ⟨z1, z2, z3, by omega⟩)
            have HVC := hide (show ∀ k, vc.ownBlock = some k → w2.heap.size ≤ k ∧ k < w3.heap.size from fun k hk => own_lt hoc hk)
            have P2L := hide P3
            have hrw3 : r < w3.heap.size := by omega
            have HZW := hide (show w.heap.size ≤ w3.heap.size from P3.bel.size)
            have hrw2 : r < w2.heap.size := by omega
            obtain ⟨y0, hy0⟩ : ∃ y0 : Sg (List Bs), y0 = ⟨[], fs1, x.bk, met⟩ := ⟨_, rfl⟩
            have HXX := hide (show x.served (pstep an) met s = serveL (pstep an) cs y0 ∧ x.ask (pstep an) met s = ⟨(serveL (pstep an) cs y0).fs, th1, (serveL (pstep an) cs y0).bk, x.sent + 1⟩ ∧ (serveL (pstep an) cs y0).bk.length ≤ x.bk.length + cs.length ∧ th1.length ≤ x.th.length + 1 from by
              obtain ⟨z1, z2, z3, z4, -⟩ := HX.out
              rw [hy0, ← z1]
              exact ⟨rfl, z2, by rw [z1]; exact z3.1, z4⟩)
            have hy0s : y0.st = met ∧ y0.bk.length ≤ 10200 ∧ y0.out.length = 0 := by rw [hy0]; exact ⟨rfl, by show x.bk.length ≤ _; omega, rfl⟩
            have HI := hide (show PlayAt w w3 n r mb w.heap.size (.slice aa an.length ca) (x.ask (pstep an) met s) (serveL (pstep an) (cs.take 0) y0).fs th1 (serveL (pstep an) (cs.take 0) y0).bk G' H' R3 (m - cs.length) (met ++ cs) ∧ Own w3 wr.heap.size (.slice a5 L5 c5) (x.served (pstep an) met s).out ∧ Own w3 w2.heap.size vc cs from by
              rw [hy0]
              exact ⟨P3, hgot3, hoc⟩)
            obtain ⟨ac, cc, hvcs⟩ := own_shape hoc
            subst hvcs
            clear hgo hoc hR3 hr3 hvc k3 P3 hgot3 hy0 HP2 HOV HX
            obtain ⟨x', hx'⟩ : ∃ x', x' = x.ask (pstep an) met s := ⟨_, rfl⟩
            obtain ⟨out, hout⟩ : ∃ o, o = (x.served (pstep an) met s).out := ⟨_, rfl⟩
            rw [← hx', ← hout] at HI
            rw [← hx'] at P2L HXX
            have HLO := hide (show L5 = out.length by rw [hout]; exact HL5.out)
            have HOE := hide (show out = (serveL (pstep an) cs y0).out by rw [hout, HXX.out.1])
            have HOL := hide (show out.length ≤ 4000000 from by
              have z := (serveL_few (pstep an) cs y0).2
              rw [← HOE.out, hy0s.2.2] at z
              have : cs.length * (y0.bk.length + cs.length + 2) ≤ 102 * 10304 := Nat.mul_le_mul hcome (by have := hy0s.2.1; omega)
              omega)
            clear hx' hout HL5
            go_wp2_with fail
            go_loopw [17, 19, 22, 24] (fun many ok want k wq => ∃ (p : Nat) (R' : Gr), many = .int .i64 ((met.length + p : Nat) : Int) ∧ ok = .bool true ∧ k = .int .i64 (p : Int) ∧ p ≤ cs.length ∧ PlayAt w wq n r mb w.heap.size (.slice aa an.length ca) x' (serveL (pstep an) (cs.take p) y0).fs th1 (serveL (pstep an) (cs.take p) y0).bk G' H' R' (m - cs.length) (met ++ cs) ∧
                Own wq w3.heap.size want (serveL (pstep an) (cs.take p) y0).out ∧ (∀ k, want.ownBlock = some k → ¬ R'.has r k) ∧ Own wq wr.heap.size (.slice a5 L5 c5) out ∧ Own wq w2.heap.size (.slice ac cs.length cc) cs ∧ w3.heap.size ≤ wq.heap.size)
              (fun _ _ _ k _ => cs.length - (intOf k).toNat)
            case atStart => exact ⟨0, R3, rfl, rfl, rfl, by omega, HI.out.1, by simp [serveL]; rw [List.eq_nil_of_length_eq_zero hy0s.2.2]; exact Own.nil _ _, (fun k hk => by cases hk), HI.out.2.1, HI.out.2.2, Nat.le_refl _⟩
            case round =>
              clear HI
              obtain ⟨p, R', rfl, rfl, rfl, hp, P, hwant, hwn, hgot, hcom, hz3⟩ := hrel
              by_cases hpl : p < cs.length
              · have hTK := serveL_take (step := pstep an) (x := y0) hpl
                have hymet := serveL_met an (cs.take p) y0
                rw [hy0s.1] at hymet
                have hfewp := serveL_few (pstep an) (cs.take p) y0
                rw [List.length_take, Nat.min_eq_left (by omega), hy0s.2.2] at hfewp
                have hbp : (serveL (pstep an) (cs.take p) y0).bk.length ≤ 10400 := by have := hy0s.2.1; omega
                have hop : (serveL (pstep an) (cs.take p) y0).out.length ≤ 4000000 := by
                  have : p * (y0.bk.length + p + 2) ≤ 102 * 10304 := Nat.mul_le_mul (by omega) (by have := hy0s.2.1; omega)
                  omega
                have hylen : (serveL (pstep an) (cs.take p) y0).st.length = met.length + p := by
                  rw [hymet, List.length_append, List.length_take, Nat.min_eq_left (by omega)]
                obtain ⟨vm, s1, s2, s3, s5, s6, s7, s8, s9, s10, s11⟩ := P.srv
                obtain ⟨am, cm, hvm, -, -, hmc⟩ := s3.ts
                obtain ⟨b1, o1, ham, -, hmcell⟩ := hmc (by intro e; rw [List.append_eq_nil_iff] at e; rw [e.2] at hpl; simp at hpl)
                have hmp : met.length + p < (met ++ cs).length := by rw [List.length_append]; omega
                have cmet := hmcell (met.length + p) hmp
                have hmg : (met ++ cs)[met.length + p] = cs[p] := by rw [List.getElem_append_right (by omega)]; simp
                rw [hmg] at cmet
                rw [List.length_append] at hvm
                subst hvm ham
                obtain ⟨acx, ccx, ecx, -, -, hcc⟩ := hcom.ts
                injection ecx with ecx1 _ ecx3
                obtain ⟨b2, o2, hac, -, hccell⟩ := hcc (by rintro rfl; simp at hpl)
                have ccom := hccell p hpl
                rw [hac] at ecx1
                subst ecx1 ecx3
                have cmb := cell_of s1 0
                have cab := cell_of s2 0
                simp only [List.getElem?_toArray, List.getElem?_cons_zero] at cmb cab
                have HLOW := hide (And.intro s10 s11)
                have HT := hide hTK
                have HYS := hide hylen
                have HD0 := hide (And.intro P (And.intro hwant (And.intro hwn (And.intro hgot hcom))))
                have HZ3 := hide hz3
                have hfrc := HFRC.out p hpl
                clear hTK hymet hfewp hylen s1 s2 s3 s5 s6 s7 s8 s9 s10 s11 hmc hmcell hmp hmg hcc hccell hac P hwant hwn hgot hcom hz3
                generalize serveL (pstep an) (cs.take p) y0 = y at *
                generalize cs[p] = c at *
                obtain ⟨M, hM⟩ : ∃ M, M = met.length + p := ⟨_, rfl⟩
                obtain ⟨ML, hML⟩ : ∃ ML, ML = met.length + cs.length := ⟨_, rfl⟩
                rw [← hML] at cmb
                rw [← hM] at cmet HYS ⊢
                have hMl : (M : Int) < (ML : Int) := by omega
                have hMs : M ≤ 2000000000000 := by
                  obtain ⟨_, _, _, _, z, _⟩ := HD0.out.1.srv
                  rw [List.length_append] at z
                  omega
                have HM := hide hM
                clear hM hML
                have hwc : IntKind.i64.wrap (M : Int) = (M : Int) := by rw [IntKind.wrap_i64]; omega
                have tlc := toL c
                have HYC := hide (show ((pstep an y.st c).1 = [] → stepS (pstep an) y c = ⟨y.out, y.fs, y.bk, (pstep an y.st c).2⟩) ∧ ((pstep an y.st c).1 ≠ [] → stepS (pstep an) y c = ⟨y.out ++ (goP y.fs y.bk (pstep an y.st c).1).1, (goP y.fs y.bk (pstep an y.st c).1).2.1, (goP y.fs y.bk (pstep an y.st c).1).2.2, (pstep an y.st c).2⟩) from ⟨stepS_none, stepS_some⟩)
                have htlen : (pstep an y.st c).1.length ≤ 140737488355328 := by
                  by_cases h0 : an = []
                  · rw [pstep_none h0]; exact hfrc.2
                  · exact (hS mb w.heap.size).short y.st c hfrc
                have HY := HYC
                by_cases h0 : an = []
                · rw [pstep_none h0] at HY htlen
                  have hn1 : ¬ 0 < an.length := by rw [h0]; simp
                  have hn2 : ¬ (0 : Int) < (an.length : Int) := by omega
                  have HD := hide (show PlayAt w wr.drew n r mb w.heap.size (.slice aa an.length ca) x' y.fs th1 y.bk G' H' R' (m - cs.length) (met ++ cs) ∧ Own wr.drew w3.heap.size u22 y.out ∧ (∀ k, u22.ownBlock = some k → ¬ R'.has r k) ∧ Own wr.drew _ (.slice a5 L5 c5) out ∧ Own wr.drew w2.heap.size (.slice (some ⟨b2, o2, none⟩) cs.length cc) cs from
                    ⟨HD0.out.1.keep (hS mb w.heap.size) ((Chg.refl (fun _ => False) wr).drew) (fun _ h => h.elim), HD0.out.2.1.keep ((Chg.refl (fun _ => False) wr).drew) (fun _ _ h => h), HD0.out.2.2.1, HD0.out.2.2.2.1.keep ((Chg.refl (fun _ => False) wr).drew) (fun _ _ h => h), HD0.out.2.2.2.2.keep ((Chg.refl (fun _ => False) wr).drew) (fun _ _ h => h)⟩)
                  have htl : c.length ≤ 140737488355328 := htlen
                  clear HD0 HYC h0 htlen
                  simp only at HY
                  go_wp2_with fail
                  refine wp_region_held_drew (S := fun Z => Z.cell? ⟨mb, 0, none⟩ = some (.slice (some ⟨b1, o1, none⟩) ML cm) ∧ Z.cell? ⟨b1, o1 + M, none⟩ = some (.string (strB c)) ∧ Z.cell? ⟨b2, o2 + p, none⟩ = some (.string (strB c))) (by kernel_rfl) (⟨cmb, cmet, ccom⟩) (fun hHeld => ?_)
                  refine takeH (i := 0) (v := ?_) rfl (by kernel_rfl) (by kernel_rfl) (by kernel_rfl) (fun _ _ _ h => h) rfl ?_ hHeld ?_
                  rotate_left
                  · intro w hS; (try dsimp only at hS); obtain ⟨hS0, hS1, hS2⟩ := hS; go_simp; first | done | (with_reducible rfl)
                  try simp only [Act.put, List.setIfInBounds_toArray, List.set_cons_zero, List.set_cons_succ]
                  refine takeH (i := 1) (v := ?_) rfl (by kernel_rfl) (by kernel_rfl) (by kernel_rfl) (fun _ _ _ h => h) rfl ?_ hHeld ?_
                  rotate_left
                  · intro w hS; (try dsimp only at hS); obtain ⟨hS0, hS1, hS2⟩ := hS; go_simp; first | done | (with_reducible rfl)
                  try simp only [Act.put, List.setIfInBounds_toArray, List.set_cons_zero, List.set_cons_succ]
                  refine takeH (i := 2) (v := ?_) rfl (by kernel_rfl) (by kernel_rfl) (by kernel_rfl) (fun _ _ _ h => h) rfl ?_ hHeld ?_
                  rotate_left
                  · intro w hS; (try dsimp only at hS); obtain ⟨hS0, hS1, hS2⟩ := hS; go_simp; first | done | (with_reducible rfl)
                  try simp only [Act.put, List.setIfInBounds_toArray, List.set_cons_zero, List.set_cons_succ]
                  refine takeH (i := 3) (v := ?_) rfl (by kernel_rfl) (by kernel_rfl) (by kernel_rfl) (fun _ _ _ h => h) rfl ?_ hHeld ?_
                  rotate_left
                  · intro w hS; (try dsimp only at hS); obtain ⟨hS0, hS1, hS2⟩ := hS; go_simp; first | done | (with_reducible rfl)
                  try simp only [Act.put, List.setIfInBounds_toArray, List.set_cons_zero, List.set_cons_succ]
                  refine takeH (i := 4) (v := ?_) rfl (by kernel_rfl) (by kernel_rfl) (by kernel_rfl) (fun _ _ _ h => h) rfl ?_ hHeld ?_
                  rotate_left
                  · intro w hS; (try dsimp only at hS); obtain ⟨hS0, hS1, hS2⟩ := hS; go_simp; first | done | (with_reducible rfl)
                  try simp only [Act.put, List.setIfInBounds_toArray, List.set_cons_zero, List.set_cons_succ]
                  refine takeH (i := 5) (v := ?_) rfl (by kernel_rfl) (by kernel_rfl) (by kernel_rfl) (fun _ _ _ h => h) rfl ?_ hHeld ?_
                  rotate_left
                  · intro w hS; (try dsimp only at hS); obtain ⟨hS0, hS1, hS2⟩ := hS; go_simp; first | done | (with_reducible rfl)
                  try simp only [Act.put, List.setIfInBounds_toArray, List.set_cons_zero, List.set_cons_succ]
                  refine takeH (i := 6) (v := ?_) rfl (by kernel_rfl) (by kernel_rfl) (by kernel_rfl) (fun _ _ _ h => h) rfl ?_ hHeld ?_
                  rotate_left
                  · intro w hS; (try dsimp only at hS); obtain ⟨hS0, hS1, hS2⟩ := hS; go_simp; first | done | (with_reducible rfl)
                  try simp only [Act.put, List.setIfInBounds_toArray, List.set_cons_zero, List.set_cons_succ]
                  refine takeH (i := 7) (v := ?_) rfl (by kernel_rfl) (by kernel_rfl) (by kernel_rfl) (fun _ _ _ h => h) rfl ?_ hHeld ?_
                  rotate_left
                  · intro w hS; (try dsimp only at hS); obtain ⟨hS0, hS1, hS2⟩ := hS; go_simp; first | done | (with_reducible rfl)
                  try simp only [Act.put, List.setIfInBounds_toArray, List.set_cons_zero, List.set_cons_succ]
                  refine takeH (i := 8) (v := ?_) rfl (by kernel_rfl) (by kernel_rfl) (by kernel_rfl) (fun _ _ _ h => h) rfl ?_ hHeld ?_
                  rotate_left
                  · intro w hS; (try dsimp only at hS); obtain ⟨hS0, hS1, hS2⟩ := hS; go_simp; first | done | (with_reducible rfl)
                  try simp only [Act.put, List.setIfInBounds_toArray, List.set_cons_zero, List.set_cons_succ]
                  refine takeH (i := 9) (v := ?_) rfl (by kernel_rfl) (by kernel_rfl) (by kernel_rfl) (fun _ _ _ h => h) rfl ?_ hHeld ?_
                  rotate_left
                  · intro w hS; (try dsimp only at hS); obtain ⟨hS0, hS1, hS2⟩ := hS; go_simp; first | done | (with_reducible rfl)
                  try simp only [Act.put, List.setIfInBounds_toArray, List.set_cons_zero, List.set_cons_succ]
                  refine takeH (i := 10) (v := ?_) rfl (by kernel_rfl) (by kernel_rfl) (by kernel_rfl) (fun _ _ _ h => h) rfl ?_ hHeld ?_
                  rotate_left
                  · intro w hS; (try dsimp only at hS); obtain ⟨hS0, hS1, hS2⟩ := hS; go_simp; first | done | (with_reducible rfl)
                  try simp only [Act.put, List.setIfInBounds_toArray, List.set_cons_zero, List.set_cons_succ]
                  refine takeH (i := 11) (v := ?_) rfl (by kernel_rfl) (by kernel_rfl) (by kernel_rfl) (fun _ _ _ h => h) rfl ?_ hHeld ?_
                  rotate_left
                  · intro w hS; (try dsimp only at hS); obtain ⟨hS0, hS1, hS2⟩ := hS; go_simp; first | done | (with_reducible rfl)
                  try simp only [Act.put, List.setIfInBounds_toArray, List.set_cons_zero, List.set_cons_succ]
                  refine takeH (i := 12) (v := ?_) rfl (by kernel_rfl) (by kernel_rfl) (by kernel_rfl) (fun _ _ _ h => h) rfl ?_ hHeld ?_
                  rotate_left
                  · intro w hS; (try dsimp only at hS); obtain ⟨hS0, hS1, hS2⟩ := hS; go_simp; first | done | (with_reducible rfl)
                  try simp only [Act.put, List.setIfInBounds_toArray, List.set_cons_zero, List.set_cons_succ]
                  refine takeH (i := 13) (v := ?_) rfl (by kernel_rfl) (by kernel_rfl) (by kernel_rfl) (fun _ _ _ h => h) rfl ?_ hHeld ?_
                  rotate_left
                  · intro w hS; (try dsimp only at hS); obtain ⟨hS0, hS1, hS2⟩ := hS; go_simp; first | done | (with_reducible rfl)
                  try simp only [Act.put, List.setIfInBounds_toArray, List.set_cons_zero, List.set_cons_succ]
                  refine takeH (i := 14) (v := ?_) rfl (by kernel_rfl) (by kernel_rfl) (by kernel_rfl) (fun _ _ _ h => h) rfl ?_ hHeld ?_
                  rotate_left
                  · intro w hS; (try dsimp only at hS); obtain ⟨hS0, hS1, hS2⟩ := hS; go_simp; first | done | (with_reducible rfl)
                  try simp only [Act.put, List.setIfInBounds_toArray, List.set_cons_zero, List.set_cons_succ]
                  refine takeH (i := 15) (v := ?_) rfl (by kernel_rfl) (by kernel_rfl) (by kernel_rfl) (fun _ _ _ h => h) rfl ?_ hHeld ?_
                  rotate_left
                  · intro w hS; (try dsimp only at hS); obtain ⟨hS0, hS1, hS2⟩ := hS; go_simp; first | done | (with_reducible rfl)
                  try simp only [Act.put, List.setIfInBounds_toArray, List.set_cons_zero, List.set_cons_succ]
                  refine wpAnyH_done (by kernel_rfl) ?_ _
                  clear hHeld
                  by_cases ht0 : c = []
                  · have hte : (c == []) = true := by simp [ht0]
                    replace HY := hide (HY.out.1 ht0)
                    clear ht0
                    go_wp2_with fail
                    go_roundw
                    case rel => exact ⟨p + 1, R', by have := HM.out; exact congrArg (Value.int .i64) (by omega), rfl, by go_num, by omega, by rw [HT.out, HY.out]; exact HD.out.1, by rw [HT.out, HY.out]; exact HD.out.2.1, HD.out.2.2.1, HD.out.2.2.2.1, HD.out.2.2.2.2, HZ3.out⟩
                    case measure => simp [intOf]; omega
                  · have hte : (c == []) = false := str_ne ht0
                    replace HY := hide (HY.out.2 ht0)
                    have hcm := rcome_any wr.drew r y.fs th1 y.bk R' c HD.out.1.ref ⟨ht0, htl⟩ (by omega)
                    clear ht0
                    go_wp2_with fail
                    refine hcm.mono ?_
                    rintro e w4 ⟨vb, R4, rfl, hob, hR4, hr4, hvb, k4⟩
                    obtain ⟨PD, hwant, hwn, hgot, hcom⟩ := HD.out
                    have hzD : wr.drew.heap.size ≤ w4.heap.size := k4.size
                    have hrD : r < w3.heap.size := hrw3
                    have hz3D : w3.heap.size ≤ wr.drew.heap.size := HZ3.out
                    have P4 := PD.refd (hS mb w.heap.size) hR4 hr4 k4
                    have hwant4 := hwant.keep k4 (fun k hk e => by have := (own_lt hwant hk).1; omega)
                    have hgot4 := hgot.keep k4 (fun k hk e => by have := (HV5.out k hk).2.2.1; omega)
                    have hcom4 := hcom.keep k4 (fun k hk e => by have := (HVC.out k hk).1; omega)
                    have hgol := goP_out y.fs y.bk c
                    have hzz := PD.bel.size
                    obtain ⟨v6, w6, hrun6, ho6, hgr6, hnx6⟩ := app_texts w4 w3.heap.size u22 y.out vb _ hwant4 hob.ts (by omega) (show y.out.length ≤ _ by omega) (show (goP y.fs y.bk c).1.length ≤ _ by omega)
                    have k6 := Chg.of_grown hgr6
                    have hltH := (hS mb w.heap.size).lt _ _ _ _ P2L.out.srv
                    have P6 := P4.keep (hS mb w.heap.size) k6 (fun k hk => by
                      have hw := own_lt hwant4 hk.symm
                      refine ⟨fun h => ?_, fun h => ?_, fun h => ?_, by have := HZW.out; omega⟩
                      · have := P2L.out.net.lt h; omega
                      · have := hltH k h; omega
                      · rcases hr4 k h with q | q
                        · exact hwn k hk.symm q
                        · have := (own_lt hwant hk.symm).2; omega)
                    have hgot6 := hgot4.keep k6 (fun k hk e => by have := (HV5.out k hk).2.2.2; have := (own_lt hwant4 e.symm).1; omega)
                    have hcom6 := hcom4.keep k6 (fun k hk e => by have := (HVC.out k hk).2; have := (own_lt hwant4 e.symm).1; omega)
                    have hwn6 : ∀ k, v6.ownBlock = some k → ¬ R4.has r k := fun k hk h => by
                      rcases hnx6 with q | q
                      · rw [q] at hk
                        rcases hr4 k h with q | q
                        · exact hwn k hk q
                        · have := (own_lt hwant hk).2; omega
                      · rw [q] at hk
                        injection hk with hk
                        have := hR4.lt k h
                        omega
                    have HF := hide (And.intro P6 (And.intro ho6 (And.intro hwn6 (And.intro hgot6 (And.intro hcom6 (show w3.heap.size ≤ w6.heap.size from Nat.le_trans hz3D (Nat.le_trans hzD k6.size)))))))
                    obtain ⟨uw, ucw, huw⟩ := own_shape hwant
                    subst huw
                    obtain ⟨ub4, uc4, hub4⟩ := own_shape hob
                    subst hub4
                    obtain ⟨ux, uxc, hux⟩ := own_shape ho6
                    subst hux
                    rw [List.length_append] at hrun6 HF
                    clear hcm hob hR4 hr4 hvb k4 PD hwant hwn hgot hcom hzD hrD hz3D P4 hwant4 hgot4 hcom4 hzz ho6 hgr6 hnx6 k6 hltH P6 hgot6 hcom6 hwn6 hgol
                    generalize (goP y.fs y.bk c).1.length = gl at *
                    go_wp2_with (at_builtin; refine wpList_append_run rfl (.tmp 169) (.tmp 172) 23 rfl rfl rfl hrun6 ?_)
                    go_roundw
                    case rel => exact ⟨p + 1, R4, by have := HM.out; exact congrArg (Value.int .i64) (by omega), rfl, by go_num, by omega, by rw [HT.out, HY.out]; exact HF.out.1, by rw [HT.out, HY.out]; exact HF.out.2.1, HF.out.2.2.1, HF.out.2.2.2.1, HF.out.2.2.2.2.1, HF.out.2.2.2.2.2⟩
                    case measure => simp [intOf]; omega
                · rw [pstep_some h0] at HY htlen
                  have hpos : 0 < an.length := List.length_pos_iff.2 h0
                  have hn2 : (0 : Int) < (an.length : Int) := by omega
                  have hn0 : ¬ an.length = 0 := by omega
                  obtain ⟨axx, cxx, exx, -, -, hanc⟩ := HAN.out.low HLOW.out.1 HLOW.out.2
                  injection exx with exx1 _ exx3
                  obtain ⟨b3, o3, hax3, -, hancell⟩ := hanc h0
                  rw [hax3] at exx1
                  have hmod : M % an.length < an.length := Nat.mod_lt _ hpos
                  have cans := hancell _ hmod
                  have hget : an.getD (y.st.length % an.length) [] = an[M % an.length] := by
                    rw [HYS.out, List.getD_eq_getElem?_getD, List.getElem?_eq_getElem hmod]
                    rfl
                  rw [hget] at HY htlen
                  have hrem : (M : Int).tmod (an.length : Int) = ((M % an.length : Nat) : Int) := by
                    rw [Int.tmod_eq_emod_of_nonneg (by omega)]
                    simp
                  have HD := hide (show PlayAt w wr.drew.drew n r mb w.heap.size (.slice aa an.length ca) x' y.fs th1 y.bk G' H' R' (m - cs.length) (met ++ cs) ∧ Own wr.drew.drew w3.heap.size u22 y.out ∧ (∀ k, u22.ownBlock = some k → ¬ R'.has r k) ∧ Own wr.drew.drew _ (.slice a5 L5 c5) out ∧ Own wr.drew.drew w2.heap.size (.slice (some ⟨b2, o2, none⟩) cs.length cc) cs from
                    ⟨HD0.out.1.keep (hS mb w.heap.size) ((Chg.refl (fun _ => False) wr).drew.drew) (fun _ h => h.elim), HD0.out.2.1.keep ((Chg.refl (fun _ => False) wr).drew.drew) (fun _ _ h => h), HD0.out.2.2.1, HD0.out.2.2.2.1.keep ((Chg.refl (fun _ => False) wr).drew.drew) (fun _ _ h => h), HD0.out.2.2.2.2.keep ((Chg.refl (fun _ => False) wr).drew.drew) (fun _ _ h => h)⟩)
                  clear HD0 HYC h0 hanc hancell hget exx3 hax3
                  subst exx1
                  generalize an[M % an.length] = t at *
                  generalize M % an.length = idx at *
                  have hq1 : (idx : Int) < (an.length : Int) := by omega
                  have htl : t.length ≤ 140737488355328 := htlen
                  clear htlen
                  simp only at HY
                  have tlt := toL t
                  go_wp2_with fail
                  refine wp_region_held_drew (S := fun Z => Z.cell? ⟨mb, 0, none⟩ = some (.slice (some ⟨b1, o1, none⟩) ML cm) ∧ Z.cell? ⟨b1, o1 + M, none⟩ = some (.string (strB c)) ∧ Z.cell? ⟨b2, o2 + p, none⟩ = some (.string (strB c))) (by kernel_rfl) (⟨cmb, cmet, ccom⟩) (fun hHeld => ?_)
                  refine takeH (i := 0) (v := ?_) rfl (by kernel_rfl) (by kernel_rfl) (by kernel_rfl) (fun _ _ _ h => h) rfl ?_ hHeld ?_
                  rotate_left
                  · intro w hS; (try dsimp only at hS); obtain ⟨hS0, hS1, hS2⟩ := hS; go_simp; first | done | (with_reducible rfl)
                  try simp only [Act.put, List.setIfInBounds_toArray, List.set_cons_zero, List.set_cons_succ]
                  refine takeH (i := 1) (v := ?_) rfl (by kernel_rfl) (by kernel_rfl) (by kernel_rfl) (fun _ _ _ h => h) rfl ?_ hHeld ?_
                  rotate_left
                  · intro w hS; (try dsimp only at hS); obtain ⟨hS0, hS1, hS2⟩ := hS; go_simp; first | done | (with_reducible rfl)
                  try simp only [Act.put, List.setIfInBounds_toArray, List.set_cons_zero, List.set_cons_succ]
                  refine takeH (i := 2) (v := ?_) rfl (by kernel_rfl) (by kernel_rfl) (by kernel_rfl) (fun _ _ _ h => h) rfl ?_ hHeld ?_
                  rotate_left
                  · intro w hS; (try dsimp only at hS); obtain ⟨hS0, hS1, hS2⟩ := hS; go_simp; first | done | (with_reducible rfl)
                  try simp only [Act.put, List.setIfInBounds_toArray, List.set_cons_zero, List.set_cons_succ]
                  refine takeH (i := 3) (v := ?_) rfl (by kernel_rfl) (by kernel_rfl) (by kernel_rfl) (fun _ _ _ h => h) rfl ?_ hHeld ?_
                  rotate_left
                  · intro w hS; (try dsimp only at hS); obtain ⟨hS0, hS1, hS2⟩ := hS; go_simp; first | done | (with_reducible rfl)
                  try simp only [Act.put, List.setIfInBounds_toArray, List.set_cons_zero, List.set_cons_succ]
                  refine takeH (i := 4) (v := ?_) rfl (by kernel_rfl) (by kernel_rfl) (by kernel_rfl) (fun _ _ _ h => h) rfl ?_ hHeld ?_
                  rotate_left
                  · intro w hS; (try dsimp only at hS); obtain ⟨hS0, hS1, hS2⟩ := hS; go_simp; first | done | (with_reducible rfl)
                  try simp only [Act.put, List.setIfInBounds_toArray, List.set_cons_zero, List.set_cons_succ]
                  refine takeH (i := 5) (v := ?_) rfl (by kernel_rfl) (by kernel_rfl) (by kernel_rfl) (fun _ _ _ h => h) rfl ?_ hHeld ?_
                  rotate_left
                  · intro w hS; (try dsimp only at hS); obtain ⟨hS0, hS1, hS2⟩ := hS; go_simp; first | done | (with_reducible rfl)
                  try simp only [Act.put, List.setIfInBounds_toArray, List.set_cons_zero, List.set_cons_succ]
                  refine takeH (i := 6) (v := ?_) rfl (by kernel_rfl) (by kernel_rfl) (by kernel_rfl) (fun _ _ _ h => h) rfl ?_ hHeld ?_
                  rotate_left
                  · intro w hS; (try dsimp only at hS); obtain ⟨hS0, hS1, hS2⟩ := hS; go_simp; first | done | (with_reducible rfl)
                  try simp only [Act.put, List.setIfInBounds_toArray, List.set_cons_zero, List.set_cons_succ]
                  refine takeH (i := 7) (v := ?_) rfl (by kernel_rfl) (by kernel_rfl) (by kernel_rfl) (fun _ _ _ h => h) rfl ?_ hHeld ?_
                  rotate_left
                  · intro w hS; (try dsimp only at hS); obtain ⟨hS0, hS1, hS2⟩ := hS; go_simp; first | done | (with_reducible rfl)
                  try simp only [Act.put, List.setIfInBounds_toArray, List.set_cons_zero, List.set_cons_succ]
                  refine takeH (i := 8) (v := ?_) rfl (by kernel_rfl) (by kernel_rfl) (by kernel_rfl) (fun _ _ _ h => h) rfl ?_ hHeld ?_
                  rotate_left
                  · intro w hS; (try dsimp only at hS); obtain ⟨hS0, hS1, hS2⟩ := hS; go_simp; first | done | (with_reducible rfl)
                  try simp only [Act.put, List.setIfInBounds_toArray, List.set_cons_zero, List.set_cons_succ]
                  refine takeH (i := 9) (v := ?_) rfl (by kernel_rfl) (by kernel_rfl) (by kernel_rfl) (fun _ _ _ h => h) rfl ?_ hHeld ?_
                  rotate_left
                  · intro w hS; (try dsimp only at hS); obtain ⟨hS0, hS1, hS2⟩ := hS; go_simp; first | done | (with_reducible rfl)
                  try simp only [Act.put, List.setIfInBounds_toArray, List.set_cons_zero, List.set_cons_succ]
                  refine takeH (i := 10) (v := ?_) rfl (by kernel_rfl) (by kernel_rfl) (by kernel_rfl) (fun _ _ _ h => h) rfl ?_ hHeld ?_
                  rotate_left
                  · intro w hS; (try dsimp only at hS); obtain ⟨hS0, hS1, hS2⟩ := hS; go_simp; first | done | (with_reducible rfl)
                  try simp only [Act.put, List.setIfInBounds_toArray, List.set_cons_zero, List.set_cons_succ]
                  refine takeH (i := 11) (v := ?_) rfl (by kernel_rfl) (by kernel_rfl) (by kernel_rfl) (fun _ _ _ h => h) rfl ?_ hHeld ?_
                  rotate_left
                  · intro w hS; (try dsimp only at hS); obtain ⟨hS0, hS1, hS2⟩ := hS; go_simp; first | done | (with_reducible rfl)
                  try simp only [Act.put, List.setIfInBounds_toArray, List.set_cons_zero, List.set_cons_succ]
                  refine takeH (i := 12) (v := ?_) rfl (by kernel_rfl) (by kernel_rfl) (by kernel_rfl) (fun _ _ _ h => h) rfl ?_ hHeld ?_
                  rotate_left
                  · intro w hS; (try dsimp only at hS); obtain ⟨hS0, hS1, hS2⟩ := hS; go_simp; first | done | (with_reducible rfl)
                  try simp only [Act.put, List.setIfInBounds_toArray, List.set_cons_zero, List.set_cons_succ]
                  refine takeH (i := 13) (v := ?_) rfl (by kernel_rfl) (by kernel_rfl) (by kernel_rfl) (fun _ _ _ h => h) rfl ?_ hHeld ?_
                  rotate_left
                  · intro w hS; (try dsimp only at hS); obtain ⟨hS0, hS1, hS2⟩ := hS; go_simp; first | done | (with_reducible rfl)
                  try simp only [Act.put, List.setIfInBounds_toArray, List.set_cons_zero, List.set_cons_succ]
                  refine takeH (i := 14) (v := ?_) rfl (by kernel_rfl) (by kernel_rfl) (by kernel_rfl) (fun _ _ _ h => h) rfl ?_ hHeld ?_
                  rotate_left
                  · intro w hS; (try dsimp only at hS); obtain ⟨hS0, hS1, hS2⟩ := hS; go_simp; first | done | (with_reducible rfl)
                  try simp only [Act.put, List.setIfInBounds_toArray, List.set_cons_zero, List.set_cons_succ]
                  refine takeH (i := 15) (v := ?_) rfl (by kernel_rfl) (by kernel_rfl) (by kernel_rfl) (fun _ _ _ h => h) rfl ?_ hHeld ?_
                  rotate_left
                  · intro w hS; (try dsimp only at hS); obtain ⟨hS0, hS1, hS2⟩ := hS; go_simp; first | done | (with_reducible rfl)
                  try simp only [Act.put, List.setIfInBounds_toArray, List.set_cons_zero, List.set_cons_succ]
                  refine wpAnyH_done (by kernel_rfl) ?_ _
                  clear hHeld
                  go_wp2_with fail
                  refine wp_region_held_drew (S := fun Z => Z.cell? ⟨w.heap.size, 0, none⟩ = some (.slice (some ⟨b3, o3, none⟩) an.length ca) ∧ Z.cell? ⟨b3, o3 + idx, none⟩ = some (.string (strB t))) (by kernel_rfl) (⟨cab, cans⟩) (fun hHeld => ?_)
                  refine takeH (i := 0) (v := ?_) rfl (by kernel_rfl) (by kernel_rfl) (by kernel_rfl) (fun _ _ _ h => h) rfl ?_ hHeld ?_
                  rotate_left
                  · intro w hS; (try dsimp only at hS); obtain ⟨hS0, hS1⟩ := hS; go_simp; first | done | (with_reducible rfl)
                  try simp only [Act.put, List.setIfInBounds_toArray, List.set_cons_zero, List.set_cons_succ]
                  refine takeH (i := 1) (v := ?_) rfl (by kernel_rfl) (by kernel_rfl) (by kernel_rfl) (fun _ _ _ h => h) rfl ?_ hHeld ?_
                  rotate_left
                  · intro w hS; (try dsimp only at hS); obtain ⟨hS0, hS1⟩ := hS; go_simp; first | done | (with_reducible rfl)
                  try simp only [Act.put, List.setIfInBounds_toArray, List.set_cons_zero, List.set_cons_succ]
                  refine takeH (i := 2) (v := ?_) rfl (by kernel_rfl) (by kernel_rfl) (by kernel_rfl) (fun _ _ _ h => h) rfl ?_ hHeld ?_
                  rotate_left
                  · intro w hS; (try dsimp only at hS); obtain ⟨hS0, hS1⟩ := hS; go_simp; first | done | (with_reducible rfl)
                  try simp only [Act.put, List.setIfInBounds_toArray, List.set_cons_zero, List.set_cons_succ]
                  refine takeH (i := 3) (v := ?_) rfl (by kernel_rfl) (by kernel_rfl) (by kernel_rfl) (fun _ _ _ h => h) rfl ?_ hHeld ?_
                  rotate_left
                  · intro w hS; (try dsimp only at hS); obtain ⟨hS0, hS1⟩ := hS; go_simp; first | done | (with_reducible rfl)
                  try simp only [Act.put, List.setIfInBounds_toArray, List.set_cons_zero, List.set_cons_succ]
                  refine takeH (i := 4) (v := ?_) rfl (by kernel_rfl) (by kernel_rfl) (by kernel_rfl) (fun _ _ _ h => h) rfl ?_ hHeld ?_
                  rotate_left
                  · intro w hS; (try dsimp only at hS); obtain ⟨hS0, hS1⟩ := hS; go_simp; first | done | (with_reducible rfl)
                  try simp only [Act.put, List.setIfInBounds_toArray, List.set_cons_zero, List.set_cons_succ]
                  refine takeH (i := 5) (v := ?_) rfl (by kernel_rfl) (by kernel_rfl) (by kernel_rfl) (fun _ _ _ h => h) rfl ?_ hHeld ?_
                  rotate_left
                  · intro w hS; (try dsimp only at hS); obtain ⟨hS0, hS1⟩ := hS; go_simp; first | done | (with_reducible rfl)
                  try simp only [Act.put, List.setIfInBounds_toArray, List.set_cons_zero, List.set_cons_succ]
                  refine takeH (i := 6) (v := ?_) rfl (by kernel_rfl) (by kernel_rfl) (by kernel_rfl) (fun _ _ _ h => h) rfl ?_ hHeld ?_
                  rotate_left
                  · intro w hS; (try dsimp only at hS); obtain ⟨hS0, hS1⟩ := hS; go_simp; first | done | (with_reducible rfl)
                  try simp only [Act.put, List.setIfInBounds_toArray, List.set_cons_zero, List.set_cons_succ]
                  refine takeH (i := 7) (v := ?_) rfl (by kernel_rfl) (by kernel_rfl) (by kernel_rfl) (fun _ _ _ h => h) rfl ?_ hHeld ?_
                  rotate_left
                  · intro w hS; (try dsimp only at hS); obtain ⟨hS0, hS1⟩ := hS; go_simp; first | done | (with_reducible rfl)
                  try simp only [Act.put, List.setIfInBounds_toArray, List.set_cons_zero, List.set_cons_succ]
                  refine takeH (i := 8) (v := ?_) rfl (by kernel_rfl) (by kernel_rfl) (by kernel_rfl) (fun _ _ _ h => h) rfl ?_ hHeld ?_
                  rotate_left
                  · intro w hS; (try dsimp only at hS); obtain ⟨hS0, hS1⟩ := hS; go_simp; first | done | (with_reducible rfl)
                  try simp only [Act.put, List.setIfInBounds_toArray, List.set_cons_zero, List.set_cons_succ]
                  refine wpAnyH_done (by kernel_rfl) ?_ _
                  clear hHeld
                  by_cases ht0 : t = []
                  · have hte : (t == []) = true := by simp [ht0]
                    replace HY := hide (HY.out.1 ht0)
                    clear ht0
                    go_wp2_with fail
                    go_roundw
                    case rel => exact ⟨p + 1, R', by have := HM.out; exact congrArg (Value.int .i64) (by omega), rfl, by go_num, by omega, by rw [HT.out, HY.out]; exact HD.out.1, by rw [HT.out, HY.out]; exact HD.out.2.1, HD.out.2.2.1, HD.out.2.2.2.1, HD.out.2.2.2.2, HZ3.out⟩
                    case measure => simp [intOf]; omega
                  · have hte : (t == []) = false := str_ne ht0
                    replace HY := hide (HY.out.2 ht0)
                    have hcm := rcome_any wr.drew.drew r y.fs th1 y.bk R' t HD.out.1.ref ⟨ht0, htl⟩ (by omega)
                    clear ht0
                    go_wp2_with fail
                    refine hcm.mono ?_
                    rintro e w4 ⟨vb, R4, rfl, hob, hR4, hr4, hvb, k4⟩
                    obtain ⟨PD, hwant, hwn, hgot, hcom⟩ := HD.out
                    have hzD : wr.drew.drew.heap.size ≤ w4.heap.size := k4.size
                    have hrD : r < w3.heap.size := hrw3
                    have hz3D : w3.heap.size ≤ wr.drew.drew.heap.size := HZ3.out
                    have P4 := PD.refd (hS mb w.heap.size) hR4 hr4 k4
                    have hwant4 := hwant.keep k4 (fun k hk e => by have := (own_lt hwant hk).1; omega)
                    have hgot4 := hgot.keep k4 (fun k hk e => by have := (HV5.out k hk).2.2.1; omega)
                    have hcom4 := hcom.keep k4 (fun k hk e => by have := (HVC.out k hk).1; omega)
                    have hgol := goP_out y.fs y.bk t
                    have hzz := PD.bel.size
                    obtain ⟨v6, w6, hrun6, ho6, hgr6, hnx6⟩ := app_texts w4 w3.heap.size u22 y.out vb _ hwant4 hob.ts (by omega) (show y.out.length ≤ _ by omega) (show (goP y.fs y.bk t).1.length ≤ _ by omega)
                    have k6 := Chg.of_grown hgr6
                    have hltH := (hS mb w.heap.size).lt _ _ _ _ P2L.out.srv
                    have P6 := P4.keep (hS mb w.heap.size) k6 (fun k hk => by
                      have hw := own_lt hwant4 hk.symm
                      refine ⟨fun h => ?_, fun h => ?_, fun h => ?_, by have := HZW.out; omega⟩
                      · have := P2L.out.net.lt h; omega
                      · have := hltH k h; omega
                      · rcases hr4 k h with q | q
                        · exact hwn k hk.symm q
                        · have := (own_lt hwant hk.symm).2; omega)
                    have hgot6 := hgot4.keep k6 (fun k hk e => by have := (HV5.out k hk).2.2.2; have := (own_lt hwant4 e.symm).1; omega)
                    have hcom6 := hcom4.keep k6 (fun k hk e => by have := (HVC.out k hk).2; have := (own_lt hwant4 e.symm).1; omega)
                    have hwn6 : ∀ k, v6.ownBlock = some k → ¬ R4.has r k := fun k hk h => by
                      rcases hnx6 with q | q
                      · rw [q] at hk
                        rcases hr4 k h with q | q
                        · exact hwn k hk q
                        · have := (own_lt hwant hk).2; omega
                      · rw [q] at hk
                        injection hk with hk
                        have := hR4.lt k h
                        omega
                    have HF := hide (And.intro P6 (And.intro ho6 (And.intro hwn6 (And.intro hgot6 (And.intro hcom6 (show w3.heap.size ≤ w6.heap.size from Nat.le_trans hz3D (Nat.le_trans hzD k6.size)))))))
                    obtain ⟨uw, ucw, huw⟩ := own_shape hwant
                    subst huw
                    obtain ⟨ub4, uc4, hub4⟩ := own_shape hob
                    subst hub4
                    obtain ⟨ux, uxc, hux⟩ := own_shape ho6
                    subst hux
                    rw [List.length_append] at hrun6 HF
                    clear hcm hob hR4 hr4 hvb k4 PD hwant hwn hgot hcom hzD hrD hz3D P4 hwant4 hgot4 hcom4 hzz ho6 hgr6 hnx6 k6 hltH P6 hgot6 hcom6 hwn6 hgol
                    generalize (goP y.fs y.bk t).1.length = gl at *
                    go_wp2_with (at_builtin; refine wpList_append_run rfl (.tmp 169) (.tmp 172) 23 rfl rfl rfl hrun6 ?_)
                    go_roundw
                    case rel => exact ⟨p + 1, R4, by have := HM.out; exact congrArg (Value.int .i64) (by omega), rfl, by go_num, by omega, by rw [HT.out, HY.out]; exact HF.out.1, by rw [HT.out, HY.out]; exact HF.out.2.1, HF.out.2.2.1, HF.out.2.2.2.1, HF.out.2.2.2.2.1, HF.out.2.2.2.2.2⟩
                    case measure => simp [intOf]; omega
              · obtain rfl : p = cs.length := by omega
                rw [List.take_length] at P hwant
                have e := HXX.out.2.1
                have e1 : (serveL (pstep an) cs y0).fs = x'.fs := by rw [e]
                have e2 : th1 = x'.th := by rw [e]
                have e3 : (serveL (pstep an) cs y0).bk = x'.bk := by rw [e]
                have e4 : x'.sent = x.sent + 1 := by rw [e]
                rw [← HOE.out] at hwant
                have HSX := hide e4
                have HBD := hide (show x'.th.length ≤ x.th.length + 1 ∧ x'.bk.length ≤ x.bk.length + cs.length from ⟨by rw [← e2]; exact HXX.out.2.2.2, by rw [← e3]; exact HXX.out.2.2.1⟩)
                rw [e1, e2, e3] at P
                clear e e1 e2 e3 e4 HXX
                obtain ⟨vm, s1, s2, s3, s5, s6, s7, s8, s9, s10, s11⟩ := P.srv
                obtain ⟨am39, cm39', hvm⟩ := own_shape s3
                rw [List.length_append] at hvm
                subst hvm
                obtain ⟨af39, cf39, hvf, -⟩ := P.ref.fs
                have hrf := P.ref.ref
                rw [hvf] at hrf
                have cm39 := cell_of s1 0
                have cr39 := cell_of hrf 0
                simp only [List.getElem?_toArray, List.getElem?_cons_zero] at cm39 cr39
                have HMB := hide (And.intro s1 hrf)
                have hsame := same_any wr.drew _ _ _ _ (hgot.keep ((Chg.refl (fun _ => False) wr).drew) (fun _ _ h => h)).ts (hwant.keep ((Chg.refl (fun _ => False) wr).drew) (fun _ _ h => h)).ts (by have := HOL.out; omega) (by have := HOL.out; omega)
                have HP39 := hide (P.keep (hS mb w.heap.size) ((Chg.refl (fun _ => False) wr).drew) (fun _ h => h.elim))
                obtain ⟨uw, ucw, huw⟩ := own_shape hwant
                subst huw
                have HQ := hide (And.intro hth (And.intro hbk hm))
                clear P s1 s2 s3 s5 s6 s7 s8 s9 s10 s11 hvf hrf hth hbk hm hwant hwn hgot hcom hz3
                obtain ⟨M, hM⟩ : ∃ M, M = met.length + cs.length := ⟨_, rfl⟩
                rw [← hM] at cm39 HMB ⊢
                have HM := hide hM
                clear hM
                simp only [decide_true] at hsame
                go_wp2_with fail
                refine wp_region_held_drew (S := fun Z => Z.cell? ⟨mb, 0, none⟩ = some (.slice am39 M cm39') ∧ Z.cell? ⟨r, 0, none⟩ = some (.slice af39 x'.fs.length cf39)) (by kernel_rfl) (⟨cm39, cr39⟩) (fun hHeld => ?_)
                refine takeH (i := 0) (v := ?_) rfl (by kernel_rfl) (by kernel_rfl) (by kernel_rfl) (fun _ _ _ h => h) rfl ?_ hHeld ?_
                rotate_left
                · intro w hS; (try dsimp only at hS); obtain ⟨hS0, hS1⟩ := hS; go_simp; first | done | (with_reducible rfl)
                try simp only [Act.put, List.setIfInBounds_toArray, List.set_cons_zero, List.set_cons_succ]
                refine takeH (i := 1) (v := ?_) rfl (by kernel_rfl) (by kernel_rfl) (by kernel_rfl) (fun _ _ _ h => h) rfl ?_ hHeld ?_
                rotate_left
                · intro w hS; (try dsimp only at hS); obtain ⟨hS0, hS1⟩ := hS; go_simp; first | done | (with_reducible rfl)
                try simp only [Act.put, List.setIfInBounds_toArray, List.set_cons_zero, List.set_cons_succ]
                refine takeH (i := 2) (v := ?_) rfl (by kernel_rfl) (by kernel_rfl) (by kernel_rfl) (fun _ _ _ h => h) rfl ?_ hHeld ?_
                rotate_left
                · intro w hS; (try dsimp only at hS); obtain ⟨hS0, hS1⟩ := hS; go_simp; first | done | (with_reducible rfl)
                try simp only [Act.put, List.setIfInBounds_toArray, List.set_cons_zero, List.set_cons_succ]
                refine takeH (i := 3) (v := ?_) rfl (by kernel_rfl) (by kernel_rfl) (by kernel_rfl) (fun _ _ _ h => h) rfl ?_ hHeld ?_
                rotate_left
                · intro w hS; (try dsimp only at hS); obtain ⟨hS0, hS1⟩ := hS; go_simp; first | done | (with_reducible rfl)
                try simp only [Act.put, List.setIfInBounds_toArray, List.set_cons_zero, List.set_cons_succ]
                refine takeH (i := 4) (v := ?_) rfl (by kernel_rfl) (by kernel_rfl) (by kernel_rfl) (fun _ _ _ h => h) rfl ?_ hHeld ?_
                rotate_left
                · intro w hS; (try dsimp only at hS); obtain ⟨hS0, hS1⟩ := hS; go_simp; first | done | (with_reducible rfl)
                try simp only [Act.put, List.setIfInBounds_toArray, List.set_cons_zero, List.set_cons_succ]
                refine takeH (i := 5) (v := ?_) rfl (by kernel_rfl) (by kernel_rfl) (by kernel_rfl) (fun _ _ _ h => h) rfl ?_ hHeld ?_
                rotate_left
                · intro w hS; (try dsimp only at hS); obtain ⟨hS0, hS1⟩ := hS; go_simp; first | done | (with_reducible rfl)
                try simp only [Act.put, List.setIfInBounds_toArray, List.set_cons_zero, List.set_cons_succ]
                refine takeH (i := 6) (v := ?_) rfl (by kernel_rfl) (by kernel_rfl) (by kernel_rfl) (fun _ _ _ h => h) rfl ?_ hHeld ?_
                rotate_left
                · intro w hS; (try dsimp only at hS); obtain ⟨hS0, hS1⟩ := hS; go_simp; first | done | (with_reducible rfl)
                try simp only [Act.put, List.setIfInBounds_toArray, List.set_cons_zero, List.set_cons_succ]
                refine takeH (i := 7) (v := ?_) rfl (by kernel_rfl) (by kernel_rfl) (by kernel_rfl) (fun _ _ _ h => h) rfl ?_ hHeld ?_
                rotate_left
                · intro w hS; (try dsimp only at hS); obtain ⟨hS0, hS1⟩ := hS; go_simp; first | done | (with_reducible rfl)
                try simp only [Act.put, List.setIfInBounds_toArray, List.set_cons_zero, List.set_cons_succ]
                refine takeH (i := 8) (v := ?_) rfl (by kernel_rfl) (by kernel_rfl) (by kernel_rfl) (fun _ _ _ h => h) rfl ?_ hHeld ?_
                rotate_left
                · intro w hS; (try dsimp only at hS); obtain ⟨hS0, hS1⟩ := hS; go_simp; first | done | (with_reducible rfl)
                try simp only [Act.put, List.setIfInBounds_toArray, List.set_cons_zero, List.set_cons_succ]
                refine takeH (i := 9) (v := ?_) rfl (by kernel_rfl) (by kernel_rfl) (by kernel_rfl) (fun _ _ _ h => h) rfl ?_ hHeld ?_
                rotate_left
                · intro w hS; (try dsimp only at hS); obtain ⟨hS0, hS1⟩ := hS; go_simp; first | done | (with_reducible rfl)
                try simp only [Act.put, List.setIfInBounds_toArray, List.set_cons_zero, List.set_cons_succ]
                refine onlyH (i := 10) rfl (by kernel_rfl) rfl (fun K hK => ?_)
                go_simp
                refine hsame.mono ?_
                rintro e w9 ⟨rfl, k9⟩
                have P9 := HP39.out.keep (hS mb w.heap.size) k9 (fun _ h => h.elim)
                have cm9 : w9.cell? ⟨mb, 0, none⟩ = some (.slice am39 M cm39') := (World.cell?_of_block (k9.block mb (lt_of_heap HMB.out.1) (fun h => h))).trans cm39
                have cr9 : w9.cell? ⟨r, 0, none⟩ = some (.slice af39 x'.fs.length cf39) := (World.cell?_of_block (k9.block r (lt_of_heap HMB.out.2) (fun h => h))).trans cr39
                have hsn := sent_any P9.net (by rw [HSX.out]; omega)
                rw [show (x'.sent : Int) = (x.sent : Int) + 1 by rw [HSX.out]; rfl] at hsn
                have hlf := left_any P9.net
                refine hK.out _ _ (⟨cm9, cr9⟩) (fun hHeld => ?_)
                clear hK K
                try simp only [Act.put, List.setIfInBounds_toArray, List.set_cons_zero, List.set_cons_succ]
                refine takeH (i := 11) (v := ?_) rfl (by kernel_rfl) (by kernel_rfl) (by kernel_rfl) (fun _ _ _ h => h) rfl ?_ hHeld ?_
                rotate_left
                · intro w hS; (try dsimp only at hS); obtain ⟨hS0, hS1⟩ := hS; go_simp; first | done | (with_reducible rfl)
                try simp only [Act.put, List.setIfInBounds_toArray, List.set_cons_zero, List.set_cons_succ]
                refine takeH (i := 12) (v := ?_) rfl (by kernel_rfl) (by kernel_rfl) (by kernel_rfl) (fun _ _ _ h => h) rfl ?_ hHeld ?_
                rotate_left
                · intro w hS; (try dsimp only at hS); obtain ⟨hS0, hS1⟩ := hS; go_simp; first | done | (with_reducible rfl)
                try simp only [Act.put, List.setIfInBounds_toArray, List.set_cons_zero, List.set_cons_succ]
                refine takeH (i := 13) (v := ?_) rfl (by kernel_rfl) (by kernel_rfl) (by kernel_rfl) (fun _ _ _ h => h) rfl ?_ hHeld ?_
                rotate_left
                · intro w hS; (try dsimp only at hS); obtain ⟨hS0, hS1⟩ := hS; go_simp; first | done | (with_reducible rfl)
                try simp only [Act.put, List.setIfInBounds_toArray, List.set_cons_zero, List.set_cons_succ]
                refine takeH (i := 15) (v := ?_) rfl (by kernel_rfl) (by kernel_rfl) (by kernel_rfl) (fun _ _ _ h => h) rfl ?_ hHeld ?_
                rotate_left
                · intro w hS; (try dsimp only at hS); obtain ⟨hS0, hS1⟩ := hS; go_simp; first | done | (with_reducible rfl)
                try simp only [Act.put, List.setIfInBounds_toArray, List.set_cons_zero, List.set_cons_succ]
                refine onlyH (i := 14) rfl (by kernel_rfl) rfl (fun K hK => ?_)
                go_simp
                refine hsn.mono ?_
                rintro e wA ⟨rfl, hwA⟩
                rw [hwA]
                clear hwA
                refine hK.out _ _ (⟨cm9, cr9⟩) (fun hHeld => ?_)
                clear hK K
                try simp only [Act.put, List.setIfInBounds_toArray, List.set_cons_zero, List.set_cons_succ]
                refine takeH (i := 16) (v := ?_) rfl (by kernel_rfl) (by kernel_rfl) (by kernel_rfl) (fun _ _ _ h => h) rfl ?_ hHeld ?_
                rotate_left
                · intro w hS; (try dsimp only at hS); obtain ⟨hS0, hS1⟩ := hS; go_simp; first | done | (with_reducible rfl)
                try simp only [Act.put, List.setIfInBounds_toArray, List.set_cons_zero, List.set_cons_succ]
                refine takeH (i := 17) (v := ?_) rfl (by kernel_rfl) (by kernel_rfl) (by kernel_rfl) (fun _ _ _ h => h) rfl ?_ hHeld ?_
                rotate_left
                · intro w hS; (try dsimp only at hS); obtain ⟨hS0, hS1⟩ := hS; go_simp; first | done | (with_reducible rfl)
                try simp only [Act.put, List.setIfInBounds_toArray, List.set_cons_zero, List.set_cons_succ]
                refine takeH (i := 18) (v := ?_) rfl (by kernel_rfl) (by kernel_rfl) (by kernel_rfl) (fun _ _ _ h => h) rfl ?_ hHeld ?_
                rotate_left
                · intro w hS; (try dsimp only at hS); obtain ⟨hS0, hS1⟩ := hS; go_simp; first | done | (with_reducible rfl)
                try simp only [Act.put, List.setIfInBounds_toArray, List.set_cons_zero, List.set_cons_succ]
                refine takeH (i := 19) (v := ?_) rfl (by kernel_rfl) (by kernel_rfl) (by kernel_rfl) (fun _ _ _ h => h) rfl ?_ hHeld ?_
                rotate_left
                · intro w hS; (try dsimp only at hS); obtain ⟨hS0, hS1⟩ := hS; go_simp; first | done | (with_reducible rfl)
                try simp only [Act.put, List.setIfInBounds_toArray, List.set_cons_zero, List.set_cons_succ]
                refine takeH (i := 21) (v := ?_) rfl (by kernel_rfl) (by kernel_rfl) (by kernel_rfl) (fun _ _ _ h => h) rfl ?_ hHeld ?_
                rotate_left
                · intro w hS; (try dsimp only at hS); obtain ⟨hS0, hS1⟩ := hS; go_simp; first | done | (with_reducible rfl)
                try simp only [Act.put, List.setIfInBounds_toArray, List.set_cons_zero, List.set_cons_succ]
                refine takeH (i := 22) (v := ?_) rfl (by kernel_rfl) (by kernel_rfl) (by kernel_rfl) (fun _ _ _ h => h) rfl ?_ hHeld ?_
                rotate_left
                · intro w hS; (try dsimp only at hS); obtain ⟨hS0, hS1⟩ := hS; go_simp; first | done | (with_reducible rfl)
                try simp only [Act.put, List.setIfInBounds_toArray, List.set_cons_zero, List.set_cons_succ]
                refine takeH (i := 23) (v := ?_) rfl (by kernel_rfl) (by kernel_rfl) (by kernel_rfl) (fun _ _ _ h => h) rfl ?_ hHeld ?_
                rotate_left
                · intro w hS; (try dsimp only at hS); obtain ⟨hS0, hS1⟩ := hS; go_simp; first | done | (with_reducible rfl)
                try simp only [Act.put, List.setIfInBounds_toArray, List.set_cons_zero, List.set_cons_succ]
                refine takeH (i := 24) (v := ?_) rfl (by kernel_rfl) (by kernel_rfl) (by kernel_rfl) (fun _ _ _ h => h) rfl ?_ hHeld ?_
                rotate_left
                · intro w hS; (try dsimp only at hS); obtain ⟨hS0, hS1⟩ := hS; go_simp; first | done | (with_reducible rfl)
                try simp only [Act.put, List.setIfInBounds_toArray, List.set_cons_zero, List.set_cons_succ]
                refine takeH (i := 25) (v := ?_) rfl (by kernel_rfl) (by kernel_rfl) (by kernel_rfl) (fun _ _ _ h => h) rfl ?_ hHeld ?_
                rotate_left
                · intro w hS; (try dsimp only at hS); obtain ⟨hS0, hS1⟩ := hS; go_simp; first | done | (with_reducible rfl)
                try simp only [Act.put, List.setIfInBounds_toArray, List.set_cons_zero, List.set_cons_succ]
                refine onlyH (i := 20) rfl (by kernel_rfl) rfl (fun K hK => ?_)
                go_simp
                refine hlf.mono ?_
                rintro e wB ⟨rfl, hwB⟩
                rw [hwB]
                clear hwB
                refine hK.out _ _ (⟨cm9, cr9⟩) (fun hHeld => ?_)
                clear hK K
                try simp only [Act.put, List.setIfInBounds_toArray, List.set_cons_zero, List.set_cons_succ]
                refine takeH (i := 26) (v := ?_) rfl (by kernel_rfl) (by kernel_rfl) (by kernel_rfl) (fun _ _ _ h => h) rfl ?_ hHeld ?_
                rotate_left
                · intro w hS; (try dsimp only at hS); obtain ⟨hS0, hS1⟩ := hS; go_simp; first | done | (with_reducible rfl)
                try simp only [Act.put, List.setIfInBounds_toArray, List.set_cons_zero, List.set_cons_succ]
                refine takeH (i := 27) (v := ?_) rfl (by kernel_rfl) (by kernel_rfl) (by kernel_rfl) (fun _ _ _ h => h) rfl ?_ hHeld ?_
                rotate_left
                · intro w hS; (try dsimp only at hS); obtain ⟨hS0, hS1⟩ := hS; go_simp; first | done | (with_reducible rfl)
                try simp only [Act.put, List.setIfInBounds_toArray, List.set_cons_zero, List.set_cons_succ]
                refine takeH (i := 28) (v := ?_) rfl (by kernel_rfl) (by kernel_rfl) (by kernel_rfl) (fun _ _ _ h => h) rfl ?_ hHeld ?_
                rotate_left
                · intro w hS; (try dsimp only at hS); obtain ⟨hS0, hS1⟩ := hS; go_simp; first | done | (with_reducible rfl)
                try simp only [Act.put, List.setIfInBounds_toArray, List.set_cons_zero, List.set_cons_succ]
                refine wpAnyH_done (by kernel_rfl) ?_ _
                clear hHeld
                have HP9 := hide P9
                clear P9 hsn hlf cm9 cr9 k9 hsame
                go_wp2_with fail
                go_roundw
                case rel => exact ⟨q + 1, x', G', H', R', m - cs.length, met ++ cs, by rw [List.length_append, ← HM.out], by rw [HSX.out]; rfl, rfl, by go_num, by omega, by omega, HP9.out, by have := HQ.out.1; have := HBD.out.1; omega, by have := HQ.out.2.1; have := HBD.out.2; omega, by rw [HSX.out]; omega, by have := HQ.out.2.2; omega⟩
                case measure => simp [intOf]; omega
        · have HB := hide P.bel
          clear P
          by_cases e1 : q < xs.length
          · have e2 : ¬ q < 100 := fun h => hlt2 ⟨e1, h⟩
            have e3 : ¬ (q : Int) < 100 := by omega
            go_wp2_with fail
            go_ret
            exact ⟨rfl, HB.out⟩
          · have e3 : ¬ (q : Int) < (xs.length : Int) := by omega
            go_wp2_with fail
            go_ret
            exact ⟨rfl, HB.out⟩
end Go.Proofs.Ytgjmidlcfjgnhaa
