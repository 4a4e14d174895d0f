/-
  Pairs with a put, by the reference: its walk. Conditions: the pairs lie there, not too many.
-/
import Derived.Test.YtimbleaafoiidaaGreatDoorE46PShown
import Derived.Test.YtimbleaafoiidaaGreatDoorE42PRGoes
namespace Go.Proofs.YtimbleaafoiidaaGreatDoor
open Go.RowKit

theorem Ls.takeL {α : Type} {B : Nat} {w : World} {k : Nat} {cs : α → List Value} {ao : Option Addr} {n cap : Nat} {xs : List α} (h : Ls B w k cs (.slice ao n cap) xs) {z : Nat} (hz : z ≤ xs.length) : Ls B w k cs (.slice ao z cap) (xs.take z) := by
  obtain ⟨ao', cap', e, h1, h2, h4⟩ := h
  injection e with e1 e2 e3
  subst e1 e3
  have hl : (xs.take z).length = z := by rw [List.length_take]; omega
  refine ⟨ao, cap, by rw [hl], by rw [hl]; omega, h2, fun hne => ?_⟩
  obtain ⟨b, off, rfl, hb, hc⟩ := h4 (by rintro rfl; simp at hne)
  refine ⟨b, off, rfl, hb, fun j hj i u hu => ?_⟩
  rw [hl] at hj
  exact hc j (by omega) i u (by simpa using hu)
theorem Ls.dropL {α : Type} {B : Nat} {w : World} {k : Nat} {cs : α → List Value} {ao : Option Addr} {n cap : Nat} {xs : List α} (h : Ls B w k cs (.slice ao n cap) xs) {z : Nat} (hz : z ≤ xs.length) (ao' : Option Addr) (ha : z < xs.length → ∀ b off, ao = some ⟨b, off, none⟩ → ao' = some ⟨b, off + z * k, none⟩) : Ls B w k cs (.slice ao' (n - z) (cap - z)) (xs.drop z) := by
  obtain ⟨ao0, cap', e, h1, h2, h4⟩ := h
  injection e with e1 e2 e3
  subst e1 e2 e3
  have hl : (xs.drop z).length = xs.length - z := List.length_drop
  refine ⟨ao', cap - z, by rw [hl], by rw [hl]; omega, by omega, fun hne => ?_⟩
  have hlt : z < xs.length := by
    rcases Nat.lt_or_ge z xs.length with q | q
    · exact q
    · rw [List.drop_eq_nil_of_le q] at hne; exact absurd rfl hne
  obtain ⟨b, off, rfl, hb, hc⟩ := h4 (by rintro rfl; simp at hlt)
  refine ⟨b, off + z * k, ha hlt b off rfl, hb, fun j hj i u hu => ?_⟩
  rw [hl] at hj
  have := hc (z + j) (by omega) i u (by simpa using hu)
  rwa [Nat.add_mul, ← Nat.add_assoc] at this
theorem row_some {w : World} {B n : Nat} {v : Value} {xs : List Value} (h : w.ownsRow B 60 2 v n xs) (hn : 1 ≤ n) : ∃ a m c, v = .slice (some a) m c := by
  rcases h.2 with ⟨-, h0⟩ | ⟨g, cap, cur, e, -⟩
  · omega
  · exact ⟨_, _, _, e⟩
theorem eql_strP (t : TypeId) (a b : Bs) : binOp .eql t (.string (strB a)) (.string (strB b)) = pure (.bool (a == b)) := by simp [binOp, Op.stringOp, toL]
set_option maxRecDepth 40000 in
set_option maxHeartbeats 3200000 in
theorem done12_any (w : World) (l : List Pair) (v : Value) (hv : Ls w.heap.size w 2 pairC v l) (p : PutM) (hn : l.length ≤ 1000000) :
    Calls Tryz.prog 47 #[v, .agg #[.string (strB p.1), .string (strB p.2.1), .bool p.2.2]] w fun e w' => ∃ u, e = .returned u ∧ Rw w.heap.size w' 60 2 pairC u (doneM l p) ∧ Below w.heap.size w w' := by
  obtain ⟨i0, hi0, hz0, hz1, hz2⟩ := info_parts Tryz.zPair
  have hb0 : Below w.heap.size w (w.alloc (.cells #[.string (strB p.1), .string (strB p.2.1), .bool p.2.2] 108)) := (Below.refl _ _).alloc (Nat.le_refl _) _
  have hx0 := heap_last w (.cells #[.string (strB p.1), .string (strB p.2.1), .bool p.2.2] 108) _ rfl
  have hn0 : (w.alloc (.cells #[.string (strB p.1), .string (strB p.2.1), .bool p.2.2] 108)).heap.size = w.heap.size + 1 := by simp
  generalize hw0 : w.alloc (.cells #[.string (strB p.1), .string (strB p.2.1), .bool p.2.2] 108) = w0 at *
  have hv0 := (hv.keep hb0).up hb0.size
  obtain ⟨ao, cap, hvv, hcap, hcap2, h4⟩ := id hv0
  subst hvv
  obtain ⟨m, hm⟩ : ∃ m, m = l.length := ⟨_, rfl⟩
  rw [← hm] at hcap hn
  unfold maxLen at hcap2
  have HV := hide hv0
  rw [← hm]
  have HM := hide hm
  have c0 := cell_of_row w0 w.heap.size 0 _ _ _ hx0
  simp only [List.getElem?_toArray, List.getElem?_cons_zero] at c0
  have hkt := toL p.1
  have H0 := hide (And.intro hb0 (And.intro hx0 hn0))
  obtain ⟨P, hP⟩ : ∃ P, P = posM l p.1 := ⟨_, rfl⟩
  have HP := hide hP
  obtain ⟨R, hR⟩ : ∃ R, R = doneM l p := ⟨_, rfl⟩
  rw [← hR]
  have HR := hide hR
  clear hv hv0 hb0 hm hn0 hP hR
  go_enter Tryz.func47, Tryz.ntmps47
  go_upto_block 0 with fail
  try rw [hw0]
  go_cut [5] from 7 to 22 (fun t wx => t = .int .i64 (P : Int) ∧ P ≤ m ∧ Below w0.heap.size w0 wx)
  case first =>
    go_wp2_with fail
    go_loopw [5] (fun t wr => ∃ i : Nat, i ≤ m ∧ t = .int .i64 i ∧ (∀ x ∈ l.take i, ltB x.1 p.1 = true) ∧ Below w0.heap.size w0 wr) (fun t _ => m - (intOf t).toNat)
    case atStart => exact ⟨0, by omega, rfl, by simp, Below.refl _ _⟩
    case round =>
      obtain ⟨i, him, rfl, hall, hbr⟩ := hrel
      have d0 := (hbr.cell (p := ⟨w.heap.size, 0, none⟩) (lt_of_heap hx0)).trans c0
      by_cases hlt : i < m
      · have hlt2 : i < l.length := by have := HM.out; omega
        obtain ⟨b, off, rfl, hbB, hcel⟩ := h4 (by rintro rfl; simp at hlt2)
        have y0 := (hbr.cell (p := ⟨b, off + i * 2 + 0, none⟩) hbB).trans (hcel i hlt2 0 _ rfl)
        simp only [Nat.add_zero] at y0
        have hst : ltB l[i].1 p.1 = true → ∀ x ∈ l.take (i + 1), ltB x.1 p.1 = true := fun h x hx => by
          rw [List.take_succ_eq_append_getElem hlt2] at hx
          rcases List.mem_append.1 hx with hx | hx
          · exact hall x hx
          · rw [List.mem_singleton.1 hx]; exact h
        have hno : ltB l[i].1 p.1 = false → posM l p.1 = i := fun h => posM_at l p.1 i (by omega) hall (fun _ => h)
        generalize l[i] = y at *
        have hls := lss_str 9 y.1 p.1
        have hyt := toL y.1
        have HST := hide hst
        have HNO := hide hno
        have HB := hide hbr.drew
        clear hst hno hcel hall hbr
        by_cases hc : ltB y.1 p.1 = true
        · rw [hc] at hls
          have hs2 := HST.out hc
          have HS2 := hide hs2
          clear hc hs2
          go_wp2_with fail
          refine wp_region_held_drew (S := fun W => W.cell? ⟨b, off + i * 2, none⟩ = some (.string (strB y.1)) ∧ W.cell? ⟨w.heap.size, 0, none⟩ = some (.string (strB p.1))) (by kernel_rfl) (⟨y0, d0⟩) (fun hHeld => ?_)
          refine takeK 0 hHeld ?_
          refine takeK 1 hHeld ?_
          refine takeK 2 hHeld ?_
          refine takeK 3 hHeld ?_
          refine takeK 4 hHeld ?_
          refine takeK 5 hHeld ?_
          refine takeK 6 hHeld ?_
          refine takeK 7 hHeld ?_
          refine takeK 8 hHeld ?_
          refine takeK 9 hHeld ?_
          refine takeK 10 hHeld ?_
          refine takeK 11 hHeld ?_
          refine takeK 12 hHeld ?_
          refine takeK 13 hHeld ?_
          refine wpAnyH_done (by kernel_rfl) ?_ _
          clear hHeld
          go_wp2
          go_roundw
          case rel => exact ⟨i + 1, by omega, by go_num, HS2.out, HB.out⟩
          case measure => simp [intOf]; omega
        · have hc : ltB y.1 p.1 = false := by simpa using hc
          rw [hc] at hls
          have HP2 := hide (HP.out.trans (HNO.out hc))
          clear hc
          go_wp2_with fail
          refine wp_region_held_drew (S := fun W => W.cell? ⟨b, off + i * 2, none⟩ = some (.string (strB y.1)) ∧ W.cell? ⟨w.heap.size, 0, none⟩ = some (.string (strB p.1))) (by kernel_rfl) (⟨y0, d0⟩) (fun hHeld => ?_)
          refine takeK 0 hHeld ?_
          refine takeK 1 hHeld ?_
          refine takeK 2 hHeld ?_
          refine takeK 3 hHeld ?_
          refine takeK 4 hHeld ?_
          refine takeK 5 hHeld ?_
          refine takeK 6 hHeld ?_
          refine takeK 7 hHeld ?_
          refine takeK 8 hHeld ?_
          refine takeK 9 hHeld ?_
          refine takeK 10 hHeld ?_
          refine takeK 11 hHeld ?_
          refine takeK 12 hHeld ?_
          refine takeK 13 hHeld ?_
          refine wpAnyH_done (by kernel_rfl) ?_ _
          clear hHeld
          go_wp2
          go_meet
          exact ⟨by rw [HP2.out], by rw [HP2.out]; omega, HB.out⟩
      · have hpe : posM l p.1 = i := posM_at l p.1 i (by have := HM.out; omega) hall (fun h => by have := HM.out; omega)
        have HP2 := hide (HP.out.trans hpe)
        have HB := hide hbr.drew
        have hlf : decide ((i : Int) < (m : Int)) = false := decide_eq_false (by omega)
        have hlf2 : decide (i < m) = false := decide_eq_false (by omega)
        clear hpe hall hbr
        go_wp2_with fail
        refine wp_region_held_drew (S := fun W => W.cell? ⟨w.heap.size, 0, none⟩ = some (.string (strB p.1))) (by kernel_rfl) (d0) (fun hHeld => ?_)
        refine takeK 0 hHeld ?_
        refine takeK 1 hHeld ?_
        refine takeK 2 hHeld ?_
        refine takeK 3 hHeld ?_
        refine takeK 4 hHeld ?_
        refine skipK 5 hHeld ?_
        refine skipK 6 hHeld ?_
        refine skipK 7 hHeld ?_
        refine skipK 8 hHeld ?_
        refine skipK 9 hHeld ?_
        refine skipK 10 hHeld ?_
        refine skipK 11 hHeld ?_
        refine skipK 12 hHeld ?_
        refine takeK 13 hHeld ?_
        refine wpAnyH_done (by kernel_rfl) ?_ _
        clear hHeld
        go_wp2
        go_meet
        exact ⟨by rw [HP2.out], by rw [HP2.out]; omega, HB.out⟩
  case rest =>
    obtain ⟨rfl, hPm, hbc⟩ := hcut
    have hsw : w.heap.size ≤ wc.heap.size := by have := hbc.size; have := H0.out.2.2; omega
    obtain ⟨w1, hmk, hown1, hgr1⟩ := run_make_own (P := Tryz.prog) wc.drew wc.heap.size 22 60 i0 _ 2 Tryz.underlying22 hi0 hz0 hz1 .i64 .i64 (m + 1) (by rw [hz2]; omega) (by unfold maxLen; omega) (Nat.le_refl _)
    have hb1 : Below wc.heap.size wc w1 := (Below.refl _ wc).drew.grown hgr1 (Nat.le_refl _) (by intro k hk; cases hk)
    have e1 : ((m + 1 : Nat) : Int) = IntKind.i64.wrap ((m : Int) + 1) := by rw [IntKind.wrap_i64]; omega
    rw [e1] at hmk
    have hPc : P ≤ cap := by omega
    have hPl : P ≤ l.length := by have := HM.out; omega
    have hlsW : ∀ W : World, Below wc.heap.size wc W → Ls W.heap.size W 2 pairC (.slice ao m cap) l := fun W hW => by
      have h1 := hbc.trans (hW.mono hbc.size)
      have := (HV.out.keep h1).up h1.size
      rwa [← HM.out] at this
    obtain ⟨a2, n2, c2, w2, run2, row2, hb2⟩ := app_pairsL w1 wc.heap.size _ 0 (m + 1) (.slice ao P cap) [] (l.take P) hown1 ((hlsW w1 hb1).takeL hPl) hb1.size (by simp; have := HM.out; omega)
    rw [List.nil_append] at row2
    have hB2 : Below wc.heap.size wc w2 := hb1.trans hb2
    have hxc := (hbc.block _ (lt_of_heap H0.out.2.1)).trans H0.out.2.1
    have boxc : ∀ W : World, Below wc.heap.size wc W → W.cell? ⟨w.heap.size, 0, none⟩ = some (.string (strB p.1)) ∧ W.cell? ⟨w.heap.size, 1, none⟩ = some (.string (strB p.2.1)) ∧ W.cell? ⟨w.heap.size, 2, none⟩ = some (.bool p.2.2) := fun W hW => by
      have hx := (hW.block _ (lt_of_heap hxc)).trans hxc
      have q0 := cell_of_row W w.heap.size 0 _ _ _ hx
      have q1 := cell_of_row W w.heap.size 1 _ _ _ hx
      have q2 := cell_of_row W w.heap.size 2 _ _ _ hx
      simp only [List.getElem?_toArray, List.getElem?_cons_zero, List.getElem?_cons_succ] at q0 q1 q2
      exact ⟨q0, q1, q2⟩
    obtain ⟨k0, k1, k2⟩ := boxc w2 hB2
    have HBX := hide boxc
    have HLS := hide hlsW
    have R2 := hide run2
    have HC := hide (And.intro hbc hPl)
    have hl2 : (l.take P).length = P := by rw [List.length_take]; omega
    clear e1 hgr1 run2 hxc boxc hlsW hbc hown1 hb1 hb2 c0 h4 hx0
    go_wp2_with fail
    refine wp_region_held_drew (S := fun _ => True) (by kernel_rfl) (trivial) (fun hHeld => ?_)
    refine takeK 0 hHeld ?_
    refine takeK 1 hHeld ?_
    refine takeK 2 hHeld ?_
    refine takeK 4 hHeld ?_
    refine takeK 5 hHeld ?_
    refine takeK 6 hHeld ?_
    refine onlyH (i := 3) rfl (by kernel_rfl) rfl (fun K hK => ?_)
    refine wp_make_run _ _ 22 rfl rfl rfl hmk ?_
    refine hK.out _ _ (trivial) (fun hHeld => ?_)
    clear hK K
    try simp only [Act.put, List.setIfInBounds_toArray, List.set_cons_zero, List.set_cons_succ]
    refine onlyH (i := 7) rfl (by kernel_rfl) rfl (fun K hK => ?_)
    refine wp_append_run (.tmp 26) (.tmp 29) 22 rfl rfl rfl R2.out ?_
    refine hK.out _ _ (trivial) (fun hHeld => ?_)
    clear hK K
    try simp only [Act.put, List.setIfInBounds_toArray, List.set_cons_zero, List.set_cons_succ]
    refine takeK 8 hHeld ?_
    refine wpAnyH_done (by kernel_rfl) ?_ _
    clear hHeld hmk R2
    -- the pair
    obtain ⟨vp3, w3, run3, row3, gr3, -⟩ := app_pair w2 wc.heap.size _ (l.take P) (p.1, p.2.1) row2 hB2.size (by rw [hl2]; omega)
    obtain ⟨a3, n3, c3, rfl⟩ := row_some row3 (by rw [List.length_append]; simp)
    have hrA : Rw wc.heap.size (w2.alloc (.cells #[.string (strB p.1), .string (strB p.2.1)] 60)) 60 2 pairC (.slice (some a2) n2 c2) (l.take P) := World.ownsRow.alloc row2 _
    have hB3 : Below wc.heap.size wc w3 := (hB2.alloc hB2.size _).trans ((Below.refl _ _).grown gr3 (by have := hB2.size; simp; omega) (fun q hq => (World.ownsRow.lt hrA q hq).1))
    have R3 := hide run3
    obtain ⟨X, hX⟩ : ∃ X, X = l.take P ++ (if p.2.2 then [] else [(p.1, p.2.1)]) := ⟨_, rfl⟩
    have hRX : R = X ++ l.drop (P + if thereM l p.1 then 1 else 0) := by rw [HR.out, hX]; unfold doneM; rw [← HP.out]
    have hXl : X.length ≤ m + 1 := by rw [hX, List.length_append, hl2]; split <;> simp <;> omega
    have HX := hide (And.intro hRX hXl)
    have H2 := hide (And.intro row2 hB2)
    have H3 := hide (And.intro row3 hB3)
    clear run3 row3 gr3 hrA hB3 row2 hB2 hRX hXl
    cases hg : p.2.2
    all_goals
      rw [hg] at k2 hX
      simp only [Bool.false_eq_true, if_false, if_true, List.append_nil] at hX
      go_upto_region 7 with (at_builtin; refine wpList_plain rfl (fun K hK => wp_append_run (.tmp 34) (.tmp 40) 22 rfl rfl rfl R3.out (hK _ _ ?_)))
      first
        | (have HH := hide (show Rw wc.heap.size w3 60 2 pairC (.slice (some a3) n3 c3) X ∧ Below wc.heap.size wc w3 from ⟨by rw [hX]; exact H3.out.1, H3.out.2⟩)
           clear R3 H2 H3 k0 k1 k2 hX hl2
           generalize w3 = wX at *; generalize a3 = aX at *; generalize n3 = nX at *; generalize c3 = cX at *)
        | (have HH := hide (show Rw wc.heap.size w2 60 2 pairC (.slice (some a2) n2 c2) X ∧ Below wc.heap.size wc w2 from ⟨by rw [hX]; exact H2.out.1, H2.out.2⟩)
           clear R3 H2 H3 k0 k1 k2 hX hl2
           generalize w2 = wX at *; generalize a2 = aX at *; generalize n2 = nX at *; generalize c2 = cX at *)
      obtain ⟨d0, -, -⟩ := HBX.out wX HH.out.2
      clear HBX
      by_cases hlt : P < m
      · have hlt2 : P < l.length := by have := HM.out; omega
        obtain ⟨ao', cap', e, -, -, h4⟩ := HLS.out wX HH.out.2
        injection e with e1 e2 e3
        subst e1 e3
        obtain ⟨b, off, rfl, hbB, hcel⟩ := h4 (by rintro rfl; simp at hlt2)
        have y0 := hcel P hlt2 0 _ rfl
        simp only [Nat.add_zero] at y0
        have hth : thereM l p.1 = (l[P].1 == p.1) := by unfold thereM; rw [← HP.out]; simp [hlt2]
        generalize l[P] = y at *
        have hls := eql_strP 9 y.1 p.1
        have hyt := toL y.1
        clear h4 hcel e2
        cases hc : y.1 == p.1
        · rw [hc] at hls hth
          have HA := hide (show R = X ++ l.drop P by rw [HX.out.1, hth]; simp)
          clear hc hth
          have LSX := (HLS.out wX.drew HH.out.2.drew).dropL (z := P) (by have := HM.out; omega) (some ⟨b, off + P * 2, none⟩) (fun _ _ _ h => by cases h; rfl)
          obtain ⟨a4, n4, c4, w4, run4, row4, hb4⟩ := app_pairsL wX.drew wc.heap.size aX nX cX _ X (l.drop P) HH.out.1 LSX HH.out.2.size (by have := HX.out.2; have := HM.out; simp only [List.length_drop]; omega)
          have R4 := hide run4
          have H4 := hide (And.intro row4 hb4)
          clear run4 row4 hb4 LSX
          refine wp_region_held_drew (S := fun W => W.cell? ⟨b, off + P * 2, none⟩ = some (.string (strB y.1)) ∧ W.cell? ⟨w.heap.size, 0, none⟩ = some (.string (strB p.1))) (by kernel_rfl) (⟨y0, d0⟩) (fun hHeld => ?_)
          refine takeK 0 hHeld ?_
          refine takeK 1 hHeld ?_
          refine takeK 2 hHeld ?_
          refine takeK 3 hHeld ?_
          refine takeK 4 hHeld ?_
          refine takeK 5 hHeld ?_
          refine takeK 6 hHeld ?_
          refine takeK 7 hHeld ?_
          refine takeK 8 hHeld ?_
          refine takeK 9 hHeld ?_
          refine takeK 10 hHeld ?_
          refine takeK 11 hHeld ?_
          refine takeK 12 hHeld ?_
          refine takeK 13 hHeld ?_
          refine wpAnyH_done (by kernel_rfl) ?_ _
          clear hHeld
          go_upto_region 9 with fail
          go_wp2_with (at_builtin; refine wpList_plain rfl (fun K hK => wp_append_run (.tmp 58) (.tmp 61) 22 rfl rfl rfl R4.out (hK _ _ ?_)))
          go_ret
          exact ⟨_, rfl, by rw [HA.out]; exact own_low H4.out.1 hsw, H0.out.1.trans ((HC.out.1.trans ((HH.out.2.drew.trans H4.out.2).mono HC.out.1.size)).mono H0.out.1.size)⟩
        · rw [hc] at hls hth
          have HA := hide (show R = X ++ l.drop (P + 1) by rw [HX.out.1, hth]; simp)
          clear hc hth
          refine wp_region_held_drew (S := fun W => W.cell? ⟨b, off + P * 2, none⟩ = some (.string (strB y.1)) ∧ W.cell? ⟨w.heap.size, 0, none⟩ = some (.string (strB p.1))) (by kernel_rfl) (⟨y0, d0⟩) (fun hHeld => ?_)
          refine takeK 0 hHeld ?_
          refine takeK 1 hHeld ?_
          refine takeK 2 hHeld ?_
          refine takeK 3 hHeld ?_
          refine takeK 4 hHeld ?_
          refine takeK 5 hHeld ?_
          refine takeK 6 hHeld ?_
          refine takeK 7 hHeld ?_
          refine takeK 8 hHeld ?_
          refine takeK 9 hHeld ?_
          refine takeK 10 hHeld ?_
          refine takeK 11 hHeld ?_
          refine takeK 12 hHeld ?_
          refine takeK 13 hHeld ?_
          refine wpAnyH_done (by kernel_rfl) ?_ _
          by_cases hcA : cap = P + 1
          · subst hcA
            obtain rfl : m = P + 1 := by omega
            have LSX := (HLS.out wX.drew HH.out.2.drew).dropL (z := (P + 1)) (by have := HM.out; omega) (some ⟨b, off, none⟩) (fun h => absurd h (by have := HM.out; omega))
            simp only [Nat.sub_self] at LSX
            obtain ⟨a4, n4, c4, w4, run4, row4, hb4⟩ := app_pairsL wX.drew wc.heap.size aX nX cX _ X (l.drop (P + 1)) HH.out.1 LSX HH.out.2.size (by have := HX.out.2; have := HM.out; simp only [List.length_drop]; omega)
            have R4 := hide run4
            have H4 := hide (And.intro row4 hb4)
            clear run4 row4 hb4 LSX
            clear hHeld
            go_upto_region 9 with fail
            go_wp2_with (at_builtin; refine wpList_plain rfl (fun K hK => wp_append_run (.tmp 58) (.tmp 61) 22 rfl rfl rfl R4.out (hK _ _ ?_)))
            go_ret
            exact ⟨_, rfl, by rw [HA.out]; exact own_low H4.out.1 hsw, H0.out.1.trans ((HC.out.1.trans ((HH.out.2.drew.trans H4.out.2).mono HC.out.1.size)).mono H0.out.1.size)⟩
          · skip
            have LSX := (HLS.out wX.drew HH.out.2.drew).dropL (z := (P + 1)) (by have := HM.out; omega) (some ⟨b, off + (P + 1) * 2, none⟩) (fun _ _ _ h => by cases h; rfl)
            obtain ⟨a4, n4, c4, w4, run4, row4, hb4⟩ := app_pairsL wX.drew wc.heap.size aX nX cX _ X (l.drop (P + 1)) HH.out.1 LSX HH.out.2.size (by have := HX.out.2; have := HM.out; simp only [List.length_drop]; omega)
            have R4 := hide run4
            have H4 := hide (And.intro row4 hb4)
            clear run4 row4 hb4 LSX
            clear hHeld
            go_upto_region 9 with fail
            go_wp2_with (at_builtin; refine wpList_plain rfl (fun K hK => wp_append_run (.tmp 58) (.tmp 61) 22 rfl rfl rfl R4.out (hK _ _ ?_)))
            go_ret
            exact ⟨_, rfl, by rw [HA.out]; exact own_low H4.out.1 hsw, H0.out.1.trans ((HC.out.1.trans ((HH.out.2.drew.trans H4.out.2).mono HC.out.1.size)).mono H0.out.1.size)⟩
      · have HA := hide (show R = X ++ l.drop P by rw [HX.out.1]; rw [List.drop_eq_nil_of_le (by have := HM.out; omega), List.drop_eq_nil_of_le (by have := HM.out; omega)])
        obtain rfl : P = m := by omega
        by_cases hcA : cap = P
        · subst hcA
          have LSX := (HLS.out wX.drew HH.out.2.drew).dropL (z := cap) (by have := HM.out; omega) (ao) (fun h => absurd h (by have := HM.out; omega))
          simp only [Nat.sub_self] at LSX
          obtain ⟨a4, n4, c4, w4, run4, row4, hb4⟩ := app_pairsL wX.drew wc.heap.size aX nX cX _ X (l.drop cap) HH.out.1 LSX HH.out.2.size (by have := HX.out.2; have := HM.out; simp only [List.length_drop]; omega)
          have R4 := hide run4
          have H4 := hide (And.intro row4 hb4)
          clear run4 row4 hb4 LSX
          refine wp_region_held_drew (S := fun W => W.cell? ⟨w.heap.size, 0, none⟩ = some (.string (strB p.1))) (by kernel_rfl) (d0) (fun hHeld => ?_)
          refine takeK 0 hHeld ?_
          refine takeK 1 hHeld ?_
          refine takeK 2 hHeld ?_
          refine takeK 3 hHeld ?_
          refine takeK 4 hHeld ?_
          refine skipK 5 hHeld ?_
          refine skipK 6 hHeld ?_
          refine skipK 7 hHeld ?_
          refine skipK 8 hHeld ?_
          refine skipK 9 hHeld ?_
          refine skipK 10 hHeld ?_
          refine skipK 11 hHeld ?_
          refine skipK 12 hHeld ?_
          refine takeK 13 hHeld ?_
          refine wpAnyH_done (by kernel_rfl) ?_ _
          clear hHeld
          go_upto_region 9 with fail
          go_wp2_with (at_builtin; refine wpList_plain rfl (fun K hK => wp_append_run (.tmp 58) (.tmp 61) 22 rfl rfl rfl R4.out (hK _ _ ?_)))
          go_ret
          exact ⟨_, rfl, by rw [HA.out]; exact own_low H4.out.1 hsw, H0.out.1.trans ((HC.out.1.trans ((HH.out.2.drew.trans H4.out.2).mono HC.out.1.size)).mono H0.out.1.size)⟩
        · skip
          have LSX := (HLS.out wX.drew HH.out.2.drew).dropL (z := P) (by have := HM.out; omega) (ao.map (fun x => x.add (P * 2))) (fun h => absurd h (by have := HM.out; omega))
          simp only [Nat.sub_self] at LSX
          obtain ⟨a4, n4, c4, w4, run4, row4, hb4⟩ := app_pairsL wX.drew wc.heap.size aX nX cX _ X (l.drop P) HH.out.1 LSX HH.out.2.size (by have := HX.out.2; have := HM.out; simp only [List.length_drop]; omega)
          have R4 := hide run4
          have H4 := hide (And.intro row4 hb4)
          clear run4 row4 hb4 LSX
          refine wp_region_held_drew (S := fun W => W.cell? ⟨w.heap.size, 0, none⟩ = some (.string (strB p.1))) (by kernel_rfl) (d0) (fun hHeld => ?_)
          refine takeK 0 hHeld ?_
          refine takeK 1 hHeld ?_
          refine takeK 2 hHeld ?_
          refine takeK 3 hHeld ?_
          refine takeK 4 hHeld ?_
          refine skipK 5 hHeld ?_
          refine skipK 6 hHeld ?_
          refine skipK 7 hHeld ?_
          refine skipK 8 hHeld ?_
          refine skipK 9 hHeld ?_
          refine skipK 10 hHeld ?_
          refine skipK 11 hHeld ?_
          refine skipK 12 hHeld ?_
          refine takeK 13 hHeld ?_
          refine wpAnyH_done (by kernel_rfl) ?_ _
          clear hHeld
          go_upto_region 9 with fail
          go_wp2_with (at_builtin; refine wpList_plain rfl (fun K hK => wp_append_run (.tmp 58) (.tmp 61) 22 rfl rfl rfl R4.out (hK _ _ ?_)))
          go_ret
          exact ⟨_, rfl, by rw [HA.out]; exact own_low H4.out.1 hsw, H0.out.1.trans ((HC.out.1.trans ((HH.out.2.drew.trans H4.out.2).mono HC.out.1.size)).mono H0.out.1.size)⟩
end Go.Proofs.YtimbleaafoiidaaGreatDoor
