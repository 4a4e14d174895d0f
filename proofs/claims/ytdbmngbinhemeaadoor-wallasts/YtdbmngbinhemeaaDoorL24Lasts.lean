/-
  WalLasts, walked: behind crashes at any operation all groups that were answered, and the one under way wholly or not at all. Conditions: what came in lies there; the table holds its numbers.
-/
import Derived.Test.YtdbmngbinhemeaaDoorL23Args5
import Derived.Deep.CutBlock
import Derived.Deep.CutRange
namespace Go.Proofs.YtdbmngbinhemeaaDoor
open Go.RowKit

set_option maxRecDepth 400000 in
set_option maxHeartbeats 16000000 in
theorem lasts_any (w : World) (v : Value) (xs : List Lq) (hv : Lv w.heap.size w v xs) (hs : SmallL xs) (hB0 : 0 < w.heap.size) (hT : TabW w) :
    Calls Tryd.prog 3 #[v] w fun e w' => e = .returned (.bool true) ∧ Below w.heap.size w w' := by
  have HLV := hide hv
  obtain ⟨la, lc, rfl, l1, l2, -⟩ := hv
  have HT := hide hT
  have hsh := shown_any w hB0 hT
  clear hT
  go_enter Tryd.func3, Tryd.ntmps3
  go_wp2_with fail
  refine hsh.mono ?_
  rintro e w1 ⟨rfl, hb1⟩
  clear hsh
  have hbg := begun_any w.heap.size w1 hB0 hb1.size (HT.out.keep hb1)
  go_wp2_with fail
  refine hbg.mono ?_
  rintro e w2 ⟨X, d0, a0, F0, rfl, hX, ⟨S0, L0, hLg, hHas, hCalm, hbk, hrm⟩, hFX, hal, haX, hb2⟩
  have hOne : One w.heap.size w2 X d0 a0 F0 S0 L0 (.slice none 0 0) [] := ⟨hX, hLg, Rk.nil _, fun h => by have := (hFX _ h).2; omega, by omega, by have := hb1.size; omega⟩
  have hb2' : Below w.heap.size w w2 := hb1.trans (hb2.mono hb1.size)
  have hM0 := hCalm.mild
  clear hbg hX hLg hFX hal haX hb2 hb1 hCalm
  go_wp2_with fail
  go_loopg [6] 8 (fun g i wr => ∃ (j d a : Nat) (F : Nat → Prop) (S : Dk) (La : Lw) (ga : Value) (gsa : List (List (List UInt8))), g = 8 - j ∧ i = .int .i64 (j : Int) ∧ j ≤ xs.length ∧ j ≤ 8 ∧ One w.heap.size wr X d a F S La ga gsa ∧ Has nmLog S La gsa ∧ (Mild S ∧ S.room = 16777216 ∧ S.bulk ≤ 100 + j * 1320000) ∧ (laid sum4 gsa).length ≤ 145280 * j ∧ gsa.length ≤ 20 * j ∧ Below w.heap.size w wr)
  case atStart => exact ⟨0, d0, a0, F0, S0, L0, _, [], rfl, rfl, by omega, by omega, hOne, hHas, ⟨hM0, hrm, by omega⟩, by rw [l0]; omega, by simp, hb2'⟩
  case round =>
    clear hOne hHas hM0 hrm hbk hb2'
    obtain ⟨j, d, a, F, S, La, ga, gsa, rfl, rfl, j1, j2, hO, hA, ⟨hM, hR, hU⟩, hla, hna, bb⟩ := hrel
    by_cases hlt : j < xs.length ∧ j < 8
    · obtain ⟨j3, j4⟩ := hlt
      obtain ⟨lb, loff, rfl, hlB, hlife⟩ := Lv.at HLV.out j3
      obtain ⟨hsm, hct⟩ := hs xs[j] (List.getElem_mem j3)
      generalize xs[j] = x at hlife hsm hct
      obtain ⟨calls, cut, keep, torn⟩ := x
      obtain ⟨⟨u, d0, hu⟩, d1, d2, d3⟩ := hlife
      dsimp only at d0 d1 d2 d3 hu hsm hct
      have d0 := (bb.cell (p := ⟨lb, loff + j * 4, none⟩) hlB).trans d0
      have d1 := (bb.cell (p := ⟨lb, loff + j * 4 + 1, none⟩) hlB).trans d1
      have d2 := (bb.cell (p := ⟨lb, loff + j * 4 + 2, none⟩) hlB).trans d2
      have d3 := (bb.cell (p := ⟨lb, loff + j * 4 + 3, none⟩) hlB).trans d3
      have hcA := alloc_quiet wr (.cells #[u, .int .i64 cut, .int .i64 keep, .int .i64 torn] 29)
      have hbA : Below w.heap.size wr (wr.alloc (.cells #[u, .int .i64 cut, .int .i64 keep, .int .i64 torn] 29)) := (Below.refl _ wr).alloc bb.size _
      have hqA := heap_last wr (.cells #[u, .int .i64 cut, .int .i64 keep, .int .i64 torn] 29)
      have hOA := hO.quiet hcA
      have hoff := hO.since (Nat.le_refl _)
      have HU := hide hu
      have hbb := bb.trans hbA
      obtain ⟨ua, uc, rfl, u1, u2, -⟩ := hu
      clear hO hcA hbA bb
      go_wp2_with fail
      generalize hwA : wr.alloc (.cells #[.slice ua calls.length uc, .int .i64 cut, .int .i64 keep, .int .i64 torn] 29) = wA at *
      generalize hlq : wr.heap.size = lq at *
      clear hwA hlq d0 d1 d2 d3
      have hOd := hOA.quiet ((Chg.refl (fun _ => False) wA).drew)
      have q1 : wA.drew.cell? ⟨lq, 1, none⟩ = some (.int .i64 cut) := cell_of hqA 1
      have x0 : wA.drew.cell? ⟨X, 0, none⟩ = some (.pointer (some ⟨d, 0, none⟩)) := cell_of hOA.wx 0
      have hqd : wA.drew.heap[lq]? = some (.cells #[.slice ua calls.length uc, .int .i64 cut, .int .i64 keep, .int .i64 torn] 29) := hqA
      have hbd : Below w.heap.size w wA.drew := hbb.drew
      have hops := ops_lies hOd.la.1
      have hpk := fun W => pick_any W cut 60 hct (by omega)
      obtain ⟨op, hop⟩ : ∃ op, IntKind.i64.wrap ((S.n : Int) + pk cut 60) = op := ⟨_, rfl⟩
      have hcut := cutAt_lies hOd.la.1 hbd.size op
      refine wp_region_held_drew (S := fun W => W.cell? ⟨X, 0, none⟩ = some (.pointer (some ⟨d, 0, none⟩)) ∧ W.cell? ⟨lq, 1, none⟩ = some (.int .i64 cut)) (by kernel_rfl) (⟨x0, q1⟩) (fun hHeld => ?_)
      refine takeH (i := 0) (v := ?_) rfl (by kernel_rfl) (by kernel_rfl) (by kernel_rfl) (fun _ _ _ h => h) rfl ?_ hHeld ?_
      rotate_left
      · intro w hS; (try dsimp only at hS); obtain ⟨hS0, hS1⟩ := hS; go_simp; first | done | (with_reducible rfl)
      try simp only [Act.put, List.setIfInBounds_toArray, List.set_cons_zero, List.set_cons_succ]
      refine takeH (i := 1) (v := ?_) rfl (by kernel_rfl) (by kernel_rfl) (by kernel_rfl) (fun _ _ _ h => h) rfl ?_ hHeld ?_
      rotate_left
      · intro w hS; (try dsimp only at hS); obtain ⟨hS0, hS1⟩ := hS; go_simp; first | done | (with_reducible rfl)
      try simp only [Act.put, List.setIfInBounds_toArray, List.set_cons_zero, List.set_cons_succ]
      refine takeH (i := 2) (v := ?_) rfl (by kernel_rfl) (by kernel_rfl) (by kernel_rfl) (fun _ _ _ h => h) rfl ?_ hHeld ?_
      rotate_left
      · intro w hS; (try dsimp only at hS); obtain ⟨hS0, hS1⟩ := hS; go_simp; first | done | (with_reducible rfl)
      try simp only [Act.put, List.setIfInBounds_toArray, List.set_cons_zero, List.set_cons_succ]
      refine takeH (i := 3) (v := ?_) rfl (by kernel_rfl) (by kernel_rfl) (by kernel_rfl) (fun _ _ _ h => h) rfl ?_ hHeld ?_
      rotate_left
      · intro w hS; (try dsimp only at hS); obtain ⟨hS0, hS1⟩ := hS; go_simp; first | done | (with_reducible rfl)
      try simp only [Act.put, List.setIfInBounds_toArray, List.set_cons_zero, List.set_cons_succ]
      refine takeH (i := 4) (v := ?_) rfl (by kernel_rfl) (by kernel_rfl) (by kernel_rfl) (fun _ _ _ h => h) rfl ?_ hHeld ?_
      rotate_left
      · intro w hS; (try dsimp only at hS); obtain ⟨hS0, hS1⟩ := hS; go_simp; first | done | (with_reducible rfl)
      try simp only [Act.put, List.setIfInBounds_toArray, List.set_cons_zero, List.set_cons_succ]
      refine takeH (i := 5) (v := ?_) rfl (by kernel_rfl) (by kernel_rfl) (by kernel_rfl) (fun _ _ _ h => h) rfl ?_ hHeld ?_
      rotate_left
      · intro w hS; (try dsimp only at hS); obtain ⟨hS0, hS1⟩ := hS; go_simp; first | done | (with_reducible rfl)
      try simp only [Act.put, List.setIfInBounds_toArray, List.set_cons_zero, List.set_cons_succ]
      refine takeH (i := 6) (v := ?_) rfl (by kernel_rfl) (by kernel_rfl) (by kernel_rfl) (fun _ _ _ h => h) rfl ?_ hHeld ?_
      rotate_left
      · intro w hS; (try dsimp only at hS); obtain ⟨hS0, hS1⟩ := hS; go_simp; first | done | (with_reducible rfl)
      try simp only [Act.put, List.setIfInBounds_toArray, List.set_cons_zero, List.set_cons_succ]
      refine takeH (i := 7) (v := ?_) rfl (by kernel_rfl) (by kernel_rfl) (by kernel_rfl) (fun _ _ _ h => h) rfl ?_ hHeld ?_
      rotate_left
      · intro w hS; (try dsimp only at hS); obtain ⟨hS0, hS1⟩ := hS; go_simp; first | done | (with_reducible rfl)
      try simp only [Act.put, List.setIfInBounds_toArray, List.set_cons_zero, List.set_cons_succ]
      refine takeH (i := 9) (v := ?_) rfl (by kernel_rfl) (by kernel_rfl) (by kernel_rfl) (fun _ _ _ h => h) rfl ?_ hHeld ?_
      rotate_left
      · intro w hS; (try dsimp only at hS); obtain ⟨hS0, hS1⟩ := hS; go_simp; first | done | (with_reducible rfl)
      try simp only [Act.put, List.setIfInBounds_toArray, List.set_cons_zero, List.set_cons_succ]
      refine takeH (i := 10) (v := ?_) rfl (by kernel_rfl) (by kernel_rfl) (by kernel_rfl) (fun _ _ _ h => h) rfl ?_ hHeld ?_
      rotate_left
      · intro w hS; (try dsimp only at hS); obtain ⟨hS0, hS1⟩ := hS; go_simp; first | done | (with_reducible rfl)
      try simp only [Act.put, List.setIfInBounds_toArray, List.set_cons_zero, List.set_cons_succ]
      refine onlyH (i := 8) rfl (by kernel_rfl) rfl (fun K hK => ?_)
      go_simp
      refine hops.mono ?_
      rintro e w3 ⟨rfl, hw3⟩
      rw [hw3]
      clear hw3 w3
      refine hK.out _ _ (⟨x0, q1⟩) (fun hHeld => ?_)
      clear hK K
      try simp only [Act.put, List.setIfInBounds_toArray, List.set_cons_zero, List.set_cons_succ]
      refine onlyH (i := 11) rfl (by kernel_rfl) rfl (fun K hK => ?_)
      go_simp
      refine (hpk _).mono ?_
      rintro e w3 ⟨rfl, hw3⟩
      rw [hw3]
      clear hw3 w3
      refine hK.out _ _ (⟨x0, q1⟩) (fun hHeld => ?_)
      clear hK K
      try simp only [Act.put, List.setIfInBounds_toArray, List.set_cons_zero, List.set_cons_succ]
      refine takeH (i := 12) (v := ?_) rfl (by kernel_rfl) (by kernel_rfl) (by kernel_rfl) (fun _ _ _ h => h) rfl ?_ hHeld ?_
      rotate_left
      · intro w hS; (try dsimp only at hS); obtain ⟨hS0, hS1⟩ := hS; go_simp; first | done | (with_reducible rfl)
      try simp only [Act.put, List.setIfInBounds_toArray, List.set_cons_zero, List.set_cons_succ]
      refine onlyH (i := 13) rfl (by kernel_rfl) rfl (fun K hK => ?_)
      go_simp
      refine hcut.mono ?_
      rintro e w4 ⟨rfl, haf⟩
      obtain ⟨F4, hO4, hb34, hF4, hc4⟩ := hOd.step (hOd.la.after haf)
      have hq4 := hc4.keep hqd (fun e => e.elim hoff.1 hoff.2.1)
      have hoff4 : Off1 F4 a X lq := ⟨fun hf => (hF4 _ hf).elim hoff.1 (fun h => by have := lt_of_heap hqd; omega), hoff.2⟩
      refine hK.out _ _ (⟨cell_of hO4.wx 0, cell_of hq4 1⟩) (fun hHeld => ?_)
      clear hK K
      try simp only [Act.put, List.setIfInBounds_toArray, List.set_cons_zero, List.set_cons_succ]
      refine wpAnyH_done (by kernel_rfl) ?_ _
      clear hHeld hops hpk hcut x0 q1
      have hA4 := has_cut1 hA op
      have hM4 := mild_cut1 hM op
      have hR4 : (S.cutAt op).room = 16777216 := hR
      have hU4 : (S.cutAt op).bulk ≤ 100 + j * 1320000 := hU
      have hb4 := hbd.trans hb34
      generalize S.cutAt op = S4 at *
      clear hop hOd hOA hqA hqd hbd hb34 haf hA hM hR hU hc4 hF4 hoff hbb
      have y2 : w4.cell? ⟨X, 2, none⟩ = some ga := cell_of hO4.wx 2
      go_upto_block 2 with fail
      go_cut [8] from 26 to 139 (fun th wx => ∃ (F : Nat → Prop) (S : Dk) (La : Lw) (ga vt : Value) (gsa gsT : List (List (List UInt8))), th = vt ∧ One w.heap.size wx X d a F S La ga gsa ∧ Rk (Off1 F a X) wx vt gsT ∧ Either nmLog S gsa gsT ∧ S.room = 16777216 ∧ S.bulk ≤ 100 + j * 1320000 + 1307780 ∧ (laid sum4 gsa).length ≤ 145280 * j + 145280 ∧ (laid sum4 gsT).length ≤ 145280 * j + 145280 ∧ gsa.length ≤ 20 * j + 20 ∧ gsT.length ≤ 20 * j + 20 ∧ wx.heap[lq]? = some (.cells #[.slice ua calls.length uc, .int .i64 cut, .int .i64 keep, .int .i64 torn] 29) ∧ Off1 F a X lq ∧ Below w.heap.size w wx)
      case first =>
        as_aux_lemma =>
          go_wp2_with fail
          go_loopw [8, 9] (fun th kk wr => ∃ (k e : Nat) (F : Nat → Prop) (S : Dk) (La : Lw) (ga vt : Value) (gsa : List (List (List UInt8))), th = vt ∧ kk = .int .i64 (k : Int) ∧ k ≤ calls.length ∧ k ≤ 20 ∧ One w.heap.size wr X d a F S La ga gsa ∧ Rk (Off1 F a X) wr vt gsa ∧ Has nmLog S La gsa ∧ (Mild S ∧ S.room = 16777216 ∧ S.bulk ≤ 100 + j * 1320000 + e + k * 7277) ∧ e ≤ 1162240 ∧ (k = 0 → e = 0) ∧ (k = 0 ∨ La.wh = La.sz) ∧ (laid sum4 gsa).length ≤ 145280 * j + 7264 * k ∧ gsa.length ≤ 20 * j + k ∧ wr.heap[lq]? = some (.cells #[.slice ua calls.length uc, .int .i64 cut, .int .i64 keep, .int .i64 torn] 29) ∧ Off1 F a X lq ∧ Below w.heap.size w wr)
            (fun _ t _ => 20 - (intOf t).toNat)
          case atStart => exact ⟨0, 0, F4, S4, La, ga, ga, gsa, rfl, rfl, by omega, by omega, hO4, hO4.ra, hA4, ⟨hM4, hR4, by omega⟩, by omega, fun _ => rfl, .inl rfl, by omega, by omega, hq4, hoff4, hb4⟩
          case round =>
            clear hO4 hA4 hM4 hR4 hU4 hq4 hoff4 y2 hla hna
            obtain ⟨k, ex, F, S, La, ga, vt, gsa, rfl, rfl, k1, k2, hO, hvt, hA, ⟨hM, hR, hU⟩, he1, he2, hwh, hla, hna, hq, hoff, bb⟩ := hrel
            have HU5 := hide (HU.out.keep bb)
            have hok := hO.la.1.ok
            have q0 : wr.cell? ⟨lq, 0, none⟩ = some (.slice ua calls.length uc) := cell_of hq 0
            by_cases hlt2 : k < calls.length ∧ k < 20
            · obtain ⟨k3, k4⟩ := hlt2
              obtain ⟨ob, off, rfl, hbB, hop⟩ := Ob.at HU5.out k3
              obtain ⟨hsk, hsr⟩ := hsm calls[k] (List.getElem_mem k3)
              generalize calls[k] = o at hop hsk hsr
              obtain ⟨kind, rs, nn, tt⟩ := o
              obtain ⟨e0, ⟨u, e1, hu⟩, e2, e3⟩ := hop
              dsimp only at e0 e1 e2 e3 hu hsk hsr
              have HUU := hide hu
              obtain ⟨va, vc, rfl, v1, v2, -⟩ := hu
              have hbeh := behind_any wr hO.wx hO.ra (by omega) kind nn tt hsk _ rs (HUU.out.tx bb.size) hsr
              have hgf := grp_few rs
              have hla2 := laid_then (pk kind 8) gsa (fewW rs)
              have hna2 := gsThen_len1 (pk kind 8) gsa (fewW rs)
              go_wp2_with fail
              refine hbeh.mono ?_
              rintro e wb ⟨v', rfl, hrk, hbb⟩
              have hrk : Rk (Off1 F a X) wb v' (gsThen (pk kind 8) gsa (fewW rs)) := hrk.mono (fun k _ h => h.elim id (fun h => hO.since h))
              have hPb := hO.quiet (chg_new hbb)
              have hqb := (hbb.block _ (lt_of_heap hq)).trans hq
              have hbb' : Below w.heap.size w wb := bb.trans (hbb.mono bb.size)
              have hbbB : Below w.heap.size wr wb := hbb.mono bb.size
              have p0 := (hbbB.cell (p := ⟨ob, off + k * 4, none⟩) hbB).trans e0
              have p1 := (hbbB.cell (p := ⟨ob, off + k * 4 + 1, none⟩) hbB).trans e1
              have p2 := (hbbB.cell (p := ⟨ob, off + k * 4 + 2, none⟩) hbB).trans e2
              have p3 := (hbbB.cell (p := ⟨ob, off + k * 4 + 3, none⟩) hbB).trans e3
              have q0b : wb.cell? ⟨lq, 0, none⟩ = some (.slice (some ⟨ob, off, none⟩) calls.length uc) := cell_of hqb 0
              have hfine := lay_fine (rs := fewW rs) hA hM hok (isLg_nm nmLog_ok).1 (isLg_nm nmLog_ok).2 (pk kind 8) (fewW_right rs) (by omega)
              have hnear := lay_near S La (pk kind 8) (fewW rs)
              have hbulk : (layW (pk kind 8) S La (fewW rs)).1.bulk ≤ 100 + j * 1320000 + 1162240 + (k + 1) * 7277 ∧ ((k + 1 = 0 → 1162240 = 0)) := by
                refine ⟨?_, fun h => by omega⟩
                rcases hwh with h0 | h0
                · have h1 := lay_bulk (rs := fewW rs) hA (pk kind 8)
                  have h2 := he2 h0
                  omega
                · have h1 := lay_bulk' (rs := fewW rs) hA h0 (pk kind 8)
                  omega
              have hlaid := lay_has hA hok (isLg_nm nmLog_ok).1 (pk kind 8) (fewW_right rs)
              have hwhole := lay_whole (rs := fewW rs) hA (pk kind 8) (fewW_right rs)
              have hlay := lay_mild hPb.la hPb.wx hPb.XF hPb.Xl kind nn tt hsk _ rs ((HUU.out.keep hbbB).tx hbb'.size) hsr hB0 (HT.out.keep hbb') (by omega) (wh_range hA (by omega)) hfine hnear.2
              clear hbeh hO
              obtain ⟨wa2, wc2, rfl⟩ := hrk.form
              go_wp2_with fail
              refine hlay.mono ?_
              rintro e wl ⟨rfl, hthen⟩
              obtain ⟨F5, hP5, hbl, hF5, hc5⟩ := hPb.step hthen
              have hrk5 := hrk.step1 hF5 hc5
              have hb5 := hbb'.trans hbl
              have hM5 := hnear.mild hM
              have hR5 : (layW (pk kind 8) S La (fewW rs)).1.room = 16777216 := hnear.1.2.2.trans hR
              have hok5 := hP5.la.1.ok
              have hq5 := hc5.keep hqb (fun e => e.elim hoff.1 hoff.2.1)
              have hoff5 : Off1 F5 a X lq := ⟨fun hf => (hF5 _ hf).elim hoff.1 (fun h => by have := lt_of_heap hqb; omega), hoff.2⟩
              clear hlay hthen hnear hPb hrk hc5 p0 p1 p2 p3 q0b q0 e0 e1 e2 e3
              generalize layW (pk kind 8) S La (fewW rs) = R at *
              generalize gsThen (pk kind 8) gsa (fewW rs) = gs7 at *
              rcases hfine with h0 | h0
              · have z1 : wl.cell? ⟨X, 2, none⟩ = some ga := cell_of hP5.wx 2
                have z2 : wl.frozen? ⟨X, 2, none⟩ = false := thawed hP5.wx 2
                obtain ⟨hP6, hb6⟩ := hP5.put hrk5
                have hg6 : Chg (· = X) wl (wl.setCell ⟨X, 2, none⟩ (.slice wa2 gs7.length wc2)) := (Chg.refl (· = X) wl).setCell (p := ⟨X, 2, none⟩) (Or.inl rfl) _
                have HQ6 := hide (hg6.keep hq5 (fun e => hoff.2.2 e))
                have HP6 := hide hP6
                have HL := hide (hlaid.1 h0)
                have HWH := hide (hwhole h0)
                clear hP6 hP5 hrk5 hlaid hwhole hg6
                rw [h0]
                go_wp2_with fail
                go_roundw
                case rel => exact ⟨k + 1, 1162240, F5, R.1, R.2.1, _, _, gs7, rfl, by go_num, by omega, by omega, HP6.out, HP6.out.ra, HL.out, ⟨hM5, hR5, by omega⟩, by omega, fun h => by omega, .inr HWH.out, by omega, by omega, HQ6.out, hoff5, hb5.trans hb6⟩
                case measure => simp [intOf]; omega
              · have hei := either_laid hlaid h0 hok5
                clear hlaid hwhole
                rw [h0]
                go_wp2
                go_meet
                exact ⟨F5, R.1, R.2.1, ga, _, gsa, gs7, rfl, hP5, hrk5, hei, hR5, by omega, by omega, by omega, by omega, by omega, hq5, hoff5, hb5⟩
            · have hei : Either nmLog S gsa gsa := either_has hA hok
              have hlt3 : ¬ (k : Int) < (calls.length : Int) ∨ (k : Int) < (calls.length : Int) ∧ ¬ (k : Int) < 20 := by omega
              rcases hlt3 with hl | ⟨hl, hl2⟩
              · go_wp2
                go_meet
                exact ⟨F, S, La, ga, _, gsa, gsa, rfl, hO, hvt, hei, hR, by omega, by omega, by omega, by omega, by omega, hq, hoff, bb⟩
              · go_wp2
                go_meet
                exact ⟨F, S, La, ga, _, gsa, gsa, rfl, hO, hvt, hei, hR, by omega, by omega, by omega, by omega, by omega, hq, hoff, bb⟩
      case rest =>
        as_aux_lemma =>
          clear hO4 hA4 hM4 hR4 hU4 hq4 hoff4 y2 hla hna hb4
          obtain ⟨F5, S5, L5, ga, vt, gsa, gsT, hth, hO, hvt, hei, hR, hU, hla, hlT, hna, hnT, hq, hoff, bb⟩ := hcut
          replace hth := hth.symm
          subst hth
          obtain ⟨gq, tq, hOq, hgq⟩ := hei keep torn
          have hqd : wc.drew.heap[lq]? = some (.cells #[.slice ua calls.length uc, .int .i64 cut, .int .i64 keep, .int .i64 torn] 29) := hq
          have hdr : Chg (fun _ => False) wc wc.drew := (Chg.refl (fun _ => False) wc).drew
          have hOd := hO.quiet hdr
          have hbd : Below w.heap.size w wc.drew := bb.drew
          have hXs : X < wc.heap.size := hO.small.2.2
          have q2 : wc.drew.cell? ⟨lq, 2, none⟩ = some (.int .i64 keep) := cell_of hq 2
          have q3 : wc.drew.cell? ⟨lq, 3, none⟩ = some (.int .i64 torn) := cell_of hq 3
          have x0 : wc.drew.cell? ⟨X, 0, none⟩ = some (.pointer (some ⟨d, 0, none⟩)) := cell_of hO.wx 0
          have hcr := crash_lies hOd.la.1 hbd.size keep torn (by omega)
          have hbc := bulk_crash (S := S5) keep torn
          have hcm := calm_crash (S := S5) keep torn
          have hrc : (S5.crash keep torn).room = 16777216 := hR
          have ra0 : Rk (fun k => Off1 F5 a X k ∧ k < wc.heap.size) wc.drew ga gsa := (hO.ra.mono (fun k hk h => ⟨h, hk⟩)).keep hdr (fun _ _ h => h)
          have rt0 : Rk (fun k => Off1 F5 a X k ∧ k < wc.heap.size) wc.drew vt gsT := (hvt.mono (fun k hk h => ⟨h, hk⟩)).keep hdr (fun _ _ h => h)
          have hlow := hO.low
          obtain ⟨ta, tc, rfl⟩ := hvt.form
          clear hei hvt hO bb hq
          go_wp2_with fail
          refine wp_region_held_drew (S := fun W => W.cell? ⟨lq, 2, none⟩ = some (.int .i64 keep) ∧ W.cell? ⟨lq, 3, none⟩ = some (.int .i64 torn)) (by kernel_rfl) (⟨q2, q3⟩) (fun hHeld => ?_)
          refine takeH (i := 0) (v := ?_) rfl (by kernel_rfl) (by kernel_rfl) (by kernel_rfl) (fun _ _ _ h => h) rfl ?_ hHeld ?_
          rotate_left
          · intro w hS; (try dsimp only at hS); obtain ⟨hS0, hS1⟩ := hS; go_simp; first | done | (with_reducible rfl)
          try simp only [Act.put, List.setIfInBounds_toArray, List.set_cons_zero, List.set_cons_succ]
          refine takeH (i := 1) (v := ?_) rfl (by kernel_rfl) (by kernel_rfl) (by kernel_rfl) (fun _ _ _ h => h) rfl ?_ hHeld ?_
          rotate_left
          · intro w hS; (try dsimp only at hS); obtain ⟨hS0, hS1⟩ := hS; go_simp; first | done | (with_reducible rfl)
          try simp only [Act.put, List.setIfInBounds_toArray, List.set_cons_zero, List.set_cons_succ]
          refine takeH (i := 2) (v := ?_) rfl (by kernel_rfl) (by kernel_rfl) (by kernel_rfl) (fun _ _ _ h => h) rfl ?_ hHeld ?_
          rotate_left
          · intro w hS; (try dsimp only at hS); obtain ⟨hS0, hS1⟩ := hS; go_simp; first | done | (with_reducible rfl)
          try simp only [Act.put, List.setIfInBounds_toArray, List.set_cons_zero, List.set_cons_succ]
          refine takeH (i := 3) (v := ?_) rfl (by kernel_rfl) (by kernel_rfl) (by kernel_rfl) (fun _ _ _ h => h) rfl ?_ hHeld ?_
          rotate_left
          · intro w hS; (try dsimp only at hS); obtain ⟨hS0, hS1⟩ := hS; go_simp; first | done | (with_reducible rfl)
          try simp only [Act.put, List.setIfInBounds_toArray, List.set_cons_zero, List.set_cons_succ]
          refine takeH (i := 5) (v := ?_) rfl (by kernel_rfl) (by kernel_rfl) (by kernel_rfl) (fun _ _ _ h => h) rfl ?_ hHeld ?_
          rotate_left
          · intro w hS; (try dsimp only at hS); obtain ⟨hS0, hS1⟩ := hS; go_simp; first | done | (with_reducible rfl)
          try simp only [Act.put, List.setIfInBounds_toArray, List.set_cons_zero, List.set_cons_succ]
          refine takeH (i := 6) (v := ?_) rfl (by kernel_rfl) (by kernel_rfl) (by kernel_rfl) (fun _ _ _ h => h) rfl ?_ hHeld ?_
          rotate_left
          · intro w hS; (try dsimp only at hS); obtain ⟨hS0, hS1⟩ := hS; go_simp; first | done | (with_reducible rfl)
          try simp only [Act.put, List.setIfInBounds_toArray, List.set_cons_zero, List.set_cons_succ]
          refine takeH (i := 7) (v := ?_) rfl (by kernel_rfl) (by kernel_rfl) (by kernel_rfl) (fun _ _ _ h => h) rfl ?_ hHeld ?_
          rotate_left
          · intro w hS; (try dsimp only at hS); obtain ⟨hS0, hS1⟩ := hS; go_simp; first | done | (with_reducible rfl)
          try simp only [Act.put, List.setIfInBounds_toArray, List.set_cons_zero, List.set_cons_succ]
          refine takeH (i := 8) (v := ?_) rfl (by kernel_rfl) (by kernel_rfl) (by kernel_rfl) (fun _ _ _ h => h) rfl ?_ hHeld ?_
          rotate_left
          · intro w hS; (try dsimp only at hS); obtain ⟨hS0, hS1⟩ := hS; go_simp; first | done | (with_reducible rfl)
          try simp only [Act.put, List.setIfInBounds_toArray, List.set_cons_zero, List.set_cons_succ]
          refine onlyH (i := 4) rfl (by kernel_rfl) rfl (fun K hK => ?_)
          go_simp
          refine hK.out _ _ (⟨q2, q3⟩) (fun hHeld => ?_)
          clear hK K
          try simp only [Act.put, List.setIfInBounds_toArray, List.set_cons_zero, List.set_cons_succ]
          refine onlyH (i := 9) rfl (by kernel_rfl) rfl (fun K hK => ?_)
          go_simp
          refine hcr.mono ?_
          rintro e w6 ⟨d2, F6, rfl, hst6, hF6, hc6⟩
          have hX6 := hOd.wx.keep hc6 (fun h => h)
          have hq6 := hc6.keep hqd (fun h => h)
          refine hK.out _ _ (⟨cell_of hq6 2, cell_of hq6 3⟩) (fun hHeld => ?_)
          clear hK K
          try simp only [Act.put, List.setIfInBounds_toArray, List.set_cons_zero, List.set_cons_succ]
          refine takeH (i := 10) (v := ?_) rfl (by kernel_rfl) (by kernel_rfl) (by kernel_rfl) (fun _ _ _ h => h) rfl ?_ hHeld ?_
          rotate_left
          · intro w hS; (try dsimp only at hS); obtain ⟨hS0, hS1⟩ := hS; go_simp; first | done | (with_reducible rfl)
          try simp only [Act.put, List.setIfInBounds_toArray, List.set_cons_zero, List.set_cons_succ]
          refine takeH (i := 11) (v := ?_) rfl (by kernel_rfl) (by kernel_rfl) (by kernel_rfl) (fun _ _ _ h => h) rfl ?_ hHeld ?_
          rotate_left
          · intro w hS; (try dsimp only at hS); obtain ⟨hS0, hS1⟩ := hS; go_simp; first | done | (with_reducible rfl)
          try simp only [Act.put, List.setIfInBounds_toArray, List.set_cons_zero, List.set_cons_succ]
          have y0 : w6.cell? ⟨X, 0, none⟩ = some (.pointer (some ⟨d, 0, none⟩)) := cell_of hX6 0
          have y1 : w6.frozen? ⟨X, 0, none⟩ = false := thawed hX6 0
          have hg7 : Chg (· = X) w6 (w6.setCell ⟨X, 0, none⟩ (.pointer (some ⟨d2, 0, none⟩))) := (Chg.refl (· = X) w6).setCell (p := ⟨X, 0, none⟩) (Or.inl rfl) _
          have hq7 := hg7.keep hq6 (fun e => hoff.2.2 e)
          refine onlyH (i := 12) rfl (by kernel_rfl) rfl (fun K hK => ?_)
          go_simp
          refine hK.out _ _ (⟨cell_of hq7 2, cell_of hq7 3⟩) (fun hHeld => ?_)
          clear hK K
          try simp only [Act.put, List.setIfInBounds_toArray, List.set_cons_zero, List.set_cons_succ]
          refine wpAnyH_done (by kernel_rfl) ?_ _
          clear hHeld q2 q3 x0 y0 y1 hcr hq6 hqd
          have hX7 : WorldAt (w6.setCell ⟨X, 0, none⟩ (.pointer (some ⟨d2, 0, none⟩))) X d2 a ga (.slice none 0 0) false := heap_set hX6 0 _
          have hF6' : ∀ k, F6 k → wc.heap.size ≤ k := hF6
          have hst7 := hst6.keep hg7 (fun k hk e => by have := hF6' k hk; omega)
          have hb6 : Below w.heap.size w w6 := hbd.trans (hc6.below (fun _ h => h.elim) hbd.size)
          have hb7 := hb6.trans (hg7.below (fun k e => by rw [e]; exact hlow) hb6.size)
          have ra7 := (ra0.keep hc6 (fun _ _ h => h)).keep hg7 (fun k hp e => hp.1.2.2 e)
          have rt7 := (rt0.keep hc6 (fun _ _ h => h)).keep hg7 (fun k hp e => hp.1.2.2 e)
          have hs67 := hc6.size
          have hs7 := hg7.size
          have hs6d : wc.drew.heap.size = wc.heap.size := rfl
          generalize w6.setCell ⟨X, 0, none⟩ (.pointer (some ⟨d2, 0, none⟩)) = w7 at *
          generalize S5.crash keep torn = S6 at *
          have hop := open_on hst7 hOq (calm_on hcm) (hcm.2 _) nmLog_ok hb7.size hB0 (HT.out.keep hb7) (by omega)
          have hop : Calls Tryd.prog 15 #[.pointer (some ⟨d2, 0, none⟩), .string ⟨#[108, 111, 103]⟩] w7 _ := hop
          have y0 : w7.cell? ⟨X, 0, none⟩ = some (.pointer (some ⟨d2, 0, none⟩)) := cell_of hX7 0
          clear hst6 hg7 hc6 hX6 hOd ra0 rt0 hq7
          go_wp2_with fail
          refine hop.mono ?_
          rintro e w8 ⟨l8, v8, F8, b8, rfl, hl8, lg8, hF8, hc8, hG8, hb8', hlb8, hFb8⟩
          have hb8 : Below w.heap.size w w8 := hb7.trans (hc8.below (fun k hk => (hst7.2.1 k hk).1) hb7.size)
          have hX8 := hX7.keep hc8 (fun h => by have := hF6' _ h; omega)
          have ra8 := ra7.keep hc8 (fun k hp hf => by have := hF6' k hf; omega)
          have rt8 := rt7.keep hc8 (fun k hp hf => by have := hF6' k hf; omega)
          have r8 : Rs w8 _ gq := hG8.rs
          have yX : w8.cell? ⟨X, 2, none⟩ = some ga := cell_of hX8 2
          have hF8' : ∀ k, F8 k → wc.heap.size ≤ k := fun k hk => (hF8 k hk).elim (fun h => hF6' k h) (fun h => by omega)
          have hH8 := hOq.begun.has false
          have hM8 : Mild S6.begun := ((alt_begun S6).calm hcm).mild
          have hR8 : S6.begun.room = 16777216 := (alt_begun S6).2.2.trans hrc
          have hU8 := bulk_begun' S6
          have hapart : ∀ k, k < w8.heap.size → Off1 F5 a X k ∧ k < wc.heap.size → Off1 F8 l8 X k := fun k _ hp => ⟨fun hf => by have := hF8' k hf; omega, by omega, hp.1.2.2⟩
          have hXF8 : ¬ F8 X := fun hf => by have := hF8' X hf; omega
          have hXl8 : X ≠ l8 := by omega
          obtain ⟨a8, c8, rfl, -⟩ := hG8.form
          clear hop hG8 hc8 hX7 ra7 rt7 hst7 y0
          generalize S6.begun = S8 at *
          generalize (⟨nmLog, false, ((laid sum4 gq).length : Int), ((laid sum4 gq ++ tq).length : Int)⟩ : Lw) = L8 at *
          by_cases hqe : gq = gsa
          · have HQE := hide hqe
            have HGQ := hide hgq
            clear hqe hgq
            have hsm0 := same_any w8 (.slice a8 gq.length c8) ga gq gsa r8 ra8.rs
            rw [decide_eq_true HQE.out] at hsm0
            go_wp2_with fail
            refine hsm0.mono ?_
            rintro e w9 ⟨rfl, hs9⟩
            have hX9 := hX8.keep hs9 (fun h => h)
            have z1 : w9.cell? ⟨X, 1, none⟩ = some (.pointer (some ⟨a, 0, none⟩)) := cell_of hX9 1
            have z2 : w9.frozen? ⟨X, 1, none⟩ = false := thawed hX9 1
            have hg10 : Chg (· = X) w9 (w9.setCell ⟨X, 1, none⟩ (.pointer (some ⟨l8, 0, none⟩))) := (Chg.refl (· = X) w9).setCell (p := ⟨X, 1, none⟩) (Or.inl rfl) _
            have hb9 := hb8.trans (hs9.below (fun _ h => h.elim) hb8.size)
            have HB10 := hide (hb9.trans (hg10.below (fun k e => by rw [e]; exact hlow) hb9.size))
            have HH := hide (show Has nmLog S8 L8 gsa from HQE.out ▸ hH8)
            have HONE : Hid (One w.heap.size (w9.setCell ⟨X, 1, none⟩ (.pointer (some ⟨l8, 0, none⟩))) X d2 l8 F8 S8 L8 ga gsa) := hide ⟨heap_set hX9 1 _, (lg8.keep hs9 (fun _ _ h => h) (fun h => h)).keep hg10 (fun k hk e => hXF8 (e ▸ hk)) (fun e => hXl8 e.symm), ((ra8.mono hapart).keep hs9 (fun _ _ h => h)).keep hg10 (fun k hp e => hp.2.2 e), hXF8, hXl8, hlow⟩
            clear hsm0 hX8 ra8 rt8 r8 hg10 hX9 lg8 hH8
            go_wp2_with fail
            go_roundg (8 - (j + 1))
            case measure => omega
            case rel => exact ⟨j + 1, d2, l8, F8, S8, L8, ga, gsa, rfl, by go_num, by omega, by omega, HONE.out, HH.out, ⟨hM8, hR8, by omega⟩, by omega, by omega, HB10.out⟩
          · have HGQ := hide (hgq.resolve_left hqe)
            have HQE := hide hqe
            clear hqe hgq
            have hsm0 := same_any w8 (.slice a8 gq.length c8) ga gq gsa r8 ra8.rs
            rw [decide_eq_false HQE.out] at hsm0
            go_wp2_with fail
            refine hsm0.mono ?_
            rintro e w9 ⟨rfl, hs9⟩
            have hsm1 := same_any w9 (.slice a8 gq.length c8) (.slice ta gsT.length tc) gq gsT (r8.quiet hs9) (rt8.rs.quiet hs9)
            rw [decide_eq_true HGQ.out] at hsm1
            go_wp2_with fail
            refine hsm1.mono ?_
            rintro e w10 ⟨rfl, hs10⟩
            have hX10 := (hX8.keep hs9 (fun h => h)).keep hs10 (fun h => h)
            have z1 : w10.cell? ⟨X, 2, none⟩ = some ga := cell_of hX10 2
            have z2 : w10.frozen? ⟨X, 2, none⟩ = false := thawed hX10 2
            have hg11 : Chg (· = X) w10 (w10.setCell ⟨X, 2, none⟩ (.slice ta gsT.length tc)) := (Chg.refl (· = X) w10).setCell (p := ⟨X, 2, none⟩) (Or.inl rfl) _
            have hX11 : WorldAt (w10.setCell ⟨X, 2, none⟩ (.slice ta gsT.length tc)) X d2 a (.slice ta gsT.length tc) (.slice none 0 0) false := heap_set hX10 2 _
            have hb9 := hb8.trans (hs9.below (fun _ h => h.elim) hb8.size)
            have hb10 := hb9.trans (hs10.below (fun _ h => h.elim) hb9.size)
            have hb11 := hb10.trans (hg11.below (fun k e => by rw [e]; exact hlow) hb10.size)
            have lg11 := ((lg8.keep hs9 (fun _ _ h => h) (fun h => h)).keep hs10 (fun _ _ h => h) (fun h => h)).keep hg11 (fun k hk e => hXF8 (e ▸ hk)) (fun e => hXl8 e.symm)
            have rt11 := (((rt8.mono hapart).keep hs9 (fun _ _ h => h)).keep hs10 (fun _ _ h => h)).keep hg11 (fun k hp e => hp.2.2 e)
            have HH := hide (show Has nmLog S8 L8 gsT from HGQ.out ▸ hH8)
            clear hsm0 hsm1 hX8 ra8 rt8 r8 hX10 hg11 lg8 hH8 hs9 hs10
            go_upto_region 28 with fail
            generalize w10.setCell ⟨X, 2, none⟩ (.slice ta gsT.length tc) = w11 at *
            have z3 : w11.cell? ⟨X, 1, none⟩ = some (.pointer (some ⟨a, 0, none⟩)) := cell_of hX11 1
            have z4 : w11.frozen? ⟨X, 1, none⟩ = false := thawed hX11 1
            have hg12 : Chg (· = X) w11 (w11.setCell ⟨X, 1, none⟩ (.pointer (some ⟨l8, 0, none⟩))) := (Chg.refl (· = X) w11).setCell (p := ⟨X, 1, none⟩) (Or.inl rfl) _
            have HB12 := hide (hb11.trans (hg12.below (fun k e => by rw [e]; exact hlow) hb11.size))
            have HONE : Hid (One w.heap.size (w11.setCell ⟨X, 1, none⟩ (.pointer (some ⟨l8, 0, none⟩))) X d2 l8 F8 S8 L8 (.slice ta gsT.length tc) gsT) := hide ⟨heap_set hX11 1 _, lg11.keep hg12 (fun k hk e => hXF8 (e ▸ hk)) (fun e => hXl8 e.symm), rt11.keep hg12 (fun k hp e => hp.2.2 e), hXF8, hXl8, hlow⟩
            clear hX11 hg12 lg11 rt11
            go_wp2_with fail
            go_roundg (8 - (j + 1))
            case measure => omega
            case rel => exact ⟨j + 1, d2, l8, F8, S8, L8, _, gsT, rfl, by go_num, by omega, by omega, HONE.out, HH.out, ⟨hM8, hR8, by omega⟩, by omega, by omega, HB12.out⟩
    · have hlt' : ¬ (j : Int) < (xs.length : Int) ∨ ¬ (j : Int) < 8 := by omega
      rcases hlt' with hl | hl
      · go_wp2
        go_ret
        exact ⟨rfl, bb⟩
      · by_cases hl2 : (j : Int) < (xs.length : Int)
        · go_wp2
          go_ret
          exact ⟨rfl, bb⟩
        · go_wp2
          go_ret
          exact ⟨rfl, bb⟩
end Go.Proofs.YtdbmngbinhemeaaDoor
