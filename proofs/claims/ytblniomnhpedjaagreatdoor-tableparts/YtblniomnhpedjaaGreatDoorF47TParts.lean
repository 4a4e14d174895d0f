/-
  TableParts, walked. Conditions: what came in lies there; the table of sums holds its numbers.
-/
import Derived.Test.YtblniomnhpedjaaGreatDoorF46TParts1
import Derived.Test.YtblniomnhpedjaaGreatDoorF35TNames
import Derived.Deep.CutBlock
import Derived.Deep.CutRange
import Derived.Deep.LoopGhost
namespace Go.Proofs.YtblniomnhpedjaaGreatDoor
open Go.RowKit

/-- Numbers lie in a slice. -/
def IsT (w : World) (v : Value) (l : List Int) : Prop :=
  ∃ ao cap, v = .slice ao l.length cap ∧ l.length ≤ cap ∧ cap ≤ maxLen ∧ (l ≠ [] → ∃ b off, ao = some ⟨b, off, none⟩ ∧ b < w.heap.size ∧ ∀ j (h : j < l.length), w.cell? ⟨b, off + j, none⟩ = some (.int .i64 (l[j]'h)))
theorem IsT.form {w : World} {v : Value} {l : List Int} (h : IsT w v l) : ∃ ao cap, v = .slice ao l.length cap := by
  obtain ⟨ao, cap, hv, -⟩ := h
  exact ⟨ao, cap, hv⟩
theorem IsT.at {w w' : World} {ao : Option Addr} {n cap : Nat} {l : List Int} (h : IsT w (.slice ao n cap) l) (hb : Below w.heap.size w w') {j : Nat} (hj : j < l.length) :
    ∃ b off, ao = some ⟨b, off, none⟩ ∧ w'.cell? ⟨b, off + j, none⟩ = some (.int .i64 l[j]) := by
  obtain ⟨ao', cap', hv, -, -, h4⟩ := h
  injection hv with e1 e2 e3
  subst e1
  obtain ⟨b, off, ha, hlt, hc⟩ := h4 (by intro e; rw [e] at hj; simp at hj)
  exact ⟨b, off, ha, (hb.cell (p := ⟨b, off + j, none⟩) hlt).trans (hc j hj)⟩
set_option maxRecDepth 40000 in
set_option maxHeartbeats 6400000 in
theorem tparts_any (w : World) (v vi : Value) (os : List PutM) (cs : List Int) (hv : PsT w v os) (hos : ∀ o ∈ os, o.1.length ≤ 140737488351232 ∧ o.2.1.length ≤ 140737488351232) (hi : IsT w vi cs) (hcl : cs.length ≤ 140737488355328) (hcs : ∀ c ∈ cs, -9223372036854775808 ≤ c ∧ c ≤ 9223372036854775807) (hB0 : 0 < w.heap.size) (hT : TabW w) :
    Calls Tryz.prog 6 #[v, vi] w fun e w' => e = .returned (.bool true) ∧ Below w.heap.size w w' := by
  have HT := hide hT
  have HV := hide hv
  have HI := hide hi
  obtain ⟨va, vc, rfl⟩ := hv.form
  obtain ⟨ia, ic, rfl⟩ := hi.form
  have hsh := shown_any w hB0 hT
  clear hT hv hi
  go_enter Tryz.func6, Tryz.ntmps6
  go_wp2_with fail
  refine hsh.mono ?_
  rintro e w1 ⟨rfl, hb1⟩
  have hbx := begun_any w.heap.size w1 hB0 hb1.size (HT.out.keep hb1)
  clear hsh
  go_wp2_with fail
  refine hbx.mono ?_
  rintro e w2 ⟨xb, dx, tx, bx, gx, rx, Fx, Sx, rfl, hwx, hCx, hdx, -, hFx, hgx, htx, hbbx, hrx, hrx2, hxx, hb2⟩
  have hB2 := hb1.trans (hb2.mono hb1.size)
  have hby := begun_any w2.heap.size w2 (by omega) (Nat.le_refl _) (HT.out.keep hB2)
  clear hbx hb1 hb2
  go_wp2_with fail
  refine hby.mono ?_
  rintro e w3 ⟨yb, dy, ty, by', gy, ry, Fy, Sy, rfl, hwy, hCy, hdy, -, hFy, hgy, hty, hbby, hry, hry2, hxy, hb3⟩
  have hB3 := hB2.trans (hb3.mono hB2.size)
  have hpu := lputs_any w3 0 0 0 52 (.slice va os.length vc) os (HV.out.keepB hB3) (by omega) hos
  have H3 := hide (show TCalm w.heap.size w3 Fx dx gx tx bx nmTab Sx [] 1 muchT ∧ WorldT w3 xb dx tx rx (.slice none 0 0) false false 0 0 from ⟨hCx.quiet (quietB hb3), (quietB hb3).keep hwx (fun h => h)⟩)
  clear hby hb3 hCx hwx hB2
  go_wp2_with fail
  refine hpu.mono ?_
  rintro e w4 ⟨u, ps, rfl, hps, hpl, hpb, hpo, hb4⟩
  have hB4 := hB3.trans (hb4.mono hB3.size)
  have q4 := quietB hb4
  have hz4 := hb4.size
  obtain ⟨ua, uc, rfl⟩ := hps.form
  have hCx4 := H3.out.1.quiet q4
  have hwx4 := q4.keep (show w3.heap[xb]? = some _ from H3.out.2) (fun h => h)
  have hap := tcommit_calm hCx4 nmTab_ok hps hB0 (HT.out.keep hB4) (by decide) (by decide)
  have x1 := cell_of hwx4 1
  simp only [List.getElem?_toArray, List.getElem?_cons_zero, List.getElem?_cons_succ] at x1
  have H4 := hide (show TCalm w.heap.size w4 Fx dx gx tx bx nmTab Sx [] 1 muchT ∧ WorldT w4 xb dx tx rx (.slice none 0 0) false false 0 0 ∧ TCalm w2.heap.size w4 Fy dy gy ty by' nmTab Sy [] 1 muchT ∧ WorldT w4 yb dy ty ry (.slice none 0 0) false false 0 0 ∧ Below w.heap.size w w4 ∧ PsT w4 (.slice ua ps.length uc) ps from ⟨hCx4, hwx4, hCy.quiet q4, q4.keep (show w3.heap[yb]? = some _ from hwy) (fun h => h), hB4, hps⟩)
  clear hpu hb4 q4 hCx4 hwx4 hCy hwy hB3 hB4 hps
  go_wp2_with fail
  refine hap.mono ?_
  rintro e w5 ⟨rfl, Fx5, bx5, Sx5, hCx5, hS5, hf5, hbb5, hc5⟩
  have hXlt : ∀ k, (Fx k ∨ k = gx ∨ k = tx) → k < rx := fun k hk => by
    rcases hk with hk | rfl | rfl
    · exact (hFx k hk).2
    · exact hgx.2
    · exact htx.2
  have hB5 := H4.out.2.2.2.2.1.trans (H4.out.1.belowC hc5)
  have hz5 := hc5.size
  have hCy5 := H4.out.2.2.1.keep hc5 (fun k hk h => by have := hXlt k h; have := hFy k hk; omega) (fun h => by have := hXlt _ h; omega) (fun h => by have := hXlt _ h; omega) (fun h => by have := hXlt _ h; omega)
  have hwx5 := hc5.keep (show w4.heap[xb]? = some _ from H4.out.2.1) (fun h => by have := hXlt _ h; omega)
  have hwy5 := hc5.keep (show w4.heap[yb]? = some _ from H4.out.2.2.2.1) (fun h => by have := hXlt _ h; omega)
  have hps5 := H4.out.2.2.2.2.2.keep hc5 (fun _ b off n cap e h => by have := hXlt _ h; have := (hpo b (by rw [e]; rfl)).1; omega)
  cases hr : rightT ps with
  | false =>
    have ha : ansT [] ps = 130 := ans_form hr
    have hnx : nextT [] ps = [] := next_no (by rw [ha]; decide)
    rw [ha]
    rw [hnx] at hCx5
    have hS := hS5 (.inl (by rw [ha]; decide))
    have hle := tlen_calm hCx5
    obtain ⟨hst, hbk, -⟩ := hCx5.stands
    have hnm := names_stands1 hst (by have : (1 : Nat) + 2200000 < 1099511627776 := by decide
                                      omega)
    have hdir : Sx5.dir = [] := by rw [hS]; exact hdx
    rw [hdir] at hnm
    have y0 := cell_of hwx5 0
    have y1 := cell_of hwx5 1
    simp only [List.getElem?_toArray, List.getElem?_cons_zero, List.getElem?_cons_succ] at y0 y1
    have HB5 := hide hB5
    clear hst hbk hCx5 hS hS5 hnx ha hr hdir hCy5 hwx5 hwy5 hps5 hB5 hc5 hXlt hap x1 hFx hFy hpo hpb
    go_wp2_with fail
    refine hle.mono ?_
    rintro e w6 ⟨rfl, rfl⟩
    go_wp2_with fail
    refine hnm.mono ?_
    rintro e w7 ⟨v7, rfl, hrow, -, q7, -⟩
    obtain ⟨a7, c7, rfl, -⟩ := own_form hrow
    clear hrow hnm hle
    go_wp2
    go_ret
    exact ⟨rfl, HB5.out.trans (q7.below (fun _ h => h.elim) HB5.out.size)⟩
  | true =>
    have hfa := few_fit hr hpl ps.length
    rw [List.take_length] at hfa
    have ha : ansT [] ps = 0 := ans_ok hr hfa
    have hnx : nextT [] ps = doneA [] ps := next_ok ha
    rw [ha]
    rw [hnx] at hCx5
    -- what lies apart of y
    obtain ⟨O, hOd⟩ : ∃ O : Nat → Prop, O = fun k => Fx5 k ∨ k = gx ∨ k = tx ∨ k = bx5 ∨ k = xb ∨ k = yb ∨ (Value.slice ua ps.length uc).ownBlock = some k := ⟨_, rfl⟩
    have hlx := hCx5.low
    have hz3 : w3.heap.size ≤ w4.heap.size := hz4
    have hO : ∀ k, O k → k < w5.heap.size ∧ ¬ (Fy k ∨ k = gy ∨ k = ty) := by
      intro k hk
      have hy : (Fy k ∨ k = gy ∨ k = ty) → w2.heap.size ≤ k ∧ k < ry := fun h => by
        rcases h with h | rfl | rfl
        · exact hFy k h
        · exact hgy
        · exact hty
      rw [hOd] at hk
      rcases hk with hk | rfl | rfl | rfl | rfl | rfl | hk
      · refine ⟨(hlx.1 k hk).2, fun h => ?_⟩
        have := hy h
        rcases hf5 k hk with q | q
        · have := hFx k q; omega
        · omega
      · exact ⟨by omega, fun h => by have := hy h; omega⟩
      · exact ⟨by omega, fun h => by have := hy h; omega⟩
      · refine ⟨hlx.2.2.2.2, fun h => ?_⟩
        have := hy h
        rcases hbb5 with q | q <;> omega
      · exact ⟨by omega, fun h => by have := hy h; omega⟩
      · exact ⟨by omega, fun h => by have := hy h; omega⟩
      · have h1 := hpo k hk
        exact ⟨by omega, fun h => by have := hy h; omega⟩
    obtain ⟨J, hJd⟩ : ∃ J : World → Prop, J = fun wr => TCalm w.heap.size wr Fx5 dx gx tx bx5 nmTab Sx5 (doneA [] ps) 2200001 muchT ∧ WorldT wr xb dx tx rx (.slice none 0 0) false false 0 0 ∧ WorldT wr yb dy ty ry (.slice none 0 0) false false 0 0 ∧ PsT wr (.slice ua ps.length uc) ps ∧ Below w.heap.size w wr := ⟨_, rfl⟩
    have hJ5 : J w5 := by rw [hJd]; exact ⟨hCx5, hwx5, hwy5, hps5, hB5⟩
    have hJk : ∀ (wr w' : World) (X : Nat → Prop), J wr → (∀ k, O k → ¬ X k) → Chg X wr w' → Below w2.heap.size wr w' → J w' := by
      intro wr w' X h hX hc hb
      rw [hJd] at h ⊢
      rw [hOd] at hX
      obtain ⟨h1, h2, h3, h4, h5⟩ := h
      refine ⟨h1.keep hc (fun k hk => hX k (.inl hk)) (hX _ (.inr (.inr (.inl rfl)))) (hX _ (.inr (.inr (.inr (.inl rfl))))) (hX _ (.inr (.inl rfl))), hc.keep (show wr.heap[xb]? = some _ from h2) (hX _ (.inr (.inr (.inr (.inr (.inl rfl)))))), hc.keep (show wr.heap[yb]? = some _ from h3) (hX _ (.inr (.inr (.inr (.inr (.inr (.inl rfl))))))), h4.keep hc (fun _ b off n cap e => hX b (.inr (.inr (.inr (.inr (.inr (.inr (by rw [e]; rfl)))))))), h5.trans (hb.mono (by omega))⟩
    have HJK := hide hJk
    have HJ5 := hide hJ5
    have HO5 := hide hO
    have HY5 := hide hCy5
    have HRT := hide (And.intro hr hpl)
    have HJD := hide hJd
    clear hJk hJ5 hO hCy5 hCx5 hwx5 hwy5 hps5 hB5 hc5 hXlt hap x1 hFx hFy hpo hpb hlx hOd hJd ha hnx hfa hS5 hf5 hbb5 hr hgx htx hbbx hgy hty hbby
    go_upto_block 0 with fail
    go_cut [12, 13] from 68 to 101 (fun ta ti wx => ∃ (a : Nat) (F : Nat → Prop) (b : Nat) (S : Dk), ta = .int .i64 a ∧ a ≤ ps.length ∧ TCalm w2.heap.size wx F dy gy ty b nmTab S (doneA [] (ps.take a)) 44000001 muchT ∧ (∀ k, O k → k < wx.heap.size ∧ ¬ (F k ∨ k = gy ∨ k = ty)) ∧ J wx)
    case first =>
      go_wp2_with fail
      go_loopw [13, 12] (fun t u wr => ∃ (i a : Nat) (F : Nat → Prop) (b : Nat) (S : Dk), t = .int .i64 i ∧ i ≤ cs.length ∧ i ≤ 20 ∧ u = .int .i64 a ∧ a ≤ ps.length ∧ TCalm w2.heap.size wr F dy gy ty b nmTab S (doneA [] (ps.take a)) (1 + i * 2200000) muchT ∧ (∀ k, O k → k < wr.heap.size ∧ ¬ (F k ∨ k = gy ∨ k = ty)) ∧ J wr)
        (fun t _ _ => 20 - (intOf t).toNat)
      case atStart => exact ⟨0, 0, Fy, by', Sy, rfl, by omega, by omega, rfl, by omega, HY5.out, HO5.out, HJ5.out⟩
      case round =>
        obtain ⟨i, a, F, b, S, rfl, hi1, hi2, rfl, ha, hC, hO, hJ⟩ := hrel
        have HC := hide (And.intro hC (And.intro hO hJ))
        by_cases hlt : i < cs.length
        · by_cases h20 : i < 20
          · have hq1 : decide ((i : Int) < (cs.length : Int)) = true := decide_eq_true (by omega)
            have hq2 : decide ((i : Int) < 20) = true := decide_eq_true (by omega)
            have hJu := hJ
            rw [HJD.out] at hJu
            obtain ⟨-, -, hwy, hps, hB⟩ := hJu
            obtain ⟨cb, coff, rfl, hcc⟩ := HI.out.at hB hlt
            have hcr := hcs cs[i] (List.getElem_mem hlt)
            generalize cs[i] = c at *
            have hpk := pick_big wr c ((ps.length : Int) - (a : Int) + 1) hcr ⟨by omega, by omega⟩
            have hrg := pk_range (c := c) (n := (ps.length : Int) - (a : Int) + 1) (by omega)
            obtain ⟨nn, hnn⟩ : ∃ nn : Nat, (nn : Int) = (a : Int) + pk c ((ps.length : Int) - (a : Int) + 1) := ⟨a + (pk c ((ps.length : Int) - (a : Int) + 1)).toNat, by omega⟩
            have g1 : IntKind.i64.wrap ((ps.length : Int) - (a : Int)) = (ps.length : Int) - (a : Int) := by rw [IntKind.wrap_i64]; omega
            have g2 : IntKind.i64.wrap ((ps.length : Int) - (a : Int) + 1) = (ps.length : Int) - (a : Int) + 1 := by rw [IntKind.wrap_i64]; omega
            have g3 : IntKind.i64.wrap ((a : Int) + pk c ((ps.length : Int) - (a : Int) + 1)) = (nn : Int) := by rw [← hnn, IntKind.wrap_i64]; omega
            have hn1 : a ≤ nn := by omega
            have hn2 : nn ≤ ps.length := by omega
            have y1 := cell_of (show wr.heap[yb]? = some _ from hwy) 1
            simp only [List.getElem?_toArray, List.getElem?_cons_zero, List.getElem?_cons_succ] at y1
            have hcap : ps.length ≤ uc := by
              obtain ⟨ao, cap, e, h1, -, -⟩ := hps
              injection e with e1 e2 e3
              omega
            obtain ⟨pv, hpv⟩ : ∃ pv, pv = partV ua a nn uc := ⟨_, rfl⟩
            have hsl := fun W => run_part W ua ps.length uc a nn hn1 (by omega)
            rw [← hpv] at hsl
            have hpp := hps.part hn1 hn2
            rw [← hpv] at hpp
            have hdr : Chg (fun _ => False) wr wr.drew := (Chg.refl _ wr).drew
            have hap := tcommit_calm (hC.quiet hdr) nmTab_ok (hpp.quiet hdr) (by omega) (HT.out.keep (hB.trans (hdr.below (fun _ h => h.elim) hB.size))) (by omega) (by have : muchT = 67108864 := rfl; omega)
            have hfit2 : fitT (doneA (doneA [] (ps.take a)) ((ps.drop a).take (nn - a))) = true := by
              rw [← doneA_app, ← take_part ps hn1]
              exact few_fit HRT.out.1 HRT.out.2 nn
            have hans := ans_ok (right_part HRT.out.1 a (nn - a)) hfit2
            have hnxt := next_ok hans
            rw [← doneA_app, ← take_part ps hn1] at hnxt
            rw [hans, hnxt] at hap
            have HAP := hide hap
            have HPV := hide hpv
            have HNN := hide hnn
            clear hC hO hJ hwy hps hB hap hpp hdr hfit2 hans hnxt hpv hcap hnn
            go_wp2_with fail
            refine hpk.mono ?_
            rintro e w' ⟨rfl, rfl⟩
            clear hpk hcr hrg
            go_wp2_with fail
            refine wp_region_held_drew (S := fun W => W.cell? ⟨yb, 1, none⟩ = some (.pointer (some ⟨ty, 0, none⟩))) (by kernel_rfl) (y1) (fun hHeld => ?_)
            refine takeH (i := 0) (v := ?_) rfl (by kernel_rfl) (by kernel_rfl) (by kernel_rfl) (fun _ _ _ h => h) rfl ?_ hHeld ?_
            rotate_left
            · intro w hS; (try dsimp only at hS); obtain hS0 := hS; go_simp; first | done | (with_reducible rfl)
            try simp only [Act.put, List.setIfInBounds_toArray, List.set_cons_zero, List.set_cons_succ]
            refine takeH (i := 1) (v := ?_) rfl (by kernel_rfl) (by kernel_rfl) (by kernel_rfl) (fun _ _ _ h => h) rfl ?_ hHeld ?_
            rotate_left
            · intro w hS; (try dsimp only at hS); obtain hS0 := hS; go_simp; first | done | (with_reducible rfl)
            try simp only [Act.put, List.setIfInBounds_toArray, List.set_cons_zero, List.set_cons_succ]
            refine takeH (i := 2) (v := ?_) rfl (by kernel_rfl) (by kernel_rfl) (by kernel_rfl) (fun _ _ _ h => h) rfl ?_ hHeld ?_
            rotate_left
            · intro w hS; (try dsimp only at hS); obtain hS0 := hS; go_simp; first | done | (with_reducible rfl)
            try simp only [Act.put, List.setIfInBounds_toArray, List.set_cons_zero, List.set_cons_succ]
            refine takeH (i := 3) (v := ?_) rfl (by kernel_rfl) (by kernel_rfl) (by kernel_rfl) (fun _ _ _ h => h) rfl ?_ hHeld ?_
            rotate_left
            · intro w hS; (try dsimp only at hS); obtain hS0 := hS; go_simp; first | done | (with_reducible rfl)
            try simp only [Act.put, List.setIfInBounds_toArray, List.set_cons_zero, List.set_cons_succ]
            refine takeH (i := 4) (v := ?_) rfl (by kernel_rfl) (by kernel_rfl) (by kernel_rfl) (fun _ _ _ h => h) rfl ?_ hHeld ?_
            rotate_left
            · intro w hS; (try dsimp only at hS); obtain hS0 := hS; go_simp; first | done | (with_reducible rfl)
            try simp only [Act.put, List.setIfInBounds_toArray, List.set_cons_zero, List.set_cons_succ]
            refine takeH (i := 5) (v := ?_) rfl (by kernel_rfl) (by kernel_rfl) (by kernel_rfl) (fun _ _ _ h => h) rfl ?_ hHeld ?_
            rotate_left
            · intro w hS; (try dsimp only at hS); obtain hS0 := hS; go_simp; first | done | (with_reducible rfl)
            try simp only [Act.put, List.setIfInBounds_toArray, List.set_cons_zero, List.set_cons_succ]
            refine takeH (i := 6) (v := ?_) rfl (by kernel_rfl) (by kernel_rfl) (by kernel_rfl) (fun _ _ _ h => h) rfl ?_ hHeld ?_
            rotate_left
            · intro w hS; (try dsimp only at hS); obtain hS0 := hS; go_simp; first | done | (with_reducible rfl)
            try simp only [Act.put, List.setIfInBounds_toArray, List.set_cons_zero, List.set_cons_succ]
            refine takeH (i := 7) (v := ?_) rfl (by kernel_rfl) (by kernel_rfl) (by kernel_rfl) (fun _ _ _ h => h) rfl ?_ hHeld ?_
            rotate_left
            · intro w hS; (try dsimp only at hS); obtain hS0 := hS; go_simp; first | done | (with_reducible rfl)
            try simp only [Act.put, List.setIfInBounds_toArray, List.set_cons_zero, List.set_cons_succ]
            refine onlyH (i := 8) rfl (by kernel_rfl) rfl (fun K hK => ?_)
            go_simp
            refine HAP.out.mono ?_
            rintro e w6 ⟨rfl, F6, b6, S6, hC6, -, hf6, -, hc6⟩
            have hc6' : Chg (fun k => F k ∨ k = gy ∨ k = ty) w' w6 := ((Chg.refl _ w').drew).then hc6
            have hJ6 := HJK.out w' w6 _ HC.out.2.2 (fun k hk => (HC.out.2.1 k hk).2) hc6' (HC.out.1.belowC hc6')
            have hO6 := apart_on HC.out.2.1 hf6 hc6'.size
            have hJu := hJ6
            rw [HJD.out] at hJu
            have y6 := cell_of (show w6.heap[yb]? = some _ from hJu.2.2.1) 1
            simp only [List.getElem?_toArray, List.getElem?_cons_zero, List.getElem?_cons_succ] at y6
            have H6 := hide (And.intro hC6 (And.intro hO6 hJ6))
            clear hC6 hO6 hJ6 hJu hc6 hc6' hf6
            refine hK.out _ _ (y6) (fun hHeld => ?_)
            clear hK K
            try simp only [Act.put, List.setIfInBounds_toArray, List.set_cons_zero, List.set_cons_succ]
            refine takeH (i := 9) (v := ?_) rfl (by kernel_rfl) (by kernel_rfl) (by kernel_rfl) (fun _ _ _ h => h) rfl ?_ hHeld ?_
            rotate_left
            · intro w hS; (try dsimp only at hS); obtain hS0 := hS; go_simp; first | done | (with_reducible rfl)
            try simp only [Act.put, List.setIfInBounds_toArray, List.set_cons_zero, List.set_cons_succ]
            refine wpAnyH_done (by kernel_rfl) ?_ _
            clear hHeld
            go_wp2_with fail
            go_roundw
            case rel => exact ⟨i + 1, nn, F6, b6, S6, by go_num, by omega, by omega, rfl, hn2, H6.out.1.more (by omega), H6.out.2.1, H6.out.2.2⟩
            case measure => simp [intOf]; omega
          · have hq1 : decide ((i : Int) < (cs.length : Int)) = true := decide_eq_true (by omega)
            have hq2 : decide ((i : Int) < 20) = false := decide_eq_false (by omega)
            clear hC hO hJ
            go_wp2_with fail
            go_meet
            exact ⟨a, F, b, S, rfl, ha, HC.out.1.more (by omega), HC.out.2.1, HC.out.2.2⟩
        · have hq1 : decide ((i : Int) < (cs.length : Int)) = false := decide_eq_false (by omega)
          clear hC hO hJ
          go_wp2_with fail
          go_meet
          exact ⟨a, F, b, S, rfl, ha, HC.out.1.more (by omega), HC.out.2.1, HC.out.2.2⟩
    case rest =>
      obtain ⟨a, F, b, S, rfl, ha, hC, hO, hJ⟩ := hcut
      have HC := hide (And.intro hC (And.intro hO hJ))
      have hJu := hJ
      rw [HJD.out] at hJu
      obtain ⟨-, -, hwy, hps, hB⟩ := hJu
      have y1 := cell_of (show wc.heap[yb]? = some _ from hwy) 1
      simp only [List.getElem?_toArray, List.getElem?_cons_zero, List.getElem?_cons_succ] at y1
      have hcap : ps.length ≤ uc := by
        obtain ⟨ao, cap, e, h1, -, -⟩ := hps
        injection e with e1 e2 e3
        omega
      obtain ⟨pv, hpv⟩ : ∃ pv, pv = partV ua a ps.length uc := ⟨_, rfl⟩
      have hsl := fun W => run_rest W ua ps.length uc a ha
      rw [← hpv] at hsl
      have hpp := hps.part ha (Nat.le_refl _)
      rw [← hpv] at hpp
      have hdr : Chg (fun _ => False) wc wc.drew := (Chg.refl _ wc).drew
      have hap := tcommit_calm (hC.quiet hdr) nmTab_ok (hpp.quiet hdr) (by omega) (HT.out.keep (hB.trans (hdr.below (fun _ h => h.elim) hB.size))) (by omega) (by have : muchT = 67108864 := rfl; omega)
      have hfit2 : fitT (doneA (doneA [] (ps.take a)) ((ps.drop a).take (ps.length - a))) = true := by
        rw [← doneA_app, ← take_part ps ha]
        exact few_fit HRT.out.1 HRT.out.2 _
      have hans := ans_ok (right_part HRT.out.1 a (ps.length - a)) hfit2
      have hnxt := next_ok hans
      rw [← doneA_app, ← take_part ps ha, List.take_length] at hnxt
      rw [hans, hnxt] at hap
      have HAP := hide hap
      have HPV := hide hpv
      clear hC hO hJ hwy hps hB hap hpp hdr hfit2 hans hnxt hpv hcap
      go_wp2_with fail
      refine wp_region_held_drew (S := fun W => W.cell? ⟨yb, 1, none⟩ = some (.pointer (some ⟨ty, 0, none⟩))) (by kernel_rfl) (y1) (fun hHeld => ?_)
      refine takeH (i := 0) (v := ?_) rfl (by kernel_rfl) (by kernel_rfl) (by kernel_rfl) (fun _ _ _ h => h) rfl ?_ hHeld ?_
      rotate_left
      · intro w hS; (try dsimp only at hS); obtain hS0 := hS; go_simp; first | done | (with_reducible rfl)
      try simp only [Act.put, List.setIfInBounds_toArray, List.set_cons_zero, List.set_cons_succ]
      refine takeH (i := 1) (v := ?_) rfl (by kernel_rfl) (by kernel_rfl) (by kernel_rfl) (fun _ _ _ h => h) rfl ?_ hHeld ?_
      rotate_left
      · intro w hS; (try dsimp only at hS); obtain hS0 := hS; go_simp; first | done | (with_reducible rfl)
      try simp only [Act.put, List.setIfInBounds_toArray, List.set_cons_zero, List.set_cons_succ]
      refine takeH (i := 2) (v := ?_) rfl (by kernel_rfl) (by kernel_rfl) (by kernel_rfl) (fun _ _ _ h => h) rfl ?_ hHeld ?_
      rotate_left
      · intro w hS; (try dsimp only at hS); obtain hS0 := hS; go_simp; first | done | (with_reducible rfl)
      try simp only [Act.put, List.setIfInBounds_toArray, List.set_cons_zero, List.set_cons_succ]
      refine takeH (i := 3) (v := ?_) rfl (by kernel_rfl) (by kernel_rfl) (by kernel_rfl) (fun _ _ _ h => h) rfl ?_ hHeld ?_
      rotate_left
      · intro w hS; (try dsimp only at hS); obtain hS0 := hS; go_simp; first | done | (with_reducible rfl)
      try simp only [Act.put, List.setIfInBounds_toArray, List.set_cons_zero, List.set_cons_succ]
      refine takeH (i := 4) (v := ?_) rfl (by kernel_rfl) (by kernel_rfl) (by kernel_rfl) (fun _ _ _ h => h) rfl ?_ hHeld ?_
      rotate_left
      · intro w hS; (try dsimp only at hS); obtain hS0 := hS; go_simp; first | done | (with_reducible rfl)
      try simp only [Act.put, List.setIfInBounds_toArray, List.set_cons_zero, List.set_cons_succ]
      refine takeH (i := 5) (v := ?_) rfl (by kernel_rfl) (by kernel_rfl) (by kernel_rfl) (fun _ _ _ h => h) rfl ?_ hHeld ?_
      rotate_left
      · intro w hS; (try dsimp only at hS); obtain hS0 := hS; go_simp; first | done | (with_reducible rfl)
      try simp only [Act.put, List.setIfInBounds_toArray, List.set_cons_zero, List.set_cons_succ]
      refine takeH (i := 6) (v := ?_) rfl (by kernel_rfl) (by kernel_rfl) (by kernel_rfl) (fun _ _ _ h => h) rfl ?_ hHeld ?_
      rotate_left
      · intro w hS; (try dsimp only at hS); obtain hS0 := hS; go_simp; first | done | (with_reducible rfl)
      try simp only [Act.put, List.setIfInBounds_toArray, List.set_cons_zero, List.set_cons_succ]
      refine onlyH (i := 7) rfl (by kernel_rfl) rfl (fun K hK => ?_)
      go_simp
      refine HAP.out.mono ?_
      rintro e w6 ⟨rfl, F6, b6, S6, hC6, -, hf6, -, hc6⟩
      have hc6' : Chg (fun k => F k ∨ k = gy ∨ k = ty) wc w6 := ((Chg.refl _ wc).drew).then hc6
      have hJ6 := HJK.out wc w6 _ HC.out.2.2 (fun k hk => (HC.out.2.1 k hk).2) hc6' (HC.out.1.belowC hc6')
      have hO6 := apart_on HC.out.2.1 hf6 hc6'.size
      have hJu := hJ6
      rw [HJD.out] at hJu
      obtain ⟨-, -, hwy, -, hB⟩ := hJu
      have y6 := cell_of (show w6.heap[yb]? = some _ from hwy) 1
      have y0 := cell_of (show w6.heap[yb]? = some _ from hwy) 0
      simp only [List.getElem?_toArray, List.getElem?_cons_zero, List.getElem?_cons_succ] at y6 y0
      have hop := ops_lies hC6.stands.1
      have H6 := hide (And.intro hC6 (And.intro hO6 (And.intro hJ6 hB)))
      clear hO6 hJ6 hc6 hc6' hf6 hwy hB HC HAP
      refine hK.out _ _ (y6) (fun hHeld => ?_)
      clear hK K
      try simp only [Act.put, List.setIfInBounds_toArray, List.set_cons_zero, List.set_cons_succ]
      refine takeH (i := 8) (v := ?_) rfl (by kernel_rfl) (by kernel_rfl) (by kernel_rfl) (fun _ _ _ h => h) rfl ?_ hHeld ?_
      rotate_left
      · intro w hS; (try dsimp only at hS); obtain hS0 := hS; go_simp; first | done | (with_reducible rfl)
      try simp only [Act.put, List.setIfInBounds_toArray, List.set_cons_zero, List.set_cons_succ]
      refine wpAnyH_done (by kernel_rfl) ?_ _
      clear hHeld
      -- Ops
      go_wp2_with fail
      refine hop.mono ?_
      rintro e w7 ⟨rfl, rfl⟩
      have hap := tcommit_calm hC6 nmTab_ok (PsT.nil w7) (by omega) (HT.out.keep H6.out.2.2.2) (by omega) (by have : muchT = 67108864 := rfl; omega)
      have hff := few_fit HRT.out.1 HRT.out.2 ps.length
      rw [List.take_length] at hff
      have hans : ansT (doneA [] ps) [] = 0 := ans_ok (by decide) hff
      have hnxt : nextT (doneA [] ps) [] = doneA [] ps := next_ok hans
      rw [hans, hnxt] at hap
      clear hC6 hop hff hans hnxt
      go_wp2_with fail
      refine hap.mono ?_
      rintro e w8 ⟨rfl, F8, b8, S8, hC8, hS8, hf8, -, hc8⟩
      obtain rfl := hS8 (.inr trivial)
      have hJ8 := HJK.out w7 w8 _ H6.out.2.2.1 (fun k hk => (H6.out.2.1 k hk).2) hc8 (H6.out.1.belowC hc8)
      rw [HJD.out] at hJ8
      obtain ⟨hX8, hwx8, hwy8, -, hB8⟩ := hJ8
      have y0 := cell_of (show w8.heap[yb]? = some _ from hwy8) 0
      have y1 := cell_of (show w8.heap[yb]? = some _ from hwy8) 1
      have x1 := cell_of (show w8.heap[xb]? = some _ from hwx8) 1
      simp only [List.getElem?_toArray, List.getElem?_cons_zero, List.getElem?_cons_succ] at y0 y1 x1
      have hdr : Chg (fun _ => False) w8 w8.drew := (Chg.refl _ w8).drew
      have hlw : ∀ W, Below w8.heap.size w8 W → W.cell? ⟨yb, 0, none⟩ = some (.pointer (some ⟨dy, 0, none⟩)) ∧ W.cell? ⟨xb, 1, none⟩ = some (.pointer (some ⟨tx, 0, none⟩)) ∧ W.cell? ⟨yb, 1, none⟩ = some (.pointer (some ⟨ty, 0, none⟩)) := fun W hW =>
        ⟨(hW.cell (p := ⟨yb, 0, none⟩) (lt_of_heap hwy8)).trans y0, (hW.cell (p := ⟨xb, 1, none⟩) (lt_of_heap hwx8)).trans x1, (hW.cell (p := ⟨yb, 1, none⟩) (lt_of_heap hwy8)).trans y1⟩
      generalize hlp : doneA [] ps = lp at *
      have hEq : ((lp.length : Int) == (lp.length : Int)) = true := by simp
      have hNn : ((S8.n : Int) == (S8.n : Int)) = true := by simp
      have H8 := hide (And.intro (hX8.quiet hdr) (And.intro (hC8.quiet hdr) hB8))
      have HW := hide hlw
      clear hX8 hC8 hwx8 hwy8 hB8 hlw hlp hc8 hf8 hap
      go_wp2_with fail
      refine wp_region_held_drew (S := fun W => W.cell? ⟨yb, 0, none⟩ = some (.pointer (some ⟨dy, 0, none⟩)) ∧ W.cell? ⟨xb, 1, none⟩ = some (.pointer (some ⟨tx, 0, none⟩)) ∧ W.cell? ⟨yb, 1, none⟩ = some (.pointer (some ⟨ty, 0, none⟩))) (by kernel_rfl) (⟨y0, x1, y1⟩) (fun hHeld => ?_)
      refine takeH (i := 0) (v := ?_) rfl (by kernel_rfl) (by kernel_rfl) (by kernel_rfl) (fun _ _ _ h => h) rfl ?_ hHeld ?_
      rotate_left
      · intro w hS; (try dsimp only at hS); obtain ⟨hS0, hS1, hS2⟩ := hS; go_simp; first | done | (with_reducible rfl)
      try simp only [Act.put, List.setIfInBounds_toArray, List.set_cons_zero, List.set_cons_succ]
      refine takeH (i := 1) (v := ?_) rfl (by kernel_rfl) (by kernel_rfl) (by kernel_rfl) (fun _ _ _ h => h) rfl ?_ hHeld ?_
      rotate_left
      · intro w hS; (try dsimp only at hS); obtain ⟨hS0, hS1, hS2⟩ := hS; go_simp; first | done | (with_reducible rfl)
      try simp only [Act.put, List.setIfInBounds_toArray, List.set_cons_zero, List.set_cons_succ]
      refine takeH (i := 2) (v := ?_) rfl (by kernel_rfl) (by kernel_rfl) (by kernel_rfl) (fun _ _ _ h => h) rfl ?_ hHeld ?_
      rotate_left
      · intro w hS; (try dsimp only at hS); obtain ⟨hS0, hS1, hS2⟩ := hS; go_simp; first | done | (with_reducible rfl)
      try simp only [Act.put, List.setIfInBounds_toArray, List.set_cons_zero, List.set_cons_succ]
      refine takeH (i := 3) (v := ?_) rfl (by kernel_rfl) (by kernel_rfl) (by kernel_rfl) (fun _ _ _ h => h) rfl ?_ hHeld ?_
      rotate_left
      · intro w hS; (try dsimp only at hS); obtain ⟨hS0, hS1, hS2⟩ := hS; go_simp; first | done | (with_reducible rfl)
      try simp only [Act.put, List.setIfInBounds_toArray, List.set_cons_zero, List.set_cons_succ]
      refine takeH (i := 4) (v := ?_) rfl (by kernel_rfl) (by kernel_rfl) (by kernel_rfl) (fun _ _ _ h => h) rfl ?_ hHeld ?_
      rotate_left
      · intro w hS; (try dsimp only at hS); obtain ⟨hS0, hS1, hS2⟩ := hS; go_simp; first | done | (with_reducible rfl)
      try simp only [Act.put, List.setIfInBounds_toArray, List.set_cons_zero, List.set_cons_succ]
      refine takeH (i := 5) (v := ?_) rfl (by kernel_rfl) (by kernel_rfl) (by kernel_rfl) (fun _ _ _ h => h) rfl ?_ hHeld ?_
      rotate_left
      · intro w hS; (try dsimp only at hS); obtain ⟨hS0, hS1, hS2⟩ := hS; go_simp; first | done | (with_reducible rfl)
      try simp only [Act.put, List.setIfInBounds_toArray, List.set_cons_zero, List.set_cons_succ]
      refine takeH (i := 6) (v := ?_) rfl (by kernel_rfl) (by kernel_rfl) (by kernel_rfl) (fun _ _ _ h => h) rfl ?_ hHeld ?_
      rotate_left
      · intro w hS; (try dsimp only at hS); obtain ⟨hS0, hS1, hS2⟩ := hS; go_simp; first | done | (with_reducible rfl)
      try simp only [Act.put, List.setIfInBounds_toArray, List.set_cons_zero, List.set_cons_succ]
      refine takeH (i := 7) (v := ?_) rfl (by kernel_rfl) (by kernel_rfl) (by kernel_rfl) (fun _ _ _ h => h) rfl ?_ hHeld ?_
      rotate_left
      · intro w hS; (try dsimp only at hS); obtain ⟨hS0, hS1, hS2⟩ := hS; go_simp; first | done | (with_reducible rfl)
      try simp only [Act.put, List.setIfInBounds_toArray, List.set_cons_zero, List.set_cons_succ]
      refine takeH (i := 8) (v := ?_) rfl (by kernel_rfl) (by kernel_rfl) (by kernel_rfl) (fun _ _ _ h => h) rfl ?_ hHeld ?_
      rotate_left
      · intro w hS; (try dsimp only at hS); obtain ⟨hS0, hS1, hS2⟩ := hS; go_simp; first | done | (with_reducible rfl)
      try simp only [Act.put, List.setIfInBounds_toArray, List.set_cons_zero, List.set_cons_succ]
      refine takeH (i := 9) (v := ?_) rfl (by kernel_rfl) (by kernel_rfl) (by kernel_rfl) (fun _ _ _ h => h) rfl ?_ hHeld ?_
      rotate_left
      · intro w hS; (try dsimp only at hS); obtain ⟨hS0, hS1, hS2⟩ := hS; go_simp; first | done | (with_reducible rfl)
      try simp only [Act.put, List.setIfInBounds_toArray, List.set_cons_zero, List.set_cons_succ]
      refine takeH (i := 10) (v := ?_) rfl (by kernel_rfl) (by kernel_rfl) (by kernel_rfl) (fun _ _ _ h => h) rfl ?_ hHeld ?_
      rotate_left
      · intro w hS; (try dsimp only at hS); obtain ⟨hS0, hS1, hS2⟩ := hS; go_simp; first | done | (with_reducible rfl)
      try simp only [Act.put, List.setIfInBounds_toArray, List.set_cons_zero, List.set_cons_succ]
      refine takeH (i := 12) (v := ?_) rfl (by kernel_rfl) (by kernel_rfl) (by kernel_rfl) (fun _ _ _ h => h) rfl ?_ hHeld ?_
      rotate_left
      · intro w hS; (try dsimp only at hS); obtain ⟨hS0, hS1, hS2⟩ := hS; go_simp; first | done | (with_reducible rfl)
      try simp only [Act.put, List.setIfInBounds_toArray, List.set_cons_zero, List.set_cons_succ]
      refine onlyH (i := 11) rfl (by kernel_rfl) rfl (fun K hK => ?_)
      go_simp
      refine (ops_lies H8.out.2.1.stands.1).mono ?_
      rintro e w9 ⟨rfl, rfl⟩
      refine hK.out _ _ ((HW.out _ (Below.refl _ _).drew)) (fun hHeld => ?_)
      clear hK K
      try simp only [Act.put, List.setIfInBounds_toArray, List.set_cons_zero, List.set_cons_succ]
      refine takeH (i := 13) (v := ?_) rfl (by kernel_rfl) (by kernel_rfl) (by kernel_rfl) (fun _ _ _ h => h) rfl ?_ hHeld ?_
      rotate_left
      · intro w hS; (try dsimp only at hS); obtain ⟨hS0, hS1, hS2⟩ := hS; go_simp; first | done | (with_reducible rfl)
      try simp only [Act.put, List.setIfInBounds_toArray, List.set_cons_zero, List.set_cons_succ]
      refine takeH (i := 14) (v := ?_) rfl (by kernel_rfl) (by kernel_rfl) (by kernel_rfl) (fun _ _ _ h => h) rfl ?_ hHeld ?_
      rotate_left
      · intro w hS; (try dsimp only at hS); obtain ⟨hS0, hS1, hS2⟩ := hS; go_simp; first | done | (with_reducible rfl)
      try simp only [Act.put, List.setIfInBounds_toArray, List.set_cons_zero, List.set_cons_succ]
      refine takeH (i := 15) (v := ?_) rfl (by kernel_rfl) (by kernel_rfl) (by kernel_rfl) (fun _ _ _ h => h) rfl ?_ hHeld ?_
      rotate_left
      · intro w hS; (try dsimp only at hS); obtain ⟨hS0, hS1, hS2⟩ := hS; go_simp; first | done | (with_reducible rfl)
      try simp only [Act.put, List.setIfInBounds_toArray, List.set_cons_zero, List.set_cons_succ]
      refine takeH (i := 16) (v := ?_) rfl (by kernel_rfl) (by kernel_rfl) (by kernel_rfl) (fun _ _ _ h => h) rfl ?_ hHeld ?_
      rotate_left
      · intro w hS; (try dsimp only at hS); obtain ⟨hS0, hS1, hS2⟩ := hS; go_simp; first | done | (with_reducible rfl)
      try simp only [Act.put, List.setIfInBounds_toArray, List.set_cons_zero, List.set_cons_succ]
      refine takeH (i := 17) (v := ?_) rfl (by kernel_rfl) (by kernel_rfl) (by kernel_rfl) (fun _ _ _ h => h) rfl ?_ hHeld ?_
      rotate_left
      · intro w hS; (try dsimp only at hS); obtain ⟨hS0, hS1, hS2⟩ := hS; go_simp; first | done | (with_reducible rfl)
      try simp only [Act.put, List.setIfInBounds_toArray, List.set_cons_zero, List.set_cons_succ]
      refine takeH (i := 18) (v := ?_) rfl (by kernel_rfl) (by kernel_rfl) (by kernel_rfl) (fun _ _ _ h => h) rfl ?_ hHeld ?_
      rotate_left
      · intro w hS; (try dsimp only at hS); obtain ⟨hS0, hS1, hS2⟩ := hS; go_simp; first | done | (with_reducible rfl)
      try simp only [Act.put, List.setIfInBounds_toArray, List.set_cons_zero, List.set_cons_succ]
      refine takeH (i := 19) (v := ?_) rfl (by kernel_rfl) (by kernel_rfl) (by kernel_rfl) (fun _ _ _ h => h) rfl ?_ hHeld ?_
      rotate_left
      · intro w hS; (try dsimp only at hS); obtain ⟨hS0, hS1, hS2⟩ := hS; go_simp; first | done | (with_reducible rfl)
      try simp only [Act.put, List.setIfInBounds_toArray, List.set_cons_zero, List.set_cons_succ]
      refine takeH (i := 21) (v := ?_) rfl (by kernel_rfl) (by kernel_rfl) (by kernel_rfl) (fun _ _ _ h => h) rfl ?_ hHeld ?_
      rotate_left
      · intro w hS; (try dsimp only at hS); obtain ⟨hS0, hS1, hS2⟩ := hS; go_simp; first | done | (with_reducible rfl)
      try simp only [Act.put, List.setIfInBounds_toArray, List.set_cons_zero, List.set_cons_succ]
      refine takeH (i := 22) (v := ?_) rfl (by kernel_rfl) (by kernel_rfl) (by kernel_rfl) (fun _ _ _ h => h) rfl ?_ hHeld ?_
      rotate_left
      · intro w hS; (try dsimp only at hS); obtain ⟨hS0, hS1, hS2⟩ := hS; go_simp; first | done | (with_reducible rfl)
      try simp only [Act.put, List.setIfInBounds_toArray, List.set_cons_zero, List.set_cons_succ]
      refine takeH (i := 23) (v := ?_) rfl (by kernel_rfl) (by kernel_rfl) (by kernel_rfl) (fun _ _ _ h => h) rfl ?_ hHeld ?_
      rotate_left
      · intro w hS; (try dsimp only at hS); obtain ⟨hS0, hS1, hS2⟩ := hS; go_simp; first | done | (with_reducible rfl)
      try simp only [Act.put, List.setIfInBounds_toArray, List.set_cons_zero, List.set_cons_succ]
      refine takeH (i := 24) (v := ?_) rfl (by kernel_rfl) (by kernel_rfl) (by kernel_rfl) (fun _ _ _ h => h) rfl ?_ hHeld ?_
      rotate_left
      · intro w hS; (try dsimp only at hS); obtain ⟨hS0, hS1, hS2⟩ := hS; go_simp; first | done | (with_reducible rfl)
      try simp only [Act.put, List.setIfInBounds_toArray, List.set_cons_zero, List.set_cons_succ]
      refine onlyH (i := 20) rfl (by kernel_rfl) rfl (fun K hK => ?_)
      go_simp
      have hal := tall_calm H8.out.1 [] (by decide)
      rw [filter_nil] at hal
      refine hal.mono ?_
      rintro e w9 ⟨v9, rfl, hp9, hb9⟩
      have hb89 : Below w8.heap.size w8 w9 := (Below.refl _ _).drew.trans hb9
      obtain ⟨o9, c9, rfl⟩ := hp9.form
      have hal2 := tall_calm (H8.out.2.1.quiet (quietB hb9)) [] (by decide)
      rw [filter_nil] at hal2
      have H9 := hide (And.intro hp9 hb89)
      clear hal hp9
      refine hK.out _ _ ((HW.out _ H9.out.2)) (fun hHeld => ?_)
      clear hK K
      try simp only [Act.put, List.setIfInBounds_toArray, List.set_cons_zero, List.set_cons_succ]
      refine onlyH (i := 25) rfl (by kernel_rfl) rfl (fun K hK => ?_)
      go_simp
      refine hal2.mono ?_
      rintro e w10 ⟨v10, rfl, hp10, hb10⟩
      have hb810 := H9.out.2.trans (hb10.mono H9.out.2.size)
      obtain ⟨o10, c10, rfl⟩ := hp10.form
      have hsm := rsame_any w10 lp lp _ _ (H9.out.1.keepB (B := 0) hb10 (Nat.le_refl _)) hp10
      rw [decide_eq_true rfl] at hsm
      have H10 := hide hb810
      clear hal2 hp10 hb810
      refine hK.out _ _ ((HW.out _ H10.out)) (fun hHeld => ?_)
      clear hK K
      try simp only [Act.put, List.setIfInBounds_toArray, List.set_cons_zero, List.set_cons_succ]
      refine onlyH (i := 26) rfl (by kernel_rfl) rfl (fun K hK => ?_)
      go_simp
      refine hsm.mono ?_
      rintro e w11 ⟨rfl, q11⟩
      have hb811 : Below w8.heap.size w8 w11 := H10.out.trans (q11.below (fun _ h => h.elim) H10.out.size)
      have hX11 := H8.out.1.quiet (show Chg (fun _ => False) w8.drew w11 from ⟨hb811.os, hb811.tape, hb811.output, hb811.size, fun k hk _ => hb811.block k hk⟩)
      have hY11 := H8.out.2.1.quiet (show Chg (fun _ => False) w8.drew w11 from ⟨hb811.os, hb811.tape, hb811.output, hb811.size, fun k hk _ => hb811.block k hk⟩)
      have H11 := hide (And.intro hb811 (And.intro hX11 hY11))
      clear hsm hb811 hX11 hY11 q11
      refine hK.out _ _ ((HW.out _ H11.out.1)) (fun hHeld => ?_)
      clear hK K
      try simp only [Act.put, List.setIfInBounds_toArray, List.set_cons_zero, List.set_cons_succ]
      refine takeH (i := 27) (v := ?_) rfl (by kernel_rfl) (by kernel_rfl) (by kernel_rfl) (fun _ _ _ h => h) rfl ?_ hHeld ?_
      rotate_left
      · intro w hS; (try dsimp only at hS); obtain ⟨hS0, hS1, hS2⟩ := hS; go_simp; first | done | (with_reducible rfl)
      try simp only [Act.put, List.setIfInBounds_toArray, List.set_cons_zero, List.set_cons_succ]
      refine takeH (i := 28) (v := ?_) rfl (by kernel_rfl) (by kernel_rfl) (by kernel_rfl) (fun _ _ _ h => h) rfl ?_ hHeld ?_
      rotate_left
      · intro w hS; (try dsimp only at hS); obtain ⟨hS0, hS1, hS2⟩ := hS; go_simp; first | done | (with_reducible rfl)
      try simp only [Act.put, List.setIfInBounds_toArray, List.set_cons_zero, List.set_cons_succ]
      refine takeH (i := 29) (v := ?_) rfl (by kernel_rfl) (by kernel_rfl) (by kernel_rfl) (fun _ _ _ h => h) rfl ?_ hHeld ?_
      rotate_left
      · intro w hS; (try dsimp only at hS); obtain ⟨hS0, hS1, hS2⟩ := hS; go_simp; first | done | (with_reducible rfl)
      try simp only [Act.put, List.setIfInBounds_toArray, List.set_cons_zero, List.set_cons_succ]
      refine takeH (i := 30) (v := ?_) rfl (by kernel_rfl) (by kernel_rfl) (by kernel_rfl) (fun _ _ _ h => h) rfl ?_ hHeld ?_
      rotate_left
      · intro w hS; (try dsimp only at hS); obtain ⟨hS0, hS1, hS2⟩ := hS; go_simp; first | done | (with_reducible rfl)
      try simp only [Act.put, List.setIfInBounds_toArray, List.set_cons_zero, List.set_cons_succ]
      refine takeH (i := 31) (v := ?_) rfl (by kernel_rfl) (by kernel_rfl) (by kernel_rfl) (fun _ _ _ h => h) rfl ?_ hHeld ?_
      rotate_left
      · intro w hS; (try dsimp only at hS); obtain ⟨hS0, hS1, hS2⟩ := hS; go_simp; first | done | (with_reducible rfl)
      try simp only [Act.put, List.setIfInBounds_toArray, List.set_cons_zero, List.set_cons_succ]
      refine takeH (i := 32) (v := ?_) rfl (by kernel_rfl) (by kernel_rfl) (by kernel_rfl) (fun _ _ _ h => h) rfl ?_ hHeld ?_
      rotate_left
      · intro w hS; (try dsimp only at hS); obtain ⟨hS0, hS1, hS2⟩ := hS; go_simp; first | done | (with_reducible rfl)
      try simp only [Act.put, List.setIfInBounds_toArray, List.set_cons_zero, List.set_cons_succ]
      refine takeH (i := 34) (v := ?_) rfl (by kernel_rfl) (by kernel_rfl) (by kernel_rfl) (fun _ _ _ h => h) rfl ?_ hHeld ?_
      rotate_left
      · intro w hS; (try dsimp only at hS); obtain ⟨hS0, hS1, hS2⟩ := hS; go_simp; first | done | (with_reducible rfl)
      try simp only [Act.put, List.setIfInBounds_toArray, List.set_cons_zero, List.set_cons_succ]
      refine takeH (i := 35) (v := ?_) rfl (by kernel_rfl) (by kernel_rfl) (by kernel_rfl) (fun _ _ _ h => h) rfl ?_ hHeld ?_
      rotate_left
      · intro w hS; (try dsimp only at hS); obtain ⟨hS0, hS1, hS2⟩ := hS; go_simp; first | done | (with_reducible rfl)
      try simp only [Act.put, List.setIfInBounds_toArray, List.set_cons_zero, List.set_cons_succ]
      refine takeH (i := 36) (v := ?_) rfl (by kernel_rfl) (by kernel_rfl) (by kernel_rfl) (fun _ _ _ h => h) rfl ?_ hHeld ?_
      rotate_left
      · intro w hS; (try dsimp only at hS); obtain ⟨hS0, hS1, hS2⟩ := hS; go_simp; first | done | (with_reducible rfl)
      try simp only [Act.put, List.setIfInBounds_toArray, List.set_cons_zero, List.set_cons_succ]
      refine takeH (i := 37) (v := ?_) rfl (by kernel_rfl) (by kernel_rfl) (by kernel_rfl) (fun _ _ _ h => h) rfl ?_ hHeld ?_
      rotate_left
      · intro w hS; (try dsimp only at hS); obtain ⟨hS0, hS1, hS2⟩ := hS; go_simp; first | done | (with_reducible rfl)
      try simp only [Act.put, List.setIfInBounds_toArray, List.set_cons_zero, List.set_cons_succ]
      refine onlyH (i := 33) rfl (by kernel_rfl) rfl (fun K hK => ?_)
      go_simp
      refine (tlen_calm H11.out.2.1).mono ?_
      rintro e w12 ⟨rfl, rfl⟩
      refine hK.out _ _ ((HW.out _ H11.out.1)) (fun hHeld => ?_)
      clear hK K
      try simp only [Act.put, List.setIfInBounds_toArray, List.set_cons_zero, List.set_cons_succ]
      refine onlyH (i := 38) rfl (by kernel_rfl) rfl (fun K hK => ?_)
      go_simp
      refine (tlen_calm H11.out.2.2).mono ?_
      rintro e w12 ⟨rfl, rfl⟩
      refine hK.out _ _ ((HW.out _ H11.out.1)) (fun hHeld => ?_)
      clear hK K
      try simp only [Act.put, List.setIfInBounds_toArray, List.set_cons_zero, List.set_cons_succ]
      refine takeH (i := 39) (v := ?_) rfl (by kernel_rfl) (by kernel_rfl) (by kernel_rfl) (fun _ _ _ h => h) rfl ?_ hHeld ?_
      rotate_left
      · intro w hS; (try dsimp only at hS); obtain ⟨hS0, hS1, hS2⟩ := hS; go_simp; first | done | (with_reducible rfl)
      try simp only [Act.put, List.setIfInBounds_toArray, List.set_cons_zero, List.set_cons_succ]
      refine takeH (i := 40) (v := ?_) rfl (by kernel_rfl) (by kernel_rfl) (by kernel_rfl) (fun _ _ _ h => h) rfl ?_ hHeld ?_
      rotate_left
      · intro w hS; (try dsimp only at hS); obtain ⟨hS0, hS1, hS2⟩ := hS; go_simp; first | done | (with_reducible rfl)
      try simp only [Act.put, List.setIfInBounds_toArray, List.set_cons_zero, List.set_cons_succ]
      refine takeH (i := 41) (v := ?_) rfl (by kernel_rfl) (by kernel_rfl) (by kernel_rfl) (fun _ _ _ h => h) rfl ?_ hHeld ?_
      rotate_left
      · intro w hS; (try dsimp only at hS); obtain ⟨hS0, hS1, hS2⟩ := hS; go_simp; first | done | (with_reducible rfl)
      try simp only [Act.put, List.setIfInBounds_toArray, List.set_cons_zero, List.set_cons_succ]
      refine wpAnyH_done (by kernel_rfl) ?_ _
      clear hHeld
      go_wp2
      go_ret
      exact ⟨rfl, H8.out.2.2.trans (H11.out.1.mono H8.out.2.2.size)⟩
end Go.Proofs.YtblniomnhpedjaaGreatDoor
