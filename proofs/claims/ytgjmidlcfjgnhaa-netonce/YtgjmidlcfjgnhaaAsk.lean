/-
  Ask, whoever serves. Conditions: who serves keeps its word; frames within reach, not empty; not too many wait.
-/
import Derived.Test.YtgjmidlcfjgnhaaNet
namespace Go.Proofs.Ytgjmidlcfjgnhaa
open Go.RowKit

/-- Who serves: what it answers, and what becomes of what it knows. -/
structure Serves {σ : Type} (B : Nat) (g : Nat) (caps : Array Value) (step : σ → Bs → Bs × σ) (ok : Bs → Prop) (Sv : World → (Nat → Prop) → Nat → σ → Prop) : Prop where
  eg : ∀ args w, (callFunc g args).run Try.prog w = .ok (.enter g args) w
  frame : ∀ s, ok s → Fr s
  turn : ∀ f s, ok s → ok (turnP f s)
  keep : ∀ (w w' : World) (F H : Nat → Prop) m st, Sv w H m st → Chg F w w' → (∀ k, H k → ¬ F k) → (∀ k, F k → B ≤ k) → Sv w' H m st
  lt : ∀ w H m st, Sv w H m st → ∀ k, H k → k < w.heap.size
  call : ∀ w H m st s, Sv w H (m + 1) st → ok s → Calls Try.prog g (#[.string (strB s)] ++ caps) w fun e w' => e = .returned (.string (strB (step st s).1)) ∧ ∃ H', Sv w' H' m (step st s).2 ∧ Chg H w w' ∧ ∀ k, H' k → H k ∨ w.heap.size ≤ k
  short : ∀ st s, ok s → (step st s).1.length ≤ 140737488355328

theorem eql_nilF (W : World) (gf : Nat) (caps : Array Value) : (binOp .eql 25 (.func (.func gf) #[] caps) .nilFunc).run Try.prog W = .ok (.bool false) W := by
  have h : (Op.equal 25 (.func (.func gf) #[] caps) .nilFunc).run Try.prog W = .ok false W := by
    show (Op.equalIn (9999 + 1) 25 _ _).run Try.prog W = _
    unfold Op.equalIn
    simp [run_underlying Try.underlying25, Result.andThen]
  simp only [binOp, Sem.run_bind, h, Result.andThen, Sem.run_pure]
/-- One frame more was sent. -/
theorem NetW.sends {w : World} {n : Nat} {sv : Value} {x : Nt} {G : Gn} {ok : Bs → Prop} (h : NetW w n sv x G ok) : NetW (w.setCell ⟨n, 4, none⟩ (.int .i64 ((x.sent : Int) + 1))) n sv { x with sent := x.sent + 1 } G ok := by
  have hc := chg_set w n 4 (.int .i64 ((x.sent : Int) + 1))
  refine ⟨?_, h.fs.keep hc (fun g hg => ?_), fun g hg => ?_, h.int, hc.keep h.tf1 (ne_type h.tf1 h.net (by decide)), hc.keep h.tf2 (ne_type h.tf2 h.net (by decide)), hc.keep h.bx1 (ne_type h.bx1 h.net (by decide)), hc.keep h.bx2 (ne_type h.bx2 h.net (by decide)), h.ow1.keep hc (fun k hk => ?_), h.ow2.keep hc (fun k hk => ?_), h.ne, h.nr, h.ok1⟩
  · exact heap_set h.net 4 (.int .i64 ((x.sent : Int) + 1))
  · obtain ⟨c, fr, hh⟩ := h.ft g hg
    exact ne_type hh h.net (by decide)
  · obtain ⟨c, fr, hh⟩ := h.ft g hg
    exact ⟨c, fr, hc.keep hh (ne_type hh h.net (by decide))⟩
  · obtain ⟨c, fr, hh⟩ := own_kind h.ow1 hk
    exact ne_type hh h.net (by decide)
  · obtain ⟨c, fr, hh⟩ := own_kind h.ow2 hk
    exact ne_type hh h.net (by decide)

/-- Ask, behind some frames. -/
structure AskAt {σ : Type} (w wr : World) (n : Nat) (sv : Value) (G : Gn) (H : Nat → Prop) (ok : Bs → Prop) (Sv : World → (Nat → Prop) → Nat → σ → Prop) (y : Sg σ) (th : List Bs) (sent m : Nat) (a v : Value) (cs : List Bs) (Gj : Gn) (Hj : Nat → Prop) : Prop where
  out : Own wr w.heap.size a y.out
  net : NetW wr n sv ⟨y.fs, th, y.bk, sent⟩ Gj ok
  srv : Sv wr Hj m y.st
  gh : ∀ k, Gj.has n k → ¬ Hj k
  gg : ∀ k, Gj.has n k → G.has n k ∨ w.heap.size ≤ k
  hh : ∀ k, Hj k → H k ∨ w.heap.size ≤ k
  ag : ∀ k, a.ownBlock = some k → ¬ Gj.has n k ∧ ¬ Hj k
  come : Own wr w.heap.size v cs
  vg : ∀ k, v.ownBlock = some k → ¬ Gj.has n k ∧ ¬ Hj k ∧ a.ownBlock ≠ some k
  chg : Chg (fun k => G.has n k ∨ H k) w wr

set_option maxRecDepth 20000 in
set_option maxHeartbeats 2000000 in
theorem ask_any {σ : Type} {B g : Nat} {caps : Array Value} {step : σ → Bs → Bs × σ} {ok : Bs → Prop} {Sv : World → (Nat → Prop) → Nat → σ → Prop} (hS : Serves B g caps step ok Sv) (w : World) (n : Nat) (x : Nt) (G : Gn) (H : Nat → Prop) (m : Nat) (st : σ) (s : Bs)
    (hN : NetW w n (.func (.func g) #[] caps) x G ok) (hV : Sv w H m st) (hd : ∀ k, G.has n k → ¬ H k) (hB : B ≤ w.heap.size) (hGB : ∀ k, G.has n k → B ≤ k) (hs : ok s) (hm : (x.come s).length ≤ m) (hth : x.th.length ≤ 1000000) (hbk : x.bk.length ≤ 1000000) (hsent : x.sent ≤ 1000000) (hco : (x.come s).length ≤ 1000) :
    Calls Try.prog 11 #[.pointer (some ⟨n, 0, none⟩), .string (strB s)] w fun e w' => ∃ v G' H', e = .returned v ∧ Own w' w.heap.size v (x.served step st s).out ∧ NetW w' n (.func (.func g) #[] caps) (x.ask step st s) G' ok ∧ Sv w' H' (m - (x.come s).length) (x.served step st s).st ∧
      (∀ k, G'.has n k → ¬ H' k) ∧ (∀ k, G'.has n k → G.has n k ∨ w.heap.size ≤ k) ∧ (∀ k, H' k → H k ∨ w.heap.size ≤ k) ∧ (∀ k, v.ownBlock = some k → ¬ G'.has n k ∧ ¬ H' k) ∧ Chg (fun k => G.has n k ∨ H k) w w' := by
  have eg := hS.eg
  have hn := hN.net
  have hall : ∀ c ∈ x.come s, ok c := (goP_all hS.turn hs hN.ok1).1
  have c0 := cell_of hn 0
  have c4 := cell_of hn 4
  have t4 := thawed hn 4
  simp only [List.getElem?_toArray, List.getElem?_cons_zero, List.getElem?_cons_succ] at c0 c4
  have hse : (s == []) = false := str_ne (hS.frame s hs).1
  have tl := toL s
  have hq := eql_nilF
  have hsz := strB_size s
  have hwr : (x.sent : Int) + 1 ≤ 9223372036854775807 := by omega
  have hN0 := hN.sends
  have hV0 := hS.keep _ _ _ _ _ _ hV (chg_set w n 4 (.int .i64 ((x.sent : Int) + 1))) (fun k hk e => hd n (.inl rfl) (e ▸ hk)) (fun k e => e ▸ hGB n (.inl rfl))
  have k0 : Chg (fun k => G.has n k ∨ H k) w (w.setCell ⟨n, 4, none⟩ (.int .i64 ((x.sent : Int) + 1))) := (chg_set w n 4 _).mono (fun k _ e => .inl (.inl e))
  have hs0 : (w.setCell ⟨n, 4, none⟩ (.int .i64 ((x.sent : Int) + 1))).heap.size = w.heap.size := by simp [World.setCell]
  have c1 := cell_of hN0.net 1
  simp only [List.getElem?_toArray, List.getElem?_cons_zero, List.getElem?_cons_succ] at c1
  have hgo := hN0.goes hS.frame hS.turn s hs (show x.th.length ≤ _ by omega)
  have HN := hide hN0
  have HV := hide hV0
  have HK := hide k0
  have HZ := hide hs0
  clear hN0 hV0 k0 hs0 hn
  go_enter Try.func11, Try.ntmps11
  unfold wayV at *
  go_wp2_with fail
  refine hgo.mono ?_
  rintro e w1 ⟨v, G1, rfl, hov, hN1, hg1, hv1, k1⟩
  rw [HZ.out] at hov hg1
  have hV1 := hS.keep _ _ _ _ _ _ HV.out k1 (fun k hk hG => hd k hG hk) hGB
  have kk1 : Chg (fun k => G.has n k ∨ H k) w w1 := HK.out.then (k1.mono fun _ _ h => .inl h)
  have hlt := hS.lt _ _ _ _ hV
  have hL1 := serveL_few step
  have hcl : ∀ k, v.ownBlock = some k → ¬ G1.has n k ∧ ¬ H k ∧ (Value.slice none 0 0).ownBlock ≠ some k := fun k hk => ⟨hv1 k hk, fun h => by have := hlt k h; have := (own_lt hov hk).1; omega, fun h => by cases h⟩
  have hgh1 : ∀ k, G1.has n k → ¬ H k := fun k hk h => by
    rcases hg1 k hk with h1 | h1
    · exact hd k h1 h
    · have := hlt k h; omega
  have A0 : AskAt w w1 n (.func (.func g) #[] caps) G H ok Sv (serveL step ((x.come s).take 0) ⟨[], (goP x.fs x.th s).2.1, x.bk, st⟩) (goP x.fs x.th s).2.2 (x.sent + 1) (m - 0) (.slice none 0 0) v (x.come s) G1 H :=
    ⟨Own.nil _ _, hN1, hV1, hgh1, hg1, (fun k hk => .inl hk), (fun k hk => by cases hk), hov, hcl, kk1⟩
  obtain ⟨cs, hcs⟩ : ∃ cs, cs = x.come s := ⟨_, rfl⟩
  obtain ⟨y0, hy0⟩ : ∃ y0 : Sg σ, y0 = ⟨[], (goP x.fs x.th s).2.1, x.bk, st⟩ := ⟨_, rfl⟩
  obtain ⟨th', hth'⟩ : ∃ th' : List Bs, th' = (goP x.fs x.th s).2.2 := ⟨_, rfl⟩
  have hov' : Own w1 w.heap.size v cs := by rw [hcs]; exact hov
  rw [← hcs, ← hy0, ← hth'] at A0
  rw [← hcs] at hm hco hall
  have hyb : y0.bk.length ≤ 1000000 ∧ y0.out.length = 0 := by rw [hy0]; exact ⟨hbk, rfl⟩
  have HE := hide (show x.served step st s = serveL step cs y0 ∧ x.ask step st s = ⟨(serveL step cs y0).fs, th', (serveL step cs y0).bk, x.sent + 1⟩ ∧ (x.come s).length = cs.length from by
    rw [hcs, hy0, hth']
    exact ⟨rfl, rfl, rfl⟩)
  have HA := hide A0
  clear hov hcs hy0 hth' A0 hgo hN1 hV1 hg1 hv1 k1 kk1 hcl hgh1 c0 c1 c4 t4 tl hse hsz hwr HN HV HK HZ hN hV hd
  obtain ⟨av, cv, hvs⟩ := own_shape hov'
  subst hvs
  go_wp2_with fail
  go_loopw [5, 36] (fun a i wr => ∃ (j : Nat) (Gj : Gn) (Hj : Nat → Prop), i = .int .i64 (j : Int) ∧ j ≤ cs.length ∧ AskAt w wr n (.func (.func g) #[] caps) G H ok Sv (serveL step (cs.take j) y0) th' (x.sent + 1) (m - j) a (.slice av cs.length cv) cs Gj Hj)
    (fun _ i _ => cs.length - (intOf i).toNat)
  case atStart => exact ⟨0, G1, H, rfl, by omega, HA.out⟩
  case round =>
    obtain ⟨j, Gj, Hj, rfl, hj, A⟩ := hrel
    by_cases hlt2 : j < cs.length
    · obtain ⟨ao', cap', e, -, -, hc⟩ := A.come.ts
      injection e with e1 _ e3
      obtain ⟨b, off, hao, hbl, hcell⟩ := hc (by rintro rfl; simp at hlt2)
      rw [hao] at e1
      have cc := hcell j hlt2
      have hokc := hall cs[j] (List.getElem_mem hlt2)
      have HT := hide (serveL_take (step := step) (x := y0) hlt2)
      have hfew := serveL_few step (cs.take j) y0
      rw [List.length_take, Nat.min_eq_left (by omega), hyb.2] at hfew
      have hbj : (serveL step (cs.take j) y0).bk.length ≤ 1001000 := by omega
      have hoj : (serveL step (cs.take j) y0).out.length ≤ 4000000000 := by
        have : j * (y0.bk.length + j + 2) ≤ 1000 * 1001002 := Nat.mul_le_mul (by omega) (by omega)
        omega
      clear hc hcell e3 hao hfew
      subst e1
      generalize serveL step (cs.take j) y0 = y at *
      generalize cs[j] = c at *
      obtain ⟨m', hm'⟩ : ∃ m', m - j = m' + 1 := ⟨m - j - 1, by omega⟩
      have hsrv := A.srv
      rw [hm'] at hsrv
      have hm2 : m - (j + 1) = m' := by omega
      have hcall := hS.call wr Hj m' y.st c hsrv hokc
      have hshort := hS.short y.st c hokc
      have HSS := hide (show (step y.st c).1 = [] → stepS step y c = ⟨y.out, y.fs, y.bk, (step y.st c).2⟩ from stepS_none)
      have HSN := hide (show (step y.st c).1 ≠ [] → stepS step y c = ⟨y.out ++ (goP y.fs y.bk (step y.st c).1).1, (goP y.fs y.bk (step y.st c).1).2.1, (goP y.fs y.bk (step y.st c).1).2.2, (step y.st c).2⟩ from stepS_some)
      obtain ⟨an, hra⟩ : ∃ an, an = (step y.st c).1 := ⟨_, rfl⟩
      obtain ⟨st2, hst2⟩ : ∃ st2, st2 = (step y.st c).2 := ⟨_, rfl⟩
      rw [← hra, ← hst2] at hcall HSS HSN
      rw [← hra] at hshort
      clear hra hst2
      have n0 := cell_of A.net.net 0
      simp only [List.getElem?_toArray, List.getElem?_cons_zero] at n0
      have HA := hide A
      have HM := hide (And.intro hm' hm2)
      have hbl2 := hbl
      clear A hsrv hm' hm2 HE hbl
      go_wp2_with fail
      refine hcall.mono ?_
      rintro e w2 ⟨rfl, H2, hV2, k2, hH2⟩
      have hltH := hS.lt _ _ _ _ HA.out.srv
      have hsz2 := k2.size
      have hN2 := HA.out.net.keep k2 (fun k hk h => HA.out.gh k hk h)
      have ho2 := HA.out.out.keep k2 (fun k hk h => (HA.out.ag k hk).2 h)
      have hc2 := HA.out.come.keep k2 (fun k hk h => (HA.out.vg k hk).2.1 h)
      have hwr : w.heap.size ≤ wr.heap.size := HA.out.chg.size
      have kk2 : Chg (fun k => G.has n k ∨ H k) w w2 := HA.out.chg.trans k2 (fun i hi h => by
        rcases HA.out.hh i h with h1 | h1
        · exact .inr h1
        · omega)
      have hh2 : ∀ k, H2 k → H k ∨ w.heap.size ≤ k := fun k hk => by
        rcases hH2 k hk with h1 | h1
        · exact HA.out.hh k h1
        · exact .inr (by omega)
      have hgh2 : ∀ k, Gj.has n k → ¬ H2 k := fun k hk h => by
        rcases hH2 k h with h1 | h1
        · exact HA.out.gh k hk h1
        · have := HA.out.net.lt hk; omega
      have hag2 : ∀ k, u5.ownBlock = some k → ¬ Gj.has n k ∧ ¬ H2 k := fun k hk => ⟨(HA.out.ag k hk).1, fun h => by
        rcases hH2 k h with h1 | h1
        · exact (HA.out.ag k hk).2 h1
        · have := (own_lt HA.out.out hk).2; omega⟩
      have hvg2 : ∀ k, (Value.slice (some ⟨b, off, none⟩) cs.length cv).ownBlock = some k → ¬ Gj.has n k ∧ ¬ H2 k ∧ u5.ownBlock ≠ some k := fun k hk => ⟨(HA.out.vg k hk).1, fun h => by
        rcases hH2 k h with h1 | h1
        · exact (HA.out.vg k hk).2.1 h1
        · have := (own_lt HA.out.come hk).2; omega, (HA.out.vg k hk).2.2⟩
      have A2 : AskAt w w2 n (.func (.func g) #[] caps) G H ok Sv ⟨y.out, y.fs, y.bk, st2⟩ th' (x.sent + 1) m' u5 (.slice (some ⟨b, off, none⟩) cs.length cv) cs Gj H2 := ⟨ho2, hN2, hV2, hgh2, HA.out.gg, hh2, hag2, hc2, hvg2, kk2⟩
      have HA2 := hide A2
      clear hV2 k2 hH2 hsz2 hN2 ho2 hc2 kk2 hh2 hgh2 hag2 hvg2 hcall n0 cc hltH
      have tla := toL an
      by_cases ha : an = []
      · have hae : (an == []) = true := by simp [ha]
        replace HSS := hide (HSS.out ha)
        clear ha A2
        go_wp2_with fail
        go_roundw
        case rel => exact ⟨j + 1, Gj, H2, by go_num, by omega, by rw [HT.out, HSS.out, HM.out.2]; exact HA2.out⟩
        case measure => simp [intOf]; omega
      · have hae : (an == []) = false := str_ne ha
        replace HSN := hide (HSN.out ha)
        have n2 := cell_of A2.net.net 2
        simp only [List.getElem?_toArray, List.getElem?_cons_zero, List.getElem?_cons_succ] at n2
        unfold wayV at n2
        have hcm := A2.net.comes an ⟨ha, hshort⟩ (show y.bk.length ≤ _ by omega)
        clear ha A2
        go_wp2_with fail
        refine hcm.mono ?_
        rintro e w3 ⟨vb, G3, rfl, hob, hN3, hg3, hvb, k3⟩
        have hob2 := HA2.out
        have ho3 := hob2.out.keep k3 (fun k hk h => (hob2.ag k hk).1 h)
        have hsz3 : w2.heap.size ≤ w3.heap.size := k3.size
        have hsz2 : w.heap.size ≤ w2.heap.size := hob2.chg.size
        have hgo := goP_out y.fs y.bk an
        obtain ⟨v5, w5, hrun, ho5, hgr, hnx⟩ := app_texts w3 w.heap.size u5 y.out vb _ ho3 hob.ts (by omega) (show y.out.length ≤ _ by omega) (show (goP y.fs y.bk an).1.length ≤ _ by omega)
        have k5 := Chg.of_grown hgr
        have hlt5 : ∀ k, u5.ownBlock = some k → k < w2.heap.size := fun k hk => (own_lt hob2.out hk).2
        have hgu : ∀ k, G3.has n k → u5.ownBlock ≠ some k := fun k hk hu => by
          rcases hg3 k hk with h1 | h1
          · exact (hob2.ag k hu).1 h1
          · have := hlt5 k hu; omega
        have hN5 := hN3.keep k5 (fun k hk h => hgu k hk h.symm)
        have hV3 := hS.keep _ _ _ _ _ _ hob2.srv k3 (fun k hk h => hob2.gh k h hk) (fun k h => by
          rcases hob2.gg k h with h1 | h1
          · exact hGB k h1
          · omega)
        have hV5 := hS.keep _ _ _ _ _ _ hV3 k5 (fun k hk h => (hob2.ag k h.symm).2 hk) (fun k h => by have := (own_lt hob2.out h.symm).1; omega)
        have hltH := hS.lt _ _ _ _ hob2.srv
        have hc3 := hob2.come.keep k3 (fun k hk h => (hob2.vg k hk).1 h)
        have hc5 := hc3.keep k5 (fun k hk h => (hob2.vg k hk).2.2 h.symm)
        have A5 : AskAt w w5 n (.func (.func g) #[] caps) G H ok Sv ⟨y.out ++ (goP y.fs y.bk an).1, (goP y.fs y.bk an).2.1, (goP y.fs y.bk an).2.2, st2⟩ th' (x.sent + 1) m' v5 (.slice (some ⟨b, off, none⟩) cs.length cv) cs G3 H2 := by
          refine ⟨ho5, hN5, hV5, fun k hk h => ?_, fun k hk => ?_, hob2.hh, fun k hk => ?_, hc5, fun k hk => ⟨fun h => ?_, (hob2.vg k hk).2.1, fun h => ?_⟩, ?_⟩
          · rcases hg3 k hk with h1 | h1
            · exact hob2.gh k h1 h
            · have := hltH k h; omega
          · rcases hg3 k hk with h1 | h1
            · exact hob2.gg k h1
            · exact .inr (by omega)
          · rcases hnx with h1 | h1
            · rw [h1] at hk
              exact ⟨fun h => hgu k h hk, (hob2.ag k hk).2⟩
            · rw [h1] at hk
              injection hk with hk
              exact ⟨fun h => by have := hN3.lt h; omega, fun h => by have := hltH k h; omega⟩
          · rcases hg3 k h with h1 | h1
            · exact (hob2.vg k hk).1 h1
            · have := (own_lt hob2.come hk).2; omega
          · rcases hnx with h1 | h1
            · rw [h1] at h
              exact (hob2.vg k hk).2.2 h
            · rw [h1] at h
              injection h with h
              have := (own_lt hob2.come hk).2
              omega
          · refine (hob2.chg.trans k3 (fun i hi h => ?_)).trans k5 (fun i hi h => ?_)
            · rcases hob2.gg i h with h1 | h1
              · exact .inl h1
              · omega
            · have := (own_lt hob2.out h.symm).1
              omega
        have HA5 := hide A5
        obtain ⟨ua, uc, rfl⟩ := own_shape ho3
        obtain ⟨ba, bb, rfl⟩ := own_shape hob
        obtain ⟨va, vc, rfl⟩ := own_shape ho5
        rw [List.length_append] at hrun HA5
        clear A5 hob2 ho3 hsz3 hsz2 ho5 hgr hnx k5 hlt5 hgu hN5 hV3 hV5 hltH hc3 hc5 hob hN3 hg3 hvb k3 HA HA2
        generalize (goP y.fs y.bk an).1.length = gl at *
        go_wp2_with (at_builtin; refine wpList_append_run rfl (.tmp 48) (.tmp 54) 23 rfl rfl rfl hrun ?_)
        go_roundw
        case rel => exact ⟨j + 1, G3, H2, by go_num, by omega, by rw [HT.out, HSN.out, HM.out.2]; exact HA5.out⟩
        case measure => simp [intOf]; omega
    · obtain rfl : j = cs.length := by omega
      rw [List.take_length] at A
      have HA := hide A
      clear A
      go_wp2_with fail
      go_ret
      rw [HE.out.1, HE.out.2.1, HE.out.2.2]
      exact ⟨_, Gj, Hj, rfl, HA.out.out, HA.out.net, HA.out.srv, HA.out.gh, HA.out.gg, HA.out.hh, HA.out.ag, HA.out.chg⟩
end Go.Proofs.Ytgjmidlcfjgnhaa
