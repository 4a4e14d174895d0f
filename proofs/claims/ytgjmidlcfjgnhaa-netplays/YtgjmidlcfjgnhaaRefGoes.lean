/-
  The reference: what comes of a frame. Conditions: what it holds lies there; frames within reach, not empty; fates are right.
-/
import Derived.Test.YtgjmidlcfjgnhaaSmall
import Derived.Deep.CutBlock
import Derived.Deep.CutRange
namespace Go.Proofs.Ytgjmidlcfjgnhaa
open Go.RowKit

abbrev rob (vf vt vb : Value) : Obj := .cells #[vf, vt, vb] 33
/-- What goes has done. -/
structure GoDone (w w' : World) (r : Nat) (vt vb vf vw vo vw' vf' : Value) (x : List Bs × List Ft × List Bs) : Prop where
  ref : w'.heap[r]? = some (rob vf' vt vb)
  fs : Fs w' vf' x.2.1
  same : vf'.ownBlock = vf.ownBlock
  out : Own w' w.heap.size vo x.1
  wait : Ts w' vw' x.2.2
  wnx : ∀ k, vw'.ownBlock = some k → vw.ownBlock = some k ∨ w.heap.size ≤ k ∧ k < w'.heap.size
  apart : vo.ownBlock = none ∨ vw'.ownBlock = none
  chg : Chg (· = r) w w'

set_option maxRecDepth 20000 in
set_option maxHeartbeats 2000000 in
theorem rgoes_any (w : World) (r : Nat) (vf vt vb vw : Value) (fs : List Ft) (ws : List Bs) (s : Bs) (hr : w.heap[r]? = some (rob vf vt vb)) (hf : Fs w vf fs) (hfr : vf.ownBlock ≠ some r) (hw : Ts w vw ws) (hwr : vw.ownBlock ≠ some r) (hok : ∀ f ∈ fs, okF f = true ∧ I64 f.2.1) (hs : Fr s) (hl : ws.length ≤ 4294967290) :
    Calls Try.prog 23 #[.pointer (some ⟨r, 0, none⟩), .string (strB s), vw] w fun e w' => ∃ vo vw' vf', e = .returned (.tuple #[vo, vw']) ∧ GoDone w w' r vt vb vf vw vo vw' vf' (goP fs ws s) := by
  have hz : (w.alloc (.cells #[.int .i64 0, .int .i64 0, .int .u8 0] 35)).heap[w.heap.size]? = _ := heap_last w _
  have hr0 : (w.alloc (.cells #[.int .i64 0, .int .i64 0, .int .u8 0] 35)).heap[r]? = _ := heap_past _ hr
  have k0 : Chg (fun _ => False) w (w.alloc (.cells #[.int .i64 0, .int .i64 0, .int .u8 0] 35)) := (Chg.refl _ _).alloc _
  have hs0 : (w.alloc (.cells #[.int .i64 0, .int .i64 0, .int .u8 0] 35)).heap.size = w.heap.size + 1 := by simp
  have hlt := lt_of_heap hr
  obtain ⟨ao, cap, hvf, hle⟩ : ∃ ao cap, vf = .slice ao fs.length cap ∧ fs.length ≤ cap := by
    obtain ⟨ao, cap, e, h, -⟩ := hf
    exact ⟨ao, cap, e, h⟩
  subst hvf
  obtain ⟨aw, cw, hvw⟩ : ∃ aw cw, vw = .slice aw ws.length cw := by
    obtain ⟨aw, cw, e, -⟩ := hw
    exact ⟨aw, cw, e⟩
  subst hvw
  have cr := cell_of hr 0
  simp only [List.getElem?_toArray, List.getElem?_cons_zero] at cr
  go_enter Try.func23, Try.ntmps23
  go_upto_if 16 with fail
  generalize hw0 : w.alloc (.cells #[.int .i64 0, .int .i64 0, .int .u8 0] 35) = w0 at *
  have hf0 := hf.keep k0 (fun _ _ h => h)
  have hfb : ∀ k, (Value.slice ao fs.length cap).ownBlock = some k → fs ≠ [] → k < w.heap.size := fun k hk hne => by
    obtain ⟨_, _, e, _, _, h⟩ := hf
    obtain ⟨b', off', e2, hb', _⟩ := h hne
    subst e2
    rw [e] at hk
    injection hk with hk
    have hk : b' = k := hk
    omega
  have c0 := cell_of hr0 0
  simp only [List.getElem?_toArray, List.getElem?_cons_zero] at c0
  have t0 := thawed hr0 0
  have z0 := thawed hz 0
  have z1 := thawed hz 1
  have z2 := thawed hz 2
  have y0 := cell_of hz 0
  have y1 := cell_of hz 1
  have y2 := cell_of hz 2
  simp only [List.getElem?_toArray, List.getElem?_cons_zero, List.getElem?_cons_succ] at y0 y1 y2
  have hrn : ¬ r = w.heap.size := by omega
  have hrn2 : ¬ w.heap.size = r := by omega
  have hf00 := hf0
  obtain ⟨ao', cap', e, h1, h2, h4⟩ := hf00
  injection e with e1 _ e3
  subst e1 e3
  have hw00 : Ts w0 (.slice aw ws.length cw) ws := hw.keep k0 (fun _ _ h => h)
  go_cut [] from 16 to 30 (fun wx => ∃ vf', wx.heap[r]? = some (rob vf' vt vb) ∧ Fs wx vf' fs.tail ∧ vf'.ownBlock = (Value.slice ao fs.length cap).ownBlock ∧ wx.heap[w.heap.size]? = some (.cells #[.int .i64 (fs.headD fz).1, .int .i64 (fs.headD fz).2.1, .int .u8 ((fs.headD fz).2.2.toNat : Int)] 35) ∧ Chg (· = r) w wx ∧ w.heap.size < wx.heap.size)
  case first =>
    cases fs with
    | nil =>
      have HF := hide (show Fs w0 (.slice ao 0 cap) [] from ⟨ao, cap, rfl, h1, h2, h4⟩)
      have HA := hide (And.intro hr0 (And.intro hz (And.intro k0 hs0)))
      clear hf h4 hr hr0 hz k0 hs0 hw hw00
      go_wp2_with fail
      go_meet
      exact ⟨_, HA.out.1, HF.out, rfl, HA.out.2.1, HA.out.2.2.1.mono (fun _ _ h => h.elim), by rw [HA.out.2.2.2]; omega⟩
    | cons f rr =>
      obtain ⟨b, off, rfl, hb, hcell⟩ := h4 (by simp)
      have hbr : b ≠ r := fun e => hfr (by rw [e]; rfl)
      have hbw : b < w.heap.size := hfb b rfl (by simp)
      have l0 := hcell 0 (by simp) 0 _ rfl
      have l1 := hcell 0 (by simp) 1 _ rfl
      have l2 := hcell 0 (by simp) 2 _ rfl
      simp only [Nat.zero_mul, Nat.add_zero, List.getElem_cons_zero] at l0 l1 l2
      have hlen : (f :: rr).length = rr.length + 1 := rfl
      rw [hlen] at h1
      have hcap : ¬ cap = 0 := by omega
      have hcell1 : ∀ j (h : j < rr.length) i u, (fc (rr[j]'h))[i]? = some u → w0.cell? ⟨b, off + 3 + j * 3 + i, none⟩ = some u := fun j hj i u hu => by
        have := hcell (j + 1) (by simpa using hj) i u (by simpa using hu)
        rw [show off + 3 + j * 3 + i = off + (j + 1) * 3 + i by omega]
        exact this
      have hr1 : ((rr.length : Int) + 1 == 0) = false := by simp; omega
      have hr2 : (0 : Int) < (rr.length : Int) + 1 := by omega
      have hr3 : 0 < (f :: rr).length := by simp
      have hset := heap_set3 (a := .int .i64 f.1) (b := .int .i64 f.2.1) (c := .int .u8 (f.2.2.toNat : Int)) hz
      have kS := (((Chg.refl (· = w.heap.size) w0).setCell (p := ⟨w.heap.size, 0, none⟩) (.inl rfl) (.int .i64 f.1)).setCell (p := ⟨w.heap.size, 1, none⟩) (.inl rfl) (.int .i64 f.2.1)).setCell (p := ⟨w.heap.size, 2, none⟩) (.inl rfl) (.int .u8 (f.2.2.toNat : Int))
      have hrS := kS.keep hr0 hrn
      have hsS : (((w0.setCell ⟨w.heap.size, 0, none⟩ (.int .i64 f.1)).setCell ⟨w.heap.size, 1, none⟩ (.int .i64 f.2.1)).setCell ⟨w.heap.size, 2, none⟩ (.int .u8 (f.2.2.toNat : Int))).heap.size = w.heap.size + 1 := by simp [World.setCell, hs0]
      have hcell2 : ∀ j (h : j < rr.length) i u, (fc (rr[j]'h))[i]? = some u → (((w0.setCell ⟨w.heap.size, 0, none⟩ (.int .i64 f.1)).setCell ⟨w.heap.size, 1, none⟩ (.int .i64 f.2.1)).setCell ⟨w.heap.size, 2, none⟩ (.int .u8 (f.2.2.toNat : Int))).cell? ⟨b, off + 3 + j * 3 + i, none⟩ = some u := fun j hj i u hu => by
        rw [← hcell1 j hj i u hu]
        exact World.cell?_of_block (kS.block b (by omega) (by omega))
      have kw := (k0.mono (G := (· = r)) (fun _ _ h => h.elim)).trans kS (fun i hi e => by omega)
      generalize hwS : ((w0.setCell ⟨w.heap.size, 0, none⟩ (.int .i64 f.1)).setCell ⟨w.heap.size, 1, none⟩ (.int .i64 f.2.1)).setCell ⟨w.heap.size, 2, none⟩ (.int .u8 (f.2.2.toNat : Int)) = wS at *
      have s0 := cell_of hrS 0
      have tS := thawed hrS 0
      simp only [List.getElem?_toArray, List.getElem?_cons_zero] at s0
      have HA := hide (And.intro hset (And.intro hrS (And.intro hsS (And.intro hcell2 kw))))
      clear hf h4 hr hr0 hz k0 hs0 hw hw00 hset kS hrS hsS hcell hcell1 hcell2 kw hlen
      by_cases hcc : cap = 1
      · subst hcc
        obtain rfl : rr = [] := List.eq_nil_of_length_eq_zero (by omega)
        go_wp2_with fail
        go_meet
        have kR := chg_set wS r 0 (.slice (some ⟨b, off, none⟩) 0 0)
        exact ⟨_, heap_set HA.out.2.1 0 _, ⟨some ⟨b, off, none⟩, 0, rfl, Nat.le_refl _, by unfold maxLen; omega, fun h => absurd rfl h⟩, rfl, kR.keep HA.out.1 hrn2, HA.out.2.2.2.2.then kR, by have := HA.out.2.2.1; have := kR.size; omega⟩
      · go_wp2_with fail
        go_meet
        have kR := chg_set wS r 0 (.slice (some ⟨b, off + 3, none⟩) rr.length (cap - 1))
        refine ⟨_, heap_set HA.out.2.1 0 _, ?_, rfl, kR.keep HA.out.1 hrn2, HA.out.2.2.2.2.then kR, by have := HA.out.2.2.1; have := kR.size; omega⟩
        refine Fs.keep (w := wS) ⟨some ⟨b, off + 3, none⟩, cap - 1, rfl, by show rr.length ≤ _; omega, by omega, fun _ => ⟨b, off + 3, rfl, by have := HA.out.2.2.1; omega, HA.out.2.2.2.1⟩⟩ kR (fun g hg => ?_)
        injection hg with hg
        have hg' : b = g := hg
        omega
  case rest =>
    obtain ⟨vf', hrc, hfc, hsm, hzc, kc, hsz⟩ := hcut
    have hI : okF (fs.headD fz) = true ∧ I64 (fs.headD fz).2.1 := by
      cases fs with
      | nil => exact ⟨by decide, by simp [fz], by simp [fz]⟩
      | cons f rr => exact hok f (by simp)
    have hwc : Ts wc (.slice aw ws.length cw) ws := hw.keep kc (fun k hk e => hwr (e ▸ hk))
    have HR := hide (show goP fs ws s = if (fs.headD fz).1 = 3 then ([], fs.tail, ws ++ [s]) else if comeP s (fs.headD fz) = [] then ([], fs.tail, ws) else (comeP s (fs.headD fz) ++ ws, fs.tail, []) from rfl)
    have d0 := cell_of hzc 0
    have d1 := cell_of hzc 1
    have d2 := cell_of hzc 2
    simp only [List.getElem?_toArray, List.getElem?_cons_zero, List.getElem?_cons_succ] at d0 d1 d2
    have htu := rturned_any wc s (fs.headD fz) hs.1 hs.2 hI.2
    have hcp : comeP s (fs.headD fz) = if (fs.headD fz).1 = 0 then [s] else if (fs.headD fz).1 = 2 then [turnP (fs.headD fz) s] else if (fs.headD fz).1 = 4 then [s, s] else [] := rfl
    generalize fs.headD fz = f at *
    have hk5 : 0 ≤ f.1 ∧ f.1 ≤ 4 := by
      have := hI.1
      unfold okF at this
      exact of_decide_eq_true this
    have HA := hide (And.intro hrc (And.intro hfc (And.intro hsm (And.intro kc hwc))))
    have HCP := hide hcp
    clear hr hf hfr hw hwr hok hrc hfc hsm kc hwc hcp hzc hf0 h4 hr0 hz k0 hs0 hw00 hfb c0 t0 z0 z1 z2 y0 y1 y2 cr
    have hwsz : w.heap.size ≤ wc.heap.size := by omega
    by_cases h1 : f.1 = 1
    · have hcn : comeP s f = [] := by rw [HCP.out, if_neg (by omega), if_neg (by omega), if_neg (by omega)]
      replace HR := hide (show goP fs ws s = ([], fs.tail, ws) by rw [HR.out, if_neg (by omega), if_pos hcn])
      clear hcn
      have b1 : (f.1 == 1) = true := by simp [h1]
      clear h1 hk5 htu
      go_wp2_with fail
      go_ret2
      rw [HR.out]
      obtain ⟨q1, q2, q3, q4, q5⟩ := HA.out
      first | exact ⟨_, _, rfl, vf', q1, q2, q3, Own.nil _ _, q5, fun k hk => .inl hk, .inl rfl, q4⟩ | exact ⟨_, _, vf', rfl, q1, q2, q3, Own.nil _ _, q5, fun k hk => .inl hk, .inl rfl, q4⟩
    · have b1 : (f.1 == 1) = false := by simp [h1]
      by_cases h3 : f.1 = 3
      · replace HR := hide (show goP fs ws s = ([], fs.tail, ws ++ [s]) by rw [HR.out, if_pos h3])
        have b3 : (f.1 == 3) = true := by simp [h3]
        obtain ⟨v', w5, hrun, ho5, hgr, hnx⟩ := app_texts wc w.heap.size (.slice none 0 0) [] _ ws (Own.nil _ _) HA.out.2.2.2.2 hwsz (by simp) (by omega)
        have k5 := Chg.of_grown hgr
        have k5' : Chg (fun _ => False) wc w5 := k5.mono (fun k _ h => by cases h)
        have k56 : Chg (fun _ => False) w5 (w5.alloc (.cells #[.string (strB s)] 9)) := (Chg.refl _ _).alloc _
        rw [List.nil_append] at ho5
        obtain ⟨v7, w7, hrun7, ho7, hgr7, hnx7⟩ := app_texts (w5.alloc (.cells #[.string (strB s)] 9)) w.heap.size v' ws _ [s] (ho5.keep k56 (fun _ _ h => h)) (own_lit w5 [s] (by simp)).ts (by have := k5'.size; simp; omega) (by omega) (by simp)
        have k7 := Chg.of_grown hgr7
        have hvl : ∀ k, some k = v'.ownBlock → wc.heap.size ≤ k := fun k hk => by
          rcases hnx with h | h
          · rw [h] at hk; cases hk
          · rw [h] at hk; injection hk with hk; omega
        have kt : Chg (fun _ => False) wc w7 := (k5'.then k56).trans k7 (fun i hi h => by have := hvl i h; omega)
        obtain ⟨q1, q2, q3, q4, q5⟩ := HA.out
        have HFIN := hide (And.intro (kt.keep q1 (fun h => h)) (And.intro (q2.keep kt (fun _ _ h => h)) (And.intro q3 (And.intro ho7 (q4.then (kt.mono fun _ _ h => h.elim))))))
        obtain ⟨a5, c5, rfl⟩ := own_shape ho5
        obtain ⟨a7, c7, rfl⟩ := own_shape ho7
        rw [List.length_append] at hrun7 HFIN
        simp only [List.length_cons, List.length_nil, Nat.zero_add] at hrun7 HFIN
        clear h3 h1 hk5 htu ho5 hgr hnx k5 k5' k56 ho7 hgr7 hnx7 k7 hvl kt q1 q2 q3 q4 q5
        go_wp2_with (at_builtin; first | refine wpList_append_run rfl (.tmp 38) (.tmp 39) 23 rfl rfl rfl hrun ?_ | refine wpList_append_run rfl (.tmp 41) (.tmp 43) 23 rfl rfl rfl hrun7 ?_)
        go_ret2
        rw [HR.out]
        obtain ⟨q1, q2, q3, q4, q5⟩ := HFIN.out
        first | exact ⟨_, _, rfl, vf', q1, q2, q3, Own.nil _ _, q4.ts, fun k hk => .inr (own_lt q4 hk), .inl rfl, q5⟩ | exact ⟨_, _, vf', rfl, q1, q2, q3, Own.nil _ _, q4.ts, fun k hk => .inr (own_lt q4 hk), .inl rfl, q5⟩
      · have b3 : (f.1 == 3) = false := by simp [h3]
        have hcl := comeP_le s f
        by_cases h2 : f.1 = 2
        · have hce : comeP s f = [turnP f s] := by rw [HCP.out, if_neg (by omega), if_pos h2]
          replace HR := hide (show goP fs ws s = ([turnP f s] ++ ws, fs.tail, []) by rw [HR.out, if_neg h3, if_neg (by rw [hce]; simp), hce])
          have b2 : (f.1 == 2) = true := by simp [h2]
          have b4 : (f.1 == 4) = false := by simp [h2]
          clear h1 h2 h3 hk5 hcl hce
          go_wp2_with fail
          refine htu.mono ?_
          rintro e w4 ⟨rfl, hb4⟩
          have k4 := chg_below hb4
          generalize turnP f s = t at *
          have k45 : Chg (fun _ => False) w4 (w4.alloc (.cells #[.string (strB t)] 9)) := (Chg.refl _ _).alloc _
          have hz4 : w.heap.size ≤ w4.heap.size := Nat.le_trans hwsz k4.size
          obtain ⟨v5, w5, hrun5, ho5, hgr5, hnx5⟩ := app_texts (w4.alloc (.cells #[.string (strB t)] 9)) w.heap.size (.slice none 0 0) [] _ [t] (Own.nil _ _) (own_lit w4 [t] (by simp)).ts (by simp; omega) (by simp) (by simp)
          have k5 : Chg (fun _ => False) wc w5 := (k4.then k45).then ((Chg.of_grown hgr5).mono (fun k _ h => by cases h))
          obtain ⟨q1, q2, q3, q4, q5⟩ := HA.out
          rw [List.nil_append] at ho5
          obtain ⟨v7, w7, hrun7, ho7, hgr7, hnx7⟩ := app_texts w5 w.heap.size v5 [t] _ ws ho5 (q5.keep k5 (fun _ _ h => h)) (Nat.le_trans hwsz k5.size) (by simp) (by omega)
          have hvl : ∀ k, some k = v5.ownBlock → wc.heap.size ≤ k := fun k hk => by
            rcases hnx5 with h | h
            · rw [h] at hk; cases hk
            · rw [h] at hk; injection hk with hk; have := k4.size; simp at hk; omega
          have kt : Chg (fun _ => False) wc w7 := k5.trans (Chg.of_grown hgr7) (fun i hi h => by have := hvl i h; omega)
          have HFIN := hide (And.intro (kt.keep q1 (fun h => h)) (And.intro (q2.keep kt (fun _ _ h => h)) (And.intro q3 (And.intro ho7 (q4.then (kt.mono fun _ _ h => h.elim))))))
          obtain ⟨a5, c5, rfl⟩ := own_shape ho5
          obtain ⟨a7, c7, rfl⟩ := own_shape ho7
          rw [List.length_append] at hrun7 HFIN
          simp only [List.length_cons, List.length_nil, Nat.zero_add] at hrun5 hrun7 HFIN
          clear htu hb4 k4 k45 hz4 ho5 hgr5 hnx5 k5 q1 q2 q3 q4 q5 ho7 hgr7 hnx7 hvl kt
          go_wp2_with (at_builtin; first | refine wpList_append_run rfl (.tmp 59) (.tmp 61) 23 rfl rfl rfl hrun5 ?_ | refine wpList_append_run rfl (.tmp 63) (.tmp 64) 23 rfl rfl rfl hrun7 ?_)
          go_ret2
          rw [HR.out]
          obtain ⟨q1, q2, q3, q4, q5⟩ := HFIN.out
          first | exact ⟨_, _, rfl, vf', q1, q2, q3, q4, Ts.nil _, (fun k hk => by cases hk), .inr rfl, q5⟩ | exact ⟨_, _, vf', rfl, q1, q2, q3, q4, Ts.nil _, (fun k hk => by cases hk), .inr rfl, q5⟩
        · have b2 : (f.1 == 2) = false := by simp [h2]
          obtain ⟨q1, q2, q3, q4, q5⟩ := HA.out
          have k45 : Chg (fun _ => False) wc (wc.alloc (.cells #[.string (strB s)] 9)) := (Chg.refl _ _).alloc _
          obtain ⟨v5, w5, hrun5, ho5, hgr5, hnx5⟩ := app_texts (wc.alloc (.cells #[.string (strB s)] 9)) w.heap.size (.slice none 0 0) [] _ [s] (Own.nil _ _) (own_lit wc [s] (by simp)).ts (by simp; omega) (by simp) (by simp)
          have k5 : Chg (fun _ => False) wc w5 := k45.then ((Chg.of_grown hgr5).mono (fun k _ h => by cases h))
          rw [List.nil_append] at ho5
          have hvl5 : ∀ k, some k = v5.ownBlock → wc.heap.size ≤ k := fun k hk => by
            rcases hnx5 with h | h
            · rw [h] at hk; cases hk
            · rw [h] at hk; injection hk with hk; simp at hk; omega
          by_cases h4 : f.1 = 4
          · have hce : comeP s f = [s, s] := by rw [HCP.out, if_neg (by omega), if_neg h2, if_pos h4]
            replace HR := hide (show goP fs ws s = ([s] ++ [s] ++ ws, fs.tail, []) by rw [HR.out, if_neg h3, if_neg (by rw [hce]; simp), hce]; rfl)
            have b4 : (f.1 == 4) = true := by simp [h4]
            have k56 : Chg (fun _ => False) w5 (w5.alloc (.cells #[.string (strB s)] 9)) := (Chg.refl _ _).alloc _
            obtain ⟨v6, w6, hrun6, ho6, hgr6, hnx6⟩ := app_texts (w5.alloc (.cells #[.string (strB s)] 9)) w.heap.size v5 [s] _ [s] (ho5.keep k56 (fun _ _ h => h)) (own_lit w5 [s] (by simp)).ts (by have := k5.size; simp; omega) (by simp) (by simp)
            have k6 : Chg (fun _ => False) wc w6 := (k5.then k56).trans (Chg.of_grown hgr6) (fun i hi h => by have := hvl5 i h; omega)
            have hvl6 : ∀ k, some k = v6.ownBlock → wc.heap.size ≤ k := fun k hk => by
              rcases hnx6 with h | h
              · exact hvl5 k (h ▸ hk)
              · rw [h] at hk; injection hk with hk; have := k5.size; simp at hk; omega
            obtain ⟨v7, w7, hrun7, ho7, hgr7, hnx7⟩ := app_texts w6 w.heap.size v6 ([s] ++ [s]) _ ws ho6 (q5.keep k6 (fun _ _ h => h)) (Nat.le_trans hwsz k6.size) (by simp) (by omega)
            have kt : Chg (fun _ => False) wc w7 := k6.trans (Chg.of_grown hgr7) (fun i hi h => by have := hvl6 i h; omega)
            have HFIN := hide (And.intro (kt.keep q1 (fun h => h)) (And.intro (q2.keep kt (fun _ _ h => h)) (And.intro q3 (And.intro ho7 (q4.then (kt.mono fun _ _ h => h.elim))))))
            obtain ⟨a5, c5, rfl⟩ := own_shape ho5
            obtain ⟨a6, c6, rfl⟩ := own_shape ho6
            obtain ⟨a7, c7, rfl⟩ := own_shape ho7
            rw [List.length_append] at hrun7 HFIN
            simp only [List.length_cons, List.length_nil, Nat.zero_add, List.length_append, Nat.reduceAdd] at hrun5 hrun6 hrun7 HFIN
            clear htu k45 ho5 hgr5 hnx5 k5 q1 q2 q3 q4 q5 ho7 hgr7 hnx7 hvl5 hvl6 kt k56 k6 ho6 hgr6 hnx6 h1 h2 h3 h4 hk5 hcl hce
            go_wp2_with (at_builtin; first | refine wpList_append_run rfl (.tmp 55) (.tmp 57) 23 rfl rfl rfl hrun5 ?_ | refine wpList_append_run rfl (.tmp 59) (.tmp 61) 23 rfl rfl rfl hrun6 ?_ | refine wpList_append_run rfl (.tmp 63) (.tmp 64) 23 rfl rfl rfl hrun7 ?_)
            go_ret2
            rw [HR.out]
            obtain ⟨q1, q2, q3, q4, q5⟩ := HFIN.out
            first | exact ⟨_, _, rfl, vf', q1, q2, q3, q4, Ts.nil _, (fun k hk => by cases hk), .inr rfl, q5⟩ | exact ⟨_, _, vf', rfl, q1, q2, q3, q4, Ts.nil _, (fun k hk => by cases hk), .inr rfl, q5⟩
          · have h0 : f.1 = 0 := by omega
            have hce : comeP s f = [s] := by rw [HCP.out, if_pos h0]
            replace HR := hide (show goP fs ws s = ([s] ++ ws, fs.tail, []) by rw [HR.out, if_neg h3, if_neg (by rw [hce]; simp), hce])
            have b4 : (f.1 == 4) = false := by simp [h4]
            obtain ⟨v7, w7, hrun7, ho7, hgr7, hnx7⟩ := app_texts w5 w.heap.size v5 [s] _ ws ho5 (q5.keep k5 (fun _ _ h => h)) (Nat.le_trans hwsz k5.size) (by simp) (by omega)
            have kt : Chg (fun _ => False) wc w7 := k5.trans (Chg.of_grown hgr7) (fun i hi h => by have := hvl5 i h; omega)
            have HFIN := hide (And.intro (kt.keep q1 (fun h => h)) (And.intro (q2.keep kt (fun _ _ h => h)) (And.intro q3 (And.intro ho7 (q4.then (kt.mono fun _ _ h => h.elim))))))
            obtain ⟨a5, c5, rfl⟩ := own_shape ho5
            obtain ⟨a7, c7, rfl⟩ := own_shape ho7
            rw [List.length_append] at hrun7 HFIN
            simp only [List.length_cons, List.length_nil, Nat.zero_add] at hrun5 hrun7 HFIN
            clear htu k45 ho5 hgr5 hnx5 k5 q1 q2 q3 q4 q5 ho7 hgr7 hnx7 hvl5 kt h1 h2 h3 h4 h0 hk5 hcl hce
            go_wp2_with (at_builtin; first | refine wpList_append_run rfl (.tmp 59) (.tmp 61) 23 rfl rfl rfl hrun5 ?_ | refine wpList_append_run rfl (.tmp 63) (.tmp 64) 23 rfl rfl rfl hrun7 ?_)
            go_ret2
            rw [HR.out]
            obtain ⟨q1, q2, q3, q4, q5⟩ := HFIN.out
            first | exact ⟨_, _, rfl, vf', q1, q2, q3, q4, Ts.nil _, (fun k hk => by cases hk), .inr rfl, q5⟩ | exact ⟨_, _, vf', rfl, q1, q2, q3, q4, Ts.nil _, (fun k hk => by cases hk), .inr rfl, q5⟩
end Go.Proofs.Ytgjmidlcfjgnhaa
