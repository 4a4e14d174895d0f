/-
  The way's closure: what comes of a frame that goes on it. Conditions: what it holds lies there; frames within reach, not empty.
-/
import Derived.Test.YtgjmidlcfjgnhaaFates
namespace Go.Proofs.Ytgjmidlcfjgnhaa
open Go.RowKit

/-- What a way has done. -/
structure WayDone (w w' : World) (n b : Nat) (sv th bk : Value) (sent : Nat) (vf vw v vf' vw' : Value) (r : List Bs × List Ft × List Bs) : Prop where
  out : Own w' w.heap.size v r.1
  net : w'.heap[n]? = some (nob sv th bk vf' sent)
  fs : Fs w' vf' r.2.1
  same : vf'.ownBlock = vf.ownBlock
  box : w'.heap[b]? = some (.cells #[vw'] 23)
  own : Own w' 0 vw' r.2.2
  chg : Chg (fun k => k = n ∨ k = b ∨ some k = vw.ownBlock) w w'
  nx : ∀ k, vw'.ownBlock = some k → vw.ownBlock = some k ∨ w.heap.size ≤ k
  apart : ∀ k, v.ownBlock = some k → vw'.ownBlock ≠ some k

set_option maxRecDepth 20000 in
set_option maxHeartbeats 1000000 in
theorem way_any (w : World) (n t b : Nat) (sv th bk vf vw : Value) (sent : Nat) (fs : List Ft) (ws : List Bs) (s : Bs)
    (hn : w.heap[n]? = some (nob sv th bk vf sent)) (hf : Fs w vf fs) (hft : ∀ g, vf.ownBlock = some g → ∃ c fr, w.heap[g]? = some (.cells c 35 fr)) (hr : ∀ f ∈ fs, I64 f.2.1)
    (ht : w.heap[t]? = some (.cells #[.func (.func 22) #[.pointer (some ⟨n, 0, none⟩)] #[]] 50)) (hb : w.heap[b]? = some (.cells #[vw] 23)) (hw : Own w 0 vw ws) (hs : Fr s) (hl : ws.length ≤ 4294967290) :
    Calls Try.prog 24 #[.string (strB s), .pointer (some ⟨t, 0, none⟩), .pointer (some ⟨b, 0, none⟩)] w fun e w' => ∃ v vf' vw', e = .returned v ∧ WayDone w w' n b sv th bk sent vf vw v vf' vw' (goP fs ws s) := by
  go_enter Try.func24, Try.ntmps24
  go_wp2_with fail
  refine (copyStr_any w s hs.2).mono ?_
  rintro e w1 ⟨rfl, hb1⟩
  have k1 : Chg (fun _ => False) w w1 := ⟨hb1.os, hb1.tape, hb1.output, hb1.size, fun k hk _ => hb1.block k hk⟩
  have hn1 := k1.keep hn (fun h => h)
  have ht1 := k1.keep ht (fun h => h)
  have hbx1 := k1.keep hb (fun h => h)
  have hf1 := hf.keep k1 (fun _ _ h => h)
  have hw1 : Own w1 0 vw ws := own_keep hw k1 (fun _ _ h => h)
  have ct := cell_of ht1 0
  simp only [List.getElem?_toArray, List.getElem?_cons_zero] at ct
  have htk := takeFate_any w1 n sv th bk vf sent fs hn1 hf1 (fun hv => by
    obtain ⟨c, fr, h⟩ := hft n hv
    exact ne_type hn h (by decide) rfl)
  go_wp2_with fail
  refine htk.mono ?_
  rintro e w2 ⟨rfl, vf2, hn2, hf2, hsame, k2⟩
  have hrow : ∀ k, vw.ownBlock = some k → k < w.heap.size ∧ k ≠ n ∧ k ≠ b := fun k hk => by
    obtain ⟨c, fr, h⟩ := own_kind hw hk
    exact ⟨lt_of_heap h, ne_type h hn (by decide), ne_type h hb (by decide)⟩
  have hnb : n ≠ b := ne_type hn hb (by decide)
  have hbx2 := k2.keep hbx1 (Ne.symm hnb)
  have hw2 : Own w2 0 vw ws := own_keep hw1 k2 (fun k hk => (hrow k hk).2.1)
  have k12 : Chg (· = n) w w2 := (k1.mono (fun _ _ h => h.elim)).then k2
  have hI : I64 (fs.headD fz).2.1 := by
    cases fs with
    | nil => exact ⟨by simp [fz], by simp [fz]⟩
    | cons f r => exact hr f (by simp)
  have hfne : ∀ g, vf2.ownBlock = some g → g < w.heap.size ∧ g ≠ b ∧ vw.ownBlock ≠ some g := fun g hg => by
    obtain ⟨c, fr, h⟩ := hft g (hsame ▸ hg)
    refine ⟨lt_of_heap h, ne_type h hb (by decide), fun hv => ?_⟩
    obtain ⟨c', fr', h'⟩ := own_kind hw hv
    exact ne_type h h' (by decide) rfl
  have hblt := lt_of_heap hb
  have hs12 : w.heap.size ≤ w2.heap.size := k12.size
  have HR := hide (show goP fs ws s = if (fs.headD fz).1 = 3 then ([], fs.tail, ws ++ [s]) else if comeP s (fs.headD fz) = [] then ([], fs.tail, ws) else (comeP s (fs.headD fz) ++ ws, fs.tail, []) from rfl)
  generalize fs.headD fz = f at *
  -- the fate's box
  have hy := heap_last w2 (.cells #[.int .i64 f.1, .int .i64 f.2.1, .int .u8 (f.2.2.toNat : Int)] 35)
  have k3 : Chg (· = n) w (w2.alloc (.cells #[.int .i64 f.1, .int .i64 f.2.1, .int .u8 (f.2.2.toNat : Int)] 35)) := k12.alloc _
  have k23 : Chg (fun _ => False) w2 (w2.alloc (.cells #[.int .i64 f.1, .int .i64 f.2.1, .int .u8 (f.2.2.toNat : Int)] 35)) := (Chg.refl _ _).alloc _
  have hs3 : (w2.alloc (.cells #[.int .i64 f.1, .int .i64 f.2.1, .int .u8 (f.2.2.toNat : Int)] 35)).heap.size = w2.heap.size + 1 := by simp
  generalize hw3 : w2.alloc (.cells #[.int .i64 f.1, .int .i64 f.2.1, .int .u8 (f.2.2.toNat : Int)] 35) = w3 at *
  have hn3 := k23.keep hn2 (fun h => h)
  have hb3 := k23.keep hbx2 (fun h => h)
  have hf3 := hf2.keep k23 (fun _ _ h => h)
  have ho3 : Own w3 0 vw ws := own_keep hw2 k23 (fun _ _ h => h)
  have y0 := cell_of hy 0
  have y1 := cell_of hy 1
  have y2 := cell_of hy 2
  have cb := cell_of hb3 0
  simp only [List.getElem?_toArray, List.getElem?_cons_zero, List.getElem?_cons_succ] at y0 y1 y2 cb
  have HALL := hide (And.intro hn3 (And.intro hb3 (And.intro hf3 (And.intro ho3 (And.intro k3 hfne)))))
  have HRW := hide hrow
  have HSZ := hide hs3
  have HSM := hide hsame
  clear hn hf hft hr ht hb hw k1 hn1 ht1 hbx1 hf1 hw1 ct htk hn2 hf2 k2 hbx2 hw2 k12 k23 hn3 hb3 hf3 ho3 k3 hfne hy hrow hb1 hs3 hsame
  unfold fv
  by_cases h3 : f.1 = 3
  · replace HR := hide (show goP fs ws s = ([], fs.tail, ws ++ [s]) by rw [HR.out, if_pos h3])
    have hb3' : (f.1 == 3) = true := by simp [h3]
    clear h3
    have hlit := own_lit w3 [s] (by simp)
    have k34 : Chg (fun _ => False) w3 (w3.alloc (.cells #[.string (strB s)] 9)) := (Chg.refl _ _).alloc _
    obtain ⟨v', w5, hrun, ho5, hgr, hnx⟩ := app_texts (w3.alloc (.cells #[.string (strB s)] 9)) 0 vw ws _ [s] (HALL.out.2.2.2.1.keep k34 (fun _ _ h => h)) hlit.ts (Nat.zero_le _) (by omega) (by simp)
    have k45 := Chg.of_grown hgr
    have k35 : Chg (fun k => some k = vw.ownBlock) w3 w5 := (k34.mono (fun _ _ h => h.elim)).then k45
    have k5 : Chg (fun k => k = n ∨ k = b ∨ some k = vw.ownBlock) w w5 := HALL.out.2.2.2.2.1.mono (fun _ _ h => .inl h) |>.then (k35.mono fun _ _ h => .inr (.inr h))
    have hb5 := k35.keep HALL.out.2.1 (fun h => (HRW.out b h.symm).2.2 rfl)
    have hn5 := k35.keep HALL.out.1 (fun h => (HRW.out n h.symm).2.1 rfl)
    have hf5 := HALL.out.2.2.1.keep k35 (fun g hg h => (HALL.out.2.2.2.2.2 g hg).2.2 h.symm)
    have c5 := cell_of hb5 0
    have t5 := thawed hb5 0
    simp only [List.getElem?_toArray, List.getElem?_cons_zero] at c5
    have hv5 : ∀ k, v'.ownBlock = some k → k ≠ b := fun k hk => by
      obtain ⟨c, fr, h⟩ := own_kind ho5 hk
      exact ne_type h hb5 (by decide)
    have HNX := hide (show ∀ k, v'.ownBlock = some k → vw.ownBlock = some k ∨ w.heap.size ≤ k from fun k hk => by
      rcases hnx with h | h
      · exact .inl (h ▸ hk)
      · rw [h] at hk
        injection hk with hk
        have := HSZ.out
        simp at hk
        exact .inr (by omega))
    have kS : Chg (· = b) w5 (w5.setCell ⟨b, 0, none⟩ v') := chg_set _ _ _ _
    have HFIN := hide (And.intro (ho5.keep kS (fun k hk => hv5 k hk)) (And.intro (kS.keep hn5 hnb) (And.intro (hf5.keep kS (fun g hg => (HALL.out.2.2.2.2.2 g hg).2.1)) (And.intro (heap_set hb5 0 v') (k5.then (kS.mono fun _ _ h => .inr (.inl h)))))))
    obtain ⟨av, cv, rfl⟩ := own_shape HALL.out.2.2.2.1
    obtain ⟨av', cv', rfl⟩ := own_shape ho5
    rw [List.length_append] at hrun HFIN HNX
    simp only [List.length_cons, List.length_nil, Nat.zero_add] at hrun HFIN HNX
    clear hlit k34 ho5 hgr hnx k45 k35 k5 hb5 hn5 hf5 hv5 kS
    go_wp2_with (at_builtin; refine wpList_append_run rfl (.tmp 14) (.tmp 16) 23 rfl rfl rfl hrun ?_)
    go_ret
    rw [HR.out]
    refine ⟨_, _, _, rfl, Own.nil _ _, HFIN.out.2.1, HFIN.out.2.2.1, HSM.out, HFIN.out.2.2.2.1, HFIN.out.1, HFIN.out.2.2.2.2, HNX.out, (fun k hk => by cases hk)⟩
  · have hb3' : (f.1 == 3) = false := by simp [h3]
    have hcn := comingNow_any w3 s f hs hI
    unfold fv at hcn
    go_wp2_with fail
    refine hcn.mono ?_
    rintro e w4 ⟨v, rfl, ho4, hb4⟩
    have k34 : Chg (fun _ => False) w3 w4 := ⟨hb4.os, hb4.tape, hb4.output, hb4.size, fun k hk _ => hb4.block k hk⟩
    have hn4 := k34.keep HALL.out.1 (fun h => h)
    have hbx4 := k34.keep HALL.out.2.1 (fun h => h)
    have hf4 := HALL.out.2.2.1.keep k34 (fun _ _ h => h)
    have hw4 : Own w4 0 vw ws := HALL.out.2.2.2.1.keep k34 (fun _ _ h => h)
    have k4 : Chg (fun k => k = n ∨ k = b ∨ some k = vw.ownBlock) w w4 := HALL.out.2.2.2.2.1.mono (fun _ _ h => .inl h) |>.then (k34.mono fun _ _ h => h.elim)
    have hlt3 : w.heap.size ≤ w3.heap.size := HALL.out.2.2.2.2.1.size
    have hcl := comeP_le s f
    by_cases hc : comeP s f = []
    · replace HR := hide (show goP fs ws s = ([], fs.tail, ws) by rw [HR.out, if_neg h3, if_pos hc])
      rw [hc] at ho4
      have HFIN := hide (And.intro (ho4.down hlt3) (And.intro hn4 (And.intro hf4 (And.intro hbx4 (And.intro hw4 (And.intro k4 ho4))))))
      obtain ⟨a4, c4, rfl⟩ := own_shape ho4
      clear ho4 hn4 hbx4 hf4 hw4 k4 hcn
      go_wp2
      go_ret
      rw [HR.out]
      refine ⟨_, _, _, rfl, HFIN.out.1, HFIN.out.2.1, HFIN.out.2.2.1, HSM.out, HFIN.out.2.2.2.1, HFIN.out.2.2.2.2.1, HFIN.out.2.2.2.2.2.1, fun k hk => .inl hk, fun k hk hk2 => ?_⟩
      have h1 := (own_lt HFIN.out.2.2.2.2.2.2 hk).1
      have h2 := (HRW.out k hk2).1
      omega
    · replace HR := hide (show goP fs ws s = (comeP s f ++ ws, fs.tail, []) by rw [HR.out, if_neg h3, if_neg hc])
      have hpos : 0 < (comeP s f).length := List.length_pos_iff.2 hc
      obtain ⟨v', w5, hrun, ho5, hgr, hnx⟩ := app_texts w4 w3.heap.size v (comeP s f) vw ws ho4 hw4.ts hb4.size (by omega) (by omega)
      have k45 := Chg.of_grown hgr
      have hvl : ∀ k, some k = v.ownBlock → w3.heap.size ≤ k := fun k hk => (own_lt ho4 hk.symm).1
      have hb5 := k45.keep hbx4 (fun h => by have := hvl b h; omega)
      have hn5 := k45.keep hn4 (fun h => by have := hvl n h; have := lt_of_heap HALL.out.1; omega)
      have hf5 := hf4.keep k45 (fun g hg h => by have := hvl g h; have := (HALL.out.2.2.2.2.2 g hg).1; omega)
      have k5 : Chg (fun k => k = n ∨ k = b ∨ some k = vw.ownBlock) w w5 := k4.trans k45 (fun i hi h => by have := hvl i h; omega)
      have c5 := cell_of hb5 0
      have t5 := thawed hb5 0
      simp only [List.getElem?_toArray, List.getElem?_cons_zero] at c5
      have hv5 : ∀ k, v'.ownBlock = some k → k ≠ b := fun k hk => by
        obtain ⟨c, fr, h⟩ := own_kind ho5 hk
        exact ne_type h hb5 (by decide)
      have kS : Chg (· = b) w5 (w5.setCell ⟨b, 0, none⟩ (.slice none 0 0)) := chg_set _ _ _ _
      have HFIN := hide (And.intro ((ho5.keep kS (fun k hk => hv5 k hk)).down hlt3) (And.intro (kS.keep hn5 hnb) (And.intro (hf5.keep kS (fun g hg => (HALL.out.2.2.2.2.2 g hg).2.1)) (And.intro (heap_set hb5 0 (.slice none 0 0)) (k5.then (kS.mono fun _ _ h => .inr (.inl h)))))))
      have c4 := cell_of hbx4 0
      simp only [List.getElem?_toArray, List.getElem?_cons_zero] at c4
      obtain ⟨a4, cc4, rfl⟩ := own_shape ho4
      obtain ⟨av, cv, rfl⟩ := own_shape hw4
      obtain ⟨av', cv', rfl⟩ := own_shape ho5
      rw [List.length_append] at hrun HFIN
      clear ho4 hn4 hbx4 hf4 hw4 k4 hcn ho5 hgr hnx k45 k5 hb5 hn5 hf5 hv5 kS k34
      generalize comeP s f = cs at *
      go_wp2_with (at_builtin; refine wpList_append_run rfl (.tmp 24) (.tmp 25) 23 rfl rfl rfl hrun ?_)
      go_ret
      rw [HR.out]
      refine ⟨_, _, _, rfl, HFIN.out.1, HFIN.out.2.1, HFIN.out.2.2.1, HSM.out, HFIN.out.2.2.2.1, Own.nil _ _, HFIN.out.2.2.2.2, (fun k hk => by cases hk), (fun k _ hk => by cases hk)⟩
end Go.Proofs.Ytgjmidlcfjgnhaa
