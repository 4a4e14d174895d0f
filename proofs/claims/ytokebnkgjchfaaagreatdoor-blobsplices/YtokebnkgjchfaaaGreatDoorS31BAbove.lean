/-
  The parts and objects of the next level, by the reference. Conditions: the parts lie there; ids of 32 bytes; sizes within a file's.
-/
import Derived.Test.YtokebnkgjchfaaaGreatDoorS28BRise
namespace Go.Proofs.YtokebnkgjchfaaaGreatDoor
open Go.RowKit

/-- The fan g under way: its kids; the parts, the objects that stand. -/
structure AbW (B : Nat) (w : World) (g : Nat) (level : Int) (vk : Value) (cur : List Part) (vp : Value) (ps : List Part) (vo : Value) (os : List Pair) : Prop where
  le : B ≤ g
  cell : w.heap[g]? = some (.cells #[.int .i64 level, vk] 90)
  kids : Rw B w 25 2 partC vk cur
  parts : Rw B w 25 2 partC vp ps
  objs : Rw B w 57 2 pairC vo os
  ne : vk.ownBlock = none ∨ vk.ownBlock ≠ vp.ownBlock
theorem AbW.below {B : Nat} {w w' : World} {g : Nat} {level : Int} {vk : Value} {cur : List Part} {vp : Value} {ps : List Part} {vo : Value} {os : List Pair} (h : AbW B w g level vk cur vp ps vo os) (hb : Below w.heap.size w w') : AbW B w' g level vk cur vp ps vo os :=
  ⟨h.le, (hb.block _ (lt_of_heap h.cell)).trans h.cell, own_below h.kids hb, own_below h.parts hb, own_below h.objs hb, h.ne⟩
theorem heap_setF {w : World} {g : Nat} {l u : Value} (h : w.heap[g]? = some (.cells #[l, u] 90)) (u' : Value) : (w.setCell ⟨g, 1, none⟩ u').heap[g]? = some (.cells #[l, u'] 90) := by
  rw [heap_setCell _ _ _ _ _ _ _ h]; simp
/-- A kid more. -/
theorem AbW.kid {B : Nat} {w : World} {g : Nat} {level : Int} {vk : Value} {cur : List Part} {vp : Value} {ps : List Part} {vo : Value} {os : List Pair} (h : AbW B w g level vk cur vp ps vo os) (p : Part) (hn : cur.length ≤ 4294967296) :
    ∃ vk' w1, (Builtin.append_ #[38, 38] 38 #[vk, .slice (some ⟨w.heap.size, 0, none⟩) 1 1]).run Tryz.prog (w.alloc (.cells #[.string (strB p.1), .int .i64 p.2] 25)).drew = .ok vk' w1 ∧
      w1.heap[g]? = some (.cells #[.int .i64 level, vk] 90) ∧ AbW B (w1.setCell ⟨g, 1, none⟩ vk') g level vk' (cur ++ [p]) vp ps vo os ∧ Below B w w1 ∧ Below B w (w1.setCell ⟨g, 1, none⟩ vk') := by
  obtain ⟨hg, hh, h1, h2, h3, hne⟩ := h
  have hB : B ≤ w.heap.size := by have := lt_of_heap hh; omega
  obtain ⟨vk', w1, hrun, hrow, hgr, hloc⟩ := app_part w.drew B vk cur p h1 hB hn
  rw [drew_alloc] at hrun hgr
  rw [show w.drew.heap.size = w.heap.size from rfl] at hrun hloc
  have h1' : Rw B (w.alloc (.cells #[.string (strB p.1), .int .i64 p.2] 25)).drew 25 2 partC vk cur := World.ownsRow.alloc h1 _
  have h2' : Rw B (w.alloc (.cells #[.string (strB p.1), .int .i64 p.2] 25)).drew 25 2 partC vp ps := World.ownsRow.alloc h2 _
  have h3' : Rw B (w.alloc (.cells #[.string (strB p.1), .int .i64 p.2] 25)).drew 57 2 pairC vo os := World.ownsRow.alloc h3 _
  have hh' := (heap_past w (.cells #[.string (strB p.1), .int .i64 p.2] 25) _ (lt_of_heap hh)).trans hh
  have hh1 := grow_keep h1' hgr (show (w.alloc _).drew.heap[g]? = _ from hh') (by decide)
  have hb0 : Below B w (w.alloc (.cells #[.string (strB p.1), .int .i64 p.2] 25)).drew := ((Below.refl _ _).alloc hB _).drew
  have hb1 : Below B w w1 := hb0.trans ((Below.refl _ _).grown hgr (by simp; omega) (fun q hq => (World.ownsRow.lt h1' q hq).1))
  have hne' : vp.ownBlock = none ∨ vp.ownBlock ≠ vk.ownBlock := by
    rcases hne with e | e
    · rw [e]
      cases hq : vp.ownBlock with
      | none => exact .inl rfl
      | some q => exact .inr (by simp)
    · exact .inr (Ne.symm e)
  refine ⟨vk', w1, hrun, hh1, ⟨hg, heap_setF hh1 _, own_setCell hrow hh1 (by decide) _, own_setCell (grow_other h2' h1' hgr hne') hh1 (by decide) _, own_setCell (grow_other h3' h1' hgr (own_ne h3' h1' (by decide))) hh1 (by decide) _, ?_⟩, hb1, hb1.setCell (p := ⟨g, 1, none⟩) hg _⟩
  rcases hloc with e | e
  · rw [e]; exact hne
  · refine .inr fun hq => ?_
    have := (World.ownsRow.lt h2 _ (hq.symm.trans e)).2
    omega
/-- A group more, and none under way. -/
theorem AbW.group {B : Nat} {w : World} {g : Nat} {level : Int} {vk : Value} {cur : List Part} {vp : Value} {ps : List Part} {vo : Value} {os : List Pair} (h : AbW B w g level vk cur vp ps vo os) (p : Part) (o : Pair) (q : Nat) (hq : w.heap[q]? = some (.cells #[.string (strB o.1), .string (strB o.2)] 57)) (hn : ps.length ≤ 4294967296) (hn2 : os.length ≤ 4294967296) :
    ∃ vp' w1 vo' w2, (Builtin.append_ #[38, 38] 38 #[vp, .slice (some ⟨w.heap.size, 0, none⟩) 1 1]).run Tryz.prog (w.alloc (.cells #[.string (strB p.1), .int .i64 p.2] 25)) = .ok vp' w1 ∧
      w1.heap[q]? = some (.cells #[.string (strB o.1), .string (strB o.2)] 57) ∧
      (Builtin.append_ #[26, 26] 26 #[vo, .slice (some ⟨w1.heap.size, 0, none⟩) 1 1]).run Tryz.prog (w1.alloc (.cells #[.string (strB o.1), .string (strB o.2)] 57)) = .ok vo' w2 ∧
      w2.heap[g]? = some (.cells #[.int .i64 level, vk] 90) ∧ AbW B (w2.setCell ⟨g, 1, none⟩ (.slice none 0 0)) g level (.slice none 0 0) [] vp' (ps ++ [p]) vo' (os ++ [o]) ∧ Below B w (w2.setCell ⟨g, 1, none⟩ (.slice none 0 0)) := by
  obtain ⟨hg, hh, -, h2, h3, -⟩ := h
  have hB : B ≤ w.heap.size := by have := lt_of_heap hh; omega
  obtain ⟨vp', w1, hrun, hrow, hgr, -⟩ := app_part w B vp ps p h2 hB hn
  have h2' : Rw B (w.alloc (.cells #[.string (strB p.1), .int .i64 p.2] 25)) 25 2 partC vp ps := World.ownsRow.alloc h2 _
  have h3' : Rw B (w.alloc (.cells #[.string (strB p.1), .int .i64 p.2] 25)) 57 2 pairC vo os := World.ownsRow.alloc h3 _
  have hh1 := grow_keep h2' hgr ((heap_past w (.cells #[.string (strB p.1), .int .i64 p.2] 25) _ (lt_of_heap hh)).trans hh) (by decide)
  have hq1 := grow_keep h2' hgr ((heap_past w (.cells #[.string (strB p.1), .int .i64 p.2] 25) _ (lt_of_heap hq)).trans hq) (by decide)
  have h31 := grow_other h3' h2' hgr (own_ne h3' h2' (by decide))
  have hb1 : Below B w w1 := ((Below.refl _ _).alloc hB _).trans ((Below.refl _ _).grown hgr (by simp; omega) (fun q hq => (World.ownsRow.lt h2' q hq).1))
  have hB1 : B ≤ w1.heap.size := by have := hb1.size; omega
  obtain ⟨vo', w2, hrun2, hrow2, hgr2, -⟩ := app_obj w1 B vo os o h31 hB1 hn2
  have h31' : Rw B (w1.alloc (.cells #[.string (strB o.1), .string (strB o.2)] 57)) 57 2 pairC vo os := World.ownsRow.alloc h31 _
  have hr1' : Rw B (w1.alloc (.cells #[.string (strB o.1), .string (strB o.2)] 57)) 25 2 partC vp' (ps ++ [p]) := World.ownsRow.alloc hrow _
  have hh2 := grow_keep h31' hgr2 ((heap_past w1 (.cells #[.string (strB o.1), .string (strB o.2)] 57) _ (lt_of_heap hh1)).trans hh1) (by decide)
  have hb2 : Below B w w2 := (hb1.alloc hB1 _).trans ((Below.refl _ _).grown hgr2 (by simp; omega) (fun q hq => (World.ownsRow.lt h31' q hq).1))
  exact ⟨vp', w1, vo', w2, hrun, hq1, hrun2, hh2, ⟨hg, heap_setF hh2 _, World.ownsRow_nil _ _ _ _, own_setCell (grow_other hr1' h31' hgr2 (own_ne hr1' h31' (by decide))) hh2 (by decide) _, own_setCell hrow2 hh2 (by decide) _, .inl rfl⟩, hb2.setCell (p := ⟨g, 1, none⟩) hg _⟩
theorem fanOk_of {level : Int} {ks : List Part} (hl1 : 1 ≤ level) (hl2 : level ≤ 20) (hk : 1 ≤ ks.length) (hk2 : ks.length ≤ 32) (hi : ∀ p ∈ ks, p.1.length = 32) (hs : ∀ p ∈ ks, 1 ≤ p.2) (hz : sizeP ks ≤ 262144) : fanOk (level, ks) = true := by
  unfold fanOk levelB isIdB
  simp only [Bool.and_eq_true, decide_eq_true_eq, List.all_eq_true]
  refine ⟨⟨⟨⟨hl1, hl2⟩, by omega⟩, fun p hp => hi p hp⟩, (within_iff _ _ (by omega)).2 ⟨fun x hx => ?_, hz⟩⟩
  obtain ⟨p, hp, rfl⟩ := List.mem_map.1 hx
  exact hs p hp
set_option maxRecDepth 40000 in
set_option maxHeartbeats 1600000 in
theorem above_any (w : World) (ps : List Part) (v : Value) (level : Int) (hv : Ls w.heap.size w 2 partC v ps) (hne : ps ≠ []) (hi : ∀ p ∈ ps, p.1.length = 32) (hs : ∀ p ∈ ps, 1 ≤ p.2) (hz : sizeP ps ≤ 262144) (hl1 : 1 ≤ level) (hl2 : level ≤ 20) :
    Calls Tryz.prog 23 #[v, .int .i64 level] w fun e w' => ∃ vp vo, e = .returned (.tuple #[vp, vo]) ∧ Rw w.heap.size w' 25 2 partC vp ((groups ps).map (fanP level)) ∧ Rw w.heap.size w' 57 2 pairC vo ((groups ps).map (fanO level)) ∧ Below w.heap.size w w' := by
  obtain ⟨ao, cap, rfl, hcap, hcap2, h4⟩ := hv
  obtain ⟨b, off, rfl, hbB, hcell⟩ := h4 hne
  unfold maxLen at hcap2
  have hb0 : Below w.heap.size w (w.alloc (.cells #[.int .i64 level, .slice none 0 0] 90)) := (Below.refl _ _).alloc (Nat.le_refl _) _
  have hx0 := heap_last w (.cells #[.int .i64 level, .slice none 0 0] 90) _ rfl
  have hA0 : AbW w.heap.size (w.alloc (.cells #[.int .i64 level, .slice none 0 0] 90)) w.heap.size level (.slice none 0 0) [] (.slice none 0 0) (([] : List (List Part)).map (fanP level)) (.slice none 0 0) (([] : List (List Part)).map (fanO level)) := ⟨Nat.le_refl _, hx0, World.ownsRow_nil _ _ _ _, World.ownsRow_nil _ _ _ _, World.ownsRow_nil _ _ _ _, .inl rfl⟩
  obtain ⟨m, hm⟩ : ∃ m, m = ps.length := ⟨_, rfl⟩
  have hm9 : m ≤ 262144 := by have := sizeP_many ps hs; omega
  have HC := hide hcell
  have HI := hide (And.intro hi (And.intro hs (And.intro hz (Gath.start hne))))
  rw [← hm] at hcap ⊢
  have HM := hide hm
  have H0 := hide (And.intro hA0 hb0)
  clear hm hi hs hz hcell h4 hA0 hb0 hx0 hne
  go_enter Tryz.func23, Tryz.ntmps23
  go_wp2_with fail
  generalize w.alloc (.cells #[.int .i64 level, .slice none 0 0] 90) = w0 at *
  go_loopw [6, 7, 9, 10] (fun vp vo t u wr => ∃ (i : Nat) (done : List (List Part)) (cur rest : List Part) (vk : Value) (z : Int), i ≤ m ∧ u = .int .i64 i ∧ t = .int .i64 z ∧ z = sizeP cur ∧ i = done.flatten.length + cur.length ∧ Gath ps done cur rest ∧ AbW w.heap.size wr w.heap.size level vk cur vp (done.map (fanP level)) vo (done.map (fanO level)) ∧ Below w.heap.size w wr)
    (fun _ _ _ u _ => m - (intOf u).toNat)
  case atStart => exact ⟨0, [], [], ps, .slice none 0 0, 0, by omega, rfl, rfl, rfl, rfl, HI.out.2.2.2, H0.out.1, H0.out.2⟩
  case round =>
    obtain ⟨i, done, cur, rest, vk, z, him, rfl, rfl, hzc, hie, hG, hA, hbw⟩ := hrel
    have hrest := hG.rest hie
    by_cases hlt : i < m
    · have hlt2 : i < ps.length := by have := HM.out; omega
      have k0 := (hbw.cell (p := ⟨b, off + i * 2 + 0, none⟩) hbB).trans (HC.out i hlt2 0 _ rfl)
      have k1 := (hbw.cell (p := ⟨b, off + i * 2 + 1, none⟩) hbB).trans (HC.out i hlt2 1 _ rfl)
      simp only [Nat.add_zero] at k0
      have hcons : ps.drop i = ps[i] :: ps.drop (i + 1) := List.drop_eq_getElem_cons hlt2
      obtain ⟨x, hx⟩ : ∃ x, x = ps[i] := ⟨_, rfl⟩
      obtain ⟨r, hr⟩ : ∃ r, r = ps.drop (i + 1) := ⟨_, rfl⟩
      rw [← hx, ← hr] at hcons
      have hrl : r.length = m - (i + 1) := by rw [hr, List.length_drop, ← HM.out]
      rw [hrest, hcons] at hG
      rw [← hx] at k0 k1
      have hxi : x.1.length = 32 := HI.out.1 x (by rw [hx]; exact List.getElem_mem hlt2)
      have hxs : 1 ≤ x.2 := HI.out.2.1 x (by rw [hx]; exact List.getElem_mem hlt2)
      have hfew := hG.few
      have hkin : ∀ p ∈ cur ++ [x], p ∈ ps := fun p hp => by
        rw [hG.all]
        rcases List.mem_append.1 hp with h | h
        · simp [h]
        · simp [List.mem_singleton.1 h]
      have hcur0 : 0 ≤ sizeP cur := sizeP_nonneg cur (fun p hp => HI.out.2.1 p (hkin p (by simp [hp])))
      have hsn : sizeP (cur ++ [x]) = z + x.2 := by rw [sizeP_append, ← hzc, sizeP_cons]; show z + (x.2 + 0) = _; omega
      have hsz : sizeP (cur ++ [x]) ≤ 262144 := by
        have e : ps = done.flatten ++ ((cur ++ [x]) ++ r) := by rw [hG.all]; simp
        have h1 := congrArg sizeP e
        rw [sizeP_append, sizeP_append] at h1
        have h2 := sizeP_nonneg done.flatten (fun p hp => HI.out.2.1 p (by rw [e]; simp [hp]))
        have h3 := sizeP_nonneg r (fun p hp => HI.out.2.1 p (by rw [e]; simp [hp]))
        have h5 := HI.out.2.2.1
        omega
      have hz0 : 0 ≤ z := by rw [hzc]; exact hcur0
      have hz1 : z + x.2 ≤ 262144 := by rw [← hsn]; exact hsz
      have hok := fanOk_of (level := level) (ks := cur ++ [x]) hl1 hl2 (by simp) (by
        have h1 := hG.go (by simp)
        have h2 := (groupN_le (cur ++ x :: r)).2
        simp; omega) (fun p hp => HI.out.1 p (hkin p hp)) (fun p hp => HI.out.2.1 p (hkin p hp)) hsz
      obtain ⟨vk', w1, hrun, hf1, hA1, hbk1, hbk2⟩ := hA.kid x (by omega)
      have g0 := cell_of_row wr w.heap.size 1 _ _ _ hA.cell
      have hAl := (Below.refl wr.heap.size wr).alloc (Nat.le_refl _) (.cells #[.string (strB x.1), .int .i64 x.2] 25)
      have hgA := (hAl.block _ (lt_of_heap hA.cell)).trans hA.cell
      have gA := cell_of_row _ w.heap.size 1 _ _ _ hgA
      have g1 := cell_of_row w1 w.heap.size 1 _ _ _ hf1
      simp only [List.getElem?_toArray, List.getElem?_cons_zero, List.getElem?_cons_succ] at g0 gA g1
      have f1 := frozen0 (j := 1) hf1
      have hbA : Below w.heap.size w (wr.alloc (.cells #[.string (strB x.1), .int .i64 x.2] 25)) := hbw.alloc hbw.size _
      have hb1w : Below w.heap.size w w1 := hbw.trans hbk1
      have hb2w : Below w.heap.size w (w1.setCell ⟨w.heap.size, 1, none⟩ vk') := hbw.trans hbk2
      have cellk : ∀ W : World, Below w.heap.size w W → W.cell? ⟨b, off + i * 2, none⟩ = some (.string (strB x.1)) ∧ W.cell? ⟨b, off + i * 2 + 1, none⟩ = some (.int .i64 x.2) := fun W hW => by
        have e0 := (hW.cell (p := ⟨b, off + i * 2 + 0, none⟩) hbB).trans (HC.out i hlt2 0 _ rfl)
        have e1 := (hW.cell (p := ⟨b, off + i * 2 + 1, none⟩) hbB).trans (HC.out i hlt2 1 _ rfl)
        simp only [Nat.add_zero] at e0
        rw [← hx] at e0 e1
        exact ⟨e0, e1⟩
      have CK := hide cellk
      have XA := hide (cellk _ hbA)
      have X1 := hide (cellk _ hb1w)
      have X2 := hide (cellk _ hb2w)
      have HRUN := hide hrun
      obtain ⟨ak, nk, ck, rfl⟩ := row_form hA1.kids
      have hnk : nk = cur.length + 1 := by
        obtain ⟨a', c', e, -⟩ := own_form hA1.kids
        injection e with _ e _
        rw [e]; simp
      obtain ⟨vka, vkm, vkc, rfl⟩ := row_form hA.kids
      have HA1 := hide (And.intro hA1 hb2w)
      have HG := hide (And.intro hG (And.intro hie (And.intro hrl (And.intro hsn (And.intro hfew hnk)))))
      have HOK := hide hok
      have hnk2 : nk ≤ 33 := by omega
      clear hrest hcons hG hie hrl hsn hfew hkin hcur0 hsz hok hA hA1 hbk1 hbk2 hAl hgA hbA hb1w hb2w hrun hf1 cellk hzc hx hr hnk hbw
      go_wp2_with fail
      refine wp_region_held_drew (S := fun W => W.cell? ⟨b, off + i * 2, none⟩ = some (.string (strB x.1)) ∧ W.cell? ⟨b, off + i * 2 + 1, none⟩ = some (.int .i64 x.2)) (by kernel_rfl) (⟨k0, k1⟩) (fun hHeld => ?_)
      refine takeJ 0 (v := ?_) ?_ hHeld ?_
      rotate_left
      · rintro w ⟨_, _⟩; go_simp; try with_reducible rfl
      refine takeJ 2 (v := ?_) ?_ hHeld ?_
      rotate_left
      · rintro w ⟨_, _⟩; go_simp; try with_reducible rfl
      refine takeJ 3 (v := ?_) ?_ hHeld ?_
      rotate_left
      · rintro w ⟨_, _⟩; go_simp; try with_reducible rfl
      refine takeJ 4 (v := ?_) ?_ hHeld ?_
      rotate_left
      · rintro w ⟨_, _⟩; go_simp; try with_reducible rfl
      refine takeJ 5 (v := ?_) ?_ hHeld ?_
      rotate_left
      · rintro w ⟨_, _⟩; go_simp; try with_reducible rfl
      refine twoH (i := 1) (j := 6) rfl rfl (by kernel_rfl) rfl rfl (fun K hK => ?_) (fun K hK => ?_)
      · go_simp
        refine hK.out _ _ (⟨k0, k1⟩) (fun hHeld => ?_)
        clear hK K
        try simp only [Act.put, List.setIfInBounds_toArray, List.set_cons_zero, List.set_cons_succ]
        refine onlyH (i := 6) rfl (by kernel_rfl) rfl (fun K hK => ?_)
        go_simp
        refine hK.out _ _ (XA.out) (fun hHeld => ?_)
        clear hK K
        try simp only [Act.put, List.setIfInBounds_toArray, List.set_cons_zero, List.set_cons_succ]
        refine onlyH (i := 7) rfl (by kernel_rfl) rfl (fun K hK => ?_)
        refine wp_append_run (.tmp 23) (.tmp 28) 38 rfl rfl rfl HRUN.out ?_
        refine hK.out _ _ (X1.out) (fun hHeld => ?_)
        clear hK K
        try simp only [Act.put, List.setIfInBounds_toArray, List.set_cons_zero, List.set_cons_succ]
        refine takeJ 8 (v := ?_) ?_ hHeld ?_
        rotate_left
        · rintro w ⟨_, _⟩; go_simp; try with_reducible rfl
        refine onlyH (i := 9) rfl (by kernel_rfl) rfl (fun K hK => ?_)
        go_simp
        refine hK.out _ _ (X2.out) (fun hHeld => ?_)
        clear hK K
        try simp only [Act.put, List.setIfInBounds_toArray, List.set_cons_zero, List.set_cons_succ]
        refine wpAnyH_done (by kernel_rfl) ?_ _
        clear hHeld
        generalize hW2 : w1.setCell ⟨w.heap.size, 1, none⟩ (.slice ak nk ck) = w2 at *
        have hA2 := HA1.out.1
        have q1 := cell_of_row w2 w.heap.size 1 _ _ _ hA2.cell
        simp only [List.getElem?_toArray, List.getElem?_cons_zero, List.getElem?_cons_succ] at q1
        obtain ⟨y0, y1⟩ := X2.out
        have hen := rends2_any w2.drew (nk : Int) x.1 hxi (by omega) (by omega)
        obtain ⟨en, hen0⟩ : ∃ en, endsG nk x.1 = en := ⟨_, rfl⟩
        rw [show (decide (2 ≤ (nk : Int)) && endG x.1 || (nk : Int) == 32) = en from hen0] at hen
        have HEN := hide hen0
        clear hA2 hen0 HRUN XA X1 hW2 g0 gA g1 f1 k0 k1
        go_wp2_with fail
        refine wp_region_held_drew (S := fun W => W.cell? ⟨w.heap.size, 1, none⟩ = some (.slice ak nk ck) ∧ W.cell? ⟨b, off + i * 2, none⟩ = some (.string (strB x.1))) (by kernel_rfl) (⟨q1, y0⟩) (fun hHeld => ?_)
        refine takeJ 0 (v := ?_) ?_ hHeld ?_
        rotate_left
        · rintro w ⟨_, _⟩; go_simp; try with_reducible rfl
        refine takeJ 1 (v := ?_) ?_ hHeld ?_
        rotate_left
        · rintro w ⟨_, _⟩; go_simp; try with_reducible rfl
        refine takeJ 2 (v := ?_) ?_ hHeld ?_
        rotate_left
        · rintro w ⟨_, _⟩; go_simp; try with_reducible rfl
        refine takeJ 3 (v := ?_) ?_ hHeld ?_
        rotate_left
        · rintro w ⟨_, _⟩; go_simp; try with_reducible rfl
        refine takeJ 4 (v := ?_) ?_ hHeld ?_
        rotate_left
        · rintro w ⟨_, _⟩; go_simp; try with_reducible rfl
        refine takeJ 5 (v := ?_) ?_ hHeld ?_
        rotate_left
        · rintro w ⟨_, _⟩; go_simp; try with_reducible rfl
        refine takeJ 6 (v := ?_) ?_ hHeld ?_
        rotate_left
        · rintro w ⟨_, _⟩; go_simp; try with_reducible rfl
        refine takeJ 7 (v := ?_) ?_ hHeld ?_
        rotate_left
        · rintro w ⟨_, _⟩; go_simp; try with_reducible rfl
        refine onlyH (i := 8) rfl (by kernel_rfl) rfl (fun K hK => ?_)
        go_simp
        refine hen.mono ?_
        rintro e w3 ⟨rfl, hb3⟩
        have hb23 : Below w2.heap.size w2 w3 := (Below.refl w2.heap.size w2).drew.trans hb3
        have hA3 := HA1.out.1.below hb23
        have hB3 := HA1.out.2.trans (hb23.mono HA1.out.2.size)
        have q0 := cell_of_row w3 w.heap.size 0 _ _ _ hA3.cell
        have q3 := cell_of_row w3 w.heap.size 1 _ _ _ hA3.cell
        simp only [List.getElem?_toArray, List.getElem?_cons_zero, List.getElem?_cons_succ] at q0 q3
        have y3 := (CK.out w3 hB3).1
        refine hK.out _ _ (⟨q3, y3⟩) (fun hHeld => ?_)
        clear hK K
        try simp only [Act.put, List.setIfInBounds_toArray, List.set_cons_zero, List.set_cons_succ]
        refine takeJ 9 (v := ?_) ?_ hHeld ?_
        rotate_left
        · rintro w ⟨_, _⟩; go_simp; try with_reducible rfl
        refine wpAnyH_done (by kernel_rfl) ?_ _
        clear hHeld hen hb3 hb23 q1 y0 y1
        have H3 := hide (And.intro hA3 hB3)
        have hnk := HG.out.2.2.2.2.2
        have hE : endsG (cur.length + 1) x.1 = en := by rw [← hnk]; exact HEN.out
        have hrl := HG.out.2.2.1
        have HNK := hide hnk
        clear hA3 hB3 hnk
        by_cases hc : en = true ∨ r = []
        · have hcl := HG.out.1.close (by rw [hE]; exact hc)
          have hlast : r = [] → ((i : Int) == (m : Int) - 1) = true := fun e => by rw [e] at hrl; simp at hrl; simp; omega
          have hfan := rfan_any w3 (level, cur ++ [x]) (.slice ak nk ck) ((ls_of_own partC_length H3.out.1.kids).up (Nat.le_refl _)) ⟨by omega, by omega⟩
          rw [HOK.out] at hfan
          unfold made at hfan
          simp only [if_true] at hfan
          rw [objV_def] at hfan
          obtain ⟨fb, hfb⟩ : ∃ fb, fb = fanB (level, cur ++ [x]) := ⟨_, rfl⟩
          rw [← hfb] at hfan
          obtain ⟨sc, hsc⟩ : ∃ sc, sc = sha (70 :: fb) := ⟨_, rfl⟩
          rw [← hsc] at hfan
          have HSC := hide (And.intro hsc hfb)
          have HCL := hide hcl
          have HLA := hide hlast
          clear hcl hsc hfb hlast hE hrl
          have hc2 : en = true ∨ (en = false ∧ r = []) := by
            cases en
            · exact .inr ⟨rfl, by simpa using hc⟩
            · exact .inl rfl
          clear hc
          rcases hc2 with hc | ⟨hc, hr⟩
          all_goals
            subst hc
            try (have hla := HLA.out hr; clear hr)
            go_wp2_with fail
            refine hfan.mono ?_
            rintro e w4 ⟨rfl, hb4⟩
            have hA4 := H3.out.1.below hb4
            have hB4 := H3.out.2.trans (hb4.mono H3.out.2.size)
            have hb5 : Below w4.heap.size w4 (w4.alloc (.cells #[.string (strB sc), .string (strB (70 :: fb))] 57)) := (Below.refl _ _).alloc (Nat.le_refl _) _
            have hx5 := heap_last w4 (.cells #[.string (strB sc), .string (strB (70 :: fb))] 57) _ rfl
            have hA5 := hA4.below hb5
            have hB5 := hB4.trans (hb5.mono hB4.size)
            generalize hw5 : w4.alloc (.cells #[.string (strB sc), .string (strB (70 :: fb))] 57) = w5 at *
            obtain ⟨vp', w6, vo', w7, run6, hx6, run7, hf7, hA8, hb8⟩ := hA5.group (sc, z + x.2) (sc, 70 :: fb) w4.heap.size hx5 (by have := HG.out.2.2.2.2.1.1; rw [List.length_map]; have := HM.out; omega) (by have := HG.out.2.2.2.2.1.1; rw [List.length_map]; have := HM.out; omega)
            have x0 := cell_of_row w5 w4.heap.size 0 _ _ _ hx5
            have z0 := cell_of_row w6 w4.heap.size 0 _ _ _ hx6
            have z1 := cell_of_row w6 w4.heap.size 1 _ _ _ hx6
            have g7 := cell_of_row w7 w.heap.size 1 _ _ _ hf7
            simp only [List.getElem?_toArray, List.getElem?_cons_zero, List.getElem?_cons_succ] at x0 z0 z1 g7
            have f7 := frozen0 (j := 1) hf7
            have R6 := hide run6
            have R7 := hide run7
            obtain ⟨pa, pm, pc, rfl⟩ := row_form hA8.parts
            obtain ⟨oa, om, oc, rfl⟩ := row_form hA8.objs
            obtain ⟨pa0, pm0, pc0, rfl⟩ := row_form hA5.parts
            obtain ⟨oa0, om0, oc0, rfl⟩ := row_form hA5.objs
            have H8 := hide (And.intro hA8 (hB5.trans hb8))
            clear hfan hb4 hA4 hB4 hb5 hx5 hA5 hB5 run6 run7 hx6 hf7 hA8 hb8
            go_wp2_with (at_builtin; first | refine wpList_plain rfl (fun K hK => wp_append_run (.tmp 60) (.tmp 65) 38 rfl rfl rfl R6.out (hK _ _ ?_)) | refine wpList_plain rfl (fun K hK => wp_append_run (.tmp 67) (.tmp 69) 26 rfl rfl rfl R7.out (hK _ _ ?_)))
            go_wp2
            go_roundw
            case rel =>
              refine ⟨i + 1, done ++ [cur ++ [x]], [], r, .slice none 0 0, 0, by omega, by go_num, rfl, rfl, ?_, HCL.out, ?_, H8.out.2⟩
              · have := HG.out.2.1
                simp only [List.flatten_append, List.flatten_singleton, List.length_append, List.length_singleton, List.length_nil]
                omega
              · have e1 : (done ++ [cur ++ [x]]).map (fanP level) = done.map (fanP level) ++ [(sc, z + x.2)] := by rw [List.map_append]; unfold fanP fanO; rw [HSC.out.1, HSC.out.2, ← HG.out.2.2.2.1]; rfl
                have e2 : (done ++ [cur ++ [x]]).map (fanO level) = done.map (fanO level) ++ [(sc, 70 :: fb)] := by rw [List.map_append]; unfold fanO; rw [HSC.out.1, HSC.out.2]; rfl
                rw [e1, e2]
                exact H8.out.1
            case measure => simp [intOf]; omega
        · have hen2 : en = false := by cases en with
            | false => rfl
            | true => exact absurd (.inl rfl) hc
          have hnx := HG.out.1.next (by rw [hE]; exact hc)
          have hrn : 1 ≤ r.length := by
            rcases r with _ | ⟨a, t⟩
            · exact absurd (.inr rfl) hc
            · simp
          have hla : ((i : Int) == (m : Int) - 1) = false := by rw [beq_eq_false_iff_ne]; omega
          subst hen2
          have HNX := hide hnx
          clear hnx hc hE hrl hrn
          go_wp2
          go_roundw
          case rel =>
            refine ⟨i + 1, done, cur ++ [x], r, .slice ak nk ck, z + x.2, by omega, by go_num, rfl, HG.out.2.2.2.1.symm, ?_, HNX.out, H3.out.1, H3.out.2⟩
            have := HG.out.2.1
            simp only [List.length_append, List.length_singleton]
            omega
          case measure => simp [intOf]; omega
      · go_simp
        refine hK.out _ _ (XA.out) (fun hHeld => ?_)
        clear hK K
        try simp only [Act.put, List.setIfInBounds_toArray, List.set_cons_zero, List.set_cons_succ]
        refine onlyH (i := 1) rfl (by kernel_rfl) rfl (fun K hK => ?_)
        go_simp
        refine hK.out _ _ (XA.out) (fun hHeld => ?_)
        clear hK K
        try simp only [Act.put, List.setIfInBounds_toArray, List.set_cons_zero, List.set_cons_succ]
        refine onlyH (i := 7) rfl (by kernel_rfl) rfl (fun K hK => ?_)
        refine wp_append_run (.tmp 23) (.tmp 28) 38 rfl rfl rfl HRUN.out ?_
        refine hK.out _ _ (X1.out) (fun hHeld => ?_)
        clear hK K
        try simp only [Act.put, List.setIfInBounds_toArray, List.set_cons_zero, List.set_cons_succ]
        refine takeJ 8 (v := ?_) ?_ hHeld ?_
        rotate_left
        · rintro w ⟨_, _⟩; go_simp; try with_reducible rfl
        refine onlyH (i := 9) rfl (by kernel_rfl) rfl (fun K hK => ?_)
        go_simp
        refine hK.out _ _ (X2.out) (fun hHeld => ?_)
        clear hK K
        try simp only [Act.put, List.setIfInBounds_toArray, List.set_cons_zero, List.set_cons_succ]
        refine wpAnyH_done (by kernel_rfl) ?_ _
        clear hHeld
        generalize hW2 : w1.setCell ⟨w.heap.size, 1, none⟩ (.slice ak nk ck) = w2 at *
        have hA2 := HA1.out.1
        have q1 := cell_of_row w2 w.heap.size 1 _ _ _ hA2.cell
        simp only [List.getElem?_toArray, List.getElem?_cons_zero, List.getElem?_cons_succ] at q1
        obtain ⟨y0, y1⟩ := X2.out
        have hen := rends2_any w2.drew (nk : Int) x.1 hxi (by omega) (by omega)
        obtain ⟨en, hen0⟩ : ∃ en, endsG nk x.1 = en := ⟨_, rfl⟩
        rw [show (decide (2 ≤ (nk : Int)) && endG x.1 || (nk : Int) == 32) = en from hen0] at hen
        have HEN := hide hen0
        clear hA2 hen0 HRUN XA X1 hW2 g0 gA g1 f1 k0 k1
        go_wp2_with fail
        refine wp_region_held_drew (S := fun W => W.cell? ⟨w.heap.size, 1, none⟩ = some (.slice ak nk ck) ∧ W.cell? ⟨b, off + i * 2, none⟩ = some (.string (strB x.1))) (by kernel_rfl) (⟨q1, y0⟩) (fun hHeld => ?_)
        refine takeJ 0 (v := ?_) ?_ hHeld ?_
        rotate_left
        · rintro w ⟨_, _⟩; go_simp; try with_reducible rfl
        refine takeJ 1 (v := ?_) ?_ hHeld ?_
        rotate_left
        · rintro w ⟨_, _⟩; go_simp; try with_reducible rfl
        refine takeJ 2 (v := ?_) ?_ hHeld ?_
        rotate_left
        · rintro w ⟨_, _⟩; go_simp; try with_reducible rfl
        refine takeJ 3 (v := ?_) ?_ hHeld ?_
        rotate_left
        · rintro w ⟨_, _⟩; go_simp; try with_reducible rfl
        refine takeJ 4 (v := ?_) ?_ hHeld ?_
        rotate_left
        · rintro w ⟨_, _⟩; go_simp; try with_reducible rfl
        refine takeJ 5 (v := ?_) ?_ hHeld ?_
        rotate_left
        · rintro w ⟨_, _⟩; go_simp; try with_reducible rfl
        refine takeJ 6 (v := ?_) ?_ hHeld ?_
        rotate_left
        · rintro w ⟨_, _⟩; go_simp; try with_reducible rfl
        refine takeJ 7 (v := ?_) ?_ hHeld ?_
        rotate_left
        · rintro w ⟨_, _⟩; go_simp; try with_reducible rfl
        refine onlyH (i := 8) rfl (by kernel_rfl) rfl (fun K hK => ?_)
        go_simp
        refine hen.mono ?_
        rintro e w3 ⟨rfl, hb3⟩
        have hb23 : Below w2.heap.size w2 w3 := (Below.refl w2.heap.size w2).drew.trans hb3
        have hA3 := HA1.out.1.below hb23
        have hB3 := HA1.out.2.trans (hb23.mono HA1.out.2.size)
        have q0 := cell_of_row w3 w.heap.size 0 _ _ _ hA3.cell
        have q3 := cell_of_row w3 w.heap.size 1 _ _ _ hA3.cell
        simp only [List.getElem?_toArray, List.getElem?_cons_zero, List.getElem?_cons_succ] at q0 q3
        have y3 := (CK.out w3 hB3).1
        refine hK.out _ _ (⟨q3, y3⟩) (fun hHeld => ?_)
        clear hK K
        try simp only [Act.put, List.setIfInBounds_toArray, List.set_cons_zero, List.set_cons_succ]
        refine takeJ 9 (v := ?_) ?_ hHeld ?_
        rotate_left
        · rintro w ⟨_, _⟩; go_simp; try with_reducible rfl
        refine wpAnyH_done (by kernel_rfl) ?_ _
        clear hHeld hen hb3 hb23 q1 y0 y1
        have H3 := hide (And.intro hA3 hB3)
        have hnk := HG.out.2.2.2.2.2
        have hE : endsG (cur.length + 1) x.1 = en := by rw [← hnk]; exact HEN.out
        have hrl := HG.out.2.2.1
        have HNK := hide hnk
        clear hA3 hB3 hnk
        by_cases hc : en = true ∨ r = []
        · have hcl := HG.out.1.close (by rw [hE]; exact hc)
          have hlast : r = [] → ((i : Int) == (m : Int) - 1) = true := fun e => by rw [e] at hrl; simp at hrl; simp; omega
          have hfan := rfan_any w3 (level, cur ++ [x]) (.slice ak nk ck) ((ls_of_own partC_length H3.out.1.kids).up (Nat.le_refl _)) ⟨by omega, by omega⟩
          rw [HOK.out] at hfan
          unfold made at hfan
          simp only [if_true] at hfan
          rw [objV_def] at hfan
          obtain ⟨fb, hfb⟩ : ∃ fb, fb = fanB (level, cur ++ [x]) := ⟨_, rfl⟩
          rw [← hfb] at hfan
          obtain ⟨sc, hsc⟩ : ∃ sc, sc = sha (70 :: fb) := ⟨_, rfl⟩
          rw [← hsc] at hfan
          have HSC := hide (And.intro hsc hfb)
          have HCL := hide hcl
          have HLA := hide hlast
          clear hcl hsc hfb hlast hE hrl
          have hc2 : en = true ∨ (en = false ∧ r = []) := by
            cases en
            · exact .inr ⟨rfl, by simpa using hc⟩
            · exact .inl rfl
          clear hc
          rcases hc2 with hc | ⟨hc, hr⟩
          all_goals
            subst hc
            try (have hla := HLA.out hr; clear hr)
            go_wp2_with fail
            refine hfan.mono ?_
            rintro e w4 ⟨rfl, hb4⟩
            have hA4 := H3.out.1.below hb4
            have hB4 := H3.out.2.trans (hb4.mono H3.out.2.size)
            have hb5 : Below w4.heap.size w4 (w4.alloc (.cells #[.string (strB sc), .string (strB (70 :: fb))] 57)) := (Below.refl _ _).alloc (Nat.le_refl _) _
            have hx5 := heap_last w4 (.cells #[.string (strB sc), .string (strB (70 :: fb))] 57) _ rfl
            have hA5 := hA4.below hb5
            have hB5 := hB4.trans (hb5.mono hB4.size)
            generalize hw5 : w4.alloc (.cells #[.string (strB sc), .string (strB (70 :: fb))] 57) = w5 at *
            obtain ⟨vp', w6, vo', w7, run6, hx6, run7, hf7, hA8, hb8⟩ := hA5.group (sc, z + x.2) (sc, 70 :: fb) w4.heap.size hx5 (by have := HG.out.2.2.2.2.1.1; rw [List.length_map]; have := HM.out; omega) (by have := HG.out.2.2.2.2.1.1; rw [List.length_map]; have := HM.out; omega)
            have x0 := cell_of_row w5 w4.heap.size 0 _ _ _ hx5
            have z0 := cell_of_row w6 w4.heap.size 0 _ _ _ hx6
            have z1 := cell_of_row w6 w4.heap.size 1 _ _ _ hx6
            have g7 := cell_of_row w7 w.heap.size 1 _ _ _ hf7
            simp only [List.getElem?_toArray, List.getElem?_cons_zero, List.getElem?_cons_succ] at x0 z0 z1 g7
            have f7 := frozen0 (j := 1) hf7
            have R6 := hide run6
            have R7 := hide run7
            obtain ⟨pa, pm, pc, rfl⟩ := row_form hA8.parts
            obtain ⟨oa, om, oc, rfl⟩ := row_form hA8.objs
            obtain ⟨pa0, pm0, pc0, rfl⟩ := row_form hA5.parts
            obtain ⟨oa0, om0, oc0, rfl⟩ := row_form hA5.objs
            have H8 := hide (And.intro hA8 (hB5.trans hb8))
            clear hfan hb4 hA4 hB4 hb5 hx5 hA5 hB5 run6 run7 hx6 hf7 hA8 hb8
            go_wp2_with (at_builtin; first | refine wpList_plain rfl (fun K hK => wp_append_run (.tmp 60) (.tmp 65) 38 rfl rfl rfl R6.out (hK _ _ ?_)) | refine wpList_plain rfl (fun K hK => wp_append_run (.tmp 67) (.tmp 69) 26 rfl rfl rfl R7.out (hK _ _ ?_)))
            go_wp2
            go_roundw
            case rel =>
              refine ⟨i + 1, done ++ [cur ++ [x]], [], r, .slice none 0 0, 0, by omega, by go_num, rfl, rfl, ?_, HCL.out, ?_, H8.out.2⟩
              · have := HG.out.2.1
                simp only [List.flatten_append, List.flatten_singleton, List.length_append, List.length_singleton, List.length_nil]
                omega
              · have e1 : (done ++ [cur ++ [x]]).map (fanP level) = done.map (fanP level) ++ [(sc, z + x.2)] := by rw [List.map_append]; unfold fanP fanO; rw [HSC.out.1, HSC.out.2, ← HG.out.2.2.2.1]; rfl
                have e2 : (done ++ [cur ++ [x]]).map (fanO level) = done.map (fanO level) ++ [(sc, 70 :: fb)] := by rw [List.map_append]; unfold fanO; rw [HSC.out.1, HSC.out.2]; rfl
                rw [e1, e2]
                exact H8.out.1
            case measure => simp [intOf]; omega
        · have hen2 : en = false := by cases en with
            | false => rfl
            | true => exact absurd (.inl rfl) hc
          have hnx := HG.out.1.next (by rw [hE]; exact hc)
          have hrn : 1 ≤ r.length := by
            rcases r with _ | ⟨a, t⟩
            · exact absurd (.inr rfl) hc
            · simp
          have hla : ((i : Int) == (m : Int) - 1) = false := by rw [beq_eq_false_iff_ne]; omega
          subst hen2
          have HNX := hide hnx
          clear hnx hc hE hrl hrn
          go_wp2
          go_roundw
          case rel =>
            refine ⟨i + 1, done, cur ++ [x], r, .slice ak nk ck, z + x.2, by omega, by go_num, rfl, HG.out.2.2.2.1.symm, ?_, HNX.out, H3.out.1, H3.out.2⟩
            have := HG.out.2.1
            simp only [List.length_append, List.length_singleton]
            omega
          case measure => simp [intOf]; omega
    · obtain rfl : i = m := by omega
      rw [HM.out, List.drop_length] at hrest
      rw [hrest] at hG
      have hst := hG.stop
      rw [← hst] at hA
      have HA := hide (And.intro hA hbw)
      obtain ⟨pa, pm, pc, rfl⟩ := row_form hA.parts
      obtain ⟨oa, om, oc, rfl⟩ := row_form hA.objs
      clear hrest hG hst hA hbw hie hzc
      go_wp2
      go_ret2
      exact ⟨_, _, rfl, HA.out.1.parts, HA.out.1.objs, HA.out.2⟩
end Go.Proofs.YtokebnkgjchfaaaGreatDoor
