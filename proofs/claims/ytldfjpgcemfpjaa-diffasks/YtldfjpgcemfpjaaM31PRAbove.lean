/-
  The links and objects of the next level of a map, by the reference. Conditions: the links lie there, and are right.
-/
import Derived.Test.YtldfjpgcemfpjaaM30DChange2
namespace Go.Proofs.Ytldfjpgcemfpjaa
open Go.RowKit

/-- What has been gathered: whole groups, the one under way, the rest. -/
structure Gat {α : Type} (e : Nat → α → Bool) (ks : List α) (done : List (List α)) (cur rest : List α) : Prop where
  all : ks = done.flatten ++ (cur ++ rest)
  grp : gath e [] ks = done ++ gath e cur rest
  fin : rest = [] → cur = []
  small : cur.length < 64
theorem Gat.start {α : Type} (e : Nat → α → Bool) (ks : List α) : Gat e ks [] [] ks := ⟨rfl, rfl, fun _ => rfl, by simp⟩
theorem Gat.next {α : Type} {e : Nat → α → Bool} {ks : List α} {done : List (List α)} {cur r : List α} {x : α} (h : Gat e ks done cur (x :: r)) (h64 : ∀ y, e 64 y = true) (he : ¬ (e (cur.length + 1) x = true ∨ r = [])) : Gat e ks done (cur ++ [x]) r := by
  have h1 : ¬ e (cur.length + 1) x = true := fun q => he (.inl q)
  refine ⟨by rw [h.all]; simp, by rw [h.grp, gath, if_neg h1], fun q => absurd (.inr q) he, ?_⟩
  have : cur.length + 1 ≠ 64 := fun q => h1 (by rw [q]; exact h64 x)
  have := h.small
  simp
  omega
theorem Gat.close {α : Type} {e : Nat → α → Bool} {ks : List α} {done : List (List α)} {cur r : List α} {x : α} (h : Gat e ks done cur (x :: r)) (he : e (cur.length + 1) x = true ∨ r = []) : Gat e ks (done ++ [cur ++ [x]]) [] r := by
  refine ⟨by rw [h.all]; simp, ?_, fun _ => rfl, by simp⟩
  rw [h.grp, gath]
  by_cases h1 : e (cur.length + 1) x = true
  · rw [if_pos h1]; simp
  · rw [if_neg h1]
    rcases he with q | q
    · exact absurd q h1
    · subst q
      rw [gath, gath]
      simp
theorem Gat.stop {α : Type} {e : Nat → α → Bool} {ks : List α} {done : List (List α)} {cur : List α} (h : Gat e ks done cur []) : gath e [] ks = done := by
  rw [h.grp, h.fin rfl, gath]
  simp
theorem Gat.rest {α : Type} {e : Nat → α → Bool} {ks : List α} {done : List (List α)} {cur rest : List α} (h : Gat e ks done cur rest) {i : Nat} (hi : i = done.flatten.length + cur.length) : rest = ks.drop i := by
  have : ks = (done.flatten ++ cur) ++ rest := by rw [h.all]; simp
  rw [this, hi, ← List.length_append, List.drop_left]
theorem Gat.few {α : Type} {e : Nat → α → Bool} {ks : List α} {done : List (List α)} {cur rest : List α} (h : Gat e ks done cur rest) : done.length ≤ ks.length := by
  have h1 := gath_le e ks []
  rw [h.grp, List.length_append] at h1
  simp at h1
  omega
/-- The branch g under way: its kids; the links, the objects that stand. -/
structure AbL (B : Nat) (w : World) (g : Nat) (level : Int) (vk : Value) (cur : List Link) (vp : Value) (ks : List Link) (vo : Value) (os : List Pair) : Prop where
  le : B ≤ g
  cell : w.heap[g]? = some (.cells #[.int .i64 level, vk] 99)
  kids : Rw B w 81 3 linkC vk cur
  links : Rw B w 81 3 linkC vp ks
  objs : Rw B w 73 2 pairC vo os
  ne : vk.ownBlock = none ∨ vk.ownBlock ≠ vp.ownBlock
theorem AbL.below {B : Nat} {w w' : World} {g : Nat} {level : Int} {vk : Value} {cur : List Link} {vp : Value} {ks : List Link} {vo : Value} {os : List Pair} (h : AbL B w g level vk cur vp ks vo os) (hb : Below w.heap.size w w') : AbL B w' g level vk cur vp ks vo os :=
  ⟨h.le, (hb.block _ (lt_of_heap h.cell)).trans h.cell, own_below h.kids hb, own_below h.links hb, own_below h.objs hb, h.ne⟩
theorem heap_setB {w : World} {g : Nat} {l u : Value} (h : w.heap[g]? = some (.cells #[l, u] 99)) (u' : Value) : (w.setCell ⟨g, 1, none⟩ u').heap[g]? = some (.cells #[l, u'] 99) := by
  rw [heap_setCell _ _ _ _ _ _ _ h]; simp
/-- A kid more. -/
theorem AbL.kid {B : Nat} {w : World} {g : Nat} {level : Int} {vk : Value} {cur : List Link} {vp : Value} {ks : List Link} {vo : Value} {os : List Pair} (h : AbL B w g level vk cur vp ks vo os) (p : Link) (hn : cur.length ≤ 4294967296) :
    ∃ vk' w1, (Builtin.append_ #[76, 76] 76 #[vk, .slice (some ⟨w.heap.size, 0, none⟩) 1 1]).run Try.prog (w.alloc (.cells #[.string (strB p.1), .string (strB p.2.1), .int .i64 p.2.2] 81)).drew = .ok vk' w1 ∧
      w1.heap[g]? = some (.cells #[.int .i64 level, vk] 99) ∧ AbL B (w1.setCell ⟨g, 1, none⟩ vk') g level vk' (cur ++ [p]) vp ks vo os ∧ Below B w w1 ∧ Below B w (w1.setCell ⟨g, 1, none⟩ vk') := by
  obtain ⟨hg, hh, h1, h2, h3, hne⟩ := h
  have hB : B ≤ w.heap.size := by have := lt_of_heap hh; omega
  obtain ⟨vk', w1, hrun, hrow, hgr, hloc⟩ := app_link w.drew B vk cur p h1 hB hn
  rw [drew_alloc] at hrun hgr
  rw [show w.drew.heap.size = w.heap.size from rfl] at hrun hloc
  have h1' : Rw B (w.alloc (.cells #[.string (strB p.1), .string (strB p.2.1), .int .i64 p.2.2] 81)).drew 81 3 linkC vk cur := World.ownsRow.alloc h1 _
  have h2' : Rw B (w.alloc (.cells #[.string (strB p.1), .string (strB p.2.1), .int .i64 p.2.2] 81)).drew 81 3 linkC vp ks := World.ownsRow.alloc h2 _
  have h3' : Rw B (w.alloc (.cells #[.string (strB p.1), .string (strB p.2.1), .int .i64 p.2.2] 81)).drew 73 2 pairC vo os := World.ownsRow.alloc h3 _
  have hh' := (heap_past w (.cells #[.string (strB p.1), .string (strB p.2.1), .int .i64 p.2.2] 81) _ (lt_of_heap hh)).trans hh
  have hh1 := grow_keep h1' hgr (show (w.alloc _).drew.heap[g]? = _ from hh') (by decide)
  have hb0 : Below B w (w.alloc (.cells #[.string (strB p.1), .string (strB p.2.1), .int .i64 p.2.2] 81)).drew := ((Below.refl _ _).alloc hB _).drew
  have hb1 : Below B w w1 := hb0.trans ((Below.refl _ _).grown hgr (by simp; omega) (fun q hq => (World.ownsRow.lt h1' q hq).1))
  have hne' : vp.ownBlock = none ∨ vp.ownBlock ≠ vk.ownBlock := by
    rcases hne with e | e
    · rw [e]
      cases hq : vp.ownBlock with
      | none => exact .inl rfl
      | some q => exact .inr (by simp)
    · exact .inr (Ne.symm e)
  refine ⟨vk', w1, hrun, hh1, ⟨hg, heap_setB hh1 _, own_setCell hrow hh1 (by decide) _, own_setCell (grow_other h2' h1' hgr hne') hh1 (by decide) _, own_setCell (grow_other h3' h1' hgr (own_ne h3' h1' (by decide))) hh1 (by decide) _, ?_⟩, hb1, hb1.setCell (p := ⟨g, 1, none⟩) hg _⟩
  rcases hloc with e | e
  · rw [e]; exact hne
  · refine .inr fun hq => ?_
    have := (World.ownsRow.lt h2 _ (hq.symm.trans e)).2
    omega
/-- A link and an object more. -/
theorem add_both {B : Nat} {w : World} {vp : Value} {ks : List Link} {vo : Value} {os : List Pair} (h2 : Rw B w 81 3 linkC vp ks) (h3 : Rw B w 73 2 pairC vo os) (p : Link) (o : Pair) (q : Nat) (hq : w.heap[q]? = some (.cells #[.string (strB o.1), .string (strB o.2)] 73)) (hB : B ≤ w.heap.size) (hn : ks.length ≤ 4294967296) (hn2 : os.length ≤ 4294967296) :
    ∃ vp' w1 vo' w2, (Builtin.append_ #[76, 76] 76 #[vp, .slice (some ⟨w.heap.size, 0, none⟩) 1 1]).run Try.prog (w.alloc (.cells #[.string (strB p.1), .string (strB p.2.1), .int .i64 p.2.2] 81)).drew = .ok vp' w1 ∧
      w1.heap[q]? = some (.cells #[.string (strB o.1), .string (strB o.2)] 73) ∧ Below B w w1 ∧
      (Builtin.append_ #[22, 22] 22 #[vo, .slice (some ⟨w1.heap.size, 0, none⟩) 1 1]).run Try.prog (w1.alloc (.cells #[.string (strB o.1), .string (strB o.2)] 73)) = .ok vo' w2 ∧
      Rw B w2 81 3 linkC vp' (ks ++ [p]) ∧ Rw B w2 73 2 pairC vo' (os ++ [o]) ∧ Below B w w2 ∧ (∀ (g : Nat) (cs : Array Value) (t : TypeId) (fr : Nat × Nat), w.heap[g]? = some (.cells cs t fr) → t ≠ 81 → t ≠ 73 → w2.heap[g]? = some (.cells cs t fr)) := by
  obtain ⟨vp', w1, hrun, hrow, hgr, -⟩ := app_link w.drew B vp ks p h2 hB hn
  rw [drew_alloc] at hrun hgr
  rw [show w.drew.heap.size = w.heap.size from rfl] at hrun
  have h2' : Rw B (w.alloc (.cells #[.string (strB p.1), .string (strB p.2.1), .int .i64 p.2.2] 81)).drew 81 3 linkC vp ks := World.ownsRow.alloc h2 _
  have h3' : Rw B (w.alloc (.cells #[.string (strB p.1), .string (strB p.2.1), .int .i64 p.2.2] 81)).drew 73 2 pairC vo os := World.ownsRow.alloc h3 _
  have hk1 : ∀ (g : Nat) (cs : Array Value) (t : TypeId) (fr : Nat × Nat), w.heap[g]? = some (.cells cs t fr) → t ≠ 81 → w1.heap[g]? = some (.cells cs t fr) := fun g cs t fr hg ht =>
    grow_keep h2' hgr (show (w.alloc _).drew.heap[g]? = _ from (heap_past w (.cells #[.string (strB p.1), .string (strB p.2.1), .int .i64 p.2.2] 81) _ (lt_of_heap hg)).trans hg) ht
  have hq1 := hk1 q _ _ _ hq (by decide)
  have h31 := grow_other h3' h2' hgr (own_ne h3' h2' (by decide))
  have hb1 : Below B w w1 := ((Below.refl _ _).alloc hB _).drew.trans ((Below.refl _ _).grown hgr (by simp; omega) (fun q hq => (World.ownsRow.lt h2' q hq).1))
  have hB1 : B ≤ w1.heap.size := by have := hb1.size; omega
  obtain ⟨vo', w2, hrun2, hrow2, hgr2, -⟩ := app_obj w1 B vo os o h31 hB1 hn2
  have h31' : Rw B (w1.alloc (.cells #[.string (strB o.1), .string (strB o.2)] 73)) 73 2 pairC vo os := World.ownsRow.alloc h31 _
  have hr1' : Rw B (w1.alloc (.cells #[.string (strB o.1), .string (strB o.2)] 73)) 81 3 linkC vp' (ks ++ [p]) := World.ownsRow.alloc hrow _
  have hb2 : Below B w w2 := (hb1.alloc hB1 _).trans ((Below.refl _ _).grown hgr2 (by simp; omega) (fun q hq => (World.ownsRow.lt h31' q hq).1))
  exact ⟨vp', w1, vo', w2, hrun, hq1, hb1, hrun2, grow_other hr1' h31' hgr2 (own_ne hr1' h31' (by decide)), hrow2, hb2, fun g cs t fr hg ht ht2 => grow_keep h31' hgr2 ((heap_past w1 (.cells #[.string (strB o.1), .string (strB o.2)] 73) _ (lt_of_heap (hk1 g cs t fr hg ht))).trans (hk1 g cs t fr hg ht)) ht2⟩
set_option maxRecDepth 40000 in
set_option maxHeartbeats 3200000 in
theorem above12_any (w : World) (j : Nat) (ks : List Link) (raw : List Pair) (v : Value) (hv : Ls w.heap.size w 3 linkC v ks) (h : LevOk j ks raw) (hj : j < 13) :
    Calls Try.prog 32 #[v, .int .i64 ((j + 1 : Nat) : Int)] w fun e w' => ∃ vp vo, e = .returned (.tuple #[vp, vo]) ∧ Rw w.heap.size w' 81 3 linkC vp ((brG (j + 1) ks).map (brK ((j + 1 : Nat) : Int))) ∧ Rw w.heap.size w' 73 2 pairC vo ((brG (j + 1) ks).map (brO ((j + 1 : Nat) : Int))) ∧ Below w.heap.size w w' := by
  have hne : ks ≠ [] := by have := h.pos; rintro rfl; simp at this
  obtain ⟨ao, cap, rfl, hcap, hcap2, h4⟩ := hv
  obtain ⟨b, off, rfl, hbB, hcell⟩ := h4 hne
  unfold maxLen at hcap2
  obtain ⟨lv, hlv⟩ : ∃ lv : Int, lv = ((j + 1 : Nat) : Int) := ⟨_, rfl⟩
  rw [← hlv]
  have hlv1 : 1 ≤ lv ∧ lv ≤ 20 := by omega
  have hb0 : Below w.heap.size w (w.alloc (.cells #[.int .i64 lv, .slice none 0 0] 99)) := (Below.refl _ _).alloc (Nat.le_refl _) _
  have hx0 := heap_last w (.cells #[.int .i64 lv, .slice none 0 0] 99) _ rfl
  have hA0 : AbL w.heap.size (w.alloc (.cells #[.int .i64 lv, .slice none 0 0] 99)) w.heap.size lv (.slice none 0 0) [] (.slice none 0 0) (([] : List (List Link)).map (brK lv)) (.slice none 0 0) (([] : List (List Link)).map (brO lv)) := ⟨Nat.le_refl _, hx0, World.ownsRow_nil _ _ _ _, World.ownsRow_nil _ _ _ _, World.ownsRow_nil _ _ _ _, .inl rfl⟩
  obtain ⟨m, hm⟩ : ∃ m, m = ks.length := ⟨_, rfl⟩
  have hm9 : m ≤ 4096 := by have := manyL_many ks h.each; have := h.sum; omega
  have HC := hide hcell
  have HI := hide (And.intro h (Gat.start (fun n (p : Link) => ends12 n p.1 (j + 1)) ks))
  rw [← hm] at hcap ⊢
  have HM := hide hm
  have HLV := hide hlv
  have H0 := hide (And.intro hA0 hb0)
  clear hm h hcell h4 hA0 hb0 hx0 hne hlv
  go_enter Try.func32, Try.ntmps32
  go_wp2_with fail
  generalize w.alloc (.cells #[.int .i64 lv, .slice none 0 0] 99) = w0 at *
  go_loopw [6, 7, 9, 10] (fun vp vo t u wr => ∃ (i : Nat) (done : List (List Link)) (cur rest : List Link) (vk : Value) (z : Int), i ≤ m ∧ u = .int .i64 i ∧ t = .int .i64 z ∧ z = manyL cur ∧ i = done.flatten.length + cur.length ∧ Gat (fun n (p : Link) => ends12 n p.1 (j + 1)) ks done cur rest ∧ AbL w.heap.size wr w.heap.size lv vk cur vp (done.map (brK lv)) vo (done.map (brO lv)) ∧ Below w.heap.size w wr)
    (fun _ _ _ u _ => m - (intOf u).toNat)
  case atStart => exact ⟨0, [], [], ks, .slice none 0 0, 0, by omega, rfl, rfl, rfl, rfl, HI.out.2, H0.out.1, H0.out.2⟩
  case round =>
    obtain ⟨i, done, cur, rest, vk, z, him, rfl, rfl, hzc, hie, hG, hA, hbw⟩ := hrel
    have hrest := hG.rest hie
    by_cases hlt : i < m
    · have hlt2 : i < ks.length := by have := HM.out; omega
      have k0 := (hbw.cell (p := ⟨b, off + i * 3 + 0, none⟩) hbB).trans (HC.out i hlt2 0 _ rfl)
      have k1 := (hbw.cell (p := ⟨b, off + i * 3 + 1, none⟩) hbB).trans (HC.out i hlt2 1 _ rfl)
      have k2 := (hbw.cell (p := ⟨b, off + i * 3 + 2, none⟩) hbB).trans (HC.out i hlt2 2 _ rfl)
      simp only [Nat.add_zero] at k0
      have hcons : ks.drop i = ks[i] :: ks.drop (i + 1) := List.drop_eq_getElem_cons hlt2
      obtain ⟨x, hx⟩ : ∃ x, x = ks[i] := ⟨_, rfl⟩
      obtain ⟨r, hr⟩ : ∃ r, r = ks.drop (i + 1) := ⟨_, rfl⟩
      rw [← hx, ← hr] at hcons
      have hrl : r.length = m - (i + 1) := by rw [hr, List.length_drop, ← HM.out]
      rw [hrest, hcons] at hG
      rw [← hx] at k0 k1 k2
      have hxo := (rlinkOk_iff x).1 (HI.out.1.each x (by rw [hx]; exact List.getElem_mem hlt2))
      have hxk : x.1.length ≤ 64 := by have := hxo.1; unfold isKeyB at this; simp only [decide_eq_true_eq] at this; omega
      have hx1 := hxo.2.2.1
      have hfew := hG.few
      have hsmall := hG.small
      have hkin : ∀ p ∈ cur ++ [x], rlinkOk p = true := fun p hp => HI.out.1.each p (by
        rw [hG.all]
        rcases List.mem_append.1 hp with h | h
        · simp [h]
        · simp [List.mem_singleton.1 h])
      have hcur0 : (cur.length : Int) ≤ manyL cur := manyL_many cur (fun p hp => hkin p (by simp [hp]))
      have hsn : manyL (cur ++ [x]) = z + x.2.2 := by rw [manyL_append, ← hzc]; show z + (x.2.2 + 0) = _; omega
      have hsz : manyL (cur ++ [x]) ≤ 4096 := by
        have e : ks = done.flatten ++ ((cur ++ [x]) ++ r) := by rw [hG.all]; simp
        have h1 := congrArg manyL e
        rw [manyL_append, manyL_append] at h1
        have h2 := manyL_many done.flatten (fun p hp => HI.out.1.each p (by rw [e]; simp [hp]))
        have h3 := manyL_many r (fun p hp => HI.out.1.each p (by rw [e]; simp [hp]))
        have h5 := HI.out.1.sum
        omega
      have hz0 : 0 ≤ z := by rw [hzc]; omega
      have hz1 : z + x.2.2 ≤ 4096 := by rw [← hsn]; exact hsz
      obtain ⟨vk', w1, hrun, hf1, hA1, hbk1, hbk2⟩ := hA.kid x (by omega)
      have g0 := cell_of_row wr w.heap.size 1 _ _ _ hA.cell
      have hAl := (Below.refl wr.heap.size wr).alloc (Nat.le_refl _) (.cells #[.string (strB x.1), .string (strB x.2.1), .int .i64 x.2.2] 81)
      have hgA := (hAl.block _ (lt_of_heap hA.cell)).trans hA.cell
      have gA := cell_of_row _ w.heap.size 1 _ _ _ hgA
      have g1 := cell_of_row w1 w.heap.size 1 _ _ _ hf1
      simp only [List.getElem?_toArray, List.getElem?_cons_zero, List.getElem?_cons_succ] at g0 gA g1
      have f1 := frozen0 (j := 1) hf1
      have hbA : Below w.heap.size w (wr.alloc (.cells #[.string (strB x.1), .string (strB x.2.1), .int .i64 x.2.2] 81)) := hbw.alloc hbw.size _
      have hb1w : Below w.heap.size w w1 := hbw.trans hbk1
      have hb2w : Below w.heap.size w (w1.setCell ⟨w.heap.size, 1, none⟩ vk') := hbw.trans hbk2
      have cellk : ∀ W : World, Below w.heap.size w W → W.cell? ⟨b, off + i * 3, none⟩ = some (.string (strB x.1)) ∧ W.cell? ⟨b, off + i * 3 + 1, none⟩ = some (.string (strB x.2.1)) ∧ W.cell? ⟨b, off + i * 3 + 2, none⟩ = some (.int .i64 x.2.2) := fun W hW => by
        have e0 := (hW.cell (p := ⟨b, off + i * 3 + 0, none⟩) hbB).trans (HC.out i hlt2 0 _ rfl)
        have e1 := (hW.cell (p := ⟨b, off + i * 3 + 1, none⟩) hbB).trans (HC.out i hlt2 1 _ rfl)
        have e2 := (hW.cell (p := ⟨b, off + i * 3 + 2, none⟩) hbB).trans (HC.out i hlt2 2 _ rfl)
        simp only [Nat.add_zero] at e0
        rw [← hx] at e0 e1 e2
        exact ⟨e0, e1, e2⟩
      have CK := hide cellk
      have XA := hide (cellk _ hbA)
      have X1 := hide (cellk _ hb1w)
      have X2 := hide (cellk _ hb2w)
      have HRUN := hide hrun
      obtain ⟨ak, nk, ck, rfl⟩ := row_form hA1.kids
      have hnk : nk = cur.length + 1 := by
        obtain ⟨a', c', e, -⟩ := own_form hA1.kids
        injection e with _ e _
        rw [e]; simp
      obtain ⟨vka, vkm, vkc, rfl⟩ := row_form hA.kids
      have HA1 := hide (And.intro hA1 hb2w)
      have HG := hide (And.intro hG (And.intro hie (And.intro hrl (And.intro hsn (And.intro hfew hnk)))))
      have hnk2 : nk ≤ 64 := by omega
      clear hrest hcons hG hie hrl hsn hfew hkin hcur0 hsz hA hA1 hbk1 hbk2 hAl hgA hbA hb1w hb2w hrun hf1 cellk hzc hx hr hnk hbw hxo hsmall
      go_wp2_with fail
      refine wp_region_held_drew (S := fun W => W.cell? ⟨b, off + i * 3, none⟩ = some (.string (strB x.1)) ∧ W.cell? ⟨b, off + i * 3 + 1, none⟩ = some (.string (strB x.2.1)) ∧ W.cell? ⟨b, off + i * 3 + 2, none⟩ = some (.int .i64 x.2.2)) (by kernel_rfl) (⟨k0, k1, k2⟩) (fun hHeld => ?_)
      refine takeK 0 hHeld ?_
      refine takeK 2 hHeld ?_
      refine takeK 3 hHeld ?_
      refine takeK 4 hHeld ?_
      refine takeK 5 hHeld ?_
      refine twoH (i := 1) (j := 6) rfl rfl (by kernel_rfl) rfl rfl (fun K hK => ?_) (fun K hK => ?_)
      · go_simp
        refine hK.out _ _ (⟨k0, k1, k2⟩) (fun hHeld => ?_)
        clear hK K
        try simp only [Act.put, List.setIfInBounds_toArray, List.set_cons_zero, List.set_cons_succ]
        refine onlyH (i := 6) rfl (by kernel_rfl) rfl (fun K hK => ?_)
        go_simp
        refine hK.out _ _ (XA.out) (fun hHeld => ?_)
        clear hK K
        try simp only [Act.put, List.setIfInBounds_toArray, List.set_cons_zero, List.set_cons_succ]
        refine onlyH (i := 7) rfl (by kernel_rfl) rfl (fun K hK => ?_)
        refine wp_append_run (.tmp 23) (.tmp 28) 76 rfl rfl rfl HRUN.out ?_
        refine hK.out _ _ (X1.out) (fun hHeld => ?_)
        clear hK K
        try simp only [Act.put, List.setIfInBounds_toArray, List.set_cons_zero, List.set_cons_succ]
        refine takeK 8 hHeld ?_
        refine onlyH (i := 9) rfl (by kernel_rfl) rfl (fun K hK => ?_)
        go_simp
        refine hK.out _ _ (X2.out) (fun hHeld => ?_)
        clear hK K
        try simp only [Act.put, List.setIfInBounds_toArray, List.set_cons_zero, List.set_cons_succ]
        refine wpAnyH_done (by kernel_rfl) ?_ _
        clear hHeld
        generalize hW2 : w1.setCell ⟨w.heap.size, 1, none⟩ (.slice ak nk ck) = w2 at *
        have hA2 := HA1.out.1
        have q1 := cell_of_row w2 w.heap.size 1 _ _ _ hA2.cell
        simp only [List.getElem?_toArray, List.getElem?_cons_zero, List.getElem?_cons_succ] at q1
        obtain ⟨y0, y1, y2⟩ := X2.out
        have hen := rends12_any w2.drew nk x.1 (j + 1) (by omega) (by omega) (by omega)
        rw [← HLV.out] at hen
        obtain ⟨en, hen0⟩ : ∃ en, ends12 nk x.1 (j + 1) = en := ⟨_, rfl⟩
        rw [hen0] at hen
        have HEN := hide hen0
        clear hA2 hen0 HRUN XA X1 hW2 g0 gA g1 f1 k0 k1 k2
        go_wp2_with fail
        refine wp_region_held_drew (S := fun W => W.cell? ⟨w.heap.size, 1, none⟩ = some (.slice ak nk ck) ∧ W.cell? ⟨b, off + i * 3, none⟩ = some (.string (strB x.1))) (by kernel_rfl) (⟨q1, y0⟩) (fun hHeld => ?_)
        refine takeK 0 hHeld ?_
        refine takeK 1 hHeld ?_
        refine takeK 2 hHeld ?_
        refine takeK 3 hHeld ?_
        refine takeK 4 hHeld ?_
        refine takeK 5 hHeld ?_
        refine takeK 6 hHeld ?_
        refine takeK 7 hHeld ?_
        refine takeK 8 hHeld ?_
        refine onlyH (i := 9) rfl (by kernel_rfl) rfl (fun K hK => ?_)
        go_simp
        refine hen.mono ?_
        rintro e w3 ⟨rfl, hb3⟩
        have hb23 : Below w2.heap.size w2 w3 := (Below.refl w2.heap.size w2).drew.trans hb3
        have hA3 := HA1.out.1.below hb23
        have hB3 := HA1.out.2.trans (hb23.mono HA1.out.2.size)
        have q0 := cell_of_row w3 w.heap.size 0 _ _ _ hA3.cell
        have q3 := cell_of_row w3 w.heap.size 1 _ _ _ hA3.cell
        simp only [List.getElem?_toArray, List.getElem?_cons_zero, List.getElem?_cons_succ] at q0 q3
        have y3 := (CK.out w3 hB3).1
        refine hK.out _ _ (⟨q3, y3⟩) (fun hHeld => ?_)
        clear hK K
        try simp only [Act.put, List.setIfInBounds_toArray, List.set_cons_zero, List.set_cons_succ]
        refine takeK 10 hHeld ?_
        refine wpAnyH_done (by kernel_rfl) ?_ _
        clear hHeld hen hb3 hb23 q1 y0 y1 y2
        have H3 := hide (And.intro hA3 hB3)
        have hnk := HG.out.2.2.2.2.2
        have hE : ends12 (cur.length + 1) x.1 (j + 1) = en := by rw [← hnk]; exact HEN.out
        have hrl := HG.out.2.2.1
        have HNK := hide hnk
        clear hA3 hB3 hnk
        by_cases hc : en = true ∨ r = []
        · have hcl := HG.out.1.close (by rw [hE]; exact hc)
          have hin : cur ++ [x] ∈ brG (j + 1) ks := by
            have := hcl.grp
            show cur ++ [x] ∈ gath _ [] ks
            rw [this]
            simp
          obtain ⟨o1, o2, o3, o4, o5, o6⟩ := HI.out.1.group hin
          have hok := branchOk_of (level := lv) hlv1.1 hlv1.2 o1 o2 o3 o4 o5
          have hlast : r = [] → ((i : Int) == (m : Int) - 1) = true := fun e => by rw [e] at hrl; simp at hrl; simp; omega
          have hbr := rbranch_any w3 (lv, cur ++ [x]) (.slice ak nk ck) ((ls_of_own linkC_length H3.out.1.kids).up (Nat.le_refl _)) ⟨by omega, by omega⟩
          rw [hok] at hbr
          unfold made at hbr
          simp only [if_true] at hbr
          rw [objV_def] at hbr
          obtain ⟨fb, hfb⟩ : ∃ fb, fb = branchB (lv, cur ++ [x]) := ⟨_, rfl⟩
          rw [← hfb] at hbr
          obtain ⟨sc, hsc⟩ : ∃ sc, sc = sha (66 :: fb) := ⟨_, rfl⟩
          rw [← hsc] at hbr
          have HSC := hide (And.intro hsc hfb)
          have HCL := hide hcl
          have HLA := hide hlast
          clear hcl hsc hfb hlast hE hrl hin o1 o2 o3 o4 o5 o6 hok
          have hc2 : en = true ∨ (en = false ∧ r = []) := by
            cases en
            · exact .inr ⟨rfl, by simpa using hc⟩
            · exact .inl rfl
          clear hc
          rcases hc2 with hc | ⟨hc, hr⟩
          all_goals
            subst hc
            try (have hla := HLA.out hr; clear hr)
            go_wp2_with fail
            refine hbr.mono ?_
            rintro e w4 ⟨rfl, hb4⟩
            have hA4 := H3.out.1.below hb4
            have hB4 := H3.out.2.trans (hb4.mono H3.out.2.size)
            have hb5 : Below w4.heap.size w4 (w4.alloc (.cells #[.string (strB sc), .string (strB (66 :: fb))] 73)) := (Below.refl _ _).alloc (Nat.le_refl _) _
            have hx5 := heap_last w4 (.cells #[.string (strB sc), .string (strB (66 :: fb))] 73) _ rfl
            have hA5 := hA4.below hb5
            have hB5 := hB4.trans (hb5.mono hB4.size)
            generalize hw5 : w4.alloc (.cells #[.string (strB sc), .string (strB (66 :: fb))] 73) = w5 at *
            obtain ⟨vp', w6, vo', w7, run6, hx6, hb6, run7, hp7, ho7, hb7, hk7⟩ := add_both hA5.links hA5.objs (x.1, (sc, z + x.2.2)) (sc, 66 :: fb) w4.heap.size hx5 hB5.size (by have := HG.out.2.2.2.2.1; rw [List.length_map]; have := HM.out; omega) (by have := HG.out.2.2.2.2.1; rw [List.length_map]; have := HM.out; omega)
            have hf7 := hk7 _ _ _ _ hA5.cell (by decide) (by decide)
            have x0 := cell_of_row w5 w4.heap.size 0 _ _ _ hx5
            have hxA := (heap_past w5 (.cells #[.string (strB x.1), .string (strB sc), .int .i64 (z + x.2.2)] 81) _ (lt_of_heap hx5)).trans hx5
            have xA := cell_of_row _ w4.heap.size 0 _ _ _ hxA
            have z0 := cell_of_row w6 w4.heap.size 0 _ _ _ hx6
            have z1 := cell_of_row w6 w4.heap.size 1 _ _ _ hx6
            have g7 := cell_of_row w7 w.heap.size 1 _ _ _ hf7
            simp only [List.getElem?_toArray, List.getElem?_cons_zero, List.getElem?_cons_succ] at x0 xA z0 z1 g7
            have f7 := frozen0 (j := 1) hf7
            have y5 := (CK.out w5 hB5).1
            have yA := (CK.out _ (hB5.alloc hB5.size (.cells #[.string (strB x.1), .string (strB sc), .int .i64 (z + x.2.2)] 81))).1
            have y6 := (CK.out w6 (hB5.trans hb6)).1
            have R6 := hide run6
            have R7 := hide run7
            have H8 := hide (show AbL w.heap.size (w7.setCell ⟨w.heap.size, 1, none⟩ (.slice none 0 0)) w.heap.size lv (.slice none 0 0) [] vp' _ vo' _ ∧ Below w.heap.size w (w7.setCell ⟨w.heap.size, 1, none⟩ (.slice none 0 0)) from ⟨⟨Nat.le_refl _, heap_setB hf7 _, World.ownsRow_nil _ _ _ _, own_setCell hp7 hf7 (by decide) _, own_setCell ho7 hf7 (by decide) _, .inl rfl⟩, (hB5.trans hb7).setCell (p := ⟨w.heap.size, 1, none⟩) (Nat.le_refl _) _⟩)
            obtain ⟨pa, pm, pc, rfl⟩ := row_form hp7
            obtain ⟨oa, om, oc, rfl⟩ := row_form ho7
            obtain ⟨pa0, pm0, pc0, rfl⟩ := row_form hA5.links
            obtain ⟨oa0, om0, oc0, rfl⟩ := row_form hA5.objs
            clear hbr hb4 hA4 hB4 hb5 hx5 hA5 hB5 run6 run7 hx6 hf7 hp7 ho7 hb7 hk7 hb6 hxA
            go_wp2_with fail
            refine wp_region_held_drew (S := fun W => W.cell? ⟨w4.heap.size, 0, none⟩ = some (.string (strB sc)) ∧ W.cell? ⟨b, off + i * 3, none⟩ = some (.string (strB x.1))) (by kernel_rfl) (⟨x0, y5⟩) (fun hHeld => ?_)
            refine takeK 0 hHeld ?_
            refine takeK 1 hHeld ?_
            refine takeK 2 hHeld ?_
            refine takeK 3 hHeld ?_
            refine takeK 4 hHeld ?_
            refine takeK 5 hHeld ?_
            refine takeK 6 hHeld ?_
            refine takeK 7 hHeld ?_
            refine takeK 8 hHeld ?_
            refine takeK 9 hHeld ?_
            refine onlyH (i := 10) rfl (by kernel_rfl) rfl (fun K hK => ?_)
            go_simp
            refine hK.out _ _ (⟨xA, yA⟩) (fun hHeld => ?_)
            clear hK K
            try simp only [Act.put, List.setIfInBounds_toArray, List.set_cons_zero, List.set_cons_succ]
            refine onlyH (i := 11) rfl (by kernel_rfl) rfl (fun K hK => ?_)
            refine wp_append_run (.tmp 61) (.tmp 71) 76 rfl rfl rfl R6.out ?_
            refine hK.out _ _ (⟨z0, y6⟩) (fun hHeld => ?_)
            clear hK K
            try simp only [Act.put, List.setIfInBounds_toArray, List.set_cons_zero, List.set_cons_succ]
            refine takeK 12 hHeld ?_
            refine wpAnyH_done (by kernel_rfl) ?_ _
            clear hHeld x0 xA y5 yA
            go_wp2_with (at_builtin; refine wpList_plain rfl (fun K hK => wp_append_run (.tmp 73) (.tmp 75) 22 rfl rfl rfl R7.out (hK _ _ ?_)))
            go_wp2
            go_roundw
            case rel =>
              refine ⟨i + 1, done ++ [cur ++ [x]], [], r, .slice none 0 0, 0, by omega, by go_num, rfl, rfl, ?_, HCL.out, ?_, H8.out.2⟩
              · have := HG.out.2.1
                simp only [List.flatten_append, List.flatten_singleton, List.length_append, List.length_singleton, List.length_nil]
                omega
              · have e1 : (done ++ [cur ++ [x]]).map (brK lv) = done.map (brK lv) ++ [(x.1, (sc, z + x.2.2))] := by
                  rw [List.map_append]
                  have e3 : lastL (cur ++ [x]) = x.1 := by simp [lastL]
                  unfold brK brO
                  rw [List.map_singleton, e3, ← HG.out.2.2.2.1, HSC.out.1, HSC.out.2]
                have e2 : (done ++ [cur ++ [x]]).map (brO lv) = done.map (brO lv) ++ [(sc, 66 :: fb)] := by rw [List.map_append]; unfold brO; rw [HSC.out.1, HSC.out.2]; rfl
                rw [e1, e2]
                exact H8.out.1
            case measure => simp [intOf]; omega
        · have hen2 : en = false := by cases en with
            | false => rfl
            | true => exact absurd (.inl rfl) hc
          have hnx := HG.out.1.next (fun y => ends12_64 y.1 (j + 1)) (by rw [hE]; exact hc)
          have hrn : 1 ≤ r.length := by
            rcases r with _ | ⟨a, t⟩
            · exact absurd (.inr rfl) hc
            · simp
          have hla : ((i : Int) == (m : Int) - 1) = false := by rw [beq_eq_false_iff_ne]; omega
          subst hen2
          have HNX := hide hnx
          clear hnx hc hE hrl hrn
          go_wp2
          go_roundw
          case rel =>
            refine ⟨i + 1, done, cur ++ [x], r, .slice ak nk ck, z + x.2.2, by omega, by go_num, rfl, HG.out.2.2.2.1.symm, ?_, HNX.out, H3.out.1, H3.out.2⟩
            have := HG.out.2.1
            simp only [List.length_append, List.length_singleton]
            omega
          case measure => simp [intOf]; omega
      · go_simp
        refine hK.out _ _ (XA.out) (fun hHeld => ?_)
        clear hK K
        try simp only [Act.put, List.setIfInBounds_toArray, List.set_cons_zero, List.set_cons_succ]
        refine onlyH (i := 1) rfl (by kernel_rfl) rfl (fun K hK => ?_)
        go_simp
        refine hK.out _ _ (XA.out) (fun hHeld => ?_)
        clear hK K
        try simp only [Act.put, List.setIfInBounds_toArray, List.set_cons_zero, List.set_cons_succ]
        refine onlyH (i := 7) rfl (by kernel_rfl) rfl (fun K hK => ?_)
        refine wp_append_run (.tmp 23) (.tmp 28) 76 rfl rfl rfl HRUN.out ?_
        refine hK.out _ _ (X1.out) (fun hHeld => ?_)
        clear hK K
        try simp only [Act.put, List.setIfInBounds_toArray, List.set_cons_zero, List.set_cons_succ]
        refine takeK 8 hHeld ?_
        refine onlyH (i := 9) rfl (by kernel_rfl) rfl (fun K hK => ?_)
        go_simp
        refine hK.out _ _ (X2.out) (fun hHeld => ?_)
        clear hK K
        try simp only [Act.put, List.setIfInBounds_toArray, List.set_cons_zero, List.set_cons_succ]
        refine wpAnyH_done (by kernel_rfl) ?_ _
        clear hHeld
        generalize hW2 : w1.setCell ⟨w.heap.size, 1, none⟩ (.slice ak nk ck) = w2 at *
        have hA2 := HA1.out.1
        have q1 := cell_of_row w2 w.heap.size 1 _ _ _ hA2.cell
        simp only [List.getElem?_toArray, List.getElem?_cons_zero, List.getElem?_cons_succ] at q1
        obtain ⟨y0, y1, y2⟩ := X2.out
        have hen := rends12_any w2.drew nk x.1 (j + 1) (by omega) (by omega) (by omega)
        rw [← HLV.out] at hen
        obtain ⟨en, hen0⟩ : ∃ en, ends12 nk x.1 (j + 1) = en := ⟨_, rfl⟩
        rw [hen0] at hen
        have HEN := hide hen0
        clear hA2 hen0 HRUN XA X1 hW2 g0 gA g1 f1 k0 k1 k2
        go_wp2_with fail
        refine wp_region_held_drew (S := fun W => W.cell? ⟨w.heap.size, 1, none⟩ = some (.slice ak nk ck) ∧ W.cell? ⟨b, off + i * 3, none⟩ = some (.string (strB x.1))) (by kernel_rfl) (⟨q1, y0⟩) (fun hHeld => ?_)
        refine takeK 0 hHeld ?_
        refine takeK 1 hHeld ?_
        refine takeK 2 hHeld ?_
        refine takeK 3 hHeld ?_
        refine takeK 4 hHeld ?_
        refine takeK 5 hHeld ?_
        refine takeK 6 hHeld ?_
        refine takeK 7 hHeld ?_
        refine takeK 8 hHeld ?_
        refine onlyH (i := 9) rfl (by kernel_rfl) rfl (fun K hK => ?_)
        go_simp
        refine hen.mono ?_
        rintro e w3 ⟨rfl, hb3⟩
        have hb23 : Below w2.heap.size w2 w3 := (Below.refl w2.heap.size w2).drew.trans hb3
        have hA3 := HA1.out.1.below hb23
        have hB3 := HA1.out.2.trans (hb23.mono HA1.out.2.size)
        have q0 := cell_of_row w3 w.heap.size 0 _ _ _ hA3.cell
        have q3 := cell_of_row w3 w.heap.size 1 _ _ _ hA3.cell
        simp only [List.getElem?_toArray, List.getElem?_cons_zero, List.getElem?_cons_succ] at q0 q3
        have y3 := (CK.out w3 hB3).1
        refine hK.out _ _ (⟨q3, y3⟩) (fun hHeld => ?_)
        clear hK K
        try simp only [Act.put, List.setIfInBounds_toArray, List.set_cons_zero, List.set_cons_succ]
        refine takeK 10 hHeld ?_
        refine wpAnyH_done (by kernel_rfl) ?_ _
        clear hHeld hen hb3 hb23 q1 y0 y1 y2
        have H3 := hide (And.intro hA3 hB3)
        have hnk := HG.out.2.2.2.2.2
        have hE : ends12 (cur.length + 1) x.1 (j + 1) = en := by rw [← hnk]; exact HEN.out
        have hrl := HG.out.2.2.1
        have HNK := hide hnk
        clear hA3 hB3 hnk
        by_cases hc : en = true ∨ r = []
        · have hcl := HG.out.1.close (by rw [hE]; exact hc)
          have hin : cur ++ [x] ∈ brG (j + 1) ks := by
            have := hcl.grp
            show cur ++ [x] ∈ gath _ [] ks
            rw [this]
            simp
          obtain ⟨o1, o2, o3, o4, o5, o6⟩ := HI.out.1.group hin
          have hok := branchOk_of (level := lv) hlv1.1 hlv1.2 o1 o2 o3 o4 o5
          have hlast : r = [] → ((i : Int) == (m : Int) - 1) = true := fun e => by rw [e] at hrl; simp at hrl; simp; omega
          have hbr := rbranch_any w3 (lv, cur ++ [x]) (.slice ak nk ck) ((ls_of_own linkC_length H3.out.1.kids).up (Nat.le_refl _)) ⟨by omega, by omega⟩
          rw [hok] at hbr
          unfold made at hbr
          simp only [if_true] at hbr
          rw [objV_def] at hbr
          obtain ⟨fb, hfb⟩ : ∃ fb, fb = branchB (lv, cur ++ [x]) := ⟨_, rfl⟩
          rw [← hfb] at hbr
          obtain ⟨sc, hsc⟩ : ∃ sc, sc = sha (66 :: fb) := ⟨_, rfl⟩
          rw [← hsc] at hbr
          have HSC := hide (And.intro hsc hfb)
          have HCL := hide hcl
          have HLA := hide hlast
          clear hcl hsc hfb hlast hE hrl hin o1 o2 o3 o4 o5 o6 hok
          have hc2 : en = true ∨ (en = false ∧ r = []) := by
            cases en
            · exact .inr ⟨rfl, by simpa using hc⟩
            · exact .inl rfl
          clear hc
          rcases hc2 with hc | ⟨hc, hr⟩
          all_goals
            subst hc
            try (have hla := HLA.out hr; clear hr)
            go_wp2_with fail
            refine hbr.mono ?_
            rintro e w4 ⟨rfl, hb4⟩
            have hA4 := H3.out.1.below hb4
            have hB4 := H3.out.2.trans (hb4.mono H3.out.2.size)
            have hb5 : Below w4.heap.size w4 (w4.alloc (.cells #[.string (strB sc), .string (strB (66 :: fb))] 73)) := (Below.refl _ _).alloc (Nat.le_refl _) _
            have hx5 := heap_last w4 (.cells #[.string (strB sc), .string (strB (66 :: fb))] 73) _ rfl
            have hA5 := hA4.below hb5
            have hB5 := hB4.trans (hb5.mono hB4.size)
            generalize hw5 : w4.alloc (.cells #[.string (strB sc), .string (strB (66 :: fb))] 73) = w5 at *
            obtain ⟨vp', w6, vo', w7, run6, hx6, hb6, run7, hp7, ho7, hb7, hk7⟩ := add_both hA5.links hA5.objs (x.1, (sc, z + x.2.2)) (sc, 66 :: fb) w4.heap.size hx5 hB5.size (by have := HG.out.2.2.2.2.1; rw [List.length_map]; have := HM.out; omega) (by have := HG.out.2.2.2.2.1; rw [List.length_map]; have := HM.out; omega)
            have hf7 := hk7 _ _ _ _ hA5.cell (by decide) (by decide)
            have x0 := cell_of_row w5 w4.heap.size 0 _ _ _ hx5
            have hxA := (heap_past w5 (.cells #[.string (strB x.1), .string (strB sc), .int .i64 (z + x.2.2)] 81) _ (lt_of_heap hx5)).trans hx5
            have xA := cell_of_row _ w4.heap.size 0 _ _ _ hxA
            have z0 := cell_of_row w6 w4.heap.size 0 _ _ _ hx6
            have z1 := cell_of_row w6 w4.heap.size 1 _ _ _ hx6
            have g7 := cell_of_row w7 w.heap.size 1 _ _ _ hf7
            simp only [List.getElem?_toArray, List.getElem?_cons_zero, List.getElem?_cons_succ] at x0 xA z0 z1 g7
            have f7 := frozen0 (j := 1) hf7
            have y5 := (CK.out w5 hB5).1
            have yA := (CK.out _ (hB5.alloc hB5.size (.cells #[.string (strB x.1), .string (strB sc), .int .i64 (z + x.2.2)] 81))).1
            have y6 := (CK.out w6 (hB5.trans hb6)).1
            have R6 := hide run6
            have R7 := hide run7
            have H8 := hide (show AbL w.heap.size (w7.setCell ⟨w.heap.size, 1, none⟩ (.slice none 0 0)) w.heap.size lv (.slice none 0 0) [] vp' _ vo' _ ∧ Below w.heap.size w (w7.setCell ⟨w.heap.size, 1, none⟩ (.slice none 0 0)) from ⟨⟨Nat.le_refl _, heap_setB hf7 _, World.ownsRow_nil _ _ _ _, own_setCell hp7 hf7 (by decide) _, own_setCell ho7 hf7 (by decide) _, .inl rfl⟩, (hB5.trans hb7).setCell (p := ⟨w.heap.size, 1, none⟩) (Nat.le_refl _) _⟩)
            obtain ⟨pa, pm, pc, rfl⟩ := row_form hp7
            obtain ⟨oa, om, oc, rfl⟩ := row_form ho7
            obtain ⟨pa0, pm0, pc0, rfl⟩ := row_form hA5.links
            obtain ⟨oa0, om0, oc0, rfl⟩ := row_form hA5.objs
            clear hbr hb4 hA4 hB4 hb5 hx5 hA5 hB5 run6 run7 hx6 hf7 hp7 ho7 hb7 hk7 hb6 hxA
            go_wp2_with fail
            refine wp_region_held_drew (S := fun W => W.cell? ⟨w4.heap.size, 0, none⟩ = some (.string (strB sc)) ∧ W.cell? ⟨b, off + i * 3, none⟩ = some (.string (strB x.1))) (by kernel_rfl) (⟨x0, y5⟩) (fun hHeld => ?_)
            refine takeK 0 hHeld ?_
            refine takeK 1 hHeld ?_
            refine takeK 2 hHeld ?_
            refine takeK 3 hHeld ?_
            refine takeK 4 hHeld ?_
            refine takeK 5 hHeld ?_
            refine takeK 6 hHeld ?_
            refine takeK 7 hHeld ?_
            refine takeK 8 hHeld ?_
            refine takeK 9 hHeld ?_
            refine onlyH (i := 10) rfl (by kernel_rfl) rfl (fun K hK => ?_)
            go_simp
            refine hK.out _ _ (⟨xA, yA⟩) (fun hHeld => ?_)
            clear hK K
            try simp only [Act.put, List.setIfInBounds_toArray, List.set_cons_zero, List.set_cons_succ]
            refine onlyH (i := 11) rfl (by kernel_rfl) rfl (fun K hK => ?_)
            refine wp_append_run (.tmp 61) (.tmp 71) 76 rfl rfl rfl R6.out ?_
            refine hK.out _ _ (⟨z0, y6⟩) (fun hHeld => ?_)
            clear hK K
            try simp only [Act.put, List.setIfInBounds_toArray, List.set_cons_zero, List.set_cons_succ]
            refine takeK 12 hHeld ?_
            refine wpAnyH_done (by kernel_rfl) ?_ _
            clear hHeld x0 xA y5 yA
            go_wp2_with (at_builtin; refine wpList_plain rfl (fun K hK => wp_append_run (.tmp 73) (.tmp 75) 22 rfl rfl rfl R7.out (hK _ _ ?_)))
            go_wp2
            go_roundw
            case rel =>
              refine ⟨i + 1, done ++ [cur ++ [x]], [], r, .slice none 0 0, 0, by omega, by go_num, rfl, rfl, ?_, HCL.out, ?_, H8.out.2⟩
              · have := HG.out.2.1
                simp only [List.flatten_append, List.flatten_singleton, List.length_append, List.length_singleton, List.length_nil]
                omega
              · have e1 : (done ++ [cur ++ [x]]).map (brK lv) = done.map (brK lv) ++ [(x.1, (sc, z + x.2.2))] := by
                  rw [List.map_append]
                  have e3 : lastL (cur ++ [x]) = x.1 := by simp [lastL]
                  unfold brK brO
                  rw [List.map_singleton, e3, ← HG.out.2.2.2.1, HSC.out.1, HSC.out.2]
                have e2 : (done ++ [cur ++ [x]]).map (brO lv) = done.map (brO lv) ++ [(sc, 66 :: fb)] := by rw [List.map_append]; unfold brO; rw [HSC.out.1, HSC.out.2]; rfl
                rw [e1, e2]
                exact H8.out.1
            case measure => simp [intOf]; omega
        · have hen2 : en = false := by cases en with
            | false => rfl
            | true => exact absurd (.inl rfl) hc
          have hnx := HG.out.1.next (fun y => ends12_64 y.1 (j + 1)) (by rw [hE]; exact hc)
          have hrn : 1 ≤ r.length := by
            rcases r with _ | ⟨a, t⟩
            · exact absurd (.inr rfl) hc
            · simp
          have hla : ((i : Int) == (m : Int) - 1) = false := by rw [beq_eq_false_iff_ne]; omega
          subst hen2
          have HNX := hide hnx
          clear hnx hc hE hrl hrn
          go_wp2
          go_roundw
          case rel =>
            refine ⟨i + 1, done, cur ++ [x], r, .slice ak nk ck, z + x.2.2, by omega, by go_num, rfl, HG.out.2.2.2.1.symm, ?_, HNX.out, H3.out.1, H3.out.2⟩
            have := HG.out.2.1
            simp only [List.length_append, List.length_singleton]
            omega
          case measure => simp [intOf]; omega
    · obtain rfl : i = m := by omega
      rw [HM.out, List.drop_length] at hrest
      rw [hrest] at hG
      have hst : brG (j + 1) ks = done := hG.stop
      rw [← hst] at hA
      have HA := hide (And.intro hA hbw)
      obtain ⟨pa, pm, pc, rfl⟩ := row_form hA.links
      obtain ⟨oa, om, oc, rfl⟩ := row_form hA.objs
      clear hrest hG hst hA hbw hie hzc
      go_wp2
      go_ret2
      exact ⟨_, _, rfl, HA.out.1.links, HA.out.1.objs, HA.out.2⟩
end Go.Proofs.Ytldfjpgcemfpjaa
