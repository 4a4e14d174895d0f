/-
  Texts joined: BLay, BGroups.
-/
import Derived.Test.YtokebnkgjchfaaaGreatDoorS19BGo0
import Derived.Test.YtokebnkgjchfaaaGreatDoorS20MChg
import Derived.Test.YtokebnkgjchfaaaGreatDoorS17ORTakeC
/-
  Laying an object, each id once. Conditions: the building lies there; not too many objects.
-/
namespace Go.Proofs.YtokebnkgjchfaaaGreatDoor
open Go.RowKit

theorem Tryz.zObj : (Tryz.prog.info? 57).map (fun i => (i.zero, i.size, i.bytes)) = some (some (.agg #[.string ⟨#[]⟩, .string ⟨#[]⟩]), 2, 32) := by kernel_rfl
/-- An object laid behind a row of objects. -/
theorem app_obj (w : World) (B : Nat) (v : Value) (xs : List Pair) (p : Pair) (h : Rw B w 57 2 pairC v xs) (hB : B ≤ w.heap.size) (hn : xs.length ≤ 4294967296) :
    ∃ v' w', (Builtin.append_ #[26, 26] 26 #[v, .slice (some ⟨w.heap.size, 0, none⟩) 1 1]).run Tryz.prog (w.alloc (.cells #[.string (strB p.1), .string (strB p.2)] 57)) = .ok v' w' ∧
      Rw B w' 57 2 pairC v' (xs ++ [p]) ∧ (w.alloc (.cells #[.string (strB p.1), .string (strB p.2)] 57)).grownBy w' v.ownBlock ∧ (v'.ownBlock = v.ownBlock ∨ v'.ownBlock = some (w.heap.size + 1)) := by
  obtain ⟨i0, hi, hz0, hz1, hz2⟩ := info_parts Tryz.zObj
  have hx := heap_last w (.cells #[.string (strB p.1), .string (strB p.2)] 57) _ rfl
  obtain ⟨v', w', h1, h2, h3, -, h4⟩ := run_append_own_at (P := Tryz.prog) (w.alloc (.cells #[.string (strB p.1), .string (strB p.2)] 57)) B 26 26 57 i0 (.agg #[.string ⟨#[]⟩, .string ⟨#[]⟩]) 2 32 Tryz.underlying26 hi hz0 hz1 hz2 rfl (by decide) v xs.length (xs.flatMap pairC) (h.alloc _) ⟨w.heap.size, 0, none⟩ 1 1 (pairC p) rfl (fun j u hu => by
      rw [Addr.add_lit, Nat.zero_add, cell_of_row _ _ _ _ _ _ hx, List.getElem?_toArray]; exact hu) (by simp [pairC, Value.oneCell']) (by unfold maxLen; omega) (by omega) (by simp; omega)
  refine ⟨v', w', h1, ?_, h3, by simpa using h4⟩
  unfold Rw
  rw [List.length_append, List.flatMap_append]
  simpa using h2
/-- The keys of what was laid. -/
def laidK (os : List Pair) : List (Value × Value) := os.map fun o => (.string (strB o.1), .agg #[])
/-- Objects, and one more, if its id is not there. -/
def layP (os : List Pair) (o : Pair) : List Pair := if os.any (fun x => x.1 == o.1) then os else os ++ [o]
theorem layP_le (os : List Pair) (o : Pair) : (layP os o).length ≤ os.length + 1 := by
  unfold layP
  split
  · omega
  · simp
/-- The building g: its objects, its map. -/
structure BdW (B : Nat) (w : World) (g : Nat) (os : List Pair) : Prop where
  base : B ≤ g
  cell : ∃ vo mb, w.heap[g]? = some (.cells #[vo, .map (some mb)] 52) ∧ Rw B w 57 2 pairC vo os ∧ Mp.MapW w mb (laidK os) ∧ B ≤ mb
/-- What laying moves. -/
abbrev bts : List TypeId := [52, 57]
theorem laidK_any (os : List Pair) (id : Bs) : os.any (fun x => x.1 == id) = true ↔ ∃ l', (laidK os).Perm ((.string (strB id), .agg #[]) :: l') := by
  constructor
  · intro h
    obtain ⟨o, ho, he⟩ := List.any_eq_true.1 h
    have he : o.1 = id := by simpa using he
    have hm : ((.string (strB id), .agg #[]) : Value × Value) ∈ laidK os := by
      unfold laidK
      rw [← he]
      exact List.mem_map_of_mem (f := fun o : Pair => ((.string (strB o.1), .agg #[]) : Value × Value)) ho
    obtain ⟨x, y, e⟩ := List.append_of_mem hm
    exact ⟨x ++ y, by rw [e]; exact List.perm_middle⟩
  · rintro ⟨l', hp⟩
    have hm := hp.mem_iff.2 (List.mem_cons_self)
    unfold laidK at hm
    obtain ⟨o, ho, he⟩ := List.mem_map.1 hm
    injection he with he _
    injection he with he
    exact List.any_eq_true.2 ⟨o, ho, by simpa using strB_inj he⟩
theorem laidK_str (os : List Pair) : ∀ p ∈ laidK os, Mp.KStr p.1 := by
  intro p hp
  obtain ⟨o, _, rfl⟩ := List.mem_map.1 hp
  exact ⟨_, rfl⟩
theorem laidK_no {os : List Pair} {id : Bs} (h : os.any (fun x => x.1 == id) = false) : ∀ p ∈ laidK os, p.1 ≠ .string (strB id) := by
  intro p hp he
  obtain ⟨o, ho, rfl⟩ := List.mem_map.1 hp
  injection he with he
  rw [List.any_eq_false] at h
  exact h o ho (by simpa using strB_inj he)
theorem map_look (w : World) (mb : Nat) (os : List Pair) (id : Bs) (h : Mp.MapW w mb (laidK os)) :
    (Instr.lookup 50 (.map (some mb)) (.string (strB id)) true).run Tryz.prog w = .ok (.tuple #[.agg #[], .bool (os.any (fun x => x.1 == id))]) w := by
  have hz : (zeroValue 126).run Tryz.prog w = .ok (.agg #[]) w := by kernel_rfl
  cases hq : os.any (fun x => x.1 == id) with
  | true =>
    obtain ⟨l', hp⟩ := (laidK_any os id).1 hq
    have := (h.perm hp).look (Mp.kind_str Tryz.underlying9) (fun p hp' => laidK_str os p (hp.mem_iff.2 (List.mem_cons_of_mem _ hp'))) Tryz.underlying50 ⟨_, rfl⟩ true
    simpa using this
  | false =>
    have := h.look_none (Mp.kind_str Tryz.underlying9) (laidK_str os) Tryz.underlying50 ⟨_, rfl⟩ (laidK_no hq) hz true
    simpa using this
theorem map_put (w : World) (mb : Nat) (os : List Pair) (o : Pair) (h : Mp.MapW w mb (laidK os)) (hq : os.any (fun x => x.1 == o.1) = false) :
    ∃ w', (Instr.mapUpdate 50 (.map (some mb)) (.string (strB o.1)) (.agg #[])).run Tryz.prog w = .ok () w' ∧ Mp.MapW w' mb (laidK (os ++ [o])) ∧ Mp.Chg (· = mb) w w' ∧ w'.heap.size = w.heap.size := by
  obtain ⟨w', h1, h2, h3, h4⟩ := h.put_new (Mp.kind_str Tryz.underlying9) (laidK_str os) Tryz.underlying50 ⟨_, rfl⟩ (laidK_no hq) (.agg #[])
  refine ⟨w', h1, h2.perm ?_, h3, h4⟩
  unfold laidK
  rw [List.map_append]
  exact (List.perm_append_singleton _ _).symm
theorem Mv.map {B : Nat} {ts : List TypeId} {r : Option Nat} {w w1 w2 : World} {mb : Nat} {es : Array MapEntry} {ck : Nat} (h : Mv B ts r w w1) (hc : Mp.Chg (· = mb) w1 w2) (hmb : B ≤ mb) (hm : w1.heap[mb]? = some (.map es ck)) : Mv B ts r w w2 := by
  refine ⟨h.b.trans ⟨hc.os, hc.tape, hc.output, hc.size, fun k hk => ?_⟩, fun k cs t fr hk ht hr => ?_⟩
  · by_cases hs : k < w1.heap.size
    · exact hc.block k hs (by omega)
    · have := lt_of_heap hm
      omega
  · have := h.k k cs t fr hk ht hr
    exact (hc.block k (lt_of_heap this) (by rintro rfl; rw [hm] at this; cases this)).trans this
theorem heap_set1a {w : World} {g : Nat} {v0 v1 u0 : Value} {t : TypeId} (h : w.heap[g]? = some (.cells #[v0, v1] t)) : (w.setCell ⟨g, 0, none⟩ u0).heap[g]? = some (.cells #[u0, v1] t) := by
  rw [heap_setCell _ _ _ _ _ _ _ h]
  simp
theorem map_set {w : World} {g j mb : Nat} {l : List (Value × Value)} {cs : Array Value} {t : TypeId} {fr : Nat × Nat} (h : Mp.MapW w mb l) (hh : w.heap[g]? = some (.cells cs t fr)) (u : Value) : Mp.MapW (w.setCell ⟨g, j, none⟩ u) mb l := h.same (heap_setOther (h.ne hh).symm)
theorem BdW.keep {B : Nat} {w w' : World} {g : Nat} {os : List Pair} (h : BdW B w g os) (hb : Below w.heap.size w w') : BdW B w' g os := by
  obtain ⟨hg, vo, mb, h1, h2, h3, h4⟩ := h
  exact ⟨hg, vo, mb, (hb.block _ (lt_of_heap h1)).trans h1, own_same h2 (fun q hq => hb.block q (h2.lt q hq).2), h3.same (hb.block _ h3.lt), h4⟩
set_option maxRecDepth 40000 in
set_option maxHeartbeats 1600000 in
theorem lay_any (B : Nat) (w : World) (g : Nat) (os : List Pair) (o : Pair) (z : Int) (h : BdW B w g os) (hn : os.length ≤ 4294967296) :
    Calls Tryz.prog 52 #[.pointer (some ⟨g, 0, none⟩), .agg #[.string (strB o.1), .string (strB o.2)], .int .i64 z] w fun e w' => e = .returned (.agg #[.string (strB o.1), .int .i64 z]) ∧ BdW B w' g (layP os o) ∧ Mv B bts none w w' := by
  have h' := h
  obtain ⟨hg, vo, mb, hh, hrow, hmap, hmb⟩ := h'
  have hB : B ≤ w.heap.size := by have := lt_of_heap hh; omega
  have hb0 : Below w.heap.size w ((w.alloc (.cells #[.string (strB o.1), .string (strB o.2)] 57)).alloc (.cells #[.string ⟨#[]⟩, .int .i64 0] 25)) := ((Below.refl _ _).alloc (Nat.le_refl _) _).alloc (by simp) _
  have hx0 : ((w.alloc (.cells #[.string (strB o.1), .string (strB o.2)] 57)).alloc (.cells #[.string ⟨#[]⟩, .int .i64 0] 25)).heap[w.heap.size]? = some (.cells #[.string (strB o.1), .string (strB o.2)] 57) := (heap_past _ _ _ (by simp)).trans (heap_last w _ _ rfl)
  have hy0 : ((w.alloc (.cells #[.string (strB o.1), .string (strB o.2)] 57)).alloc (.cells #[.string ⟨#[]⟩, .int .i64 0] 25)).heap[w.heap.size + 1]? = some (.cells #[.string ⟨#[]⟩, .int .i64 0] 25) := heap_last _ _ _ (by simp)
  have hs0 : ((w.alloc (.cells #[.string (strB o.1), .string (strB o.2)] 57)).alloc (.cells #[.string ⟨#[]⟩, .int .i64 0] 25)).heap.size = w.heap.size + 2 := by simp
  generalize hw0 : (w.alloc (.cells #[.string (strB o.1), .string (strB o.2)] 57)).alloc (.cells #[.string ⟨#[]⟩, .int .i64 0] 25) = w0 at *
  have hh0 := (hb0.block _ (lt_of_heap hh)).trans hh
  have hrow0 : Rw B w0 57 2 pairC vo os := own_same hrow (fun q hq => hb0.block q (hrow.lt q hq).2)
  have hmap0 := hmap.same (hb0.block _ hmap.lt)
  -- behind the look
  have hb1 : Below w0.heap.size w0 (w0.alloc (.cells #[] 126)).drew := ((Below.refl _ _).alloc (Nat.le_refl _) _).drew
  have hh1 := (hb1.block _ (lt_of_heap hh0)).trans hh0
  have hx1 := (hb1.block _ (lt_of_heap hx0)).trans hx0
  have hy1 := (hb1.block _ (lt_of_heap hy0)).trans hy0
  have hrow1 : Rw B (w0.alloc (.cells #[] 126)).drew 57 2 pairC vo os := own_same hrow0 (fun q hq => hb1.block q (hrow0.lt q hq).2)
  have hmap1 := hmap0.same (hb1.block _ hmap0.lt)
  have l0 := map_look w0.drew mb os o.1 hmap0
  have l1 := map_look (w0.alloc (.cells #[] 126)).drew mb os o.1 hmap1
  have g1 := cell_of_row w0 g 1 _ _ _ hh0
  have x0 := cell_of_row w0 w.heap.size 0 _ _ _ hx0
  have g1' := cell_of_row _ g 1 _ _ _ (show (w0.alloc (.cells #[] 126)).heap[g]? = _ from hh1)
  have x0' := cell_of_row _ w.heap.size 0 _ _ _ (show (w0.alloc (.cells #[] 126)).heap[w.heap.size]? = _ from hx1)
  simp only [List.getElem?_toArray, List.getElem?_cons_zero, List.getElem?_cons_succ] at g1 x0 g1' x0'
  have HVO := hide (fun q (hq' : vo.ownBlock = some q) => (hrow.lt q hq').2)
  have H1 := hide (And.intro hb0 (And.intro hh1 (And.intro hx1 (And.intro hy1 (And.intro hrow1 hmap1)))))
  have HB1 := hide hb1
  unfold layP
  clear hh hrow hmap hh0 hrow0 hmap0 hx0 hy0 hb0 hb1 hh1 hx1 hy1 hrow1 hmap1 h
  cases hq : os.any (fun x => x.1 == o.1) with
  | true =>
    rw [hq] at l0 l1
    rw [if_pos rfl]
    go_enter Tryz.func52, Tryz.ntmps52
    go_wp2_with fail
    try rw [hw0]
    refine wp_region_held_drew (S := fun W => W.cell? ⟨g, 1, none⟩ = some (.map (some mb)) ∧ W.cell? ⟨w.heap.size, 0, none⟩ = some (.string (strB o.1)) ∧ (Instr.lookup 50 (.map (some mb)) (.string (strB o.1)) true).run Tryz.prog W = .ok (.tuple #[.agg #[], .bool true]) W) (by kernel_rfl) (⟨g1, x0, l0⟩) (fun hHeld => ?_)
    refine takeJ 0 (v := ?_) ?_ hHeld ?_
    rotate_left
    · rintro w ⟨_, _, _⟩; go_simp; try with_reducible rfl
    refine takeJ 1 (v := ?_) ?_ hHeld ?_
    rotate_left
    · rintro w ⟨_, _, _⟩; go_simp; try with_reducible rfl
    refine takeJ 2 (v := ?_) ?_ hHeld ?_
    rotate_left
    · rintro w ⟨_, _, _⟩; go_simp; try with_reducible rfl
    refine takeJ 3 (v := ?_) ?_ hHeld ?_
    rotate_left
    · rintro w ⟨_, _, _⟩; go_simp; try with_reducible rfl
    refine takeJ 4 (v := ?_) ?_ hHeld ?_
    rotate_left
    · rintro w ⟨_, _, _⟩; go_simp; try with_reducible rfl
    refine takeJ 5 (v := ?_) ?_ hHeld ?_
    rotate_left
    · rintro w ⟨_, _, _⟩; go_simp; try with_reducible rfl
    refine takeJ 6 (v := ?_) ?_ hHeld ?_
    rotate_left
    · rintro w ⟨_, _, _⟩; go_simp; try with_reducible rfl
    refine takeJ 7 (v := ?_) ?_ hHeld ?_
    rotate_left
    · rintro w ⟨_, _, _⟩; go_simp; try with_reducible rfl
    refine takeJ 8 (v := ?_) ?_ hHeld ?_
    rotate_left
    · rintro w ⟨_, _, _⟩; go_simp; try with_reducible rfl
    refine takeJ 9 (v := ?_) ?_ hHeld ?_
    rotate_left
    · rintro w ⟨_, _, _⟩; go_simp; try with_reducible rfl
    refine onlyH (i := 10) rfl (by kernel_rfl) rfl (fun K hK => ?_)
    go_simp
    refine hK.out _ _ (⟨g1', x0', l1⟩) (fun hHeld => ?_)
    clear hK K
    try simp only [Act.put, List.setIfInBounds_toArray, List.set_cons_zero, List.set_cons_succ]
    refine onlyH (i := 11) rfl (by kernel_rfl) rfl (fun K hK => ?_)
    go_simp
    refine hK.out _ _ (⟨g1', x0', l1⟩) (fun hHeld => ?_)
    clear hK K
    try simp only [Act.put, List.setIfInBounds_toArray, List.set_cons_zero, List.set_cons_succ]
    refine takeJ 12 (v := ?_) ?_ hHeld ?_
    rotate_left
    · rintro w ⟨_, _, _⟩; go_simp; try with_reducible rfl
    refine wpAnyH_done (by kernel_rfl) ?_ _
    clear hHeld
    generalize (w0.alloc (.cells #[] 126)).drew = w1 at *
    obtain ⟨hb0, hh1, hx1, hy1, hrow1, hmap1⟩ := H1.out
    have hB01 := hb0.trans (HB1.out.mono (by omega))
    have y0 := cell_of_row w1 (w.heap.size + 1) 0 _ _ _ hy1
    have y1 := cell_of_row w1 (w.heap.size + 1) 1 _ _ _ hy1
    have z0 := cell_of_row w1 w.heap.size 0 _ _ _ hx1
    simp only [List.getElem?_toArray, List.getElem?_cons_zero, List.getElem?_cons_succ] at y0 y1 z0
    have f0 := frozen0 (j := 0) hy1
    have f1 := frozen0 (j := 1) hy1
    have HF := hide (And.intro hB01 (And.intro hh1 (And.intro hrow1 hmap1)))
    clear hb0 hB01 hh1 hrow1 hmap1
    go_wp2
    refine bodyPost_ret (results_cell_row rfl _ _ _ _ _ _ _ rfl (heap_set2 hy1) Tryz.underlying25 rfl Tryz.infoPart) rfl ⟨rfl, ?_, ?_⟩
    · obtain ⟨hB01, hh1, hrow1, hmap1⟩ := HF.out
      have hm : Mv B [25] none w1 ((w1.setCell ⟨w.heap.size + 1, 0, none⟩ (.string (strB o.1))).setCell ⟨w.heap.size + 1, 1, none⟩ (.int .i64 z)) := ((Mv.refl B _ none w1).set (j := 0) hy1 (by decide) (by omega) _).set (j := 1) (heap_set1a hy1) (by decide) (by omega) _
      exact ⟨hg, vo, mb, hm.k _ _ _ _ hh1 (by decide) (by simp), hm.own0 hrow1 (by decide), map_set (map_set hmap1 hy1 _) (heap_set1a hy1) _, hmb⟩
    · exact ((Mv.of HF.out.1 hB).setNew (j := 0) (by omega) hB _).setNew (j := 1) (by omega) hB _
  | false =>
    rw [hq] at l0 l1
    rw [if_neg (by simp)]
    go_enter Tryz.func52, Tryz.ntmps52
    go_wp2_with fail
    try rw [hw0]
    refine wp_region_held_drew (S := fun W => W.cell? ⟨g, 1, none⟩ = some (.map (some mb)) ∧ W.cell? ⟨w.heap.size, 0, none⟩ = some (.string (strB o.1)) ∧ (Instr.lookup 50 (.map (some mb)) (.string (strB o.1)) true).run Tryz.prog W = .ok (.tuple #[.agg #[], .bool false]) W) (by kernel_rfl) (⟨g1, x0, l0⟩) (fun hHeld => ?_)
    refine takeJ 0 (v := ?_) ?_ hHeld ?_
    rotate_left
    · rintro w ⟨_, _, _⟩; go_simp; try with_reducible rfl
    refine takeJ 1 (v := ?_) ?_ hHeld ?_
    rotate_left
    · rintro w ⟨_, _, _⟩; go_simp; try with_reducible rfl
    refine takeJ 2 (v := ?_) ?_ hHeld ?_
    rotate_left
    · rintro w ⟨_, _, _⟩; go_simp; try with_reducible rfl
    refine takeJ 3 (v := ?_) ?_ hHeld ?_
    rotate_left
    · rintro w ⟨_, _, _⟩; go_simp; try with_reducible rfl
    refine takeJ 4 (v := ?_) ?_ hHeld ?_
    rotate_left
    · rintro w ⟨_, _, _⟩; go_simp; try with_reducible rfl
    refine takeJ 5 (v := ?_) ?_ hHeld ?_
    rotate_left
    · rintro w ⟨_, _, _⟩; go_simp; try with_reducible rfl
    refine takeJ 6 (v := ?_) ?_ hHeld ?_
    rotate_left
    · rintro w ⟨_, _, _⟩; go_simp; try with_reducible rfl
    refine takeJ 7 (v := ?_) ?_ hHeld ?_
    rotate_left
    · rintro w ⟨_, _, _⟩; go_simp; try with_reducible rfl
    refine takeJ 8 (v := ?_) ?_ hHeld ?_
    rotate_left
    · rintro w ⟨_, _, _⟩; go_simp; try with_reducible rfl
    refine takeJ 9 (v := ?_) ?_ hHeld ?_
    rotate_left
    · rintro w ⟨_, _, _⟩; go_simp; try with_reducible rfl
    refine onlyH (i := 10) rfl (by kernel_rfl) rfl (fun K hK => ?_)
    go_simp
    refine hK.out _ _ (⟨g1', x0', l1⟩) (fun hHeld => ?_)
    clear hK K
    try simp only [Act.put, List.setIfInBounds_toArray, List.set_cons_zero, List.set_cons_succ]
    refine onlyH (i := 11) rfl (by kernel_rfl) rfl (fun K hK => ?_)
    go_simp
    refine hK.out _ _ (⟨g1', x0', l1⟩) (fun hHeld => ?_)
    clear hK K
    try simp only [Act.put, List.setIfInBounds_toArray, List.set_cons_zero, List.set_cons_succ]
    refine takeJ 12 (v := ?_) ?_ hHeld ?_
    rotate_left
    · rintro w ⟨_, _, _⟩; go_simp; try with_reducible rfl
    refine wpAnyH_done (by kernel_rfl) ?_ _
    clear hHeld
    generalize (w0.alloc (.cells #[] 126)).drew = w1 at *
    obtain ⟨hb0, hh1, hx1, hy1, hrow1, hmap1⟩ := H1.out
    have hB01 := hb0.trans (HB1.out.mono (by omega))
    have hs1 : w.heap.size + 2 ≤ w1.heap.size := by have := HB1.out.size; omega
    obtain ⟨w2, hput, hmap2, hc2, hsz2⟩ := map_put w1.drew mb os o hmap1 hq
    have hne1 : g ≠ mb := hmap1.ne hh1
    have hne2 : w.heap.size ≠ mb := hmap1.ne hx1
    have hne3 : w.heap.size + 1 ≠ mb := hmap1.ne hy1
    have hh2 := (hc2.block g (lt_of_heap hh1) hne1).trans hh1
    have hx2 := (hc2.block w.heap.size (lt_of_heap hx1) hne2).trans hx1
    have hy2 := (hc2.block (w.heap.size + 1) (lt_of_heap hy1) hne3).trans hy1
    have hvlt : ∀ q, vo.ownBlock = some q → q < w.heap.size := HVO.out
    have hrow2 : Rw B w2 57 2 pairC vo os := own_same hrow1 (fun q hq' => hc2.block q (hrow1.lt q hq').2 (by
      obtain ⟨c, fz, h1⟩ := Lib.ownsRow_kind hrow1 q hq'
      exact hmap1.ne h1))
    obtain ⟨es, ck, hes, -⟩ := hmap1
    have hM2 : Mv B bts none w w2 := (Mv.of hB01 hB).drew.map hc2 hmb hes
    have hB2 : B ≤ w2.heap.size := by have := hc2.size; simp at this; omega
    have hs2 : w.heap.size + 2 ≤ w2.heap.size := by have := hc2.size; simp at this; omega
    obtain ⟨vn, w3, hrun3, hrow3, hgr3, -⟩ := app_obj w2.drew B vo os o hrow2 hB2 hn
    rw [drew_alloc] at hrun3 hgr3
    rw [show w2.drew.heap.size = w2.heap.size from rfl] at hrun3
    have hrowA : Rw B (w2.alloc (.cells #[.string (strB o.1), .string (strB o.2)] 57)).drew 57 2 pairC vo os := World.ownsRow.alloc hrow2 _
    have hhA := (heap_past w2 (.cells #[.string (strB o.1), .string (strB o.2)] 57) _ (lt_of_heap hh2)).trans hh2
    have hxA := (heap_past w2 (.cells #[.string (strB o.1), .string (strB o.2)] 57) _ (lt_of_heap hx2)).trans hx2
    have hyA := (heap_past w2 (.cells #[.string (strB o.1), .string (strB o.2)] 57) _ (lt_of_heap hy2)).trans hy2
    have hmA : Mp.MapW (w2.alloc (.cells #[.string (strB o.1), .string (strB o.2)] 57)) mb (laidK (os ++ [o])) := hmap2.same (heap_past w2 (.cells #[.string (strB o.1), .string (strB o.2)] 57) _ hmap2.lt)
    have hh3 := grow_keep hrowA hgr3 (show (w2.alloc _).drew.heap[g]? = _ from hhA) (by decide)
    have hy3 := grow_keep hrowA hgr3 (show (w2.alloc _).drew.heap[w.heap.size + 1]? = _ from hyA) (by decide)
    have hx3 := (hgr3.block w.heap.size (show w.heap.size < (w2.alloc _).heap.size from lt_of_heap hxA) (fun hq' => by have := hvlt _ hq'.symm; omega)).trans hxA
    have hm3 : Mp.MapW w3 mb (laidK (os ++ [o])) := hmA.same (hgr3.block mb hmA.lt (fun hq' => by
      obtain ⟨c, fz, h1⟩ := Lib.ownsRow_kind hrow2 mb hq'.symm
      exact absurd rfl (hmap2.ne h1)))
    have hM3 : Mv B bts none w w3 := (hM2.alloc hB2 _).drew.grown hrowA hgr3 (by decide) (by simp; omega)
    have hM4 : Mv B bts none w (w3.setCell ⟨g, 0, none⟩ vn) := hM3.set hh3 (by decide) hg _
    have hx4 := (heap_setOther (j := 0) (u := vn) (ne_type hx3 hh3 (by decide))).trans hx3
    have hy4 := (heap_setOther (j := 0) (u := vn) (ne_type hy3 hh3 (by decide))).trans hy3
    have hBd : BdW B (w3.setCell ⟨g, 0, none⟩ vn) g (os ++ [o]) := ⟨hg, vn, mb, heap_set1a hh3, own_setCell hrow3 hh3 (by decide) _, map_set hm3 hh3 _, hmb⟩
    have cx : ∀ W : World, W.heap[w.heap.size]? = some (.cells #[.string (strB o.1), .string (strB o.2)] 57) → W.cell? ⟨w.heap.size, 0, none⟩ = some (.string (strB o.1)) ∧ W.cell? ⟨w.heap.size, 1, none⟩ = some (.string (strB o.2)) := fun W hW => by
      have e0 := cell_of_row W w.heap.size 0 _ _ _ hW
      have e1 := cell_of_row W w.heap.size 1 _ _ _ hW
      simp only [List.getElem?_toArray, List.getElem?_cons_zero, List.getElem?_cons_succ] at e0 e1
      exact ⟨e0, e1⟩
    have X1 := hide (cx _ hx1)
    have X2 := hide (cx _ hx2)
    have XA := hide (cx _ hxA)
    have X3 := hide (cx _ hx3)
    have X4 := hide (cx _ hx4)
    have m1 := cell_of_row w1 g 1 _ _ _ hh1
    have m2 := cell_of_row w2 g 1 _ _ _ hh2
    have o2 := cell_of_row w2 g 0 _ _ _ hh2
    have oA := cell_of_row _ g 0 _ _ _ hhA
    have o3 := cell_of_row w3 g 0 _ _ _ hh3
    have c1 := (cx _ hx1).1
    have y0 := cell_of_row _ (w.heap.size + 1) 0 _ _ _ hy4
    have y1 := cell_of_row _ (w.heap.size + 1) 1 _ _ _ hy4
    simp only [List.getElem?_toArray, List.getElem?_cons_zero, List.getElem?_cons_succ] at m1 m2 o2 oA o3 y0 y1
    have f3 := frozen0 (j := 0) hh3
    have f0 := frozen0 (j := 0) hy4
    have f1 := frozen0 (j := 1) hy4
    have FIN := hide (And.intro hBd (And.intro hM4 hy4))
    have hd4 := (cx _ hx4).1
    have HRUN := hide hrun3
    obtain ⟨vnA, vnm, vnc, rfl⟩ := row_form hrow3
    clear hb0 hB01 hh1 hx1 hy1 hrow1 hmap2 hc2 hne1 hne2 hne3 hh2 hx2 hy2 hvlt hrow2 hes hM2 hrow3 hgr3 hrowA hhA hxA hyA hmA hh3 hy3 hx3 hm3 hM3 hM4 hx4 hy4 hBd cx hsz2 l0 l1 hrun3 g1 x0 g1' x0'
    go_wp2_with fail
    refine wp_region_held_drew (S := fun W => W.cell? ⟨g, 1, none⟩ = some (.map (some mb)) ∧ W.cell? ⟨w.heap.size, 0, none⟩ = some (.string (strB o.1))) (by kernel_rfl) (⟨m1, c1⟩) (fun hHeld => ?_)
    refine takeJ 0 (v := ?_) ?_ hHeld ?_
    rotate_left
    · rintro w ⟨_, _⟩; go_simp; try with_reducible rfl
    refine takeJ 1 (v := ?_) ?_ hHeld ?_
    rotate_left
    · rintro w ⟨_, _⟩; go_simp; try with_reducible rfl
    refine takeJ 2 (v := ?_) ?_ hHeld ?_
    rotate_left
    · rintro w ⟨_, _⟩; go_simp; try with_reducible rfl
    refine takeJ 3 (v := ?_) ?_ hHeld ?_
    rotate_left
    · rintro w ⟨_, _⟩; go_simp; try with_reducible rfl
    refine takeJ 4 (v := ?_) ?_ hHeld ?_
    rotate_left
    · rintro w ⟨_, _⟩; go_simp; try with_reducible rfl
    refine takeJ 5 (v := ?_) ?_ hHeld ?_
    rotate_left
    · rintro w ⟨_, _⟩; go_simp; try with_reducible rfl
    refine takeJ 6 (v := ?_) ?_ hHeld ?_
    rotate_left
    · rintro w ⟨_, _⟩; go_simp; try with_reducible rfl
    refine onlyH (i := 7) rfl (by kernel_rfl) rfl (fun K hK => ?_)
    go_simp
    refine hK.out _ _ (⟨m2, X2.out.1⟩) (fun hHeld => ?_)
    clear hK K
    try simp only [Act.put, List.setIfInBounds_toArray, List.set_cons_zero, List.set_cons_succ]
    refine wpAnyH_done (by kernel_rfl) ?_ _
    clear hHeld
    go_wp2_with fail
    refine wp_region_held_drew (S := fun W => W.cell? ⟨w.heap.size, 0, none⟩ = some (.string (strB o.1)) ∧ W.cell? ⟨w.heap.size, 1, none⟩ = some (.string (strB o.2))) (by kernel_rfl) (X2.out) (fun hHeld => ?_)
    refine takeJ 0 (v := ?_) ?_ hHeld ?_
    rotate_left
    · rintro w ⟨_, _⟩; go_simp; try with_reducible rfl
    refine takeJ 1 (v := ?_) ?_ hHeld ?_
    rotate_left
    · rintro w ⟨_, _⟩; go_simp; try with_reducible rfl
    refine takeJ 2 (v := ?_) ?_ hHeld ?_
    rotate_left
    · rintro w ⟨_, _⟩; go_simp; try with_reducible rfl
    refine takeJ 3 (v := ?_) ?_ hHeld ?_
    rotate_left
    · rintro w ⟨_, _⟩; go_simp; try with_reducible rfl
    refine takeJ 5 (v := ?_) ?_ hHeld ?_
    rotate_left
    · rintro w ⟨_, _⟩; go_simp; try with_reducible rfl
    refine twoH (i := 4) (j := 6) rfl rfl (by kernel_rfl) rfl rfl (fun K hK => ?_) (fun K hK => ?_)
    · go_simp
      refine hK.out _ _ (X2.out) (fun hHeld => ?_)
      clear hK K
      try simp only [Act.put, List.setIfInBounds_toArray, List.set_cons_zero, List.set_cons_succ]
      refine onlyH (i := 6) rfl (by kernel_rfl) rfl (fun K hK => ?_)
      go_simp
      refine hK.out _ _ (XA.out) (fun hHeld => ?_)
      clear hK K
      try simp only [Act.put, List.setIfInBounds_toArray, List.set_cons_zero, List.set_cons_succ]
      refine onlyH (i := 7) rfl (by kernel_rfl) rfl (fun K hK => ?_)
      refine wp_append_run (.tmp 32) (.tmp 34) 26 rfl rfl rfl HRUN.out ?_
      refine hK.out _ _ (X3.out) (fun hHeld => ?_)
      clear hK K
      try simp only [Act.put, List.setIfInBounds_toArray, List.set_cons_zero, List.set_cons_succ]
      refine takeJ 8 (v := ?_) ?_ hHeld ?_
      rotate_left
      · rintro w ⟨_, _⟩; go_simp; try with_reducible rfl
      refine takeJ 9 (v := ?_) ?_ hHeld ?_
      rotate_left
      · rintro w ⟨_, _⟩; go_simp; try with_reducible rfl
      refine onlyH (i := 10) rfl (by kernel_rfl) rfl (fun K hK => ?_)
      go_simp
      refine hK.out _ _ (X4.out) (fun hHeld => ?_)
      clear hK K
      try simp only [Act.put, List.setIfInBounds_toArray, List.set_cons_zero, List.set_cons_succ]
      refine wpAnyH_done (by kernel_rfl) ?_ _
      clear hHeld
      obtain ⟨hBd, hM4, hy4⟩ := FIN.out
      generalize w3.setCell ⟨g, 0, none⟩ (.slice vnA vnm vnc) = w4 at *
      go_wp2
      refine bodyPost_ret (results_cell_row rfl _ _ _ _ _ _ _ rfl (heap_set2 hy4) Tryz.underlying25 rfl Tryz.infoPart) rfl ⟨rfl, ?_, ?_⟩
      · obtain ⟨-, vo', mb', g1, g2, g3, g4⟩ := hBd
        have hm : Mv B [25] none w4 ((w4.setCell ⟨w.heap.size + 1, 0, none⟩ (.string (strB o.1))).setCell ⟨w.heap.size + 1, 1, none⟩ (.int .i64 z)) := ((Mv.refl B _ none w4).set (j := 0) hy4 (by decide) (by omega) _).set (j := 1) (heap_set1a hy4) (by decide) (by omega) _
        exact ⟨hg, vo', mb', hm.k _ _ _ _ g1 (by decide) (by simp), hm.own0 g2 (by decide), map_set (map_set g3 hy4 _) (heap_set1a hy4) _, g4⟩
      · exact (hM4.setNew (j := 0) (by omega) hB _).setNew (j := 1) (by omega) hB _
    · go_simp
      refine hK.out _ _ (XA.out) (fun hHeld => ?_)
      clear hK K
      try simp only [Act.put, List.setIfInBounds_toArray, List.set_cons_zero, List.set_cons_succ]
      refine onlyH (i := 4) rfl (by kernel_rfl) rfl (fun K hK => ?_)
      go_simp
      refine hK.out _ _ (XA.out) (fun hHeld => ?_)
      clear hK K
      try simp only [Act.put, List.setIfInBounds_toArray, List.set_cons_zero, List.set_cons_succ]
      refine onlyH (i := 7) rfl (by kernel_rfl) rfl (fun K hK => ?_)
      refine wp_append_run (.tmp 32) (.tmp 34) 26 rfl rfl rfl HRUN.out ?_
      refine hK.out _ _ (X3.out) (fun hHeld => ?_)
      clear hK K
      try simp only [Act.put, List.setIfInBounds_toArray, List.set_cons_zero, List.set_cons_succ]
      refine takeJ 8 (v := ?_) ?_ hHeld ?_
      rotate_left
      · rintro w ⟨_, _⟩; go_simp; try with_reducible rfl
      refine takeJ 9 (v := ?_) ?_ hHeld ?_
      rotate_left
      · rintro w ⟨_, _⟩; go_simp; try with_reducible rfl
      refine onlyH (i := 10) rfl (by kernel_rfl) rfl (fun K hK => ?_)
      go_simp
      refine hK.out _ _ (X4.out) (fun hHeld => ?_)
      clear hK K
      try simp only [Act.put, List.setIfInBounds_toArray, List.set_cons_zero, List.set_cons_succ]
      refine wpAnyH_done (by kernel_rfl) ?_ _
      clear hHeld
      obtain ⟨hBd, hM4, hy4⟩ := FIN.out
      generalize w3.setCell ⟨g, 0, none⟩ (.slice vnA vnm vnc) = w4 at *
      go_wp2
      refine bodyPost_ret (results_cell_row rfl _ _ _ _ _ _ _ rfl (heap_set2 hy4) Tryz.underlying25 rfl Tryz.infoPart) rfl ⟨rfl, ?_, ?_⟩
      · obtain ⟨-, vo', mb', g1, g2, g3, g4⟩ := hBd
        have hm : Mv B [25] none w4 ((w4.setCell ⟨w.heap.size + 1, 0, none⟩ (.string (strB o.1))).setCell ⟨w.heap.size + 1, 1, none⟩ (.int .i64 z)) := ((Mv.refl B _ none w4).set (j := 0) hy4 (by decide) (by omega) _).set (j := 1) (heap_set1a hy4) (by decide) (by omega) _
        exact ⟨hg, vo', mb', hm.k _ _ _ _ g1 (by decide) (by simp), hm.own0 g2 (by decide), map_set (map_set g3 hy4 _) (heap_set1a hy4) _, g4⟩
      · exact (hM4.setNew (j := 0) (by omega) hB _).setNew (j := 1) (by omega) hB _
end Go.Proofs.YtokebnkgjchfaaaGreatDoor

/-
  Parts in groups, plainly; the parts and objects of the next level. No program here.
-/
namespace Go.Proofs.YtokebnkgjchfaaaGreatDoor
open Go.RowKit

theorem gFrom_bounds (e : Nat → Bool) (most : Nat) : ∀ (d n : Nat), most - n = d → gFrom e most n ≤ most ∧ (n ≤ most → n ≤ gFrom e most n) := by
  intro d
  induction d with
  | zero =>
    intro n hd
    rw [gFrom_end (by omega)]
    omega
  | succ d ih =>
    intro n hd
    have hlt : n < most := by omega
    cases he : e n with
    | true => rw [gFrom_hit hlt he]; omega
    | false =>
      have := ih (n + 1) (by omega)
      rw [gFrom_next hlt he]
      omega
theorem groupN_le (ps : List Part) : groupN ps ≤ ps.length ∧ groupN ps ≤ 32 := by
  have := (gFrom_bounds (fun n => (ps[n - 1]?.map fun p => endG p.1).getD false) (min ps.length 32) _ 2 rfl).1
  unfold groupN
  omega
theorem groupN_two {ps : List Part} (h : 2 ≤ ps.length) : 2 ≤ groupN ps := by
  have := (gFrom_bounds (fun n => (ps[n - 1]?.map fun p => endG p.1).getD false) (min ps.length 32) _ 2 rfl).2 (by omega)
  unfold groupN
  omega
theorem groupN_one {ps : List Part} (h : ps.length = 1) : groupN ps = 1 := by
  unfold groupN
  rw [gFrom_end (by omega), h]
  rfl
theorem groupN_pos {ps : List Part} (h : ps ≠ []) : 1 ≤ groupN ps := by
  have h1 : 1 ≤ ps.length := by
    rcases ps with _ | ⟨a, b⟩
    · exact absurd rfl h
    · simp
  by_cases h2 : ps.length = 1
  · rw [groupN_one h2]; exact Nat.le_refl _
  · have := groupN_two (ps := ps) (by omega)
    omega
/-- The groups of parts, one behind the other. -/
def groups : List Part → List (List Part)
  | [] => []
  | p :: ps => (p :: ps).take (groupN (p :: ps)) :: groups ((p :: ps).drop (groupN (p :: ps)))
termination_by l => l.length
decreasing_by
  have := groupN_pos (ps := p :: ps) (by simp)
  simp only [List.length_drop, List.length_cons]
  omega
theorem groups_nil : groups [] = [] := by rw [groups]
theorem groups_step {ps : List Part} (h : ps ≠ []) : groups ps = ps.take (groupN ps) :: groups (ps.drop (groupN ps)) := by
  rcases ps with _ | ⟨a, b⟩
  · exact absurd rfl h
  · rw [groups]
theorem groups_all : ∀ (n : Nat) (ps : List Part), ps.length = n → (groups ps).flatten = ps ∧ 2 * (groups ps).length ≤ ps.length + 1 ∧ ∀ g ∈ groups ps, 1 ≤ g.length ∧ g.length ≤ 32 := by
  intro n
  induction n using Nat.strongRecOn with
  | ind n ih =>
    intro ps hn
    by_cases h : ps = []
    · subst h
      rw [groups_nil]
      simp
    · have hp := groupN_pos h
      obtain ⟨hl, hl2⟩ := groupN_le ps
      have hd : (ps.drop (groupN ps)).length = ps.length - groupN ps := by simp
      obtain ⟨i1, i2, i3⟩ := ih (ps.length - groupN ps) (by omega) (ps.drop (groupN ps)) hd
      rw [groups_step h]
      refine ⟨?_, ?_, ?_⟩
      · rw [List.flatten_cons, i1, List.take_append_drop]
      · rw [List.length_cons]
        by_cases h2 : 2 ≤ ps.length
        · have := groupN_two h2
          omega
        · have h1 : ps.length = 1 := by omega
          have h3 := groupN_one h1
          have h0 : ps.drop (groupN ps) = [] := List.eq_nil_of_length_eq_zero (by omega)
          rw [h0, groups_nil]
          simp only [List.length_nil]
          omega
      · intro g hg
        rcases List.mem_cons.1 hg with rfl | hg
        · rw [List.length_take]; omega
        · exact i3 g hg
theorem groups_flatten (ps : List Part) : (groups ps).flatten = ps := (groups_all _ ps rfl).1
theorem groups_half (ps : List Part) : 2 * (groups ps).length ≤ ps.length + 1 := (groups_all _ ps rfl).2.1
theorem groups_len {ps g : List Part} (h : g ∈ groups ps) : 1 ≤ g.length ∧ g.length ≤ 32 := (groups_all _ ps rfl).2.2 g h
theorem groups_mem {ps g : List Part} (h : g ∈ groups ps) {p : Part} (hp : p ∈ g) : p ∈ ps := by
  rw [← groups_flatten ps]
  exact List.mem_flatten.2 ⟨g, h, hp⟩
/-- The object, the part of a group. -/
def fanO (level : Int) (ks : List Part) : Pair := (sha (70 :: fanB (level, ks)), 70 :: fanB (level, ks))
def fanP (level : Int) (ks : List Part) : Part := ((fanO level ks).1, sizeP ks)
def layF (level : Int) (os : List Pair) (gs : List (List Part)) : List Pair := gs.foldl (fun os ks => layP os (fanO level ks)) os
theorem layF_snoc (level : Int) (os : List Pair) (gs : List (List Part)) (g : List Part) : layF level os (gs ++ [g]) = layP (layF level os gs) (fanO level g) := by
  unfold layF
  rw [List.foldl_append]
  rfl
theorem layF_le (level : Int) : ∀ (gs : List (List Part)) (os : List Pair), (layF level os gs).length ≤ os.length + gs.length
  | [], os => by simp [layF]
  | g :: gs, os => by
    have h1 := layF_le level gs (layP os (fanO level g))
    have h2 := layP_le os (fanO level g)
    have h3 : layF level os (g :: gs) = layF level (layP os (fanO level g)) gs := rfl
    rw [h3, List.length_cons]
    omega
/-- All levels over some parts: the root, the objects. -/
def riseP : Nat → Int → List Part → List Pair → Part × List Pair
  | 0, _, ps, os => (ps.headD ([], 0), os)
  | n + 1, level, ps, os => if 1 < ps.length then riseP n (level + 1) ((groups ps).map (fanP level)) (layF level os (groups ps)) else (ps.headD ([], 0), os)
theorem sizeP_flat : ∀ (gs : List (List Part)) (level : Int), sizeP (gs.map (fanP level)) = sizeP gs.flatten
  | [], _ => rfl
  | g :: gs, level => by
    rw [List.map_cons, List.flatten_cons, sizeP_append, sizeP_cons, ← sizeP_flat gs level]
    rfl
theorem Ls.part {α : Type} {B : Nat} {w : World} {k : Nat} {cs : α → List Value} {b off n cap : Nat} {xs : List α} (h : Ls B w k cs (.slice (some ⟨b, off, none⟩) n cap) xs) {a z : Nat} (ha : a ≤ z) (hz : z ≤ xs.length) : Ls B w k cs (.slice (some ⟨b, off + a * k, none⟩) (z - a) (cap - a)) ((xs.take z).drop a) := by
  obtain ⟨ao, cp, hv, h1, h2, h4⟩ := h
  injection hv with e1 e2 e3
  subst e1 e2 e3
  have hl : ((xs.take z).drop a).length = z - a := by simp; omega
  refine ⟨_, _, by rw [hl], by rw [hl]; omega, by omega, fun hne => ?_⟩
  have hx : xs ≠ [] := by
    rintro rfl
    simp at hne
  obtain ⟨b', off', e, hb, hc⟩ := h4 hx
  injection e with e
  injection e with e1 e2 e3
  subst e1 e2
  refine ⟨_, _, rfl, hb, fun j hj i u hu => ?_⟩
  rw [hl] at hj
  have hu' : (cs (xs[a + j]'(by omega)))[i]? = some u := by simpa using hu
  have := hc (a + j) (by omega) i u hu'
  rwa [Nat.add_mul, ← Nat.add_assoc] at this
end Go.Proofs.YtokebnkgjchfaaaGreatDoor
