/-
  The reference's walk in memory, and its parts: what is asked, met, read, bad. Conditions: it lies there; not too much.
-/
import Derived.Test.YtljhnakjkocanaaGreatDoorV31BRead
import Derived.Test.YtljhnakjkocanaaGreatDoorV17ORTakeC
namespace Go.Proofs.YtljhnakjkocanaaGreatDoor
open Go.RowKit

/-- The reference's walk g: the objects, what was asked, read, met (the row vp), the first error. -/
def RfW (B : Nat) (w : World) (g : Nat) (vo : Value) (objs : List Pair) (vp : Value) (s : Wk) : Prop :=
  B ≤ g ∧ Ls B w 2 pairC vo objs ∧ ∃ va vd, w.heap[g]? = some (.cells #[vo, va, vd, vp, .int .i64 s.bad] 76) ∧ Rw B w 9 1 idC va s.asked ∧ w.ownsRow B 5 1 vd s.data.length (bc s.data) ∧ Rw B w 25 2 partC vp s.parts
/-- What it moves. -/
abbrev fts : List TypeId := [9, 5, 76]
theorem RfW.le {B : Nat} {w : World} {g : Nat} {vo : Value} {objs : List Pair} {vp : Value} {s : Wk} (h : RfW B w g vo objs vp s) : B ≤ w.heap.size := by
  obtain ⟨hg, -, va, vd, hh, -⟩ := h
  have := lt_of_heap hh
  omega
theorem RfW.below {B : Nat} {w w' : World} {g : Nat} {vo : Value} {objs : List Pair} {vp : Value} {s : Wk} (h : RfW B w g vo objs vp s) (hb : Below w.heap.size w w') : RfW B w' g vo objs vp s := by
  have hB := h.le
  obtain ⟨hg, hl, va, vd, hh, h1, h2, h3⟩ := h
  exact ⟨hg, hl.keep (hb.mono hB), va, vd, (hb.block _ (lt_of_heap hh)).trans hh, own_same h1 (fun q hq => hb.block q (h1.lt q hq).2), own_same h2 (fun q hq => hb.block q (h2.lt q hq).2), own_same h3 (fun q hq => hb.block q (h3.lt q hq).2)⟩
theorem RfW.lt {B : Nat} {w : World} {g : Nat} {vo : Value} {objs : List Pair} {vp : Value} {s : Wk} (h : RfW B w g vo objs vp s) {q : Nat} (hq : vp.ownBlock = some q) : q < w.heap.size := by
  obtain ⟨-, -, va, vd, -, -, -, h3⟩ := h
  exact (h3.lt q hq).2
theorem set5 {w : World} {g : Nat} {v0 v1 v2 v3 v4 : Value} {t : TypeId} (h : w.heap[g]? = some (.cells #[v0, v1, v2, v3, v4] t)) (u : Value) :
    (w.setCell ⟨g, 1, none⟩ u).heap[g]? = some (.cells #[v0, u, v2, v3, v4] t) ∧ (w.setCell ⟨g, 2, none⟩ u).heap[g]? = some (.cells #[v0, v1, u, v3, v4] t) ∧ (w.setCell ⟨g, 3, none⟩ u).heap[g]? = some (.cells #[v0, v1, v2, u, v4] t) ∧ (w.setCell ⟨g, 4, none⟩ u).heap[g]? = some (.cells #[v0, v1, v2, v3, u] t) := by
  refine ⟨?_, ?_, ?_, ?_⟩ <;> (rw [heap_setCell _ _ _ _ _ _ _ h]; simp)
/-- One more is asked. -/
theorem RfW.ask {B : Nat} {w : World} {g : Nat} {vo : Value} {objs : List Pair} {vp : Value} {s : Wk} (h : RfW B w g vo objs vp s) (id : Bs) (hn : s.asked.length ≤ 4294967296) :
    ∃ va vd va' w1, w.heap[g]? = some (.cells #[vo, va, vd, vp, .int .i64 s.bad] 76) ∧ (∃ a m c, va' = .slice a m c) ∧
      (Builtin.append_ #[37, 37] 37 #[va, .slice (some ⟨w.heap.size, 0, none⟩) 1 1]).run Tryz.prog (w.alloc (.cells #[.string (strB id)] 9)).drew = .ok va' w1 ∧
      w1.heap[g]? = some (.cells #[vo, va, vd, vp, .int .i64 s.bad] 76) ∧ RfW B (w1.setCell ⟨g, 1, none⟩ va') g vo objs vp ⟨s.asked ++ [id], s.data, s.parts, s.bad⟩ ∧ Mv B fts none w w1 ∧ Mv B fts none w (w1.setCell ⟨g, 1, none⟩ va') := by
  have hB := h.le
  obtain ⟨hg, hl, va, vd, hh, h1, h2, h3⟩ := h
  obtain ⟨va', w1, hrun, hrow, hgr, -⟩ := app_id w.drew B va s.asked id h1 hB hn
  rw [drew_alloc] at hrun hgr
  rw [show w.drew.heap.size = w.heap.size from rfl] at hrun
  have h1' : Rw B (w.alloc (.cells #[.string (strB id)] 9)).drew 9 1 idC va s.asked := World.ownsRow.alloc h1 _
  have h2' : (w.alloc (.cells #[.string (strB id)] 9)).drew.ownsRow B 5 1 vd s.data.length (bc s.data) := World.ownsRow.alloc h2 _
  have h3' : Rw B (w.alloc (.cells #[.string (strB id)] 9)).drew 25 2 partC vp s.parts := World.ownsRow.alloc h3 _
  have hh' := (heap_past w (.cells #[.string (strB id)] 9) _ (lt_of_heap hh)).trans hh
  have hh1 := grow_keep h1' hgr (show (w.alloc _).drew.heap[g]? = _ from hh') (by decide)
  have hm1 : Mv B fts none w w1 := ((Mv.refl B fts none w).alloc hB _).drew.grown h1' hgr (by decide) (by simp; omega)
  have hm2 := hm1.set (j := 1) hh1 (by decide) hg va'
  refine ⟨va, vd, va', w1, hh, row_form hrow, hrun, hh1, ⟨hg, hl.keep hm2.b, va', vd, (set5 hh1 _).1, own_setCell hrow hh1 (by decide) _, own_setCell (grow_other h2' h1' hgr (own_ne h2' h1' (by decide))) hh1 (by decide) _, own_setCell (grow_other h3' h1' hgr (own_ne h3' h1' (by decide))) hh1 (by decide) _⟩, hm1, hm2⟩
/-- One more part is met. -/
theorem RfW.part {B : Nat} {w : World} {g : Nat} {vo : Value} {objs : List Pair} {vp : Value} {s : Wk} (h : RfW B w g vo objs vp s) (p : Part) (hn : s.parts.length ≤ 4294967296) :
    ∃ va vd vp' w1, w.heap[g]? = some (.cells #[vo, va, vd, vp, .int .i64 s.bad] 76) ∧ (∃ a m c, vp' = .slice a m c) ∧
      (Builtin.append_ #[38, 38] 38 #[vp, .slice (some ⟨w.heap.size, 0, none⟩) 1 1]).run Tryz.prog (w.alloc (.cells #[.string (strB p.1), .int .i64 p.2] 25)).drew = .ok vp' w1 ∧
      w1.heap[g]? = some (.cells #[vo, va, vd, vp, .int .i64 s.bad] 76) ∧ RfW B (w1.setCell ⟨g, 3, none⟩ vp') g vo objs vp' ⟨s.asked, s.data, s.parts ++ [p], s.bad⟩ ∧ Mv B fts vp.ownBlock w w1 ∧ Mv B fts vp.ownBlock w (w1.setCell ⟨g, 3, none⟩ vp') ∧ Nx w vp.ownBlock vp'.ownBlock := by
  have hB := h.le
  obtain ⟨hg, hl, va, vd, hh, h1, h2, h3⟩ := h
  obtain ⟨vp', w1, hrun, hrow, hgr, hloc⟩ := app_part w.drew B vp s.parts p h3 hB hn
  rw [drew_alloc] at hrun hgr
  rw [show w.drew.heap.size = w.heap.size from rfl] at hrun hloc
  have h1' : Rw B (w.alloc (.cells #[.string (strB p.1), .int .i64 p.2] 25)).drew 9 1 idC va s.asked := World.ownsRow.alloc h1 _
  have h2' : (w.alloc (.cells #[.string (strB p.1), .int .i64 p.2] 25)).drew.ownsRow B 5 1 vd s.data.length (bc s.data) := World.ownsRow.alloc h2 _
  have h3' : Rw B (w.alloc (.cells #[.string (strB p.1), .int .i64 p.2] 25)).drew 25 2 partC vp s.parts := World.ownsRow.alloc h3 _
  have hh' := (heap_past w (.cells #[.string (strB p.1), .int .i64 p.2] 25) _ (lt_of_heap hh)).trans hh
  have hh1 := grow_keep h3' hgr (show (w.alloc _).drew.heap[g]? = _ from hh') (by decide)
  have hm1 : Mv B fts vp.ownBlock w w1 := ((Mv.refl B fts vp.ownBlock w).alloc hB _).drew.grownRow h3' hgr (Nx.refl _ _) (by simp; omega)
  have hm2 := hm1.set (j := 3) hh1 (by decide) hg vp'
  refine ⟨va, vd, vp', w1, hh, row_form hrow, hrun, hh1, ⟨hg, hl.keep hm2.b, va, vd, (set5 hh1 _).2.2.1, own_setCell (grow_other h1' h3' hgr (own_ne h1' h3' (by decide))) hh1 (by decide) _, own_setCell (grow_other h2' h3' hgr (own_ne h2' h3' (by decide))) hh1 (by decide) _, own_setCell hrow hh1 (by decide) _⟩, hm1, hm2, ?_⟩
  rcases hloc with h | h
  · exact .inl h
  · exact .inr ⟨_, h, by omega⟩
/-- Some more is read. -/
theorem RfW.more {B : Nat} {w : World} {g : Nat} {vo : Value} {objs : List Pair} {vp : Value} {s : Wk} (h : RfW B w g vo objs vp s) (d : Bs) (hn : s.data.length + d.length ≤ 140737488355328) :
    ∃ va vd vd' w1, w.heap[g]? = some (.cells #[vo, va, vd, vp, .int .i64 s.bad] 76) ∧ (∃ a m c, vd' = .slice a m c) ∧
      (Builtin.append_ #[74, 9] 74 #[vd, .string (strB d)]).run Tryz.prog w.drew = .ok vd' w1 ∧
      w1.heap[g]? = some (.cells #[vo, va, vd, vp, .int .i64 s.bad] 76) ∧ RfW B (w1.setCell ⟨g, 2, none⟩ vd') g vo objs vp ⟨s.asked, s.data ++ d, s.parts, s.bad⟩ ∧ Mv B fts none w w1 ∧ Mv B fts none w (w1.setCell ⟨g, 2, none⟩ vd') := by
  have hB := h.le
  obtain ⟨hg, hl, va, vd, hh, h1, h2, h3⟩ := h
  obtain ⟨vd', w1, hrun, hrow, hgr⟩ := app_str (w := w.drew) (m := d) h2 hn hB
  have hh1 := grow_keep (w := w.drew) h2 hgr hh (by decide)
  have hm1 : Mv B fts none w w1 := (Mv.refl B fts none w).drew.grown h2 hgr (by decide) hB
  have hm2 := hm1.set (j := 2) hh1 (by decide) hg vd'
  refine ⟨va, vd, vd', w1, hh, row_form hrow, hrun, hh1, ⟨hg, hl.keep hm2.b, va, vd', (set5 hh1 _).2.1, own_setCell (grow_other (w := w.drew) h1 h2 hgr (own_ne (w := w.drew) h1 h2 (by decide))) hh1 (by decide) _, own_setCell hrow hh1 (by decide) _, own_setCell (grow_other (w := w.drew) h3 h2 hgr (own_ne (w := w.drew) h3 h2 (by decide))) hh1 (by decide) _⟩, hm1, hm2⟩
set_option maxRecDepth 20000 in
theorem fail_any (B : Nat) (w : World) (g : Nat) (vo : Value) (objs : List Pair) (vp : Value) (s : Wk) (e : Int) (h : RfW B w g vo objs vp s) (hs : s.bad = 0) :
    Calls Tryz.prog 45 #[.pointer (some ⟨g, 0, none⟩), .int .i64 e] w fun en w' => en = .returned (.tuple #[]) ∧ RfW B w' g vo objs vp ⟨s.asked, s.data, s.parts, e⟩ ∧ Mv B fts none w w' := by
  have hB := h.le
  obtain ⟨hg, hl, va, vd, hh, h1, h2, h3⟩ := h
  rw [hs] at hh
  have c4 := cell_of_row w g 4 _ _ _ hh
  simp only [List.getElem?_toArray, List.getElem?_cons_zero, List.getElem?_cons_succ] at c4
  have f4 := frozen0 (j := 4) hh
  have hm := (Mv.refl B fts none w).set (j := 4) hh (by decide) hg (.int .i64 e)
  have FIN := hide (show RfW B (w.setCell ⟨g, 4, none⟩ (.int .i64 e)) g vo objs vp ⟨s.asked, s.data, s.parts, e⟩ ∧ _ from ⟨⟨hg, hl.keep hm.b, va, vd, (set5 hh _).2.2.2, own_setCell h1 hh (by decide) _, own_setCell h2 hh (by decide) _, own_setCell h3 hh (by decide) _⟩, hm⟩)
  clear hl hh h1 h2 h3 hm hs
  go_enter Tryz.func45, Tryz.ntmps45
  go_wp2
  go_end0
  exact ⟨rfl, FIN.out.1, FIN.out.2⟩
end Go.Proofs.YtljhnakjkocanaaGreatDoor
