/-
  The reference's list under way. Conditions: not too many.
-/
import Derived.Test.YtfeffaeinggiiaaGreatDoorJ26PRMany
namespace Go.Proofs.YtfeffaeinggiiaaGreatDoor
open Go.RowKit

/-- The reference's list g: the objects, what was asked, told (the row vp), the first error. -/
def RlW (B : Nat) (w : World) (g : Nat) (vo : Value) (objs : List Pair) (vp : Value) (s : LsS) : Prop :=
  B ≤ g ∧ Ls B w 2 pairC vo objs ∧ ∃ va, w.heap[g]? = some (.cells #[vo, va, vp, .int .i64 s.bad] 102) ∧ Rw B w 9 1 idC va s.asked ∧ Rw B w 60 2 pairC vp s.out
/-- What it moves. -/
abbrev lts : List TypeId := [9, 102]
theorem RlW.le {B : Nat} {w : World} {g : Nat} {vo : Value} {objs : List Pair} {vp : Value} {s : LsS} (h : RlW B w g vo objs vp s) : B ≤ w.heap.size := by
  obtain ⟨hg, -, va, hh, -⟩ := h
  have := lt_of_heap hh
  omega
theorem RlW.below {B : Nat} {w w' : World} {g : Nat} {vo : Value} {objs : List Pair} {vp : Value} {s : LsS} (h : RlW B w g vo objs vp s) (hb : Below w.heap.size w w') : RlW B w' g vo objs vp s := by
  have hB := h.le
  obtain ⟨hg, hl, va, hh, h1, h3⟩ := h
  exact ⟨hg, hl.keep (hb.mono hB), va, (hb.block _ (lt_of_heap hh)).trans hh, own_same h1 (fun q hq => hb.block q (h1.lt q hq).2), own_same h3 (fun q hq => hb.block q (h3.lt q hq).2)⟩
theorem RlW.lt {B : Nat} {w : World} {g : Nat} {vo : Value} {objs : List Pair} {vp : Value} {s : LsS} (h : RlW B w g vo objs vp s) {q : Nat} (hq : vp.ownBlock = some q) : q < w.heap.size := by
  obtain ⟨-, -, va, -, -, h3⟩ := h
  exact (h3.lt q hq).2
theorem set4 {w : World} {g : Nat} {v0 v1 v2 v3 : Value} {t : TypeId} (h : w.heap[g]? = some (.cells #[v0, v1, v2, v3] t)) (u : Value) :
    (w.setCell ⟨g, 1, none⟩ u).heap[g]? = some (.cells #[v0, u, v2, v3] t) ∧ (w.setCell ⟨g, 2, none⟩ u).heap[g]? = some (.cells #[v0, v1, u, v3] t) ∧ (w.setCell ⟨g, 3, none⟩ u).heap[g]? = some (.cells #[v0, v1, v2, u] t) := by
  refine ⟨?_, ?_, ?_⟩ <;> (rw [heap_setCell _ _ _ _ _ _ _ h]; simp)
/-- One more is asked. -/
theorem RlW.ask {B : Nat} {w : World} {g : Nat} {vo : Value} {objs : List Pair} {vp : Value} {s : LsS} (h : RlW B w g vo objs vp s) (id : Bs) (hn : s.asked.length ≤ 4294967296) :
    ∃ va va' w1, w.heap[g]? = some (.cells #[vo, va, vp, .int .i64 s.bad] 102) ∧ (∃ a m c, va' = .slice a m c) ∧
      (Builtin.append_ #[32, 32] 32 #[va, .slice (some ⟨w.heap.size, 0, none⟩) 1 1]).run Tryz.prog (w.alloc (.cells #[.string (strB id)] 9)).drew = .ok va' w1 ∧
      w1.heap[g]? = some (.cells #[vo, va, vp, .int .i64 s.bad] 102) ∧ RlW B (w1.setCell ⟨g, 1, none⟩ va') g vo objs vp ⟨s.asked ++ [id], s.out, s.bad⟩ ∧ Mv B lts none w w1 ∧ Mv B lts none w (w1.setCell ⟨g, 1, none⟩ va') := by
  have hB := h.le
  obtain ⟨hg, hl, va, hh, h1, h3⟩ := h
  obtain ⟨va', w1, hrun, hrow, hgr, -⟩ := app_id w.drew B va s.asked id h1 hB hn
  rw [drew_alloc] at hrun hgr
  rw [show w.drew.heap.size = w.heap.size from rfl] at hrun
  have h1' : Rw B (w.alloc (.cells #[.string (strB id)] 9)).drew 9 1 idC va s.asked := World.ownsRow.alloc h1 _
  have h3' : Rw B (w.alloc (.cells #[.string (strB id)] 9)).drew 60 2 pairC vp s.out := World.ownsRow.alloc h3 _
  have hh' := (heap_past w (.cells #[.string (strB id)] 9) _ (lt_of_heap hh)).trans hh
  have hh1 := grow_keep h1' hgr (show (w.alloc _).drew.heap[g]? = _ from hh') (by decide)
  have hm1 : Mv B lts none w w1 := ((Mv.refl B lts none w).alloc hB _).drew.grown h1' hgr (by decide) (by simp; omega)
  have hm2 := hm1.set (j := 1) hh1 (by decide) hg va'
  refine ⟨va, va', w1, hh, row_form hrow, hrun, hh1, ⟨hg, hl.keep hm2.b, va', (set4 hh1 _).1, own_setCell hrow hh1 (by decide) _, own_setCell (grow_other h3' h1' hgr (own_ne h3' h1' (by decide))) hh1 (by decide) _⟩, hm1, hm2⟩
/-- One more pair is told. -/
theorem RlW.tell {B : Nat} {w : World} {g : Nat} {vo : Value} {objs : List Pair} {vp : Value} {s : LsS} (h : RlW B w g vo objs vp s) (p : Pair) (hn : s.out.length ≤ 4294967296) :
    ∃ va vp' w1, w.heap[g]? = some (.cells #[vo, va, vp, .int .i64 s.bad] 102) ∧ (∃ a m c, vp' = .slice a m c) ∧
      (Builtin.append_ #[22, 22] 22 #[vp, .slice (some ⟨w.heap.size, 0, none⟩) 1 1]).run Tryz.prog (w.alloc (.cells #[.string (strB p.1), .string (strB p.2)] 60)).drew = .ok vp' w1 ∧
      w1.heap[g]? = some (.cells #[vo, va, vp, .int .i64 s.bad] 102) ∧ RlW B (w1.setCell ⟨g, 2, none⟩ vp') g vo objs vp' ⟨s.asked, s.out ++ [p], s.bad⟩ ∧ Mv B lts vp.ownBlock w w1 ∧ Mv B lts vp.ownBlock w (w1.setCell ⟨g, 2, none⟩ vp') ∧ Nx w vp.ownBlock vp'.ownBlock := by
  have hB := h.le
  obtain ⟨hg, hl, va, hh, h1, h3⟩ := h
  obtain ⟨vp', w1, hrun, hrow, hgr, hloc⟩ := app_pair w.drew B vp s.out p h3 hB hn
  rw [drew_alloc] at hrun hgr
  rw [show w.drew.heap.size = w.heap.size from rfl] at hrun hloc
  have h1' : Rw B (w.alloc (.cells #[.string (strB p.1), .string (strB p.2)] 60)).drew 9 1 idC va s.asked := World.ownsRow.alloc h1 _
  have h3' : Rw B (w.alloc (.cells #[.string (strB p.1), .string (strB p.2)] 60)).drew 60 2 pairC vp s.out := World.ownsRow.alloc h3 _
  have hh' := (heap_past w (.cells #[.string (strB p.1), .string (strB p.2)] 60) _ (lt_of_heap hh)).trans hh
  have hh1 := grow_keep h3' hgr (show (w.alloc _).drew.heap[g]? = _ from hh') (by decide)
  have hm1 : Mv B lts vp.ownBlock w w1 := ((Mv.refl B lts vp.ownBlock w).alloc hB _).drew.grownRow h3' hgr (Nx.refl _ _) (by simp; omega)
  have hm2 := hm1.set (j := 2) hh1 (by decide) hg vp'
  refine ⟨va, vp', w1, hh, row_form hrow, hrun, hh1, ⟨hg, hl.keep hm2.b, va, (set4 hh1 _).2.1, own_setCell (grow_other h1' h3' hgr (own_ne h1' h3' (by decide))) hh1 (by decide) _, own_setCell hrow hh1 (by decide) _⟩, hm1, hm2, ?_⟩
  rcases hloc with h | h
  · exact .inl h
  · exact .inr ⟨_, h, by omega⟩
/-- The error is laid. -/
theorem RlW.err {B : Nat} {w : World} {g : Nat} {vo : Value} {objs : List Pair} {vp : Value} {s : LsS} (h : RlW B w g vo objs vp s) (e : Int) : RlW B (w.setCell ⟨g, 3, none⟩ (.int .i64 e)) g vo objs vp ⟨s.asked, s.out, e⟩ ∧ Mv B lts none w (w.setCell ⟨g, 3, none⟩ (.int .i64 e)) := by
  obtain ⟨hg, hl, va, hh, h1, h3⟩ := h
  have hm : Mv B lts none w (w.setCell ⟨g, 3, none⟩ (.int .i64 e)) := (Mv.refl B lts none w).set (j := 3) hh (by decide) hg _
  exact ⟨⟨hg, hl.keep hm.b, va, (set4 hh _).2.2, own_setCell h1 hh (by decide) _, own_setCell h3 hh (by decide) _⟩, hm⟩
/-- The first ones of what is gone to. -/
theorem takeM_skip {lo hi : Bs} {x : Pair} {r : List Pair} {s : LsS} (h : inM lo hi x.1 = false) : takeM lo hi (x :: r) s = takeM lo hi r s := by rw [takeM, if_neg (by rw [h]; simp)]
theorem takeM_stop {lo hi : Bs} {x : Pair} {r : List Pair} {s : LsS} (h : inM lo hi x.1 = true) (h2 : backM s x.1 = true) : takeM lo hi (x :: r) s = ⟨s.asked, s.out, 122⟩ := by rw [takeM, if_pos h, if_pos h2]
theorem takeM_more {lo hi : Bs} {x : Pair} {r : List Pair} {s : LsS} (h : inM lo hi x.1 = true) (h2 : backM s x.1 = false) : takeM lo hi (x :: r) s = takeM lo hi r ⟨s.asked, s.out ++ [x], s.bad⟩ := by rw [takeM, if_pos h, if_neg (by rw [h2]; simp)]
end Go.Proofs.YtfeffaeinggiiaaGreatDoor
