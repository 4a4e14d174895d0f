/-
  Texts joined: PRMany, PList, PRGo0.
-/
import Derived.Test.YtldfjpgcemfpjaaS20PRNode
/-
  How many pairs a map has, by the reference. Conditions: the objects lie there; texts within reach.
-/
namespace Go.Proofs.Ytldfjpgcemfpjaa
open Go.RowKit

theorem findO_short {objs : List Pair} (hob : ∀ o ∈ objs, o.2.length ≤ 140737488351232) (id b : Bs) (h : findO objs id = some b) : b.length ≤ 140737488355328 := by
  obtain ⟨o, ho, rfl⟩ := findO_mem h
  have := hob o ho
  omega
theorem RightM.links {n : NodeM} (h : RightM n) : n.2.1.length ≤ 64 ∧ (∀ k ∈ n.2.2, rlinkOk k = true) ∧ manyL n.2.2 ≤ 4096 ∧ n.2.2.length ≤ 64 := by
  by_cases hz : n.1 = 0
  · obtain ⟨h1, h2⟩ := h.leaf hz
    rw [h1]
    exact ⟨(leafOk_pairs h2).1, by simp, by simp [manyL], by simp⟩
  · have h3 := h.lo
    obtain ⟨h1, h2⟩ := h.branch (by omega)
    rw [h1]
    have h4 := branchOk_links h2
    exact ⟨by simp, h4.2, branch_sum h2, h4.1⟩
end Go.Proofs.Ytldfjpgcemfpjaa

/-
  Going to the pairs of a map between two keys, plainly. No program here.
-/
namespace Go.Proofs.Ytldfjpgcemfpjaa
open Go.RowKit

/-- What was asked, told so far; the first error. -/
structure LsS where
  asked : List Bs
  out : List Pair
  bad : Int
def GrowM (s t : LsS) (n m : Nat) : Prop := t.asked.length ≤ s.asked.length + n ∧ t.out.length ≤ s.out.length + m
theorem GrowM.refl (s : LsS) : GrowM s s 0 0 := ⟨by omega, by omega⟩
theorem GrowM.trans {s t u : LsS} {n m n' m' : Nat} (h : GrowM s t n m) (k : GrowM t u n' m') : GrowM s u (n + n') (m + m') := ⟨by have := h.1; have := k.1; omega, by have := h.2; have := k.2; omega⟩
theorem GrowM.le {s t : LsS} {n m n' m' : Nat} (h : GrowM s t n m) (h1 : n ≤ n') (h2 : m ≤ m') : GrowM s t n' m' := ⟨by have := h.1; omega, by have := h.2; omega⟩
end Go.Proofs.Ytldfjpgcemfpjaa

/-
  The reference's list under way. Conditions: not too many.
-/
namespace Go.Proofs.Ytldfjpgcemfpjaa
open Go.RowKit

/-- The reference's list g: the objects, what was asked, told (the row vp), the first error. -/
def RlW (B : Nat) (w : World) (g : Nat) (vo : Value) (objs : List Pair) (vp : Value) (s : LsS) : Prop :=
  B ≤ g ∧ Ls B w 2 pairC vo objs ∧ ∃ va, w.heap[g]? = some (.cells #[vo, va, vp, .int .i64 s.bad] 90) ∧ Rw B w 9 1 idC va s.asked ∧ Rw B w 48 2 pairC vp s.out
/-- What it moves. -/
abbrev lts : List TypeId := [9, 90]
theorem RlW.le {B : Nat} {w : World} {g : Nat} {vo : Value} {objs : List Pair} {vp : Value} {s : LsS} (h : RlW B w g vo objs vp s) : B ≤ w.heap.size := by
  obtain ⟨hg, -, va, hh, -⟩ := h
  have := lt_of_heap hh
  omega
theorem RlW.below {B : Nat} {w w' : World} {g : Nat} {vo : Value} {objs : List Pair} {vp : Value} {s : LsS} (h : RlW B w g vo objs vp s) (hb : Below w.heap.size w w') : RlW B w' g vo objs vp s := by
  have hB := h.le
  obtain ⟨hg, hl, va, hh, h1, h3⟩ := h
  exact ⟨hg, hl.keep (hb.mono hB), va, (hb.block _ (lt_of_heap hh)).trans hh, own_same h1 (fun q hq => hb.block q (h1.lt q hq).2), own_same h3 (fun q hq => hb.block q (h3.lt q hq).2)⟩
theorem RlW.lt {B : Nat} {w : World} {g : Nat} {vo : Value} {objs : List Pair} {vp : Value} {s : LsS} (h : RlW B w g vo objs vp s) {q : Nat} (hq : vp.ownBlock = some q) : q < w.heap.size := by
  obtain ⟨-, -, va, -, -, h3⟩ := h
  exact (h3.lt q hq).2
theorem set4 {w : World} {g : Nat} {v0 v1 v2 v3 : Value} {t : TypeId} (h : w.heap[g]? = some (.cells #[v0, v1, v2, v3] t)) (u : Value) :
    (w.setCell ⟨g, 1, none⟩ u).heap[g]? = some (.cells #[v0, u, v2, v3] t) ∧ (w.setCell ⟨g, 2, none⟩ u).heap[g]? = some (.cells #[v0, v1, u, v3] t) ∧ (w.setCell ⟨g, 3, none⟩ u).heap[g]? = some (.cells #[v0, v1, v2, u] t) := by
  refine ⟨?_, ?_, ?_⟩ <;> (rw [heap_setCell _ _ _ _ _ _ _ h]; simp)
/-- One more is asked. -/
theorem RlW.ask {B : Nat} {w : World} {g : Nat} {vo : Value} {objs : List Pair} {vp : Value} {s : LsS} (h : RlW B w g vo objs vp s) (id : Bs) (hn : s.asked.length ≤ 4294967296) :
    ∃ va va' w1, w.heap[g]? = some (.cells #[vo, va, vp, .int .i64 s.bad] 90) ∧ (∃ a m c, va' = .slice a m c) ∧
      (Builtin.append_ #[34, 34] 34 #[va, .slice (some ⟨w.heap.size, 0, none⟩) 1 1]).run Try.prog (w.alloc (.cells #[.string (strB id)] 9)).drew = .ok va' w1 ∧
      w1.heap[g]? = some (.cells #[vo, va, vp, .int .i64 s.bad] 90) ∧ RlW B (w1.setCell ⟨g, 1, none⟩ va') g vo objs vp ⟨s.asked ++ [id], s.out, s.bad⟩ ∧ Mv B lts none w w1 ∧ Mv B lts none w (w1.setCell ⟨g, 1, none⟩ va') := by
  have hB := h.le
  obtain ⟨hg, hl, va, hh, h1, h3⟩ := h
  obtain ⟨va', w1, hrun, hrow, hgr, -⟩ := app_id w.drew B va s.asked id h1 hB hn
  rw [drew_alloc] at hrun hgr
  rw [show w.drew.heap.size = w.heap.size from rfl] at hrun
  have h1' : Rw B (w.alloc (.cells #[.string (strB id)] 9)).drew 9 1 idC va s.asked := World.ownsRow.alloc h1 _
  have h3' : Rw B (w.alloc (.cells #[.string (strB id)] 9)).drew 48 2 pairC vp s.out := World.ownsRow.alloc h3 _
  have hh' := (heap_past w (.cells #[.string (strB id)] 9) _ (lt_of_heap hh)).trans hh
  have hh1 := grow_keep h1' hgr (show (w.alloc _).drew.heap[g]? = _ from hh') (by decide)
  have hm1 : Mv B lts none w w1 := ((Mv.refl B lts none w).alloc hB _).drew.grown h1' hgr (by decide) (by simp; omega)
  have hm2 := hm1.set (j := 1) hh1 (by decide) hg va'
  refine ⟨va, va', w1, hh, row_form hrow, hrun, hh1, ⟨hg, hl.keep hm2.b, va', (set4 hh1 _).1, own_setCell hrow hh1 (by decide) _, own_setCell (grow_other h3' h1' hgr (own_ne h3' h1' (by decide))) hh1 (by decide) _⟩, hm1, hm2⟩
end Go.Proofs.Ytldfjpgcemfpjaa
