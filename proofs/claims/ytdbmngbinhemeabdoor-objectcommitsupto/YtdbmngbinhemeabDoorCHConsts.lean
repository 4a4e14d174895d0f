/-
  What the reference's constants answer. No condition.
-/
import Derived.Test.YtdbmngbinhemeabDoorCHWords
namespace Go.Proofs.YtdbmngbinhemeabDoor
open Go.RowKit

/-- The sixty-four, as they stand in the program's text. -/
def kB : Array (Nat × Operand) := ((List.range 64).map fun i => (i, Operand.const (.int .u32 (u (kL.getD i 0))))).toArray
theorem build43 (a : Act) (w : World) (d : Option Tmp) (ty : TypeId) (p : String) (af : Array Edge) (g : Option (Nat × Bool)) :
    (execOp a.eval { dst := d, op := .build 173 kB, type := ty, pos := p, after := af, guard := g }).run Tryd.prog w = .ok (.value (.agg (uc kL))) w := by
  kernel_rfl
theorem wpList_build43 (w : World) {ops : Array Oper} {rest : List Oper} {d : Option Tmp} {x : Array (Nat × Operand)} {ty : TypeId} {p : String} {af : Array Edge} {a : Act} {Q : Exit → Act → World → Prop} (hx : x = kB)
    (h : wpList Tryd.prog ops Q rest (a.put d (.agg (uc kL))) w) : wpList Tryd.prog ops Q ({ dst := d, op := .build 173 x, type := ty, pos := p, after := af, guard := none } :: rest) a w := by
  subst hx
  exact wpList_plain rfl fun K hK => by
    unfold Oper.wp
    rw [build43]
    exact hK _ _ h

set_option maxRecDepth 20000 in
theorem consts_any (w : World) : Calls Tryd.prog 138 #[] w fun e w' => e = .returned (.agg (uc kL)) ∧ Below w.heap.size w w' := by
  have hi : (Tryd.prog.info? 173).map (·.size) = some (uc kL).size := Tryd.infoA64
  have hz : (uc (List.replicate 64 0)).size = (uc kL).size := by rw [uc_size, uc_size]; rfl
  have ho := hide (uc_one kL)
  have hz0 := z64
  have HI := hide hi
  have HZ := hide hz
  clear hi hz
  go_enter Tryd.func138, Tryd.ntmps138
  go_wp2_with (first | (refine wpList_build43 _ (by kernel_rfl) ?_) | (refine wpList_store_arr _ rfl 173 (.tmp 0) (.tmp 1) rfl _ (uc kL) rfl rfl 173 (uc (List.replicate 64 0)) (heap_last _ _ _ rfl) HI.out HZ.out ho.out ?_; intro w2 hrow2 hg2))
  have hb2 := ((Below.refl w.heap.size w).alloc (Nat.le_refl _) _).grown hg2 (by simp) (by intro k hk; injection hk with hk; omega)
  exact bodyPost_ret (v := .agg (uc kL)) (results_cell_row rfl _ _ _ _ _ _ _ rfl hrow2 Tryd.underlying173 rfl HI.out) rfl ⟨rfl, hb2⟩
end Go.Proofs.YtdbmngbinhemeabDoor
