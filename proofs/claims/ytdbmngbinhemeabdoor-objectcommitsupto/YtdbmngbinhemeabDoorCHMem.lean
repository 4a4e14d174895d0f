/-
  Laws of my own on whole arrays in memory: stored, loaded, handed back. No condition.
-/
import Derived.Test.YtdbmngbinhemeabDoorCHRot
import Derived.Deep.MidRow
import Derived.Deep.WholeRow
import Derived.BigQuiet
import Derived.Deep.RegionWith
import Derived.WalkSmall
namespace Go.Proofs.YtdbmngbinhemeabDoor
open Go.RowKit

/-- A whole array into the block that holds it. -/
theorem wp_store_arr {P : Program} (w : World) {o : Oper} {a : Act} {K : Act → World → Prop} {Q : Exit → Act → World → Prop} (ty : TypeId) (x y : Operand) (ho : o.op = .store ty x y)
    (g : Nat) (c : Array Value) (hx : a.eval x = .pointer (some ⟨g, 0, none⟩)) (hy : a.eval y = .agg c) (t : TypeId) (old : Array Value) (hg : w.heap[g]? = some (.cells old t (0, 0)))
    (hi : (P.info? ty).map (·.size) = some c.size) (hs : old.size = c.size) (h1 : c.all (·.oneCell') = true)
    (h : ∀ w', w'.heap[g]? = some (.cells c t (0, 0)) → w.grownBy w' (some g) → K (a.put o.dst undef) w') : o.wp P a w K Q := by
  unfold Oper.wp execOp
  simp only [ho, hx, hy, Instr.storeAt, Instr.sureAddr, Sem.run_bind, Sem.run_pure, Result.andThen_ok, run_storeVar_row w g t ty old c hg hi hs h1]
  exact h _ (setRow_heap w g old c t (0, 0) hg) ⟨rfl, rfl, rfl, by simp, fun k _ hk => setRow_other w g k _ (fun e => hk (by simp [e]))⟩
theorem wpList_store_arr {P : Program} (w : World) {ops : Array Oper} {rest : List Oper} {o : Oper} {a : Act} {Q : Exit → Act → World → Prop} (hgd : o.guard = none) (ty : TypeId) (x y : Operand) (ho : o.op = .store ty x y)
    (g : Nat) (c : Array Value) (hx : a.eval x = .pointer (some ⟨g, 0, none⟩)) (hy : a.eval y = .agg c) (t : TypeId) (old : Array Value) (hg : w.heap[g]? = some (.cells old t (0, 0)))
    (hi : (P.info? ty).map (·.size) = some c.size) (hs : old.size = c.size) (h1 : c.all (·.oneCell') = true)
    (h : ∀ w', w'.heap[g]? = some (.cells c t (0, 0)) → w.grownBy w' (some g) → wpList P ops Q rest (a.put o.dst undef) w') : wpList P ops Q (o :: rest) a w :=
  wpList_plain hgd fun _ hK => wp_store_arr w ty x y ho g c hx hy t old hg hi hs h1 (fun w' h1 h2 => hK _ _ (h w' h1 h2))
theorem run_load_arr {P : Program} (w : World) (o : Oper) (a : Act) (ty : TypeId) (x : Operand) (ho : o.op = .load ty x) (g : Nat) (hx : a.eval x = .pointer (some ⟨g, 0, none⟩)) (t : TypeId) (c : Array Value) (fr : Nat × Nat) (d : TypeDesc)
    (hg : w.heap[g]? = some (.cells c t fr)) (hu : P.underlying ty = some d) (hd : (match d with | .struct _ | .array _ _ => true | _ => false) = true) (hi : (P.info? ty).map (·.size) = some c.size) :
    (execOp a.eval o).run P w = .ok (.value (.agg c)) w := by
  unfold execOp
  simp only [ho, hx, Instr.loadAt, Instr.sureAddr, Sem.run_bind, Sem.run_pure, Result.andThen_ok, run_loadVar_row w g t ty c fr d hg hu hd hi]

theorem heap_last (w : World) (o : Obj) (n : Nat) (h : n = w.heap.size) : (w.alloc o).heap[n]? = some o := by
  subst h
  show (w.heap.push o)[w.heap.size]? = some o
  simp
theorem heap_past (w : World) (o : Obj) (n : Nat) (h : n < w.heap.size) : (w.alloc o).heap[n]? = w.heap[n]? := by
  show (w.heap.push o)[n]? = _
  rw [Array.getElem?_push_lt h]
  simp [h]
theorem lt_of_heap {w : World} {n : Nat} {o : Obj} (h : w.heap[n]? = some o) : n < w.heap.size := (Array.getElem?_eq_some_iff.1 h).1

/-- Numbers as cells. -/
def uc (l : List UInt32) : Array Value := (l.map fun x => Value.int .u32 (u x)).toArray
theorem uc_size (l : List UInt32) : (uc l).size = l.length := by simp [uc]
theorem uc_get (l : List UInt32) (t : Nat) (h : t < l.length) : (uc l)[t]? = some (.int .u32 (u (l.getD t 0))) := by
  simp [uc, List.getD, h]
theorem uc_one (l : List UInt32) : (uc l).all (·.oneCell') = true := by
  simp [uc, Value.oneCell']
theorem u_add' (x y : UInt32) : IntKind.u32.wrap (u x + u y) = u (x + y) := by rw [IntKind.wrap_u32, u_add]

theorem u_add4 (x y z v : UInt32) : (u x + u y + u z + u v) % 4294967296 = u (x + y + z + v) := by
  rw [← u_add (x + y + z) v, ← u_add (x + y) z, ← u_add x y]
  omega

/-- The table's cells hold its numbers. -/
def TabW (w : World) : Prop := 0 < w.heap.size ∧ ∀ j, j < 64 → w.cell? ⟨0, j, none⟩ = some (.int .u32 (u (kL.getD j 0)))
theorem TabW.keep {w w' : World} {B : Nat} (h : TabW w) (hb : Below B w w') (hB : 0 < B) : TabW w' :=
  ⟨Nat.lt_of_lt_of_le h.1 hb.size, fun j hj => (hb.cell (p := ⟨0, j, none⟩) hB).trans (h.2 j hj)⟩

theorem ret_agg {a b : Array Value} (h : a = b) : Ending.returned (.agg a) = .returned (.agg b) := by rw [h]
theorem Tryd.infoEight : (Tryd.prog.info? 159).map (·.size) = some 8 := by kernel_rfl
theorem Tryd.infoA8 : (Tryd.prog.info? 158).map (·.size) = some 8 := by kernel_rfl
theorem Tryd.infoBlk : (Tryd.prog.info? 160).map (·.size) = some 64 := by kernel_rfl
theorem Tryd.infoA64 : (Tryd.prog.info? 173).map (·.size) = some 64 := by kernel_rfl
end Go.Proofs.YtdbmngbinhemeabDoor
