/-
  Texts joined: OEntry2, OEntry3, ORPut, ORChunk.
-/
import Derived.Test.YtjdbgfidnbgneaaDoorB12OReader
import Derived.Test.YtjdbgfidnbgneaaDoorB9HRefSum
import Derived.Test.YtjdbgfidnbgneaaDoorB8OTop4
/-
  Entries' values made; what the reference says of entries. Conditions: lengths within reach.
-/
namespace Go.Proofs.YtjdbgfidnbgneaaDoor
open Go.RowKit
variable {N : Nat}

theorem index_str (w : World) (l : List UInt8) (kd : IntKind) (k : Nat) (h : k < l.length) : (Instr.index 9 (.string (strB l)) (.int kd (k : Int))).run Tryd.prog w = .ok (.int .u8 ((l[k]'h).toNat : Int)) w := by
  have a1 : (0 : Int) ≤ (k : Int) := by omega
  have h1 : (strB l)[k]? = some (l[k]'h) := by
    have hs : k < (strB l).size := by rw [strB_size]; exact h
    rw [getElem?_pos (strB l) k hs]
    rfl
  unfold Instr.index
  simp only [asIntOf, Sem.run_bind, Sem.run_pure, Result.andThen_ok, run_underlying Tryd.underlying9 w]
  rw [if_pos a1, Int.toNat_natCast, h1]
  rfl
theorem name_false {l : List UInt8} {k : Nat} (hk : k < l.length) (h : l[k] = 47 ∨ l[k] = 0) : Pt.name l = false := by
  have hm := List.getElem_mem hk
  unfold Pt.name
  refine decide_eq_false ?_
  rintro ⟨_, _, _, _, h1, h2⟩
  rcases h with h | h
  · exact h1 (h ▸ hm)
  · exact h2 (h ▸ hm)
theorem name_true {l : List UInt8} (h1 : 1 ≤ l.length) (h2 : l.length ≤ 64) (h3 : l ≠ [46]) (h4 : l ≠ [46, 46]) (h : ∀ j (hj : j < l.length), l[j] ≠ 47 ∧ l[j] ≠ 0) : Pt.name l = true := by
  unfold Pt.name
  refine decide_eq_true ⟨h1, h2, h3, h4, fun hm => ?_, fun hm => ?_⟩
  · obtain ⟨j, hj, e⟩ := List.getElem_of_mem hm
    exact (h j hj).1 e
  · obtain ⟨j, hj, e⟩ := List.getElem_of_mem hm
    exact (h j hj).2 e
theorem risId_any (w : World) (s : Bs) : Calls Tryd.prog 45 #[.string (strB s)] w fun e w' => e = .returned (.bool (isIdB s)) ∧ w' = w := by
  have hs := strB_size s
  go_enter Tryd.func45, Tryd.ntmps45
  go_wp2
  go_ret
  refine ⟨ret_bool ?_, rfl⟩
  unfold isIdB
  (try rw [Bool.eq_iff_iff]); simp <;> omega
/-- What Entry answers. -/
def entryV (ok : Bool) (v : Val) : Value := if ok then .tuple #[.string (strB (valB v)), .int .i64 0] else .tuple #[.string (strB []), .int .i64 80]
theorem entryOk_64 {name : Bs} {v : Val} (h : entryOk name v = true) : In64 v.1 ∧ In64 v.2.2 ∧ v.2.1.length = 32 := by
  unfold entryOk valOk at h
  simp only [Bool.and_eq_true, isIdB, decide_eq_true_eq] at h
  obtain ⟨_, h1, h2⟩ := h
  unfold sizeOk at h2
  unfold In64
  split at h2
  · rename_i h3
    simp only [decide_eq_true_eq] at h2
    exact ⟨by omega, by omega, h1⟩
  · split at h2
    · rename_i h3
      simp only [decide_eq_true_eq] at h2
      exact ⟨by omega, by omega, h1⟩
    · cases h2
end Go.Proofs.YtjdbgfidnbgneaaDoor

/-
  Entries' values made, by the program and by the reference; values read by the reference. Conditions: lengths within reach.
-/
namespace Go.Proofs.YtjdbgfidnbgneaaDoor
open Go.RowKit

theorem wp_append_run2 {P : Program} {o : Oper} {a : Act} {w : World} {K : Act → World → Prop} {Q : Exit → Act → World → Prop} (s x : Operand) (t u : TypeId)
    (ho : o.op = .call { callee := .builtin .append, args := #[s, x], argTypes := #[t, u] }) {v1 v2 v' : Value} {w' : World} (hs : a.eval s = v1) (hx : a.eval x = v2)
    (hrun : (Builtin.append_ #[t, u] o.type #[v1, v2]).run P w = .ok v' w') (hK : K (a.put o.dst v') w') : o.wp P a w K Q := by
  unfold Oper.wp
  simp [execOp, ho, resolve, invoke, builtin, hs, hx, hrun, Result.andThen]
  exact hK
theorem entryV_yes (v : Val) : entryV true v = .tuple #[.string (strB (valB v)), .int .i64 0] := rfl
theorem entryV_no (v : Val) : entryV false v = .tuple #[.string (strB []), .int .i64 80] := rfl
end Go.Proofs.YtjdbgfidnbgneaaDoor

/-
  Objects made by the reference: Of, put, Chunk; a chunk read. Conditions: lengths within reach.
-/
namespace Go.Proofs.YtjdbgfidnbgneaaDoor
open Go.RowKit

theorem made_yes' (b : Bs) : made true b = .tuple #[.agg #[.string (strB (sha b)), .string (strB b)], .int .i64 0] := rfl
theorem made_no' (b : Bs) : made false b = .tuple #[.agg #[.string ⟨#[]⟩, .string ⟨#[]⟩], .int .i64 80] := rfl
end Go.Proofs.YtjdbgfidnbgneaaDoor

/-
  A chunk made and read by the reference. Conditions: lengths within reach.
-/
namespace Go.Proofs.YtjdbgfidnbgneaaDoor
open Go.RowKit

theorem own_one (w : World) (c : UInt8) : (w.alloc (.cells #[.int .u8 (c.toNat : Int)] 5)).ownsRow w.heap.size 5 1 (.slice (some ⟨w.heap.size, 0, none⟩) 1 1) 1 (bc [c]) :=
  ⟨rfl, .inr ⟨_, 1, _, rfl, Nat.le_refl _, heap_last w _ _ rfl, Nat.le_refl _, by decide, rfl, rfl⟩⟩
theorem made_form (q : Bool) (b : Bs) : ∃ x y k, made q b = .tuple #[.agg #[.string (strB x), .string (strB y)], .int .i64 k] := by
  cases q
  · exact ⟨[], [], 80, made_no' b⟩
  · exact ⟨_, b, 0, made_yes' b⟩
end Go.Proofs.YtjdbgfidnbgneaaDoor
