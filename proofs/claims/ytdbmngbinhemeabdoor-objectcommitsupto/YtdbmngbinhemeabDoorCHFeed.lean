/-
  What the mixer holds behind so many bytes, plainly, and how it is laid out in memory. No condition.
-/
import Derived.Test.YtdbmngbinhemeabDoorCHEnds
namespace Go.Proofs.YtdbmngbinhemeabDoor
open Go.RowKit

theorem mix_append (s : St) (l r : List UInt8) : ∀ n, 64 * n ≤ l.length → mix s (l ++ r) n = mix s l n
  | 0, _ => rfl
  | n + 1, h => by
    simp only [mix]
    rw [mix_append s l r n (by omega), List.drop_append_of_le_length (by omega), List.take_append_of_le_length (by simp; omega)]

/-- The mixer's cells. -/
def mcL (s : St) (B : List UInt8) (h : Nat) : List Value := (uc s.list).toList ++ (bc B ++ [.int .i64 (h : Int)])
theorem ucl (s : St) : (uc s.list).toList.length = 8 := rfl
theorem mcL_length (s : St) (B : List UInt8) (h : Nat) (hB : B.length = 64) : (mcL s B h).length = 73 := by
  simp only [mcL, List.length_append, ucl, bc_length, hB, List.length_cons, List.length_nil]
theorem mcL_held (s : St) (B : List UInt8) (h : Nat) (hB : B.length = 64) : (mcL s B h)[72]? = some (.int .i64 (h : Int)) := by
  unfold mcL
  rw [List.getElem?_append_right (by rw [ucl]; omega), ucl, List.getElem?_append_right (by rw [bc_length, hB]; omega), bc_length, hB]
  rfl
theorem mcL_set (s : St) (B : List UInt8) (h k : Nat) (hB : B.length = 64) : (mcL s B h).set 72 (.int .i64 (k : Int)) = mcL s B k := by
  unfold mcL
  rw [List.set_append_right _ _ (by rw [ucl]; omega), ucl, List.set_append_right _ _ (by rw [bc_length, hB]; omega), bc_length, hB]
  rfl
theorem mcL_copy (s : St) (B : List UInt8) (h n : Nat) (R : List UInt8) (hB : B.length = 64) (hR : R.length = n) (hn : h + n ≤ 64) :
    (mcL s B h).take (8 + h) ++ bc R ++ (mcL s B h).drop (8 + h + n) = mcL s (B.take h ++ R ++ B.drop (h + n)) h := by
  unfold mcL
  rw [List.take_append, ucl, List.take_of_length_le (by rw [ucl]; omega), show 8 + h - 8 = h from by omega, List.take_append_of_le_length (by rw [bc_length]; omega),
    List.drop_append, ucl, List.drop_eq_nil_of_le (by rw [ucl]; omega), show 8 + h + n - 8 = h + n from by omega, List.drop_append_of_le_length (by rw [bc_length]; omega)]
  simp [bc, List.map_take, List.map_drop]
theorem mcL_numbers (s : St) (B : List UInt8) (h : Nat) : (mcL s B h).take 8 = (uc s.list).toList := by
  unfold mcL
  rw [List.take_append_of_le_length (by rw [ucl]; omega), List.take_of_length_le (by rw [ucl]; omega)]
theorem mcL_block (s : St) (B : List UInt8) (h : Nat) (hB : B.length = 64) : ((mcL s B h).drop 8).take 64 = bc B := by
  unfold mcL
  rw [List.drop_left' (ucl s), List.take_append_of_le_length (by rw [bc_length]; omega), List.take_of_length_le (by rw [bc_length]; omega)]
theorem mcL_put (s t : St) (B : List UInt8) (h : Nat) : (mcL s B h).take 0 ++ (uc t.list).toList ++ (mcL s B h).drop (0 + 8) = mcL t B h := by
  unfold mcL
  rw [List.take_zero, List.nil_append, Nat.zero_add, List.drop_left' (ucl s)]

/-- The mixer in block g has taken up the bytes l. -/
def Fed (w : World) (g : Nat) (l : List UInt8) : Prop :=
  ∃ B, w.heap[g]? = some (.cells (mcL (mix st0 l (l.length / 64)) B (l.length % 64)).toArray 162) ∧ B.length = 64 ∧ B.take (l.length % 64) = l.drop (64 * (l.length / 64))

theorem feed_some (l B r : List UInt8) (n : Nat) (hB : B.length = 64) (ht : B.take (l.length % 64) = l.drop (64 * (l.length / 64))) (hr : r.length = n) (hn : l.length % 64 + n < 64) :
    (l ++ r).length % 64 = l.length % 64 + n ∧ mix st0 (l ++ r) ((l ++ r).length / 64) = mix st0 l (l.length / 64) ∧
      (B.take (l.length % 64) ++ r ++ B.drop (l.length % 64 + n)).length = 64 ∧ (B.take (l.length % 64) ++ r ++ B.drop (l.length % 64 + n)).take ((l ++ r).length % 64) = (l ++ r).drop (64 * ((l ++ r).length / 64)) := by
  have e1 : (l ++ r).length / 64 = l.length / 64 := by rw [List.length_append, hr]; omega
  have e2 : (l ++ r).length % 64 = l.length % 64 + n := by rw [List.length_append, hr]; omega
  refine ⟨e2, ?_, ?_, ?_⟩
  · rw [e1, mix_append _ _ _ _ (by omega)]
  · simp [hB, hr]; omega
  · have hl : (B.take (l.length % 64) ++ r).length = l.length % 64 + n := by simp [hB, hr]; omega
    rw [e1, e2, List.drop_append_of_le_length (by omega), ← ht, ← hl, List.take_left]
theorem feed_full (l B r : List UInt8) (n : Nat) (hB : B.length = 64) (ht : B.take (l.length % 64) = l.drop (64 * (l.length / 64))) (hr : r.length = n) (hn : l.length % 64 + n = 64) :
    (l ++ r).length % 64 = 0 ∧ mix st0 (l ++ r) ((l ++ r).length / 64) = comp (mix st0 l (l.length / 64)) (B.take (l.length % 64) ++ r ++ B.drop (l.length % 64 + n)) ∧
      (B.take (l.length % 64) ++ r ++ B.drop (l.length % 64 + n)).length = 64 ∧ (l ++ r).drop (64 * ((l ++ r).length / 64)) = [] := by
  have e1 : (l ++ r).length / 64 = l.length / 64 + 1 := by rw [List.length_append, hr]; omega
  refine ⟨by rw [List.length_append, hr]; omega, ?_, by simp [hB, hr]; omega, ?_⟩
  · rw [e1]
    simp only [mix]
    rw [mix_append _ _ _ _ (by omega), List.drop_append_of_le_length (by omega), ← ht, hn, List.drop_eq_nil_of_le (by omega), List.append_nil, List.take_of_length_le (by simp [hB, hr]; omega)]
  · rw [List.drop_eq_nil_of_le (by rw [e1, List.length_append, hr]; omega)]

/-- 'copy(dst, s)' from a text into a row, as much as there is room for. -/
theorem run_copy_min {P : Program} (w : World) (dT sT ty elem : TypeId) (g o dLen dCap n : Nat) (s : ByteArray) (cur : Array Value) (t : TypeId)
    (hu : P.underlying dT = some (.slice elem)) (hs : (P.info? elem).map (·.size) = some 1) (hg : w.heap[g]? = some (.cells cur t (0, 0))) (hn : Nat.min s.size dLen = n) (hfit : o + n ≤ cur.size) :
    (Builtin.copy_ #[dT, sT] ty #[.slice (some ⟨g, o, none⟩) dLen dCap, .string s]).run P w =
      .ok (.int .i64 (n : Int)) (w.setRow g (cur.toList.take o ++ bc (s.data.toList.take n) ++ cur.toList.drop (o + n)).toArray) := by
  have hle : n ≤ s.size := by rw [← hn]; exact Nat.min_le_left s.size dLen
  have hlen : (bc (s.data.toList.take n)).length = n := by
    rw [bc_length, List.length_take]
    have : s.data.toList.length = s.size := by simp
    omega
  have hst := run_storeCells_at P g o t (bc (s.data.toList.take n)) 0 cur w hg (by rw [hlen]; simpa using hfit) (bc_one _)
  have htk : List.take n (List.map (fun b : UInt8 => Value.int IntKind.u8 (b.toNat : Int)) s.data.toList) = bc (s.data.toList.take n) := by
    simp [bc, List.map_take]
  rw [hlen] at hst
  simp only [Nat.add_zero] at hst
  cases hq : P.info? elem with
  | none => simp [hq] at hs
  | some i =>
    simp [Builtin.copy_, run_underlying hu, Builtin.lenOf, Builtin.firstCells, sizeOf, typeInfo, hq, hn]
    rw [htk, hst]
    simp [Result.andThen, goInt]
/-- A whole array into the middle of a row. -/
theorem run_storeVar_at {P : Program} (w : World) (g o : Nat) (ty t : TypeId) (cur c : Array Value) (hg : w.heap[g]? = some (.cells cur t (0, 0))) (hi : (P.info? ty).map (·.size) = some c.size) (hfit : o + c.size ≤ cur.size) (h1 : c.all (·.oneCell') = true) :
    (storeVar ty ⟨g, o, none⟩ (.agg c)).run P w = .ok () (w.setRow g (cur.toList.take o ++ c.toList ++ cur.toList.drop (o + c.size)).toArray) := by
  have hst := run_storeCells_at P g o t c.toList 0 cur w hg (by simpa using hfit) (fun v hv => (Array.all_eq_true_iff_forall_mem.1 h1) v (by simpa using hv))
  simp only [Nat.add_zero, Array.length_toList] at hst
  cases hq : P.info? ty with
  | none => simp [hq] at hi
  | some i =>
    have hs : i.size = c.size := by simpa [hq] using hi
    simp [storeVar, sizeOf, typeInfo, hq, Value.cells, hs, hst]
theorem strB_drop (l : List UInt8) (n : Nat) : (strB l).extract n l.length = strB (l.drop n) := by
  unfold strB
  apply ByteArray.ext
  rw [ByteArray.data_extract]
  simp
  exact List.take_of_length_le (by simp)
/-- A whole array out of the middle of a row. -/
theorem run_load_part {P : Program} (w : World) (op : Oper) (a : Act) (ty : TypeId) (x : Operand) (ho : op.op = .load ty x) (g o : Nat) (hx : a.eval x = .pointer (some ⟨g, o, none⟩)) (t : TypeId) (C cs : List Value) (k : Nat) (fr : Nat × Nat) (d : TypeDesc)
    (hg : w.heap[g]? = some (.cells C.toArray t fr)) (hcs : (C.drop o).take k = cs) (hu : P.underlying ty = some d) (hd : d.isRow = true) (hi : (P.info? ty).map (·.size) = some cs.length) :
    (execOp a.eval op).run P w = .ok (.value (.agg cs.toArray)) w := by
  have hr : w.rangeAt g o cs := by
    intro j v hj
    rw [cell_of_row _ _ _ _ _ _ hg, List.getElem?_toArray]
    rw [← hcs] at hj
    have hlt := (List.getElem?_eq_some_iff.1 hj).1
    rw [List.getElem?_take_of_lt (by simp at hlt; omega), List.getElem?_drop] at hj
    exact hj
  unfold execOp
  simp only [ho, hx, Instr.loadAt, Instr.sureAddr, Sem.run_bind, Sem.run_pure, Result.andThen_ok, run_loadVar_mid w g o ty cs d hr hu hd hi]
theorem wp_load_part {P : Program} (w : World) {op : Oper} {a : Act} {K : Act → World → Prop} {Q : Exit → Act → World → Prop} (ty : TypeId) (x : Operand) (ho : op.op = .load ty x) (g o : Nat) (hx : a.eval x = .pointer (some ⟨g, o, none⟩)) (t : TypeId) (C cs : List Value) (k : Nat) (fr : Nat × Nat) (d : TypeDesc)
    (hg : w.heap[g]? = some (.cells C.toArray t fr)) (hcs : (C.drop o).take k = cs) (hu : P.underlying ty = some d) (hd : d.isRow = true) (hi : (P.info? ty).map (·.size) = some cs.length)
    (h : K (a.put op.dst (.agg cs.toArray)) w) : op.wp P a w K Q := by
  unfold Oper.wp
  rw [run_load_part w op a ty x ho g o hx t C cs k fr d hg hcs hu hd hi]
  exact h
theorem wpList_load_part {P : Program} (w : World) {ops : Array Oper} {rest : List Oper} {op : Oper} {a : Act} {Q : Exit → Act → World → Prop} (hgd : op.guard = none) (ty : TypeId) (x : Operand) (ho : op.op = .load ty x) (g o : Nat) (hx : a.eval x = .pointer (some ⟨g, o, none⟩)) (t : TypeId) (C cs : List Value) (k : Nat) (fr : Nat × Nat) (d : TypeDesc)
    (hg : w.heap[g]? = some (.cells C.toArray t fr)) (hcs : (C.drop o).take k = cs) (hu : P.underlying ty = some d) (hd : d.isRow = true) (hi : (P.info? ty).map (·.size) = some cs.length)
    (h : wpList P ops Q rest (a.put op.dst (.agg cs.toArray)) w) : wpList P ops Q (op :: rest) a w :=
  wpList_plain hgd fun _ hK => wp_load_part w ty x ho g o hx t C cs k fr d hg hcs hu hd hi (hK _ _ h)
theorem wp_store_part {P : Program} (w : World) {op : Oper} {a : Act} {K : Act → World → Prop} {Q : Exit → Act → World → Prop} (ty : TypeId) (x y : Operand) (ho : op.op = .store ty x y)
    (g o : Nat) (c : Array Value) (hx : a.eval x = .pointer (some ⟨g, o, none⟩)) (hy : a.eval y = .agg c) (t : TypeId) (C : List Value) (hg : w.heap[g]? = some (.cells C.toArray t (0, 0)))
    (hi : (P.info? ty).map (·.size) = some c.size) (hfit : o + c.size ≤ C.length) (h1 : c.all (·.oneCell') = true)
    (h : ∀ w', w'.heap[g]? = some (.cells (C.take o ++ c.toList ++ C.drop (o + c.size)).toArray t (0, 0)) → w.grownBy w' (some g) → K (a.put op.dst undef) w') : op.wp P a w K Q := by
  unfold Oper.wp execOp
  simp only [ho, hx, hy, Instr.storeAt, Instr.sureAddr, Sem.run_bind, Sem.run_pure, Result.andThen_ok, run_storeVar_at w g o ty t C.toArray c hg hi (by simpa using hfit) h1]
  exact h _ (by rw [setRow_heap w g _ _ t (0, 0) hg]) ⟨rfl, rfl, rfl, by simp, fun k _ hk => setRow_other w g k _ (fun e => hk (by simp [e]))⟩
end Go.Proofs.YtdbmngbinhemeabDoor
