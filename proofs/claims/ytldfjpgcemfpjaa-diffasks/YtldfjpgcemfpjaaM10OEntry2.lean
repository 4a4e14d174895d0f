/-
  Texts joined: OEntry2, OEntry3, OChunk, ORPut, ORChunk.
-/
import Derived.Test.YtldfjpgcemfpjaaM9OReader
import Derived.Test.YtldfjpgcemfpjaaM6ORise
import Derived.Test.YtldfjpgcemfpjaaM3HRefSum
/-
  Entries' values made; what the reference says of entries. Conditions: lengths within reach.
-/
namespace Go.Proofs.Ytldfjpgcemfpjaa
open Go.RowKit
variable {N : Nat}

theorem index_str (w : World) (l : List UInt8) (kd : IntKind) (k : Nat) (h : k < l.length) : (Instr.index 9 (.string (strB l)) (.int kd (k : Int))).run Try.prog w = .ok (.int .u8 ((l[k]'h).toNat : Int)) w := by
  have a1 : (0 : Int) ≤ (k : Int) := by omega
  have h1 : (strB l)[k]? = some (l[k]'h) := by
    have hs : k < (strB l).size := by rw [strB_size]; exact h
    rw [getElem?_pos (strB l) k hs]
    rfl
  unfold Instr.index
  simp only [asIntOf, Sem.run_bind, Sem.run_pure, Result.andThen_ok, run_underlying Try.underlying9 w]
  rw [if_pos a1, Int.toNat_natCast, h1]
  rfl
theorem risId_any (w : World) (s : Bs) : Calls Try.prog 67 #[.string (strB s)] w fun e w' => e = .returned (.bool (isIdB s)) ∧ w' = w := by
  have hs := strB_size s
  go_enter Try.func67, Try.ntmps67
  go_wp2
  go_ret
  refine ⟨ret_bool ?_, rfl⟩
  unfold isIdB
  (try rw [Bool.eq_iff_iff]); simp <;> omega
theorem rnumber_any (w : World) (n : Int) (h : In64 n) : Calls Try.prog 40 #[.int .i64 n] w fun e w' => ∃ v, e = .returned v ∧ w'.ownsRow w.heap.size 5 1 v (num n).length (bc (num n)) ∧ Below w.heap.size w w' := by
  go_enter Try.func40, Try.ntmps40
  go_wp2_with fail
  refine (refInt_any w n h.1 h.2).mono ?_
  rintro e w1 ⟨v, rfl, hown, hb⟩
  have HO := hide hown
  obtain ⟨a, c, rfl, -⟩ := own_form hown
  clear hown
  go_wp2
  go_ret
  exact ⟨_, rfl, HO.out, hb⟩
end Go.Proofs.Ytldfjpgcemfpjaa

/-
  Entries' values made, by the program and by the reference; values read by the reference. Conditions: lengths within reach.
-/
namespace Go.Proofs.Ytldfjpgcemfpjaa
open Go.RowKit

theorem wp_append_run2 {P : Program} {o : Oper} {a : Act} {w : World} {K : Act → World → Prop} {Q : Exit → Act → World → Prop} (s x : Operand) (t u : TypeId)
    (ho : o.op = .call { callee := .builtin .append, args := #[s, x], argTypes := #[t, u] }) {v1 v2 v' : Value} {w' : World} (hs : a.eval s = v1) (hx : a.eval x = v2)
    (hrun : (Builtin.append_ #[t, u] o.type #[v1, v2]).run P w = .ok v' w') (hK : K (a.put o.dst v') w') : o.wp P a w K Q := by
  unfold Oper.wp
  simp [execOp, ho, resolve, invoke, builtin, hs, hx, hrun, Result.andThen]
  exact hK
end Go.Proofs.Ytldfjpgcemfpjaa

/-
  Objects of parts; chunks made and read. Conditions: the table holds its numbers; lengths within reach.
-/
namespace Go.Proofs.Ytldfjpgcemfpjaa
open Go.RowKit

end Go.Proofs.Ytldfjpgcemfpjaa

/-
  Objects made by the reference: Of, put, Chunk; a chunk read. Conditions: lengths within reach.
-/
namespace Go.Proofs.Ytldfjpgcemfpjaa
open Go.RowKit

set_option maxRecDepth 20000 in
set_option maxHeartbeats 800000 in
theorem rof_any (w : World) (l : Bs) (hl : l.length ≤ 1048576) :
    Calls Try.prog 55 #[.string (strB l)] w fun e w' => e = .returned (objV l) ∧ Below w.heap.size w w' := by
  rw [objV_def]
  have hls := strB_size l
  have hb0 : Below w.heap.size w (w.alloc (.cells #[.string ⟨#[]⟩, .string ⟨#[]⟩] 73)) := (Below.refl _ _).alloc (Nat.le_refl _) _
  have hx0 := heap_last w (.cells #[.string ⟨#[]⟩, .string ⟨#[]⟩] 73) _ rfl
  have hsum := fun W v h => refSum_any W v l h hl
  generalize sha l = S at *
  have HSU := hide hsum
  clear hsum
  go_enter Try.func55, Try.ntmps55
  go_wp2_with (refine wpList_tobytes _ rfl (.tmp 3) rfl (strB l) (by rw [strB_size]; unfold maxLen; omega) rfl ?_; intro v2 w2 hsl2 hb2 _; rw [strB_list] at hsl2; have HS := hide hsl2; have HB := hide hb2; obtain ⟨ao, cap, rfl, -⟩ := hsl2; clear hb2)
  have x2 := (HB.out.block _ (lt_of_heap hx0)).trans hx0
  have B2 := hb0.trans (HB.out.mono hb0.size)
  clear HB
  go_wp2_with fail
  refine (HSU.out _ _ HS.out).mono ?_
  rintro e w3 ⟨g, k, rfl, sl3, hb3⟩
  have x3 := (hb3.block _ (lt_of_heap x2)).trans x2
  have B3 := B2.trans (hb3.mono B2.size)
  have hcv := run_strV sl3 w3 (Below.refl _ _)
  have c0 := rc (i := 0) x3 rfl
  have c1 := rc (i := 1) x3 rfl
  have f0 := frozen0 (j := 0) x3
  have f1 := frozen0 (j := 1) x3
  clear HSU HS hb3 x2 B2 hb0 hx0 sl3
  go_wp2
  refine bodyPost_ret (results_cell_row rfl _ _ _ _ _ _ _ rfl (heap_set2 x3) Try.underlying73 rfl Try.infoObj) rfl ⟨rfl, ?_⟩
  exact (B3.setCell (p := ⟨w.heap.size, 0, none⟩) (by simp) _).setCell (p := ⟨w.heap.size, 1, none⟩) (by simp) _
theorem made_yes' (b : Bs) : made true b = .tuple #[.agg #[.string (strB (sha b)), .string (strB b)], .int .i64 0] := rfl
theorem made_no' (b : Bs) : made false b = .tuple #[.agg #[.string ⟨#[]⟩, .string ⟨#[]⟩], .int .i64 80] := rfl
set_option maxRecDepth 20000 in
set_option maxHeartbeats 800000 in
theorem rput_any (w : World) (v : Value) (l : Bs) (ok : Bool) (h : Sl w v l) (hl : ok = true → l.length ≤ 1048576) :
    Calls Try.prog 42 #[v, .bool ok] w fun e w' => e = .returned (made ok l) ∧ Below w.heap.size w w' := by
  have hb0 : Below w.heap.size w (w.alloc (.cells #[.string ⟨#[]⟩, .string ⟨#[]⟩] 73)) := (Below.refl _ _).alloc (Nat.le_refl _) _
  have hx0 := heap_last w (.cells #[.string ⟨#[]⟩, .string ⟨#[]⟩] 73) _ rfl
  have hcv := run_strV h _ hb0
  obtain ⟨ao, cap, rfl, -⟩ := h
  cases ok with
  | false =>
    rw [made_no']
    have c0 := rc (i := 0) hx0 rfl
    have c1 := rc (i := 1) hx0 rfl
    have f0 := frozen0 (j := 0) hx0
    have f1 := frozen0 (j := 1) hx0
    go_enter Try.func42, Try.ntmps42
    go_wp2
    refine bodyPost_ret (results_cell_tmp_row rfl _ _ _ _ #[.string ⟨#[]⟩, .string ⟨#[]⟩] _ _ rfl (by first | exact hx0 | exact heap_set2 hx0) Try.underlying73 rfl Try.infoObj) rfl ⟨rfl, ?_⟩
    first | exact hb0 | exact (hb0.setCell (p := ⟨w.heap.size, 0, none⟩) (by simp) _).setCell (p := ⟨w.heap.size, 1, none⟩) (by simp) _
  | true =>
    rw [made_yes']
    have hof := fun W => rof_any W l (hl rfl)
    rw [objV_def] at hof
    generalize sha l = S at *
    go_enter Try.func42, Try.ntmps42
    go_wp2_with fail
    refine (hof _).mono ?_
    rintro e w3 ⟨rfl, hb3⟩
    have x3 := (hb3.block _ (lt_of_heap hx0)).trans hx0
    have B3 := hb0.trans (hb3.mono hb0.size)
    have c0 := rc (i := 0) x3 rfl
    have c1 := rc (i := 1) x3 rfl
    have f0 := frozen0 (j := 0) x3
    have f1 := frozen0 (j := 1) x3
    clear hof hb3 hb0 hx0
    go_wp2
    refine bodyPost_ret (results_cell_tmp_row rfl _ _ _ _ _ _ _ rfl (heap_set2 x3) Try.underlying73 rfl Try.infoObj) rfl ⟨rfl, ?_⟩
    exact (B3.setCell (p := ⟨w.heap.size, 0, none⟩) (by simp) _).setCell (p := ⟨w.heap.size, 1, none⟩) (by simp) _
end Go.Proofs.Ytldfjpgcemfpjaa

/-
  A chunk made and read by the reference. Conditions: lengths within reach.
-/
namespace Go.Proofs.Ytldfjpgcemfpjaa
open Go.RowKit

theorem own_one (w : World) (c : UInt8) : (w.alloc (.cells #[.int .u8 (c.toNat : Int)] 5)).ownsRow w.heap.size 5 1 (.slice (some ⟨w.heap.size, 0, none⟩) 1 1) 1 (bc [c]) :=
  ⟨rfl, .inr ⟨_, 1, _, rfl, Nat.le_refl _, heap_last w _ _ rfl, Nat.le_refl _, by decide, rfl, rfl⟩⟩
theorem made_form (q : Bool) (b : Bs) : ∃ x y k, made q b = .tuple #[.agg #[.string (strB x), .string (strB y)], .int .i64 k] := by
  cases q
  · exact ⟨[], [], 80, made_no' b⟩
  · exact ⟨_, b, 0, made_yes' b⟩
end Go.Proofs.Ytldfjpgcemfpjaa
