/-
  Entries' values made, by the program and by the reference; values read by the reference. Conditions: lengths within reach.
-/
import Derived.Test.YtmlfonmdiimdfaaDoorOEntry2
namespace Go.Proofs.YtmlfonmdiimdfaaDoor
open Go.RowKit

theorem wp_append_run2 {P : Program} {o : Oper} {a : Act} {w : World} {K : Act → World → Prop} {Q : Exit → Act → World → Prop} (s x : Operand) (t u : TypeId)
    (ho : o.op = .call { callee := .builtin .append, args := #[s, x], argTypes := #[t, u] }) {v1 v2 v' : Value} {w' : World} (hs : a.eval s = v1) (hx : a.eval x = v2)
    (hrun : (Builtin.append_ #[t, u] o.type #[v1, v2]).run P w = .ok v' w') (hK : K (a.put o.dst v') w') : o.wp P a w K Q := by
  unfold Oper.wp
  simp [execOp, ho, resolve, invoke, builtin, hs, hx, hrun, Result.andThen]
  exact hK
theorem entryV_yes (v : Val) : entryV true v = .tuple #[.string (strB (valB v)), .int .i64 0] := rfl
theorem entryV_no (v : Val) : entryV false v = .tuple #[.string (strB []), .int .i64 80] := rfl
set_option maxRecDepth 20000 in
set_option maxHeartbeats 800000 in
theorem entry_any (w : World) (name : Bs) (v : Val) :
    Calls Tryd.prog 33 #[.agg #[.string (strB name), .int .i64 v.1, .string (strB v.2.1), .int .i64 v.2.2]] w fun e w' => e = .returned (entryV (entryOk name v) v) ∧ Below w.heap.size w w' := by
  have hb0 : Below w.heap.size w (w.alloc (.cells #[.string (strB name), .int .i64 v.1, .string (strB v.2.1), .int .i64 v.2.2] 61)) := (Below.refl _ _).alloc (Nat.le_refl _) _
  have z0 := heap_last w (.cells #[.string (strB name), .int .i64 v.1, .string (strB v.2.1), .int .i64 v.2.2] 61) _ rfl
  have hn0 : (w.alloc (.cells #[.string (strB name), .int .i64 v.1, .string (strB v.2.1), .int .i64 v.2.2] 61)).heap.size = w.heap.size + 1 := by simp
  generalize hw0 : w.alloc (.cells #[.string (strB name), .int .i64 v.1, .string (strB v.2.1), .int .i64 v.2.2] 61) = w0 at *
  have hR := entryRight_any w0 name v
  have c0 := rc (i := 0) z0 rfl
  have c1 := rc (i := 1) z0 rfl
  have c2 := rc (i := 2) z0 rfl
  have c3 := rc (i := 3) z0 rfl
  by_cases hok : entryOk name v = true
  · obtain ⟨i1, i2, hid⟩ := entryOk_64 hok
    rw [hok] at hR ⊢
    rw [entryV_yes]
    have n1 := num_length v.1
    have n2 := num_length v.2.2
    go_enter Tryd.func33, Tryd.ntmps33
    go_wp2_with fail
    try rw [hw0]
    refine hR.mono ?_
    rintro e w1 ⟨rfl, hb1⟩
    have z1 := (hb1.block _ (lt_of_heap z0)).trans z0
    have B1 := hb0.trans (hb1.mono hb0.size)
    have hW := write_any w1 (.slice none 0 0) [] (Ls.nil _ _ _ _) (by simp)
    clear hR hb1 c0 c1 c2 c3
    go_wp2_with fail
    refine hW.mono ?_
    rintro e w2 ⟨g, rfl, W2, hb2⟩
    have z2 := (hb2.block _ (lt_of_heap z1)).trans z1
    have B2 := B1.trans (hb2.mono B1.size)
    have d1 := rc (i := 1) z2 rfl
    have s1 := lt_of_heap z1
    clear hW hb2 B1
    go_wp2_with fail
    refine (layNumber_any w1.heap.size w2 g [] v.1 W2 i1 (by simp)).mono ?_
    rintro e w3 ⟨rfl, W3, hb3, -⟩
    have z3 := (hb3.block _ s1).trans z2
    have B3 := B2.trans (hb3.mono (by omega))
    have e2 := rc (i := 2) z3 rfl
    have e3 := rc (i := 3) z3 rfl
    have W3' : Wr w1.heap.size w3 g (num v.1) := W3
    clear W2 B2 hb3 d1
    go_wp2_with fail
    refine (layPart_any w1.heap.size w3 g (num v.1) v.2 W3' i2 (by simp only [partB, List.length_append]; omega)).mono ?_
    rintro e w4 ⟨rfl, W4, hb4, -⟩
    have B4 := B3.trans (hb4.mono (by omega))
    obtain ⟨u4, hc4, hs4⟩ := W4.sl
    clear W3 W3' B3 hb4 e2 e3
    go_wp2_with fail
    refine (text_any w4 g u4 _ hc4 hs4).mono ?_
    rintro e w5 ⟨rfl, rfl⟩
    go_wp2
    go_ret2
    exact ⟨rfl, B4⟩
  · have hok := Bool.eq_false_iff.2 hok
    rw [hok] at hR ⊢
    rw [entryV_no]
    go_enter Tryd.func33, Tryd.ntmps33
    go_wp2_with fail
    try rw [hw0]
    refine hR.mono ?_
    rintro e w1 ⟨rfl, hb1⟩
    go_wp2
    go_ret2
    exact ⟨rfl, hb0.trans (hb1.mono hb0.size)⟩
set_option maxRecDepth 20000 in
set_option maxHeartbeats 800000 in
theorem rentry_any (w : World) (name : Bs) (v : Val) :
    Calls Tryd.prog 34 #[.agg #[.string (strB name), .int .i64 v.1, .string (strB v.2.1), .int .i64 v.2.2]] w fun e w' => e = .returned (entryV (entryOk name v) v) ∧ Below w.heap.size w w' := by
  obtain ⟨i0, hi, hz0, hz1, hz2⟩ := info_parts Tryd.infoB
  have hb0 : Below w.heap.size w (w.alloc (.cells #[.string (strB name), .int .i64 v.1, .string (strB v.2.1), .int .i64 v.2.2] 61)) := (Below.refl _ _).alloc (Nat.le_refl _) _
  have z0 := heap_last w (.cells #[.string (strB name), .int .i64 v.1, .string (strB v.2.1), .int .i64 v.2.2] 61) _ rfl
  have hn0 : (w.alloc (.cells #[.string (strB name), .int .i64 v.1, .string (strB v.2.1), .int .i64 v.2.2] 61)).heap.size = w.heap.size + 1 := by simp
  generalize hw0 : w.alloc (.cells #[.string (strB name), .int .i64 v.1, .string (strB v.2.1), .int .i64 v.2.2] 61) = w0 at *
  have hR := rentryRight_any w0 name v
  have c0 := rc (i := 0) z0 rfl
  have c1 := rc (i := 1) z0 rfl
  have c2 := rc (i := 2) z0 rfl
  have c3 := rc (i := 3) z0 rfl
  by_cases hok : entryOk name v = true
  · obtain ⟨i1, i2, hid⟩ := entryOk_64 hok
    rw [hok] at hR ⊢
    rw [entryV_yes]
    have n1 := num_length v.1
    have n2 := num_length v.2.2
    have hds := strB_size v.2.1
    go_enter Tryd.func34, Tryd.ntmps34
    go_wp2_with fail
    try rw [hw0]
    refine hR.mono ?_
    rintro e w1 ⟨rfl, hb1⟩
    have z1 := (hb1.block _ (lt_of_heap z0)).trans z0
    have B1 := hb0.trans (hb1.mono hb0.size)
    have d1 := rc (i := 1) z1 rfl
    have d2 := rc (i := 2) z1 rfl
    clear hR hb1 c0 c1 c2 c3
    go_wp2_with fail
    refine wp_region_held_drew (S := fun W => W.cell? ⟨w.heap.size, 1, none⟩ = some (.int .i64 v.1) ∧ W.cell? ⟨w.heap.size, 2, none⟩ = some (.string (strB v.2.1))) (by kernel_rfl) (⟨d1, d2⟩) (fun hHeld => ?_)
    refine takeH (i := 0) (v := ?_) rfl (by kernel_rfl) (by kernel_rfl) (by kernel_rfl) (fun _ _ _ h => h) rfl ?_ hHeld ?_
    rotate_left
    · intro w hS; (try dsimp only at hS); obtain ⟨hS0, hS1⟩ := hS; go_simp; first | done | (with_reducible rfl)
    try simp only [Act.put, List.setIfInBounds_toArray, List.set_cons_zero, List.set_cons_succ]
    refine takeH (i := 1) (v := ?_) rfl (by kernel_rfl) (by kernel_rfl) (by kernel_rfl) (fun _ _ _ h => h) rfl ?_ hHeld ?_
    rotate_left
    · intro w hS; (try dsimp only at hS); obtain ⟨hS0, hS1⟩ := hS; go_simp; first | done | (with_reducible rfl)
    try simp only [Act.put, List.setIfInBounds_toArray, List.set_cons_zero, List.set_cons_succ]
    refine takeH (i := 3) (v := ?_) rfl (by kernel_rfl) (by kernel_rfl) (by kernel_rfl) (fun _ _ _ h => h) rfl ?_ hHeld ?_
    rotate_left
    · intro w hS; (try dsimp only at hS); obtain ⟨hS0, hS1⟩ := hS; go_simp; first | done | (with_reducible rfl)
    try simp only [Act.put, List.setIfInBounds_toArray, List.set_cons_zero, List.set_cons_succ]
    refine takeH (i := 4) (v := ?_) rfl (by kernel_rfl) (by kernel_rfl) (by kernel_rfl) (fun _ _ _ h => h) rfl ?_ hHeld ?_
    rotate_left
    · intro w hS; (try dsimp only at hS); obtain ⟨hS0, hS1⟩ := hS; go_simp; first | done | (with_reducible rfl)
    try simp only [Act.put, List.setIfInBounds_toArray, List.set_cons_zero, List.set_cons_succ]
    refine onlyH (i := 2) rfl (by kernel_rfl) rfl (fun K hK => ?_)
    go_simp
    refine (rnumber_any w1.drew v.1 i1).mono ?_
    rintro e w2 ⟨u2, rfl, own2, hb2⟩
    have hb2' : Below w1.heap.size w1 w2 := (Below.refl w1.heap.size w1).drew.trans hb2
    have z2 := (hb2'.block _ (lt_of_heap z1)).trans z1
    have B2 := B1.trans (hb2'.mono B1.size)
    refine hK.out _ _ (⟨rc (i := 1) z2 rfl, rc (i := 2) z2 rfl⟩) (fun hHeld => ?_)
    clear hK K
    try simp only [Act.put, List.setIfInBounds_toArray, List.set_cons_zero, List.set_cons_succ]
    refine onlyH (i := 5) rfl (by kernel_rfl) rfl (fun K hK => ?_)
    obtain ⟨v3, w3, hrun, own3, hgr3, -⟩ := Lib.run_append_own_string (P := Tryd.prog) w2 w1.drew.heap.size 71 9 71 5 i0 Tryd.underlying71 Tryd.underlying9 hi hz0 hz1 hz2 u2 (num v.1).length (bc (num v.1)) own2 (strB v.2.1) (by unfold maxLen; omega) (by omega) hb2.size
    have e3 : Lib.strCells (strB v.2.1) = bc v.2.1 := by show bc (strB v.2.1).data.toList = _; rw [strB_list]
    have l3 : (num v.1).length + (strB v.2.1).size = (num v.1 ++ v.2.1).length := by rw [hds, List.length_append]
    rw [e3, ← bc_append, l3] at own3
    have hsd : w1.drew.heap.size = w1.heap.size := rfl
    have lt1 := lt_of_heap z1
    have z3 := (hgr3.block _ (lt_of_heap z2) (fun k => by have := (own2.lt _ k.symm).1; omega)).trans z2
    have hb3 : Below w1.heap.size w1 w3 := hb2'.grown hgr3 hb2'.size (fun k hk => (own2.lt k hk).1)
    refine wp_append_run2 (.tmp 12) (.tmp 14) 71 9 rfl rfl rfl hrun ?_
    refine hK.out _ _ (⟨rc (i := 1) z3 rfl, rc (i := 2) z3 rfl⟩) (fun hHeld => ?_)
    clear hK K
    try simp only [Act.put, List.setIfInBounds_toArray, List.set_cons_zero, List.set_cons_succ]
    refine takeH (i := 6) (v := ?_) rfl (by kernel_rfl) (by kernel_rfl) (by kernel_rfl) (fun _ _ _ h => h) rfl ?_ hHeld ?_
    rotate_left
    · intro w hS; (try dsimp only at hS); obtain ⟨hS0, hS1⟩ := hS; go_simp; first | done | (with_reducible rfl)
    try simp only [Act.put, List.setIfInBounds_toArray, List.set_cons_zero, List.set_cons_succ]
    refine wpAnyH_done (by kernel_rfl) ?_ _
    clear hHeld
    obtain ⟨n3, hn3⟩ : ∃ n, n = (num v.1 ++ v.2.1).length := ⟨_, rfl⟩
    rw [← hn3] at own3
    have b3 : n3 ≤ 42 := by rw [hn3, List.length_append]; omega
    have N3 := hide hn3
    obtain ⟨a3, k3, rfl, -⟩ := own_form own3
    have d3 := rc (i := 3) z3 rfl
    have O3 := hide own3
    have HB3 := hide hb3
    clear hn3 own3 own2 hb3 hb2 hb2' hgr3 hrun l3 e3 d1 d2 B2 z2
    go_wp2_with fail
    refine (rnumber_any w3 v.2.2 i2).mono ?_
    rintro e w4 ⟨u4, rfl, own4, hb4⟩
    have own3 := O3.out
    have own3' : w4.ownsRow w1.drew.heap.size 5 1 (.slice a3 n3 k3) n3 (bc (num v.1 ++ v.2.1)) := own3.kept (row := none) ⟨hb4.os, hb4.tape, hb4.output, hb4.size, fun k hk _ => hb4.block k hk⟩ (by cases hq : (Value.slice a3 n3 k3).ownBlock with | none => exact .inl rfl | some k => exact .inr (by simp))
    have HS3 := HB3.out.size
    have HS4 := hb4.size
    rcases own4.2 with ⟨rfl, h0⟩ | ⟨g4, cap4, cur4, rfl, -, -, -, -, -, -⟩
    · omega
    obtain ⟨v5, w5, hrun5, own5, hgr5, -⟩ := run_append_own (P := Tryd.prog) w4 w1.drew.heap.size 71 71 5 i0 (.int .u8 0) 1 1 Tryd.underlying71 hi hz0 hz1 hz2 rfl (by decide) _ _ (bc (num v.1 ++ v.2.1)) own3' ⟨g4, 0, none⟩ (num v.2.2).length cap4 (bc (num v.2.2)) (by rw [bc_length]; omega) (own4.cells (g := g4) rfl) (bc_one _) (by unfold maxLen; omega) (by omega) (by omega)
    rw [← bc_append] at own5
    have l5 : n3 + (num v.2.2).length = (num v.1 ++ v.2.1 ++ num v.2.2).length := by rw [N3.out, @List.length_append _ (num v.1 ++ v.2.1) (num v.2.2)]
    rw [l5] at own5
    have hb5 : Below w1.heap.size w1 w5 := (HB3.out.trans (hb4.mono HS3)).grown hgr5 (by omega) (fun k hk => (own3.lt k hk).1)
    have R5 := hide hrun5
    have S5 := sl_of_own own5
    have hv : num v.1 ++ v.2.1 ++ num v.2.2 = valB v := by simp [valB, partB]
    clear hrun5 own5 hgr5 own3 own3' own4 l5 d3
    go_wp2_with (at_builtin; refine wpList_plain rfl (fun K hK => wp_append_run (.tmp 16) (.tmp 19) 71 rfl rfl rfl R5.out (hK _ _ ?_)))
    rw [hv] at S5
    have hcv := run_strV S5 w5 (Below.refl _ _)
    go_wp2
    rw [hcv]
    go_wp2
    go_ret2
    exact ⟨rfl, B1.trans (hb5.mono B1.size)⟩
  · have hok := Bool.eq_false_iff.2 hok
    rw [hok] at hR ⊢
    rw [entryV_no]
    go_enter Tryd.func34, Tryd.ntmps34
    go_wp2_with fail
    try rw [hw0]
    refine hR.mono ?_
    rintro e w1 ⟨rfl, hb1⟩
    go_wp2
    go_ret2
    exact ⟨rfl, hb0.trans (hb1.mono hb0.size)⟩
end Go.Proofs.YtmlfonmdiimdfaaDoor
