/-
  Texts joined: DClone, DPuts, DPuts2, DPutsLaw, DDoor2.
-/
import Derived.Test.YtldfjpgcemfpjaaS5ORead
import Derived.Lib.SliceRun
import Derived.Lib.UnsafeStr
import Derived.Lib.BufferWrite
import Derived.Laws.MakeOwn
import Derived.Test.YtldfjpgcemfpjaaS29DKey
import Derived.Deep.CutBlock
import Derived.Deep.CutRange
import Derived.Test.YtldfjpgcemfpjaaS35DShownP
/-
  A text copied. Conditions: its length within reach.
-/
namespace Go.Proofs.Ytldfjpgcemfpjaa
open Go.RowKit

theorem Try.dcellsB : Try.prog.cellsOf 5 = 1 := by kernel_rfl
theorem Try.dsizeB1 : (Try.prog.info? 5).map (·.size) = some 1 := by kernel_rfl
theorem dbyteCells_bc (l : List UInt8) : Lib.byteCells l = bc l := rfl
theorem dstrB_bytes (l : List UInt8) (h : l ≠ []) : 0 < (strB l).size := by
  rw [strB_size]
  exact List.length_pos_iff.2 h

set_option maxRecDepth 20000 in
/-- What strings.Clone calls. -/
theorem dcopyStr_in (w : World) (l : List UInt8) (hl : l.length ≤ 140737488355328) :
    Calls Try.prog 51 #[.string (strB l)] w fun e w' => e = .returned (.string (strB l)) ∧ Below w.heap.size w w' := by
  have hsz := strB_size l
  by_cases h0 : l = []
  · subst h0
    have hz : (strB []).size = 0 := rfl
    clear hsz
    go_enter Try.func51, Try.ntmps51
    go_wp2
    go_ret
    exact ⟨rfl, Below.refl _ _⟩
  · have hpos : 0 < l.length := List.length_pos_iff.2 h0
    obtain ⟨i0, hi, hz0, hz1, hz2⟩ := info_parts Try.infoB
    have hmk : ∀ W : World, ∃ M : Array Value, M.size = l.length ∧ (Instr.makeSlice 93 (.int .i64 (l.length : Int)) (.int .i64 (l.length : Int))).run Try.prog W = .ok (.slice (some ⟨W.heap.size, 0, none⟩) l.length l.length) (W.alloc (.cells M 5)) := fun W => by
      refine ⟨madeCells (Value.int .u8 0).cells (((l.length : Nat) : Int).toNat * i0.size), by rw [size_madeCells, hz1]; simp, ?_⟩
      have h := run_make (P := Try.prog) W 93 5 i0 (.int .u8 0) Try.underlying93 hi hz0 .i64 .i64 (l.length : Int) (l.length : Int) (by omega) (by omega) (by rw [hz2]; omega) (by omega)
      simpa using h
    obtain ⟨M, hM, hmk⟩ := hmk w
    have hcp := Lib.run_copy_row_string (P := Try.prog) (w.alloc (.cells M 5)) 93 9 3 5 w.heap.size 0 l.length l.length (strB l) M 5 Try.underlying93 Try.dsizeB1 (heap_last w _ _ rfl) (by omega) (by omega)
    have hY : (M.toList.take 0 ++ Lib.byteCells (strB l).data.toList ++ M.toList.drop (0 + (strB l).size)) = bc l := by
      rw [List.take_zero, List.nil_append, List.drop_of_length_le (by rw [Array.length_toList]; omega), List.append_nil, strB_list, dbyteCells_bc]
    rw [hY, hsz] at hcp
    have hgY : ((w.alloc (.cells M 5)).setRow w.heap.size (bc l).toArray).heap[w.heap.size]? = some (.cells (bc l).toArray 5 (0, 0)) := setRow_heap _ _ M _ _ (0, 0) (heap_last w _ _ rfl)
    have hUS := Lib.run_unsafeString_row (P := Try.prog) ((w.alloc (.cells M 5)).setRow w.heap.size (bc l).toArray) 130 3 9 5 Try.underlying130 Try.dcellsB w.heap.size (bc l).toArray.size (by unfold World.shape?; rw [hgY]) l h0 (by simp [bc_length]) (by omega)
      (fun j x hx => by
        have hj : j < l.length := (List.getElem?_eq_some_iff.1 hx).1
        rw [Addr.add_lit, Nat.zero_add, cell_of_row _ _ _ _ _ _ hgY, List.getElem?_toArray, bc_get l j hj]
        rw [List.getElem?_eq_getElem hj] at hx
        injection hx with hx
        rw [hx])
    have hb1 : Below w.heap.size w ((w.alloc (.cells M 5)).setRow w.heap.size (bc l).toArray) :=
      ((Below.refl _ w).alloc (Nat.le_refl _) _).trans ⟨rfl, rfl, rfl, by simp, fun k hk => setRow_other _ _ _ _ (by omega)⟩
    have HB := hide (Lib.below_freeze hb1 (p := ⟨w.heap.size, 0, none⟩) (Nat.le_refl _) l.length)
    clear hb1 hgY hY hM
    generalize (w.alloc (.cells M 5)).setRow w.heap.size (bc l).toArray = W2 at *
    go_enter Try.func51, Try.ntmps51
    go_wp2
    go_ret
    exact ⟨rfl, HB.out⟩

/-- strings.Clone. -/
theorem dcopyStr_any (w : World) (l : List UInt8) (hl : l.length ≤ 140737488355328) :
    Calls Try.prog 38 #[.string (strB l)] w fun e w' => e = .returned (.string (strB l)) ∧ Below w.heap.size w w' := by
  go_enter Try.func38, Try.ntmps38
  go_wp2_with (go_at_call 51; refine (dcopyStr_in _ l hl).mono ?_; rintro e w' ⟨rfl, hb⟩)
  go_ret
  exact ⟨rfl, hb⟩
end Go.Proofs.Ytldfjpgcemfpjaa

/-
  Which put a change is, by the program. Conditions: texts within reach.
-/
namespace Go.Proofs.Ytldfjpgcemfpjaa
open Go.RowKit

/-- A put as it lies there: key, value, gone. -/
abbrev Pt3 := Bs × (Bs × Bool)
abbrev pt3C (p : Pt3) : List Value := [.string (strB p.1), .string (strB p.2.1), .bool p.2.2]
def putD (c : Ch5) : Pt3 := if c.2.2.2.2 then (c.1, (c.2.2.1, false)) else (c.1, ([], true))
theorem Try.infoPut3 : (Try.prog.info? 70).map (·.size) = some 3 := by kernel_rfl
theorem Try.zPut3 : (Try.prog.info? 70).map (fun i => (i.zero, i.size, i.bytes)) = some (some (.agg #[.string ⟨#[]⟩, .string ⟨#[]⟩, .bool false]), 3, 40) := by kernel_rfl
theorem app_put3 (w : World) (B : Nat) (v : Value) (xs : List Pt3) (p : Pt3) (h : Rw B w 70 3 pt3C v xs) (hB : B ≤ w.heap.size) (hn : xs.length * 56 + 56 ≤ 140737488355328) :
    ∃ v' w', (Builtin.append_ #[40, 40] 40 #[v, .slice (some ⟨w.heap.size, 0, none⟩) 1 1]).run Try.prog (w.alloc (.cells #[.string (strB p.1), .string (strB p.2.1), .bool p.2.2] 70)) = .ok v' w' ∧
      Rw B w' 70 3 pt3C v' (xs ++ [p]) ∧ (w.alloc (.cells #[.string (strB p.1), .string (strB p.2.1), .bool p.2.2] 70)).grownBy w' v.ownBlock := by
  obtain ⟨i0, hi, hz0, hz1, hz2⟩ := info_parts Try.zPut3
  have hx := heap_last w (.cells #[.string (strB p.1), .string (strB p.2.1), .bool p.2.2] 70) _ rfl
  obtain ⟨v', w', h1, h2, h3, -, h4⟩ := run_append_own_at (P := Try.prog) (w.alloc (.cells #[.string (strB p.1), .string (strB p.2.1), .bool p.2.2] 70)) B 40 40 70 i0 _ 3 40 Try.underlying40 hi hz0 hz1 hz2 rfl (by decide) v xs.length (xs.flatMap pt3C) (h.alloc _) ⟨w.heap.size, 0, none⟩ 1 1 (pt3C p) rfl (fun j u hu => by
      rw [Addr.add_lit, Nat.zero_add, cell_of_row _ _ _ _ _ _ hx, List.getElem?_toArray]; exact hu) (by simp [Value.oneCell']) (by unfold maxLen; omega) (by omega) (by simp; omega)
  refine ⟨v', w', h1, ?_, h3⟩
  unfold Rw
  rw [List.length_append, List.flatMap_append]
  simpa using h2
set_option maxRecDepth 40000 in
set_option maxHeartbeats 1600000 in
theorem putOf_any (w : World) (c : Ch5) (h1 : c.1.length ≤ 140737488355328) (h2 : c.2.2.1.length ≤ 140737488355328) :
    Calls Try.prog 28 #[.agg #[.string (strB c.1), .string (strB c.2.1), .string (strB c.2.2.1), .bool c.2.2.2.1, .bool c.2.2.2.2]] w fun e w' => e = .returned (.agg #[.string (strB (putD c).1), .string (strB (putD c).2.1), .bool (putD c).2.2]) ∧ Below w.heap.size w w' := by
  obtain ⟨key, was, now, had, has⟩ := c
  simp only at h1 h2 ⊢
  have hb0 : Below w.heap.size w ((w.alloc (.cells #[.string (strB key), .string (strB was), .string (strB now), .bool had, .bool has] 52)).alloc (.cells #[.string ⟨#[]⟩, .string ⟨#[]⟩, .bool false] 70)) := ((Below.refl _ _).alloc (Nat.le_refl _) _).alloc (by simp) _
  have hx0 : ((w.alloc (.cells #[.string (strB key), .string (strB was), .string (strB now), .bool had, .bool has] 52)).alloc (.cells #[.string ⟨#[]⟩, .string ⟨#[]⟩, .bool false] 70)).heap[w.heap.size]? = some (.cells #[.string (strB key), .string (strB was), .string (strB now), .bool had, .bool has] 52) := (heap_past _ _ _ (by simp)).trans (heap_last w _ _ rfl)
  have hy0 : ((w.alloc (.cells #[.string (strB key), .string (strB was), .string (strB now), .bool had, .bool has] 52)).alloc (.cells #[.string ⟨#[]⟩, .string ⟨#[]⟩, .bool false] 70)).heap[w.heap.size + 1]? = some (.cells #[.string ⟨#[]⟩, .string ⟨#[]⟩, .bool false] 70) := heap_last _ _ _ (by simp)
  generalize hw0 : (w.alloc (.cells #[.string (strB key), .string (strB was), .string (strB now), .bool had, .bool has] 52)).alloc (.cells #[.string ⟨#[]⟩, .string ⟨#[]⟩, .bool false] 70) = w0 at *
  have x0 := cell_of_row w0 w.heap.size 0 _ _ _ hx0
  have x2 := cell_of_row w0 w.heap.size 2 _ _ _ hx0
  have x4 := cell_of_row w0 w.heap.size 4 _ _ _ hx0
  simp only [List.getElem?_toArray, List.getElem?_cons_zero, List.getElem?_cons_succ] at x0 x2 x4
  have H0 := hide (And.intro hb0 (And.intro hx0 hy0))
  clear hb0 hx0 hy0
  unfold putD
  cases has with
  | false =>
    simp only [Bool.false_eq_true, if_false]
    have hcl := dcopyStr_any w0 key h1
    go_enter Try.func28, Try.ntmps28
    go_wp2_with fail
    try rw [hw0]
    go_wp2_with fail
    refine hcl.mono ?_
    rintro e w1 ⟨rfl, hb1⟩
    have hy1 := (hb1.block _ (lt_of_heap H0.out.2.2)).trans H0.out.2.2
    have y0 := cell_of_row w1 (w.heap.size + 1) 0 _ _ _ hy1
    have y1 := cell_of_row w1 (w.heap.size + 1) 1 _ _ _ hy1
    have y2 := cell_of_row w1 (w.heap.size + 1) 2 _ _ _ hy1
    simp only [List.getElem?_toArray, List.getElem?_cons_zero, List.getElem?_cons_succ] at y0 y1 y2
    have f0 := frozen0 (j := 0) hy1
    have f1 := frozen0 (j := 1) hy1
    have f2 := frozen0 (j := 2) hy1
    have H1 := hide (And.intro hy1 (H0.out.1.trans (hb1.mono H0.out.1.size)))
    clear hcl hb1 hy1
    go_wp2
    refine bodyPost_ret (results_cell_row rfl _ _ _ _ _ _ _ rfl (heap_set3all H1.out.1) Try.underlying70 rfl Try.infoPut3) rfl ⟨rfl, ?_⟩
    exact (((H1.out.2.setCell (p := ⟨w.heap.size + 1, 0, none⟩) (by simp) _).setCell (p := ⟨w.heap.size + 1, 1, none⟩) (by simp) _).setCell (p := ⟨w.heap.size + 1, 2, none⟩) (by simp) _)
  | true =>
    simp only [if_true]
    have hcl := dcopyStr_any w0.drew key h1
    go_enter Try.func28, Try.ntmps28
    go_wp2_with fail
    try rw [hw0]
    go_wp2_with fail
    refine wp_region_held_drew (S := fun W => W.cell? ⟨w.heap.size, 0, none⟩ = some (.string (strB key)) ∧ W.cell? ⟨w.heap.size, 2, none⟩ = some (.string (strB now))) (by kernel_rfl) (⟨x0, x2⟩) (fun hHeld => ?_)
    refine takeK 0 hHeld ?_
    refine takeK 1 hHeld ?_
    refine takeK 3 hHeld ?_
    refine takeK 4 hHeld ?_
    refine onlyH (i := 2) rfl (by kernel_rfl) rfl (fun K hK => ?_)
    go_simp
    refine hcl.mono ?_
    rintro e w1 ⟨rfl, hb1⟩
    have hb1' : Below w0.heap.size w0 w1 := (Below.refl _ _).drew.trans hb1
    have hx1 := (hb1'.block _ (lt_of_heap H0.out.2.1)).trans H0.out.2.1
    have z0 := cell_of_row w1 w.heap.size 0 _ _ _ hx1
    have z2 := cell_of_row w1 w.heap.size 2 _ _ _ hx1
    simp only [List.getElem?_toArray, List.getElem?_cons_zero, List.getElem?_cons_succ] at z0 z2
    have hcl2 := dcopyStr_any w1 now h2
    have H1 := hide (And.intro hb1' hx1)
    clear hcl hb1 hb1' hx1
    refine hK.out _ _ (⟨z0, z2⟩) (fun hHeld => ?_)
    clear hK K
    try simp only [Act.put, List.setIfInBounds_toArray, List.set_cons_zero, List.set_cons_succ]
    refine onlyH (i := 5) rfl (by kernel_rfl) rfl (fun K hK => ?_)
    go_simp
    refine hcl2.mono ?_
    rintro e w2 ⟨rfl, hb2⟩
    have hB2 := H1.out.1.trans (hb2.mono H1.out.1.size)
    have hx2 := (hB2.block _ (lt_of_heap H0.out.2.1)).trans H0.out.2.1
    have hy2 := (hB2.block _ (lt_of_heap H0.out.2.2)).trans H0.out.2.2
    have u0 := cell_of_row w2 w.heap.size 0 _ _ _ hx2
    have u2 := cell_of_row w2 w.heap.size 2 _ _ _ hx2
    have y0 := cell_of_row w2 (w.heap.size + 1) 0 _ _ _ hy2
    have y1 := cell_of_row w2 (w.heap.size + 1) 1 _ _ _ hy2
    have y2 := cell_of_row w2 (w.heap.size + 1) 2 _ _ _ hy2
    simp only [List.getElem?_toArray, List.getElem?_cons_zero, List.getElem?_cons_succ] at u0 u2 y0 y1 y2
    have f0 := frozen0 (j := 0) hy2
    have f1 := frozen0 (j := 1) hy2
    have f2 := frozen0 (j := 2) hy2
    have hne : w.heap.size ≠ w.heap.size + 1 := by omega
    have hx3 : (((w2.setCell ⟨w.heap.size + 1, 0, none⟩ (.string (strB key))).setCell ⟨w.heap.size + 1, 1, none⟩ (.string (strB now))).setCell ⟨w.heap.size + 1, 2, none⟩ (.bool false)).heap[w.heap.size]? = _ := (heap_setOther hne).trans ((heap_setOther hne).trans ((heap_setOther hne).trans hx2))
    have v0 := cell_of_row _ w.heap.size 0 _ _ _ hx3
    have v2 := cell_of_row _ w.heap.size 2 _ _ _ hx3
    simp only [List.getElem?_toArray, List.getElem?_cons_zero, List.getElem?_cons_succ] at v0 v2
    have H2 := hide (And.intro hy2 (H0.out.1.trans (hB2.mono H0.out.1.size)))
    clear hcl2 hb2 hB2 hx2 hy2 hx3
    refine hK.out _ _ (⟨u0, u2⟩) (fun hHeld => ?_)
    clear hK K
    try simp only [Act.put, List.setIfInBounds_toArray, List.set_cons_zero, List.set_cons_succ]
    refine takeK 6 hHeld ?_
    refine onlyH (i := 7) rfl (by kernel_rfl) rfl (fun K hK => ?_)
    go_simp
    refine hK.out _ _ (⟨v0, v2⟩) (fun hHeld => ?_)
    clear hK K
    try simp only [Act.put, List.setIfInBounds_toArray, List.set_cons_zero, List.set_cons_succ]
    refine wpAnyH_done (by kernel_rfl) ?_ _
    clear hHeld
    go_wp2
    refine bodyPost_ret (results_cell_row rfl _ _ _ _ _ _ _ rfl (heap_set3all H2.out.1) Try.underlying70 rfl Try.infoPut3) rfl ⟨rfl, ?_⟩
    exact (((H2.out.2.setCell (p := ⟨w.heap.size + 1, 0, none⟩) (by simp) _).setCell (p := ⟨w.heap.size + 1, 1, none⟩) (by simp) _).setCell (p := ⟨w.heap.size + 1, 2, none⟩) (by simp) _)
end Go.Proofs.Ytldfjpgcemfpjaa

/-
  Which puts changes are, by the program and by the reference. Conditions: the changes lie there; texts within reach.
-/
namespace Go.Proofs.Ytldfjpgcemfpjaa
open Go.RowKit

theorem map_take_step {α β : Type} (f : α → β) (l : List α) (k : Nat) (h : k < l.length) : (l.take (k + 1)).map f = (l.take k).map f ++ [f l[k]] := by
  rw [List.take_succ_eq_append_getElem h, List.map_append]
  rfl
set_option maxRecDepth 40000 in
set_option maxHeartbeats 1600000 in
theorem puts_any (w : World) (l : List Ch5) (v : Value) (hv : Ls w.heap.size w 5 ch5C v l) (hn : l.length * 56 ≤ 140737488351232) (ht : ∀ c ∈ l, c.1.length ≤ 140737488355328 ∧ c.2.2.1.length ≤ 140737488355328) :
    Calls Try.prog 16 #[v] w fun e w' => ∃ u, e = .returned u ∧ Rw w.heap.size w' 70 3 pt3C u (l.map putD) ∧ Below w.heap.size w w' := by
  obtain ⟨ao, cap, rfl, h1, h2, h4⟩ := hv
  unfold maxLen at h2
  have HT := hide ht
  clear ht
  go_enter Try.func16, Try.ntmps16
  go_wp2_with fail
  go_loopw [3, 8] (fun t u wr => ∃ k : Nat, k ≤ l.length ∧ u = .int .i64 k ∧ Rw w.heap.size wr 70 3 pt3C t ((l.take k).map putD) ∧ Below w.heap.size w wr)
    (fun _ u _ => l.length - (intOf u).toNat)
  case atStart => exact ⟨0, by omega, rfl, World.ownsRow_nil _ _ _ _, Below.refl _ _⟩
  case round =>
    obtain ⟨k, hk, rfl, hrow, hbw⟩ := hrel
    have hs := hbw.size
    by_cases hlt : k < l.length
    · obtain ⟨b, off, rfl, hbB, hc⟩ := h4 (by rintro rfl; simp at hlt)
      have d0 := (hbw.cell (p := ⟨b, off + k * 5 + 0, none⟩) hbB).trans (hc k hlt 0 _ rfl)
      have d1 := (hbw.cell (p := ⟨b, off + k * 5 + 1, none⟩) hbB).trans (hc k hlt 1 _ rfl)
      have d2 := (hbw.cell (p := ⟨b, off + k * 5 + 2, none⟩) hbB).trans (hc k hlt 2 _ rfl)
      have d3 := (hbw.cell (p := ⟨b, off + k * 5 + 3, none⟩) hbB).trans (hc k hlt 3 _ rfl)
      have d4 := (hbw.cell (p := ⟨b, off + k * 5 + 4, none⟩) hbB).trans (hc k hlt 4 _ rfl)
      simp only [Nat.add_zero] at d0
      have hst := map_take_step putD l k hlt
      obtain ⟨t1, t2⟩ := HT.out l[k] (List.getElem_mem _)
      generalize l[k] = x at *
      obtain ⟨oa, om, oc, rfl⟩ := row_form hrow
      have hol : ((l.take k).map putD).length = k := by simp; omega
      obtain ⟨os, hos⟩ : ∃ os, os = (l.take k).map putD := ⟨_, rfl⟩
      rw [← hos] at hrow hst hol
      obtain ⟨key, was, now, had, has⟩ := x
      simp only at d0 d1 d2 d3 d4 t1 t2
      have HK := hide (And.intro hst (And.intro hrow (And.intro hbw (And.intro hol (And.intro t1 t2)))))
      clear hst hrow hbw hol hos t1 t2 hc h4
      have hbA : Below wr.heap.size wr (wr.alloc (.cells #[.string (strB key), .string (strB was), .string (strB now), .bool had, .bool has] 52)) := (Below.refl _ _).alloc (Nat.le_refl _) _
      have hpo := putOf_any (wr.alloc (.cells #[.string (strB key), .string (strB was), .string (strB now), .bool had, .bool has] 52)) (key, (was, (now, (had, has)))) HK.out.2.2.2.2.1 HK.out.2.2.2.2.2
      simp only at hpo
      generalize hPX : putD (key, (was, (now, (had, has)))) = PX at *
      have HA := hide hbA
      clear hbA
      go_wp2_with fail
      refine hpo.mono ?_
      rintro e w1 ⟨rfl, hb1⟩
      have hB1 := HA.out.trans (hb1.mono HA.out.size)
      have hrowX := own_below HK.out.2.1 hB1
      have hBX : w.heap.size ≤ w1.heap.size := Nat.le_trans hs hB1.size
      obtain ⟨v', w2, hrun, hrow2, hgr2⟩ := app_put3 w1 w.heap.size _ os PX hrowX hBX (by rw [HK.out.2.2.2.1]; omega)
      have hrowA := World.ownsRow.alloc hrowX (.cells #[.string (strB PX.1), .string (strB PX.2.1), .bool PX.2.2] 70)
      have hb2 : Below w.heap.size w1 w2 := ((Below.refl _ _).alloc hBX _).trans ((Below.refl _ _).grown hgr2 (Nat.le_trans hBX (Nat.le_of_lt (by simp))) (fun q hq => (World.ownsRow.lt hrowA q hq).1))
      have HRUN := hide hrun
      have H2 := hide (And.intro hrow2 ((HK.out.2.2.1.trans (hB1.mono hs)).trans hb2))
      obtain ⟨va, vm, vc, rfl⟩ := row_form hrow2
      clear hpo hb1 hB1 hrowX hrun hrow2 hgr2 hrowA hb2
      go_wp2_with (at_builtin; refine wpList_plain rfl (fun K hK => wp_append_run (.tmp 12) (.tmp 15) 40 rfl rfl rfl HRUN.out (hK _ _ ?_)))
      go_wp2
      go_roundw
      case rel => exact ⟨k + 1, by omega, by go_num, by rw [HK.out.1]; exact H2.out.1, H2.out.2⟩
      case measure => simp [intOf]; omega
    · obtain rfl : k = l.length := by omega
      rw [List.take_length] at hrow
      have HK := hide (And.intro hrow hbw)
      obtain ⟨oa, om, oc, rfl⟩ := row_form hrow
      clear hrow hbw h4
      go_wp2
      all_goals
        go_ret
        exact ⟨_, rfl, HK.out.1, HK.out.2⟩
set_option maxRecDepth 40000 in
set_option maxHeartbeats 1600000 in
theorem rputs_any (w : World) (l : List Ch5) (v : Value) (hv : Ls w.heap.size w 5 ch5C v l) (hn : l.length * 56 ≤ 140737488351232) :
    Calls Try.prog 17 #[v] w fun e w' => ∃ u, e = .returned u ∧ Rw w.heap.size w' 70 3 pt3C u (l.map putD) ∧ Below w.heap.size w w' := by
  obtain ⟨ao, cap, rfl, h1, h2, h4⟩ := hv
  unfold maxLen at h2
  go_enter Try.func17, Try.ntmps17
  go_wp2_with fail
  go_loopw [3, 4] (fun t u wr => ∃ k : Nat, k ≤ l.length ∧ u = .int .i64 k ∧ Rw w.heap.size wr 70 3 pt3C t ((l.take k).map putD) ∧ Below w.heap.size w wr)
    (fun _ u _ => l.length - (intOf u).toNat)
  case atStart => exact ⟨0, by omega, rfl, World.ownsRow_nil _ _ _ _, Below.refl _ _⟩
  case round =>
    obtain ⟨k, hk, rfl, hrow, hbw⟩ := hrel
    have hs := hbw.size
    by_cases hlt : k < l.length
    · obtain ⟨b, off, rfl, hbB, hc⟩ := h4 (by rintro rfl; simp at hlt)
      have d0 := (hbw.cell (p := ⟨b, off + k * 5 + 0, none⟩) hbB).trans (hc k hlt 0 _ rfl)
      have d2 := (hbw.cell (p := ⟨b, off + k * 5 + 2, none⟩) hbB).trans (hc k hlt 2 _ rfl)
      have d4 := (hbw.cell (p := ⟨b, off + k * 5 + 4, none⟩) hbB).trans (hc k hlt 4 _ rfl)
      simp only [Nat.add_zero] at d0
      have hst := map_take_step putD l k hlt
      generalize l[k] = x at *
      obtain ⟨oa, om, oc, rfl⟩ := row_form hrow
      have hol : ((l.take k).map putD).length = k := by simp; omega
      obtain ⟨os, hos⟩ : ∃ os, os = (l.take k).map putD := ⟨_, rfl⟩
      rw [← hos] at hrow hst hol
      obtain ⟨key, was, now, had, has⟩ := x
      simp only at d0 d2 d4
      have HK := hide (And.intro hst (And.intro hrow (And.intro hbw hol)))
      clear hst hrow hbw hol hos hc h4
      cases has with
      | false =>
        have hPX : putD (key, (was, (now, (had, false)))) = (key, ([], true)) := rfl
        have hbA : Below wr.heap.size wr (wr.alloc (.cells #[.string (strB key), .string ⟨#[]⟩, .bool true] 70)) := (Below.refl _ _).alloc (Nat.le_refl _) _
        have hx := heap_last wr (.cells #[.string (strB key), .string ⟨#[]⟩, .bool true] 70) _ rfl
        have hd4 := (hbA.cell (p := ⟨b, off + k * 5 + 4, none⟩) (by simp only; omega)).trans d4
        generalize hwA : wr.alloc (.cells #[.string (strB key), .string ⟨#[]⟩, .bool true] 70) = wA at *
        have y0 := cell_of_row wA wr.heap.size 0 _ _ _ hx
        have y1 := cell_of_row wA wr.heap.size 1 _ _ _ hx
        have y2 := cell_of_row wA wr.heap.size 2 _ _ _ hx
        simp only [List.getElem?_toArray, List.getElem?_cons_zero, List.getElem?_cons_succ] at y0 y1 y2
        have hrowX := own_below HK.out.2.1 hbA
        have hBX : w.heap.size ≤ wA.heap.size := Nat.le_trans hs hbA.size
        obtain ⟨v', w2, hrun, hrow2, hgr2⟩ := app_put3 wA w.heap.size _ os (key, ([], true)) hrowX hBX (by rw [HK.out.2.2.2]; omega)
        have hrowA := World.ownsRow.alloc hrowX (.cells #[.string (strB key), .string ⟨#[]⟩, .bool true] 70)
        have hb2 : Below w.heap.size wA w2 := ((Below.refl _ _).alloc hBX _).trans ((Below.refl _ _).grown hgr2 (Nat.le_trans hBX (Nat.le_of_lt (by simp))) (fun q hq => (World.ownsRow.lt hrowA q hq).1))
        have HRUN : Hid ((Builtin.append_ #[40, 40] 40 #[.slice oa om oc, .slice (some ⟨wA.heap.size, 0, none⟩) 1 1]).run Try.prog (wA.alloc (.cells #[.string (strB key), .string ⟨#[]⟩, .bool true] 70)) = .ok v' w2) := hrun
        have H2 := hide (And.intro hrow2 ((HK.out.2.2.1.trans (hbA.mono hs)).trans hb2))
        obtain ⟨va, vm, vc, rfl⟩ := row_form hrow2
        clear hrowX hrun hrow2 hgr2 hrowA hb2 hbA hx
        go_upto_region 6 with fail
        try rw [hwA]
        go_wp2_with (at_builtin; refine wpList_plain rfl (fun K hK => wp_append_run (.tmp 34) (.tmp 36) 40 rfl rfl rfl HRUN.out (hK _ _ ?_)))
        go_wp2
        go_roundw
        case rel => exact ⟨k + 1, by omega, by go_num, by rw [HK.out.1]; exact H2.out.1, H2.out.2⟩
        case measure => simp [intOf]; omega
      | true =>
        have hPX : putD (key, (was, (now, (had, true)))) = (key, (now, false)) := rfl
        have hbA : Below wr.heap.size wr (wr.alloc (.cells #[.string (strB key), .string ⟨#[]⟩, .bool true] 70)) := (Below.refl _ _).alloc (Nat.le_refl _) _
        have hx := heap_last wr (.cells #[.string (strB key), .string ⟨#[]⟩, .bool true] 70) _ rfl
        have hd0 := (hbA.cell (p := ⟨b, off + k * 5, none⟩) (by simp only; omega)).trans d0
        have hd2 := (hbA.cell (p := ⟨b, off + k * 5 + 2, none⟩) (by simp only; omega)).trans d2
        have hd4 := (hbA.cell (p := ⟨b, off + k * 5 + 4, none⟩) (by simp only; omega)).trans d4
        generalize hwA : wr.alloc (.cells #[.string (strB key), .string ⟨#[]⟩, .bool true] 70) = wA at *
        have x0 := cell_of_row wA wr.heap.size 0 _ _ _ hx
        have x1 := cell_of_row wA wr.heap.size 1 _ _ _ hx
        have x2 := cell_of_row wA wr.heap.size 2 _ _ _ hx
        simp only [List.getElem?_toArray, List.getElem?_cons_zero, List.getElem?_cons_succ] at x0 x1 x2
        have f0 := frozen0 (j := 0) hx
        have f1 := frozen0 (j := 1) hx
        have f2 := frozen0 (j := 2) hx
        have hxC := heap_set3all (u0 := .string (strB key)) (u1 := .string (strB now)) (u2 := .bool false) hx
        have hbC : Below wr.heap.size wr (((wA.setCell ⟨wr.heap.size, 0, none⟩ (.string (strB key))).setCell ⟨wr.heap.size, 1, none⟩ (.string (strB now))).setCell ⟨wr.heap.size, 2, none⟩ (.bool false)) := ((hbA.setCell (p := ⟨wr.heap.size, 0, none⟩) (Nat.le_refl _) _).setCell (p := ⟨wr.heap.size, 1, none⟩) (Nat.le_refl _) _).setCell (p := ⟨wr.heap.size, 2, none⟩) (Nat.le_refl _) _
        have hxC : (((wA.setCell ⟨wr.heap.size, 0, none⟩ (.string (strB key))).setCell ⟨wr.heap.size, 1, none⟩ (.string (strB now))).setCell ⟨wr.heap.size, 2, none⟩ (.bool false)).drew.heap[wr.heap.size]? = _ := hxC
        have hbC := hbC.drew
        have hc0 := (hbC.cell (p := ⟨b, off + k * 5, none⟩) (by simp only; omega)).trans d0
        have hc2 := (hbC.cell (p := ⟨b, off + k * 5 + 2, none⟩) (by simp only; omega)).trans d2
        have HE := hide (And.intro hc0 (And.intro hc2 (And.intro hd0 hd2)))
        clear hc0 hc2 hx hbA
        generalize hwC : (((wA.setCell ⟨wr.heap.size, 0, none⟩ (.string (strB key))).setCell ⟨wr.heap.size, 1, none⟩ (.string (strB now))).setCell ⟨wr.heap.size, 2, none⟩ (.bool false)).drew = wC at *
        have hrowX := own_below HK.out.2.1 hbC
        have hBX : w.heap.size ≤ wC.heap.size := Nat.le_trans hs hbC.size
        obtain ⟨v', w2, hrun, hrow2, hgr2⟩ := app_put3 wC w.heap.size _ os (key, (now, false)) hrowX hBX (by rw [HK.out.2.2.2]; omega)
        have hrowA := World.ownsRow.alloc hrowX (.cells #[.string (strB key), .string (strB now), .bool false] 70)
        have hb2 : Below w.heap.size wC w2 := ((Below.refl _ _).alloc hBX _).trans ((Below.refl _ _).grown hgr2 (Nat.le_trans hBX (Nat.le_of_lt (by simp))) (fun q hq => (World.ownsRow.lt hrowA q hq).1))
        have HRUN : Hid ((Builtin.append_ #[40, 40] 40 #[.slice oa om oc, .slice (some ⟨wC.heap.size, 0, none⟩) 1 1]).run Try.prog (wC.alloc (.cells #[.string (strB key), .string (strB now), .bool false] 70)) = .ok v' w2) := hrun
        have H2 := hide (And.intro hrow2 ((HK.out.2.2.1.trans (hbC.mono hs)).trans hb2))
        obtain ⟨va, vm, vc, rfl⟩ := row_form hrow2
        have HX := hide hxC
        clear hrowX hrun hrow2 hgr2 hrowA hb2 hbC hxC
        have e0 := HE.out.1
        have e2 := HE.out.2.1
        go_upto_region 6 with fail
        try rw [hwA]
        go_upto_region 7 with fail
        refine wp_region_held_drew (S := fun W => W.cell? ⟨b, off + k * 5, none⟩ = some (.string (strB key)) ∧ W.cell? ⟨b, off + k * 5 + 2, none⟩ = some (.string (strB now))) (by kernel_rfl) (⟨HE.out.2.2.1, HE.out.2.2.2⟩) (fun hHeld => ?_)
        refine takeK 0 hHeld ?_
        refine takeK 1 hHeld ?_
        refine takeK 2 hHeld ?_
        refine takeK 3 hHeld ?_
        refine takeK 4 hHeld ?_
        refine takeK 5 hHeld ?_
        refine takeK 6 hHeld ?_
        refine takeK 7 hHeld ?_
        refine takeK 8 hHeld ?_
        refine takeK 9 hHeld ?_
        refine takeK 10 hHeld ?_
        refine onlyH (i := 11) rfl (by kernel_rfl) rfl (fun K hK => ?_)
        go_simp
        try rw [hwC]
        refine hK.out _ _ (⟨e0, e2⟩) (fun hHeld => ?_)
        clear hK K
        try simp only [Act.put, List.setIfInBounds_toArray, List.set_cons_zero, List.set_cons_succ]
        refine wpAnyH_done (by kernel_rfl) ?_ _
        clear hHeld
        have y0 := cell_of_row wC wr.heap.size 0 _ _ _ HX.out
        have y1 := cell_of_row wC wr.heap.size 1 _ _ _ HX.out
        have y2 := cell_of_row wC wr.heap.size 2 _ _ _ HX.out
        simp only [List.getElem?_toArray, List.getElem?_cons_zero, List.getElem?_cons_succ] at y0 y1 y2
        go_wp2_with (at_builtin; refine wpList_plain rfl (fun K hK => wp_append_run (.tmp 34) (.tmp 36) 40 rfl rfl rfl HRUN.out (hK _ _ ?_)))
        go_wp2
        go_roundw
        case rel => exact ⟨k + 1, by omega, by go_num, by rw [HK.out.1]; exact H2.out.1, H2.out.2⟩
        case measure => simp [intOf]; omega
    · obtain rfl : k = l.length := by omega
      rw [List.take_length] at hrow
      have HK := hide (And.intro hrow hbw)
      obtain ⟨oa, om, oc, rfl⟩ := row_form hrow
      clear hrow hbw h4
      go_wp2
      all_goals
        go_ret
        exact ⟨_, rfl, HK.out.1, HK.out.2⟩
end Go.Proofs.Ytldfjpgcemfpjaa

/-
  DiffPuts, walked. Conditions: the changes lie there; texts within reach.
-/
namespace Go.Proofs.Ytldfjpgcemfpjaa
open Go.RowKit

theorem Try.eqPut3 : Try.prog.underlying 70 = some (.struct (Try.prog.fieldsOf 70)) ∧ Try.prog.stoodInHeld 70 = false := ⟨by kernel_rfl, by kernel_rfl⟩
theorem neq_Put3 (W : World) (x : Pt3) : (binOp .neq 70 (.agg #[.string (strB x.1), .string (strB x.2.1), .bool x.2.2]) (.agg #[.string (strB x.1), .string (strB x.2.1), .bool x.2.2])).run Try.prog W = .ok (.bool false) W := by
  obtain ⟨h1, h2⟩ := Try.eqPut3
  rw [run_neq_struct, run_equalIn_agg _ _ _ _ _ h1 h2]
  simp only [Program.fieldsOf, Try.underlying70]
  simp [Op.eqFields, go_sem, Try.underlying9, Try.underlying4, toL]
set_option maxRecDepth 20000 in
set_option maxHeartbeats 800000 in
theorem samePuts_any (w : World) (xs : List Pt3) (vx vy : Value) (hvx : Ls w.heap.size w 3 pt3C vx xs) (hvy : Ls w.heap.size w 3 pt3C vy xs) :
    Calls Try.prog 15 #[vx, vy] w fun e w' => e = .returned (.bool true) ∧ Below w.heap.size w w' := by
  obtain ⟨ax, capx, rfl, gx1, gx2, hx⟩ := hvx
  obtain ⟨ay, capy, rfl, gy1, gy2, hy⟩ := hvy
  unfold maxLen at gx2 gy2
  go_enter Try.func15, Try.ntmps15
  go_wp2_with fail
  go_loopw [5] (fun t wr => ∃ k : Nat, k ≤ xs.length ∧ t = .int .i64 k ∧ Below w.heap.size w wr)
    (fun t _ => xs.length - (intOf t).toNat)
  case atStart => exact ⟨0, by omega, rfl, Below.refl _ _⟩
  case round =>
    obtain ⟨k, hk, rfl, hbr⟩ := hrel
    have HB := hide hbr
    by_cases hlt : k < xs.length
    · obtain ⟨bx, offx, rfl, hbX, hcx⟩ := hx (by intro e; rw [e] at hlt; simp at hlt)
      obtain ⟨bY, offy, rfl, hbYl, hcy⟩ := hy (by intro e; rw [e] at hlt; simp at hlt)
      have c0 := (hbr.cell (p := ⟨bx, offx + k * 3 + 0, none⟩) hbX).trans (hcx k hlt 0 _ rfl)
      have c1 := (hbr.cell (p := ⟨bx, offx + k * 3 + 1, none⟩) hbX).trans (hcx k hlt 1 _ rfl)
      have c2 := (hbr.cell (p := ⟨bx, offx + k * 3 + 2, none⟩) hbX).trans (hcx k hlt 2 _ rfl)
      have d0 := (hbr.cell (p := ⟨bY, offy + k * 3 + 0, none⟩) hbYl).trans (hcy k hlt 0 _ rfl)
      have d1 := (hbr.cell (p := ⟨bY, offy + k * 3 + 1, none⟩) hbYl).trans (hcy k hlt 1 _ rfl)
      have d2 := (hbr.cell (p := ⟨bY, offy + k * 3 + 2, none⟩) hbYl).trans (hcy k hlt 2 _ rfl)
      generalize xs[k] = x at *
      simp only [Nat.add_zero] at c0 d0
      have hnq : ∀ W, _ := fun W => neq_Put3 W x
      clear hcx hcy hx hy hbr
      go_wp2_with fail
      refine wp_region_held_drew (S := fun W => W.cell? ⟨bx, offx + k * 3, none⟩ = some (.string (strB x.1)) ∧ W.cell? ⟨bx, offx + k * 3 + 1, none⟩ = some (.string (strB x.2.1)) ∧ W.cell? ⟨bx, offx + k * 3 + 2, none⟩ = some (.bool x.2.2) ∧ W.cell? ⟨bY, offy + k * 3, none⟩ = some (.string (strB x.1)) ∧ W.cell? ⟨bY, offy + k * 3 + 1, none⟩ = some (.string (strB x.2.1)) ∧ W.cell? ⟨bY, offy + k * 3 + 2, none⟩ = some (.bool x.2.2)) (by kernel_rfl) (⟨c0, c1, c2, d0, d1, d2⟩) (fun hHeld => ?_)
      refine takeK 0 hHeld ?_
      refine takeK 1 hHeld ?_
      refine takeK 2 hHeld ?_
      refine takeK 3 hHeld ?_
      refine takeK 4 hHeld ?_
      refine takeK 5 hHeld ?_
      refine takeK 6 hHeld ?_
      refine takeK 7 hHeld ?_
      refine takeK 8 hHeld ?_
      refine wpAnyH_done (by kernel_rfl) ?_ _
      clear hHeld hnq
      go_wp2
      go_roundw
      case rel => exact ⟨k + 1, by omega, by go_num, HB.out.drew⟩
      case measure => simp [intOf]; omega
    · obtain rfl : k = xs.length := by omega
      clear hx hy hbr
      go_wp2
      all_goals
        go_ret
        exact ⟨rfl, HB.out⟩
set_option maxRecDepth 40000 in
set_option maxHeartbeats 1600000 in
theorem diffPuts_any (w : World) (v : Value) (l : List Ch5) (hv : Ls w.heap.size w 5 ch5C v l) (hn : l.length * 56 ≤ 140737488351232) (ht : ∀ c ∈ l, c.1.length ≤ 140737488351232 ∧ c.2.2.1.length ≤ 140737488351232) :
    Calls Try.prog 5 #[v] w fun e w' => e = .returned (.bool true) ∧ Below w.heap.size w w' := by
  have hsh := dshown_any w
  have HV := hide (And.intro hv (And.intro hn ht))
  obtain ⟨ao, cap, rfl, -⟩ := hv
  clear hn ht
  go_enter Try.func5, Try.ntmps5
  go_wp2_with fail
  refine hsh.mono ?_
  rintro e w1 ⟨rfl, hb1⟩
  have hp1 := puts_any w1 l _ ((HV.out.1.keep hb1).up hb1.size) HV.out.2.1 (fun c hc => by
    obtain ⟨q1, q2⟩ := HV.out.2.2 c hc
    exact ⟨by omega, by omega⟩)
  have H1 := hide hb1
  clear hsh hb1
  go_wp2_with fail
  refine hp1.mono ?_
  rintro e w2 ⟨u2, rfl, hr2, hb2⟩
  have hB2 := H1.out.trans (hb2.mono H1.out.size)
  have hp2 := rputs_any w2 l _ ((HV.out.1.keep hB2).up hB2.size) HV.out.2.1
  obtain ⟨a2, m2, c2, rfl⟩ := row_form hr2
  have H2 := hide (And.intro hr2 hB2)
  clear hp1 hr2 hb2 hB2
  go_wp2_with fail
  refine hp2.mono ?_
  rintro e w3 ⟨u3, rfl, hr3, hb3⟩
  have hB3 := H2.out.2.trans (hb3.mono H2.out.2.size)
  have hsm := samePuts_any w3 (l.map putD) _ _ (ls_of_own (fun _ => rfl) (own_below H2.out.1 hb3)) (ls_of_own (fun _ => rfl) hr3)
  obtain ⟨a3, m3, c3, rfl⟩ := row_form hr3
  have H3 := hide hB3
  clear hp2 hr3 hb3 hB3
  go_wp2_with fail
  refine hsm.mono ?_
  rintro e w4 ⟨rfl, hb4⟩
  have H4 := hide (H3.out.trans (hb4.mono H3.out.size))
  clear hsm hb4
  go_wp2
  go_ret
  exact ⟨rfl, H4.out⟩
end Go.Proofs.Ytldfjpgcemfpjaa

/-
  Changes that came in, out of their reading. No condition.
-/
namespace Go.Proofs.Ytldfjpgcemfpjaa
open Go.ChangeShapes Go.WideShapes Go.ChangeAt Go.RowKit
open Go.ChangeMaps (open_string shut_string)

theorem cellsChange : Try.prog.cellsOf 52 = 5 := by kernel_rfl
theorem bytesChange : Try.prog.bytesOf 52 = 56 := by kernel_rfl
theorem cellsBoolD : Try.prog.cellsOf 4 = 1 := by kernel_rfl
set_option maxRecDepth 100000 in
theorem open_Change1 {H : Type} {enc : TypeId × Value → H} {W : World} {x : Addr} {i n : Nat} {cs : List Value} {y : DataW H × List MemPlace} (h1 : W.cells? 0 (x.add (i * 5)) 5 = some cs)
    (h2 : DataW.trod enc Try.prog W 0 (fun _ => true) true n 52 cs = some y) : ∃ p : Ch5, (∀ j u, (ch5C p)[j]? = some u → W.cell? (x.add (i * 5 + j)) = some u) ∧ p.1.length ∈ y.1.weights Try.prog 52 ∧ p.2.2.1.length ∈ y.1.weights Try.prog 52 := by
  obtain ⟨_, hlen, hc⟩ := World.cells?_some h1
  obtain ⟨xs, k, hk, hxy, _, hxl, hf⟩ := DataW.trod_struct Try.underlying52 h2
  match xs, hxl, cs, hlen with
  | [y0, y1, y2, y3, y4], _, [v0, v1, v2, v3, v4], _ =>
    have g0 := hf 0 _ rfl
    have g1 := hf 1 _ rfl
    have g2 := hf 2 _ rfl
    have g3 := hf 3 _ rfl
    have g4 := hf 4 _ rfl
    simp [cellsS, cellsBoolD] at g0 g1 g2 g3 g4
    have c0 := hc 0 (by omega)
    have c1 := hc 1 (by omega)
    have c2 := hc 2 (by omega)
    have c3 := hc 3 (by omega)
    have c4 := hc 4 (by omega)
    rw [Deep.add_add] at c0 c1 c2 c3 c4
    simp at c0 c1 c2 c3 c4
    obtain ⟨s0, e0, d0, -⟩ := DataW.trod_string Try.underlying9 g0
    obtain ⟨s1, e1, d1, -⟩ := DataW.trod_string Try.underlying9 g1
    obtain ⟨s2, e2, d2, -⟩ := DataW.trod_string Try.underlying9 g2
    obtain ⟨s3, e3, -⟩ := DataW.trod_bool Try.underlying4 g3
    obtain ⟨s4, e4, -⟩ := DataW.trod_bool Try.underlying4 g4
    simp at e0 e1 e2 e3 e4
    subst e0 e1 e2 e3 e4
    subst d0 d1 d2
    refine ⟨(s0.data.toList, (s1.data.toList, (s2.data.toList, (s3, s4)))), fun j u hu => ?_, ?_, ?_⟩
    · match j, hu with
      | 0, hu => simp [ch5C, dstrB_of] at hu; subst hu; simpa using c0
      | 1, hu => simp [ch5C, dstrB_of] at hu; subst hu; simpa using c1
      | 2, hu => simp [ch5C, dstrB_of] at hu; subst hu; simpa using c2
      | 3, hu => simp [ch5C] at hu; subst hu; simpa using c3
      | 4, hu => simp [ch5C] at hu; subst hu; simpa using c4
    · rw [hxy]
      simp [DataW.weights, DataW.weightsEach, Try.underlying52]
    · rw [hxy]
      simp [DataW.weights, DataW.weightsEach, Try.underlying52]
set_option maxRecDepth 100000 in
theorem open_changes {H : Type} {enc : TypeId × Value → H} {W : World} {b0 : Nat} {v : Value} {d : DataW H} {ps : List MemPlace} (hval : Value.okWide Try.prog W .any b0 24 v) (h : DataW.Trod enc Try.prog W 0 (fun _ => true) true 24 v d ps) :
    ∃ os : List Ch5, Ls W.heap.size W 5 ch5C v os ∧ (∀ o ∈ os, o.1.length ∈ d.weights Try.prog 24 ∧ o.2.2.1.length ∈ d.weights Try.prog 24) ∧ (os = [] ∨ ∃ N ∈ d.weights Try.prog 24, os.length * 56 ≤ N) := by
  obtain ⟨a, len, cap, rfl⟩ := okWide_slice Try.underlying24 hval
  obtain ⟨fuel, hf⟩ := h
  rcases Deep.open_slice Try.underlying24 hf with ⟨hcs, hx⟩ | ⟨x, len', cap', m, n, D, Pl, hcs, _, hl, hm, hmm, hx, hcell⟩
  · simp [Value.cells] at hcs
    obtain ⟨rfl, rfl, rfl⟩ := hcs
    exact ⟨[], Ls.nil _ _ _ _, by simp, .inl rfl⟩
  · simp [Value.cells] at hcs
    obtain ⟨rfl, rfl, rfl⟩ := hcs
    injection hx with hd _
    have hmc : m = cap := by simpa using hmm
    rw [cellsChange] at hcell
    obtain ⟨os, hll, hp⟩ := choose_list (p := fun i (o : Ch5) => (∀ j u, (ch5C o)[j]? = some u → W.cell? (x.add (i * 5 + j)) = some u) ∧ o.1.length ∈ (D i).weights Try.prog 52 ∧ o.2.2.1.length ∈ (D i).weights Try.prog 52) len (fun i hi => by
      obtain ⟨cs, h1, h2⟩ := hcell i (by omega)
      exact open_Change1 h1 h2)
    refine ⟨os, ⟨some x, cap, by rw [hll], by omega, hm, fun hne => ?_⟩, fun o ho => ?_, .inr ?_⟩
    · have hpos : 0 < os.length := List.length_pos_iff.2 hne
      obtain ⟨b, off, spot⟩ := x
      have hc := (hp 0 hpos).1 0 _ rfl
      have hspot : spot = none := by simpa [Addr.add] using World.cell?_spot hc
      subst hspot
      refine ⟨b, off, rfl, ?_, fun j hj i u hu => ?_⟩
      · have := block_lt hc
        rw [Addr.add_lit] at this
        exact this
      · have := (hp j hj).1 i u hu
        rw [Addr.add_lit] at this
        rw [Nat.add_assoc]
        exact this
    · obtain ⟨j, hj, rfl⟩ := List.getElem_of_mem ho
      rw [hd]
      simp only [DataW.weights, Try.underlying24, List.mem_cons, List.mem_append]
      have hmem : D j ∈ (List.range len).map D := List.mem_map.2 ⟨j, by simp; omega, rfl⟩
      exact ⟨.inr (.inl (weights_all (d := D j) hmem _ (hp j hj).2.1)), .inr (.inl (weights_all (d := D j) hmem _ (hp j hj).2.2))⟩
    · refine ⟨(((List.range len).map D).length + ((List.range (m - len)).map fun j => D (len + j)).length) * Try.prog.bytesOf 52, ?_, ?_⟩
      · rw [hd]
        simp [DataW.weights, Try.underlying24]
      · rw [bytesChange, hll]
        simp only [List.length_map, List.length_range]
        omega
theorem changes_le {H : Type} {ts : List TypeId} {ds : List (DataW H)} (hsz : (DataW.weightsEach Try.prog ts ds).all (· ≤ reachBytes) = true) {j : Nat} {d : DataW H} {os : List Ch5}
    (ht : ts[j]? = some 24) (hd : ds[j]? = some d) (h : ∀ o ∈ os, o.1.length ∈ d.weights Try.prog 24 ∧ o.2.2.1.length ∈ d.weights Try.prog 24) (h2 : os = [] ∨ ∃ N ∈ d.weights Try.prog 24, os.length * 56 ≤ N) :
    os.length * 56 ≤ 140737488351232 ∧ ∀ c ∈ os, c.1.length ≤ 140737488351232 ∧ c.2.2.1.length ≤ 140737488351232 := by
  have hin : ∀ n ∈ d.weights Try.prog 24, n ≤ 140737488351232 := fun n hn => by
    have := List.all_eq_true.1 hsz _ (DataW.weights_mem_each ht hd _ hn)
    simp only [reachBytes] at this
    exact of_decide_eq_true this
  refine ⟨?_, fun c hc => ⟨hin _ (h c hc).1, hin _ (h c hc).2⟩⟩
  rcases h2 with rfl | ⟨N, hN, hle⟩
  · simp
  · exact Nat.le_trans hle (hin N hN)
end Go.Proofs.Ytldfjpgcemfpjaa
