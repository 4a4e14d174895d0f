/-
  Leaves, fans, branches made. Conditions: the table holds its numbers; lists lie there.
-/
import Derived.Test.YtdbmngbinhemeabGreatDoorROTop1
namespace Go.Proofs.YtdbmngbinhemeabGreatDoor
open Go.RowKit

theorem ls_one (w : World) (l : Bs) (n : Nat) (hn : n = w.heap.size) : Ls (w.alloc (.cells #[.string (strB l)] 9)).heap.size (w.alloc (.cells #[.string (strB l)] 9)) 1 idC (.slice (some ⟨n, 0, none⟩) 1 1) [l] := by
  subst hn
  refine ⟨_, 1, rfl, Nat.le_refl _, by unfold maxLen; omega, fun _ => ⟨w.heap.size, 0, rfl, by simp, fun j hj i u hu => ?_⟩⟩
  obtain rfl : j = 0 := by simpa using hj
  have hi : i = 0 := by
    have := (List.getElem?_eq_some_iff.1 hu).1
    simpa [idC] using this
  subst hi
  rw [cell_of_row _ _ _ _ _ _ (heap_last w _ _ rfl)]
  exact hu
theorem fanB_le {f : Fan} (h : fanOk f = true) : (fanB f).length ≤ 2000 ∧ f.2.length ≤ 32 ∧ In64 f.1 ∧ ∀ x ∈ f.2, In64 x.2 := by
  simp only [fanOk, levelB, isIdB, Bool.and_eq_true, decide_eq_true_eq, List.all_eq_true] at h
  obtain ⟨⟨⟨h1, h2⟩, h3⟩, h4⟩ := h
  have := listB_le partB 42 f.2 (fun x hx => by
    have h1 := h3 x hx
    have n1 := num_length x.2
    simp only [partB, List.length_append]
    omega)
  have n1 := num_length f.1
  have h5 : f.2.length * 42 ≤ 32 * 42 := Nat.mul_le_mul_right _ h2.2
  refine ⟨by unfold fanB; rw [List.length_append]; omega, h2.2, ⟨by omega, by omega⟩, fun x hx => within_64 h4 (by omega) (by omega) _ (List.mem_map_of_mem hx)⟩
theorem branchB_le {f : Branch} (h : branchOk ltB f = true) : (branchB f).length ≤ 20000 ∧ f.2.length ≤ 64 ∧ In64 f.1 ∧ ∀ x ∈ f.2, In64 x.2.2 := by
  simp only [branchOk, levelB, isIdB, isKeyB, Bool.and_eq_true, decide_eq_true_eq, List.all_eq_true] at h
  obtain ⟨⟨⟨⟨h1, h2⟩, h3⟩, _⟩, h4⟩ := h
  have := listB_le linkB 116 f.2 (fun x hx => by
    have h1 := h3 x hx
    have n1 := num_length x.2.2
    have n2 := num_length (x.1.length : Int)
    simp only [linkB, partB, txt, List.length_append]
    omega)
  have n1 := num_length f.1
  have h5 : f.2.length * 116 ≤ 64 * 116 := Nat.mul_le_mul_right _ h2.2
  refine ⟨by unfold branchB; rw [List.length_append]; omega, h2.2, ⟨by omega, by omega⟩, fun x hx => within_64 h4 (by omega) (by omega) _ (List.mem_map_of_mem (f := fun p : Link => p.2.2) hx)⟩

set_option maxRecDepth 20000 in
set_option maxHeartbeats 800000 in
theorem leaf_any (w : World) (f : List Pair) (v : Value) (hv : Ls w.heap.size w 2 pairC v f) (hT : TabW w) :
    Calls Tryz.prog 10 #[v] w fun e w' => e = .returned (made (leafOk ltB f) (76 :: leafB f)) ∧ Below w.heap.size w w' := by
  have h0 := hT.1
  have hv' := hv
  obtain ⟨ao, cap, rfl, g1, g2, -⟩ := hv'
  have hb0 : Below w.heap.size w (w.alloc (.cells #[.string ⟨#[]⟩, .string ⟨#[]⟩] 30)) := (Below.refl _ _).alloc (Nat.le_refl _) _
  have hx0 : (w.alloc (.cells #[.string ⟨#[]⟩, .string ⟨#[]⟩] 30)).heap[w.heap.size]? = some (.cells #[.string ⟨#[]⟩, .string ⟨#[]⟩] 30) := heap_last w _ _ rfl
  have hL0 := hv.alloc (.cells #[.string ⟨#[]⟩, .string ⟨#[]⟩] 30)
  have hn0 : w.heap.size + 1 = (w.alloc (.cells #[.string ⟨#[]⟩, .string ⟨#[]⟩] 30)).heap.size := by simp
  generalize hw0 : (w.alloc (.cells #[.string ⟨#[]⟩, .string ⟨#[]⟩] 30)) = w0 at *
  have hlr := leafRight_any w0 f _ hL0
  by_cases hok : leafOk ltB f = true
  · have hlen := leafB_le hok
    have hfl : f.length ≤ 64 := by simp only [leafOk, Bool.and_eq_true, decide_eq_true_eq] at hok; exact hok.1.1
    rw [hok] at hlr ⊢
    have hm : made true (76 :: leafB f) = .tuple #[objV (76 :: leafB f), .int .i64 0] := rfl
    rw [hm]
    have hob : ∀ (W : World) (g : Nat) (u : Value), W.cell? ⟨g, 0, none⟩ = some u → Sl W u (76 :: leafB f) → g < W.heap.size → TabW W → Calls Tryz.prog 22 #[.pointer (some ⟨g, 0, none⟩)] W fun e w' => e = .returned (objV (76 :: leafB f)) ∧ Below W.heap.size W w' := fun W g u h1 h2 h3 h4 => object_any W g u _ h1 h2 h3 h4 (by simp; omega)
    rw [objV_def] at hob ⊢
    generalize sha (76 :: leafB f) = S at *
    have HL0 := hide hL0
    clear hv hL0 hm
    skip
    skip
    skip
    go_enter Tryz.func10, Tryz.ntmps10
    go_wp2_with fail
    try rw [hw0]
    refine hlr.mono ?_
    rintro e w1 ⟨rfl, hb1⟩
    have hs1 := hb1.size
    have hL1 := HL0.out.past hb1
    have hx1 := (hb1.block _ (by omega)).trans hx0
    have hbA1 := hb0.trans (hb1.mono hb0.size)
    have hls := ls_one w1 [76] _ rfl
    have hbM : Below w1.heap.size w1 (w1.alloc (.cells #[.string (strB [76])] 9)) := (Below.refl _ _).alloc (Nat.le_refl _) _
    have hsM : (w1.alloc (.cells #[.string (strB [76])] 9)).heap.size = w1.heap.size + 1 := by simp
    have hLM := hL1.past hbM
    have hwr := write_any _ _ [[76]] hls (by simp)
    rw [show ([[76]] : List Bs).flatten = [76] from rfl] at hwr
    have HLM := hide hLM
    have HBM := hide (hbA1.trans (hbM.mono hbA1.size))
    have HXM := hide ((hbM.block _ (lt_of_heap hx1)).trans hx1)
    skip
    clear hlr hb1 hL1 hls hbM hLM
    go_wp2_with fail
    generalize hwM : w1.alloc (.cells #[.string (strB [76])] 9) = wM at *
    try rw [show (w1.alloc (.cells #[.string ⟨#[76]⟩] 9)) = wM from hwM]
    refine hwr.mono ?_
    rintro e w2 ⟨g, rfl, hW2, hb2⟩
    have hL2 := HLM.out.keep hb2
    have hx2 := (hb2.block _ (lt_of_heap HXM.out)).trans HXM.out
    skip
    skip
    skip
    skip
    have hbA2 := HBM.out.trans (hb2.mono HBM.out.size)
    have hsA := HBM.out.size
    have HW2 := hide hW2
    have HL2 := hide hL2
    have HBA2 := hide hbA2
    have HX2 := hide hx2
    clear hwr hb2 hW2 hL2 hbA2 hx2
    go_wp2_with fail
    refine (layPairs_any wM.heap.size w2 g [76] _ f HW2.out HL2.out (by omega) (by unfold leafB at hlen; simp only [List.length_cons, List.length_nil]; omega)).mono ?_
    rintro e w4 ⟨rfl, hW4, hb4, -⟩
    have e4 : [76] ++ listB pairB f = (76 :: leafB f) := rfl
    rw [e4] at hW4
    have hx4 := (hb4.block _ (by omega)).trans HX2.out
    have hbA4 := HBA2.out.trans (hb4.mono hsA)
    have hT4 := hT.keep hbA4 h0
    obtain ⟨u4, hc4, hsl4⟩ := hW4.sl
    have hg4 := hW4.lt
    have hb4s := hb4.size
    have hlt4 : w.heap.size < w4.heap.size := by have := lt_of_heap hx4; omega
    have HX4 := hide hx4
    have HBA4 := hide hbA4
    have hOB := hob w4 g u4 hc4 hsl4 hg4 hT4
    clear hW4 hb4 hx4 hbA4 hT4 e4 hob hc4 hsl4
    go_wp2_with fail
    refine hOB.mono ?_
    rintro e w5 ⟨rfl, hb5⟩
    have hx5 := (hb5.block _ (lt_of_heap HX4.out)).trans HX4.out
    have hbA5 := HBA4.out.trans (hb5.mono (Nat.le_of_lt hlt4))
    have c0 := cell_of_row w5 (w.heap.size) 0 _ _ _ hx5
    have c1 := cell_of_row w5 (w.heap.size) 1 _ _ _ hx5
    simp only [List.getElem?_toArray, List.getElem?_cons_zero, List.getElem?_cons_succ] at c0 c1
    have f0 := frozen0 (j := 0) hx5
    have f1 := frozen0 (j := 1) hx5
    clear hOB hb5
    go_wp2
    refine bodyPost_ret (results_cell_tmp_row rfl _ _ _ _ _ _ _ rfl (heap_set2 hx5) Tryz.underlying30 rfl Tryz.infoObj) rfl ⟨rfl, ?_⟩
    exact (hbA5.setCell (p := ⟨w.heap.size, 0, none⟩) (by simp) _).setCell (p := ⟨w.heap.size, 1, none⟩) (by simp) _
  · have hok := Bool.eq_false_iff.2 hok
    rw [hok] at hlr ⊢
    have hm : made false (76 :: leafB f) = .tuple #[.agg #[.string ⟨#[]⟩, .string ⟨#[]⟩], .int .i64 80] := rfl
    rw [hm]
    skip
    skip
    skip
    clear hv hL0 hm
    go_enter Tryz.func10, Tryz.ntmps10
    go_wp2_with fail
    try rw [hw0]
    refine hlr.mono ?_
    rintro e w1 ⟨rfl, hb1⟩
    have hx1 := (hb1.block _ (by omega)).trans hx0
    have hbA1 := hb0.trans (hb1.mono hb0.size)
    have c0 := cell_of_row w1 (w.heap.size) 0 _ _ _ hx1
    have c1 := cell_of_row w1 (w.heap.size) 1 _ _ _ hx1
    simp only [List.getElem?_toArray, List.getElem?_cons_zero, List.getElem?_cons_succ] at c0 c1
    have f0 := frozen0 (j := 0) hx1
    have f1 := frozen0 (j := 1) hx1
    clear hlr hb1
    go_wp2
    refine bodyPost_ret (results_cell_tmp_row rfl _ _ _ _ _ _ _ rfl (heap_set2 hx1) Tryz.underlying30 rfl Tryz.infoObj) rfl ⟨rfl, ?_⟩
    exact (hbA1.setCell (p := ⟨w.heap.size, 0, none⟩) (by simp) _).setCell (p := ⟨w.heap.size, 1, none⟩) (by simp) _

end Go.Proofs.YtdbmngbinhemeabGreatDoor
