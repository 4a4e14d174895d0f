/-
  Texts, made and read by the reference. Conditions: lengths within reach.
-/
import Derived.Test.YtldfjpgcemfpjaaM13ORTakeF
namespace Go.Proofs.Ytldfjpgcemfpjaa
open Go.RowKit
variable {N : Nat}

theorem rtext_any (w : World) (s : Bs) (h : s.length ≤ 140737488355318) : Calls Try.prog 41 #[.string (strB s)] w fun e w' => ∃ v, e = .returned v ∧ Ow w.heap.size w' v (txt s) ∧ Below w.heap.size w w' := by
  have hT := refText_any w (strB s) (by rw [strB_size]; exact h)
  rw [strB_list] at hT
  go_enter Try.func41, Try.ntmps41
  go_wp2_with fail
  refine hT.mono ?_
  rintro e w1 ⟨v, rfl, hown, hb⟩
  have HO := hide hown
  obtain ⟨a, c, rfl, -⟩ := own_form hown
  clear hown
  go_wp2
  go_ret
  exact ⟨_, rfl, HO.out, hb⟩
theorem txt_pos (t : Bs) : 1 ≤ (txt t).length ∧ (txt t).length ≤ 10 + t.length := by
  have := num_length (t.length : Int)
  unfold txt
  rw [List.length_append]
  omega
set_option maxRecDepth 20000 in
theorem rtakeText_any (w : World) (g : Nat) (l : Bs) (s : Pos) (most : Int) (h : Rr N w g l s) (hl : l.length ≤ 140737488351232) :
    Calls Try.prog 72 #[.pointer (some ⟨g, 0, none⟩), .int .i64 most] w fun e w' => e = .returned (.string (strB (rT l most s).1)) ∧ Rr N w' g l (rT l most s).2 ∧ w.grownBy w' (some g) := by
  have hR := h
  obtain ⟨v, p, h1, h2, h3⟩ := h
  have c0 := rc (i := 0) h1 rfl
  have c1 := rc (i := 1) h1 rfl
  have c2 := rc (i := 2) h1 rfl
  cases s with
  | none =>
    simp only [Option.isNone_none] at c2
    rw [show rT l most none = ([], none) from rfl]
    go_enter Try.func72, Try.ntmps72
    go_wp2
    go_ret
    exact ⟨rfl, hR, gb_refl _ _⟩
  | some a =>
    simp only [Option.isNone_some] at c2 h1
    obtain ⟨rfl, ha⟩ := h3 a rfl
    have hs := h2 w.drew (und_gb (lt_of_heap h1) (gb_drew _ _))
    have hT := refText_take w.drew v l a most hs hl
    have hd : w.drew.heap[g]? = some (.cells #[v, .int .i64 (a : Int), .bool false] 143) := h1
    have HD := hide hd
    have H2 := hide h2
    have hlt := lt_of_heap h1
    clear hd h2 hR h3 h1
    cases ht : takeT l (a : Int) most with
    | none =>
      have hr : rT l most (some a) = ([], none) := by simp only [rT]; rw [ht]
      rw [hr]
      rw [ht] at hT
      simp only [tkT] at hT
      clear ht hr
      go_enter Try.func72, Try.ntmps72
      go_wp2_with fail
      refine wp_region_held_drew (S := fun W => W.cell? ⟨g, 0, none⟩ = some v ∧ W.cell? ⟨g, 1, none⟩ = some (.int .i64 (a : Int))) (by kernel_rfl) (⟨c0, c1⟩) (fun hHeld => ?_)
      refine takeK 0 hHeld ?_
      refine takeK 1 hHeld ?_
      refine takeK 2 hHeld ?_
      refine takeK 3 hHeld ?_
      refine takeK 4 hHeld ?_
      refine takeK 5 hHeld ?_
      refine takeK 6 hHeld ?_
      refine takeK 7 hHeld ?_
      refine takeK 8 hHeld ?_
      refine onlyH (i := 9) rfl (by kernel_rfl) rfl (fun K hK => ?_)
      go_simp
      refine hT.mono ?_
      rintro e w1 ⟨rfl, hb1⟩
      have h5 := (hb1.block g hlt).trans HD.out
      have d0 := rc (i := 0) h5 rfl
      have d1 := rc (i := 1) h5 rfl
      have d2 := rc (i := 2) h5 rfl
      have f2 := frozen0 (j := 2) h5
      have h6 := heap_set3b (u2 := .bool true) h5
      have f1 := frozen0 (j := 1) h6
      have k1 := rc (i := 1) h6 rfl
      refine hK.out _ _ (⟨d0, d1⟩) (fun hHeld => ?_)
      clear hK K
      try simp only [Act.put, List.setIfInBounds_toArray, List.set_cons_zero, List.set_cons_succ]
      refine takeK 10 hHeld ?_
      refine takeK 11 hHeld ?_
      refine takeK 12 hHeld ?_
      refine takeK 13 hHeld ?_
      refine takeK 14 hHeld ?_
      refine takeK 15 hHeld ?_
      refine takeK 16 hHeld ?_
      refine wpAnyH_done (by kernel_rfl) ?_ _
      clear hHeld
      go_wp2
      go_ret
      have hg : w.grownBy w1 (some g) := gb_trans (gb_drew _ _) (gb_below hb1)
      have hg2 := gb_trans (gb_trans hg (gb_set w1 g 2 (.bool true))) (gb_set _ g 1 (.int .i64 0))
      exact ⟨rfl, ⟨v, _, heap_set3 h6, fun w' hu => H2.out w' (und_trans (und_gb hlt hg2) hu), fun b hb => by cases hb⟩, hg2⟩
    | some x =>
      obtain ⟨n, q⟩ := x
      have hr : rT l most (some a) = (n, some q) := by simp only [rT]; rw [ht]
      have hq := (takeT_sound ht).2.2.1
      rw [hr]
      rw [ht] at hT
      simp only [tkT] at hT
      clear ht hr
      go_enter Try.func72, Try.ntmps72
      go_wp2_with fail
      refine wp_region_held_drew (S := fun W => W.cell? ⟨g, 0, none⟩ = some v ∧ W.cell? ⟨g, 1, none⟩ = some (.int .i64 (a : Int))) (by kernel_rfl) (⟨c0, c1⟩) (fun hHeld => ?_)
      refine takeK 0 hHeld ?_
      refine takeK 1 hHeld ?_
      refine takeK 2 hHeld ?_
      refine takeK 3 hHeld ?_
      refine takeK 4 hHeld ?_
      refine takeK 5 hHeld ?_
      refine takeK 6 hHeld ?_
      refine takeK 7 hHeld ?_
      refine takeK 8 hHeld ?_
      refine onlyH (i := 9) rfl (by kernel_rfl) rfl (fun K hK => ?_)
      go_simp
      refine hT.mono ?_
      rintro e w1 ⟨rfl, hb1⟩
      have h5 := (hb1.block g hlt).trans HD.out
      have d0 := rc (i := 0) h5 rfl
      have d1 := rc (i := 1) h5 rfl
      have d2 := rc (i := 2) h5 rfl
      have f2 := frozen0 (j := 2) h5
      have h6 := heap_set3b (u2 := .bool false) h5
      have f1 := frozen0 (j := 1) h6
      have k1 := rc (i := 1) h6 rfl
      refine hK.out _ _ (⟨d0, d1⟩) (fun hHeld => ?_)
      clear hK K
      try simp only [Act.put, List.setIfInBounds_toArray, List.set_cons_zero, List.set_cons_succ]
      refine takeK 10 hHeld ?_
      refine takeK 11 hHeld ?_
      refine takeK 12 hHeld ?_
      refine takeK 13 hHeld ?_
      refine takeK 14 hHeld ?_
      refine takeK 15 hHeld ?_
      refine takeK 16 hHeld ?_
      refine wpAnyH_done (by kernel_rfl) ?_ _
      clear hHeld
      go_wp2
      go_ret
      have hg : w.grownBy w1 (some g) := gb_trans (gb_drew _ _) (gb_below hb1)
      have hg2 := gb_trans (gb_trans hg (gb_set w1 g 2 (.bool false))) (gb_set _ g 1 (.int .i64 (q : Int)))
      exact ⟨rfl, ⟨v, _, heap_set3 h6, fun w' hu => H2.out w' (und_trans (und_gb hlt hg2) hu), fun b hb => by injection hb with hb; subst hb; exact ⟨rfl, hq⟩⟩, hg2⟩
/-- As the reference reads a leaf, a branch, a commit. -/
def hLeaf (l : Bs) : Pos → List Pair × Pos := rL l 64 (rPair l 64 128)
def hBranch (l : Bs) : Pos → Branch × Pos := rP (rI l) (rL l 64 (rLink l 64))
theorem rtakenLeaf (b : Bs) (hb : b.length ≤ 140737488355328) : rtaken 76 hLeaf (leafOk ltB) b = takenLeaf b := by
  refine Option.ext fun f => ?_
  rw [takenLeaf_iff _ (by omega), rtaken_iff (enc := leafB) (ok := fun f => ((f.length : Int) ≤ 64 ∧ ∀ p ∈ f, (p.1.length : Int) ≤ 64 ∧ (p.2.length : Int) ≤ 128)) (((fmT b 64 (by omega)).both (fmT b 128 (by omega))).many 64 (by omega)) (fun x hx => ?_) f]
  simp only [leafOk, isKeyB, Bool.and_eq_true, decide_eq_true_eq, List.all_eq_true] at hx
  exact ⟨by omega, fun p hp => by have := hx.1.2 p hp; omega⟩
theorem rtakenBranch (b : Bs) (hb : b.length ≤ 140737488355328) : rtaken 66 hBranch (branchOk ltB) b = takenBranch b := by
  refine Option.ext fun f => ?_
  rw [takenBranch_iff _ (by omega), rtaken_iff (enc := branchB) (ok := fun f => In64 f.1 ∧ ((f.2.length : Int) ≤ 64 ∧ ∀ p ∈ f.2, (p.1.length : Int) ≤ 64 ∧ p.2.1.length = 32 ∧ In64 p.2.2)) ((fmI b).both (((fmT b 64 (by omega)).both (fmPart b)).many 64 (by omega))) (fun x hx => ?_) f]
  simp only [branchOk, levelB, isIdB, isKeyB, Bool.and_eq_true, decide_eq_true_eq, List.all_eq_true] at hx
  obtain ⟨⟨⟨⟨h1, h2⟩, h3⟩, _⟩, h4⟩ := hx
  exact ⟨⟨by omega, by omega⟩, by omega, fun p hp => ⟨by have := (h3 p hp).1; omega, (h3 p hp).2, within_64 h4 (by omega) (by omega) _ (List.mem_map_of_mem (f := fun p : Link => p.2.2) hp)⟩⟩
end Go.Proofs.Ytldfjpgcemfpjaa
