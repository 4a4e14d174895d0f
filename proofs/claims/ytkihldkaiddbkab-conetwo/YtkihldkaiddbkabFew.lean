/-
  What fewNames answers of an iterator's texts. Conditions: what the iterator owes.
-/
import Derived.Test.YtkihldkaiddbkabSeq
namespace Go.Proofs.Ytkihldkaiddbkab
open Go.RowKit Go.Shelf
attribute [local go_sem] Oper.semAt_some

theorem few_true {xs : List (List UInt8)} (h : xs.length ≤ 16) (hn : ∀ j (hj : j < xs.length), Pt.name xs[j] = true) : Pt.few xs = true := by
  unfold Pt.few
  simp only [Bool.and_eq_true, decide_eq_true_eq, List.all_eq_true]
  refine ⟨h, fun p hp => ?_⟩
  obtain ⟨j, hj, rfl⟩ := List.getElem_of_mem hp
  exact hn j hj
theorem few_long {xs : List (List UInt8)} (h : 16 < xs.length) : Pt.few xs = false := by
  unfold Pt.few
  rw [decide_eq_false (by omega)]
  rfl
theorem few_bad {xs : List (List UInt8)} {j : Nat} (hj : j < xs.length) (h : Pt.name xs[j] = false) : Pt.few xs = false := by
  cases hf : Pt.few xs with
  | false => rfl
  | true => rw [Pt.few_all hf _ (List.getElem_mem hj)] at h; cases h

set_option maxRecDepth 100000 in
set_option maxHeartbeats 1000000 in
theorem few_any (w : World) (gf : Nat) (first lb : Array Value) (henter : ∀ args w, (callFunc gf args).run Try.prog w = .ok (.enter gf args) w) (xs : List (List UInt8)) (hx : xs.length ≤ 4611686018427387904)
    (hg : Gives Try.prog gf first lb (xs.map strB) w) :
    Calls Try.prog 24 #[.func (.func gf) first lb] w fun e w' => e = .returned (.bool (Pt.few xs)) ∧ Below w.heap.size w w' := by
  refine (callsIn_wide (n := 0)).1 ?_
  refine callsIn_of_wp_marks Try.func24 rfl trivial ?_ rfl
  simp only [Try.ntmps24, List.size_toArray, List.length_cons, List.length_nil, Nat.reduceAdd, Nat.reduceSub, Array.replicate_succ, Array.replicate_zero, List.push_toArray, List.append_toArray, List.nil_append, List.cons_append]
  gi_wp2
  have b0 := Boxed.new w 4 (.bool false)
  have b1 := Boxed.new (w.alloc (.cells #[.bool false] 4)) 3 (.int .i64 0)
  rw [World.size_alloc] at b1
  have b0' := b0.alloc (.cells #[.int .i64 0] 3)
  have hB0 : Below w.heap.size w ((w.alloc (.cells #[.bool false] 4)).alloc (.cells #[.int .i64 0] 3)) := ((Below.refl _ w).alloc (Nat.le_refl _) _).alloc (by simp) _
  refine wp_each (w0 := w) rfl henter hg hB0
    (fun k W => (k ≤ 16 ∧ (∀ j (hj : j < xs.length), j < k → Pt.name xs[j] = true)) ∧ (Boxed W w.heap.size 4 (.bool false) ∧ Boxed W (w.heap.size + 1) 3 (.int .i64 (k : Int))) ∧ Below w.heap.size w W)
    (fun _ W => Pt.few xs = false ∧ Boxed W w.heap.size 4 (.bool false) ∧ Below w.heap.size w W)
    (OwnFrom.and (ownFrom_pure _ _) (OwnFrom.and (Own.from (fun s A B row hs hg hr => ⟨boxed_own _ _ (fun _ => .bool false) s A B row hs.1 hg hr, boxed_own _ _ (fun k : Nat => .int .i64 (k : Int)) s A B row hs.2 hg hr⟩) _) (ownFrom_below (Nat.le_refl _) (by simp; omega))))
    (OwnFrom.and (ownFrom_pure _ _) (OwnFrom.and (Own.from (fun s A B row hs hg hr => boxed_own _ _ (fun _ => .bool false) s A B row hs hg hr) _) (ownFrom_below (Nat.le_refl _) (by simp; omega))))
    ⟨⟨by omega, fun _ _ h => by omega⟩, ⟨b0', b1⟩, hB0⟩
    (fun x => { tmps := #[.func (.func gf) first lb, undef, .pointer (some ⟨w.heap.size, 0, none⟩), .pointer (some ⟨w.heap.size + 1, 0, none⟩), .string x, .func (.func gf) first lb, .string x, undef, undef, undef, undef, undef, undef, undef, undef, undef], defers := [] }) ?assign ?body ?all ?left
  case assign =>
    intro l x W K hK
    gi_wp2
    exact hK
  case body =>
    rintro l k W hk ⟨⟨h16, hn⟩, ⟨b0, b1⟩, hB⟩
    have hk' : k < xs.length := by simpa using hk
    rw [show (xs.map strB)[k] = strB xs[k] by simp]
    have hc1 := b1.cell
    have hf1 := b1.frozen
    obtain ⟨W1, hW1⟩ : ∃ W1, W.setCell ⟨w.heap.size + 1, 0, none⟩ (.int .i64 ((k : Int) + 1)) = W1 := ⟨_, rfl⟩
    have b1' : Boxed W1 (w.heap.size + 1) 3 (.int .i64 ((k : Int) + 1)) := by rw [← hW1]; exact b1.set _
    have b0' : Boxed W1 w.heap.size 4 (.bool false) := by rw [← hW1]; exact b0.other (by omega) _
    have hB1 : Below w.heap.size W W1 := by rw [← hW1]; exact (Below.refl _ W).setCell (p := ⟨w.heap.size + 1, 0, none⟩) (Nat.le_succ _) _
    have hK1 : KeepsOthers W W1 := by rw [← hW1]; exact KeepsOthers.setCell _ _ _
    have hc0 := b0'.cell
    have hf0 := b0'.frozen
    have hc2 := b1'.cell
    by_cases hq : k = 16
    · have hfew : Pt.few xs = false := few_long (by omega)
      have hq2 : (16 : Int) < (k : Int) + 1 := by omega
      clear hq
      gi_wp2
      refine ⟨trivial, ?_⟩
      gi_wp2
      exact ⟨hK1.trans (KeepsOthers.setCell _ _ _), hfew, b0'.set _, (hB.trans hB1).setCell (p := ⟨w.heap.size, 0, none⟩) (Nat.le_refl _) _⟩
    · have hq2 : (k : Int) + 1 ≤ (16 : Int) := by omega
      have hc := isName_any W1 xs[k]
      cases hnm : Pt.name xs[k] with
      | false =>
        have hfew : Pt.few xs = false := few_bad hk' hnm
        rw [hnm] at hc
        clear hq
        gi_wp2
        refine ⟨trivial, rfl, (CallsIn.inRound l (callsIn_wide.2 hc)).mono ?_⟩
        rintro e W2 ⟨rfl, rfl⟩
        gi_wp2
        exact ⟨hK1.trans (KeepsOthers.setCell _ _ _), hfew, b0'.set _, (hB.trans hB1).setCell (p := ⟨w.heap.size, 0, none⟩) (Nat.le_refl _) _⟩
      | true =>
        rw [hnm] at hc
        clear hq
        gi_wp2
        refine ⟨trivial, rfl, (CallsIn.inRound l (callsIn_wide.2 hc)).mono ?_⟩
        rintro e W2 ⟨rfl, rfl⟩
        gi_wp2
        refine ⟨hK1, hB1, ⟨by omega, fun j hj hjk => ?_⟩, ⟨b0', by simpa using b1'⟩, hB.trans hB1⟩
        by_cases hjk' : j = k
        · subst hjk'; exact hnm
        · exact hn j hj (by omega)
  case all =>
    rintro D W hD ⟨⟨h16, hn⟩, ⟨b0, b1⟩, hB⟩ hK
    have hc0 := b0.cell
    have hf0 := b0.frozen
    have hl : (xs.map strB).length = xs.length := by simp
    have hfew : Pt.few xs = true := few_true (by omega) (fun j hj => hn j hj (by omega))
    gi_wp2
    have hK' := (KeepsOthers.setCell W ⟨w.heap.size, 0, none⟩ (.bool true)).same D _ hK rfl
    refine ⟨by simp, .inl ⟨_, _, rfl, run_takeDeferred hK', ?_⟩⟩
    have hc5 := ((b0.set (.bool true)).kept (grownBy_putObj' _ D (.deferred none)) (by simp at hD ⊢; omega)).cell
    refine ⟨.bool true, ?_, ret_bool hfew.symm, (hB.setCell (p := ⟨w.heap.size, 0, none⟩) (Nat.le_refl _) _).trans (belowK_b (w := w) (Nat.le_refl _) _ D _ _ (by simp at hD; omega) hK' rfl rfl)⟩
    simp [results, Try.f24, go_sem, hc5]
  case left =>
    rintro D k W hD hk ⟨hf, b0, hB⟩ hK
    gi_wp2
    refine ⟨by simp, .inl ⟨_, _, rfl, run_takeDeferred hK, ?_⟩⟩
    have hc5 := (b0.kept (grownBy_putObj' _ D (.deferred none)) (by simp at hD ⊢; omega)).cell
    refine ⟨.bool false, ?_, ret_bool hf.symm, hB.trans (belowK_b (w := w) (Nat.le_refl _) _ D _ _ (by simp at hD; omega) hK rfl rfl)⟩
    simp [results, Try.f24, go_sem, hc5]
end Go.Proofs.Ytkihldkaiddbkab
