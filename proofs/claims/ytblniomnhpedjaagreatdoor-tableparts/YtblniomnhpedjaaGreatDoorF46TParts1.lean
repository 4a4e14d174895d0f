/-
  A part of a slice of puts; what lies apart of a table. Conditions: the puts lie there.
-/
import Derived.Test.YtblniomnhpedjaaGreatDoorF45TPutsL
import Derived.Test.YtblniomnhpedjaaGreatDoorF33TBegun
import Derived.Test.YtblniomnhpedjaaGreatDoorF39TRCommit
namespace Go.Proofs.YtblniomnhpedjaaGreatDoor
open Go.RowKit

/-- A slice of a slice of puts, from a on, ahead of b. -/
def partV (ao : Option Addr) (a b cap : Nat) : Value := .slice (if cap = a then ao else ao.map (·.add (a * 3))) (b - a) (cap - a)
theorem Tryz.putsElem : Tryz.prog.underlying 27 = some (.slice (Tryz.prog.elem 27)) := by kernel_rfl
theorem Tryz.putsElemIs : Tryz.prog.elem 27 = 73 := by kernel_rfl
theorem Tryz.putCells : Tryz.prog.cellsOf 73 = 3 := by kernel_rfl
theorem run_part (W : World) (ao : Option Addr) (N cap a b : Nat) (h1 : a ≤ b) (h2 : b ≤ cap) : (Instr.slice 27 (.slice ao N cap) (some (.int .i64 (a : Int))) (some (.int .i64 (b : Int))) none).run Tryz.prog W = .ok (partV ao a b cap) W := by
  obtain ⟨i0, hi, hz0, hz1, hz2⟩ := info_parts Tryz.zPut
  rw [run_slice_lh W 27 ao N cap Tryz.putsElem .i64 .i64 _ _ (by omega) (by omega) (by omega), Tryz.putsElemIs, run_sizeOf W hi, Tryz.putCells]
  rfl
theorem run_rest (W : World) (ao : Option Addr) (N cap a : Nat) (h1 : a ≤ N) : (Instr.slice 27 (.slice ao N cap) (some (.int .i64 (a : Int))) none none).run Tryz.prog W = .ok (partV ao a N cap) W := by
  obtain ⟨i0, hi, hz0, hz1, hz2⟩ := info_parts Tryz.zPut
  rw [run_slice_l W 27 ao N cap Tryz.putsElem .i64 _ (by omega) (by omega), Tryz.putsElemIs, run_sizeOf W hi, Tryz.putCells]
  rfl
theorem PsT.part {w : World} {ao : Option Addr} {n cap : Nat} {l : List PutM} (h : PsT w (.slice ao n cap) l) {a b : Nat} (h1 : a ≤ b) (h2 : b ≤ l.length) : PsT w (partV ao a b cap) ((l.drop a).take (b - a)) := by
  obtain ⟨ao', cap', hv, g1, g2, g4⟩ := h
  injection hv with e1 e2 e3
  subst e1 e3
  have hl : ((l.drop a).take (b - a)).length = b - a := by rw [List.length_take, List.length_drop]; omega
  unfold partV
  refine ⟨_, cap - a, by rw [hl], by rw [hl]; omega, by omega, fun hne => ?_⟩
  have hlt : a < b := by
    rcases Nat.lt_or_ge a b with q | q
    · exact q
    · rw [show b - a = 0 by omega] at hne
      simp at hne
  obtain ⟨c, off, rfl, hc, hcc⟩ := g4 (by rintro rfl; simp at h2; omega)
  rw [if_neg (by omega)]
  refine ⟨c, off + a * 3, by rw [Option.map_some, Addr.add_lit], hc, fun j hj i u hu => ?_⟩
  rw [hl] at hj
  have := hcc (a + j) (by omega) i u (by simpa using hu)
  rwa [Nat.add_mul, ← Nat.add_assoc] at this
theorem apart_on {F F' O : Nat → Prop} {g t : Nat} {w w' : World} (h : ∀ k, O k → k < w.heap.size ∧ ¬ (F k ∨ k = g ∨ k = t)) (hf : ∀ k, F' k → F k ∨ w.heap.size ≤ k) (hs : w.heap.size ≤ w'.heap.size) : ∀ k, O k → k < w'.heap.size ∧ ¬ (F' k ∨ k = g ∨ k = t) := by
  intro k hk
  obtain ⟨h1, h2⟩ := h k hk
  refine ⟨by omega, fun e => ?_⟩
  rcases e with e | e
  · rcases hf k e with e | e
    · exact h2 (.inl e)
    · omega
  · exact h2 (.inr e)
theorem doneA_app (l : List Pair) (a b : List PutM) : doneA l (a ++ b) = doneA (doneA l a) b := by
  unfold doneA
  rw [List.foldl_append]
theorem take_part {α : Type} (l : List α) {a b : Nat} (h : a ≤ b) : l.take b = l.take a ++ (l.drop a).take (b - a) := by
  rw [← List.take_append_drop a (l.take b), List.take_take, Nat.min_eq_left h, List.drop_take]
theorem right_part {l : List PutM} (h : rightT l = true) (a b : Nat) : rightT ((l.drop a).take b) = true := by
  obtain ⟨h1, h2, h3⟩ := right_all h
  have hs : ((l.drop a).take b).Sublist l := (List.take_sublist _ _).trans (List.drop_sublist _ _)
  have hl := hs.length_le
  have ht : textT ((l.drop a).take b) ≤ textT l := by
    have e1 : textT l = textT (l.take a) + textT (l.drop a) := by rw [← textT_append, List.take_append_drop]
    have e2 : textT (l.drop a) = textT ((l.drop a).take b) + textT ((l.drop a).drop b) := by rw [← textT_append, List.take_append_drop]
    omega
  unfold rightT
  rw [decide_eq_true (show ((l.drop a).take b).length ≤ 2000 by omega), decide_eq_true (show textT ((l.drop a).take b) ≤ 1048576 by omega), List.all_eq_true.2 (fun p hp => List.all_eq_true.1 h2 p (hs.mem hp))]
  rfl
/-- Of few puts a table is never full. -/
theorem few_fit {ps : List PutM} (h : rightT ps = true) (hl : ps.length ≤ 120) (k : Nat) : fitT (doneA [] (ps.take k)) = true := by
  obtain ⟨h1, h2, h3⟩ := right_all h
  have hlen := doneA_take_len [] ps (min k ps.length) (Nat.min_le_right _ _)
  have htk : ps.take (min k ps.length) = ps.take k := by
    by_cases h : k ≤ ps.length
    · rw [Nat.min_eq_left h]
    · rw [Nat.min_eq_right (by omega), List.take_length, List.take_of_length_le (by omega)]
  rw [htk] at hlen
  have hw := weight_doneA (l := []) List.Pairwise.nil (ps.take k)
  have hb : burden (ps.take k) ≤ burden ps := burden_le ps k
  have hbt : burden ps ≤ 16 * ps.length + 6144 * ps.length := by
    clear hb hw htk hlen h1 h3 h hl
    induction ps with
    | nil => simp [burden]
    | cons p r ih =>
      rw [List.all_cons, Bool.and_eq_true] at h2
      have := ih h2.2
      have := putOk_len h2.1
      rw [burden_cons, List.length_cons]
      omega
  unfold fitT
  rw [decide_eq_true, decide_eq_true]
  · rfl
  · have : weightT ([] : List Pair) = 0 := rfl
    omega
  · simp at hlen ⊢
    omega
end Go.Proofs.YtblniomnhpedjaaGreatDoor
