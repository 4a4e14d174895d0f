/-
  What slices.Collect answers of an iterator's texts. Conditions: what the iterator owes; few texts.
-/
import Derived.Test.YtkihldkaiddbkabFew
namespace Go.Proofs.Ytkihldkaiddbkab
open Go.RowKit
attribute [local go_sem] Oper.semAt_some

/-- Texts as cells. -/
def tc (xs : List (List UInt8)) : List Value := xs.map fun x => .string (strB x)
theorem tc_length (xs : List (List UInt8)) : (tc xs).length = xs.length := by simp [tc]
theorem tc_get (xs : List (List UInt8)) (j : Nat) (h : j < xs.length) : (tc xs)[j]? = some (.string (strB xs[j])) := by simp [tc, h]
theorem Try.info9 : (Try.prog.info? 9).map (fun i => (i.zero, i.size, i.bytes)) = some (some (.string ⟨#[]⟩), 1, 16) := by kernel_rfl

theorem ts_of_own {w : World} {base : Nat} {v : Value} {xs : List (List UInt8)} (h : w.ownsRow base 9 1 v xs.length (tc xs)) : Ts w v xs := by
  obtain ⟨h1, h2⟩ := h
  rcases h2 with ⟨rfl, hn⟩ | ⟨g, cap, cur, rfl, hg, hh, hc, hm, hs, ht⟩
  · obtain rfl : xs = [] := List.eq_nil_of_length_eq_zero hn
    exact Ts.nil w
  · refine ⟨_, _, rfl, hc, hm, fun _ => ⟨g, 0, rfl, ?_, fun j hj => ?_⟩⟩
    · exact (Array.getElem?_eq_some_iff.1 hh).1
    · have := World.ownsRow.cells (w := w) (base := base) (e := 9) (size := 1) (v := .slice (some ⟨g, 0, none⟩) xs.length cap) (n := xs.length) (xs := tc xs) ⟨h1, Or.inr ⟨g, cap, cur, rfl, hg, hh, hc, hm, hs, ht⟩⟩ (g := g) rfl j _ (tc_get xs j hj)
      rw [Addr.add_lit] at this
      exact this

set_option maxRecDepth 100000 in
set_option maxHeartbeats 1000000 in
theorem appendSeq_any (w : World) (gf : Nat) (first lb : Array Value) (henter : ∀ args w, (callFunc gf args).run Try.prog w = .ok (.enter gf args) w) (xs : List (List UInt8)) (hx : xs.length ≤ 1000000)
    (hg : Gives Try.prog gf first lb (xs.map strB) w) :
    Calls Try.prog 31 #[.slice none 0 0, .func (.func gf) first lb] w fun e w' => ∃ v, e = .returned v ∧ w'.ownsRow w.heap.size 9 1 v xs.length (tc xs) ∧ Below w.heap.size w w' := by
  obtain ⟨i0, hi, hz0, hz1, hz2⟩ := info_parts Try.info9
  refine (callsIn_wide (n := 0)).1 ?_
  refine callsIn_of_wp_marks Try.func31 rfl trivial ?_ rfl
  simp only [Try.ntmps31, List.size_toArray, List.length_cons, List.length_nil, Nat.reduceAdd, Nat.reduceSub, Array.replicate_succ, Array.replicate_zero, List.push_toArray, List.append_toArray, List.nil_append, List.cons_append]
  gi_wp2
  have bO := Boxed.new w 22 (.slice none 0 0)
  have hB0 : Below w.heap.size w (w.alloc (.cells #[.slice none 0 0] 22)) := (Below.refl _ w).alloc (Nat.le_refl _) _
  refine wp_each (w0 := w) rfl henter hg hB0
    (fun k W => (∃ v, Boxed W w.heap.size 22 v ∧ W.ownsRow w.heap.size 9 1 v k (tc (xs.take k)) ∧ True) ∧ Below w.heap.size w W)
    (fun _ _ => False)
    (OwnFrom.and (Own.from (holdsRow_own w.heap.size w.heap.size 22 9 1 (fun k : Nat => k) (fun k => tc (xs.take k)) (fun _ _ => True)) _) (ownFrom_below (Nat.le_refl _) (by simp)))
    (fun _ _ _ _ hs _ _ => hs)
    ⟨⟨_, bO, World.ownsRow_nil _ _ _ _, trivial⟩, hB0⟩
    (fun x => { tmps := #[.slice none 0 0, .func (.func gf) first lb, .pointer (some ⟨w.heap.size, 0, none⟩), undef, .slice none 0 0, .string x, .func (.func gf) first lb, .string x, undef, undef, undef, undef, undef], defers := [] }) ?assign ?body ?all ?left
  case assign =>
    intro l x W K hK
    gi_wp2
    exact hK
  case body =>
    rintro l k W hk ⟨⟨v, hv, hrow, _⟩, hB⟩
    have hk' : k < xs.length := by simpa using hk
    rw [show (xs.map strB)[k] = strB xs[k] by simp]
    have htk : tc (xs.take k) ++ [.string (strB xs[k])] = tc (xs.take (k + 1)) := by
      have e : xs.take (k + 1) = xs.take k ++ [xs[k]] := by rw [List.take_add_one]; simp [hk']
      rw [e]
      unfold tc
      rw [List.map_append]
      rfl
    have hc := hv.cell
    gi_wp2_with (gi_at_builtin; refine wpListIn_append_own _ rfl _ _ 22 rfl w.heap.size 9 i0 (.string ⟨#[]⟩) 1 16 Try.underlying22 hi hz0 hz1 hz2 rfl (by decide) _ _ _ rfl (hrow.alloc _) ⟨W.heap.size, 0, none⟩ 1 1 [.string (strB xs[k])] rfl rfl (cell_one_new _ _ _) (by simp [Value.oneCell']) (by unfold maxLen; omega) (by omega) (by have := hB.size; simp; omega) ?_; intro v' w1 hown' hgrow _; obtain ⟨g', cap', rfl⟩ := ownsRow_succ hown'; obtain ⟨hv1, hv2, hr2, hk2, hb2⟩ := hv.appended (by decide) hrow hB.size (Nat.le_refl _) hown' hgrow; have hc1 := hv1.cell; have hf1 := hv1.frozen)
    exact ⟨hk2, hb2, ⟨_, hv2, by rw [← htk]; exact hr2, trivial⟩, hB.trans hb2⟩
  case all =>
    rintro D W hD ⟨⟨v, hv, hrow, _⟩, hB⟩ hK
    have hc := hv.cell
    gi_wp2
    refine ⟨by simp, .inl ⟨_, _, rfl, run_takeDeferred hK, ?_⟩⟩
    rw [show (xs.map strB).length = xs.length by simp, List.take_length] at hrow
    exact ⟨_, results_tmp rfl _ _ _, v, rfl, ownsRow_putObj hrow _ hK rfl, hB.trans (belowK_b (w := w) (Nat.le_refl _) W D _ _ (by simp at hD; omega) hK rfl rfl)⟩
  case left =>
    rintro D k W _ _ h _
    exact h.elim

set_option maxRecDepth 20000 in
theorem collect_any (w : World) (gf : Nat) (first lb : Array Value) (henter : ∀ args w, (callFunc gf args).run Try.prog w = .ok (.enter gf args) w) (xs : List (List UInt8)) (hx : xs.length ≤ 1000000)
    (hg : Gives Try.prog gf first lb (xs.map strB) w) :
    Calls Try.prog 19 #[.func (.func gf) first lb] w fun e w' => ∃ v, e = .returned v ∧ w'.ownsRow w.heap.size 9 1 v xs.length (tc xs) ∧ Below w.heap.size w w' := by
  go_enter Try.func19, Try.ntmps19
  go_wp2_with fail
  refine (appendSeq_any w gf first lb henter xs hx hg).mono ?_
  rintro e w' ⟨v, rfl, hv, hb⟩
  go_wp2
  go_ret
  exact ⟨v, rfl, hv, hb⟩
end Go.Proofs.Ytkihldkaiddbkab
