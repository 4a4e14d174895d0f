/-
  What came in, out of its reading: objects, texts. No condition.
-/
import Derived.Test.YtldfjpgcemfpjaaM6ORise
import Derived.Test.YtldfjpgcemfpjaaM19PRow
import Derived.OpenShut
import Derived.ShutString
import Derived.ChangeOld
import Derived.SizedLaws
import Derived.Deep.DeepHandedRow
import Derived.Deep.Slices
import Derived.Deep.Strs
import Derived.Lib.LaidTab
namespace Go.Proofs.Ytldfjpgcemfpjaa
open Go.ChangeShapes Go.WideShapes Go.ChangeAt Go.RowKit
open Go.ChangeMaps (open_string shut_string)

theorem dstrB_of (b : ByteArray) : strB b.data.toList = b := by
  unfold strB
  simp
theorem own : ownKnob Try.prog.godebug = none := by kernel_rfl
theorem laidOut : laidOutB Try.prog = true := by kernel_rfl
theorem block_lt {w : World} {p : Addr} {v : Value} (h : w.cell? p = some v) : p.block < w.heap.size := by
  rcases Nat.lt_or_ge p.block w.heap.size with h1 | h1
  · exact h1
  · unfold World.cell? at h
    rw [Array.getElem?_eq_none h1] at h
    simp at h
theorem choose_list {α : Type} {p : Nat → α → Prop} : ∀ n : Nat, (∀ i, i < n → ∃ a, p i a) → ∃ l : List α, l.length = n ∧ ∀ i (h : i < l.length), p i l[i]
  | 0, _ => ⟨[], rfl, fun i h => by simp at h⟩
  | n + 1, h => by
    obtain ⟨l, hl, hp⟩ := choose_list n (fun i hi => h i (by omega))
    obtain ⟨a, ha⟩ := h n (by omega)
    refine ⟨l ++ [a], by simp [hl], fun i hi => ?_⟩
    simp at hi
    by_cases hin : i < l.length
    · rw [List.getElem_append_left hin]; exact hp i hin
    · obtain rfl : i = n := by omega
      subst hl
      rw [List.getElem_append_right (by omega)]
      simpa using ha
theorem cellsS : Try.prog.cellsOf 9 = 1 := by kernel_rfl
theorem cellsObj : Try.prog.cellsOf 73 = 2 := by kernel_rfl
theorem weights_all {H : Type} {P : Program} {e : TypeId} : ∀ {ds : List (DataW H)} {d : DataW H}, d ∈ ds → ∀ n ∈ d.weights P e, n ∈ DataW.weightsAll P e ds
  | [], d, h, _, _ => by simp at h
  | x :: r, d, h, n, hn => by
    simp only [DataW.weightsAll, List.mem_append]
    rcases List.mem_cons.1 h with rfl | h
    · exact .inl hn
    · exact .inr (weights_all h n hn)
set_option maxRecDepth 100000 in
theorem open_Obj1 {H : Type} {enc : TypeId × Value → H} {W : World} {x : Addr} {i n : Nat} {cs : List Value} {y : DataW H × List MemPlace} (h1 : W.cells? 0 (x.add (i * 2)) 2 = some cs)
    (h2 : DataW.trod enc Try.prog W 0 (fun _ => true) true n 73 cs = some y) : ∃ p : Pair, (∀ j u, (pairC p)[j]? = some u → W.cell? (x.add (i * 2 + j)) = some u) ∧ p.2.length ∈ y.1.weights Try.prog 73 := by
  obtain ⟨_, hlen, hc⟩ := World.cells?_some h1
  obtain ⟨xs, k, hk, hxy, _, hxl, hf⟩ := DataW.trod_struct Try.underlying73 h2
  match xs, hxl, cs, hlen with
  | [y0, y1], _, [v0, v1], _ =>
    have g0 := hf 0 _ rfl
    have g1 := hf 1 _ rfl
    simp [cellsS] at g0 g1
    have c0 := hc 0 (by omega)
    have c1 := hc 1 (by omega)
    rw [Deep.add_add] at c0 c1
    simp at c0 c1
    obtain ⟨s0, e0, d0, -⟩ := DataW.trod_string Try.underlying9 g0
    obtain ⟨s1, e1, d1, -⟩ := DataW.trod_string Try.underlying9 g1
    simp at e0 e1
    subst e0 e1
    subst d0 d1
    refine ⟨(s0.data.toList, s1.data.toList), fun j u hu => ?_, ?_⟩
    · match j, hu with
      | 0, hu => simp [pairC, dstrB_of] at hu; subst hu; simpa using c0
      | 1, hu => simp [pairC, dstrB_of] at hu; subst hu; simpa using c1
    · rw [hxy]
      simp [DataW.weights, DataW.weightsEach, Try.underlying73]
set_option maxRecDepth 100000 in
theorem open_objs {H : Type} {enc : TypeId × Value → H} {W : World} {b0 : Nat} {v : Value} {d : DataW H} {ps : List MemPlace} (hval : Value.okWide Try.prog W .any b0 22 v) (h : DataW.Trod enc Try.prog W 0 (fun _ => true) true 22 v d ps) :
    ∃ os : List Pair, Ls W.heap.size W 2 pairC v os ∧ ∀ o ∈ os, o.2.length ∈ d.weights Try.prog 22 := by
  obtain ⟨a, len, cap, rfl⟩ := okWide_slice Try.underlying22 hval
  obtain ⟨fuel, hf⟩ := h
  rcases Deep.open_slice Try.underlying22 hf with ⟨hcs, hx⟩ | ⟨x, len', cap', m, n, D, Pl, hcs, _, hl, hm, hmm, hx, hcell⟩
  · simp [Value.cells] at hcs
    obtain ⟨rfl, rfl, rfl⟩ := hcs
    exact ⟨[], Ls.nil _ _ _ _, by simp⟩
  · simp [Value.cells] at hcs
    obtain ⟨rfl, rfl, rfl⟩ := hcs
    injection hx with hd _
    have hmc : m = cap := by simpa using hmm
    rw [cellsObj] at hcell
    obtain ⟨os, hll, hp⟩ := choose_list (p := fun i (o : Pair) => (∀ j u, (pairC o)[j]? = some u → W.cell? (x.add (i * 2 + j)) = some u) ∧ o.2.length ∈ (D i).weights Try.prog 73) len (fun i hi => by
      obtain ⟨cs, h1, h2⟩ := hcell i (by omega)
      exact open_Obj1 h1 h2)
    refine ⟨os, ⟨some x, cap, by rw [hll], by omega, hm, fun hne => ?_⟩, fun o ho => ?_⟩
    · have hpos : 0 < os.length := List.length_pos_iff.2 hne
      obtain ⟨b, off, spot⟩ := x
      have hc := (hp 0 hpos).1 0 _ rfl
      have hspot : spot = none := by simpa [Addr.add] using World.cell?_spot hc
      subst hspot
      refine ⟨b, off, rfl, ?_, fun j hj i u hu => ?_⟩
      · have := block_lt hc
        rw [Addr.add_lit] at this
        exact this
      · have := (hp j hj).1 i u hu
        rw [Addr.add_lit] at this
        rw [Nat.add_assoc]
        exact this
    · obtain ⟨j, hj, rfl⟩ := List.getElem_of_mem ho
      rw [hd]
      simp only [DataW.weights, Try.underlying22, List.mem_cons, List.mem_append]
      refine .inr (.inl (weights_all (d := D j) ?_ _ (hp j hj).2))
      exact List.mem_map.2 ⟨j, by simp; omega, rfl⟩
theorem objs_le {H : Type} {ts : List TypeId} {ds : List (DataW H)} (hsz : (DataW.weightsEach Try.prog ts ds).all (· ≤ reachBytes) = true) {j : Nat} {d : DataW H} {os : List Pair}
    (ht : ts[j]? = some 22) (hd : ds[j]? = some d) (h : ∀ o ∈ os, o.2.length ∈ d.weights Try.prog 22) : ∀ o ∈ os, o.2.length ≤ 140737488351232 := by
  intro o ho
  have := List.all_eq_true.1 hsz _ (DataW.weights_mem_each ht hd _ (h o ho))
  simp only [reachBytes] at this
  exact of_decide_eq_true this
end Go.Proofs.Ytldfjpgcemfpjaa
