/-
  What the statements' frames share: what came in out of its reading, the bounds of the form. No condition.
-/
import Derived.Test.YthhmjoafoahpbaaScript
import Derived.OpenShut
import Derived.ShutString
import Derived.ChangeOld
import Derived.SizedLaws
import Derived.LaidLaws
import Derived.Deep.DeepHandedRow
import Derived.Deep.Slices
import Derived.Deep.Strs
namespace Go.Proofs.Ythhmjoafoahpbaa
open Go.ChangeShapes Go.WideShapes Go.ChangeAt Go.RowKit

theorem own : ownKnob Try.prog.godebug = none := by kernel_rfl
theorem laidOut : laidOutB Try.prog = true := by kernel_rfl
theorem cells9 : Try.prog.cellsOf 9 = 1 := by kernel_rfl
theorem bytes9 : Try.prog.bytesOf 9 = 16 := by kernel_rfl
theorem cellsOp : Try.prog.cellsOf 30 = 4 := by kernel_rfl
theorem bytesOp : Try.prog.bytesOf 30 = 64 := by kernel_rfl
theorem cellsI : Try.prog.cellsOf 3 = 1 := by kernel_rfl
theorem cellsT : Try.prog.cellsOf 28 = 1 := by kernel_rfl
theorem block_lt {w : World} {p : Addr} {v : Value} (h : w.cell? p = some v) : p.block < w.heap.size := by
  rcases Nat.lt_or_ge p.block w.heap.size with h1 | h1
  · exact h1
  · unfold World.cell? at h
    rw [Array.getElem?_eq_none h1] at h
    simp at h
theorem text_le {H : Type} {ts : List TypeId} {ds : List (DataW H)} (hsz : (DataW.weightsEach Try.prog ts ds).all (· ≤ reachBytes) = true) {j : Nat} {s : ByteArray}
    (ht : ts[j]? = some 9) (hd : ds[j]? = some (.lit (.string s.data.toList))) : s.size ≤ 140737488351232 := by
  have := sized_string hsz ht hd
  simp only [reachBytes] at this
  simpa using this
theorem choose_list {α : Type} {p : Nat → α → Prop} : ∀ n : Nat, (∀ i, i < n → ∃ a, p i a) → ∃ l : List α, l.length = n ∧ ∀ i (h : i < l.length), p i l[i]
  | 0, _ => ⟨[], rfl, fun i h => by simp at h⟩
  | n + 1, h => by
    obtain ⟨l, hl, hp⟩ := choose_list n (fun i hi => h i (by omega))
    obtain ⟨a, ha⟩ := h n (by omega)
    refine ⟨l ++ [a], by simp [hl], fun i hi => ?_⟩
    simp at hi
    by_cases hin : i < l.length
    · rw [List.getElem_append_left hin]; exact hp i hin
    · obtain rfl : i = n := by omega
      subst hl
      rw [List.getElem_append_right (by omega)]
      simpa using ha
/-- How a slice of texts reads. -/
def shapeT {H : Type} (d : DataW H) (ls : List (List UInt8)) : Prop := (d = .nil ∧ ls = []) ∨ ∃ spare, d = .slice (ls.map fun l => .lit (.string l)) spare
set_option maxRecDepth 100000 in
/-- A slice of texts, out of its cell. -/
theorem open_texts_at {H : Type} {enc : TypeId × Value → H} {W : World} {v : Value} {d : DataW H} {ps : List MemPlace} {fuel : Nat} (h : DataW.trod enc Try.prog W 0 (fun _ => true) true fuel 28 [v] = some (d, ps)) :
    ∃ ls, Tb W.heap.size W v ls ∧ shapeT d ls := by
  rcases Deep.open_strs Try.underlying28 Try.underlying9 cells9 h with ⟨hcs, hx⟩ | ⟨x, len, cap, m, Sx, hcs, _, hl, hm, hmm, hx, hcell⟩
  · simp at hcs
    obtain rfl := hcs
    injection hx with hd _
    exact ⟨[], ⟨none, 0, rfl, by simp, by simp, fun h => absurd rfl h⟩, .inl ⟨hd, rfl⟩⟩
  · simp at hcs
    obtain rfl := hcs
    injection hx with hd _
    have hmc : m = cap := by simpa using hmm
    refine ⟨(List.range len).map fun i => (Sx i).data.toList, ⟨some x, cap, by simp, by simpa using hl, hm, fun hne => ?_⟩, .inr ⟨_, by rw [hd, List.map_map]; rfl⟩⟩
    have hpos : 0 < len := by
      rcases Nat.eq_zero_or_pos len with h0 | h0
      · exfalso; apply hne; subst h0; rfl
      · exact h0
    obtain ⟨b, off, spot⟩ := x
    have hc := (hcell 0 (by omega)).1
    have hspot : spot = none := by simpa [Addr.add] using World.cell?_spot hc
    subst hspot
    refine ⟨b, off, rfl, ?_, fun j hj => ?_⟩
    · have := block_lt hc
      rw [Addr.add_lit] at this
      exact this
    · have hj' : j < len := by simpa using hj
      have h1 := (hcell j (by omega)).1
      rw [Addr.add_lit] at h1
      rw [h1]
      simp [strB_of]
/-- One op, its four cells from an address on. -/
def OpCell (W : World) (x : Addr) (i : Nat) (o : Oq) : Prop :=
  W.cell? (x.add (i * 4)) = some (.int .i64 o.kind) ∧ W.cell? (x.add (i * 4 + 1)) = some (.string (strB o.key)) ∧ W.cell? (x.add (i * 4 + 2)) = some (.string (strB o.val)) ∧ (∃ u, W.cell? (x.add (i * 4 + 3)) = some u ∧ Tb W.heap.size W u o.keys) ∧ I64 o.kind
/-- How it reads. -/
def OpShape {H : Type} (d : DataW H) (o : Oq) : Prop := ∃ d0 d3, d = .agg [d0, .lit (.string o.key), .lit (.string o.val), d3] ∧ shapeT d3 o.keys
theorem i64_of {n : Int} (h : (Lit.int .i64 n).wf = true) : I64 n := by
  have := bounds_i64 h
  unfold I64
  omega
set_option maxRecDepth 100000 in
theorem open_op {H : Type} {enc : TypeId × Value → H} {W : World} {x : Addr} {i n : Nat} {cs : List Value} {y : DataW H × List MemPlace} (h1 : W.cells? 0 (x.add (i * 4)) 4 = some cs)
    (h2 : DataW.trod enc Try.prog W 0 (fun _ => true) true n 30 cs = some y) : ∃ o, OpCell W x i o ∧ OpShape y.1 o := by
  obtain ⟨_, hlen, hc⟩ := World.cells?_some h1
  obtain ⟨xs, k, hk, hxy, _, hxl, hf⟩ := DataW.trod_struct Try.underlying30 h2
  match xs, hxl, cs, hlen with
  | [y0, y1, y2, y3], _, [v0, v1, v2, v3], _ =>
    have g0 := hf 0 _ rfl
    have g1 := hf 1 _ rfl
    have g2 := hf 2 _ rfl
    have g3 := hf 3 _ rfl
    simp [cellsI, cellsT, cells9] at g0 g1 g2 g3
    have c0 := hc 0 (by omega)
    have c1 := hc 1 (by omega)
    have c2 := hc 2 (by omega)
    have c3 := hc 3 (by omega)
    rw [Deep.add_add] at c0 c1 c2 c3
    simp at c0 c1 c2 c3
    obtain ⟨n0, e0, -, w0⟩ := DataW.trod_int Try.underlying3 g0
    obtain ⟨s1, e1, q1, -⟩ := DataW.trod_string Try.underlying9 g1
    obtain ⟨s2, e2, q2, -⟩ := DataW.trod_string Try.underlying9 g2
    obtain ⟨l3, b3, q3⟩ := open_texts_at g3
    simp at e0 e1 e2
    subst e0 e1 e2
    refine ⟨⟨n0, s1.data.toList, s2.data.toList, l3⟩, ⟨c0, by simpa [strB_of] using c1, by simpa [strB_of] using c2, ⟨v3, c3, b3⟩, i64_of w0⟩, y0.1, y3.1, ?_, q3⟩
    subst q1 q2
    rw [hxy]
    rfl
theorem OpCell.at {W : World} {b off i : Nat} {o : Oq} (h : OpCell W ⟨b, off, none⟩ i o) : OpAt W.heap.size W b (off + i * 4) o := by
  unfold OpCell at h
  simp only [Addr.add_lit] at h
  simpa only [OpAt, Nat.add_assoc] using h
/-- How a script reads. -/
def shapeO {H : Type} (d : DataW H) (os : List Oq) : Prop := (d = .nil ∧ os = []) ∨ ∃ elems spare, d = .slice elems spare ∧ elems.length = os.length ∧ ∀ i (h1 : i < elems.length) (h2 : i < os.length), OpShape elems[i] os[i]
set_option maxRecDepth 100000 in
/-- A script that came in. -/
theorem open_ops {H : Type} {enc : TypeId × Value → H} {W : World} {b0 : Nat} {v : Value} {d : DataW H} {ps : List MemPlace} (hval : Value.okWide Try.prog W .any b0 22 v) (h : DataW.Trod enc Try.prog W 0 (fun _ => true) true 22 v d ps) :
    ∃ os, Ob W.heap.size W v os ∧ shapeO d os := by
  obtain ⟨a, len, cap, rfl⟩ := okWide_slice Try.underlying22 hval
  obtain ⟨fuel, hf⟩ := h
  rcases Deep.open_slice Try.underlying22 hf with ⟨hcs, hx⟩ | ⟨x, len', cap', m, n, D, Pl, hcs, _, hl, hm, hmm, hx, hcell⟩
  · simp [Value.cells] at hcs
    obtain ⟨rfl, rfl, rfl⟩ := hcs
    injection hx with hd _
    exact ⟨[], ⟨none, 0, rfl, by simp, by simp, fun h => absurd rfl h⟩, .inl ⟨hd, rfl⟩⟩
  · simp [Value.cells] at hcs
    obtain ⟨rfl, rfl, rfl⟩ := hcs
    injection hx with hd _
    have hmc : m = cap := by simpa using hmm
    rw [cellsOp] at hcell
    obtain ⟨os, hll, hp⟩ := choose_list (p := fun i o => OpCell W x i o ∧ OpShape (D i) o) len (fun i hi => by
      obtain ⟨cs, h1, h2⟩ := hcell i (by omega)
      exact open_op h1 h2)
    refine ⟨os, ⟨some x, cap, by rw [hll], by omega, hm, fun hne => ?_⟩, .inr ⟨_, _, hd, by simp [hll], fun i h1 h2 => ?_⟩⟩
    · have hpos : 0 < os.length := List.length_pos_iff.2 hne
      obtain ⟨b, off, spot⟩ := x
      have hc := (hp 0 hpos).1.1
      have hspot : spot = none := by simpa [Addr.add] using World.cell?_spot hc
      subst hspot
      refine ⟨b, off, rfl, ?_, fun j hj => (hp j hj).1.at⟩
      have := block_lt hc
      rw [Addr.add_lit] at this
      exact this
    · simp only [List.getElem_map, List.getElem_range]
      exact (hp i h2).2
theorem weights_all {H : Type} {P : Program} {e : TypeId} {l : List (DataW H)} {d : DataW H} (h : d ∈ l) {n : Nat} (hn : n ∈ d.weights P e) : n ∈ DataW.weightsAll P e l := by
  induction l with
  | nil => cases h
  | cons x r ih =>
    simp only [DataW.weightsAll, List.mem_append]
    rcases List.mem_cons.1 h with rfl | h
    · exact Or.inl hn
    · exact Or.inr (ih h)
set_option maxRecDepth 100000 in
theorem ops_le {H : Type} {ts : List TypeId} {ds : List (DataW H)} (hsz : (DataW.weightsEach Try.prog ts ds).all (· ≤ reachBytes) = true) {j : Nat} {d : DataW H} {os : List Oq}
    (ht : ts[j]? = some 22) (hd : ds[j]? = some d) (h : shapeO d os) : os.length ≤ 140737488351232 := by
  rcases h with ⟨_, rfl⟩ | ⟨elems, spare, rfl, he, _⟩
  · simp
  · have := sized_slice hsz ht hd Try.underlying22
    rw [bytesOp] at this
    simp only [reachBytes] at this
    omega
set_option maxRecDepth 100000 in
/-- No op of a script that came in has a text that is too long. -/
theorem ops_small {H : Type} {ts : List TypeId} {ds : List (DataW H)} (hsz : (DataW.weightsEach Try.prog ts ds).all (· ≤ reachBytes) = true) {j : Nat} {d : DataW H} {os : List Oq}
    (ht : ts[j]? = some 22) (hd : ds[j]? = some d) (h : shapeO d os) : Small os := by
  rcases h with ⟨_, rfl⟩ | ⟨elems, spare, rfl, he, hs⟩
  · intro o ho
    cases ho
  · intro o ho
    obtain ⟨i, hi, rfl⟩ := List.getElem_of_mem ho
    obtain ⟨d0, d3, hd0, h3⟩ := hs i (by omega) hi
    have hin : elems[i]'(by omega) ∈ elems := List.getElem_mem _
    have key : ∀ n, n ∈ DataW.weights Try.prog 30 (elems[i]'(by omega)) → n ≤ reachBytes := fun n hn => by
      have hm := DataW.weights_mem_each (P := Try.prog) ht hd n (by
        simp only [DataW.weights, Try.underlying22]
        exact List.mem_cons_of_mem _ (List.mem_append.2 (Or.inl (weights_all hin hn))))
      have := List.all_eq_true.1 hsz _ hm
      simpa using this
    rw [hd0] at key
    simp only [DataW.weights, Try.underlying30] at key
    have k1 := key os[i].key.length (by simp [DataW.weightsEach, DataW.weights])
    have k2 := key os[i].val.length (by simp [DataW.weightsEach, DataW.weights])
    refine ⟨⟨by simp only [reachBytes] at k1; simpa using k1, by simp only [reachBytes] at k2; simpa using k2⟩, ?_⟩
    rcases h3 with ⟨_, h3⟩ | ⟨sp, rfl⟩
    · rw [h3]
      simp
    · have k3 := key ((os[i].keys.length + sp.length) * Try.prog.bytesOf 9) (by simp [DataW.weightsEach, DataW.weights, Try.underlying28])
      rw [bytes9] at k3
      simp only [reachBytes] at k3
      omega
end Go.Proofs.Ythhmjoafoahpbaa
