/-
  A script that came in, with how much it holds. No condition.
-/
import Derived.Test.YtlejgdjkdbamkaaDoorOps
namespace Go.Proofs.Ytlejgdjkdbamkaa
open Go.ChangeShapes Go.WideShapes Go.ChangeAt Go.RowKit

theorem bulk_one {H : Type} (d : DataW H) : 1 ≤ Rows.uptoBulk d := by
  cases d with
  | lit l => cases l <;> simp [Rows.uptoBulk]
  | nil => simp [Rows.uptoBulk]
  | ptr d => simp [Rows.uptoBulk]
  | slice elems spare => simp [Rows.uptoBulk]
  | agg parts => simp [Rows.uptoBulk]
  | iface t d => simp [Rows.uptoBulk]
  | map entries => simp [Rows.uptoBulk]
  | held h => simp [Rows.uptoBulk]
theorem bulk_part {H : Type} {d : DataW H} {l : List (DataW H)} (h : d ∈ l) : Rows.uptoBulk d ≤ Rows.uptoBulkAll l := by
  induction l with
  | nil => cases h
  | cons x r ih =>
    simp only [Rows.uptoBulkAll]
    cases List.mem_cons.1 h with
    | inl e => subst e; omega
    | inr e => have := ih e; omega
theorem bulk_length {H : Type} (l : List (DataW H)) : l.length ≤ Rows.uptoBulkAll l := by
  induction l with
  | nil => simp [Rows.uptoBulkAll]
  | cons x r ih => have := bulk_one x; simp only [Rows.uptoBulkAll, List.length_cons]; omega
theorem bulk_bound {H : Type} {l : List (DataW H)} (hk : Rows.uptoSmall H l = true) : Rows.uptoBulkAll l ≤ 1048576 := of_decide_eq_true hk
theorem bulk_shape {H : Type} {d : DataW H} {l : List UInt8} (h : shapeB d l) : l.length ≤ Rows.uptoBulk d := by
  rcases h with ⟨_, rfl⟩ | ⟨elems, spare, rfl, he⟩
  · simp
  · have h3 := bulk_length elems
    simp only [Rows.uptoBulk]
    omega

set_option maxRecDepth 100000 in
theorem open_op2 {H : Type} {enc : TypeId × Value → H} {W : World} {x : Addr} {i n : Nat} {cs : List Value} {y : DataW H × List MemPlace} (h1 : W.cells? 0 (x.add (i * 6)) 6 = some cs)
    (h2 : DataW.trod enc Try.prog W 0 (fun _ => true) true n 35 cs = some y) : ∃ o, OpCell W x i o ∧ o.name.length + o.to.length + o.b.length ≤ Rows.uptoBulk y.1 := by
  obtain ⟨_, hlen, hc⟩ := World.cells?_some h1
  obtain ⟨xs, k, hk, hxy, _, hxl, hf⟩ := DataW.trod_struct Try.underlying35 h2
  match xs, hxl, cs, hlen with
  | [y0, y1, y2, y3, y4, y5], _, [v0, v1, v2, v3, v4, v5], _ =>
    have g0 := hf 0 _ rfl
    have g1 := hf 1 _ rfl
    have g2 := hf 2 _ rfl
    have g3 := hf 3 _ rfl
    have g4 := hf 4 _ rfl
    have g5 := hf 5 _ rfl
    simp [cellsI, cellsB, cells9] at g0 g1 g2 g3 g4 g5
    have c0 := hc 0 (by omega)
    have c1 := hc 1 (by omega)
    have c2 := hc 2 (by omega)
    have c3 := hc 3 (by omega)
    have c4 := hc 4 (by omega)
    have c5 := hc 5 (by omega)
    rw [Deep.add_add] at c0 c1 c2 c3 c4 c5
    simp at c0 c1 c2 c3 c4 c5
    obtain ⟨n0, e0, -, w0⟩ := DataW.trod_int Try.underlying3 g0
    obtain ⟨s1, e1, d1, -⟩ := DataW.trod_string Try.underlying9 g1
    obtain ⟨s2, e2, d2, -⟩ := DataW.trod_string Try.underlying9 g2
    obtain ⟨l3, b3, d3⟩ := open_bytes_at g3
    obtain ⟨n4, e4, -, w4⟩ := DataW.trod_int Try.underlying3 g4
    obtain ⟨n5, e5, -, w5⟩ := DataW.trod_int Try.underlying3 g5
    simp at e0 e1 e2 e4 e5
    subst e0 e1 e2 e4 e5
    refine ⟨⟨n0, s1.data.toList, s2.data.toList, l3, n4, n5⟩, ⟨c0, by simpa [strB_of] using c1, by simpa [strB_of] using c2, ⟨v3, c3, b3⟩, c4, c5, i64_of w0, i64_of w4, i64_of w5⟩, ?_⟩
    have hb := bulk_shape d3
    subst d1 d2
    rw [hxy]
    simp only [List.map_cons, List.map_nil, Rows.uptoBulk, Rows.uptoBulkAll]
    omega
set_option maxRecDepth 100000 in
/-- A script that came in: its ops, and that none has more than the reading's bulk. -/
theorem open_script {H : Type} {enc : TypeId × Value → H} {W : World} {b0 : Nat} {v : Value} {d : DataW H} {ps : List MemPlace} (hval : Value.okWide Try.prog W .any b0 22 v) (h : DataW.Trod enc Try.prog W 0 (fun _ => true) true 22 v d ps) :
    ∃ os, Ob W.heap.size W v os ∧ shapeO d os ∧ ∀ o ∈ os, o.name.length + o.to.length + o.b.length ≤ Rows.uptoBulk d := by
  obtain ⟨a, len, cap, rfl⟩ := okWide_slice Try.underlying22 hval
  obtain ⟨fuel, hf⟩ := h
  rcases Deep.open_slice Try.underlying22 hf with ⟨hcs, hx⟩ | ⟨x, len', cap', m, n, D, Pl, hcs, _, hl, hm, hmm, hx, hcell⟩
  · simp [Value.cells] at hcs
    obtain ⟨rfl, rfl, rfl⟩ := hcs
    injection hx with hd _
    exact ⟨[], ⟨none, 0, rfl, by simp, by simp, fun h => absurd rfl h⟩, .inl ⟨hd, rfl⟩, by simp⟩
  · simp [Value.cells] at hcs
    obtain ⟨rfl, rfl, rfl⟩ := hcs
    injection hx with hd _
    have hmc : m = cap := by simpa using hmm
    rw [cellsOp] at hcell
    obtain ⟨os, hll, hp⟩ := choose_list (p := fun i o => OpCell W x i o ∧ o.name.length + o.to.length + o.b.length ≤ Rows.uptoBulk (D i)) len (fun i hi => by
      obtain ⟨cs, h1, h2⟩ := hcell i (by omega)
      exact open_op2 h1 h2)
    refine ⟨os, ⟨some x, cap, by rw [hll], by omega, hm, fun hne => ?_⟩, .inr ⟨_, _, hd, by simp [hll]⟩, fun o ho => ?_⟩
    · have hpos : 0 < os.length := List.length_pos_iff.2 hne
      obtain ⟨b, off, spot⟩ := x
      have hc := (hp 0 hpos).1.1
      have hspot : spot = none := by simpa [Addr.add] using World.cell?_spot hc
      subst hspot
      refine ⟨b, off, rfl, ?_, fun j hj => (hp j hj).1.at⟩
      have := block_lt hc
      rw [Addr.add_lit] at this
      exact this
    · obtain ⟨j, hj, rfl⟩ := List.getElem_of_mem ho
      have h1 := (hp j hj).2
      have h2 : D j ∈ (List.range len).map D := List.mem_map.2 ⟨j, List.mem_range.2 (by omega), rfl⟩
      have h3 := bulk_part h2
      rw [hd]
      simp only [Rows.uptoBulk]
      omega
theorem script_up {H : Type} {l : List (DataW H)} (hk : Rows.uptoSmall H l = true) {d : DataW H} {os : List Oq} (h : d ∈ l) (ho : ∀ o ∈ os, o.name.length + o.to.length + o.b.length ≤ Rows.uptoBulk d) : ∀ o ∈ os, o.name.length ≤ 1048576 ∧ o.to.length ≤ 1048576 ∧ o.b.length ≤ 1048576 := by
  intro o hm
  have h1 := bulk_bound hk
  have h2 := bulk_part h
  have h3 := ho o hm
  omega
end Go.Proofs.Ytlejgdjkdbamkaa
