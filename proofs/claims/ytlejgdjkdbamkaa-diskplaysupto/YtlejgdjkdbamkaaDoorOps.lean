/-
  A script that came in, out of its reading. No condition.
-/
import Derived.Test.YtlejgdjkdbamkaaDoor
import Derived.Test.YtlejgdjkdbamkaaPlayed
namespace Go.Proofs.Ytlejgdjkdbamkaa
open Go.ChangeShapes Go.WideShapes Go.ChangeAt Go.RowKit

theorem cellsOp : Try.prog.cellsOf 35 = 6 := by kernel_rfl
theorem bytesOp : Try.prog.bytesOf 35 = 80 := by kernel_rfl
theorem cellsI : Try.prog.cellsOf 3 = 1 := by kernel_rfl
theorem cellsB : Try.prog.cellsOf 33 = 1 := by kernel_rfl
/-- How a script reads. -/
def shapeO {H : Type} (d : DataW H) (os : List Oq) : Prop := (d = .nil ∧ os = []) ∨ ∃ elems spare, d = .slice elems spare ∧ elems.length = os.length
/-- One op, its six cells from an address on. -/
def OpCell (W : World) (x : Addr) (i : Nat) (o : Oq) : Prop :=
  W.cell? (x.add (i * 6)) = some (.int .i64 o.kind) ∧ W.cell? (x.add (i * 6 + 1)) = some (.string (strB o.name)) ∧ W.cell? (x.add (i * 6 + 2)) = some (.string (strB o.to)) ∧ (∃ u, W.cell? (x.add (i * 6 + 3)) = some u ∧ Sb W.heap.size W u o.b) ∧
    W.cell? (x.add (i * 6 + 4)) = some (.int .i64 o.n) ∧ W.cell? (x.add (i * 6 + 5)) = some (.int .i64 o.torn) ∧ I64 o.kind ∧ I64 o.n ∧ I64 o.torn
theorem i64_of {n : Int} (h : (Lit.int .i64 n).wf = true) : I64 n := by
  have := bounds_i64 h
  unfold I64
  omega
set_option maxRecDepth 100000 in
theorem open_op {H : Type} {enc : TypeId × Value → H} {W : World} {x : Addr} {i n : Nat} {cs : List Value} {y : DataW H × List MemPlace} (h1 : W.cells? 0 (x.add (i * 6)) 6 = some cs)
    (h2 : DataW.trod enc Try.prog W 0 (fun _ => true) true n 35 cs = some y) : ∃ o, OpCell W x i o := by
  obtain ⟨_, hlen, hc⟩ := World.cells?_some h1
  obtain ⟨xs, k, hk, hxy, _, hxl, hf⟩ := DataW.trod_struct Try.underlying35 h2
  match xs, hxl, cs, hlen with
  | [y0, y1, y2, y3, y4, y5], _, [v0, v1, v2, v3, v4, v5], _ =>
    have g0 := hf 0 _ rfl
    have g1 := hf 1 _ rfl
    have g2 := hf 2 _ rfl
    have g3 := hf 3 _ rfl
    have g4 := hf 4 _ rfl
    have g5 := hf 5 _ rfl
    simp [cellsI, cellsB, cells9] at g0 g1 g2 g3 g4 g5
    have c0 := hc 0 (by omega)
    have c1 := hc 1 (by omega)
    have c2 := hc 2 (by omega)
    have c3 := hc 3 (by omega)
    have c4 := hc 4 (by omega)
    have c5 := hc 5 (by omega)
    rw [Deep.add_add] at c0 c1 c2 c3 c4 c5
    simp at c0 c1 c2 c3 c4 c5
    obtain ⟨n0, e0, -, w0⟩ := DataW.trod_int Try.underlying3 g0
    obtain ⟨s1, e1, -, -⟩ := DataW.trod_string Try.underlying9 g1
    obtain ⟨s2, e2, -, -⟩ := DataW.trod_string Try.underlying9 g2
    obtain ⟨l3, b3, -⟩ := open_bytes_at g3
    obtain ⟨n4, e4, -, w4⟩ := DataW.trod_int Try.underlying3 g4
    obtain ⟨n5, e5, -, w5⟩ := DataW.trod_int Try.underlying3 g5
    simp at e0 e1 e2 e4 e5
    subst e0 e1 e2 e4 e5
    exact ⟨⟨n0, s1.data.toList, s2.data.toList, l3, n4, n5⟩, c0, by simpa [strB_of] using c1, by simpa [strB_of] using c2, ⟨v3, c3, b3⟩, c4, c5, i64_of w0, i64_of w4, i64_of w5⟩
theorem OpCell.at {W : World} {b off i : Nat} {o : Oq} (h : OpCell W ⟨b, off, none⟩ i o) : OpAt W.heap.size W b (off + i * 6) o := by
  unfold OpCell at h
  simp only [Addr.add_lit] at h
  simpa only [OpAt, Nat.add_assoc] using h
set_option maxRecDepth 100000 in
/-- A script that came in. -/
theorem open_ops {H : Type} {enc : TypeId × Value → H} {W : World} {b0 : Nat} {v : Value} {d : DataW H} {ps : List MemPlace} (hval : Value.okWide Try.prog W .any b0 22 v) (h : DataW.Trod enc Try.prog W 0 (fun _ => true) true 22 v d ps) :
    ∃ os, Ob W.heap.size W v os ∧ shapeO d os := by
  obtain ⟨a, len, cap, rfl⟩ := okWide_slice Try.underlying22 hval
  obtain ⟨fuel, hf⟩ := h
  rcases Deep.open_slice Try.underlying22 hf with ⟨hcs, hx⟩ | ⟨x, len', cap', m, n, D, Pl, hcs, _, hl, hm, hmm, hx, hcell⟩
  · simp [Value.cells] at hcs
    obtain ⟨rfl, rfl, rfl⟩ := hcs
    injection hx with hd _
    exact ⟨[], ⟨none, 0, rfl, by simp, by simp, fun h => absurd rfl h⟩, .inl ⟨hd, rfl⟩⟩
  · simp [Value.cells] at hcs
    obtain ⟨rfl, rfl, rfl⟩ := hcs
    injection hx with hd _
    have hmc : m = cap := by simpa using hmm
    rw [cellsOp] at hcell
    obtain ⟨os, hll, hp⟩ := choose_list (p := fun i o => OpCell W x i o) len (fun i hi => by
      obtain ⟨cs, h1, h2⟩ := hcell i (by omega)
      exact open_op h1 h2)
    refine ⟨os, ⟨some x, cap, by rw [hll], by omega, hm, fun hne => ?_⟩, .inr ⟨_, _, hd, by simp [hll]⟩⟩
    have hpos : 0 < os.length := List.length_pos_iff.2 hne
    obtain ⟨b, off, spot⟩ := x
    have hc := (hp 0 hpos).1
    have hspot : spot = none := by simpa [Addr.add] using World.cell?_spot hc
    subst hspot
    refine ⟨b, off, rfl, ?_, fun j hj => (hp j hj).at⟩
    have := block_lt hc
    rw [Addr.add_lit] at this
    exact this
set_option maxRecDepth 100000 in
theorem ops_le {H : Type} {ts : List TypeId} {ds : List (DataW H)} (hsz : (DataW.weightsEach Try.prog ts ds).all (· ≤ reachBytes) = true) {j : Nat} {d : DataW H} {os : List Oq}
    (ht : ts[j]? = some 22) (hd : ds[j]? = some d) (h : shapeO d os) : os.length ≤ 140737488351232 := by
  rcases h with ⟨_, rfl⟩ | ⟨elems, spare, rfl, he⟩
  · simp
  · have := sized_slice hsz ht hd Try.underlying22
    rw [bytesOp] at this
    simp only [reachBytes] at this
    omega
end Go.Proofs.Ytlejgdjkdbamkaa
