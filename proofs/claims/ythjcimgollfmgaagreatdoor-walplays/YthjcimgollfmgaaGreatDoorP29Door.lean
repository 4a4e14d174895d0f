/-
  Texts joined: Door, Door5, Door8.
-/
import Derived.Test.YthjcimgollfmgaaGreatDoorCards
import Derived.Test.YthjcimgollfmgaaGreatDoorTie
import Derived.Test.YthjcimgollfmgaaGreatDoorP12WPut
import Derived.OpenShut
import Derived.ShutString
import Derived.ChangeOld
import Derived.SizedLaws
import Derived.Deep.DeepHandedRow
import Derived.Lib.LaidTab
import Derived.Deep.Slices
import Derived.Test.YthjcimgollfmgaaGreatDoorP23Args5
import Derived.Deep.Strs
/-
  What the statements' frames share: the table out of the row's list, what came in out of its reading. No condition.
-/
namespace Go.Proofs.YthjcimgollfmgaaGreatDoor
open Go.ChangeShapes Go.WideShapes Go.ChangeAt Go.RowKit

theorem own : ownKnob Tryz.prog.godebug = none := by kernel_rfl
theorem laidOut : laidOutB Tryz.prog = true := by kernel_rfl
theorem gTab : Tryz.prog.globalNamed "tussock/wire.crcSteps" = some 0 := by kernel_rfl
theorem gTabType : (Tryz.prog.globals[0]?).map (·.type) = some 164 := by kernel_rfl
theorem cellsTab : Tryz.prog.cellsOf 164 = 16 := by kernel_rfl
theorem cellsU : Tryz.prog.cellsOf 123 = 1 := by kernel_rfl
theorem block_lt {w : World} {p : Addr} {v : Value} (h : w.cell? p = some v) : p.block < w.heap.size := by
  rcases Nat.lt_or_ge p.block w.heap.size with h1 | h1
  · exact h1
  · unfold World.cell? at h
    rw [Array.getElem?_eq_none h1] at h
    simp at h
theorem table {W : World} (h : laidMetH Tryz.prog [("tussock/wire.crcSteps", Rows.laid_tussock_wire_crcSteps)] W) :
    Lib.TabIs Tryz.prog W "tussock/wire.crcSteps" .u32 [0, 498536548, 997073096, 651767980, 1994146192, 1802195444, 1303535960, 1342533948, 3988292384, 4027552580, 3604390888, 3412177804, 2607071920, 2262029012, 2685067896, 3183342108] :=
  Lib.tabIs_of_head (rest := []) gTab gTabType Tryz.underlying164 Tryz.underlying123 cellsU cellsTab h
theorem tabW {W : World} (h : laidMetH Tryz.prog [("tussock/wire.crcSteps", Rows.laid_tussock_wire_crcSteps)] W) : TabW W := by
  have hc : ∀ j, j < 16 → W.cell? ⟨0, j, none⟩ = some (.int .u32 ((tabL.getD j 0 : Nat) : Int)) := by
    intro j hj
    rw [(table h).cell gTab j (by simpa using hj)]
    have : ∀ j : Fin 16, ([0, 498536548, 997073096, 651767980, 1994146192, 1802195444, 1303535960, 1342533948, 3988292384, 4027552580, 3604390888, 3412177804, 2607071920, 2262029012, 2685067896, 3183342108] : List Int).getD j.val 0 = ((tabL.getD j.val 0 : Nat) : Int) := by decide +kernel
    rw [this ⟨j, hj⟩]
  exact ⟨block_lt (hc 0 (by omega)), hc⟩
theorem text_le {H : Type} {ts : List TypeId} {ds : List (DataW H)} (hsz : (DataW.weightsEach Tryz.prog ts ds).all (· ≤ reachBytes) = true) {j : Nat} {s : ByteArray}
    (ht : ts[j]? = some 9) (hd : ds[j]? = some (.lit (.string s.data.toList))) : s.size ≤ 140737488351232 := by
  have := sized_string hsz ht hd
  simp only [reachBytes] at this
  simpa using this
end Go.Proofs.YthjcimgollfmgaaGreatDoor

/-
  Calls and truths that came in, out of their reading. No condition.
-/
namespace Go.Proofs.YthjcimgollfmgaaGreatDoor
open Go.ChangeShapes Go.WideShapes Go.ChangeAt Go.RowKit

theorem cells9 : Tryz.prog.cellsOf 9 = 1 := by kernel_rfl
theorem bytes9 : Tryz.prog.bytesOf 9 = 16 := by kernel_rfl
theorem cellsOp : Tryz.prog.cellsOf 29 = 4 := by kernel_rfl
theorem bytesOp : Tryz.prog.bytesOf 29 = 48 := by kernel_rfl
theorem cellsI : Tryz.prog.cellsOf 3 = 1 := by kernel_rfl
theorem cellsT : Tryz.prog.cellsOf 27 = 1 := by kernel_rfl
theorem choose_list {α : Type} {p : Nat → α → Prop} : ∀ n : Nat, (∀ i, i < n → ∃ a, p i a) → ∃ l : List α, l.length = n ∧ ∀ i (h : i < l.length), p i l[i]
  | 0, _ => ⟨[], rfl, fun i h => by simp at h⟩
  | n + 1, h => by
    obtain ⟨l, hl, hp⟩ := choose_list n (fun i hi => h i (by omega))
    obtain ⟨a, ha⟩ := h n (by omega)
    refine ⟨l ++ [a], by simp [hl], fun i hi => ?_⟩
    simp at hi
    by_cases hin : i < l.length
    · rw [List.getElem_append_left hin]; exact hp i hin
    · obtain rfl : i = n := by omega
      subst hl
      rw [List.getElem_append_right (by omega)]
      simpa using ha
/-- How a slice of texts reads. -/
def shapeT {H : Type} (d : DataW H) (ls : List (List UInt8)) : Prop := (d = .nil ∧ ls = []) ∨ ∃ spare, d = .slice (ls.map fun l => .lit (.string l)) spare
set_option maxRecDepth 100000 in
/-- A slice of texts, out of its cell. -/
theorem open_texts_at {H : Type} {enc : TypeId × Value → H} {W : World} {v : Value} {d : DataW H} {ps : List MemPlace} {fuel : Nat} (h : DataW.trod enc Tryz.prog W 0 (fun _ => true) true fuel 27 [v] = some (d, ps)) :
    ∃ ls, Tb W.heap.size W v ls ∧ shapeT d ls := by
  rcases Deep.open_strs Tryz.underlying27 Tryz.underlying9 cells9 h with ⟨hcs, hx⟩ | ⟨x, len, cap, m, Sx, hcs, _, hl, hm, hmm, hx, hcell⟩
  · simp at hcs
    obtain rfl := hcs
    injection hx with hd _
    exact ⟨[], ⟨none, 0, rfl, by simp, by simp, fun h => absurd rfl h⟩, .inl ⟨hd, rfl⟩⟩
  · simp at hcs
    obtain rfl := hcs
    injection hx with hd _
    have hmc : m = cap := by simpa using hmm
    refine ⟨(List.range len).map fun i => (Sx i).data.toList, ⟨some x, cap, by simp, by simpa using hl, hm, fun hne => ?_⟩, .inr ⟨_, by rw [hd, List.map_map]; rfl⟩⟩
    have hpos : 0 < len := by
      rcases Nat.eq_zero_or_pos len with h0 | h0
      · exfalso; apply hne; subst h0; rfl
      · exact h0
    obtain ⟨b, off, spot⟩ := x
    have hc := (hcell 0 (by omega)).1
    have hspot : spot = none := by simpa [Addr.add] using World.cell?_spot hc
    subst hspot
    refine ⟨b, off, rfl, ?_, fun j hj => ?_⟩
    · have := block_lt hc
      rw [Addr.add_lit] at this
      exact this
    · have hj' : j < len := by simpa using hj
      have h1 := (hcell j (by omega)).1
      rw [Addr.add_lit] at h1
      rw [h1]
      simp [strB_of]
/-- One call, its four cells from an address on. -/
def OpCell (W : World) (x : Addr) (i : Nat) (o : Oq) : Prop :=
  W.cell? (x.add (i * 4)) = some (.int .i64 o.kind) ∧ (∃ u, W.cell? (x.add (i * 4 + 1)) = some u ∧ Tb W.heap.size W u o.recs) ∧ W.cell? (x.add (i * 4 + 2)) = some (.int .i64 o.n) ∧ W.cell? (x.add (i * 4 + 3)) = some (.int .i64 o.torn)
/-- How it reads. -/
def OpShape {H : Type} (d : DataW H) (o : Oq) : Prop := (-9223372036854775808 ≤ o.kind ∧ o.kind ≤ 9223372036854775807) ∧ ∃ d0 d1 d2 d3, d = .agg [d0, d1, d2, d3] ∧ shapeT d1 o.recs
set_option maxRecDepth 100000 in
theorem open_op {H : Type} {enc : TypeId × Value → H} {W : World} {x : Addr} {i n : Nat} {cs : List Value} {y : DataW H × List MemPlace} (h1 : W.cells? 0 (x.add (i * 4)) 4 = some cs)
    (h2 : DataW.trod enc Tryz.prog W 0 (fun _ => true) true n 29 cs = some y) : ∃ o, OpCell W x i o ∧ OpShape y.1 o := by
  obtain ⟨_, hlen, hc⟩ := World.cells?_some h1
  obtain ⟨xs, k, hk, hxy, _, hxl, hf⟩ := DataW.trod_struct Tryz.underlying29 h2
  match xs, hxl, cs, hlen with
  | [y0, y1, y2, y3], _, [v0, v1, v2, v3], _ =>
    have g0 := hf 0 _ rfl
    have g1 := hf 1 _ rfl
    have g2 := hf 2 _ rfl
    have g3 := hf 3 _ rfl
    simp [cellsI, cellsT] at g0 g1 g2 g3
    have c0 := hc 0 (by omega)
    have c1 := hc 1 (by omega)
    have c2 := hc 2 (by omega)
    have c3 := hc 3 (by omega)
    rw [Deep.add_add] at c0 c1 c2 c3
    simp at c0 c1 c2 c3
    obtain ⟨n0, e0, -, w0⟩ := DataW.trod_int Tryz.underlying3 g0
    obtain ⟨l1, b1, q1⟩ := open_texts_at g1
    obtain ⟨n2, e2, -, w2⟩ := DataW.trod_int Tryz.underlying3 g2
    obtain ⟨n3, e3, -, w3⟩ := DataW.trod_int Tryz.underlying3 g3
    simp at e0 e2 e3
    subst e0 e2 e3
    refine ⟨⟨n0, l1, n2, n3⟩, ⟨c0, ⟨v1, c1, b1⟩, c2, c3⟩, bounds_i64 w0, y0.1, y1.1, y2.1, y3.1, ?_, q1⟩
    rw [hxy]
    rfl
theorem OpCell.at {W : World} {b off i : Nat} {o : Oq} (h : OpCell W ⟨b, off, none⟩ i o) : OpAt W.heap.size W b (off + i * 4) o := by
  unfold OpCell at h
  simp only [Addr.add_lit] at h
  simpa only [OpAt, Nat.add_assoc] using h
/-- How calls read. -/
def shapeO {H : Type} (d : DataW H) (os : List Oq) : Prop := (d = .nil ∧ os = []) ∨ ∃ elems spare, d = .slice elems spare ∧ elems.length = os.length ∧ ∀ i (h1 : i < elems.length) (h2 : i < os.length), OpShape elems[i] os[i]
set_option maxRecDepth 100000 in
/-- A script that came in. -/
theorem open_ops {H : Type} {enc : TypeId × Value → H} {W : World} {b0 : Nat} {v : Value} {d : DataW H} {ps : List MemPlace} (hval : Value.okWide Tryz.prog W .any b0 22 v) (h : DataW.Trod enc Tryz.prog W 0 (fun _ => true) true 22 v d ps) :
    ∃ os, Ob W.heap.size W v os ∧ shapeO d os := by
  obtain ⟨a, len, cap, rfl⟩ := okWide_slice Tryz.underlying22 hval
  obtain ⟨fuel, hf⟩ := h
  rcases Deep.open_slice Tryz.underlying22 hf with ⟨hcs, hx⟩ | ⟨x, len', cap', m, n, D, Pl, hcs, _, hl, hm, hmm, hx, hcell⟩
  · simp [Value.cells] at hcs
    obtain ⟨rfl, rfl, rfl⟩ := hcs
    injection hx with hd _
    exact ⟨[], ⟨none, 0, rfl, by simp, by simp, fun h => absurd rfl h⟩, .inl ⟨hd, rfl⟩⟩
  · simp [Value.cells] at hcs
    obtain ⟨rfl, rfl, rfl⟩ := hcs
    injection hx with hd _
    have hmc : m = cap := by simpa using hmm
    rw [cellsOp] at hcell
    obtain ⟨os, hll, hp⟩ := choose_list (p := fun i o => OpCell W x i o ∧ OpShape (D i) o) len (fun i hi => by
      obtain ⟨cs, h1, h2⟩ := hcell i (by omega)
      exact open_op h1 h2)
    refine ⟨os, ⟨some x, cap, by rw [hll], by omega, hm, fun hne => ?_⟩, .inr ⟨_, _, hd, by simp [hll], fun i h1 h2 => ?_⟩⟩
    · have hpos : 0 < os.length := List.length_pos_iff.2 hne
      obtain ⟨b, off, spot⟩ := x
      have hc := (hp 0 hpos).1.1
      have hspot : spot = none := by simpa [Addr.add] using World.cell?_spot hc
      subst hspot
      refine ⟨b, off, rfl, ?_, fun j hj => (hp j hj).1.at⟩
      have := block_lt hc
      rw [Addr.add_lit] at this
      exact this
    · simp only [List.getElem_map, List.getElem_range]
      exact (hp i h2).2
theorem weights_all {H : Type} {P : Program} {e : TypeId} {l : List (DataW H)} {d : DataW H} (h : d ∈ l) {n : Nat} (hn : n ∈ d.weights P e) : n ∈ DataW.weightsAll P e l := by
  induction l with
  | nil => cases h
  | cons x r ih =>
    simp only [DataW.weightsAll, List.mem_append]
    rcases List.mem_cons.1 h with rfl | h
    · exact Or.inl hn
    · exact Or.inr (ih h)
set_option maxRecDepth 100000 in
theorem ops_le {H : Type} {ts : List TypeId} {ds : List (DataW H)} (hsz : (DataW.weightsEach Tryz.prog ts ds).all (· ≤ reachBytes) = true) {j : Nat} {d : DataW H} {os : List Oq}
    (ht : ts[j]? = some 22) (hd : ds[j]? = some d) (h : shapeO d os) : os.length ≤ 140737488351232 := by
  rcases h with ⟨_, rfl⟩ | ⟨elems, spare, rfl, he, _⟩
  · simp
  · have := sized_slice hsz ht hd Tryz.underlying22
    rw [bytesOp] at this
    simp only [reachBytes] at this
    omega
set_option maxRecDepth 100000 in
/-- Of calls that came in the numbers are ints, no record is too long. -/
theorem ops_small {H : Type} {ts : List TypeId} {ds : List (DataW H)} (hsz : (DataW.weightsEach Tryz.prog ts ds).all (· ≤ reachBytes) = true) {j : Nat} {d : DataW H} {os : List Oq}
    (ht : ts[j]? = some 22) (hd : ds[j]? = some d) (h : shapeO d os) : Small os := by
  rcases h with ⟨_, rfl⟩ | ⟨elems, spare, rfl, he, hs⟩
  · intro o ho
    cases ho
  · intro o ho
    obtain ⟨i, hi, rfl⟩ := List.getElem_of_mem ho
    obtain ⟨hk, d0, d1, d2, d3, hd0, h3⟩ := hs i (by omega) hi
    have hin : elems[i]'(by omega) ∈ elems := List.getElem_mem _
    have key : ∀ n, n ∈ DataW.weights Tryz.prog 29 (elems[i]'(by omega)) → n ≤ reachBytes := fun n hn => by
      have hm := DataW.weights_mem_each (P := Tryz.prog) ht hd n (by
        simp only [DataW.weights, Tryz.underlying22]
        exact List.mem_cons_of_mem _ (List.mem_append.2 (Or.inl (weights_all hin hn))))
      have := List.all_eq_true.1 hsz _ hm
      simpa using this
    rw [hd0] at key
    simp only [DataW.weights, Tryz.underlying29] at key
    refine ⟨hk, fun r hr => ?_⟩
    rcases h3 with ⟨_, h3⟩ | ⟨sp, rfl⟩
    · rw [h3] at hr
      cases hr
    · have k3 := key r.length (by
        simp only [DataW.weightsEach, List.map_cons, List.mem_append]
        refine Or.inr (Or.inl ?_)
        simp only [DataW.weights, Tryz.underlying27]
        refine List.mem_cons_of_mem _ (List.mem_append.2 (Or.inl (weights_all (d := .lit (.string r)) (List.mem_map.2 ⟨r, hr, rfl⟩) ?_)))
        simp [DataW.weights])
      simp only [reachBytes] at k3
      omega
/-- How a slice of truths reads. -/
def shapeR {H : Type} (d : DataW H) (bs : List Bool) : Prop := (d = .nil ∧ bs = []) ∨ ∃ elems spare, d = .slice elems spare ∧ elems.length = bs.length
theorem bytesR : Tryz.prog.bytesOf 4 = 1 := by kernel_rfl
end Go.Proofs.YthjcimgollfmgaaGreatDoor

/-
  A script that came in, all its numbers within 64 bits. No condition.
-/
namespace Go.Proofs.YthjcimgollfmgaaGreatDoor
open Go.ChangeShapes Go.WideShapes Go.ChangeAt Go.RowKit

def Wide1 (o : Oq) : Prop := (-9223372036854775808 ≤ o.n ∧ o.n ≤ 9223372036854775807) ∧ (-9223372036854775808 ≤ o.torn ∧ o.torn ≤ 9223372036854775807)
set_option maxRecDepth 100000 in
theorem open_op64 {H : Type} {enc : TypeId × Value → H} {W : World} {x : Addr} {i n : Nat} {cs : List Value} {y : DataW H × List MemPlace} (h1 : W.cells? 0 (x.add (i * 4)) 4 = some cs)
    (h2 : DataW.trod enc Tryz.prog W 0 (fun _ => true) true n 29 cs = some y) : ∃ o, (OpCell W x i o ∧ OpShape y.1 o) ∧ Wide1 o := by
  obtain ⟨_, hlen, hc⟩ := World.cells?_some h1
  obtain ⟨xs, k, hk, hxy, _, hxl, hf⟩ := DataW.trod_struct Tryz.underlying29 h2
  match xs, hxl, cs, hlen with
  | [y0, y1, y2, y3], _, [v0, v1, v2, v3], _ =>
    have g0 := hf 0 _ rfl
    have g1 := hf 1 _ rfl
    have g2 := hf 2 _ rfl
    have g3 := hf 3 _ rfl
    simp [cellsI, cellsT] at g0 g1 g2 g3
    have c0 := hc 0 (by omega)
    have c1 := hc 1 (by omega)
    have c2 := hc 2 (by omega)
    have c3 := hc 3 (by omega)
    rw [Deep.add_add] at c0 c1 c2 c3
    simp at c0 c1 c2 c3
    obtain ⟨n0, e0, -, w0⟩ := DataW.trod_int Tryz.underlying3 g0
    obtain ⟨l1, b1, q1⟩ := open_texts_at g1
    obtain ⟨n2, e2, -, w2⟩ := DataW.trod_int Tryz.underlying3 g2
    obtain ⟨n3, e3, -, w3⟩ := DataW.trod_int Tryz.underlying3 g3
    simp at e0 e2 e3
    subst e0 e2 e3
    refine ⟨⟨n0, l1, n2, n3⟩, ⟨⟨c0, ⟨v1, c1, b1⟩, c2, c3⟩, bounds_i64 w0, y0.1, y1.1, y2.1, y3.1, ?_, q1⟩, bounds_i64 w2, bounds_i64 w3⟩
    rw [hxy]
    rfl
set_option maxRecDepth 100000 in
/-- A script that came in. -/
theorem open_ops64 {H : Type} {enc : TypeId × Value → H} {W : World} {b0 : Nat} {v : Value} {d : DataW H} {ps : List MemPlace} (hval : Value.okWide Tryz.prog W .any b0 22 v) (h : DataW.Trod enc Tryz.prog W 0 (fun _ => true) true 22 v d ps) :
    ∃ os, Ob W.heap.size W v os ∧ shapeO d os ∧ ∀ o ∈ os, Wide1 o := by
  obtain ⟨a, len, cap, rfl⟩ := okWide_slice Tryz.underlying22 hval
  obtain ⟨fuel, hf⟩ := h
  rcases Deep.open_slice Tryz.underlying22 hf with ⟨hcs, hx⟩ | ⟨x, len', cap', m, n, D, Pl, hcs, _, hl, hm, hmm, hx, hcell⟩
  · simp [Value.cells] at hcs
    obtain ⟨rfl, rfl, rfl⟩ := hcs
    injection hx with hd _
    exact ⟨[], ⟨none, 0, rfl, by simp, by simp, fun h => absurd rfl h⟩, .inl ⟨hd, rfl⟩, fun o h => by cases h⟩
  · simp [Value.cells] at hcs
    obtain ⟨rfl, rfl, rfl⟩ := hcs
    injection hx with hd _
    have hmc : m = cap := by simpa using hmm
    rw [cellsOp] at hcell
    obtain ⟨os, hll, hp⟩ := choose_list (p := fun i o => (OpCell W x i o ∧ OpShape (D i) o) ∧ Wide1 o) len (fun i hi => by
      obtain ⟨cs, h1, h2⟩ := hcell i (by omega)
      exact open_op64 h1 h2)
    refine ⟨os, ⟨some x, cap, by rw [hll], by omega, hm, fun hne => ?_⟩, .inr ⟨_, _, hd, by simp [hll], fun i h1 h2 => ?_⟩, fun o ho => ?_⟩
    · have hpos : 0 < os.length := List.length_pos_iff.2 hne
      obtain ⟨b, off, spot⟩ := x
      have hc := (hp 0 hpos).1.1.1
      have hspot : spot = none := by simpa [Addr.add] using World.cell?_spot hc
      subst hspot
      refine ⟨b, off, rfl, ?_, fun j hj => (hp j hj).1.1.at⟩
      have := block_lt hc
      rw [Addr.add_lit] at this
      exact this
    · simp only [List.getElem_map, List.getElem_range]
      exact (hp i h2).1.2
    · obtain ⟨i, hi, rfl⟩ := List.getElem_of_mem ho
      exact (hp i hi).2
end Go.Proofs.YthjcimgollfmgaaGreatDoor
