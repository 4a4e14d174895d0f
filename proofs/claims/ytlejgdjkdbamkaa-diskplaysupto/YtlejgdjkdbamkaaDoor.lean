/-
  What the statements' frames share: what came in out of its reading, the bounds of the form. No condition.
-/
import Derived.Test.YtlejgdjkdbamkaaRows
import Derived.Test.YtlejgdjkdbamkaaArgs
import Derived.OpenShut
import Derived.ShutString
import Derived.ChangeOld
import Derived.SizedLaws
import Derived.LaidLaws
import Derived.Deep.DeepHandedRow
import Derived.Deep.Slices
import Derived.Deep.Strs
namespace Go.Proofs.Ytlejgdjkdbamkaa
open Go.ChangeShapes Go.WideShapes Go.ChangeAt Go.RowKit

theorem own : ownKnob Try.prog.godebug = none := by kernel_rfl
theorem laidOut : laidOutB Try.prog = true := by kernel_rfl
theorem cells9 : Try.prog.cellsOf 9 = 1 := by kernel_rfl
theorem bytes9 : Try.prog.bytesOf 9 = 16 := by kernel_rfl
theorem block_lt {w : World} {p : Addr} {v : Value} (h : w.cell? p = some v) : p.block < w.heap.size := by
  rcases Nat.lt_or_ge p.block w.heap.size with h1 | h1
  · exact h1
  · unfold World.cell? at h
    rw [Array.getElem?_eq_none h1] at h
    simp at h
theorem text_le {H : Type} {ts : List TypeId} {ds : List (DataW H)} (hsz : (DataW.weightsEach Try.prog ts ds).all (· ≤ reachBytes) = true) {j : Nat} {s : ByteArray}
    (ht : ts[j]? = some 9) (hd : ds[j]? = some (.lit (.string s.data.toList))) : s.size ≤ 140737488351232 := by
  have := sized_string hsz ht hd
  simp only [reachBytes] at this
  simpa using this
/-- How a slice of texts reads. -/
def shapeT {H : Type} (d : DataW H) (ls : List (List UInt8)) : Prop := (d = .nil ∧ ls = []) ∨ ∃ spare, d = .slice (ls.map fun l => .lit (.string l)) spare
theorem texts_le {H : Type} {ts : List TypeId} {ds : List (DataW H)} (hsz : (DataW.weightsEach Try.prog ts ds).all (· ≤ reachBytes) = true) {j : Nat} {d : DataW H} {ls : List (List UInt8)}
    (ht : ts[j]? = some 52) (hd : ds[j]? = some d) (h : shapeT d ls) : ls.length ≤ 140737488351232 := by
  rcases h with ⟨_, rfl⟩ | ⟨spare, rfl⟩
  · simp
  · have := sized_slice hsz ht hd Try.underlying52
    rw [bytes9] at this
    simp only [reachBytes, List.length_map] at this
    omega
theorem cells5 : Try.prog.cellsOf 5 = 1 := by kernel_rfl
theorem bytes5 : Try.prog.bytesOf 5 = 1 := by kernel_rfl
theorem bytes33 : Try.prog.bytesOf 33 = 24 := by kernel_rfl
/-- How a slice of bytes reads. -/
def shapeB {H : Type} (d : DataW H) (l : List UInt8) : Prop := (d = .nil ∧ l = []) ∨ ∃ elems spare, d = .slice elems spare ∧ elems.length = l.length
set_option maxRecDepth 100000 in
theorem open_bytes_at {H : Type} {enc : TypeId × Value → H} {W : World} {v : Value} {d : DataW H} {ps : List MemPlace} {fuel : Nat} (h : DataW.trod enc Try.prog W 0 (fun _ => true) true fuel 33 [v] = some (d, ps)) :
    ∃ l, Sb W.heap.size W v l ∧ shapeB d l := by
  rcases open_ints Try.underlying33 Try.underlying5 cells5 h with ⟨hcs, hx⟩ | ⟨x, len, cap, zs, hcs, _, hl, hm, hz, hx, hcell, hwz⟩
  · simp at hcs
    obtain rfl := hcs
    injection hx with hd _
    exact ⟨[], ⟨none, 0, rfl, Nat.le_refl _, by simp, fun _ => rfl, fun h => absurd rfl h⟩, .inl ⟨hd, rfl⟩⟩
  · simp at hcs
    obtain rfl := hcs
    injection hx with hd _
    have hz' : zs.length = cap := by simpa using hz
    have hlen : ((zs.take len).map fun z => UInt8.ofNat z.toNat).length = len := by simp; omega
    refine ⟨(zs.take len).map fun z => UInt8.ofNat z.toNat, ⟨_, cap, by rw [hlen], by omega, hm, by simp, fun hne => ?_⟩, .inr ⟨_, _, hd, by rw [hlen]; simp [lits]; omega⟩⟩
    have hpos : 0 < len := by
      rcases Nat.eq_zero_or_pos len with h0 | h0
      · exfalso; apply hne; rw [h0]; rfl
      · exact h0
    obtain ⟨b, off, spot⟩ := x
    have hc := hcell 0 (by omega)
    have hspot : spot = none := by simpa [Addr.add] using World.cell?_spot hc
    subst hspot
    refine ⟨b, off, rfl, ?_, fun j hj => ?_⟩
    · have := block_lt hc
      rw [Addr.add_lit] at this
      exact this
    · rw [hlen] at hj
      have hj' : j < zs.length := by omega
      have h1 := hcell j hj'
      rw [Addr.add_lit] at h1
      rw [h1]
      have hw := hwz zs[j] (List.getElem_mem hj')
      have hbd := bounds_u8 hw
      simp [List.getD, List.getElem?_eq_getElem hj']
      omega

set_option maxRecDepth 100000 in
theorem open_bytes {H : Type} {enc : TypeId × Value → H} {W : World} {b0 : Nat} {v : Value} {d : DataW H} {ps : List MemPlace} (hval : Value.okWide Try.prog W .any b0 33 v) (h : DataW.Trod enc Try.prog W 0 (fun _ => true) true 33 v d ps) :
    ∃ l, Sb W.heap.size W v l ∧ shapeB d l := by
  obtain ⟨a, len, cap, rfl⟩ := okWide_slice Try.underlying33 hval
  obtain ⟨fuel, hf⟩ := h
  exact open_bytes_at (fuel := fuel) (by simpa [Value.cells] using hf)
set_option maxRecDepth 100000 in
theorem bytes_le {H : Type} {ts : List TypeId} {ds : List (DataW H)} (hsz : (DataW.weightsEach Try.prog ts ds).all (· ≤ reachBytes) = true) {j : Nat} {d : DataW H} {l : List UInt8}
    (ht : ts[j]? = some 33) (hd : ds[j]? = some d) (h : shapeB d l) : l.length ≤ 140737488351232 := by
  rcases h with ⟨_, rfl⟩ | ⟨elems, spare, rfl, he⟩
  · simp
  · have := sized_slice hsz ht hd Try.underlying33
    rw [bytes5] at this
    simp only [reachBytes] at this
    omega
theorem choose_list {α : Type} {p : Nat → α → Prop} : ∀ n : Nat, (∀ i, i < n → ∃ a, p i a) → ∃ l : List α, l.length = n ∧ ∀ i (h : i < l.length), p i l[i]
  | 0, _ => ⟨[], rfl, fun i h => by simp at h⟩
  | n + 1, h => by
    obtain ⟨l, hl, hp⟩ := choose_list n (fun i hi => h i (by omega))
    obtain ⟨a, ha⟩ := h n (by omega)
    refine ⟨l ++ [a], by simp [hl], fun i hi => ?_⟩
    simp at hi
    by_cases hin : i < l.length
    · rw [List.getElem_append_left hin]; exact hp i hin
    · obtain rfl : i = n := by omega
      subst hl
      rw [List.getElem_append_right (by omega)]
      simpa using ha

/-- How a slice of slices of bytes reads. -/
def shapeP {H : Type} (d : DataW H) (ls : List (List UInt8)) : Prop := (d = .nil ∧ ls = []) ∨ ∃ elems spare, d = .slice elems spare ∧ elems.length = ls.length ∧ ∀ i (h1 : i < elems.length) (h2 : i < ls.length), shapeB elems[i] ls[i]
set_option maxRecDepth 100000 in
/-- A slice of slices of bytes that came in. -/
theorem open_parts {H : Type} {enc : TypeId × Value → H} {W : World} {b0 : Nat} {v : Value} {d : DataW H} {ps : List MemPlace} (hval : Value.okWide Try.prog W .any b0 38 v) (h : DataW.Trod enc Try.prog W 0 (fun _ => true) true 38 v d ps) :
    ∃ ls, Bs W.heap.size W v ls ∧ shapeP d ls := by
  obtain ⟨a, len, cap, rfl⟩ := okWide_slice Try.underlying38 hval
  obtain ⟨fuel, hf⟩ := h
  rcases Deep.open_slice1 Try.underlying38 (by kernel_rfl) hf with ⟨hcs, hx⟩ | ⟨x, len', cap', m, n, V, D, Pl, hcs, _, hl, hm, hmm, hx, hcell⟩
  · simp [Value.cells] at hcs
    obtain ⟨rfl, rfl, rfl⟩ := hcs
    injection hx with hd _
    exact ⟨[], ⟨none, 0, rfl, by simp, by simp, fun h => absurd rfl h⟩, .inl ⟨hd, rfl⟩⟩
  · simp [Value.cells] at hcs
    obtain ⟨rfl, rfl, rfl⟩ := hcs
    injection hx with hd _
    have hmc : m = cap := by simpa using hmm
    obtain ⟨ls, hll, hp⟩ := choose_list (p := fun i l => Sb W.heap.size W (V i) l ∧ shapeB (D i) l) len (fun i hi => open_bytes_at (hcell i (by omega)).2)
    refine ⟨ls, ⟨some x, cap, by rw [hll], by omega, hm, fun hne => ?_⟩, .inr ⟨_, _, hd, by simp [hll], fun i h1 h2 => ?_⟩⟩
    · have hpos : 0 < len := by
        rcases Nat.eq_zero_or_pos len with h0 | h0
        · exfalso; apply hne; exact List.eq_nil_of_length_eq_zero (by omega)
        · exact h0
      obtain ⟨b, off, spot⟩ := x
      have hc := (hcell 0 (by omega)).1
      have hspot : spot = none := by simpa [Addr.add] using World.cell?_spot hc
      subst hspot
      refine ⟨b, off, rfl, ?_, fun j hj => ?_⟩
      · have := block_lt hc
        rw [Addr.add_lit] at this
        exact this
      · have h1 := (hcell j (by omega)).1
        rw [Addr.add_lit] at h1
        exact ⟨V j, h1, (hp j hj).1⟩
    · simp only [List.getElem_map, List.getElem_range]
      exact (hp i h2).2

set_option maxRecDepth 100000 in
theorem parts_le {H : Type} {ts : List TypeId} {ds : List (DataW H)} (hsz : (DataW.weightsEach Try.prog ts ds).all (· ≤ reachBytes) = true) {j : Nat} {d : DataW H} {ls : List (List UInt8)}
    (ht : ts[j]? = some 38) (hd : ds[j]? = some d) (h : shapeP d ls) : ls.length ≤ 140737488351232 := by
  rcases h with ⟨_, rfl⟩ | ⟨elems, spare, rfl, he, _⟩
  · simp
  · have := sized_slice hsz ht hd Try.underlying38
    rw [bytes33] at this
    simp only [reachBytes] at this
    omega
set_option maxRecDepth 100000 in
/-- A slice of texts that came in. -/
theorem open_texts {H : Type} {enc : TypeId × Value → H} {W : World} {b0 : Nat} {v : Value} {d : DataW H} {ps : List MemPlace} (hval : Value.okWide Try.prog W .any b0 52 v) (h : DataW.Trod enc Try.prog W 0 (fun _ => true) true 52 v d ps) :
    ∃ ls, Tb W.heap.size W v ls ∧ shapeT d ls := by
  obtain ⟨a, len, cap, rfl⟩ := okWide_slice Try.underlying52 hval
  obtain ⟨fuel, hf⟩ := h
  rcases Deep.open_strs Try.underlying52 Try.underlying9 cells9 hf with ⟨hcs, hx⟩ | ⟨x, len', cap', m, Sx, hcs, _, hl, hm, hmm, hx, hcell⟩
  · simp [Value.cells] at hcs
    obtain ⟨rfl, rfl, rfl⟩ := hcs
    injection hx with hd _
    exact ⟨[], ⟨none, 0, rfl, by simp, by simp, fun h => absurd rfl h⟩, .inl ⟨hd, rfl⟩⟩
  · simp [Value.cells] at hcs
    obtain ⟨rfl, rfl, rfl⟩ := hcs
    injection hx with hd _
    have hmc : m = cap := by simpa using hmm
    refine ⟨(List.range len).map fun i => (Sx i).data.toList, ⟨some x, cap, by simp, by simpa using hl, hm, fun hne => ?_⟩, .inr ⟨_, by rw [hd, List.map_map]; rfl⟩⟩
    have hpos : 0 < len := by
      rcases Nat.eq_zero_or_pos len with h0 | h0
      · exfalso; apply hne; subst h0; rfl
      · exact h0
    obtain ⟨b, off, spot⟩ := x
    have hc := (hcell 0 (by omega)).1
    have hspot : spot = none := by simpa [Addr.add] using World.cell?_spot hc
    subst hspot
    refine ⟨b, off, rfl, ?_, fun j hj => ?_⟩
    · have := block_lt hc
      rw [Addr.add_lit] at this
      exact this
    · have hj' : j < len := by simpa using hj
      have h1 := (hcell j (by omega)).1
      rw [Addr.add_lit] at h1
      rw [h1]
      simp [strB_of]
end Go.Proofs.Ytlejgdjkdbamkaa
