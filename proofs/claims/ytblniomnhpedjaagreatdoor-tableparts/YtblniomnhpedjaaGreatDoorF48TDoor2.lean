/-
  Numbers that came in, out of their reading. No condition.
-/
import Derived.Test.YtblniomnhpedjaaGreatDoorF42TDoor
import Derived.Test.YtblniomnhpedjaaGreatDoorF47TParts
namespace Go.Proofs.YtblniomnhpedjaaGreatDoor
open Go.ChangeShapes Go.WideShapes Go.ChangeAt Go.RowKit

/-- How a slice of numbers reads. -/
def shapeI {H : Type} (d : DataW H) (cs : List Int) : Prop := ((d = .nil ∧ cs = []) ∨ ∃ elems spare, d = .slice elems spare ∧ elems.length = cs.length) ∧ ∀ c ∈ cs, -9223372036854775808 ≤ c ∧ c ≤ 9223372036854775807
theorem bytesInt : Tryz.prog.bytesOf 3 = 8 := by kernel_rfl
set_option maxRecDepth 100000 in
theorem open_ints {H : Type} {enc : TypeId × Value → H} {W : World} {b0 : Nat} {v : Value} {d : DataW H} {ps : List MemPlace} (hval : Value.okWide Tryz.prog W .any b0 34 v) (h : DataW.Trod enc Tryz.prog W 0 (fun _ => true) true 34 v d ps) :
    ∃ cs, IsT W v cs ∧ shapeI d cs := by
  obtain ⟨a, len, cap, rfl⟩ := okWide_slice Tryz.underlying34 hval
  obtain ⟨fuel, hf⟩ := h
  rcases Deep.open_slice1 Tryz.underlying34 (by kernel_rfl) hf with ⟨hcs, hx⟩ | ⟨x, len', cap', m, n, V, D, Pl, hcs, _, hl, hm, hmm, hx, hcell⟩
  · simp [Value.cells] at hcs
    obtain ⟨rfl, rfl, rfl⟩ := hcs
    injection hx with hd _
    exact ⟨[], ⟨none, 0, rfl, by simp, by simp, fun h => absurd rfl h⟩, .inl ⟨hd, rfl⟩, by simp⟩
  · simp [Value.cells] at hcs
    obtain ⟨rfl, rfl, rfl⟩ := hcs
    injection hx with hd _
    have hmc : m = cap := by simpa using hmm
    obtain ⟨cs, hll, hp⟩ := choose_list (p := fun i c => W.cell? (x.add i) = some (.int .i64 c) ∧ -9223372036854775808 ≤ c ∧ c ≤ 9223372036854775807) len (fun i hi => by
      obtain ⟨h1, h2⟩ := hcell i (by omega)
      obtain ⟨c, hc, -, hw⟩ := DataW.trod_int Tryz.underlying3 h2
      simp at hc
      have hb := bounds_i64 hw
      exact ⟨c, by rw [h1, hc], by omega, by omega⟩)
    refine ⟨cs, ⟨some x, cap, by rw [hll], by omega, hm, fun hne => ?_⟩, .inr ⟨_, _, hd, by simp [hll]⟩, fun c hc => ?_⟩
    · have hpos : 0 < cs.length := List.length_pos_iff.2 hne
      obtain ⟨b, off, spot⟩ := x
      have hc := (hp 0 hpos).1
      have hspot : spot = none := by simpa [Addr.add] using World.cell?_spot hc
      subst hspot
      refine ⟨b, off, rfl, ?_, fun j hj => ?_⟩
      · have := block_lt hc
        rw [Addr.add_lit] at this
        exact this
      · have := (hp j hj).1
        rw [Addr.add_lit] at this
        exact this
    · obtain ⟨j, hj, rfl⟩ := List.getElem_of_mem hc
      exact (hp j hj).2
set_option maxRecDepth 100000 in
theorem ints_le {H : Type} {ts : List TypeId} {ds : List (DataW H)} (hsz : (DataW.weightsEach Tryz.prog ts ds).all (· ≤ reachBytes) = true) {j : Nat} {d : DataW H} {cs : List Int}
    (ht : ts[j]? = some 34) (hd : ds[j]? = some d) (h : shapeI d cs) : cs.length ≤ 140737488351232 := by
  rcases h.1 with ⟨_, rfl⟩ | ⟨elems, spare, rfl, he⟩
  · simp
  · have := sized_slice hsz ht hd Tryz.underlying34
    rw [bytesInt] at this
    simp only [reachBytes] at this
    omega
end Go.Proofs.YtblniomnhpedjaaGreatDoor
