/-
  What a cutter's hold, tell, New and Close do. Conditions: it lies there; lengths within reach.
-/
import Derived.Test.YthkhmjdenenikaaChunk
import Derived.Test.YthkhmjdenenikaaTexts
import Derived.Lib.AppendStr
namespace Go.Proofs.Ythkhmjdenenikaa
open Go.RowKit

/-- At g lies a cutter: of the chunk under way hs is reckoned, hh is held, in the slice v. -/
def CuW (w : World) (g : Nat) (hs hh : List UInt8) (v : Value) : Prop :=
  CkAt w g 48 hs [v] ∧ w.ownsRow (g + 1) 5 1 v hh.length (bc hh)
theorem CuW.held {w : World} {g : Nat} {hs hh : List UInt8} {v : Value} (h : CuW w g hs hh v) : w.cell? ⟨g, 2, none⟩ = some v := by
  rw [cell_of h.1]; rfl
theorem CuW.lt {w : World} {g : Nat} {hs hh : List UInt8} {v : Value} (h : CuW w g hs hh v) : g < w.heap.size := lt_of_heap h.1
theorem strCells_bc (l : List UInt8) : Lib.strCells (strB l) = bc l := by unfold Lib.strCells bc; rw [strB_list]
theorem setHeld {w : World} {g : Nat} {n : Int} {s : UInt64} {v : Value} {t : TypeId} (h : KAt w g t n s [v]) (v' : Value) : KAt (w.setCell ⟨g, 2, none⟩ v') g t n s [v'] := by
  unfold KAt; rw [heap_set h]; rfl

set_option maxRecDepth 20000 in
theorem hold_any (w : World) (g : Nat) (hs hh p : List UInt8) (v : Value) (h : CuW w g hs hh v) (hl : hh.length + p.length ≤ 1099511627776) :
    Calls Try.prog 21 #[.pointer (some ⟨g, 0, none⟩), .string (strB p)] w fun e w' => e = .returned (.tuple #[]) ∧ (∃ v', CuW w' g hs (hh ++ p) v') ∧ Chg (fun k => k = g ∨ some k = v.ownBlock) w w' := by
  obtain ⟨i0, hi0, hz0, hz1, hz2⟩ := info_parts Try.infoB
  have hc := h.held
  have hps := strB_size p
  have hlt := h.lt
  obtain ⟨hk, hrow⟩ := h
  have hrow' := hrow
  obtain ⟨ao, cap, rfl, c1, c2, -⟩ := own_form hrow
  clear hrow
  go_enter Try.func21, Try.ntmps21
  go_wp2_with (at_builtin; refine Lib.wpList_append_own_string _ rfl (.tmp 8) (.tmp 9) 46 9 rfl (g + 1) 5 i0 Try.underlying46 Try.underlying9 hi0 hz0 hz1 hz2 _ _ _ rfl hrow' (strB p) rfl (by unfold maxLen; omega) (by omega) (by omega) ?_)
  intro v2 w2 hown2 hgrow2 _
  have hC2 := Chg.of_grown hgrow2
  have hk2 : CkAt w2 g 48 hs [.slice ao hh.length cap] := hC2.keep hk (fun e => by have := (hrow'.lt g e.symm).1; omega)
  have hc2 : w2.cell? ⟨g, 2, none⟩ = some (.slice ao hh.length cap) := by rw [cell_of hk2]; rfl
  have hf2 := thawed hk2 2
  rw [strCells_bc, ← bc_append] at hown2
  have hk3 := setHeld hk2 v2
  have hC3 : Chg (fun k => k = g ∨ some k = Value.ownBlock (.slice ao hh.length cap)) w (w2.setCell ⟨g, 2, none⟩ v2) := Chg.setCell (F := fun k => k = g ∨ some k = Value.ownBlock (.slice ao hh.length cap)) ((Chg.refl _ w).trans hC2 (fun _ _ h => .inr h)) (p := ⟨g, 2, none⟩) (.inl (.inl rfl)) _
  have hrow3 : (w2.setCell ⟨g, 2, none⟩ v2).ownsRow (g + 1) 5 1 v2 (hh.length + p.length) (bc (hh ++ p)) := own_keep (F := fun k => k = g) hown2 (Chg.setCell (F := fun k => k = g) (Chg.refl _ w2) (p := ⟨g, 2, none⟩) (.inl rfl) _) (fun k hk e => by have := (hown2.lt k hk).1; omega)
  have K3 := hide hk3
  have D3 := hide hC3
  have R3 := hide hrow3
  obtain ⟨ao', cap', rfl, -⟩ := own_form hown2
  clear hk3 hC3 hrow3 hgrow2 hC2 hown2
  go_wp2
  go_end0
  exact ⟨rfl, ⟨_, K3.out, by rw [List.length_append]; exact R3.out⟩, D3.out⟩

set_option maxRecDepth 20000 in
theorem tell_any (w : World) (g : Nat) (hs hh : List UInt8) (v : Value) (h : CuW w g hs hh v) :
    Calls Try.prog 22 #[.pointer (some ⟨g, 0, none⟩)] w fun e w' => e = .returned (.string (strB hh)) ∧ (∃ v', CuW w' g hs [] v') ∧ Chg (fun k => k = g) w w' := by
  have hc := h.held
  have hlt := h.lt
  obtain ⟨hk, hrow⟩ := h
  have hf := thawed hk 2
  rcases hrow.2 with ⟨rfl, hn⟩ | ⟨b, cap, cur, rfl, hb, hbb, h1, h2, h3, h4⟩
  · obtain rfl : hh = [] := List.eq_nil_of_length_eq_zero hn
    have hk3 := setHeld hk (.slice none 0 0)
    have hstr : (convert 46 9 (.slice none 0 0)).run Try.prog w = .ok (.string (strB [])) w := by
      rw [run_convert_bytes_string w 46 9 5 none _ 0 Try.underlying46 Try.underlying5 Try.underlying9]
      rfl
    have hrow3 : (w.setCell ⟨g, 2, none⟩ (.slice none 0 0)).ownsRow (g + 1) 5 1 (.slice none 0 0) 0 (bc []) := World.ownsRow_nil _ _ _ _
    have hC3 : Chg (fun k => k = g) w (w.setCell ⟨g, 2, none⟩ (.slice none 0 0)) := Chg.setCell (F := fun k => k = g) (Chg.refl _ w) (p := ⟨g, 2, none⟩) (.inl rfl) _
    have K3 := hide hk3
    have R3 := hide hrow3
    have D3 := hide hC3
    clear hk3 hrow3 hC3 hrow
    go_enter Try.func22, Try.ntmps22
    go_wp2
    go_ret
    exact ⟨rfl, ⟨_, K3.out, R3.out⟩, D3.out⟩
  · have hk3 := setHeld hk (.slice (some ⟨b, 0, none⟩) 0 cap)
    have hstr : (convert 46 9 (.slice (some ⟨b, 0, none⟩) hh.length cap)).run Try.prog w = .ok (.string (strB hh)) w := by
      refine run_convert_bytes_back w 46 9 5 ⟨b, 0, none⟩ cap hh Try.underlying46 Try.underlying5 Try.underlying9 (fun j hj => ?_)
      exact World.ownsRow.cells hrow (g := b) rfl j _ (bc_get hh j hj)
    have hC3 : Chg (fun k => k = g) w (w.setCell ⟨g, 2, none⟩ (.slice (some ⟨b, 0, none⟩) 0 cap)) := Chg.setCell (F := fun k => k = g) (Chg.refl _ w) (p := ⟨g, 2, none⟩) (.inl rfl) _
    have hrow3 : (w.setCell ⟨g, 2, none⟩ (.slice (some ⟨b, 0, none⟩) 0 cap)).ownsRow (g + 1) 5 1 (.slice (some ⟨b, 0, none⟩) 0 cap) 0 (bc []) :=
      ⟨rfl, .inr ⟨b, cap, cur, rfl, hb, hC3.keep hbb (by omega), Nat.zero_le _, h2, h3, rfl⟩⟩
    have K3 := hide hk3
    have R3 := hide hrow3
    have D3 := hide hC3
    clear hk3 hrow3 hC3 hrow h3 h4
    go_enter Try.func22, Try.ntmps22
    go_wp2
    go_ret
    exact ⟨rfl, ⟨_, K3.out, R3.out⟩, D3.out⟩

set_option maxRecDepth 20000 in
theorem new_any (w : World) : Calls Try.prog 16 #[] w fun e w' => e = .returned (.pointer (some ⟨w.heap.size, 0, none⟩)) ∧ CuW w' w.heap.size [] [] (.slice none 0 0) ∧ Below w.heap.size w w' := by
  go_enter Try.func16, Try.ntmps16
  go_wp2
  go_ret
  refine ⟨rfl, ⟨?_, World.ownsRow_nil _ _ _ _⟩, (Below.refl _ w).alloc (Nat.le_refl _) _⟩
  exact heap_last _ _

set_option maxRecDepth 20000 in
theorem close_none (w : World) (g : Nat) (v : Value) (h : CuW w g [] [] v) :
    Calls Try.prog 19 #[.pointer (some ⟨g, 0, none⟩)] w fun e w' => e = .returned (.slice none 0 0) ∧ w' = w := by
  have hc := h.held
  obtain ⟨ao, cap, rfl, c1, c2, -⟩ := own_form h.2
  clear h
  simp only [List.length_nil] at hc
  go_enter Try.func19, Try.ntmps19
  go_wp2
  go_ret
  exact ⟨rfl, rfl⟩
set_option maxRecDepth 20000 in
theorem close_some (w : World) (g : Nat) (h : List UInt8) (v : Value) (hne : h ≠ []) (hC : CuW w g h h v) :
    Calls Try.prog 19 #[.pointer (some ⟨g, 0, none⟩)] w fun e w' => ∃ v', e = .returned v' ∧ w'.ownsRow w.heap.size 9 1 v' 1 (tc [h]) ∧ CuW w' g [] [] (.slice none 0 0) ∧ Chg (fun k => k = g) w w' := by
  have hc := hC.held
  have hp := List.length_pos_iff.2 hne
  have htl := tell_any w g h h v hC
  obtain ⟨ao, cap, rfl, c1, c2, -⟩ := own_form hC.2
  have hne0 : ((h.length : Int) == 0) = false := beq_eq_false_iff_ne.2 (by omega)
  clear hC
  go_enter Try.func19, Try.ntmps19
  go_wp2_with fail
  refine htl.mono ?_
  rintro e w1 ⟨rfl, ⟨v1, k1, -⟩, hC1⟩
  have a1 := KAt.size k1
  have f1 := thawed k1 0
  have k2 := KAt.setSize k1 0
  have a2 := k2.sum
  have f2 := thawed k2 1
  have k3 := k2.setSum 0
  have a3 : ((w1.setCell ⟨g, 0, none⟩ (.int .i64 0)).setCell ⟨g, 1, none⟩ (.int .u64 (u 0))).cell? ⟨g, 2, none⟩ = some v1 := by rw [cell_of k3]; rfl
  have f3 := thawed k3 2
  have k4 := setHeld k3 (.slice none 0 0)
  have hC4 : Chg (fun k => k = g) w (((w1.setCell ⟨g, 0, none⟩ (.int .i64 0)).setCell ⟨g, 1, none⟩ (.int .u64 (u 0))).setCell ⟨g, 2, none⟩ (.slice none 0 0)) := ((hC1.setCell (p := ⟨g, 0, none⟩) (.inl rfl) _).setCell (p := ⟨g, 1, none⟩) (.inl rfl) _).setCell (p := ⟨g, 2, none⟩) (.inl rfl) _
  have K4 := hide k4
  have D4 := hide hC4
  rw [show u 0 = 0 from rfl] at a3 f3 K4 D4
  have hs1 := hC1.size
  have hl4 := heap_last (((w1.setCell ⟨g, 0, none⟩ (.int .i64 0)).setCell ⟨g, 1, none⟩ (.int .u64 0)).setCell ⟨g, 2, none⟩ (.slice none 0 0)) (.cells #[.string (strB h)] 9)
  have hsz : (((w1.setCell ⟨g, 0, none⟩ (.int .i64 0)).setCell ⟨g, 1, none⟩ (.int .u64 0)).setCell ⟨g, 2, none⟩ (.slice none 0 0)).heap.size = w1.heap.size := by simp [World.setCell]
  rw [hsz] at hl4
  have L4 := hide hl4
  clear k4 hC4 k3 k2 hC1 htl k1 hl4 hsz
  go_wp2
  go_ret
  refine ⟨_, rfl, ⟨rfl, .inr ⟨_, 1, _, rfl, hs1, L4.out, Nat.le_refl _, by decide, rfl, rfl⟩⟩, ⟨heap_past _ K4.out, World.ownsRow_nil _ _ _ _⟩, D4.out.alloc _⟩
end Go.Proofs.Ythkhmjdenenikaa
