/-
  A file's chunks told. Conditions: the get keeps its word.
-/
import Derived.Test.YtjdbgfidnbgneaaGreatDoorC25BThru2
import Derived.Test.YtjdbgfidnbgneaaGreatDoorC21BRead
namespace Go.Proofs.YtjdbgfidnbgneaaGreatDoor
open Go.RowKit

/-- What Chunks meets. -/
def listP (fd : Bs → Option Bs) (p : Part) (asked : List Bs) : Wk := if p.2 = 0 then ⟨asked, [], [], 0⟩ else chS fd 21 p (-1) ⟨asked, [], [], 0⟩
def partsOf (s : Wk) : List Part := if s.bad = 0 then s.parts else []
set_option maxRecDepth 40000 in
set_option maxHeartbeats 1600000 in
theorem bchunks_no (w : World) (fv : Value) (p : Part) (h : rightR p = false) :
    Calls Tryz.prog 14 #[fv, .agg #[.string (strB p.1), .int .i64 p.2]] w fun e w' => e = .returned (.tuple #[.slice none 0 0, .int .i64 2]) ∧ Below w.heap.size w w' := by
  have hb0 : Below w.heap.size w (w.alloc (.cells #[.string (strB p.1), .int .i64 p.2] 25)) := (Below.refl _ _).alloc (Nat.le_refl _) _
  have hri := isRight_any (w.alloc (.cells #[.string (strB p.1), .int .i64 p.2] 25)) p
  rw [h] at hri
  have HB := hide hb0
  clear hb0 h
  go_enter Tryz.func14, Tryz.ntmps14
  go_wp2_with fail
  refine hri.mono ?_
  rintro e w1 ⟨rfl, hb1⟩
  have HB1 := hide (HB.out.trans (hb1.mono HB.out.size))
  clear hri hb1
  go_wp2
  go_ret2
  exact ⟨rfl, HB1.out⟩
set_option maxRecDepth 40000 in
set_option maxHeartbeats 1600000 in
theorem bchunks_any (w : World) (gf : Nat) (caps : Array Value) (fd : Bs → Option Bs) (B : Nat) (I : World → List Bs → Prop) (hG : GetOk gf caps fd B qts I) (p : Part) (asked : List Bs) (hI : I w asked) (hal : asked.length ≤ 1000) (hr : rightR p = true) :
    Calls Tryz.prog 14 #[.func (.func gf) #[] caps, .agg #[.string (strB p.1), .int .i64 p.2]] w fun e w' => (∃ v, e = .returned (.tuple #[v, .int .i64 (listP fd p asked).bad]) ∧ Rw B w' 25 2 partC v (partsOf (listP fd p asked))) ∧ I w' (listP fd p asked).asked ∧ Mv B hts none w w' := by
  obtain ⟨r1, r2, r3⟩ := (rightR_iff p).1 hr
  have hB := hG.le _ _ hI
  have hb0 : Below w.heap.size w (w.alloc (.cells #[.string (strB p.1), .int .i64 p.2] 25)) := (Below.refl _ _).alloc (Nat.le_refl _) _
  have hx0 := heap_last w (.cells #[.string (strB p.1), .int .i64 p.2] 25) _ rfl
  generalize hw0 : w.alloc (.cells #[.string (strB p.1), .int .i64 p.2] 25) = w0 at *
  have c0 := cell_of_row w0 w.heap.size 0 _ _ _ hx0
  have c1 := cell_of_row w0 w.heap.size 1 _ _ _ hx0
  simp only [List.getElem?_toArray, List.getElem?_cons_zero, List.getElem?_cons_succ] at c0 c1
  have hri := isRight_any w0 p
  rw [hr] at hri
  have H0 := hide (And.intro hb0 hx0)
  clear hb0 hx0
  go_enter Tryz.func14, Tryz.ntmps14
  go_wp2_with fail
  try rw [hw0]
  refine hri.mono ?_
  rintro e w1 ⟨rfl, hb1⟩
  have hx1 := (hb1.block _ (lt_of_heap H0.out.2)).trans H0.out.2
  have hB1 := H0.out.1.trans (hb1.mono H0.out.1.size)
  have c0 := cell_of_row w1 w.heap.size 0 _ _ _ hx1
  have c1 := cell_of_row w1 w.heap.size 1 _ _ _ hx1
  simp only [List.getElem?_toArray, List.getElem?_cons_zero, List.getElem?_cons_succ] at c0 c1
  have hnil := fun W => eql_nilF W gf caps
  have H1 := hide (And.intro hx1 hB1)
  clear hri hb1 hx1 hB1
  by_cases hz : p.2 = 0
  · have hzb : (p.2 == 0) = true := by rw [hz]; rfl
    have hlp : listP fd p asked = ⟨asked, [], [], 0⟩ := by unfold listP; rw [if_pos hz]
    have HL := hide (And.intro hlp (hG.below hI H1.out.2))
    clear hlp hz
    go_wp2
    go_ret2
    rw [HL.out.1]
    exact ⟨⟨_, rfl, World.ownsRow_nil _ _ _ _⟩, HL.out.2, Mv.of H1.out.2 hB⟩
  · have hzb : (p.2 == 0) = false := by rw [beq_eq_false_iff_ne]; exact hz
    have hx2 := (heap_past w1 (.cells #[.func (.func gf) #[] caps, .slice none 0 0] 71) _ (lt_of_heap H1.out.1)).trans H1.out.1
    have hg2 := heap_last w1 (.cells #[.func (.func gf) #[] caps, .slice none 0 0] 71) _ rfl
    have hB2 := H1.out.2.alloc H1.out.2.size (.cells #[.func (.func gf) #[] caps, .slice none 0 0] 71)
    have hI2 := hG.below hI hB2
    have hL2 : LiW B (w1.alloc (.cells #[.func (.func gf) #[] caps, .slice none 0 0] 71)) w1.heap.size (.func (.func gf) #[] caps) (.slice none 0 0) ⟨asked, [], [], 0⟩ := ⟨Nat.le_trans hB H1.out.2.size, hg2, World.ownsRow_nil _ _ _ _⟩
    have hth := thru_any w1.heap.size gf caps fd B I hG 21 (-1) (.inl ⟨rfl, by omega⟩) (w1.alloc (.cells #[.func (.func gf) #[] caps, .slice none 0 0] 71)) p ⟨asked, [], [], 0⟩ (.slice none 0 0) (fun _ => by omega) (by omega) r3 rfl hL2 hI2 (by simp only; omega) (by simp only [List.length_nil]; omega)
    have hlp : listP fd p asked = chS fd 21 p (-1) ⟨asked, [], [], 0⟩ := by unfold listP; rw [if_neg hz]
    rw [← hlp] at hth
    obtain ⟨s, hs⟩ : ∃ s, s = listP fd p asked := ⟨_, rfl⟩
    rw [← hs] at hth
    have HS := hide hs
    have d0 := cell_of_row (w1.alloc (.cells #[.func (.func gf) #[] caps, .slice none 0 0] 71)) w.heap.size 0 _ _ _ hx2
    have d1 := cell_of_row (w1.alloc (.cells #[.func (.func gf) #[] caps, .slice none 0 0] 71)) w.heap.size 1 _ _ _ hx2
    simp only [List.getElem?_toArray, List.getElem?_cons_zero, List.getElem?_cons_succ] at d0 d1
    have H2 := hide hB2
    clear hx2 hg2 hB2 hI2 hL2 hlp hs hz
    go_wp2_with fail
    refine hth.mono ?_
    rintro e w4 ⟨rfl, vc4, hL4, hI4, hM4, -⟩
    have hM := (Mv.of (r := none) (ts := hts) H2.out hB).trans hM4 (.inl rfl)
    have d1 := cell_of_row w4 w1.heap.size 1 _ _ _ hL4.2.1
    simp only [List.getElem?_toArray, List.getElem?_cons_zero, List.getElem?_cons_succ] at d1
    have HF := hide (And.intro hL4.2.2 (And.intro hI4 hM))
    obtain ⟨va, vm, vn, rfl⟩ := row_form hL4.2.2
    clear hth hL4 hI4 hM4 hM
    by_cases hb : s.bad = 0
    · have hbb : (s.bad != 0) = false := by rw [hb]; rfl
      have HV : Hid (partsOf s = s.parts ∧ s.bad = 0) := hide ⟨by unfold partsOf; rw [if_pos hb], hb⟩
      clear hb
      go_wp2
      go_ret2
      rw [← HS.out]
      refine ⟨⟨_, by rw [HV.out.2]; rfl, ?_⟩, HF.out.2.1, HF.out.2.2⟩
      rw [HV.out.1]
      exact HF.out.1
    · have hbb : (s.bad != 0) = true := by simpa using hb
      have HV : Hid (partsOf s = []) := hide (by unfold partsOf; rw [if_neg hb])
      clear hb
      go_wp2
      go_ret2
      rw [← HS.out]
      refine ⟨⟨_, rfl, ?_⟩, HF.out.2.1, HF.out.2.2⟩
      rw [HV.out]
      exact World.ownsRow_nil _ _ _ _
end Go.Proofs.YtjdbgfidnbgneaaGreatDoor
