/-
  Texts joined: BRRead, BList, BRChunks.
-/
import Derived.Test.YtokebnkgjchfaaaGreatDoorC21BRead
import Derived.Test.YtokebnkgjchfaaaGreatDoorC22BThru2
import Derived.Test.YtokebnkgjchfaaaGreatDoorC23BRefC
/-
  The reference reads some of a file's bytes. Conditions: the objects lie there; texts within reach.
-/
namespace Go.Proofs.YtokebnkgjchfaaaGreatDoor
open Go.RowKit

set_option maxRecDepth 20000 in
theorem rright_any (w : World) (p : Part) : Calls Tryz.prog 29 #[.agg #[.string (strB p.1), .int .i64 p.2]] w fun e w' => e = .returned (.bool (rightR p)) ∧ Below w.heap.size w w' := by
  have hs := strB_size p.1
  have hb : Below w.heap.size w (w.alloc (.cells #[.string (strB p.1), .int .i64 p.2] 25)) := (Below.refl _ _).alloc (Nat.le_refl _) _
  have HB := hide hb
  clear hb
  by_cases h1 : p.1.length = 32
  · have b1 : ((p.1.length : Int) == 32) = true := by simp [h1]
    by_cases h2 : 0 ≤ p.2
    · have hr : rightR p = decide (p.2 ≤ 262144) := by unfold rightR; simp [h1, h2]
      have HR := hide hr
      clear hr h1
      go_enter Tryz.func29, Tryz.ntmps29
      go_wp2
      go_ret
      exact ⟨by rw [HR.out]; rfl, HB.out⟩
    · have hr : rightR p = false := by unfold rightR; simp [h1, h2]
      have HR := hide hr
      clear hr h1
      go_enter Tryz.func29, Tryz.ntmps29
      go_wp2
      go_ret
      exact ⟨by rw [HR.out]; rfl, HB.out⟩
  · have b1 : ((p.1.length : Int) == 32) = false := by rw [beq_eq_false_iff_ne]; omega
    have hr : rightR p = false := by unfold rightR; simp [h1]
    have HR := hide hr
    clear hr h1
    go_enter Tryz.func29, Tryz.ntmps29
    go_wp2
    go_ret
    exact ⟨by rw [HR.out]; rfl, HB.out⟩
end Go.Proofs.YtokebnkgjchfaaaGreatDoor

/-
  A file's chunks told. Conditions: the get keeps its word.
-/
namespace Go.Proofs.YtokebnkgjchfaaaGreatDoor
open Go.RowKit

/-- What Chunks meets. -/
def listP (fd : Bs → Option Bs) (p : Part) (asked : List Bs) : Wk := if p.2 = 0 then ⟨asked, [], [], 0⟩ else chS fd 21 p (-1) ⟨asked, [], [], 0⟩
def partsOf (s : Wk) : List Part := if s.bad = 0 then s.parts else []
set_option maxRecDepth 40000 in
set_option maxHeartbeats 1600000 in
theorem bchunks_no (w : World) (fv : Value) (p : Part) (h : rightR p = false) :
    Calls Tryz.prog 14 #[fv, .agg #[.string (strB p.1), .int .i64 p.2]] w fun e w' => e = .returned (.tuple #[.slice none 0 0, .int .i64 2]) ∧ Below w.heap.size w w' := by
  have hb0 : Below w.heap.size w (w.alloc (.cells #[.string (strB p.1), .int .i64 p.2] 25)) := (Below.refl _ _).alloc (Nat.le_refl _) _
  have hri := isRight_any (w.alloc (.cells #[.string (strB p.1), .int .i64 p.2] 25)) p
  rw [h] at hri
  have HB := hide hb0
  clear hb0 h
  go_enter Tryz.func14, Tryz.ntmps14
  go_wp2_with fail
  refine hri.mono ?_
  rintro e w1 ⟨rfl, hb1⟩
  have HB1 := hide (HB.out.trans (hb1.mono HB.out.size))
  clear hri hb1
  go_wp2
  go_ret2
  exact ⟨rfl, HB1.out⟩
set_option maxRecDepth 40000 in
set_option maxHeartbeats 1600000 in
theorem bchunks_any (w : World) (gf : Nat) (caps : Array Value) (fd : Bs → Option Bs) (B : Nat) (I : World → List Bs → Prop) (hG : GetOk gf caps fd B qts I) (p : Part) (asked : List Bs) (hI : I w asked) (hal : asked.length ≤ 1000) (hr : rightR p = true) :
    Calls Tryz.prog 14 #[.func (.func gf) #[] caps, .agg #[.string (strB p.1), .int .i64 p.2]] w fun e w' => (∃ v, e = .returned (.tuple #[v, .int .i64 (listP fd p asked).bad]) ∧ Rw B w' 25 2 partC v (partsOf (listP fd p asked))) ∧ I w' (listP fd p asked).asked ∧ Mv B hts none w w' := by
  obtain ⟨r1, r2, r3⟩ := (rightR_iff p).1 hr
  have hB := hG.le _ _ hI
  have hb0 : Below w.heap.size w (w.alloc (.cells #[.string (strB p.1), .int .i64 p.2] 25)) := (Below.refl _ _).alloc (Nat.le_refl _) _
  have hx0 := heap_last w (.cells #[.string (strB p.1), .int .i64 p.2] 25) _ rfl
  generalize hw0 : w.alloc (.cells #[.string (strB p.1), .int .i64 p.2] 25) = w0 at *
  have c0 := cell_of_row w0 w.heap.size 0 _ _ _ hx0
  have c1 := cell_of_row w0 w.heap.size 1 _ _ _ hx0
  simp only [List.getElem?_toArray, List.getElem?_cons_zero, List.getElem?_cons_succ] at c0 c1
  have hri := isRight_any w0 p
  rw [hr] at hri
  have H0 := hide (And.intro hb0 hx0)
  clear hb0 hx0
  go_enter Tryz.func14, Tryz.ntmps14
  go_wp2_with fail
  try rw [hw0]
  refine hri.mono ?_
  rintro e w1 ⟨rfl, hb1⟩
  have hx1 := (hb1.block _ (lt_of_heap H0.out.2)).trans H0.out.2
  have hB1 := H0.out.1.trans (hb1.mono H0.out.1.size)
  have c0 := cell_of_row w1 w.heap.size 0 _ _ _ hx1
  have c1 := cell_of_row w1 w.heap.size 1 _ _ _ hx1
  simp only [List.getElem?_toArray, List.getElem?_cons_zero, List.getElem?_cons_succ] at c0 c1
  have hnil := fun W => eql_nilF W gf caps
  have H1 := hide (And.intro hx1 hB1)
  clear hri hb1 hx1 hB1
  by_cases hz : p.2 = 0
  · have hzb : (p.2 == 0) = true := by rw [hz]; rfl
    have hlp : listP fd p asked = ⟨asked, [], [], 0⟩ := by unfold listP; rw [if_pos hz]
    have HL := hide (And.intro hlp (hG.below hI H1.out.2))
    clear hlp hz
    go_wp2
    go_ret2
    rw [HL.out.1]
    exact ⟨⟨_, rfl, World.ownsRow_nil _ _ _ _⟩, HL.out.2, Mv.of H1.out.2 hB⟩
  · have hzb : (p.2 == 0) = false := by rw [beq_eq_false_iff_ne]; exact hz
    have hx2 := (heap_past w1 (.cells #[.func (.func gf) #[] caps, .slice none 0 0] 71) _ (lt_of_heap H1.out.1)).trans H1.out.1
    have hg2 := heap_last w1 (.cells #[.func (.func gf) #[] caps, .slice none 0 0] 71) _ rfl
    have hB2 := H1.out.2.alloc H1.out.2.size (.cells #[.func (.func gf) #[] caps, .slice none 0 0] 71)
    have hI2 := hG.below hI hB2
    have hL2 : LiW B (w1.alloc (.cells #[.func (.func gf) #[] caps, .slice none 0 0] 71)) w1.heap.size (.func (.func gf) #[] caps) (.slice none 0 0) ⟨asked, [], [], 0⟩ := ⟨Nat.le_trans hB H1.out.2.size, hg2, World.ownsRow_nil _ _ _ _⟩
    have hth := thru_any w1.heap.size gf caps fd B I hG 21 (-1) (.inl ⟨rfl, by omega⟩) (w1.alloc (.cells #[.func (.func gf) #[] caps, .slice none 0 0] 71)) p ⟨asked, [], [], 0⟩ (.slice none 0 0) (fun _ => by omega) (by omega) r3 rfl hL2 hI2 (by simp only; omega) (by simp only [List.length_nil]; omega)
    have hlp : listP fd p asked = chS fd 21 p (-1) ⟨asked, [], [], 0⟩ := by unfold listP; rw [if_neg hz]
    rw [← hlp] at hth
    obtain ⟨s, hs⟩ : ∃ s, s = listP fd p asked := ⟨_, rfl⟩
    rw [← hs] at hth
    have HS := hide hs
    have d0 := cell_of_row (w1.alloc (.cells #[.func (.func gf) #[] caps, .slice none 0 0] 71)) w.heap.size 0 _ _ _ hx2
    have d1 := cell_of_row (w1.alloc (.cells #[.func (.func gf) #[] caps, .slice none 0 0] 71)) w.heap.size 1 _ _ _ hx2
    simp only [List.getElem?_toArray, List.getElem?_cons_zero, List.getElem?_cons_succ] at d0 d1
    have H2 := hide hB2
    clear hx2 hg2 hB2 hI2 hL2 hlp hs hz
    go_wp2_with fail
    refine hth.mono ?_
    rintro e w4 ⟨rfl, vc4, hL4, hI4, hM4, -⟩
    have hM := (Mv.of (r := none) (ts := hts) H2.out hB).trans hM4 (.inl rfl)
    have d1 := cell_of_row w4 w1.heap.size 1 _ _ _ hL4.2.1
    simp only [List.getElem?_toArray, List.getElem?_cons_zero, List.getElem?_cons_succ] at d1
    have HF := hide (And.intro hL4.2.2 (And.intro hI4 hM))
    obtain ⟨va, vm, vn, rfl⟩ := row_form hL4.2.2
    clear hth hL4 hI4 hM4 hM
    by_cases hb : s.bad = 0
    · have hbb : (s.bad != 0) = false := by rw [hb]; rfl
      have HV : Hid (partsOf s = s.parts ∧ s.bad = 0) := hide ⟨by unfold partsOf; rw [if_pos hb], hb⟩
      clear hb
      go_wp2
      go_ret2
      rw [← HS.out]
      refine ⟨⟨_, by rw [HV.out.2]; rfl, ?_⟩, HF.out.2.1, HF.out.2.2⟩
      rw [HV.out.1]
      exact HF.out.1
    · have hbb : (s.bad != 0) = true := by simpa using hb
      have HV : Hid (partsOf s = []) := hide (by unfold partsOf; rw [if_neg hb])
      clear hb
      go_wp2
      go_ret2
      rw [← HS.out]
      refine ⟨⟨_, rfl, ?_⟩, HF.out.2.1, HF.out.2.2⟩
      rw [HV.out]
      exact World.ownsRow_nil _ _ _ _
end Go.Proofs.YtokebnkgjchfaaaGreatDoor

/-
  The reference tells a file's chunks. Conditions: the objects lie there; texts within reach.
-/
namespace Go.Proofs.YtokebnkgjchfaaaGreatDoor
open Go.RowKit

/-- What the reference's Chunks answers. -/
def rchSaid (B : Nat) (l : List Part) (ids : List Bs) (e : Int) (en : Ending) (w' : World) : Prop :=
  ∃ vl va, en = .returned (.tuple #[vl, va, .int .i64 e]) ∧ Rw B w' 25 2 partC vl l ∧ Rw B w' 9 1 idC va ids
set_option maxRecDepth 40000 in
set_option maxHeartbeats 1600000 in
theorem rchunks_no (w : World) (vo : Value) (p : Part) (h : rightR p = false) :
    Calls Tryz.prog 16 #[vo, .agg #[.string (strB p.1), .int .i64 p.2]] w fun e w' => e = .returned (.tuple #[.slice none 0 0, .slice none 0 0, .int .i64 2]) ∧ Below w.heap.size w w' := by
  have hb0 : Below w.heap.size w (w.alloc (.cells #[.string (strB p.1), .int .i64 p.2] 25)) := (Below.refl _ _).alloc (Nat.le_refl _) _
  have hri := rright_any (w.alloc (.cells #[.string (strB p.1), .int .i64 p.2] 25)) p
  rw [h] at hri
  have HB := hide hb0
  clear hb0 h
  go_enter Tryz.func16, Tryz.ntmps16
  go_wp2_with fail
  refine hri.mono ?_
  rintro e w1 ⟨rfl, hb1⟩
  have HB1 := hide (HB.out.trans (hb1.mono HB.out.size))
  clear hri hb1
  go_wp2
  go_ret3
  exact ⟨rfl, HB1.out⟩
set_option maxRecDepth 40000 in
set_option maxHeartbeats 1600000 in
theorem rchunksT_any (w : World) (vo : Value) (objs : List Pair) (hv : Ls w.heap.size w 2 pairC vo objs) (hob : ∀ o ∈ objs, o.2.length ≤ 140737488351232) (p : Part) (hr : rightR p = true) :
    Calls Tryz.prog 16 #[vo, .agg #[.string (strB p.1), .int .i64 p.2]] w fun e w' => rchSaid w.heap.size (partsOf (listP (findO objs) p [])) (listP (findO objs) p []).asked (listP (findO objs) p []).bad e w' ∧ Below w.heap.size w w' := by
  obtain ⟨r1, r2, r3⟩ := (rightR_iff p).1 hr
  have hb0 : Below w.heap.size w (w.alloc (.cells #[.string (strB p.1), .int .i64 p.2] 25)) := (Below.refl _ _).alloc (Nat.le_refl _) _
  have hx0 := heap_last w (.cells #[.string (strB p.1), .int .i64 p.2] 25) _ rfl
  generalize hw0 : w.alloc (.cells #[.string (strB p.1), .int .i64 p.2] 25) = w0 at *
  have c0 := cell_of_row w0 w.heap.size 0 _ _ _ hx0
  have c1 := cell_of_row w0 w.heap.size 1 _ _ _ hx0
  simp only [List.getElem?_toArray, List.getElem?_cons_zero, List.getElem?_cons_succ] at c0 c1
  have hri := rright_any w0 p
  rw [hr] at hri
  have HRI := hide hri
  have H0 := hide (And.intro hb0 hx0)
  have hvf := hv
  obtain ⟨ao, cap, hvv, -⟩ := hvf
  obtain ⟨m, hm⟩ : ∃ m, m = objs.length := ⟨_, rfl⟩
  rw [← hm] at hvv
  subst hvv
  have HV := hide hv
  clear hm
  clear hb0 hx0 hri hv
  unfold rchSaid
  by_cases hz : 0 < p.2
  · go_enter Tryz.func16, Tryz.ntmps16
    go_wp2_with fail
    try rw [hw0]
    refine HRI.out.mono ?_
    rintro e w1 ⟨rfl, hb1⟩
    have hx1 := (hb1.block _ (lt_of_heap H0.out.2)).trans H0.out.2
    have hB1 := H0.out.1.trans (hb1.mono H0.out.1.size)
    have hx3 := (heap_past w1 (.cells #[.slice ao m cap, .slice none 0 0, .slice none 0 0, .slice none 0 0, .int .i64 0] 76) _ (lt_of_heap hx1)).trans hx1
    have hg3 := heap_last w1 (.cells #[.slice ao m cap, .slice none 0 0, .slice none 0 0, .slice none 0 0, .int .i64 0] 76) _ rfl
    have hB3 := hB1.alloc hB1.size (.cells #[.slice ao m cap, .slice none 0 0, .slice none 0 0, .slice none 0 0, .int .i64 0] 76)
    have hR3 : RfW w.heap.size (w1.alloc (.cells #[.slice ao m cap, .slice none 0 0, .slice none 0 0, .slice none 0 0, .int .i64 0] 76)) w1.heap.size (.slice ao m cap) objs (.slice none 0 0) ⟨[], [], [], 0⟩ := ⟨hB1.size, HV.out.keep hB3, _, _, hg3, World.ownsRow_nil _ _ _ _, World.ownsRow_nil _ _ _ _, World.ownsRow_nil _ _ _ _⟩
    have c0 := cell_of_row w1 w.heap.size 0 _ _ _ hx1
    have c1 := cell_of_row w1 w.heap.size 1 _ _ _ hx1
    have d0 := cell_of_row (w1.alloc (.cells #[.slice ao m cap, .slice none 0 0, .slice none 0 0, .slice none 0 0, .int .i64 0] 76)) w.heap.size 0 _ _ _ hx3
    have d1 := cell_of_row (w1.alloc (.cells #[.slice ao m cap, .slice none 0 0, .slice none 0 0, .slice none 0 0, .int .i64 0] 76)) w.heap.size 1 _ _ _ hx3
    simp only [List.getElem?_toArray, List.getElem?_cons_zero, List.getElem?_cons_succ] at c0 c1 d0 d1
    have hgo := rchunks_any w1.heap.size (.slice ao m cap) objs w.heap.size hob 21 (w1.alloc (.cells #[.slice ao m cap, .slice none 0 0, .slice none 0 0, .slice none 0 0, .int .i64 0] 76)) p (-1) ⟨[], [], [], 0⟩ (.slice none 0 0) (.inl ⟨rfl, by omega⟩) (by omega) (by omega) hR3 (by simp only [List.length_nil]; omega) (by simp only [List.length_nil]; omega)
    have hrp : listP (findO objs) p [] = chR (findO objs) 21 p (-1) ⟨[], [], [], 0⟩ := by unfold listP; rw [if_neg (by omega), chR_ne _ _ _ _ _ (by decide)]
    rw [← hrp] at hgo
    obtain ⟨s, hs⟩ : ∃ s, s = listP (findO objs) p [] := ⟨_, rfl⟩
    rw [← hs] at hgo
    have HS := hide hs
    have H3 := hide hB3
    clear hb1 hx1 hB1 hg3 hx3 hB3 hR3 hrp hs
    go_wp2_with fail
    refine hgo.mono ?_
    rintro e w4 ⟨rfl, vp4, hR4, hM4, -⟩
    have hB4 : Below w.heap.size w w4 := H3.out.trans hM4.b
    clear hgo hM4
    generalize w1.heap.size = gg at *
    have HF := hide (And.intro hR4 hB4)
    obtain ⟨-, -, va, vd, hh4, hra, hrd, hrp4⟩ := hR4
    have u1 := cell_of_row w4 gg 1 _ _ _ hh4
    have u3 := cell_of_row w4 gg 3 _ _ _ hh4
    have u4 := cell_of_row w4 gg 4 _ _ _ hh4
    simp only [List.getElem?_toArray, List.getElem?_cons_zero, List.getElem?_cons_succ] at u1 u3 u4
    have HRA := hide hra
    have HRP := hide hrp4
    obtain ⟨vaA, vaM, vaC, rfl⟩ := row_form hra
    obtain ⟨vpA, vpM, vpC, rfl⟩ := row_form hrp4
    clear hh4 hra hrd hrp4 hB4
    by_cases hb : s.bad = 0
    · have hbb : (s.bad != 0) = false := by rw [hb]; rfl
      have HB0 := hide hb
      clear hb
      go_wp2_with fail
      refine wp_region_held_drew (S := fun W => W.cell? ⟨gg, 1, none⟩ = some (.slice vaA vaM vaC) ∧ W.cell? ⟨gg, 3, none⟩ = some (.slice vpA vpM vpC)) (by kernel_rfl) (⟨u1, u3⟩) (fun hHeld => ?_)
      refine takeJ 0 (v := ?_) ?_ hHeld ?_
      rotate_left
      · rintro w ⟨_, _⟩; go_simp; try with_reducible rfl
      refine takeJ 1 (v := ?_) ?_ hHeld ?_
      rotate_left
      · rintro w ⟨_, _⟩; go_simp; try with_reducible rfl
      refine takeJ 2 (v := ?_) ?_ hHeld ?_
      rotate_left
      · rintro w ⟨_, _⟩; go_simp; try with_reducible rfl
      refine takeJ 3 (v := ?_) ?_ hHeld ?_
      rotate_left
      · rintro w ⟨_, _⟩; go_simp; try with_reducible rfl
      refine takeJ 4 (v := ?_) ?_ hHeld ?_
      rotate_left
      · rintro w ⟨_, _⟩; go_simp; try with_reducible rfl
      refine takeJ 5 (v := ?_) ?_ hHeld ?_
      rotate_left
      · rintro w ⟨_, _⟩; go_simp; try with_reducible rfl
      refine takeJ 6 (v := ?_) ?_ hHeld ?_
      rotate_left
      · rintro w ⟨_, _⟩; go_simp; try with_reducible rfl
      refine takeJ 7 (v := ?_) ?_ hHeld ?_
      rotate_left
      · rintro w ⟨_, _⟩; go_simp; try with_reducible rfl
      refine takeJ 8 (v := ?_) ?_ hHeld ?_
      rotate_left
      · rintro w ⟨_, _⟩; go_simp; try with_reducible rfl
      refine takeJ 9 (v := ?_) ?_ hHeld ?_
      rotate_left
      · rintro w ⟨_, _⟩; go_simp; try with_reducible rfl
      refine takeJ 10 (v := ?_) ?_ hHeld ?_
      rotate_left
      · rintro w ⟨_, _⟩; go_simp; try with_reducible rfl
      refine wpAnyH_done (by kernel_rfl) ?_ _
      clear hHeld
      go_wp2
      go_ret3
      rw [← HS.out]
      refine ⟨⟨.slice vpA vpM vpC, .slice vaA vaM vaC, ?_, ?_, HRA.out⟩, HF.out.2.drew⟩
      · rw [HB0.out]; rfl
      · rw [show partsOf s = s.parts from if_pos HB0.out]; exact HRP.out
    · have hbb : (s.bad != 0) = true := by simpa using hb
      have HB0 := hide hb
      clear hb
      go_wp2_with fail
      refine wp_region_held_drew (S := fun W => W.cell? ⟨gg, 1, none⟩ = some (.slice vaA vaM vaC) ∧ W.cell? ⟨gg, 4, none⟩ = some (.int .i64 s.bad)) (by kernel_rfl) (⟨u1, u4⟩) (fun hHeld => ?_)
      refine takeJ 0 (v := ?_) ?_ hHeld ?_
      rotate_left
      · rintro w ⟨_, _⟩; go_simp; try with_reducible rfl
      refine takeJ 1 (v := ?_) ?_ hHeld ?_
      rotate_left
      · rintro w ⟨_, _⟩; go_simp; try with_reducible rfl
      refine takeJ 2 (v := ?_) ?_ hHeld ?_
      rotate_left
      · rintro w ⟨_, _⟩; go_simp; try with_reducible rfl
      refine takeJ 3 (v := ?_) ?_ hHeld ?_
      rotate_left
      · rintro w ⟨_, _⟩; go_simp; try with_reducible rfl
      refine takeJ 4 (v := ?_) ?_ hHeld ?_
      rotate_left
      · rintro w ⟨_, _⟩; go_simp; try with_reducible rfl
      refine takeJ 5 (v := ?_) ?_ hHeld ?_
      rotate_left
      · rintro w ⟨_, _⟩; go_simp; try with_reducible rfl
      refine takeJ 6 (v := ?_) ?_ hHeld ?_
      rotate_left
      · rintro w ⟨_, _⟩; go_simp; try with_reducible rfl
      refine takeJ 7 (v := ?_) ?_ hHeld ?_
      rotate_left
      · rintro w ⟨_, _⟩; go_simp; try with_reducible rfl
      refine takeJ 8 (v := ?_) ?_ hHeld ?_
      rotate_left
      · rintro w ⟨_, _⟩; go_simp; try with_reducible rfl
      refine takeJ 9 (v := ?_) ?_ hHeld ?_
      rotate_left
      · rintro w ⟨_, _⟩; go_simp; try with_reducible rfl
      refine takeJ 10 (v := ?_) ?_ hHeld ?_
      rotate_left
      · rintro w ⟨_, _⟩; go_simp; try with_reducible rfl
      refine wpAnyH_done (by kernel_rfl) ?_ _
      clear hHeld
      go_wp2
      go_ret3
      rw [← HS.out]
      refine ⟨⟨.slice none 0 0, .slice vaA vaM vaC, rfl, ?_, HRA.out⟩, HF.out.2.drew⟩
      rw [show partsOf s = [] from if_neg HB0.out]; exact World.ownsRow_nil _ _ _ _
  · have hz0 : p.2 = 0 := by omega
    have HZ := hide hz0
    clear hz0
    go_enter Tryz.func16, Tryz.ntmps16
    go_wp2_with fail
    try rw [hw0]
    refine HRI.out.mono ?_
    rintro e w1 ⟨rfl, hb1⟩
    have hx1 := (hb1.block _ (lt_of_heap H0.out.2)).trans H0.out.2
    have hB1 := H0.out.1.trans (hb1.mono H0.out.1.size)
    have hx3 := (heap_past w1 (.cells #[.slice ao m cap, .slice none 0 0, .slice none 0 0, .slice none 0 0, .int .i64 0] 76) _ (lt_of_heap hx1)).trans hx1
    have hg3 := heap_last w1 (.cells #[.slice ao m cap, .slice none 0 0, .slice none 0 0, .slice none 0 0, .int .i64 0] 76) _ rfl
    have hB3 := hB1.alloc hB1.size (.cells #[.slice ao m cap, .slice none 0 0, .slice none 0 0, .slice none 0 0, .int .i64 0] 76)
    have c0 := cell_of_row w1 w.heap.size 0 _ _ _ hx1
    have c1 := cell_of_row w1 w.heap.size 1 _ _ _ hx1
    have d0 := cell_of_row (w1.alloc (.cells #[.slice ao m cap, .slice none 0 0, .slice none 0 0, .slice none 0 0, .int .i64 0] 76)) w.heap.size 0 _ _ _ hx3
    have d1 := cell_of_row (w1.alloc (.cells #[.slice ao m cap, .slice none 0 0, .slice none 0 0, .slice none 0 0, .int .i64 0] 76)) w.heap.size 1 _ _ _ hx3
    have e1 := cell_of_row (w1.alloc (.cells #[.slice ao m cap, .slice none 0 0, .slice none 0 0, .slice none 0 0, .int .i64 0] 76)) w1.heap.size 1 _ _ _ hg3
    have e3 := cell_of_row (w1.alloc (.cells #[.slice ao m cap, .slice none 0 0, .slice none 0 0, .slice none 0 0, .int .i64 0] 76)) w1.heap.size 3 _ _ _ hg3
    have e4 := cell_of_row (w1.alloc (.cells #[.slice ao m cap, .slice none 0 0, .slice none 0 0, .slice none 0 0, .int .i64 0] 76)) w1.heap.size 4 _ _ _ hg3
    simp only [List.getElem?_toArray, List.getElem?_cons_zero, List.getElem?_cons_succ] at c0 c1 d0 d1 e1 e3 e4
    have hrp : listP (findO objs) p [] = ⟨[], [], [], 0⟩ := by unfold listP; rw [if_pos HZ.out]
    have HS := hide hrp
    have H3 := hide hB3
    clear hb1 hx1 hB1 hg3 hx3 hB3 hrp
    go_wp2_with fail
    refine wp_region_held_drew (S := fun W => W.cell? ⟨w1.heap.size, 1, none⟩ = some (.slice none 0 0) ∧ W.cell? ⟨w1.heap.size, 3, none⟩ = some (.slice none 0 0)) (by kernel_rfl) (⟨e1, e3⟩) (fun hHeld => ?_)
    refine takeJ 0 (v := ?_) ?_ hHeld ?_
    rotate_left
    · rintro w ⟨_, _⟩; go_simp; try with_reducible rfl
    refine takeJ 1 (v := ?_) ?_ hHeld ?_
    rotate_left
    · rintro w ⟨_, _⟩; go_simp; try with_reducible rfl
    refine takeJ 2 (v := ?_) ?_ hHeld ?_
    rotate_left
    · rintro w ⟨_, _⟩; go_simp; try with_reducible rfl
    refine takeJ 3 (v := ?_) ?_ hHeld ?_
    rotate_left
    · rintro w ⟨_, _⟩; go_simp; try with_reducible rfl
    refine takeJ 4 (v := ?_) ?_ hHeld ?_
    rotate_left
    · rintro w ⟨_, _⟩; go_simp; try with_reducible rfl
    refine takeJ 5 (v := ?_) ?_ hHeld ?_
    rotate_left
    · rintro w ⟨_, _⟩; go_simp; try with_reducible rfl
    refine takeJ 6 (v := ?_) ?_ hHeld ?_
    rotate_left
    · rintro w ⟨_, _⟩; go_simp; try with_reducible rfl
    refine takeJ 7 (v := ?_) ?_ hHeld ?_
    rotate_left
    · rintro w ⟨_, _⟩; go_simp; try with_reducible rfl
    refine takeJ 8 (v := ?_) ?_ hHeld ?_
    rotate_left
    · rintro w ⟨_, _⟩; go_simp; try with_reducible rfl
    refine takeJ 9 (v := ?_) ?_ hHeld ?_
    rotate_left
    · rintro w ⟨_, _⟩; go_simp; try with_reducible rfl
    refine takeJ 10 (v := ?_) ?_ hHeld ?_
    rotate_left
    · rintro w ⟨_, _⟩; go_simp; try with_reducible rfl
    refine wpAnyH_done (by kernel_rfl) ?_ _
    clear hHeld
    go_wp2
    go_ret3
    rw [HS.out]
    exact ⟨⟨.slice none 0 0, .slice none 0 0, rfl, World.ownsRow_nil _ _ _ _, World.ownsRow_nil _ _ _ _⟩, H3.out.drew⟩
end Go.Proofs.YtokebnkgjchfaaaGreatDoor
