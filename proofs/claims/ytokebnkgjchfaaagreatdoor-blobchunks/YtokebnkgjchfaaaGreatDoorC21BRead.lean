/-
  Texts joined: BRead, BRef0, BRef, BThru.
-/
import Derived.Test.YtokebnkgjchfaaaGreatDoorC20BGo
import Derived.Test.YtokebnkgjchfaaaGreatDoorC11WRefTake
import Derived.Laws.EntriesVeiled
import Derived.Test.YtokebnkgjchfaaaGreatDoorC17ORTakeC
/-
  Reading some of a file's bytes. Conditions: the get keeps its word.
-/
namespace Go.Proofs.YtokebnkgjchfaaaGreatDoor
open Go.RowKit

/-- A right root. -/
def rightR (p : Part) : Bool := decide (p.1.length = 32) && decide (0 ≤ p.2) && decide (p.2 ≤ 262144)
theorem rightR_iff (p : Part) : rightR p = true ↔ p.1.length = 32 ∧ 0 ≤ p.2 ∧ p.2 ≤ 262144 := by
  simp only [rightR, Bool.and_eq_true, decide_eq_true_eq]
  constructor
  · rintro ⟨⟨h1, h2⟩, h3⟩; exact ⟨h1, h2, h3⟩
  · rintro ⟨h1, h2, h3⟩; exact ⟨⟨h1, h2⟩, h3⟩
set_option maxRecDepth 20000 in
theorem isRight_any (w : World) (p : Part) : Calls Tryz.prog 25 #[.agg #[.string (strB p.1), .int .i64 p.2]] w fun e w' => e = .returned (.bool (rightR p)) ∧ Below w.heap.size w w' := by
  have hs := strB_size p.1
  have hb : Below w.heap.size w (w.alloc (.cells #[.string (strB p.1), .int .i64 p.2] 25)) := (Below.refl _ _).alloc (Nat.le_refl _) _
  have HB := hide hb
  clear hb
  by_cases h1 : p.1.length = 32
  · have b1 : ((p.1.length : Int) == 32) = true := by simp [h1]
    by_cases h2 : 0 ≤ p.2
    · have hr : rightR p = decide (p.2 ≤ 262144) := by unfold rightR; simp [h1, h2]
      have HR := hide hr
      clear hr h1
      go_enter Tryz.func25, Tryz.ntmps25
      go_wp2
      go_ret
      exact ⟨by rw [HR.out]; rfl, HB.out⟩
    · have hr : rightR p = false := by unfold rightR; simp [h1, h2]
      have HR := hide hr
      clear hr h1
      go_enter Tryz.func25, Tryz.ntmps25
      go_wp2
      go_ret
      exact ⟨by rw [HR.out]; rfl, HB.out⟩
  · have b1 : ((p.1.length : Int) == 32) = false := by rw [beq_eq_false_iff_ne]; omega
    have hr : rightR p = false := by unfold rightR; simp [h1]
    have HR := hide hr
    clear hr h1
    go_enter Tryz.func25, Tryz.ntmps25
    go_wp2
    go_ret
    exact ⟨by rw [HR.out]; rfl, HB.out⟩
/-- The place behind n bytes. -/
def endP (z f n : Int) : Int := f + min n (z - f)
set_option maxRecDepth 20000 in
theorem endOf_any (w : World) (p : Part) (f n : Int) (hp : 0 ≤ p.2) (hp2 : p.2 ≤ 262144) (hf : 0 ≤ f) (hf2 : f ≤ 9223372036854775807) (hn : 0 ≤ n) (hn2 : n ≤ 9223372036854775807) : Calls Tryz.prog 26 #[.agg #[.string (strB p.1), .int .i64 p.2], .int .i64 f, .int .i64 n] w fun e w' => e = .returned (.int .i64 (endP p.2 f n)) ∧ Below w.heap.size w w' := by
  have hb : Below w.heap.size w (w.alloc (.cells #[.string (strB p.1), .int .i64 p.2] 25)) := (Below.refl _ _).alloc (Nat.le_refl _) _
  have HB := hide hb
  have hm : (if p.2 - f < n then p.2 - f else n) = min n (p.2 - f) := by split <;> omega
  have hE : endP p.2 f n = f + min n (p.2 - f) := rfl
  have hbd : -9223372036854775808 ≤ min n (p.2 - f) ∧ min n (p.2 - f) ≤ 9223372036854775807 ∧ f + min n (p.2 - f) ≤ 9223372036854775807 ∧ 0 ≤ f + min n (p.2 - f) := by omega
  rw [hE]
  generalize min n (p.2 - f) = m at *
  clear hb hE
  go_enter Tryz.func26, Tryz.ntmps26
  go_wp2
  go_ret
  exact ⟨rfl, HB.out⟩
theorem eql_nilF (W : World) (gf : Nat) (caps : Array Value) : (binOp .eql 33 (.func (.func gf) #[] caps) .nilFunc).run Tryz.prog W = .ok (.bool false) W := by
  have h : (Op.equal 33 (.func (.func gf) #[] caps) .nilFunc).run Tryz.prog W = .ok false W := by
    show (Op.equalIn (9999 + 1) 33 _ _).run Tryz.prog W = _
    unfold Op.equalIn
    simp [run_underlying Tryz.underlying33, Result.andThen]
  simp only [binOp, Sem.run_bind, h, Result.andThen, Sem.run_pure]
/-- What Read answers, and what it asked. -/
def readP (fd : Bs → Option Bs) (p : Part) (f n : Int) (asked : List Bs) : Wk := goS fd f (endP p.2 f n) 21 p 0 (-1) ⟨asked, [], [], 0⟩
def readV (s : Wk) : Value := if s.bad = 0 then .tuple #[.string (strB s.data), .int .i64 0] else .tuple #[.string ⟨#[]⟩, .int .i64 s.bad]
set_option maxRecDepth 40000 in
set_option maxHeartbeats 1600000 in
theorem bread_any (w : World) (gf : Nat) (caps : Array Value) (fd : Bs → Option Bs) (B : Nat) (I : World → List Bs → Prop) (hG : GetOk gf caps fd B rts I) (p : Part) (f n : Int) (asked : List Bs) (hI : I w asked) (hal : asked.length ≤ 1000) (hr : rightR p = true) (hf : 0 ≤ f) (hf2 : f ≤ 9223372036854775807) (hn : 0 ≤ n) (hn2 : n ≤ 9223372036854775807) :
    Calls Tryz.prog 19 #[.func (.func gf) #[] caps, .agg #[.string (strB p.1), .int .i64 p.2], .int .i64 f, .int .i64 n] w fun e w' => e = .returned (readV (readP fd p f n asked)) ∧ I w' (readP fd p f n asked).asked ∧ Mv B gts none w w' := by
  obtain ⟨r1, r2, r3⟩ := (rightR_iff p).1 hr
  have hB := hG.le _ _ hI
  have hb0 : Below w.heap.size w (w.alloc (.cells #[.string (strB p.1), .int .i64 p.2] 25)) := (Below.refl _ _).alloc (Nat.le_refl _) _
  have hx0 := heap_last w (.cells #[.string (strB p.1), .int .i64 p.2] 25) _ rfl
  generalize hw0 : w.alloc (.cells #[.string (strB p.1), .int .i64 p.2] 25) = w0 at *
  have c0 := cell_of_row w0 w.heap.size 0 _ _ _ hx0
  have c1 := cell_of_row w0 w.heap.size 1 _ _ _ hx0
  simp only [List.getElem?_toArray, List.getElem?_cons_zero, List.getElem?_cons_succ] at c0 c1
  have hri := isRight_any w0 p
  rw [hr] at hri
  have H0 := hide (And.intro hb0 hx0)
  clear hb0 hx0
  go_enter Tryz.func19, Tryz.ntmps19
  go_wp2_with fail
  try rw [hw0]
  refine hri.mono ?_
  rintro e w1 ⟨rfl, hb1⟩
  have hx1 := (hb1.block _ (lt_of_heap H0.out.2)).trans H0.out.2
  have hB1 := H0.out.1.trans (hb1.mono H0.out.1.size)
  have c0 := cell_of_row w1 w.heap.size 0 _ _ _ hx1
  have c1 := cell_of_row w1 w.heap.size 1 _ _ _ hx1
  simp only [List.getElem?_toArray, List.getElem?_cons_zero, List.getElem?_cons_succ] at c0 c1
  have hnil := fun W => eql_nilF W gf caps
  have hen := endOf_any w1 p f n r2 r3 hf hf2 hn hn2
  have H1 := hide (And.intro hx1 hB1)
  clear hri hb1 hx1 hB1
  go_wp2_with fail
  refine hen.mono ?_
  rintro e w2 ⟨rfl, hb2⟩
  have hx2 := (hb2.block _ (lt_of_heap H1.out.1)).trans H1.out.1
  have hB2 := H1.out.2.trans (hb2.mono H1.out.2.size)
  have hEb : 0 ≤ endP p.2 f n ∧ endP p.2 f n ≤ 262144 := by unfold endP; omega
  obtain ⟨y, hy⟩ : ∃ y, y = endP p.2 f n := ⟨_, rfl⟩
  rw [← hy] at hEb ⊢
  have hx3 := (heap_past w2 (.cells #[.func (.func gf) #[] caps, .int .i64 f, .int .i64 y, .slice none 0 0] 79) _ (lt_of_heap hx2)).trans hx2
  have hg3 := heap_last w2 (.cells #[.func (.func gf) #[] caps, .int .i64 f, .int .i64 y, .slice none 0 0] 79) _ rfl
  have hB3 := hB2.alloc hB2.size (.cells #[.func (.func gf) #[] caps, .int .i64 f, .int .i64 y, .slice none 0 0] 79)
  have hI3 := hG.below hI hB3
  have hR3 : RdW B (w2.alloc (.cells #[.func (.func gf) #[] caps, .int .i64 f, .int .i64 y, .slice none 0 0] 79)) w2.heap.size (.func (.func gf) #[] caps) f y [] := ⟨Nat.le_trans hB hB2.size, _, hg3, World.ownsRow_nil _ _ _ _⟩
  have hgo := goTo_any w2.heap.size gf caps fd B I hG f y hf hf2 hEb.1 hEb.2 21 (w2.alloc (.cells #[.func (.func gf) #[] caps, .int .i64 f, .int .i64 y, .slice none 0 0] 79)) p 0 (-1) ⟨asked, [], [], 0⟩ (.inl ⟨rfl, by omega⟩) (by omega) r2 (by omega) rfl hR3 hI3 (by simp only; omega) (by simp only [List.length_nil]; omega)
  have hrp : readP fd p f n asked = goS fd f y 21 p 0 (-1) ⟨asked, [], [], 0⟩ := by unfold readP; rw [hy]
  rw [← hrp] at hgo
  obtain ⟨s, hs⟩ : ∃ s, s = readP fd p f n asked := ⟨_, rfl⟩
  rw [← hs] at hgo
  have HS := hide hs
  have c0 := cell_of_row (w2.alloc (.cells #[.func (.func gf) #[] caps, .int .i64 f, .int .i64 y, .slice none 0 0] 79)) w.heap.size 0 _ _ _ hx3
  have c1 := cell_of_row (w2.alloc (.cells #[.func (.func gf) #[] caps, .int .i64 f, .int .i64 y, .slice none 0 0] 79)) w.heap.size 1 _ _ _ hx3
  simp only [List.getElem?_toArray, List.getElem?_cons_zero, List.getElem?_cons_succ] at c0 c1
  have H3 := hide hB3
  clear hen hb2 hx2 hB2 hg3 hB3 hI3 hR3 hrp hs hx3 hy
  go_wp2_with fail
  refine hgo.mono ?_
  rintro e w4 ⟨rfl, hR4, hI4, hM4⟩
  have hM := (Mv.of (r := none) (ts := gts) H3.out hB).trans hM4 (Nx.refl _ _)
  obtain ⟨-, vd, hh4, hd4⟩ := hR4
  have hsl : Sl w4 vd s.data := sl_of_own hd4
  have d3 := cell_of_row w4 w2.heap.size 3 _ _ _ hh4
  simp only [List.getElem?_toArray, List.getElem?_cons_zero, List.getElem?_cons_succ] at d3
  have HF := hide (And.intro hI4 hM)
  clear hgo hI4 hM hM4 hh4
  by_cases hb : s.bad = 0
  · have hbb : (s.bad != 0) = false := by rw [hb]; rfl
    have HV : Hid (readV s = .tuple #[.string (strB s.data), .int .i64 0]) := hide (by unfold readV; rw [if_pos hb])
    clear hb
    obtain ⟨va, vm, vc, rfl⟩ := row_form hd4
    clear hd4
    go_wp2_with (refine wpList_str _ rfl (.tmp 40) rfl hsl (by first | rfl | (simp [go_sem]; done)) ?_)
    go_ret2
    rw [← HS.out, HV.out]
    exact ⟨rfl, HF.out.1, HF.out.2⟩
  · have hbb : (s.bad != 0) = true := by simpa using hb
    have HV : Hid (readV s = .tuple #[.string ⟨#[]⟩, .int .i64 s.bad]) := hide (by unfold readV; rw [if_neg hb])
    clear hb hd4 hsl
    go_wp2
    go_ret2
    rw [← HS.out, HV.out]
    exact ⟨rfl, HF.out.1, HF.out.2⟩
end Go.Proofs.YtokebnkgjchfaaaGreatDoor

/-
  The reference's walk in memory, and its parts: what is asked, met, read, bad. Conditions: it lies there; not too much.
-/
namespace Go.Proofs.YtokebnkgjchfaaaGreatDoor
open Go.RowKit

/-- The reference's walk g: the objects, what was asked, read, met (the row vp), the first error. -/
def RfW (B : Nat) (w : World) (g : Nat) (vo : Value) (objs : List Pair) (vp : Value) (s : Wk) : Prop :=
  B ≤ g ∧ Ls B w 2 pairC vo objs ∧ ∃ va vd, w.heap[g]? = some (.cells #[vo, va, vd, vp, .int .i64 s.bad] 76) ∧ Rw B w 9 1 idC va s.asked ∧ w.ownsRow B 5 1 vd s.data.length (bc s.data) ∧ Rw B w 25 2 partC vp s.parts
/-- What it moves. -/
abbrev fts : List TypeId := [9, 5, 76]
theorem RfW.le {B : Nat} {w : World} {g : Nat} {vo : Value} {objs : List Pair} {vp : Value} {s : Wk} (h : RfW B w g vo objs vp s) : B ≤ w.heap.size := by
  obtain ⟨hg, -, va, vd, hh, -⟩ := h
  have := lt_of_heap hh
  omega
theorem RfW.below {B : Nat} {w w' : World} {g : Nat} {vo : Value} {objs : List Pair} {vp : Value} {s : Wk} (h : RfW B w g vo objs vp s) (hb : Below w.heap.size w w') : RfW B w' g vo objs vp s := by
  have hB := h.le
  obtain ⟨hg, hl, va, vd, hh, h1, h2, h3⟩ := h
  exact ⟨hg, hl.keep (hb.mono hB), va, vd, (hb.block _ (lt_of_heap hh)).trans hh, own_same h1 (fun q hq => hb.block q (h1.lt q hq).2), own_same h2 (fun q hq => hb.block q (h2.lt q hq).2), own_same h3 (fun q hq => hb.block q (h3.lt q hq).2)⟩
theorem RfW.lt {B : Nat} {w : World} {g : Nat} {vo : Value} {objs : List Pair} {vp : Value} {s : Wk} (h : RfW B w g vo objs vp s) {q : Nat} (hq : vp.ownBlock = some q) : q < w.heap.size := by
  obtain ⟨-, -, va, vd, -, -, -, h3⟩ := h
  exact (h3.lt q hq).2
theorem set5 {w : World} {g : Nat} {v0 v1 v2 v3 v4 : Value} {t : TypeId} (h : w.heap[g]? = some (.cells #[v0, v1, v2, v3, v4] t)) (u : Value) :
    (w.setCell ⟨g, 1, none⟩ u).heap[g]? = some (.cells #[v0, u, v2, v3, v4] t) ∧ (w.setCell ⟨g, 2, none⟩ u).heap[g]? = some (.cells #[v0, v1, u, v3, v4] t) ∧ (w.setCell ⟨g, 3, none⟩ u).heap[g]? = some (.cells #[v0, v1, v2, u, v4] t) ∧ (w.setCell ⟨g, 4, none⟩ u).heap[g]? = some (.cells #[v0, v1, v2, v3, u] t) := by
  refine ⟨?_, ?_, ?_, ?_⟩ <;> (rw [heap_setCell _ _ _ _ _ _ _ h]; simp)
/-- One more is asked. -/
theorem RfW.ask {B : Nat} {w : World} {g : Nat} {vo : Value} {objs : List Pair} {vp : Value} {s : Wk} (h : RfW B w g vo objs vp s) (id : Bs) (hn : s.asked.length ≤ 4294967296) :
    ∃ va vd va' w1, w.heap[g]? = some (.cells #[vo, va, vd, vp, .int .i64 s.bad] 76) ∧ (∃ a m c, va' = .slice a m c) ∧
      (Builtin.append_ #[37, 37] 37 #[va, .slice (some ⟨w.heap.size, 0, none⟩) 1 1]).run Tryz.prog (w.alloc (.cells #[.string (strB id)] 9)).drew = .ok va' w1 ∧
      w1.heap[g]? = some (.cells #[vo, va, vd, vp, .int .i64 s.bad] 76) ∧ RfW B (w1.setCell ⟨g, 1, none⟩ va') g vo objs vp ⟨s.asked ++ [id], s.data, s.parts, s.bad⟩ ∧ Mv B fts none w w1 ∧ Mv B fts none w (w1.setCell ⟨g, 1, none⟩ va') := by
  have hB := h.le
  obtain ⟨hg, hl, va, vd, hh, h1, h2, h3⟩ := h
  obtain ⟨va', w1, hrun, hrow, hgr, -⟩ := app_id w.drew B va s.asked id h1 hB hn
  rw [drew_alloc] at hrun hgr
  rw [show w.drew.heap.size = w.heap.size from rfl] at hrun
  have h1' : Rw B (w.alloc (.cells #[.string (strB id)] 9)).drew 9 1 idC va s.asked := World.ownsRow.alloc h1 _
  have h2' : (w.alloc (.cells #[.string (strB id)] 9)).drew.ownsRow B 5 1 vd s.data.length (bc s.data) := World.ownsRow.alloc h2 _
  have h3' : Rw B (w.alloc (.cells #[.string (strB id)] 9)).drew 25 2 partC vp s.parts := World.ownsRow.alloc h3 _
  have hh' := (heap_past w (.cells #[.string (strB id)] 9) _ (lt_of_heap hh)).trans hh
  have hh1 := grow_keep h1' hgr (show (w.alloc _).drew.heap[g]? = _ from hh') (by decide)
  have hm1 : Mv B fts none w w1 := ((Mv.refl B fts none w).alloc hB _).drew.grown h1' hgr (by decide) (by simp; omega)
  have hm2 := hm1.set (j := 1) hh1 (by decide) hg va'
  refine ⟨va, vd, va', w1, hh, row_form hrow, hrun, hh1, ⟨hg, hl.keep hm2.b, va', vd, (set5 hh1 _).1, own_setCell hrow hh1 (by decide) _, own_setCell (grow_other h2' h1' hgr (own_ne h2' h1' (by decide))) hh1 (by decide) _, own_setCell (grow_other h3' h1' hgr (own_ne h3' h1' (by decide))) hh1 (by decide) _⟩, hm1, hm2⟩
/-- One more part is met. -/
theorem RfW.part {B : Nat} {w : World} {g : Nat} {vo : Value} {objs : List Pair} {vp : Value} {s : Wk} (h : RfW B w g vo objs vp s) (p : Part) (hn : s.parts.length ≤ 4294967296) :
    ∃ va vd vp' w1, w.heap[g]? = some (.cells #[vo, va, vd, vp, .int .i64 s.bad] 76) ∧ (∃ a m c, vp' = .slice a m c) ∧
      (Builtin.append_ #[38, 38] 38 #[vp, .slice (some ⟨w.heap.size, 0, none⟩) 1 1]).run Tryz.prog (w.alloc (.cells #[.string (strB p.1), .int .i64 p.2] 25)).drew = .ok vp' w1 ∧
      w1.heap[g]? = some (.cells #[vo, va, vd, vp, .int .i64 s.bad] 76) ∧ RfW B (w1.setCell ⟨g, 3, none⟩ vp') g vo objs vp' ⟨s.asked, s.data, s.parts ++ [p], s.bad⟩ ∧ Mv B fts vp.ownBlock w w1 ∧ Mv B fts vp.ownBlock w (w1.setCell ⟨g, 3, none⟩ vp') ∧ Nx w vp.ownBlock vp'.ownBlock := by
  have hB := h.le
  obtain ⟨hg, hl, va, vd, hh, h1, h2, h3⟩ := h
  obtain ⟨vp', w1, hrun, hrow, hgr, hloc⟩ := app_part w.drew B vp s.parts p h3 hB hn
  rw [drew_alloc] at hrun hgr
  rw [show w.drew.heap.size = w.heap.size from rfl] at hrun hloc
  have h1' : Rw B (w.alloc (.cells #[.string (strB p.1), .int .i64 p.2] 25)).drew 9 1 idC va s.asked := World.ownsRow.alloc h1 _
  have h2' : (w.alloc (.cells #[.string (strB p.1), .int .i64 p.2] 25)).drew.ownsRow B 5 1 vd s.data.length (bc s.data) := World.ownsRow.alloc h2 _
  have h3' : Rw B (w.alloc (.cells #[.string (strB p.1), .int .i64 p.2] 25)).drew 25 2 partC vp s.parts := World.ownsRow.alloc h3 _
  have hh' := (heap_past w (.cells #[.string (strB p.1), .int .i64 p.2] 25) _ (lt_of_heap hh)).trans hh
  have hh1 := grow_keep h3' hgr (show (w.alloc _).drew.heap[g]? = _ from hh') (by decide)
  have hm1 : Mv B fts vp.ownBlock w w1 := ((Mv.refl B fts vp.ownBlock w).alloc hB _).drew.grownRow h3' hgr (Nx.refl _ _) (by simp; omega)
  have hm2 := hm1.set (j := 3) hh1 (by decide) hg vp'
  refine ⟨va, vd, vp', w1, hh, row_form hrow, hrun, hh1, ⟨hg, hl.keep hm2.b, va, vd, (set5 hh1 _).2.2.1, own_setCell (grow_other h1' h3' hgr (own_ne h1' h3' (by decide))) hh1 (by decide) _, own_setCell (grow_other h2' h3' hgr (own_ne h2' h3' (by decide))) hh1 (by decide) _, own_setCell hrow hh1 (by decide) _⟩, hm1, hm2, ?_⟩
  rcases hloc with h | h
  · exact .inl h
  · exact .inr ⟨_, h, by omega⟩
/-- Some more is read. -/
theorem RfW.more {B : Nat} {w : World} {g : Nat} {vo : Value} {objs : List Pair} {vp : Value} {s : Wk} (h : RfW B w g vo objs vp s) (d : Bs) (hn : s.data.length + d.length ≤ 140737488355328) :
    ∃ va vd vd' w1, w.heap[g]? = some (.cells #[vo, va, vd, vp, .int .i64 s.bad] 76) ∧ (∃ a m c, vd' = .slice a m c) ∧
      (Builtin.append_ #[74, 9] 74 #[vd, .string (strB d)]).run Tryz.prog w.drew = .ok vd' w1 ∧
      w1.heap[g]? = some (.cells #[vo, va, vd, vp, .int .i64 s.bad] 76) ∧ RfW B (w1.setCell ⟨g, 2, none⟩ vd') g vo objs vp ⟨s.asked, s.data ++ d, s.parts, s.bad⟩ ∧ Mv B fts none w w1 ∧ Mv B fts none w (w1.setCell ⟨g, 2, none⟩ vd') := by
  have hB := h.le
  obtain ⟨hg, hl, va, vd, hh, h1, h2, h3⟩ := h
  obtain ⟨vd', w1, hrun, hrow, hgr⟩ := app_str (w := w.drew) (m := d) h2 hn hB
  have hh1 := grow_keep (w := w.drew) h2 hgr hh (by decide)
  have hm1 : Mv B fts none w w1 := (Mv.refl B fts none w).drew.grown h2 hgr (by decide) hB
  have hm2 := hm1.set (j := 2) hh1 (by decide) hg vd'
  refine ⟨va, vd, vd', w1, hh, row_form hrow, hrun, hh1, ⟨hg, hl.keep hm2.b, va, vd', (set5 hh1 _).2.1, own_setCell (grow_other (w := w.drew) h1 h2 hgr (own_ne (w := w.drew) h1 h2 (by decide))) hh1 (by decide) _, own_setCell hrow hh1 (by decide) _, own_setCell (grow_other (w := w.drew) h3 h2 hgr (own_ne (w := w.drew) h3 h2 (by decide))) hh1 (by decide) _⟩, hm1, hm2⟩
set_option maxRecDepth 20000 in
theorem fail_any (B : Nat) (w : World) (g : Nat) (vo : Value) (objs : List Pair) (vp : Value) (s : Wk) (e : Int) (h : RfW B w g vo objs vp s) (hs : s.bad = 0) :
    Calls Tryz.prog 45 #[.pointer (some ⟨g, 0, none⟩), .int .i64 e] w fun en w' => en = .returned (.tuple #[]) ∧ RfW B w' g vo objs vp ⟨s.asked, s.data, s.parts, e⟩ ∧ Mv B fts none w w' := by
  have hB := h.le
  obtain ⟨hg, hl, va, vd, hh, h1, h2, h3⟩ := h
  rw [hs] at hh
  have c4 := cell_of_row w g 4 _ _ _ hh
  simp only [List.getElem?_toArray, List.getElem?_cons_zero, List.getElem?_cons_succ] at c4
  have f4 := frozen0 (j := 4) hh
  have hm := (Mv.refl B fts none w).set (j := 4) hh (by decide) hg (.int .i64 e)
  have FIN := hide (show RfW B (w.setCell ⟨g, 4, none⟩ (.int .i64 e)) g vo objs vp ⟨s.asked, s.data, s.parts, e⟩ ∧ _ from ⟨⟨hg, hl.keep hm.b, va, vd, (set5 hh _).2.2.2, own_setCell h1 hh (by decide) _, own_setCell h2 hh (by decide) _, own_setCell h3 hh (by decide) _⟩, hm⟩)
  clear hl hh h1 h2 h3 hm hs
  go_enter Tryz.func45, Tryz.ntmps45
  go_wp2
  go_end0
  exact ⟨rfl, FIN.out.1, FIN.out.2⟩
end Go.Proofs.YtokebnkgjchfaaaGreatDoor

/-
  The reference goes to bytes, as the plain one says. Conditions: its walk lies there; places within a file.
-/
namespace Go.Proofs.YtokebnkgjchfaaaGreatDoor
open Go.RowKit
theorem chunkV_yes {b d : Bs} (h : takenChunk b = some d) : chunkV b = .tuple #[.string (strB d), .int .i64 0] := by unfold chunkV; rw [h]
theorem nodeOf_c {b d : Bs} (h : takenChunk b = some d) : nodeOf b = some (0, d, []) := by unfold nodeOf; rw [h]
theorem nodeOf_f {b : Bs} {f : Fan} (h : takenChunk b = none) (h2 : takenFan b = some f) : nodeOf b = some (f.1, [], f.2) := by unfold nodeOf; rw [h, h2]
theorem nodeOf_n {b : Bs} (h : takenChunk b = none) (h2 : takenFan b = none) : nodeOf b = none := by unfold nodeOf; rw [h, h2]
/-- What the fan's bytes say, in one form. -/
theorem fan_form (b : Bs) : ∃ (lv : Int) (xs : List Part) (kd : Int), (∀ B e w', fanSaid B b e w' → ∃ v, e = .returned (.tuple #[.agg #[.int .i64 lv, v], .int .i64 kd]) ∧ w'.ownsRow B 25 2 v xs.length (xs.flatMap partC)) ∧ ((kd = 0 ∧ takenFan b = some (lv, xs)) ∨ (kd = 81 ∧ takenFan b = none ∧ xs = [] ∧ lv = 0)) := by
  unfold fanSaid
  cases h : takenFan b with
  | none => exact ⟨0, [], 81, fun B e w' he => ⟨_, he, World.ownsRow_nil _ _ _ _⟩, .inr ⟨rfl, rfl, rfl, rfl⟩⟩
  | some f => exact ⟨f.1, f.2, 0, fun B e w' he => he, .inl ⟨rfl, rfl⟩⟩
end Go.Proofs.YtokebnkgjchfaaaGreatDoor

/-
  Going through all fans, one list after another. Conditions: the get keeps its word; sizes of a file.
-/
namespace Go.Proofs.YtokebnkgjchfaaaGreatDoor
open Go.RowKit

/-- The listing g: its get, the chunks so far (the row vc). -/
def LiW (B : Nat) (w : World) (g : Nat) (fv vc : Value) (s : Wk) : Prop :=
  B ≤ g ∧ w.heap[g]? = some (.cells #[fv, vc] 71) ∧ Rw B w 25 2 partC vc s.parts
/-- What listing moves; what of it a get knows nothing of. -/
abbrev hts : List TypeId := [9, 37, 71]
abbrev qts : List TypeId := [96, 71]
theorem LiW.below {B : Nat} {w w' : World} {g : Nat} {fv vc : Value} {s : Wk} (h : LiW B w g fv vc s) (hb : Below w.heap.size w w') : LiW B w' g fv vc s :=
  ⟨h.1, (hb.block _ (lt_of_heap h.2.1)).trans h.2.1, own_same h.2.2 (fun q hq => hb.block q (h.2.2.lt q hq).2)⟩
theorem LiW.keep {B B' : Nat} {w w' : World} {g : Nat} {fv vc : Value} {s : Wk} {ts : List TypeId} (h : LiW B w g fv vc s) (hm : Mv B' ts none w w') (h1 : 71 ∉ ts) (h2 : 25 ∉ ts) : LiW B w' g fv vc s :=
  ⟨h.1, hm.k _ _ _ _ h.2.1 h1 (by simp), hm.own0 h.2.2 h2⟩
/-- What goThrough does, at most k levels down. -/
def ThruOk (g gf : Nat) (caps : Array Value) (fd : Bs → Option Bs) (B : Nat) (I : World → List Bs → Prop) (k : Nat) (level : Int) : Prop :=
  ∀ (w : World) (p : Part) (s : Wk) (vc : Value), (level = -1 → p.1.length ≤ 140737488355328) → 1 ≤ p.2 → p.2 ≤ 262144 → s.bad = 0 → LiW B w g (.func (.func gf) #[] caps) vc s → I w s.asked → s.asked.length + k * p.2.toNat ≤ 4294967296 → s.parts.length + p.2.toNat ≤ 4294967296 →
    Calls Tryz.prog 31 #[.pointer (some ⟨g, 0, none⟩), .agg #[.string (strB p.1), .int .i64 p.2], .int .i64 level] w fun e w' => e = .returned (.int .i64 (chS fd k p level s).bad) ∧ ∃ vc', LiW B w' g (.func (.func gf) #[] caps) vc' (chS fd k p level s) ∧ I w' (chS fd k p level s).asked ∧ Mv B hts vc.ownBlock w w' ∧ Nx w vc.ownBlock vc'.ownBlock
set_option maxRecDepth 40000 in
set_option maxHeartbeats 1600000 in
theorem thruEach_any (g gf : Nat) (caps : Array Value) (fd : Bs → Option Bs) (B : Nat) (I : World → List Bs → Prop) (hG : GetOk gf caps fd B qts I) (k : Nat) (level : Int) (hT : ThruOk g gf caps fd B I k level) (hlv : level ≠ -1) (w : World) (v : Value) (xs : List Part) (B' : Nat) (s : Wk) (vc : Value) (hov : w.ownsRow B' 25 2 v xs.length (xs.flatMap partC)) (hne : v.ownBlock = none ∨ v.ownBlock ≠ vc.ownBlock) (hxs : ∀ q ∈ xs, 1 ≤ q.2) (hsum : sizeP xs ≤ 262144) (hlen : xs.length ≤ 32)
    (hs : s.bad = 0) (hL : LiW B w g (.func (.func gf) #[] caps) vc s) (hI : I w s.asked) (hn1 : s.asked.length + k * (sizeP xs).toNat ≤ 4294967296) (hn2 : s.parts.length + (sizeP xs).toNat ≤ 4294967296) :
    Calls Tryz.prog 44 #[.pointer (some ⟨g, 0, none⟩), v, .int .i64 level] w fun e w' => e = .returned (.int .i64 (eachP (fun q _ t => chS fd k q level t) xs 0 s).bad) ∧ ∃ vc', LiW B w' g (.func (.func gf) #[] caps) vc' (eachP (fun q _ t => chS fd k q level t) xs 0 s) ∧ I w' (eachP (fun q _ t => chS fd k q level t) xs 0 s).asked ∧ Mv B hts vc.ownBlock w w' ∧ Nx w vc.ownBlock vc'.ownBlock := by
  obtain ⟨f, hf⟩ : ∃ f : Part → Int → Wk → Wk, f = fun q _ t => chS fd k q level t := ⟨_, rfl⟩
  rw [← hf]
  have hfd : ∀ q b t, t.bad ≠ 0 → f q b t = t := by subst hf; exact fun q b t h => chS_dead _ _ _ _ _ h
  have hfg : ∀ q b t, 1 ≤ q.2 → Grows t (f q b t) (k * q.2.toNat) q.2.toNat := by subst hf; exact fun q b t h => chS_grows _ _ _ _ _ h
  have HF := hide (And.intro hfd (And.intro hfg hf))
  obtain ⟨ao, cap, hvv, -⟩ := own_form hov
  obtain ⟨m, hm⟩ : ∃ m, m = xs.length := ⟨_, rfl⟩
  rw [← hm] at hvv
  subst hvv
  have HM := hide hm
  have hm32 : m ≤ 32 := by omega
  have H0 := hide (And.intro hov (And.intro hne (And.intro hL hI)))
  have HN := hide (And.intro hn1 hn2)
  have HS := hide hs
  clear hfd hfg hf hm hov hne hL hI hn1 hn2 hs hlen
  go_enter Tryz.func44, Tryz.ntmps44
  go_wp2_with fail
  go_loopw [12] (fun t wr => ∃ j : Nat, j ≤ m ∧ t = .int .i64 j ∧ (eachP f (xs.take j) 0 s).bad = 0 ∧ ∃ vcj, LiW B wr g (.func (.func gf) #[] caps) vcj (eachP f (xs.take j) 0 s) ∧ I wr (eachP f (xs.take j) 0 s).asked ∧ Mv B hts vc.ownBlock w wr ∧ Nx w vc.ownBlock vcj.ownBlock)
    (fun t _ => m - (intOf t).toNat)
  case atStart => exact ⟨0, by omega, rfl, HS.out, vc, H0.out.2.2.1, H0.out.2.2.2, Mv.refl _ _ _ _, Nx.refl _ _⟩
  case round =>
    obtain ⟨j, hj, rfl, hbd, vcj, hLr, hIr, hMr, hNr⟩ := hrel
    by_cases hlt : j < m
    · have hlt2 : j < xs.length := by have := HM.out; omega
      have hovr := hMr.own H0.out.1 (by decide) H0.out.2.1
      obtain ⟨bb, off, rfl, k0, k1⟩ := own_part hovr hlt2
      have hwi := sizeP_within xs hxs j hlt2
      have hst := eachP_step f xs j hlt2 0 s
      have hgr := eachP_grows HF.out.2.1 (xs.take j) 0 s (fun q hq => hxs q (List.mem_of_mem_take hq))
      generalize xs[j] = kd at *
      obtain ⟨sj, hsj⟩ : ∃ sj, sj = eachP f (xs.take j) 0 s := ⟨_, rfl⟩
      rw [← hsj] at hbd hLr hIr hst hgr
      have hb6 : Below wr.heap.size wr (wr.alloc (.cells #[.string (strB kd.1), .int .i64 kd.2] 25)) := (Below.refl _ _).alloc (Nat.le_refl _) _
      have hp6 := heap_last wr (.cells #[.string (strB kd.1), .int .i64 kd.2] 25) _ rfl
      have hL6 := hLr.below hb6
      have hI6 := hG.below hIr hb6
      have hM6 := hMr.more hb6 (hG.le _ _ hIr)
      generalize hw6 : wr.alloc (.cells #[.string (strB kd.1), .int .i64 kd.2] 25) = w6 at *
      have p0 := cell_of_row w6 wr.heap.size 0 _ _ _ hp6
      have p1 := cell_of_row w6 wr.heap.size 1 _ _ _ hp6
      simp only [List.getElem?_toArray, List.getElem?_cons_zero, List.getElem?_cons_succ] at p0 p1
      have hmul : k * (sizeP (xs.take j)).toNat + k * kd.2.toNat ≤ k * (sizeP xs).toNat := by rw [← Nat.mul_add]; exact Nat.mul_le_mul_left _ (by omega)
      have hrec := hT w6 kd sj vcj (fun h => absurd h hlv) (by omega) (by omega) hbd hL6 hI6 (by have := hgr.1; have := HN.out.1; omega) (by have := hgr.2.2; have := HN.out.2; omega)
      have hff : f kd (0 + sizeP (xs.take j)) sj = chS fd k kd level sj := by rw [HF.out.2.2]
      rw [← hff, ← hst] at hrec
      have H6 := hide (And.intro hM6 hNr)
      obtain ⟨sn, hsn⟩ : ∃ sn, sn = eachP f (xs.take (j + 1)) 0 s := ⟨_, rfl⟩
      rw [← hsn] at hrec
      have HSN := hide hsn
      clear hb6 hp6 hL6 hI6 hM6 hmul hff hst hgr hbd hLr hIr hMr hNr hovr hsj hsn hwi
      go_wp2_with fail
      refine hrec.mono ?_
      rintro e w9 ⟨rfl, vc9, hL9, hI9, hM9, hN9⟩
      have hM := H6.out.1.trans hM9 H6.out.2
      have hN := H6.out.2.trans hN9 H6.out.1.size
      have H9 := hide (And.intro hL9 (And.intro hI9 (And.intro hM hN)))
      clear hrec hL9 hI9 hM9 hN9 hM hN
      by_cases hb9 : sn.bad = 0
      · have hbb : (sn.bad != 0) = false := by rw [hb9]; rfl
        have HB9 := hide hb9
        clear hb9
        go_wp2
        go_roundw
        case rel => exact ⟨j + 1, by omega, by go_num, by rw [← HSN.out]; exact HB9.out, vc9, by rw [← HSN.out]; exact H9.out.1, by rw [← HSN.out]; exact H9.out.2.1, H9.out.2.2.1, H9.out.2.2.2⟩
        case measure => simp [intOf]; omega
      · have hbb : (sn.bad != 0) = true := by simpa using hb9
        have hstop := eachP_stop HF.out.1 xs (j + 1) 0 s (by rw [← HSN.out]; exact hb9)
        have HST := hide hstop
        clear hstop hb9
        go_wp2
        go_ret
        rw [HST.out, ← HSN.out]
        exact ⟨rfl, vc9, H9.out.1, H9.out.2.1, H9.out.2.2.1, H9.out.2.2.2⟩
    · obtain rfl : j = m := by omega
      have htk : xs.take j = xs := by rw [HM.out, List.take_length]
      rw [htk] at hbd hLr hIr
      have HL := hide (And.intro hbd (And.intro hLr (And.intro hIr (And.intro hMr hNr))))
      clear hbd hLr hIr hMr hNr htk
      go_wp2
      go_ret
      exact ⟨by rw [HL.out.1]; rfl, vcj, HL.out.2.1, HL.out.2.2.1, HL.out.2.2.2.1, HL.out.2.2.2.2⟩
/-- Parts laid behind a row of parts. -/
theorem app_parts (w : World) (B B' : Nat) (v u : Value) (xs ys : List Part) (h : Rw B w 25 2 partC v xs) (hu : w.ownsRow B' 25 2 u ys.length (ys.flatMap partC)) (hy : 1 ≤ ys.length) (hB : B ≤ w.heap.size) (hn : xs.length + ys.length ≤ 4294967296) :
    ∃ v' w', (Builtin.append_ #[38, 38] 38 #[v, u]).run Tryz.prog w = .ok v' w' ∧ Rw B w' 25 2 partC v' (xs ++ ys) ∧ w.grownBy w' v.ownBlock ∧ (v'.ownBlock = v.ownBlock ∨ v'.ownBlock = some w.heap.size) := by
  obtain ⟨i0, hi, hz0, hz1, hz2⟩ := info_parts Tryz.zPart
  have hu2 := hu.2
  rcases hu2 with ⟨rfl, h0⟩ | ⟨g4, cap4, cur4, rfl, -, -, -, -, -, -⟩
  · omega
  have hlen : (ys.flatMap partC).length = ys.length * 2 := hu.1
  have hone : ∀ x ∈ ys.flatMap partC, x.oneCell' = true := by
    intro x hx
    obtain ⟨q, -, hq⟩ := List.mem_flatMap.1 hx
    simp only [partC, List.mem_cons, List.not_mem_nil, or_false] at hq
    rcases hq with rfl | rfl <;> rfl
  obtain ⟨v', w', h1, h2, h3, -, h4⟩ := run_append_own_at (P := Tryz.prog) w B 38 38 25 i0 (.agg #[.string ⟨#[]⟩, .int .i64 0]) 2 24 Tryz.underlying38 hi hz0 hz1 hz2 rfl (by decide) v xs.length (xs.flatMap partC) h ⟨g4, 0, none⟩ ys.length cap4 (ys.flatMap partC) hlen (World.ownsRow.cells hu (g := g4) rfl) hone (by unfold maxLen; omega) (by omega) hB
  refine ⟨v', w', h1, ?_, h3, h4⟩
  unfold Rw
  rw [List.length_append, List.flatMap_append]
  exact h2
end Go.Proofs.YtokebnkgjchfaaaGreatDoor
