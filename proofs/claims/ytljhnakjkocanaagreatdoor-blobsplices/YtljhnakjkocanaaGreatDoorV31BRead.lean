/-
  Reading some of a file's bytes. Conditions: the get keeps its word.
-/
import Derived.Test.YtljhnakjkocanaaGreatDoorV27BGo
import Derived.Test.YtljhnakjkocanaaGreatDoorV11WRefTake
import Derived.Laws.EntriesVeiled
namespace Go.Proofs.YtljhnakjkocanaaGreatDoor
open Go.RowKit

/-- A right root. -/
def rightR (p : Part) : Bool := decide (p.1.length = 32) && decide (0 ≤ p.2) && decide (p.2 ≤ 262144)
theorem rightR_iff (p : Part) : rightR p = true ↔ p.1.length = 32 ∧ 0 ≤ p.2 ∧ p.2 ≤ 262144 := by
  simp only [rightR, Bool.and_eq_true, decide_eq_true_eq]
  constructor
  · rintro ⟨⟨h1, h2⟩, h3⟩; exact ⟨h1, h2, h3⟩
  · rintro ⟨h1, h2, h3⟩; exact ⟨⟨h1, h2⟩, h3⟩
set_option maxRecDepth 20000 in
theorem isRight_any (w : World) (p : Part) : Calls Tryz.prog 25 #[.agg #[.string (strB p.1), .int .i64 p.2]] w fun e w' => e = .returned (.bool (rightR p)) ∧ Below w.heap.size w w' := by
  have hs := strB_size p.1
  have hb : Below w.heap.size w (w.alloc (.cells #[.string (strB p.1), .int .i64 p.2] 25)) := (Below.refl _ _).alloc (Nat.le_refl _) _
  have HB := hide hb
  clear hb
  by_cases h1 : p.1.length = 32
  · have b1 : ((p.1.length : Int) == 32) = true := by simp [h1]
    by_cases h2 : 0 ≤ p.2
    · have hr : rightR p = decide (p.2 ≤ 262144) := by unfold rightR; simp [h1, h2]
      have HR := hide hr
      clear hr h1
      go_enter Tryz.func25, Tryz.ntmps25
      go_wp2
      go_ret
      exact ⟨by rw [HR.out]; rfl, HB.out⟩
    · have hr : rightR p = false := by unfold rightR; simp [h1, h2]
      have HR := hide hr
      clear hr h1
      go_enter Tryz.func25, Tryz.ntmps25
      go_wp2
      go_ret
      exact ⟨by rw [HR.out]; rfl, HB.out⟩
  · have b1 : ((p.1.length : Int) == 32) = false := by rw [beq_eq_false_iff_ne]; omega
    have hr : rightR p = false := by unfold rightR; simp [h1]
    have HR := hide hr
    clear hr h1
    go_enter Tryz.func25, Tryz.ntmps25
    go_wp2
    go_ret
    exact ⟨by rw [HR.out]; rfl, HB.out⟩
/-- The place behind n bytes. -/
def endP (z f n : Int) : Int := f + min n (z - f)
set_option maxRecDepth 20000 in
theorem endOf_any (w : World) (p : Part) (f n : Int) (hp : 0 ≤ p.2) (hp2 : p.2 ≤ 262144) (hf : 0 ≤ f) (hf2 : f ≤ 9223372036854775807) (hn : 0 ≤ n) (hn2 : n ≤ 9223372036854775807) : Calls Tryz.prog 26 #[.agg #[.string (strB p.1), .int .i64 p.2], .int .i64 f, .int .i64 n] w fun e w' => e = .returned (.int .i64 (endP p.2 f n)) ∧ Below w.heap.size w w' := by
  have hb : Below w.heap.size w (w.alloc (.cells #[.string (strB p.1), .int .i64 p.2] 25)) := (Below.refl _ _).alloc (Nat.le_refl _) _
  have HB := hide hb
  have hm : (if p.2 - f < n then p.2 - f else n) = min n (p.2 - f) := by split <;> omega
  have hE : endP p.2 f n = f + min n (p.2 - f) := rfl
  have hbd : -9223372036854775808 ≤ min n (p.2 - f) ∧ min n (p.2 - f) ≤ 9223372036854775807 ∧ f + min n (p.2 - f) ≤ 9223372036854775807 ∧ 0 ≤ f + min n (p.2 - f) := by omega
  rw [hE]
  generalize min n (p.2 - f) = m at *
  clear hb hE
  go_enter Tryz.func26, Tryz.ntmps26
  go_wp2
  go_ret
  exact ⟨rfl, HB.out⟩
theorem eql_nilF (W : World) (gf : Nat) (caps : Array Value) : (binOp .eql 33 (.func (.func gf) #[] caps) .nilFunc).run Tryz.prog W = .ok (.bool false) W := by
  have h : (Op.equal 33 (.func (.func gf) #[] caps) .nilFunc).run Tryz.prog W = .ok false W := by
    show (Op.equalIn (9999 + 1) 33 _ _).run Tryz.prog W = _
    unfold Op.equalIn
    simp [run_underlying Tryz.underlying33, Result.andThen]
  simp only [binOp, Sem.run_bind, h, Result.andThen, Sem.run_pure]
/-- What Read answers, and what it asked. -/
def readP (fd : Bs → Option Bs) (p : Part) (f n : Int) (asked : List Bs) : Wk := goS fd f (endP p.2 f n) 21 p 0 (-1) ⟨asked, [], [], 0⟩
def readV (s : Wk) : Value := if s.bad = 0 then .tuple #[.string (strB s.data), .int .i64 0] else .tuple #[.string ⟨#[]⟩, .int .i64 s.bad]
set_option maxRecDepth 40000 in
set_option maxHeartbeats 1600000 in
theorem bread_no (w : World) (fv : Value) (p : Part) (f n : Int) (h : ¬ (rightR p = true ∧ 0 ≤ f ∧ 0 ≤ n)) :
    Calls Tryz.prog 19 #[fv, .agg #[.string (strB p.1), .int .i64 p.2], .int .i64 f, .int .i64 n] w fun e w' => e = .returned (.tuple #[.string ⟨#[]⟩, .int .i64 2]) ∧ Below w.heap.size w w' := by
  have hb0 : Below w.heap.size w (w.alloc (.cells #[.string (strB p.1), .int .i64 p.2] 25)) := (Below.refl _ _).alloc (Nat.le_refl _) _
  have hri := isRight_any (w.alloc (.cells #[.string (strB p.1), .int .i64 p.2] 25)) p
  have HB := hide hb0
  clear hb0
  by_cases h1 : rightR p = true
  · rw [h1] at hri
    by_cases h2 : 0 ≤ f
    · have h3 : n < 0 := by
        rcases Int.lt_or_le n 0 with h3 | h3
        · exact h3
        · exact absurd ⟨h1, h2, h3⟩ h
      clear h h1
      go_enter Tryz.func19, Tryz.ntmps19
      go_wp2_with fail
      refine hri.mono ?_
      rintro e w1 ⟨rfl, hb1⟩
      have HB1 := hide (HB.out.trans (hb1.mono HB.out.size))
      clear hri hb1
      go_wp2
      go_ret2
      exact ⟨rfl, HB1.out⟩
    · have h3 : f < 0 := by omega
      clear h h1 h2
      go_enter Tryz.func19, Tryz.ntmps19
      go_wp2_with fail
      refine hri.mono ?_
      rintro e w1 ⟨rfl, hb1⟩
      have HB1 := hide (HB.out.trans (hb1.mono HB.out.size))
      clear hri hb1
      go_wp2
      go_ret2
      exact ⟨rfl, HB1.out⟩
  · have h2 : rightR p = false := by simpa using h1
    rw [h2] at hri
    clear h h1 h2
    go_enter Tryz.func19, Tryz.ntmps19
    go_wp2_with fail
    refine hri.mono ?_
    rintro e w1 ⟨rfl, hb1⟩
    have HB1 := hide (HB.out.trans (hb1.mono HB.out.size))
    clear hri hb1
    go_wp2
    go_ret2
    exact ⟨rfl, HB1.out⟩
set_option maxRecDepth 40000 in
set_option maxHeartbeats 1600000 in
theorem bread_any (w : World) (gf : Nat) (caps : Array Value) (fd : Bs → Option Bs) (B : Nat) (I : World → List Bs → Prop) (hG : GetOk gf caps fd B rts I) (p : Part) (f n : Int) (asked : List Bs) (hI : I w asked) (hal : asked.length ≤ 1000) (hr : rightR p = true) (hf : 0 ≤ f) (hf2 : f ≤ 9223372036854775807) (hn : 0 ≤ n) (hn2 : n ≤ 9223372036854775807) :
    Calls Tryz.prog 19 #[.func (.func gf) #[] caps, .agg #[.string (strB p.1), .int .i64 p.2], .int .i64 f, .int .i64 n] w fun e w' => e = .returned (readV (readP fd p f n asked)) ∧ I w' (readP fd p f n asked).asked ∧ Mv B gts none w w' := by
  obtain ⟨r1, r2, r3⟩ := (rightR_iff p).1 hr
  have hB := hG.le _ _ hI
  have hb0 : Below w.heap.size w (w.alloc (.cells #[.string (strB p.1), .int .i64 p.2] 25)) := (Below.refl _ _).alloc (Nat.le_refl _) _
  have hx0 := heap_last w (.cells #[.string (strB p.1), .int .i64 p.2] 25) _ rfl
  generalize hw0 : w.alloc (.cells #[.string (strB p.1), .int .i64 p.2] 25) = w0 at *
  have c0 := cell_of_row w0 w.heap.size 0 _ _ _ hx0
  have c1 := cell_of_row w0 w.heap.size 1 _ _ _ hx0
  simp only [List.getElem?_toArray, List.getElem?_cons_zero, List.getElem?_cons_succ] at c0 c1
  have hri := isRight_any w0 p
  rw [hr] at hri
  have H0 := hide (And.intro hb0 hx0)
  clear hb0 hx0
  go_enter Tryz.func19, Tryz.ntmps19
  go_wp2_with fail
  try rw [hw0]
  refine hri.mono ?_
  rintro e w1 ⟨rfl, hb1⟩
  have hx1 := (hb1.block _ (lt_of_heap H0.out.2)).trans H0.out.2
  have hB1 := H0.out.1.trans (hb1.mono H0.out.1.size)
  have c0 := cell_of_row w1 w.heap.size 0 _ _ _ hx1
  have c1 := cell_of_row w1 w.heap.size 1 _ _ _ hx1
  simp only [List.getElem?_toArray, List.getElem?_cons_zero, List.getElem?_cons_succ] at c0 c1
  have hnil := fun W => eql_nilF W gf caps
  have hen := endOf_any w1 p f n r2 r3 hf hf2 hn hn2
  have H1 := hide (And.intro hx1 hB1)
  clear hri hb1 hx1 hB1
  go_wp2_with fail
  refine hen.mono ?_
  rintro e w2 ⟨rfl, hb2⟩
  have hx2 := (hb2.block _ (lt_of_heap H1.out.1)).trans H1.out.1
  have hB2 := H1.out.2.trans (hb2.mono H1.out.2.size)
  have hEb : 0 ≤ endP p.2 f n ∧ endP p.2 f n ≤ 262144 := by unfold endP; omega
  obtain ⟨y, hy⟩ : ∃ y, y = endP p.2 f n := ⟨_, rfl⟩
  rw [← hy] at hEb ⊢
  have hx3 := (heap_past w2 (.cells #[.func (.func gf) #[] caps, .int .i64 f, .int .i64 y, .slice none 0 0] 79) _ (lt_of_heap hx2)).trans hx2
  have hg3 := heap_last w2 (.cells #[.func (.func gf) #[] caps, .int .i64 f, .int .i64 y, .slice none 0 0] 79) _ rfl
  have hB3 := hB2.alloc hB2.size (.cells #[.func (.func gf) #[] caps, .int .i64 f, .int .i64 y, .slice none 0 0] 79)
  have hI3 := hG.below hI hB3
  have hR3 : RdW B (w2.alloc (.cells #[.func (.func gf) #[] caps, .int .i64 f, .int .i64 y, .slice none 0 0] 79)) w2.heap.size (.func (.func gf) #[] caps) f y [] := ⟨Nat.le_trans hB hB2.size, _, hg3, World.ownsRow_nil _ _ _ _⟩
  have hgo := goTo_any w2.heap.size gf caps fd B I hG f y hf hf2 hEb.1 hEb.2 21 (w2.alloc (.cells #[.func (.func gf) #[] caps, .int .i64 f, .int .i64 y, .slice none 0 0] 79)) p 0 (-1) ⟨asked, [], [], 0⟩ (.inl ⟨rfl, by omega⟩) (by omega) r2 (by omega) rfl hR3 hI3 (by simp only; omega) (by simp only [List.length_nil]; omega)
  have hrp : readP fd p f n asked = goS fd f y 21 p 0 (-1) ⟨asked, [], [], 0⟩ := by unfold readP; rw [hy]
  rw [← hrp] at hgo
  obtain ⟨s, hs⟩ : ∃ s, s = readP fd p f n asked := ⟨_, rfl⟩
  rw [← hs] at hgo
  have HS := hide hs
  have c0 := cell_of_row (w2.alloc (.cells #[.func (.func gf) #[] caps, .int .i64 f, .int .i64 y, .slice none 0 0] 79)) w.heap.size 0 _ _ _ hx3
  have c1 := cell_of_row (w2.alloc (.cells #[.func (.func gf) #[] caps, .int .i64 f, .int .i64 y, .slice none 0 0] 79)) w.heap.size 1 _ _ _ hx3
  simp only [List.getElem?_toArray, List.getElem?_cons_zero, List.getElem?_cons_succ] at c0 c1
  have H3 := hide hB3
  clear hen hb2 hx2 hB2 hg3 hB3 hI3 hR3 hrp hs hx3 hy
  go_wp2_with fail
  refine hgo.mono ?_
  rintro e w4 ⟨rfl, hR4, hI4, hM4⟩
  have hM := (Mv.of (r := none) (ts := gts) H3.out hB).trans hM4 (Nx.refl _ _)
  obtain ⟨-, vd, hh4, hd4⟩ := hR4
  have hsl : Sl w4 vd s.data := sl_of_own hd4
  have d3 := cell_of_row w4 w2.heap.size 3 _ _ _ hh4
  simp only [List.getElem?_toArray, List.getElem?_cons_zero, List.getElem?_cons_succ] at d3
  have HF := hide (And.intro hI4 hM)
  clear hgo hI4 hM hM4 hh4
  by_cases hb : s.bad = 0
  · have hbb : (s.bad != 0) = false := by rw [hb]; rfl
    have HV : Hid (readV s = .tuple #[.string (strB s.data), .int .i64 0]) := hide (by unfold readV; rw [if_pos hb])
    clear hb
    obtain ⟨va, vm, vc, rfl⟩ := row_form hd4
    clear hd4
    go_wp2_with (refine wpList_str _ rfl (.tmp 40) rfl hsl (by first | rfl | (simp [go_sem]; done)) ?_)
    go_ret2
    rw [← HS.out, HV.out]
    exact ⟨rfl, HF.out.1, HF.out.2⟩
  · have hbb : (s.bad != 0) = true := by simpa using hb
    have HV : Hid (readV s = .tuple #[.string ⟨#[]⟩, .int .i64 s.bad]) := hide (by unfold readV; rw [if_neg hb])
    clear hb hd4 hsl
    go_wp2
    go_ret2
    rw [← HS.out, HV.out]
    exact ⟨rfl, HF.out.1, HF.out.2⟩
end Go.Proofs.YtljhnakjkocanaaGreatDoor
