/-
  Texts joined: OTake, OTakes, ORise, OSay, OTop1, OTop2, OTop3, OShown, OOnce, OCommit, OTop4.
-/
import Derived.Test.YtokebnkgjchfaaaGreatDoorS6ORead
import Derived.Test.YtokebnkgjchfaaaGreatDoorS5OList
import Derived.Deep.Onto
/-
  Parts, pairs, links, and lists of them, read. Conditions: lengths within reach.
-/
namespace Go.Proofs.YtokebnkgjchfaaaGreatDoor
open Go.RowKit
variable {N : Nat}

theorem gb_setnew {w a : World} {r : Option Nat} {n i : Nat} {u : Value} (h : w.grownBy a r) (hn : w.heap.size ≤ n) : w.grownBy (a.setCell ⟨n, i, none⟩ u) r := by
  have k := gb_set a n i u
  exact ⟨k.os.trans h.os, k.tape.trans h.tape, k.output.trans h.output, Nat.le_trans h.size k.size, fun j hj hr => (k.block j (Nat.lt_of_lt_of_le hj h.size) (fun e => by injection e with e; omega)).trans (h.block j hj hr)⟩
theorem gb_new {w a b : World} {r row : Option Nat} (h : w.grownBy a r) (k : a.grownBy b row) (hrow : ∀ q, row = some q → w.heap.size ≤ q) : w.grownBy b r :=
  ⟨k.os.trans h.os, k.tape.trans h.tape, k.output.trans h.output, Nat.le_trans h.size k.size, fun j hj hr => (k.block j (Nat.lt_of_lt_of_le hj h.size) (fun e => by have := hrow j e.symm; omega)).trans (h.block j hj hr)⟩
theorem Rd.set {w : World} {g : Nat} {l : Bs} {s : Pos} {n i : Nat} {u : Value} (h : Rd N w g l s) (hn : g < n ∨ n < N ∧ n ≠ g) : Rd N (w.setCell ⟨n, i, none⟩ u) g l s := by
  have hl := h.lt
  obtain ⟨v, h1, h2, h3⟩ := h
  exact ⟨v, ((gb_set w n i u).block g hl (fun e => by injection e with e; omega)).trans h1, fun w' hu => h2 w' (und_trans (und_set w u hl (by omega)) hu), h3⟩
theorem Rd.grown {a b : World} {g : Nat} {l : Bs} {s : Pos} {row : Option Nat} (h : Rd N a g l s) (k : a.grownBy b row) (hrow : ∀ q, row = some q → g < q) : Rd N b g l s := by
  have hl := h.lt
  obtain ⟨v, h1, h2, h3⟩ := h
  refine ⟨v, (k.block g hl (fun e => by have := hrow g e.symm; omega)).trans h1, fun w' hu => h2 w' (und_trans ⟨k.size, fun j _ hj => k.block j (by omega) (fun e => by have := hrow j e.symm; omega)⟩ hu), h3⟩
theorem ne_own' {B : Nat} {w : World} {g size : Nat} {v : Value} {n : Nat} {xs : List Value} {cs : Array Value} {t e : TypeId} {fr : Nat × Nat} (hown : w.ownsRow B e size v n xs) (hh : w.heap[g]? = some (.cells cs t fr)) (hte : t ≠ e) : v.ownBlock ≠ some g := by
  intro hk
  obtain ⟨c, fz, h1⟩ := Lib.ownsRow_kind hown g hk
  rw [hh] at h1
  injection h1 with h1
  injection h1 with _ h1
  exact hte h1
theorem Rd.heap {w : World} {g : Nat} {l : Bs} {s : Pos} (h : Rd N w g l s) : ∃ cs, w.heap[g]? = some (.cells cs 175) := by
  obtain ⟨v, h1, _⟩ := h
  exact ⟨_, h1⟩
theorem rC_le (l : Bs) (most : Int) (s : Pos) (h : 0 ≤ most) : 0 ≤ (rC l most s).1 ∧ (rC l most s).1 ≤ most := by
  unfold rC
  split
  · exact ⟨Int.le_refl _, h⟩
  · omega
theorem rN_step {α : Type} (one : Pos → α × Pos) : ∀ (n : Nat) (s : Pos) (k : Nat), k ≤ n → rN one n s = ((rN one k s).1 ++ (rN one (n - k) (rN one k s).2).1, (rN one (n - k) (rN one k s).2).2)
  | n, s, 0, _ => by simp [rN]
  | 0, s, k + 1, h => by omega
  | n + 1, s, k + 1, h => by
    have ih := rN_step one n (one s).2 k (by omega)
    simp only [rN]
    rw [show n + 1 - (k + 1) = n - k from by omega, ih]
    simp
theorem rN_snoc {α : Type} (one : Pos → α × Pos) (k : Nat) (s : Pos) : rN one (k + 1) s = ((rN one k s).1 ++ [(one (rN one k s).2).1], (one (rN one k s).2).2) := by
  rw [rN_step one (k + 1) s k (by omega), show k + 1 - k = 1 from by omega]
  rfl
theorem rN_length {α : Type} (one : Pos → α × Pos) : ∀ (n : Nat) (s : Pos), (rN one n s).1.length = n
  | 0, _ => rfl
  | n + 1, s => by simp [rN, rN_length one n]
theorem Tryz.infoPart : (Tryz.prog.info? 25).map (·.size) = some 2 := by kernel_rfl
theorem heap_set3all {w : World} {g : Nat} {v0 v1 v2 u0 u1 u2 : Value} {t : TypeId} (h : w.heap[g]? = some (.cells #[v0, v1, v2] t)) : (((w.setCell ⟨g, 0, none⟩ u0).setCell ⟨g, 1, none⟩ u1).setCell ⟨g, 2, none⟩ u2).heap[g]? = some (.cells #[u0, u1, u2] t) := by
  rw [heap_setCell _ _ _ _ _ _ _ (heap_setCell _ _ _ _ _ _ _ (heap_setCell _ _ _ _ _ _ _ h))]
  simp

set_option maxRecDepth 20000 in
theorem takePart_any (w : World) (g : Nat) (l : Bs) (s : Pos) (h : Rd N w g l s) (hl : l.length ≤ 140737488355328) :
    Took N 102 #[.pointer (some ⟨g, 0, none⟩)] w g l (.agg #[.string (strB (rPart l s).1.1), .int .i64 (rPart l s).1.2]) (rPart l s).2 := by
  have hgn := h.lt
  have hx0 := heap_last w (.cells #[.string ⟨#[]⟩, .int .i64 0] 25) _ rfl
  have h0 := h.alloc (.cells #[.string ⟨#[]⟩, .int .i64 0] 25)
  have hg0 := gb_alloc w (.cells #[.string ⟨#[]⟩, .int .i64 0] 25) (some g)
  have hn0 : w.heap.size < (w.alloc (.cells #[.string ⟨#[]⟩, .int .i64 0] 25)).heap.size := by simp
  unfold Took rPart  rP
  dsimp only
  have H0 := hide h0
  clear h h0
  generalize hw0 : w.alloc (.cells #[.string ⟨#[]⟩, .int .i64 0] 25) = w0 at *
  go_enter Tryz.func102, Tryz.ntmps102
  go_wp2_with fail
  try rw [hw0]
  have hT1 := takeId_any w0 g l (s) H0.out hl
  unfold Took at hT1
  skip
  refine hT1.mono ?_
  rintro e w1 ⟨rfl, hR1, hg1⟩
  have hx1 := (hg1.block _ (lt_of_heap hx0) (fun e => by injection e with e; omega)).trans hx0
  have hG1 := gb_trans hg0 hg1
  have HR1 := hide hR1
  clear hR1 hT1
  have hT2 := takeNumber_any w1 g l ((rD l (s)).2) HR1.out hl
  unfold Took at hT2
  go_wp2_with fail
  refine hT2.mono ?_
  rintro e w2 ⟨rfl, hR2, hg2⟩
  have hx2 := (hg2.block _ (lt_of_heap hx1) (fun e => by injection e with e; omega)).trans hx1
  have hG2 := gb_trans hG1 hg2
  have HR2 := hide hR2
  clear hR2 hT2
  have c0 := cell_of_row w2 w.heap.size 0 _ _ _ hx2
  simp only [List.getElem?_toArray, List.getElem?_cons_zero] at c0
  have f0 := frozen0 (j := 0) hx2
  have c1 := cell_of_row w2 w.heap.size 1 _ _ _ hx2
  simp only [List.getElem?_toArray, List.getElem?_cons_zero, List.getElem?_cons_succ] at c1
  have f1 := frozen0 (j := 1) hx2
  go_wp2
  refine bodyPost_ret (results_cell_row rfl _ _ _ _ _ _ _ rfl (heap_set2 hx2) Tryz.underlying25 rfl Tryz.infoPart) rfl ⟨rfl, ((HR2.out.set (.inl hgn)).set (.inl hgn)), (gb_setnew (gb_setnew hG2 (Nat.le_refl _)) (Nat.le_refl _))⟩

end Go.Proofs.YtokebnkgjchfaaaGreatDoor

/-
  Lists, read. Conditions: lengths within reach; at most 64 of a list.
-/
namespace Go.Proofs.YtokebnkgjchfaaaGreatDoor
open Go.RowKit
variable {N : Nat}

theorem flat_one {α : Type} (cs : α → List Value) (xs : List α) (x : α) : (xs ++ [x]).flatMap cs = xs.flatMap cs ++ cs x := by simp
theorem Tryz.zPart : (Tryz.prog.info? 25).map (fun i => (i.zero, i.size, i.bytes)) = some (some (.agg #[.string ⟨#[]⟩, .int .i64 0]), 2, 24) := by kernel_rfl
theorem Tryz.zStr : (Tryz.prog.info? 9).map (fun i => (i.zero, i.size, i.bytes)) = some (some (.string ⟨#[]⟩), 1, 16) := by kernel_rfl
theorem news_at (w : World) (cs : List Value) (t : TypeId) : ∀ j u, cs[j]? = some u → (w.alloc (.cells cs.toArray t)).cell? ((⟨w.heap.size, 0, none⟩ : Addr).add j) = some u := by
  intro j u hu
  rw [Addr.add_lit, Nat.zero_add, cell_of_row _ _ _ _ _ _ (heap_last w _ _ rfl), List.getElem?_toArray]
  exact hu

set_option maxRecDepth 20000 in
theorem takeParts_any (w : World) (g : Nat) (l : Bs) (s : Pos) (most : Nat) (hm : most ≤ 64) (h : Rd N w g l s) (hl : l.length ≤ 140737488355328) :
    Calls Tryz.prog 101 #[.pointer (some ⟨g, 0, none⟩), .int .i64 (most : Int), .func (.func 102) #[.pointer (some ⟨g, 0, none⟩)] #[]] w fun e w' => ∃ v, e = .returned v ∧
      w'.ownsRow w.heap.size 25 2 v (rL l most (rPart l) s).1.length ((rL l most (rPart l) s).1.flatMap partC) ∧ Rd N w' g l (rL l most (rPart l) s).2 ∧ w.grownBy w' (some g) := by
  obtain ⟨i0, hi, hz0, hz1, hz2⟩ := info_parts Tryz.zPart
  have hgn := h.lt
  have hS := takeSmall_any w g l s most h hl
  have hrc := rC_le l most s (by omega)
  unfold Took at hS
  unfold rL
  generalize hx : rC l most s = x at *
  obtain ⟨c, s1⟩ := x
  obtain ⟨n, rfl⟩ := Int.eq_ofNat_of_zero_le hrc.1
  simp only [Int.toNat_natCast] at *
  have hn : n ≤ 64 := by omega
  have hlen := rN_length (rPart l) n s1
  clear h hx
  go_enter Tryz.func101, Tryz.ntmps101
  go_wp2_with fail
  refine hS.mono ?_
  rintro e w1 ⟨rfl, hR1, hg1⟩
  have HR1 := hide hR1
  have HG1 := hide hg1
  clear hS hR1 hg1
  go_wp2_with fail
  go_loopw [11, 7] (fun t v wr => ∃ k : Nat, k ≤ n ∧ t = .int .i64 k ∧ wr.ownsRow w.heap.size 25 2 v k ((rN (rPart l) k s1).1.flatMap partC) ∧ Rd N wr g l (rN (rPart l) k s1).2 ∧ w.grownBy wr (some g))
    (fun t _ _ => n - (intOf t).toNat)
  case atStart => exact ⟨0, by omega, rfl, World.ownsRow_nil _ _ _ _, HR1.out, HG1.out⟩
  case round =>
    clear HR1 HG1
    obtain ⟨k, hk, rfl, hown, hR, hg⟩ := hrel
    by_cases hlt : k < n
    · have hT := takePart_any wr g l (rN (rPart l) k s1).2 hR hl
      have hsn := rN_snoc (rPart l) k s1
      have hne : ∃ cs, wr.heap[g]? = some (.cells cs 175) := hR.heap
      unfold Took at hT
      generalize hx : (rPart l) (rN (rPart l) k s1).2 = x at *
      obtain ⟨p, s2⟩ := x
      simp only at hT hsn
      have HSN := hide hsn
      have HX := hide hx
      have HOWN := hide hown
      have HG := hide hg
      have HNE := hide hne
      clear hsn hx hown hg hR hne
      go_wp2_with fail
      refine hT.mono ?_
      rintro e w2 ⟨rfl, hR2, hg2⟩
      obtain ⟨csg, hcsg⟩ := HNE.out
      have hown2 := HOWN.out.kept hg2 (.inr (ne_own' HOWN.out hcsg (by decide)))
      have hg2' := gb_trans HG.out hg2
      have hsz2 := hg2'.size
      have hownA := hown2.alloc (.cells #[.string (strB p.1), .int .i64 p.2] 25)
      have hgA := gb_trans hg2' (gb_alloc w2 (.cells #[.string (strB p.1), .int .i64 p.2] 25) (some g))
      have hRA := hR2.alloc (.cells #[.string (strB p.1), .int .i64 p.2] 25)
      have HRA := hide hRA
      have HGA := hide hgA
      have HOA := hide hownA
      have hnw := news_at w2 [.string (strB p.1), .int .i64 p.2] 25
      clear hT hR2 hg2 hcsg csg hown2 hRA hgA hownA hg2'
      go_wp2_with (at_builtin; refine wpList_append_own _ rfl (.tmp 13) (.tmp 16) 38 rfl w.heap.size 25 i0 (.agg #[.string ⟨#[]⟩, .int .i64 0]) 2 24 Tryz.underlying38 hi hz0 hz1 hz2 rfl (by decide) _ _ _ rfl HOA.out ⟨w2.heap.size, 0, none⟩ 1 1 [.string (strB p.1), .int .i64 p.2] rfl rfl hnw (by simp [Value.oneCell']) (by unfold maxLen; omega) (by omega) (by simp; omega) ?_; intro v3 w3 hown3 hgr3 _; have HO3 := hide hown3; obtain ⟨a3, c3, rfl, -⟩ := own_form hown3; clear hown3)
      have hR3 := HRA.out.grown hgr3 (fun q hq => by have := (HOA.out.lt q hq).1; omega)
      have hg3 := gb_new HGA.out hgr3 (fun q hq => (HOA.out.lt q hq).1)
      have HR3 := hide hR3
      have HG3 := hide hg3
      clear hgr3 hR3 hg3 hnw
      go_wp2
      go_roundw
      case rel =>
        refine ⟨k + 1, by omega, by go_num, ?_, by rw [HSN.out]; exact HR3.out, HG3.out⟩
        rw [HSN.out, flat_one]
        exact HO3.out
      case measure => simp [intOf]; omega
    · obtain rfl : k = n := by omega
      have HO := hide hown
      obtain ⟨a3, c3, rfl, -⟩ := own_form hown
      clear hown
      go_wp2
      go_ret
      refine ⟨_, rfl, ?_, hR, hg⟩
      rw [hlen]
      exact HO.out

end Go.Proofs.YtokebnkgjchfaaaGreatDoor

/-
  Whether keys rise. Condition: lists lie there.
-/
namespace Go.Proofs.YtokebnkgjchfaaaGreatDoor
open Go.RowKit

/-- How two texts stand, as the program asks it. -/
def ltB (a b : Bs) : Bool := Op.bytesLess a b
theorem toLr (l : List UInt8) : (strB l).toList = l := by rw [ByteArray.toList_eq]; exact strB_list l

theorem geq_str (t : TypeId) (a b : Bs) : binOp .geq t (.string (strB a)) (.string (strB b)) = pure (.bool (!ltB a b)) := by simp [binOp, Op.stringOp, toLr, ltB]

end Go.Proofs.YtokebnkgjchfaaaGreatDoor

/-
  Whether a fan, a leaf, a branch is right. Condition: lists lie there.
-/
namespace Go.Proofs.YtokebnkgjchfaaaGreatDoor
open Go.RowKit

theorem Ls.alloc {α : Type} {w : World} {k : Nat} {cs : α → List Value} {v : Value} {xs : List α} (h : Ls w.heap.size w k cs v xs) (o : Obj) : Ls (w.alloc o).heap.size (w.alloc o) k cs v xs :=
  (h.keep ((Below.refl _ _).alloc (Nat.le_refl _) o)).up (by simp)
theorem Ls.past {α : Type} {w w' : World} {k : Nat} {cs : α → List Value} {v : Value} {xs : List α} (h : Ls w.heap.size w k cs v xs) (hb : Below w.heap.size w w') : Ls w'.heap.size w' k cs v xs := (h.keep hb).up hb.size
set_option maxRecDepth 20000 in
theorem fanRight_any (w : World) (f : Fan) (v : Value) (hv : Ls w.heap.size w 2 partC v f.2) :
    Calls Tryz.prog 70 #[.agg #[.int .i64 f.1, v]] w fun e w' => e = .returned (.bool (fanOk f)) ∧ Below w.heap.size w w' := by
  have hL0 := hv.alloc (.cells #[.int .i64 f.1, v] 90)
  have hbA0 : Below w.heap.size w (w.alloc (.cells #[.int .i64 f.1, v] 90)) := (Below.refl _ _).alloc (Nat.le_refl _) _
  have x0 := heap_last w (.cells #[.int .i64 f.1, v] 90) _ rfl
  obtain ⟨ao, cap, rfl, g1, g2, -⟩ := hv
  unfold maxLen at g2
  by_cases h0 : levelB f.1 = true
  rotate_left
  · have h0 := Bool.eq_false_iff.2 h0
    go_enter Tryz.func70, Tryz.ntmps70
    go_wp2_with fail
    refine (isLevel_any _ f.1).mono ?_
    rintro e w1 ⟨rfl, rfl⟩
    rw [h0]
    go_wp2
    go_ret
    exact ⟨ret_bool (by simp [fanOk, h0]), hbA0⟩
  by_cases h1p : 1 ≤ f.2.length
  rotate_left
  · have h1 : decide (1 ≤ f.2.length) = false := by simpa using h1p
    go_enter Tryz.func70, Tryz.ntmps70
    go_wp2_with fail
    refine (isLevel_any _ f.1).mono ?_
    rintro e w1 ⟨rfl, rfl⟩
    rw [h0]
    go_wp2
    go_ret
    exact ⟨ret_bool (by simp [fanOk, h0, h1]), hbA0⟩
  have h1 : decide (1 ≤ f.2.length) = true := by simpa using h1p
  by_cases h2p : f.2.length ≤ 32
  rotate_left
  · have h2 : decide (f.2.length ≤ 32) = false := by simpa using h2p
    go_enter Tryz.func70, Tryz.ntmps70
    go_wp2_with fail
    refine (isLevel_any _ f.1).mono ?_
    rintro e w1 ⟨rfl, rfl⟩
    rw [h0]
    go_wp2
    go_ret
    exact ⟨ret_bool (by simp [fanOk, h0, h1, h2]), hbA0⟩
  have h2 : decide (f.2.length ≤ 32) = true := by simpa using h2p
  by_cases h3 : f.2.all (fun p => isIdB p.1) = true
  rotate_left
  · have h3 := Bool.eq_false_iff.2 h3
    go_enter Tryz.func70, Tryz.ntmps70
    go_wp2_with fail
    refine (isLevel_any _ f.1).mono ?_
    rintro e w1 ⟨rfl, rfl⟩
    rw [h0]
    go_wp2_with fail
    refine (eachParts_any _ _ f.2 hL0).mono ?_
    rintro e w1 ⟨rfl, hb1⟩
    rw [h3]
    have hbA1 := hbA0.trans (hb1.mono hbA0.size)
    have x1 := (hb1.block _ (lt_of_heap x0)).trans x0
    have c10 := cell_of_row w1 w.heap.size 0 _ _ _ x1
    simp only [List.getElem?_toArray, List.getElem?_cons_zero] at c10
    have c11 := cell_of_row w1 w.heap.size 1 _ _ _ x1
    simp only [List.getElem?_toArray, List.getElem?_cons_zero, List.getElem?_cons_succ] at c11
    have hL1 := hL0.past hb1
    clear hb1 hL0
    go_wp2
    go_ret
    exact ⟨ret_bool (by simp [fanOk, h0, h1, h2, h3]), hbA1⟩
  by_cases h4 : within (f.2.map (fun p => p.2)) 262144 = true
  rotate_left
  · have h4 := Bool.eq_false_iff.2 h4
    go_enter Tryz.func70, Tryz.ntmps70
    go_wp2_with fail
    refine (isLevel_any _ f.1).mono ?_
    rintro e w1 ⟨rfl, rfl⟩
    rw [h0]
    go_wp2_with fail
    refine (eachParts_any _ _ f.2 hL0).mono ?_
    rintro e w1 ⟨rfl, hb1⟩
    rw [h3]
    have hbA1 := hbA0.trans (hb1.mono hbA0.size)
    have x1 := (hb1.block _ (lt_of_heap x0)).trans x0
    have c10 := cell_of_row w1 w.heap.size 0 _ _ _ x1
    simp only [List.getElem?_toArray, List.getElem?_cons_zero] at c10
    have c11 := cell_of_row w1 w.heap.size 1 _ _ _ x1
    simp only [List.getElem?_toArray, List.getElem?_cons_zero, List.getElem?_cons_succ] at c11
    have hL1 := hL0.past hb1
    clear hb1 hL0
    go_wp2_with fail
    refine (sumParts_any _ _ f.2 hL1).mono ?_
    rintro e w2 ⟨rfl, hb2⟩
    rw [h4]
    have hbA2 := hbA1.trans (hb2.mono hbA1.size)
    have x2 := (hb2.block _ (lt_of_heap x1)).trans x1
    have c20 := cell_of_row w2 w.heap.size 0 _ _ _ x2
    simp only [List.getElem?_toArray, List.getElem?_cons_zero] at c20
    have c21 := cell_of_row w2 w.heap.size 1 _ _ _ x2
    simp only [List.getElem?_toArray, List.getElem?_cons_zero, List.getElem?_cons_succ] at c21
    have hL2 := hL1.past hb2
    clear hb2 hL1
    go_wp2
    go_ret
    exact ⟨ret_bool (by simp [fanOk, h0, h1, h2, h3, h4]), hbA2⟩
  go_enter Tryz.func70, Tryz.ntmps70
  go_wp2_with fail
  refine (isLevel_any _ f.1).mono ?_
  rintro e w1 ⟨rfl, rfl⟩
  rw [h0]
  go_wp2_with fail
  refine (eachParts_any _ _ f.2 hL0).mono ?_
  rintro e w1 ⟨rfl, hb1⟩
  rw [h3]
  have hbA1 := hbA0.trans (hb1.mono hbA0.size)
  have x1 := (hb1.block _ (lt_of_heap x0)).trans x0
  have c10 := cell_of_row w1 w.heap.size 0 _ _ _ x1
  simp only [List.getElem?_toArray, List.getElem?_cons_zero] at c10
  have c11 := cell_of_row w1 w.heap.size 1 _ _ _ x1
  simp only [List.getElem?_toArray, List.getElem?_cons_zero, List.getElem?_cons_succ] at c11
  have hL1 := hL0.past hb1
  clear hb1 hL0
  go_wp2_with fail
  refine (sumParts_any _ _ f.2 hL1).mono ?_
  rintro e w2 ⟨rfl, hb2⟩
  rw [h4]
  have hbA2 := hbA1.trans (hb2.mono hbA1.size)
  have x2 := (hb2.block _ (lt_of_heap x1)).trans x1
  have c20 := cell_of_row w2 w.heap.size 0 _ _ _ x2
  simp only [List.getElem?_toArray, List.getElem?_cons_zero] at c20
  have c21 := cell_of_row w2 w.heap.size 1 _ _ _ x2
  simp only [List.getElem?_toArray, List.getElem?_cons_zero, List.getElem?_cons_succ] at c21
  have hL2 := hL1.past hb2
  clear hb2 hL1
  go_wp2
  go_ret
  exact ⟨ret_bool (by simp [fanOk, h0, h1, h2, h3, h4]), hbA2⟩

end Go.Proofs.YtokebnkgjchfaaaGreatDoor

/-
  Leaves made and read. Conditions: the table holds its numbers; lengths within reach.
-/
namespace Go.Proofs.YtokebnkgjchfaaaGreatDoor
open Go.RowKit

theorem flat_get {α : Type} (cs : α → List Value) (k : Nat) (hk : ∀ x, (cs x).length = k) : ∀ (xs : List α) (j i : Nat) (hj : j < xs.length), i < k → (xs.flatMap cs)[j * k + i]? = (cs xs[j])[i]?
  | [], j, i, hj, _ => by simp at hj
  | x :: xs, 0, i, _, hi => by
    rw [List.flatMap_cons, Nat.zero_mul, Nat.zero_add, List.getElem?_append_left (by rw [hk]; exact hi)]
    rfl
  | x :: xs, j + 1, i, hj, hi => by
    rw [List.flatMap_cons, List.getElem?_append_right (by rw [hk, Nat.add_mul]; omega), hk, show (j + 1) * k + i - k = j * k + i from by rw [Nat.add_mul]; omega, flat_get cs k hk xs j i (by simpa using hj) hi]
    rfl
theorem ls_of_own {α : Type} {w : World} {base k : Nat} {t : TypeId} {v : Value} {cs : α → List Value} {xs : List α} (hk : ∀ x, (cs x).length = k) (h : w.ownsRow base t k v xs.length (xs.flatMap cs)) : Ls w.heap.size w k cs v xs := by
  have h' := h
  obtain ⟨h1, h2⟩ := h
  rcases h2 with ⟨rfl, hn⟩ | ⟨g, cap, cur, rfl, hg, hh, hc, hm, hs, ht⟩
  · obtain rfl : xs = [] := List.eq_nil_of_length_eq_zero hn
    exact Ls.nil _ _ _ _
  · refine ⟨_, _, rfl, hc, hm, fun _ => ⟨g, 0, rfl, lt_of_heap hh, fun j hj i u hu => ?_⟩⟩
    have hi : i < k := by
      have := (List.getElem?_eq_some_iff.1 hu).1
      rwa [hk] at this
    have := h'.cells (g := g) rfl (j * k + i) u (by rw [flat_get cs k hk xs j i hj hi]; exact hu)
    rw [Addr.add_lit] at this
    rw [Nat.add_assoc]
    exact this
theorem own_below {w w' : World} {base k n : Nat} {t : TypeId} {v : Value} {xs : List Value} (h : w.ownsRow base t k v n xs) (hb : Below w.heap.size w w') : w'.ownsRow base t k v n xs :=
  h.kept (row := none) (gb_below hb) (by cases hq : v.ownBlock with | none => exact .inl rfl | some k => exact .inr (by simp))
/-- What bytes behind a mark say. -/
def taken {α : Type} (m : Bs) (one : Bs → Pos → α × Pos) (right : α → Bool) (b : Bs) : Option α :=
  if (one (begin m b).1 (begin m b).2).2 = some (begin m b).1.length ∧ right (one (begin m b).1 (begin m b).2).1 = true then some (one (begin m b).1 (begin m b).2).1 else none
theorem taken_iff {α : Type} {m : UInt8} {one : Bs → Pos → α × Pos} {right : α → Bool} {b : Bs} {enc : α → Bs} (hstop : (one [] none).2 = none) (h : ∀ l, l.length ≤ b.length → ∀ x, said one right l = some x ↔ right x = true ∧ l = enc x) (x : α) :
    taken [m] one right b = some x ↔ right x = true ∧ b = m :: enc x := by
  unfold taken begin
  cases b with
  | nil =>
    simp only [List.isPrefixOf]
    constructor
    · intro h1
      simp [hstop] at h1
    · rintro ⟨_, h1⟩
      cases h1
  | cons c l =>
    by_cases hc : m = c
    · subst hc
      have hp : List.isPrefixOf [m] (m :: l) = true := by simp [List.isPrefixOf]
      rw [if_pos hp]
      have := h l (by simp) x
      unfold said at this
      simp only [List.length_cons, List.length_nil, Nat.zero_add, List.drop_succ_cons, List.drop_zero]
      rw [this]
      simp
    · have hp : List.isPrefixOf [m] (c :: l) = false := by simp [List.isPrefixOf, hc]
      rw [hp]
      simp only [Bool.false_eq_true, if_false]
      constructor
      · intro h1
        simp [hstop] at h1
      · rintro ⟨_, h1⟩
        injection h1 with h1 _
        exact absurd h1.symm hc
theorem pairC_length (x : Pair) : (pairC x).length = 2 := rfl
theorem partC_length (x : Part) : (partC x).length = 2 := rfl
theorem begin_le (p b : Bs) : (begin p b).1.length ≤ b.length := by
  unfold begin
  split
  · simp
  · simp
def takenLeaf (b : Bs) : Option (List Pair) := taken [76] gLeaf (leafOk ltB) b
theorem objV_def (l : Bs) : objV l = .agg #[.string (strB (sha l)), .string (strB l)] := rfl
theorem results_cell_tmp_row {P : Program} {fn : Func} {p u : Tmp} {ty : TypeId} (h : fn.results = #[.cell p ty, .tmp u]) (tmps : Array Value) (w : World) (g : Nat) (t : TypeId) (cs : Array Value) (fr : Nat × Nat) (d : TypeDesc)
    (hp : tmps.getD p undef = .pointer (some ⟨g, 0, none⟩)) (hg : w.heap[g]? = some (.cells cs t fr))
    (hu : P.underlying ty = some d) (hd : (match d with | .struct _ | .array _ _ => true | _ => false) = true) (hi : (P.info? ty).map (·.size) = some cs.size) :
    (results fn tmps).run P w = .ok (.tuple #[.agg cs, tmps.getD u undef]) w := by
  have hp' : tmps[p]?.getD undef = .pointer (some ⟨g, 0, none⟩) := by simpa using hp
  rw [results_cell_tmp h]
  simp [hp', asAddr, run_loadVar_row w g t ty cs fr d hg hu hd hi]
/-- What is made: an object, or the error. -/
def made (ok : Bool) (b : Bs) : Value := if ok then .tuple #[objV b, .int .i64 0] else .tuple #[.agg #[.string ⟨#[]⟩, .string ⟨#[]⟩], .int .i64 80]
theorem listB_le {α : Type} (enc : α → Bs) (k : Nat) (xs : List α) (h : ∀ x ∈ xs, (enc x).length ≤ k) : (listB enc xs).length ≤ 10 + xs.length * k := by
  have hn := num_length xs.length
  have : (xs.flatMap enc).length ≤ xs.length * k := by
    clear hn
    induction xs with
    | nil => simp
    | cons x r ih =>
      have h1 := h x (by simp)
      have h2 := ih (fun y hy => h y (by simp [hy]))
      rw [List.flatMap_cons, List.length_append, List.length_cons, Nat.add_mul]
      omega
  unfold listB
  rw [List.length_append]
  omega
theorem leafB_le {f : List Pair} (h : leafOk ltB f = true) : (leafB f).length ≤ 20000 := by
  simp only [leafOk, isKeyB, Bool.and_eq_true, decide_eq_true_eq, List.all_eq_true] at h
  have := listB_le pairB 212 f (fun x hx => by
    have h1 := h.1.2 x hx
    have n1 := num_length (x.1.length : Int)
    have n2 := num_length (x.2.length : Int)
    simp only [pairB, txt, List.length_append]
    omega)
  unfold leafB
  have h2 := h.1.1
  have h3 : f.length * 212 ≤ 64 * 212 := Nat.mul_le_mul_right _ h2
  omega
end Go.Proofs.YtokebnkgjchfaaaGreatDoor

/-
  Leaves, fans, branches made. Conditions: the table holds its numbers; lists lie there.
-/
namespace Go.Proofs.YtokebnkgjchfaaaGreatDoor
open Go.RowKit

theorem ls_one (w : World) (l : Bs) (n : Nat) (hn : n = w.heap.size) : Ls (w.alloc (.cells #[.string (strB l)] 9)).heap.size (w.alloc (.cells #[.string (strB l)] 9)) 1 idC (.slice (some ⟨n, 0, none⟩) 1 1) [l] := by
  subst hn
  refine ⟨_, 1, rfl, Nat.le_refl _, by unfold maxLen; omega, fun _ => ⟨w.heap.size, 0, rfl, by simp, fun j hj i u hu => ?_⟩⟩
  obtain rfl : j = 0 := by simpa using hj
  have hi : i = 0 := by
    have := (List.getElem?_eq_some_iff.1 hu).1
    simpa [idC] using this
  subst hi
  rw [cell_of_row _ _ _ _ _ _ (heap_last w _ _ rfl)]
  exact hu
theorem fanB_le {f : Fan} (h : fanOk f = true) : (fanB f).length ≤ 2000 ∧ f.2.length ≤ 32 ∧ In64 f.1 ∧ ∀ x ∈ f.2, In64 x.2 := by
  simp only [fanOk, levelB, isIdB, Bool.and_eq_true, decide_eq_true_eq, List.all_eq_true] at h
  obtain ⟨⟨⟨h1, h2⟩, h3⟩, h4⟩ := h
  have := listB_le partB 42 f.2 (fun x hx => by
    have h1 := h3 x hx
    have n1 := num_length x.2
    simp only [partB, List.length_append]
    omega)
  have n1 := num_length f.1
  have h5 : f.2.length * 42 ≤ 32 * 42 := Nat.mul_le_mul_right _ h2.2
  refine ⟨by unfold fanB; rw [List.length_append]; omega, h2.2, ⟨by omega, by omega⟩, fun x hx => within_64 h4 (by omega) (by omega) _ (List.mem_map_of_mem hx)⟩
set_option maxRecDepth 20000 in
set_option maxHeartbeats 800000 in
theorem fan_any (w : World) (f : Fan) (v : Value) (hv : Ls w.heap.size w 2 partC v f.2) (hT : TabW w) :
    Calls Tryz.prog 54 #[.agg #[.int .i64 f.1, v]] w fun e w' => e = .returned (made (fanOk f) (70 :: fanB f)) ∧ Below w.heap.size w w' := by
  have h0 := hT.1
  have hv' := hv
  obtain ⟨ao, cap, rfl, g1, g2, -⟩ := hv'
  have hb0 : Below w.heap.size w ((w.alloc (.cells #[.int .i64 f.1, .slice ao f.2.length cap] 90)).alloc (.cells #[.string ⟨#[]⟩, .string ⟨#[]⟩] 57)) := ((Below.refl _ _).alloc (Nat.le_refl _) _).alloc (by simp) _
  have hx0 : ((w.alloc (.cells #[.int .i64 f.1, .slice ao f.2.length cap] 90)).alloc (.cells #[.string ⟨#[]⟩, .string ⟨#[]⟩] 57)).heap[w.heap.size + 1]? = some (.cells #[.string ⟨#[]⟩, .string ⟨#[]⟩] 57) := heap_last (w.alloc (.cells #[.int .i64 f.1, .slice ao f.2.length cap] 90)) _ _ (by simp)
  have hy0 : ((w.alloc (.cells #[.int .i64 f.1, .slice ao f.2.length cap] 90)).alloc (.cells #[.string ⟨#[]⟩, .string ⟨#[]⟩] 57)).heap[w.heap.size]? = some (.cells #[.int .i64 f.1, .slice ao f.2.length cap] 90) := (heap_past (w.alloc (.cells #[.int .i64 f.1, .slice ao f.2.length cap] 90)) _ _ (by simp)).trans (heap_last w _ _ rfl)
  have hL0 := (hv.alloc (.cells #[.int .i64 f.1, .slice ao f.2.length cap] 90)).alloc (.cells #[.string ⟨#[]⟩, .string ⟨#[]⟩] 57)
  have hn0 : w.heap.size + 2 = ((w.alloc (.cells #[.int .i64 f.1, .slice ao f.2.length cap] 90)).alloc (.cells #[.string ⟨#[]⟩, .string ⟨#[]⟩] 57)).heap.size := by simp
  generalize hw0 : ((w.alloc (.cells #[.int .i64 f.1, .slice ao f.2.length cap] 90)).alloc (.cells #[.string ⟨#[]⟩, .string ⟨#[]⟩] 57)) = w0 at *
  have hlr := fanRight_any w0 f _ hL0
  by_cases hok : fanOk f = true
  · obtain ⟨hlen, hfl, hi64, hp64⟩ := fanB_le hok
    rw [hok] at hlr ⊢
    have hm : made true (70 :: fanB f) = .tuple #[objV (70 :: fanB f), .int .i64 0] := rfl
    rw [hm]
    have hob : ∀ (W : World) (g : Nat) (u : Value), W.cell? ⟨g, 0, none⟩ = some u → Sl W u (70 :: fanB f) → g < W.heap.size → TabW W → Calls Tryz.prog 75 #[.pointer (some ⟨g, 0, none⟩)] W fun e w' => e = .returned (objV (70 :: fanB f)) ∧ Below W.heap.size W w' := fun W g u h1 h2 h3 h4 => object_any W g u _ h1 h2 h3 h4 (by simp; omega)
    rw [objV_def] at hob ⊢
    generalize sha (70 :: fanB f) = S at *
    have HL0 := hide hL0
    clear hv hL0 hm
    have cy00 := cell_of_row w0 w.heap.size 0 _ _ _ hy0
    have cy01 := cell_of_row w0 w.heap.size 1 _ _ _ hy0
    simp only [List.getElem?_toArray, List.getElem?_cons_zero, List.getElem?_cons_succ] at cy00 cy01
    go_enter Tryz.func54, Tryz.ntmps54
    go_wp2_with fail
    try rw [hw0]
    refine hlr.mono ?_
    rintro e w1 ⟨rfl, hb1⟩
    have hs1 := hb1.size
    have hy1 := (hb1.block _ (by omega)).trans hy0
    have cy10 := cell_of_row w1 w.heap.size 0 _ _ _ hy1
    have cy11 := cell_of_row w1 w.heap.size 1 _ _ _ hy1
    simp only [List.getElem?_toArray, List.getElem?_cons_zero, List.getElem?_cons_succ] at cy10 cy11
    have hL1 := HL0.out.past hb1
    have hx1 := (hb1.block _ (by omega)).trans hx0
    have hbA1 := hb0.trans (hb1.mono hb0.size)
    have hls := ls_one w1 [70] _ rfl
    have hbM : Below w1.heap.size w1 (w1.alloc (.cells #[.string (strB [70])] 9)) := (Below.refl _ _).alloc (Nat.le_refl _) _
    have hsM : (w1.alloc (.cells #[.string (strB [70])] 9)).heap.size = w1.heap.size + 1 := by simp
    have hLM := hL1.past hbM
    have hwr := write_any _ _ [[70]] hls (by simp)
    rw [show ([[70]] : List Bs).flatten = [70] from rfl] at hwr
    have HLM := hide hLM
    have HBM := hide (hbA1.trans (hbM.mono hbA1.size))
    have HXM := hide ((hbM.block _ (lt_of_heap hx1)).trans hx1)
    have HYM := hide ((hbM.block _ (lt_of_heap hy1)).trans hy1)
    clear hlr hb1 hL1 hls hbM hLM
    go_wp2_with fail
    generalize hwM : w1.alloc (.cells #[.string (strB [70])] 9) = wM at *
    try rw [show (w1.alloc (.cells #[.string ⟨#[70]⟩] 9)) = wM from hwM]
    refine hwr.mono ?_
    rintro e w2 ⟨g, rfl, hW2, hb2⟩
    have hL2 := HLM.out.keep hb2
    have hx2 := (hb2.block _ (lt_of_heap HXM.out)).trans HXM.out
    have hy2 := (hb2.block _ (lt_of_heap HYM.out)).trans HYM.out
    have cy20 := cell_of_row w2 w.heap.size 0 _ _ _ hy2
    have cy21 := cell_of_row w2 w.heap.size 1 _ _ _ hy2
    simp only [List.getElem?_toArray, List.getElem?_cons_zero, List.getElem?_cons_succ] at cy20 cy21
    have hbA2 := HBM.out.trans (hb2.mono HBM.out.size)
    have hsA := HBM.out.size
    have HW2 := hide hW2
    have HL2 := hide hL2
    have HBA2 := hide hbA2
    have HX2 := hide hx2
    clear hwr hb2 hW2 hL2 hbA2 hx2
    go_wp2_with fail
    refine (layNumber_any wM.heap.size w2 g [70] f.1 HW2.out hi64 (by simp)).mono ?_
    rintro e w3 ⟨rfl, hW3, hb3, -⟩
    have hL3 := HL2.out.keep hb3
    have hx3 := (hb3.block _ (by omega)).trans HX2.out
    have hy3 := (hb3.block _ (by omega)).trans hy2
    have cy30 := cell_of_row w3 w.heap.size 0 _ _ _ hy3
    have cy31 := cell_of_row w3 w.heap.size 1 _ _ _ hy3
    simp only [List.getElem?_toArray, List.getElem?_cons_zero, List.getElem?_cons_succ] at cy30 cy31
    have hbA3 := HBA2.out.trans (hb3.mono hsA)
    have HW3 := hide hW3
    have HL3 := hide hL3
    have HBA3 := hide hbA3
    have HX3 := hide hx3
    clear hb3 hW3 hL3 hbA3 hx3
    go_wp2_with fail
    refine (layParts_any wM.heap.size w3 g ([70] ++ num f.1) _ f.2 HW3.out HL3.out hp64 (by omega) (by unfold fanB at hlen; simp only [List.length_append, List.length_cons, List.length_nil] at hlen ⊢; omega)).mono ?_
    rintro e w4 ⟨rfl, hW4, hb4, -⟩
    have e4 : ([70] ++ num f.1) ++ listB partB f.2 = (70 :: fanB f) := by unfold fanB; simp
    rw [e4] at hW4
    have hx4 := (hb4.block _ (by omega)).trans HX3.out
    have hbA4 := HBA3.out.trans (hb4.mono hsA)
    have hT4 := hT.keep hbA4 h0
    obtain ⟨u4, hc4, hsl4⟩ := hW4.sl
    have hg4 := hW4.lt
    have hb4s := hb4.size
    have hlt4 : w.heap.size < w4.heap.size := by have := lt_of_heap hx4; omega
    have HX4 := hide hx4
    have HBA4 := hide hbA4
    have hOB := hob w4 g u4 hc4 hsl4 hg4 hT4
    clear hW4 hb4 hx4 hbA4 hT4 e4 hob hc4 hsl4
    go_wp2_with fail
    refine hOB.mono ?_
    rintro e w5 ⟨rfl, hb5⟩
    have hx5 := (hb5.block _ (lt_of_heap HX4.out)).trans HX4.out
    have hbA5 := HBA4.out.trans (hb5.mono (Nat.le_of_lt hlt4))
    have c0 := cell_of_row w5 (w.heap.size + 1) 0 _ _ _ hx5
    have c1 := cell_of_row w5 (w.heap.size + 1) 1 _ _ _ hx5
    simp only [List.getElem?_toArray, List.getElem?_cons_zero, List.getElem?_cons_succ] at c0 c1
    have f0 := frozen0 (j := 0) hx5
    have f1 := frozen0 (j := 1) hx5
    clear hOB hb5
    go_wp2
    refine bodyPost_ret (results_cell_tmp_row rfl _ _ _ _ _ _ _ rfl (heap_set2 hx5) Tryz.underlying57 rfl Tryz.infoObj) rfl ⟨rfl, ?_⟩
    exact (hbA5.setCell (p := ⟨w.heap.size + 1, 0, none⟩) (by simp) _).setCell (p := ⟨w.heap.size + 1, 1, none⟩) (by simp) _
  · have hok := Bool.eq_false_iff.2 hok
    rw [hok] at hlr ⊢
    have hm : made false (70 :: fanB f) = .tuple #[.agg #[.string ⟨#[]⟩, .string ⟨#[]⟩], .int .i64 80] := rfl
    rw [hm]
    have cy00 := cell_of_row w0 w.heap.size 0 _ _ _ hy0
    have cy01 := cell_of_row w0 w.heap.size 1 _ _ _ hy0
    simp only [List.getElem?_toArray, List.getElem?_cons_zero, List.getElem?_cons_succ] at cy00 cy01
    clear hv hL0 hm
    go_enter Tryz.func54, Tryz.ntmps54
    go_wp2_with fail
    try rw [hw0]
    refine hlr.mono ?_
    rintro e w1 ⟨rfl, hb1⟩
    have hx1 := (hb1.block _ (by omega)).trans hx0
    have hbA1 := hb0.trans (hb1.mono hb0.size)
    have c0 := cell_of_row w1 (w.heap.size + 1) 0 _ _ _ hx1
    have c1 := cell_of_row w1 (w.heap.size + 1) 1 _ _ _ hx1
    simp only [List.getElem?_toArray, List.getElem?_cons_zero, List.getElem?_cons_succ] at c0 c1
    have f0 := frozen0 (j := 0) hx1
    have f1 := frozen0 (j := 1) hx1
    clear hlr hb1
    go_wp2
    refine bodyPost_ret (results_cell_tmp_row rfl _ _ _ _ _ _ _ rfl (heap_set2 hx1) Tryz.underlying57 rfl Tryz.infoObj) rfl ⟨rfl, ?_⟩
    exact (hbA1.setCell (p := ⟨w.heap.size + 1, 0, none⟩) (by simp) _).setCell (p := ⟨w.heap.size + 1, 1, none⟩) (by simp) _

end Go.Proofs.YtokebnkgjchfaaaGreatDoor

/-
  Fans and branches read. Conditions: lengths within reach.
-/
namespace Go.Proofs.YtokebnkgjchfaaaGreatDoor
open Go.RowKit

theorem Tryz.infoFan : (Tryz.prog.info? 90).map (·.size) = some 2 := by kernel_rfl
def takenFan (b : Bs) : Option Fan := taken [70] gFan fanOk b
/-- What TakeFan answers. -/
def fanSaid (B : Nat) (b : Bs) (e : Ending) (w' : World) : Prop :=
  match takenFan b with
  | some f => ∃ v, e = .returned (.tuple #[.agg #[.int .i64 f.1, v], .int .i64 0]) ∧ w'.ownsRow B 25 2 v f.2.length (f.2.flatMap partC)
  | none => e = .returned (.tuple #[.agg #[.int .i64 0, .slice none 0 0], .int .i64 81])
set_option maxRecDepth 20000 in
set_option maxHeartbeats 800000 in
theorem takeFan_any (w : World) (b : Bs) (hb : b.length ≤ 140737488355328) :
    Calls Tryz.prog 80 #[.string (strB b)] w fun e w' => fanSaid w.heap.size b e w' ∧ Below w.heap.size w w' := by
  have hbE : Below w.heap.size w ((w.alloc (.cells #[.int .i64 0, .slice none 0 0] 90)).alloc (.cells #[.int .i64 0, .slice none 0 0] 90)) := ((Below.refl _ _).alloc (Nat.le_refl _) _).alloc (by simp) _
  have hx0 : ((w.alloc (.cells #[.int .i64 0, .slice none 0 0] 90)).alloc (.cells #[.int .i64 0, .slice none 0 0] 90)).heap[w.heap.size]? = some (.cells #[.int .i64 0, .slice none 0 0] 90) := (heap_past _ _ _ (by simp)).trans (heap_last w _ _ rfl)
  have hy0 : ((w.alloc (.cells #[.int .i64 0, .slice none 0 0] 90)).alloc (.cells #[.int .i64 0, .slice none 0 0] 90)).heap[w.heap.size + 1]? = some (.cells #[.int .i64 0, .slice none 0 0] 90) := heap_last (w.alloc (.cells #[.int .i64 0, .slice none 0 0] 90)) _ _ (by simp)
  have hn0 : ((w.alloc (.cells #[.int .i64 0, .slice none 0 0] 90)).alloc (.cells #[.int .i64 0, .slice none 0 0] 90)).heap.size = w.heap.size + 2 := by simp
  generalize hw0 : (w.alloc (.cells #[.int .i64 0, .slice none 0 0] 90)).alloc (.cells #[.int .i64 0, .slice none 0 0] 90) = w0 at *
  have hrd := read_any w0 b [70] hb (by simp)
  have hle := begin_le [70] b
  unfold fanSaid takenFan taken
  generalize hx : begin [70] b = x at *
  obtain ⟨l, s⟩ := x
  simp only at *
  have hl : l.length ≤ 140737488355328 := by omega
  have hg : gFan l s = (((rC l 20 s).1, (rL l 32 (rPart l) (rC l 20 s).2).1), (rL l 32 (rPart l) (rC l 20 s).2).2) := rfl
  rw [hg]
  have h64 := rC_le l 20 s (by omega)
  generalize hc : rC l 20 s = c at *
  obtain ⟨lev, s1⟩ := c
  simp only at *
  generalize hy : rL l 32 (rPart l) s1 = y at *
  obtain ⟨f, s2⟩ := y
  simp only at *
  have HC := hide hc
  have HY := hide hy
  clear hx hg hc hy
  by_cases h1 : s2 = some l.length
  · have hdec := decide_eq_true h1
    by_cases h2 : fanOk (lev, f) = true
    · rw [if_pos ⟨h1, h2⟩]
      simp only
      go_enter Tryz.func80, Tryz.ntmps80
      go_wp2_with fail
      try rw [hw0]
      refine hrd.mono ?_
      rintro e w1 ⟨g, rfl, hR1, hg1, hb1⟩
      have hx1 := (hb1.block _ (by omega)).trans hx0
      have hy1 := (hb1.block _ (by omega)).trans hy0
      have hS := takeSmall_any w1 g l s 20 hR1 hl
      unfold Took at hS
      rw [HC.out] at hS
      simp only at hS
      clear hrd hR1
      go_wp2_with fail
      refine hS.mono ?_
      rintro e w2 ⟨rfl, hR2, hgb2⟩
      have hx2 := (hgb2.block _ (lt_of_heap hx1) (fun e => by injection e with e; omega)).trans hx1
      have hy2 := (hgb2.block _ (lt_of_heap hy1) (fun e => by injection e with e; omega)).trans hy1
      have cy0 := cell_of_row w2 (w.heap.size + 1) 0 _ _ _ hy2
      simp only [List.getElem?_toArray, List.getElem?_cons_zero] at cy0
      have fy0 := frozen0 (j := 0) hy2
      have hR3 := hR2.set (n := w.heap.size + 1) (i := 0) (u := .int .i64 lev) (.inr ⟨by omega, by omega⟩)
      have hy3 : (w2.setCell ⟨w.heap.size + 1, 0, none⟩ (.int .i64 lev)).heap[w.heap.size + 1]? = some (.cells #[.int .i64 lev, .slice none 0 0] 90) := by rw [heap_setCell _ _ _ _ _ _ _ hy2]; simp
      have hx3 := ((gb_set w2 (w.heap.size + 1) 0 (.int .i64 lev)).block _ (lt_of_heap hx2) (fun e => by injection e with e; omega)).trans hx2
      have hb3 : Below w.heap.size w (w2.setCell ⟨w.heap.size + 1, 0, none⟩ (.int .i64 lev)) := ((hbE.trans (hb1.mono hbE.size)).grown hgb2 (Nat.le_trans hbE.size hb1.size) (fun k hk => by injection hk with hk; omega)).setCell (p := ⟨w.heap.size + 1, 0, none⟩) (by simp) _
      have hT := takeParts_any (w2.setCell ⟨w.heap.size + 1, 0, none⟩ (.int .i64 lev)) g l s1 32 (by omega) hR3 hl
      rw [show ((32 : Nat) : Int) = 32 from rfl, HY.out] at hT
      simp only at hT
      have hsz3 := hb3.size
      have HB3 := hide hb3
      have HX3 := hide hx3
      have HY3 := hide hy3
      clear hS hR2 hgb2 hb3 hx3 hy3 hR3 hx2 hy2 hx1 hy1
      go_wp2_with fail
      generalize hw3 : w2.setCell ⟨w.heap.size + 1, 0, none⟩ (.int .i64 lev) = w3 at *
      refine hT.mono ?_
      rintro e w4 ⟨v, rfl, hown4, hR4, hgb4⟩
      have hx4 := (hgb4.block _ (lt_of_heap HX3.out) (fun e => by injection e with e; omega)).trans HX3.out
      have hy4 := (hgb4.block _ (lt_of_heap HY3.out) (fun e => by injection e with e; omega)).trans HY3.out
      have cy1 := cell_of_row w4 (w.heap.size + 1) 1 _ _ _ hy4
      simp only [List.getElem?_toArray, List.getElem?_cons_zero, List.getElem?_cons_succ] at cy1
      have fy1 := frozen0 (j := 1) hy4
      obtain ⟨ao, cap, rfl, -⟩ := own_form hown4
      have hb4 := HB3.out.grown hgb4 hsz3 (fun k hk => by injection hk with hk; omega)
      have hy5 : (w4.setCell ⟨w.heap.size + 1, 1, none⟩ (.slice ao f.length cap)).heap[w.heap.size + 1]? = some (.cells #[.int .i64 lev, .slice ao f.length cap] 90) := by rw [heap_setCell _ _ _ _ _ _ _ hy4]; simp
      have hx5 := ((gb_set w4 (w.heap.size + 1) 1 (.slice ao f.length cap)).block _ (lt_of_heap hx4) (fun e => by injection e with e; omega)).trans hx4
      have hR5 := hR4.set (n := w.heap.size + 1) (i := 1) (u := .slice ao f.length cap) (.inr ⟨by omega, by omega⟩)
      have hown5 : (w4.setCell ⟨w.heap.size + 1, 1, none⟩ (.slice ao f.length cap)).ownsRow w.heap.size 25 2 (.slice ao f.length cap) f.length (f.flatMap partC) := World.ownsRow.mono (ownsRow_setCell_other hown4 (ne_own' hown4 hy4 (by decide)) _) hsz3
      have hb5 := hb4.setCell (p := ⟨w.heap.size + 1, 1, none⟩) (by simp) (.slice ao f.length cap)
      have HB5 := hide hb5
      have HX5 := hide hx5
      have HY5 := hide hy5
      have HO5 := hide hown5
      have HR5 := hide hR5
      clear hT hown4 hR4 hgb4 hb4 hb5 hx5 hy5 hown5 hR5 hx4 hy4 HX3 HY3 HB3
      go_wp2_with fail
      generalize hw5 : w4.setCell ⟨w.heap.size + 1, 1, none⟩ (.slice ao f.length cap) = w5 at *
      have hW := wasAll_any w5 g l s2 HR5.out
      rw [hdec] at hW
      refine hW.mono ?_
      rintro e w6 ⟨rfl, hb6⟩
      have hs5 := HB5.out.size
      have hx6 := (hb6.block _ (lt_of_heap HX5.out)).trans HX5.out
      have hy6 := (hb6.block _ (lt_of_heap HY5.out)).trans HY5.out
      have hb6' := HB5.out.trans (hb6.mono hs5)
      have hown6 := own_below HO5.out hb6
      have cz0 := cell_of_row w6 (w.heap.size + 1) 0 _ _ _ hy6
      have cz1 := cell_of_row w6 (w.heap.size + 1) 1 _ _ _ hy6
      simp only [List.getElem?_toArray, List.getElem?_cons_zero, List.getElem?_cons_succ] at cz0 cz1
      clear hW hb6 HR5
      have hlr := fanRight_any w6 (lev, f) _ (ls_of_own partC_length hown6)
      rw [h2] at hlr
      simp only at hlr
      have hs6 := hb6'.size
      go_wp2_with fail
      refine hlr.mono ?_
      rintro e w7 ⟨rfl, hb7⟩
      have hx7 := (hb7.block _ (lt_of_heap hx6)).trans hx6
      have hy7 := (hb7.block _ (lt_of_heap hy6)).trans hy6
      have hb7' := hb6'.trans (hb7.mono hs6)
      have hown7 := own_below hown6 hb7
      have cd0 := cell_of_row w7 (w.heap.size + 1) 0 _ _ _ hy7
      have cd1 := cell_of_row w7 (w.heap.size + 1) 1 _ _ _ hy7
      have ce0 := cell_of_row w7 w.heap.size 0 _ _ _ hx7
      have ce1 := cell_of_row w7 w.heap.size 1 _ _ _ hx7
      simp only [List.getElem?_toArray, List.getElem?_cons_zero, List.getElem?_cons_succ] at cd0 cd1 ce0 ce1
      have fe0 := frozen0 (j := 0) hx7
      have fe1 := frozen0 (j := 1) hx7
      have HO7 := hide hown7
      clear hlr hb7 hown7 hown6
      go_wp2
      refine bodyPost_ret (results_cell_tmp_row rfl _ _ _ _ _ _ _ rfl (heap_set2 hx7) Tryz.underlying90 rfl Tryz.infoFan) rfl ⟨⟨_, rfl, ?_⟩, (hb7'.setCell (p := ⟨w.heap.size, 0, none⟩) (by simp) _).setCell (p := ⟨w.heap.size, 1, none⟩) (by simp) _⟩
      have hh0 := heap_setCell w7 w.heap.size 0 _ _ _ (.int .i64 lev) hx7
      exact ownsRow_setCell_other (ownsRow_setCell_other HO7.out (ne_own' HO7.out hx7 (by decide)) _) (ne_own' (ownsRow_setCell_other HO7.out (ne_own' HO7.out hx7 (by decide)) _) hh0 (by decide)) _
    · have h2 := Bool.eq_false_iff.2 h2
      rw [if_neg (by rw [h2]; simp)]
      simp only
      go_enter Tryz.func80, Tryz.ntmps80
      go_wp2_with fail
      try rw [hw0]
      refine hrd.mono ?_
      rintro e w1 ⟨g, rfl, hR1, hg1, hb1⟩
      have hx1 := (hb1.block _ (by omega)).trans hx0
      have hy1 := (hb1.block _ (by omega)).trans hy0
      have hS := takeSmall_any w1 g l s 20 hR1 hl
      unfold Took at hS
      rw [HC.out] at hS
      simp only at hS
      clear hrd hR1
      go_wp2_with fail
      refine hS.mono ?_
      rintro e w2 ⟨rfl, hR2, hgb2⟩
      have hx2 := (hgb2.block _ (lt_of_heap hx1) (fun e => by injection e with e; omega)).trans hx1
      have hy2 := (hgb2.block _ (lt_of_heap hy1) (fun e => by injection e with e; omega)).trans hy1
      have cy0 := cell_of_row w2 (w.heap.size + 1) 0 _ _ _ hy2
      simp only [List.getElem?_toArray, List.getElem?_cons_zero] at cy0
      have fy0 := frozen0 (j := 0) hy2
      have hR3 := hR2.set (n := w.heap.size + 1) (i := 0) (u := .int .i64 lev) (.inr ⟨by omega, by omega⟩)
      have hy3 : (w2.setCell ⟨w.heap.size + 1, 0, none⟩ (.int .i64 lev)).heap[w.heap.size + 1]? = some (.cells #[.int .i64 lev, .slice none 0 0] 90) := by rw [heap_setCell _ _ _ _ _ _ _ hy2]; simp
      have hx3 := ((gb_set w2 (w.heap.size + 1) 0 (.int .i64 lev)).block _ (lt_of_heap hx2) (fun e => by injection e with e; omega)).trans hx2
      have hb3 : Below w.heap.size w (w2.setCell ⟨w.heap.size + 1, 0, none⟩ (.int .i64 lev)) := ((hbE.trans (hb1.mono hbE.size)).grown hgb2 (Nat.le_trans hbE.size hb1.size) (fun k hk => by injection hk with hk; omega)).setCell (p := ⟨w.heap.size + 1, 0, none⟩) (by simp) _
      have hT := takeParts_any (w2.setCell ⟨w.heap.size + 1, 0, none⟩ (.int .i64 lev)) g l s1 32 (by omega) hR3 hl
      rw [show ((32 : Nat) : Int) = 32 from rfl, HY.out] at hT
      simp only at hT
      have hsz3 := hb3.size
      have HB3 := hide hb3
      have HX3 := hide hx3
      have HY3 := hide hy3
      clear hS hR2 hgb2 hb3 hx3 hy3 hR3 hx2 hy2 hx1 hy1
      go_wp2_with fail
      generalize hw3 : w2.setCell ⟨w.heap.size + 1, 0, none⟩ (.int .i64 lev) = w3 at *
      refine hT.mono ?_
      rintro e w4 ⟨v, rfl, hown4, hR4, hgb4⟩
      have hx4 := (hgb4.block _ (lt_of_heap HX3.out) (fun e => by injection e with e; omega)).trans HX3.out
      have hy4 := (hgb4.block _ (lt_of_heap HY3.out) (fun e => by injection e with e; omega)).trans HY3.out
      have cy1 := cell_of_row w4 (w.heap.size + 1) 1 _ _ _ hy4
      simp only [List.getElem?_toArray, List.getElem?_cons_zero, List.getElem?_cons_succ] at cy1
      have fy1 := frozen0 (j := 1) hy4
      obtain ⟨ao, cap, rfl, -⟩ := own_form hown4
      have hb4 := HB3.out.grown hgb4 hsz3 (fun k hk => by injection hk with hk; omega)
      have hy5 : (w4.setCell ⟨w.heap.size + 1, 1, none⟩ (.slice ao f.length cap)).heap[w.heap.size + 1]? = some (.cells #[.int .i64 lev, .slice ao f.length cap] 90) := by rw [heap_setCell _ _ _ _ _ _ _ hy4]; simp
      have hx5 := ((gb_set w4 (w.heap.size + 1) 1 (.slice ao f.length cap)).block _ (lt_of_heap hx4) (fun e => by injection e with e; omega)).trans hx4
      have hR5 := hR4.set (n := w.heap.size + 1) (i := 1) (u := .slice ao f.length cap) (.inr ⟨by omega, by omega⟩)
      have hown5 : (w4.setCell ⟨w.heap.size + 1, 1, none⟩ (.slice ao f.length cap)).ownsRow w.heap.size 25 2 (.slice ao f.length cap) f.length (f.flatMap partC) := World.ownsRow.mono (ownsRow_setCell_other hown4 (ne_own' hown4 hy4 (by decide)) _) hsz3
      have hb5 := hb4.setCell (p := ⟨w.heap.size + 1, 1, none⟩) (by simp) (.slice ao f.length cap)
      have HB5 := hide hb5
      have HX5 := hide hx5
      have HY5 := hide hy5
      have HO5 := hide hown5
      have HR5 := hide hR5
      clear hT hown4 hR4 hgb4 hb4 hb5 hx5 hy5 hown5 hR5 hx4 hy4 HX3 HY3 HB3
      go_wp2_with fail
      generalize hw5 : w4.setCell ⟨w.heap.size + 1, 1, none⟩ (.slice ao f.length cap) = w5 at *
      have hW := wasAll_any w5 g l s2 HR5.out
      rw [hdec] at hW
      refine hW.mono ?_
      rintro e w6 ⟨rfl, hb6⟩
      have hs5 := HB5.out.size
      have hx6 := (hb6.block _ (lt_of_heap HX5.out)).trans HX5.out
      have hy6 := (hb6.block _ (lt_of_heap HY5.out)).trans HY5.out
      have hb6' := HB5.out.trans (hb6.mono hs5)
      have hown6 := own_below HO5.out hb6
      have cz0 := cell_of_row w6 (w.heap.size + 1) 0 _ _ _ hy6
      have cz1 := cell_of_row w6 (w.heap.size + 1) 1 _ _ _ hy6
      simp only [List.getElem?_toArray, List.getElem?_cons_zero, List.getElem?_cons_succ] at cz0 cz1
      clear hW hb6 HR5
      have hlr := fanRight_any w6 (lev, f) _ (ls_of_own partC_length hown6)
      rw [h2] at hlr
      simp only at hlr
      have hs6 := hb6'.size
      go_wp2_with fail
      refine hlr.mono ?_
      rintro e w7 ⟨rfl, hb7⟩
      have hx7 := (hb7.block _ (lt_of_heap hx6)).trans hx6
      have hy7 := (hb7.block _ (lt_of_heap hy6)).trans hy6
      have hb7' := hb6'.trans (hb7.mono hs6)
      have hown7 := own_below hown6 hb7
      have cd0 := cell_of_row w7 (w.heap.size + 1) 0 _ _ _ hy7
      have cd1 := cell_of_row w7 (w.heap.size + 1) 1 _ _ _ hy7
      have ce0 := cell_of_row w7 w.heap.size 0 _ _ _ hx7
      have ce1 := cell_of_row w7 w.heap.size 1 _ _ _ hx7
      simp only [List.getElem?_toArray, List.getElem?_cons_zero, List.getElem?_cons_succ] at cd0 cd1 ce0 ce1
      have fe0 := frozen0 (j := 0) hx7
      have fe1 := frozen0 (j := 1) hx7
      have HO7 := hide hown7
      clear hlr hb7 hown7 hown6
      go_wp2
      refine bodyPost_ret (results_cell_tmp_row rfl _ _ _ _ _ _ _ rfl (heap_set2 hx7) Tryz.underlying90 rfl Tryz.infoFan) rfl ⟨rfl, (hb7'.setCell (p := ⟨w.heap.size, 0, none⟩) (by simp) _).setCell (p := ⟨w.heap.size, 1, none⟩) (by simp) _⟩
  · have hdec := decide_eq_false h1
    rw [if_neg (fun h => h1 h.1)]
    simp only
    go_enter Tryz.func80, Tryz.ntmps80
    go_wp2_with fail
    try rw [hw0]
    refine hrd.mono ?_
    rintro e w1 ⟨g, rfl, hR1, hg1, hb1⟩
    have hx1 := (hb1.block _ (by omega)).trans hx0
    have hy1 := (hb1.block _ (by omega)).trans hy0
    have hS := takeSmall_any w1 g l s 20 hR1 hl
    unfold Took at hS
    rw [HC.out] at hS
    simp only at hS
    clear hrd hR1
    go_wp2_with fail
    refine hS.mono ?_
    rintro e w2 ⟨rfl, hR2, hgb2⟩
    have hx2 := (hgb2.block _ (lt_of_heap hx1) (fun e => by injection e with e; omega)).trans hx1
    have hy2 := (hgb2.block _ (lt_of_heap hy1) (fun e => by injection e with e; omega)).trans hy1
    have cy0 := cell_of_row w2 (w.heap.size + 1) 0 _ _ _ hy2
    simp only [List.getElem?_toArray, List.getElem?_cons_zero] at cy0
    have fy0 := frozen0 (j := 0) hy2
    have hR3 := hR2.set (n := w.heap.size + 1) (i := 0) (u := .int .i64 lev) (.inr ⟨by omega, by omega⟩)
    have hy3 : (w2.setCell ⟨w.heap.size + 1, 0, none⟩ (.int .i64 lev)).heap[w.heap.size + 1]? = some (.cells #[.int .i64 lev, .slice none 0 0] 90) := by rw [heap_setCell _ _ _ _ _ _ _ hy2]; simp
    have hx3 := ((gb_set w2 (w.heap.size + 1) 0 (.int .i64 lev)).block _ (lt_of_heap hx2) (fun e => by injection e with e; omega)).trans hx2
    have hb3 : Below w.heap.size w (w2.setCell ⟨w.heap.size + 1, 0, none⟩ (.int .i64 lev)) := ((hbE.trans (hb1.mono hbE.size)).grown hgb2 (Nat.le_trans hbE.size hb1.size) (fun k hk => by injection hk with hk; omega)).setCell (p := ⟨w.heap.size + 1, 0, none⟩) (by simp) _
    have hT := takeParts_any (w2.setCell ⟨w.heap.size + 1, 0, none⟩ (.int .i64 lev)) g l s1 32 (by omega) hR3 hl
    rw [show ((32 : Nat) : Int) = 32 from rfl, HY.out] at hT
    simp only at hT
    have hsz3 := hb3.size
    have HB3 := hide hb3
    have HX3 := hide hx3
    have HY3 := hide hy3
    clear hS hR2 hgb2 hb3 hx3 hy3 hR3 hx2 hy2 hx1 hy1
    go_wp2_with fail
    generalize hw3 : w2.setCell ⟨w.heap.size + 1, 0, none⟩ (.int .i64 lev) = w3 at *
    refine hT.mono ?_
    rintro e w4 ⟨v, rfl, hown4, hR4, hgb4⟩
    have hx4 := (hgb4.block _ (lt_of_heap HX3.out) (fun e => by injection e with e; omega)).trans HX3.out
    have hy4 := (hgb4.block _ (lt_of_heap HY3.out) (fun e => by injection e with e; omega)).trans HY3.out
    have cy1 := cell_of_row w4 (w.heap.size + 1) 1 _ _ _ hy4
    simp only [List.getElem?_toArray, List.getElem?_cons_zero, List.getElem?_cons_succ] at cy1
    have fy1 := frozen0 (j := 1) hy4
    obtain ⟨ao, cap, rfl, -⟩ := own_form hown4
    have hb4 := HB3.out.grown hgb4 hsz3 (fun k hk => by injection hk with hk; omega)
    have hy5 : (w4.setCell ⟨w.heap.size + 1, 1, none⟩ (.slice ao f.length cap)).heap[w.heap.size + 1]? = some (.cells #[.int .i64 lev, .slice ao f.length cap] 90) := by rw [heap_setCell _ _ _ _ _ _ _ hy4]; simp
    have hx5 := ((gb_set w4 (w.heap.size + 1) 1 (.slice ao f.length cap)).block _ (lt_of_heap hx4) (fun e => by injection e with e; omega)).trans hx4
    have hR5 := hR4.set (n := w.heap.size + 1) (i := 1) (u := .slice ao f.length cap) (.inr ⟨by omega, by omega⟩)
    have hown5 : (w4.setCell ⟨w.heap.size + 1, 1, none⟩ (.slice ao f.length cap)).ownsRow w.heap.size 25 2 (.slice ao f.length cap) f.length (f.flatMap partC) := World.ownsRow.mono (ownsRow_setCell_other hown4 (ne_own' hown4 hy4 (by decide)) _) hsz3
    have hb5 := hb4.setCell (p := ⟨w.heap.size + 1, 1, none⟩) (by simp) (.slice ao f.length cap)
    have HB5 := hide hb5
    have HX5 := hide hx5
    have HY5 := hide hy5
    have HO5 := hide hown5
    have HR5 := hide hR5
    clear hT hown4 hR4 hgb4 hb4 hb5 hx5 hy5 hown5 hR5 hx4 hy4 HX3 HY3 HB3
    go_wp2_with fail
    generalize hw5 : w4.setCell ⟨w.heap.size + 1, 1, none⟩ (.slice ao f.length cap) = w5 at *
    have hW := wasAll_any w5 g l s2 HR5.out
    rw [hdec] at hW
    refine hW.mono ?_
    rintro e w6 ⟨rfl, hb6⟩
    have hs5 := HB5.out.size
    have hx6 := (hb6.block _ (lt_of_heap HX5.out)).trans HX5.out
    have hy6 := (hb6.block _ (lt_of_heap HY5.out)).trans HY5.out
    have hb6' := HB5.out.trans (hb6.mono hs5)
    have hown6 := own_below HO5.out hb6
    have cz0 := cell_of_row w6 (w.heap.size + 1) 0 _ _ _ hy6
    have cz1 := cell_of_row w6 (w.heap.size + 1) 1 _ _ _ hy6
    simp only [List.getElem?_toArray, List.getElem?_cons_zero, List.getElem?_cons_succ] at cz0 cz1
    clear hW hb6 HR5
    have ce0 := cell_of_row w6 w.heap.size 0 _ _ _ hx6
    have ce1 := cell_of_row w6 w.heap.size 1 _ _ _ hx6
    simp only [List.getElem?_toArray, List.getElem?_cons_zero, List.getElem?_cons_succ] at ce0 ce1
    have fe0 := frozen0 (j := 0) hx6
    have fe1 := frozen0 (j := 1) hx6
    clear hown6
    go_wp2
    refine bodyPost_ret (results_cell_tmp_row rfl _ _ _ _ _ _ _ rfl (heap_set2 hx6) Tryz.underlying90 rfl Tryz.infoFan) rfl ⟨rfl, (hb6'.setCell (p := ⟨w.heap.size, 0, none⟩) (by simp) _).setCell (p := ⟨w.heap.size, 1, none⟩) (by simp) _⟩

end Go.Proofs.YtokebnkgjchfaaaGreatDoor

/-
  What bytes say, told plainly; what the statements show first. Condition: the table holds its numbers.
-/
namespace Go.Proofs.YtokebnkgjchfaaaGreatDoor
open Go.RowKit

theorem takenLeaf_iff (b : Bs) (hb : b.length ≤ 140737488355328) (f : List Pair) : takenLeaf b = some f ↔ leafOk ltB f = true ∧ b = 76 :: leafB f :=
  taken_iff (enc := leafB) rfl (fun l hl x => leaf_iff ltB l (by omega) x) f
theorem takenFan_iff (b : Bs) (f : Fan) : takenFan b = some f ↔ fanOk f = true ∧ b = 70 :: fanB f :=
  taken_iff (enc := fanB) rfl (fun l _ x => fan_iff l x) f
theorem out_length (s : St) : (out s).length = 32 := rfl
theorem sha_length (l : List UInt8) : (sha l).length = 32 := out_length _
theorem leaf_kv : leafOk ltB [([107], [118])] = true ∧ 76 :: leafB [([107], [118])] = [76, 2, 2, 107, 2, 118] := by decide +kernel
theorem taken_kv : takenLeaf [76, 2, 2, 107, 2, 118] = some [([107], [118])] := (takenLeaf_iff _ (by simp) _).2 ⟨leaf_kv.1, leaf_kv.2.symm⟩
end Go.Proofs.YtokebnkgjchfaaaGreatDoor

/-
  Each text once. Conditions: lists lie there, and are short.
-/
namespace Go.Proofs.YtokebnkgjchfaaaGreatDoor
open Go.RowKit

end Go.Proofs.YtokebnkgjchfaaaGreatDoor

/-
  Whether a commit is right. Condition: its parents lie there.
-/
namespace Go.Proofs.YtokebnkgjchfaaaGreatDoor
open Go.RowKit

end Go.Proofs.YtokebnkgjchfaaaGreatDoor

/-
  Commits made and read. Conditions: the table holds its numbers; lengths within reach.
-/
namespace Go.Proofs.YtokebnkgjchfaaaGreatDoor
open Go.RowKit

theorem ls_two (w : World) (l m : Bs) (n : Nat) (hn : n = w.heap.size) : Ls (w.alloc (.cells #[.string (strB l), .string (strB m)] 9)).heap.size (w.alloc (.cells #[.string (strB l), .string (strB m)] 9)) 1 idC (.slice (some ⟨n, 0, none⟩) 2 2) [l, m] := by
  subst hn
  refine ⟨_, 2, rfl, Nat.le_refl _, by unfold maxLen; omega, fun _ => ⟨w.heap.size, 0, rfl, by simp, fun j hj i u hu => ?_⟩⟩
  rw [cell_of_row _ _ _ _ _ _ (heap_last w _ _ rfl)]
  have hi : i = 0 := by
    have := (List.getElem?_eq_some_iff.1 hu).1
    simpa [idC] using this
  subst hi
  match j, hj with
  | 0, _ => exact hu
  | 1, _ => exact hu
end Go.Proofs.YtokebnkgjchfaaaGreatDoor
