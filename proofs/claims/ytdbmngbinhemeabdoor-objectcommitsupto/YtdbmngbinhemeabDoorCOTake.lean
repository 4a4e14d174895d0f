/-
  Parts, pairs, links, and lists of them, read. Conditions: lengths within reach.
-/
import Derived.Test.YtdbmngbinhemeabDoorCOBegin
namespace Go.Proofs.YtdbmngbinhemeabDoor
open Go.RowKit
variable {N : Nat}

theorem gb_setnew {w a : World} {r : Option Nat} {n i : Nat} {u : Value} (h : w.grownBy a r) (hn : w.heap.size ≤ n) : w.grownBy (a.setCell ⟨n, i, none⟩ u) r := by
  have k := gb_set a n i u
  exact ⟨k.os.trans h.os, k.tape.trans h.tape, k.output.trans h.output, Nat.le_trans h.size k.size, fun j hj hr => (k.block j (Nat.lt_of_lt_of_le hj h.size) (fun e => by injection e with e; omega)).trans (h.block j hj hr)⟩
theorem gb_new {w a b : World} {r row : Option Nat} (h : w.grownBy a r) (k : a.grownBy b row) (hrow : ∀ q, row = some q → w.heap.size ≤ q) : w.grownBy b r :=
  ⟨k.os.trans h.os, k.tape.trans h.tape, k.output.trans h.output, Nat.le_trans h.size k.size, fun j hj hr => (k.block j (Nat.lt_of_lt_of_le hj h.size) (fun e => by have := hrow j e.symm; omega)).trans (h.block j hj hr)⟩
theorem Rd.set {w : World} {g : Nat} {l : Bs} {s : Pos} {n i : Nat} {u : Value} (h : Rd N w g l s) (hn : g < n ∨ n < N ∧ n ≠ g) : Rd N (w.setCell ⟨n, i, none⟩ u) g l s := by
  have hl := h.lt
  obtain ⟨v, h1, h2, h3⟩ := h
  exact ⟨v, ((gb_set w n i u).block g hl (fun e => by injection e with e; omega)).trans h1, fun w' hu => h2 w' (und_trans (und_set w u hl (by omega)) hu), h3⟩
theorem Rd.grown {a b : World} {g : Nat} {l : Bs} {s : Pos} {row : Option Nat} (h : Rd N a g l s) (k : a.grownBy b row) (hrow : ∀ q, row = some q → g < q) : Rd N b g l s := by
  have hl := h.lt
  obtain ⟨v, h1, h2, h3⟩ := h
  refine ⟨v, (k.block g hl (fun e => by have := hrow g e.symm; omega)).trans h1, fun w' hu => h2 w' (und_trans ⟨k.size, fun j _ hj => k.block j (by omega) (fun e => by have := hrow j e.symm; omega)⟩ hu), h3⟩
theorem ne_own' {B : Nat} {w : World} {g size : Nat} {v : Value} {n : Nat} {xs : List Value} {cs : Array Value} {t e : TypeId} {fr : Nat × Nat} (hown : w.ownsRow B e size v n xs) (hh : w.heap[g]? = some (.cells cs t fr)) (hte : t ≠ e) : v.ownBlock ≠ some g := by
  intro hk
  obtain ⟨c, fz, h1⟩ := Lib.ownsRow_kind hown g hk
  rw [hh] at h1
  injection h1 with h1
  injection h1 with _ h1
  exact hte h1
theorem Rd.heap {w : World} {g : Nat} {l : Bs} {s : Pos} (h : Rd N w g l s) : ∃ cs, w.heap[g]? = some (.cells cs 129) := by
  obtain ⟨v, h1, _⟩ := h
  exact ⟨_, h1⟩
theorem rC_le (l : Bs) (most : Int) (s : Pos) (h : 0 ≤ most) : 0 ≤ (rC l most s).1 ∧ (rC l most s).1 ≤ most := by
  unfold rC
  split
  · exact ⟨Int.le_refl _, h⟩
  · omega
theorem rN_step {α : Type} (one : Pos → α × Pos) : ∀ (n : Nat) (s : Pos) (k : Nat), k ≤ n → rN one n s = ((rN one k s).1 ++ (rN one (n - k) (rN one k s).2).1, (rN one (n - k) (rN one k s).2).2)
  | n, s, 0, _ => by simp [rN]
  | 0, s, k + 1, h => by omega
  | n + 1, s, k + 1, h => by
    have ih := rN_step one n (one s).2 k (by omega)
    simp only [rN]
    rw [show n + 1 - (k + 1) = n - k from by omega, ih]
    simp
theorem rN_snoc {α : Type} (one : Pos → α × Pos) (k : Nat) (s : Pos) : rN one (k + 1) s = ((rN one k s).1 ++ [(one (rN one k s).2).1], (one (rN one k s).2).2) := by
  rw [rN_step one (k + 1) s k (by omega), show k + 1 - k = 1 from by omega]
  rfl
theorem rN_length {α : Type} (one : Pos → α × Pos) : ∀ (n : Nat) (s : Pos), (rN one n s).1.length = n
  | 0, _ => rfl
  | n + 1, s => by simp [rN, rN_length one n]
theorem Tryd.infoPart : (Tryd.prog.info? 78).map (·.size) = some 2 := by kernel_rfl
theorem Tryd.infoPair : (Tryd.prog.info? 68).map (·.size) = some 2 := by kernel_rfl
theorem Tryd.infoLink : (Tryd.prog.info? 104).map (·.size) = some 3 := by kernel_rfl
theorem heap_set3all {w : World} {g : Nat} {v0 v1 v2 u0 u1 u2 : Value} {t : TypeId} (h : w.heap[g]? = some (.cells #[v0, v1, v2] t)) : (((w.setCell ⟨g, 0, none⟩ u0).setCell ⟨g, 1, none⟩ u1).setCell ⟨g, 2, none⟩ u2).heap[g]? = some (.cells #[u0, u1, u2] t) := by
  rw [heap_setCell _ _ _ _ _ _ _ (heap_setCell _ _ _ _ _ _ _ (heap_setCell _ _ _ _ _ _ _ h))]
  simp

set_option maxRecDepth 20000 in
theorem takePart_any (w : World) (g : Nat) (l : Bs) (s : Pos) (h : Rd N w g l s) (hl : l.length ≤ 140737488355328) :
    Took N 52 #[.pointer (some ⟨g, 0, none⟩)] w g l (.agg #[.string (strB (rPart l s).1.1), .int .i64 (rPart l s).1.2]) (rPart l s).2 := by
  have hgn := h.lt
  have hx0 := heap_last w (.cells #[.string ⟨#[]⟩, .int .i64 0] 78) _ rfl
  have h0 := h.alloc (.cells #[.string ⟨#[]⟩, .int .i64 0] 78)
  have hg0 := gb_alloc w (.cells #[.string ⟨#[]⟩, .int .i64 0] 78) (some g)
  have hn0 : w.heap.size < (w.alloc (.cells #[.string ⟨#[]⟩, .int .i64 0] 78)).heap.size := by simp
  unfold Took rPart  rP
  dsimp only
  have H0 := hide h0
  clear h h0
  generalize hw0 : w.alloc (.cells #[.string ⟨#[]⟩, .int .i64 0] 78) = w0 at *
  go_enter Tryd.func52, Tryd.ntmps52
  go_wp2_with fail
  try rw [hw0]
  have hT1 := takeId_any w0 g l (s) H0.out hl
  unfold Took at hT1
  skip
  refine hT1.mono ?_
  rintro e w1 ⟨rfl, hR1, hg1⟩
  have hx1 := (hg1.block _ (lt_of_heap hx0) (fun e => by injection e with e; omega)).trans hx0
  have hG1 := gb_trans hg0 hg1
  have HR1 := hide hR1
  clear hR1 hT1
  have hT2 := takeNumber_any w1 g l ((rD l (s)).2) HR1.out hl
  unfold Took at hT2
  go_wp2_with fail
  refine hT2.mono ?_
  rintro e w2 ⟨rfl, hR2, hg2⟩
  have hx2 := (hg2.block _ (lt_of_heap hx1) (fun e => by injection e with e; omega)).trans hx1
  have hG2 := gb_trans hG1 hg2
  have HR2 := hide hR2
  clear hR2 hT2
  have c0 := cell_of_row w2 w.heap.size 0 _ _ _ hx2
  simp only [List.getElem?_toArray, List.getElem?_cons_zero] at c0
  have f0 := frozen0 (j := 0) hx2
  have c1 := cell_of_row w2 w.heap.size 1 _ _ _ hx2
  simp only [List.getElem?_toArray, List.getElem?_cons_zero, List.getElem?_cons_succ] at c1
  have f1 := frozen0 (j := 1) hx2
  go_wp2
  refine bodyPost_ret (results_cell_row rfl _ _ _ _ _ _ _ rfl (heap_set2 hx2) Tryd.underlying78 rfl Tryd.infoPart) rfl ⟨rfl, ((HR2.out.set (.inl hgn)).set (.inl hgn)), (gb_setnew (gb_setnew hG2 (Nat.le_refl _)) (Nat.le_refl _))⟩

set_option maxRecDepth 20000 in
theorem takePair_any (w : World) (g : Nat) (l : Bs) (s : Pos) (h : Rd N w g l s) (hl : l.length ≤ 140737488355328) :
    Took N 69 #[.pointer (some ⟨g, 0, none⟩)] w g l (.agg #[.string (strB (rPair l l.length l.length s).1.1), .string (strB (rPair l l.length l.length s).1.2)]) (rPair l l.length l.length s).2 := by
  have hgn := h.lt
  have hx0 := heap_last w (.cells #[.string ⟨#[]⟩, .string ⟨#[]⟩] 68) _ rfl
  have h0 := h.alloc (.cells #[.string ⟨#[]⟩, .string ⟨#[]⟩] 68)
  have hg0 := gb_alloc w (.cells #[.string ⟨#[]⟩, .string ⟨#[]⟩] 68) (some g)
  have hn0 : w.heap.size < (w.alloc (.cells #[.string ⟨#[]⟩, .string ⟨#[]⟩] 68)).heap.size := by simp
  unfold Took rPair  rP
  dsimp only
  have H0 := hide h0
  clear h h0
  generalize hw0 : w.alloc (.cells #[.string ⟨#[]⟩, .string ⟨#[]⟩] 68) = w0 at *
  go_enter Tryd.func69, Tryd.ntmps69
  go_wp2_with fail
  try rw [hw0]
  have hT1 := takeText_any w0 g l (s) H0.out hl
  unfold Took at hT1
  skip
  refine hT1.mono ?_
  rintro e w1 ⟨rfl, hR1, hg1⟩
  have hx1 := (hg1.block _ (lt_of_heap hx0) (fun e => by injection e with e; omega)).trans hx0
  have hG1 := gb_trans hg0 hg1
  have HR1 := hide hR1
  clear hR1 hT1
  have hT2 := takeText_any w1 g l ((rT l l.length (s)).2) HR1.out hl
  unfold Took at hT2
  go_wp2_with fail
  refine hT2.mono ?_
  rintro e w2 ⟨rfl, hR2, hg2⟩
  have hx2 := (hg2.block _ (lt_of_heap hx1) (fun e => by injection e with e; omega)).trans hx1
  have hG2 := gb_trans hG1 hg2
  have HR2 := hide hR2
  clear hR2 hT2
  have c0 := cell_of_row w2 w.heap.size 0 _ _ _ hx2
  simp only [List.getElem?_toArray, List.getElem?_cons_zero] at c0
  have f0 := frozen0 (j := 0) hx2
  have c1 := cell_of_row w2 w.heap.size 1 _ _ _ hx2
  simp only [List.getElem?_toArray, List.getElem?_cons_zero, List.getElem?_cons_succ] at c1
  have f1 := frozen0 (j := 1) hx2
  go_wp2
  refine bodyPost_ret (results_cell_row rfl _ _ _ _ _ _ _ rfl (heap_set2 hx2) Tryd.underlying68 rfl Tryd.infoPair) rfl ⟨rfl, ((HR2.out.set (.inl hgn)).set (.inl hgn)), (gb_setnew (gb_setnew hG2 (Nat.le_refl _)) (Nat.le_refl _))⟩

set_option maxRecDepth 20000 in
theorem takeLink_any (w : World) (g : Nat) (l : Bs) (s : Pos) (h : Rd N w g l s) (hl : l.length ≤ 140737488355328) :
    Took N 72 #[.pointer (some ⟨g, 0, none⟩)] w g l (.agg #[.string (strB (rLink l l.length s).1.1), .string (strB (rLink l l.length s).1.2.1), .int .i64 (rLink l l.length s).1.2.2]) (rLink l l.length s).2 := by
  have hgn := h.lt
  have hx0 := heap_last w (.cells #[.string ⟨#[]⟩, .string ⟨#[]⟩, .int .i64 0] 104) _ rfl
  have h0 := h.alloc (.cells #[.string ⟨#[]⟩, .string ⟨#[]⟩, .int .i64 0] 104)
  have hg0 := gb_alloc w (.cells #[.string ⟨#[]⟩, .string ⟨#[]⟩, .int .i64 0] 104) (some g)
  have hn0 : w.heap.size < (w.alloc (.cells #[.string ⟨#[]⟩, .string ⟨#[]⟩, .int .i64 0] 104)).heap.size := by simp
  unfold Took rLink rPart rP
  dsimp only
  have H0 := hide h0
  clear h h0
  generalize hw0 : w.alloc (.cells #[.string ⟨#[]⟩, .string ⟨#[]⟩, .int .i64 0] 104) = w0 at *
  go_enter Tryd.func72, Tryd.ntmps72
  go_wp2_with fail
  try rw [hw0]
  have hT1 := takeText_any w0 g l (s) H0.out hl
  unfold Took at hT1
  skip
  refine hT1.mono ?_
  rintro e w1 ⟨rfl, hR1, hg1⟩
  have hx1 := (hg1.block _ (lt_of_heap hx0) (fun e => by injection e with e; omega)).trans hx0
  have hG1 := gb_trans hg0 hg1
  have HR1 := hide hR1
  clear hR1 hT1
  have hT2 := takeId_any w1 g l ((rT l l.length (s)).2) HR1.out hl
  unfold Took at hT2
  go_wp2_with fail
  refine hT2.mono ?_
  rintro e w2 ⟨rfl, hR2, hg2⟩
  have hx2 := (hg2.block _ (lt_of_heap hx1) (fun e => by injection e with e; omega)).trans hx1
  have hG2 := gb_trans hG1 hg2
  have HR2 := hide hR2
  clear hR2 hT2
  have hT3 := takeNumber_any w2 g l ((rD l ((rT l l.length (s)).2)).2) HR2.out hl
  unfold Took at hT3
  go_wp2_with fail
  refine hT3.mono ?_
  rintro e w3 ⟨rfl, hR3, hg3⟩
  have hx3 := (hg3.block _ (lt_of_heap hx2) (fun e => by injection e with e; omega)).trans hx2
  have hG3 := gb_trans hG2 hg3
  have HR3 := hide hR3
  clear hR3 hT3
  have c0 := cell_of_row w3 w.heap.size 0 _ _ _ hx3
  simp only [List.getElem?_toArray, List.getElem?_cons_zero] at c0
  have f0 := frozen0 (j := 0) hx3
  have c1 := cell_of_row w3 w.heap.size 1 _ _ _ hx3
  simp only [List.getElem?_toArray, List.getElem?_cons_zero, List.getElem?_cons_succ] at c1
  have f1 := frozen0 (j := 1) hx3
  have c2 := cell_of_row w3 w.heap.size 2 _ _ _ hx3
  simp only [List.getElem?_toArray, List.getElem?_cons_zero, List.getElem?_cons_succ] at c2
  have f2 := frozen0 (j := 2) hx3
  go_wp2
  refine bodyPost_ret (results_cell_row rfl _ _ _ _ _ _ _ rfl (heap_set3all hx3) Tryd.underlying104 rfl Tryd.infoLink) rfl ⟨rfl, (((HR3.out.set (.inl hgn)).set (.inl hgn)).set (.inl hgn)), (gb_setnew (gb_setnew (gb_setnew hG3 (Nat.le_refl _)) (Nat.le_refl _)) (Nat.le_refl _))⟩
end Go.Proofs.YtdbmngbinhemeabDoor
