/-
  What is read: a reading in memory, and what its methods do. Conditions: lengths within reach.
-/
import Derived.Test.YtimbleaafoiidaaGreatDoorF7OMake
namespace Go.Proofs.YtimbleaafoiidaaGreatDoor
open Go.RowKit

theorem gb_refl (w : World) (r : Option Nat) : w.grownBy w r := ⟨rfl, rfl, rfl, Nat.le_refl _, fun _ _ _ => rfl⟩
theorem gb_trans {a b c : World} {r : Option Nat} (h : a.grownBy b r) (k : b.grownBy c r) : a.grownBy c r :=
  ⟨k.os.trans h.os, k.tape.trans h.tape, k.output.trans h.output, Nat.le_trans h.size k.size, fun i hi hr => (k.block i (Nat.lt_of_lt_of_le hi h.size) hr).trans (h.block i hi hr)⟩
theorem gb_below {a b : World} {r : Option Nat} (h : Below a.heap.size a b) : a.grownBy b r := ⟨h.os, h.tape, h.output, h.size, fun i hi _ => h.block i hi⟩
theorem gb_alloc (w : World) (o : Obj) (r : Option Nat) : w.grownBy (w.alloc o) r := gb_below ((Below.refl _ _).alloc (Nat.le_refl _) _)
theorem gb_drew (w : World) (r : Option Nat) : w.grownBy w.drew r := gb_below ((Below.refl _ _).drew)
theorem gb_set (w : World) (g i : Nat) (u : Value) : w.grownBy (w.setCell ⟨g, i, none⟩ u) (some g) := by
  refine ⟨rfl, rfl, rfl, by simp [World.setCell], fun k _ hk => ?_⟩
  have hne : k ≠ g := fun e => hk (by rw [e])
  unfold World.setCell
  simp [Array.getElem?_modify, Ne.symm hne]
variable {N : Nat}
/-- From N to g all is as it was. -/
def Und (N g : Nat) (w w' : World) : Prop := w.heap.size ≤ w'.heap.size ∧ ∀ k, N ≤ k → k < g → w'.heap[k]? = w.heap[k]?
theorem und_refl (g : Nat) (w : World) : Und N g w w := ⟨Nat.le_refl _, fun _ _ _ => rfl⟩
theorem und_trans {g : Nat} {a b c : World} (h : Und N g a b) (k : Und N g b c) : Und N g a c := ⟨Nat.le_trans h.1 k.1, fun i hN hi => (k.2 i hN hi).trans (h.2 i hN hi)⟩
theorem und_gb {g : Nat} {w w' : World} (hl : g < w.heap.size) (h : w.grownBy w' (some g)) : Und N g w w' := ⟨h.size, fun k _ hk => h.block k (by omega) (fun e => by injection e with e; omega)⟩
theorem und_set {g n i : Nat} (w : World) (u : Value) (hl : g < w.heap.size) (h : g ≤ n ∨ n < N) : Und N g w (w.setCell ⟨n, i, none⟩ u) := ⟨(gb_set w n i u).size, fun k _ hk => (gb_set w n i u).block k (by omega) (fun e => by injection e with e; omega)⟩
/-- The reading g goes through the bytes l, and stands at s. -/
def Rd (N : Nat) (w : World) (g : Nat) (l : Bs) (s : Pos) : Prop :=
  ∃ v, w.heap[g]? = some (.cells #[v, .int .i64 ((s.getD l.length : Nat) : Int), .bool s.isNone] 190) ∧ (∀ w', Und N g w w' → Sl w' v l) ∧ (∀ a, s = some a → a ≤ l.length)
theorem Rd.lt {w : World} {g : Nat} {l : Bs} {s : Pos} (h : Rd N w g l s) : g < w.heap.size := by
  obtain ⟨v, h1, _⟩ := h
  exact lt_of_heap h1
theorem Rd.keep {w w' : World} {g : Nat} {l : Bs} {s : Pos} (h : Rd N w g l s) (hb : Below w.heap.size w w') : Rd N w' g l s := by
  have hl := h.lt
  obtain ⟨v, h1, h2, h3⟩ := h
  exact ⟨v, (hb.block g hl).trans h1, fun w2 hw => h2 w2 (und_trans (und_gb hl (gb_below hb)) hw), h3⟩
theorem Rd.alloc {w : World} {g : Nat} {l : Bs} {s : Pos} (h : Rd N w g l s) (o : Obj) : Rd N (w.alloc o) g l s := h.keep ((Below.refl _ _).alloc (Nat.le_refl _) _)
theorem heap_set3 {w : World} {g : Nat} {v0 v1 v2 u1 : Value} {t : TypeId} (h : w.heap[g]? = some (.cells #[v0, v1, v2] t)) : (w.setCell ⟨g, 1, none⟩ u1).heap[g]? = some (.cells #[v0, u1, v2] t) := by
  rw [heap_setCell _ _ _ _ _ _ _ h]
  simp
theorem heap_set3b {w : World} {g : Nat} {v0 v1 v2 u2 : Value} {t : TypeId} (h : w.heap[g]? = some (.cells #[v0, v1, v2] t)) : (w.setCell ⟨g, 2, none⟩ u2).heap[g]? = some (.cells #[v0, v1, u2] t) := by
  rw [heap_setCell _ _ _ _ _ _ _ h]
  simp

theorem goTo_ok (w : World) (g : Nat) (l : Bs) (a q : Nat) (h : Rd N w g l (some a)) (hq : q ≤ l.length) :
    Calls Tryz.prog 130 #[.pointer (some ⟨g, 0, none⟩), .int .i64 (q : Int), .bool true] w fun e w' => e = .returned (.tuple #[]) ∧ Rd N w' g l (some q) ∧ w.grownBy w' (some g) := by
  obtain ⟨v, h1, h2, h3⟩ := h
  have c1 := cell_of_row w g 1 _ _ _ h1
  simp only [List.getElem?_toArray, List.getElem?_cons_zero, List.getElem?_cons_succ] at c1
  have f1 := frozen0 (j := 1) h1
  go_enter Tryz.func130, Tryz.ntmps130
  go_wp2
  go_end0
  exact ⟨rfl, ⟨v, heap_set3 h1, fun w2 hw => h2 w2 (und_trans (und_gb (lt_of_heap h1) (gb_set _ _ _ _)) hw), fun b hb => by injection hb with hb; omega⟩, gb_set _ _ _ _⟩
set_option maxRecDepth 20000 in
theorem goTo_no (w : World) (g : Nat) (l : Bs) (s : Pos) (q : Int) (h : Rd N w g l s) :
    Calls Tryz.prog 130 #[.pointer (some ⟨g, 0, none⟩), .int .i64 q, .bool false] w fun e w' => e = .returned (.tuple #[]) ∧ Rd N w' g l none ∧ w.grownBy w' (some g) := by
  obtain ⟨v, h1, h2, h3⟩ := h
  have c0 := cell_of_row w g 0 _ _ _ h1
  have c1 := cell_of_row w g 1 _ _ _ h1
  have c2 := cell_of_row w g 2 _ _ _ h1
  simp only [List.getElem?_toArray, List.getElem?_cons_zero, List.getElem?_cons_succ] at c0 c1 c2
  have f2 := frozen0 (j := 2) h1
  have hs := h2 w (und_refl _ _)
  have h1' := heap_set3b (u2 := .bool true) h1
  have d1 := cell_of_row _ g 1 _ _ _ h1'
  simp only [List.getElem?_toArray, List.getElem?_cons_zero, List.getElem?_cons_succ] at d1
  have e1 := frozen0 (j := 1) h1'
  go_enter Tryz.func130, Tryz.ntmps130
  go_wp2_with fail
  refine (size_any w g v l c0 hs).mono ?_
  rintro e w1 ⟨rfl, rfl⟩
  go_wp2
  go_end0
  refine ⟨rfl, ⟨v, heap_set3 h1', fun w2 hw => h2 w2 (und_trans (und_gb (lt_of_heap h1) (gb_trans (gb_set _ _ _ _) (gb_set _ _ _ _))) hw), fun b hb => by cases hb⟩, gb_trans (gb_set _ _ _ _) (gb_set _ _ _ _)⟩
/-- What is asked of a reading. -/
def Took (N K : Nat) (args : Array Value) (w : World) (g : Nat) (l : Bs) (v : Value) (s : Pos) : Prop :=
  Calls Tryz.prog K args w fun e w' => e = .returned v ∧ Rd N w' g l s ∧ w.grownBy w' (some g)

theorem takeT_at_end (l : Bs) (m : Int) : takeT l (l.length : Int) m = none := by unfold takeT; rw [takeI_end l]
set_option maxRecDepth 20000 in
theorem takeNumber_any (w : World) (g : Nat) (l : Bs) (s : Pos) (h : Rd N w g l s) (hl : l.length ≤ 140737488355328) :
    Took N 129 #[.pointer (some ⟨g, 0, none⟩)] w g l (.int .i64 (rI l s).1) (rI l s).2 := by
  have hR := h
  obtain ⟨v, h1, h2, h3⟩ := h
  have c0 := cell_of_row w g 0 _ _ _ h1
  have c1 := cell_of_row w g 1 _ _ _ h1
  simp only [List.getElem?_toArray, List.getElem?_cons_zero, List.getElem?_cons_succ] at c0 c1
  have hs := h2 w.drew (und_gb (lt_of_heap h1) (gb_drew _ _))
  have hd : Rd N w.drew g l s := hR.keep (Below.refl _ _).drew
  have HD := hide hd
  have hp : ((s.getD l.length : Nat) : Int) ≤ 9223372036854775807 := by
    cases s with
    | none => simp; omega
    | some a => have := h3 a rfl; simp; omega
  unfold Took
  cases ht : takeI l ((s.getD l.length : Nat) : Int) with
  | none =>
    have hr : rI l s = (0, none) := by
      cases s with
      | none => rfl
      | some a => simp only [Option.getD_some] at ht; simp only [rI]; rw [ht]
    rw [hr]
    have HT := hide ht
    clear ht hr h1 h2 h3 hR hd
    generalize ((s.getD l.length : Nat) : Int) = p at *
    go_enter Tryz.func129, Tryz.ntmps129
    go_wp2_with fail
    refine wp_region_held_drew (S := fun W => W.cell? ⟨g, 0, none⟩ = some v ∧ W.cell? ⟨g, 1, none⟩ = some (.int .i64 p)) (by kernel_rfl) (⟨c0, c1⟩) (fun hHeld => ?_)
    refine takeK 0 hHeld ?_
    refine takeK 1 hHeld ?_
    refine takeK 2 hHeld ?_
    refine takeK 3 hHeld ?_
    refine takeK 4 hHeld ?_
    refine takeK 5 hHeld ?_
    refine takeK 6 hHeld ?_
    refine takeK 7 hHeld ?_
    refine takeK 8 hHeld ?_
    refine onlyH (i := 9) rfl (by kernel_rfl) rfl (fun K hK => ?_)
    go_simp
    refine (takeInt_none _ _ l p hs hp HT.out).mono ?_
    rintro e w1 ⟨rfl, rfl⟩
    refine hK.out _ _ (⟨c0, c1⟩) (fun hHeld => ?_)
    clear hK K
    try simp only [Act.put, List.setIfInBounds_toArray, List.set_cons_zero, List.set_cons_succ]
    refine takeK 10 hHeld ?_
    refine takeK 11 hHeld ?_
    refine takeK 12 hHeld ?_
    refine takeK 13 hHeld ?_
    refine takeK 14 hHeld ?_
    refine takeK 15 hHeld ?_
    refine takeK 16 hHeld ?_
    refine wpAnyH_done (by kernel_rfl) ?_ _
    clear hHeld
    go_wp2_with fail
    refine (goTo_no _ g l s 0 HD.out).mono ?_
    rintro e w1 ⟨rfl, hR1, hg1⟩
    go_wp2
    go_ret
    exact ⟨rfl, hR1, gb_trans (gb_drew _ _) hg1⟩
  | some x =>
    obtain ⟨n, q⟩ := x
    obtain ⟨a, rfl⟩ : ∃ a, s = some a := by
      cases s with
      | none => simp only [Option.getD_none] at ht; rw [takeI_end] at ht; cases ht
      | some a => exact ⟨a, rfl⟩
    have hr : rI l (some a) = (n, some q) := by simp only [Option.getD_some] at ht; simp only [rI]; rw [ht]
    rw [hr]
    have hq := (takeI_sound ht).2.2.1
    have HT := hide ht
    clear ht hr h1 h2 h3 hR hd
    simp only [Option.getD_some] at *
    go_enter Tryz.func129, Tryz.ntmps129
    go_wp2_with fail
    refine wp_region_held_drew (S := fun W => W.cell? ⟨g, 0, none⟩ = some v ∧ W.cell? ⟨g, 1, none⟩ = some (.int .i64 (a : Int))) (by kernel_rfl) (⟨c0, c1⟩) (fun hHeld => ?_)
    refine takeK 0 hHeld ?_
    refine takeK 1 hHeld ?_
    refine takeK 2 hHeld ?_
    refine takeK 3 hHeld ?_
    refine takeK 4 hHeld ?_
    refine takeK 5 hHeld ?_
    refine takeK 6 hHeld ?_
    refine takeK 7 hHeld ?_
    refine takeK 8 hHeld ?_
    refine onlyH (i := 9) rfl (by kernel_rfl) rfl (fun K hK => ?_)
    go_simp
    refine (takeInt_some _ _ l a n q hs hp HT.out).mono ?_
    rintro e w1 ⟨rfl, rfl⟩
    refine hK.out _ _ (⟨c0, c1⟩) (fun hHeld => ?_)
    clear hK K
    try simp only [Act.put, List.setIfInBounds_toArray, List.set_cons_zero, List.set_cons_succ]
    refine takeK 10 hHeld ?_
    refine takeK 11 hHeld ?_
    refine takeK 12 hHeld ?_
    refine takeK 13 hHeld ?_
    refine takeK 14 hHeld ?_
    refine takeK 15 hHeld ?_
    refine takeK 16 hHeld ?_
    refine wpAnyH_done (by kernel_rfl) ?_ _
    clear hHeld
    go_wp2_with fail
    refine (goTo_ok _ g l a q HD.out hq).mono ?_
    rintro e w1 ⟨rfl, hR1, hg1⟩
    go_wp2
    go_ret
    exact ⟨rfl, hR1, gb_trans (gb_drew _ _) hg1⟩
set_option maxRecDepth 20000 in
theorem takeText_any (w : World) (g : Nat) (l : Bs) (s : Pos) (h : Rd N w g l s) (hl : l.length ≤ 140737488355328) :
    Took N 122 #[.pointer (some ⟨g, 0, none⟩)] w g l (.string (strB (rT l l.length s).1)) (rT l l.length s).2 := by
  have hR := h
  obtain ⟨v, h1, h2, h3⟩ := h
  have c0 := cell_of_row w g 0 _ _ _ h1
  have c1 := cell_of_row w g 1 _ _ _ h1
  simp only [List.getElem?_toArray, List.getElem?_cons_zero, List.getElem?_cons_succ] at c0 c1
  have hs := h2 w.drew (und_gb (lt_of_heap h1) (gb_drew _ _))
  have hd : Rd N w.drew g l s := hR.keep (Below.refl _ _).drew
  have HD := hide hd
  have hp : ((s.getD l.length : Nat) : Int) ≤ 9223372036854775807 := by
    cases s with
    | none => simp; omega
    | some a => have := h3 a rfl; simp; omega
  unfold Took
  cases ht : takeT l ((s.getD l.length : Nat) : Int) l.length with
  | none =>
    have hr : rT l l.length s = ([], none) := by
      cases s with
      | none => rfl
      | some a => simp only [Option.getD_some] at ht; simp only [rT]; rw [ht]
    rw [hr]
    have HT := hide ht
    clear ht hr h1 h2 h3 hR hd
    generalize ((s.getD l.length : Nat) : Int) = p at *
    go_enter Tryz.func122, Tryz.ntmps122
    go_wp2_with fail
    refine wp_region_held_drew (S := fun W => W.cell? ⟨g, 0, none⟩ = some v ∧ W.cell? ⟨g, 1, none⟩ = some (.int .i64 p)) (by kernel_rfl) (⟨c0, c1⟩) (fun hHeld => ?_)
    refine takeK 0 hHeld ?_
    refine takeK 1 hHeld ?_
    refine takeK 2 hHeld ?_
    refine takeK 3 hHeld ?_
    refine takeK 4 hHeld ?_
    refine takeK 5 hHeld ?_
    refine takeK 6 hHeld ?_
    refine takeK 7 hHeld ?_
    refine takeK 8 hHeld ?_
    refine takeK 9 hHeld ?_
    refine takeK 10 hHeld ?_
    refine takeK 11 hHeld ?_
    refine onlyH (i := 12) rfl (by kernel_rfl) rfl (fun K hK => ?_)
    go_simp
    refine (size_any w.drew g v l c0 hs).mono ?_
    rintro e w1 ⟨rfl, rfl⟩
    refine hK.out _ _ (⟨c0, c1⟩) (fun hHeld => ?_)
    clear hK K
    try simp only [Act.put, List.setIfInBounds_toArray, List.set_cons_zero, List.set_cons_succ]
    refine onlyH (i := 13) rfl (by kernel_rfl) rfl (fun K hK => ?_)
    go_simp
    refine (takeText_none _ _ l p l.length hs hp HT.out).mono ?_
    rintro e w1 ⟨rfl, rfl⟩
    refine hK.out _ _ (⟨c0, c1⟩) (fun hHeld => ?_)
    clear hK K
    try simp only [Act.put, List.setIfInBounds_toArray, List.set_cons_zero, List.set_cons_succ]
    refine takeK 14 hHeld ?_
    refine takeK 15 hHeld ?_
    refine takeK 16 hHeld ?_
    refine takeK 17 hHeld ?_
    refine takeK 18 hHeld ?_
    refine takeK 19 hHeld ?_
    refine takeK 20 hHeld ?_
    refine wpAnyH_done (by kernel_rfl) ?_ _
    clear hHeld
    go_wp2_with fail
    refine (goTo_no _ g l s 0 HD.out).mono ?_
    rintro e w1 ⟨rfl, hR1, hg1⟩
    go_wp2
    go_ret
    exact ⟨rfl, hR1, gb_trans (gb_drew _ _) hg1⟩
  | some x =>
    obtain ⟨n, q⟩ := x
    obtain ⟨a, rfl⟩ : ∃ a, s = some a := by
      cases s with
      | none => simp only [Option.getD_none] at ht; rw [takeT_at_end] at ht; cases ht
      | some a => exact ⟨a, rfl⟩
    have hr : rT l l.length (some a) = (n, some q) := by simp only [Option.getD_some] at ht; simp only [rT]; rw [ht]
    rw [hr]
    have hq := (takeT_sound ht).2.2.1
    have HT := hide ht
    clear ht hr h1 h2 h3 hR hd
    simp only [Option.getD_some] at *
    go_enter Tryz.func122, Tryz.ntmps122
    go_wp2_with fail
    refine wp_region_held_drew (S := fun W => W.cell? ⟨g, 0, none⟩ = some v ∧ W.cell? ⟨g, 1, none⟩ = some (.int .i64 (a : Int))) (by kernel_rfl) (⟨c0, c1⟩) (fun hHeld => ?_)
    refine takeK 0 hHeld ?_
    refine takeK 1 hHeld ?_
    refine takeK 2 hHeld ?_
    refine takeK 3 hHeld ?_
    refine takeK 4 hHeld ?_
    refine takeK 5 hHeld ?_
    refine takeK 6 hHeld ?_
    refine takeK 7 hHeld ?_
    refine takeK 8 hHeld ?_
    refine takeK 9 hHeld ?_
    refine takeK 10 hHeld ?_
    refine takeK 11 hHeld ?_
    refine onlyH (i := 12) rfl (by kernel_rfl) rfl (fun K hK => ?_)
    go_simp
    refine (size_any w.drew g v l c0 hs).mono ?_
    rintro e w1 ⟨rfl, rfl⟩
    refine hK.out _ _ (⟨c0, c1⟩) (fun hHeld => ?_)
    clear hK K
    try simp only [Act.put, List.setIfInBounds_toArray, List.set_cons_zero, List.set_cons_succ]
    refine onlyH (i := 13) rfl (by kernel_rfl) rfl (fun K hK => ?_)
    go_simp
    refine (takeText_some _ _ l a l.length n q hs hp HT.out).mono ?_
    rintro e w1 ⟨rfl, rfl⟩
    refine hK.out _ _ (⟨c0, c1⟩) (fun hHeld => ?_)
    clear hK K
    try simp only [Act.put, List.setIfInBounds_toArray, List.set_cons_zero, List.set_cons_succ]
    refine takeK 14 hHeld ?_
    refine takeK 15 hHeld ?_
    refine takeK 16 hHeld ?_
    refine takeK 17 hHeld ?_
    refine takeK 18 hHeld ?_
    refine takeK 19 hHeld ?_
    refine takeK 20 hHeld ?_
    refine wpAnyH_done (by kernel_rfl) ?_ _
    clear hHeld
    go_wp2_with fail
    refine (goTo_ok _ g l a q HD.out hq).mono ?_
    rintro e w1 ⟨rfl, hR1, hg1⟩
    go_wp2
    go_ret
    exact ⟨rfl, hR1, gb_trans (gb_drew _ _) hg1⟩
set_option maxRecDepth 20000 in
theorem takeId_any (w : World) (g : Nat) (l : Bs) (s : Pos) (h : Rd N w g l s) (hl : l.length ≤ 140737488355328) :
    Took N 131 #[.pointer (some ⟨g, 0, none⟩)] w g l (.string (strB (rD l s).1)) (rD l s).2 := by
  have hR := h
  obtain ⟨v, h1, h2, h3⟩ := h
  have c0 := cell_of_row w g 0 _ _ _ h1
  have c1 := cell_of_row w g 1 _ _ _ h1
  simp only [List.getElem?_toArray, List.getElem?_cons_zero, List.getElem?_cons_succ] at c0 c1
  have hs := h2 w.drew (und_gb (lt_of_heap h1) (gb_drew _ _))
  have hd : Rd N w.drew g l s := hR.keep (Below.refl _ _).drew
  have HD := hide hd
  unfold Took
  have hp : s.getD l.length ≤ l.length := by
    cases s with
    | none => simp
    | some a => exact h3 a rfl
  by_cases ht : s.getD l.length + 32 ≤ l.length
  · obtain ⟨a, rfl⟩ : ∃ a, s = some a := by
      cases s with
      | none => simp only [Option.getD_none] at ht; omega
      | some a => exact ⟨a, rfl⟩
    simp only [Option.getD_some] at *
    have hr : rD l (some a) = ((l.drop a).take 32, some (a + 32)) := by simp only [rD]; rw [if_pos ht]
    rw [hr]
    have HS := hide hs
    clear hr h1 h2 h3 hR hd
    go_enter Tryz.func131, Tryz.ntmps131
    go_wp2_with fail
    refine wp_region_held_drew (S := fun W => W.cell? ⟨g, 1, none⟩ = some (.int .i64 (a : Int))) (by kernel_rfl) (c1) (fun hHeld => ?_)
    refine takeK 0 hHeld ?_
    refine takeK 1 hHeld ?_
    refine takeK 2 hHeld ?_
    refine takeK 3 hHeld ?_
    refine takeK 4 hHeld ?_
    refine takeK 5 hHeld ?_
    refine takeK 6 hHeld ?_
    refine takeK 7 hHeld ?_
    refine takeK 8 hHeld ?_
    refine takeK 9 hHeld ?_
    refine takeK 10 hHeld ?_
    refine wpAnyH_done (by kernel_rfl) ?_ _
    clear hHeld
    go_wp2_with fail
    refine (size_any w.drew g v l c0 hs).mono ?_
    rintro e w1 ⟨rfl, rfl⟩
    go_wp2_with fail
    have hgo := goTo_ok _ g l a (a + 32) HD.out ht
    rw [show ((a + 32 : Nat) : Int) = (a : Int) + 32 from by omega] at hgo
    rw [show decide ((a : Int) + 32 ≤ (l.length : Int)) = true from by simp; omega]
    refine hgo.mono ?_
    rintro e w1 ⟨rfl, hR1, hg1⟩
    have hR1' := hR1
    obtain ⟨v1, k1, k2, -⟩ := hR1'
    have d0 := cell_of_row w1 g 0 _ _ _ k1
    simp only [List.getElem?_toArray, List.getElem?_cons_zero] at d0
    have hs1 := k2 w1 (und_refl _ _)
    have HR1 := hide hR1
    clear hR1 k1 k2
    go_wp2_with fail
    refine (piece_any w1 g v1 l a 32 d0 hs1 ht _ (by omega)).mono ?_
    rintro e w2 ⟨rfl, rfl⟩
    go_wp2
    go_ret
    exact ⟨rfl, HR1.out, gb_trans (gb_drew _ _) hg1⟩
  · have hr : rD l s = ([], none) := by
      cases s with
      | none => rfl
      | some a => simp only [Option.getD_some] at ht; simp only [rD]; rw [if_neg ht]
    rw [hr]
    clear hr h1 h2 h3 hR hd
    generalize s.getD l.length = p at *
    go_enter Tryz.func131, Tryz.ntmps131
    go_wp2_with fail
    refine wp_region_held_drew (S := fun W => W.cell? ⟨g, 1, none⟩ = some (.int .i64 (p : Int))) (by kernel_rfl) (c1) (fun hHeld => ?_)
    refine takeK 0 hHeld ?_
    refine takeK 1 hHeld ?_
    refine takeK 2 hHeld ?_
    refine takeK 3 hHeld ?_
    refine takeK 4 hHeld ?_
    refine takeK 5 hHeld ?_
    refine takeK 6 hHeld ?_
    refine takeK 7 hHeld ?_
    refine takeK 8 hHeld ?_
    refine takeK 9 hHeld ?_
    refine takeK 10 hHeld ?_
    refine wpAnyH_done (by kernel_rfl) ?_ _
    clear hHeld
    go_wp2_with fail
    refine (size_any w.drew g v l c0 hs).mono ?_
    rintro e w1 ⟨rfl, rfl⟩
    go_wp2_with fail
    rw [show decide ((p : Int) + 32 ≤ (l.length : Int)) = false from by simp; omega]
    refine (goTo_no _ g l s _ HD.out).mono ?_
    rintro e w1 ⟨rfl, hR1, hg1⟩
    go_wp2
    go_ret
    exact ⟨rfl, hR1, gb_trans (gb_drew _ _) hg1⟩
theorem rI_64 (l : Bs) (s : Pos) : In64 (rI l s).1 := by
  unfold rI In64
  cases s with
  | none => simp
  | some a =>
    simp only
    cases h : takeI l a with
    | none => simp
    | some x =>
      obtain ⟨n, q⟩ := x
      obtain ⟨_, _, _, _, h5, h6, _⟩ := takeI_sound h
      exact ⟨h5, h6⟩
set_option maxRecDepth 20000 in
theorem takeSmall_any (w : World) (g : Nat) (l : Bs) (s : Pos) (most : Int) (h : Rd N w g l s) (hl : l.length ≤ 140737488355328) :
    Took N 107 #[.pointer (some ⟨g, 0, none⟩), .int .i64 most] w g l (.int .i64 (rC l most s).1) (rC l most s).2 := by
  have hT := takeNumber_any w g l s h hl
  have h64 := rI_64 l s
  unfold Took at *
  unfold rC
  generalize hx : rI l s = x at *
  obtain ⟨n, q⟩ := x
  simp only at *
  by_cases h1 : n < 0
  · rw [if_pos (.inl h1)]
    go_enter Tryz.func107, Tryz.ntmps107
    go_wp2_with fail
    refine hT.mono ?_
    rintro e w1 ⟨rfl, hR1, hg1⟩
    go_wp2_with fail
    refine (goTo_no _ g l _ _ hR1).mono ?_
    rintro e w2 ⟨rfl, hR2, hg2⟩
    go_wp2
    go_ret
    exact ⟨rfl, hR2, gb_trans hg1 hg2⟩
  · by_cases h2 : most < n
    · rw [if_pos (.inr h2)]
      go_enter Tryz.func107, Tryz.ntmps107
      go_wp2_with fail
      refine hT.mono ?_
      rintro e w1 ⟨rfl, hR1, hg1⟩
      go_wp2_with fail
      refine (goTo_no _ g l _ _ hR1).mono ?_
      rintro e w2 ⟨rfl, hR2, hg2⟩
      go_wp2
      go_ret
      exact ⟨rfl, hR2, gb_trans hg1 hg2⟩
    · rw [if_neg (by omega)]
      go_enter Tryz.func107, Tryz.ntmps107
      go_wp2_with fail
      refine hT.mono ?_
      rintro e w1 ⟨rfl, hR1, hg1⟩
      go_wp2
      go_ret
      exact ⟨rfl, hR1, hg1⟩
set_option maxRecDepth 20000 in
theorem wasAll_any (w : World) (g : Nat) (l : Bs) (s : Pos) (h : Rd N w g l s) :
    Calls Tryz.prog 105 #[.pointer (some ⟨g, 0, none⟩)] w fun e w' => e = .returned (.bool (decide (s = some l.length))) ∧ Below w.heap.size w w' := by
  obtain ⟨v, h1, h2, h3⟩ := h
  have c0 := cell_of_row w g 0 _ _ _ h1
  have c1 := cell_of_row w g 1 _ _ _ h1
  have c2 := cell_of_row w g 2 _ _ _ h1
  simp only [List.getElem?_toArray, List.getElem?_cons_zero, List.getElem?_cons_succ] at c0 c1 c2
  have hs := h2 w.drew (und_gb (lt_of_heap h1) (gb_drew _ _))
  clear h1 h2
  cases s with
  | none =>
    simp only [Option.getD_none, Option.isNone_none] at *
    go_enter Tryz.func105, Tryz.ntmps105
    go_wp2_with fail
    refine wp_region_held_drew (S := fun W => W.cell? ⟨g, 1, none⟩ = some (.int .i64 (l.length : Int)) ∧ W.cell? ⟨g, 2, none⟩ = some (.bool true)) (by kernel_rfl) (⟨c1, c2⟩) (fun hHeld => ?_)
    refine takeK 0 hHeld ?_
    refine takeK 1 hHeld ?_
    refine takeK 2 hHeld ?_
    refine takeK 3 hHeld ?_
    refine takeK 4 hHeld ?_
    refine takeK 5 hHeld ?_
    refine skipH (i := 6) rfl (by kernel_rfl) (by kernel_rfl) (by kernel_rfl) (fun _ _ _ h => h) rfl hHeld ?_
    try simp only [Act.put, List.setIfInBounds_toArray, List.set_cons_zero, List.set_cons_succ]
    refine skipH (i := 7) rfl (by kernel_rfl) (by kernel_rfl) (by kernel_rfl) (fun _ _ _ h => h) rfl hHeld ?_
    try simp only [Act.put, List.setIfInBounds_toArray, List.set_cons_zero, List.set_cons_succ]
    refine skipH (i := 8) rfl (by kernel_rfl) (by kernel_rfl) (by kernel_rfl) (fun _ _ _ h => h) rfl hHeld ?_
    try simp only [Act.put, List.setIfInBounds_toArray, List.set_cons_zero, List.set_cons_succ]
    refine skipH (i := 9) rfl (by kernel_rfl) (by kernel_rfl) (by kernel_rfl) (fun _ _ _ h => h) rfl hHeld ?_
    try simp only [Act.put, List.setIfInBounds_toArray, List.set_cons_zero, List.set_cons_succ]
    refine skipH (i := 10) rfl (by kernel_rfl) (by kernel_rfl) (by kernel_rfl) (fun _ _ _ h => h) rfl hHeld ?_
    try simp only [Act.put, List.setIfInBounds_toArray, List.set_cons_zero, List.set_cons_succ]
    refine skipH (i := 11) rfl (by kernel_rfl) (by kernel_rfl) (by kernel_rfl) (fun _ _ _ h => h) rfl hHeld ?_
    try simp only [Act.put, List.setIfInBounds_toArray, List.set_cons_zero, List.set_cons_succ]
    refine skipH (i := 12) rfl (by kernel_rfl) (by kernel_rfl) (by kernel_rfl) (fun _ _ _ h => h) rfl hHeld ?_
    try simp only [Act.put, List.setIfInBounds_toArray, List.set_cons_zero, List.set_cons_succ]
    refine skipH (i := 13) rfl (by kernel_rfl) (by kernel_rfl) (by kernel_rfl) (fun _ _ _ h => h) rfl hHeld ?_
    try simp only [Act.put, List.setIfInBounds_toArray, List.set_cons_zero, List.set_cons_succ]
    refine skipH (i := 14) rfl (by kernel_rfl) (by kernel_rfl) (by kernel_rfl) (fun _ _ _ h => h) rfl hHeld ?_
    try simp only [Act.put, List.setIfInBounds_toArray, List.set_cons_zero, List.set_cons_succ]
    refine takeK 15 hHeld ?_
    refine takeK 16 hHeld ?_
    refine wpAnyH_done (by kernel_rfl) ?_ _
    clear hHeld
    go_wp2
    go_ret
    exact ⟨ret_bool (by simp), (Below.refl _ _).drew⟩
  | some a =>
    simp only [Option.getD_some, Option.isNone_some] at *
    go_enter Tryz.func105, Tryz.ntmps105
    go_wp2_with fail
    refine wp_region_held_drew (S := fun W => W.cell? ⟨g, 1, none⟩ = some (.int .i64 (a : Int)) ∧ W.cell? ⟨g, 2, none⟩ = some (.bool false)) (by kernel_rfl) (⟨c1, c2⟩) (fun hHeld => ?_)
    refine takeK 0 hHeld ?_
    refine takeK 1 hHeld ?_
    refine takeK 2 hHeld ?_
    refine takeK 3 hHeld ?_
    refine takeK 4 hHeld ?_
    refine takeK 5 hHeld ?_
    refine takeK 6 hHeld ?_
    refine takeK 7 hHeld ?_
    refine takeK 8 hHeld ?_
    refine takeK 9 hHeld ?_
    refine takeK 10 hHeld ?_
    refine takeK 11 hHeld ?_
    refine takeK 12 hHeld ?_
    refine onlyH (i := 13) rfl (by kernel_rfl) rfl (fun K hK => ?_)
    go_simp
    refine (size_any w.drew g v l c0 hs).mono ?_
    rintro e w1 ⟨rfl, rfl⟩
    refine hK.out _ _ (⟨c1, c2⟩) (fun hHeld => ?_)
    clear hK K
    try simp only [Act.put, List.setIfInBounds_toArray, List.set_cons_zero, List.set_cons_succ]
    refine takeK 14 hHeld ?_
    refine takeK 15 hHeld ?_
    refine takeK 16 hHeld ?_
    refine wpAnyH_done (by kernel_rfl) ?_ _
    clear hHeld
    go_wp2
    go_ret
    refine ⟨ret_bool ?_, (Below.refl _ _).drew⟩
    rw [Bool.eq_iff_iff]; simp <;> omega
end Go.Proofs.YtimbleaafoiidaaGreatDoor
