/-
  Texts joined: ORead, OBegin, OTake, OTakes.
-/
import Derived.Test.YtldfjpgcemfpjaaM4OPlain
import Derived.Lib.SliceRun
import Derived.Lib.UnsafeStr
import Derived.Lib.BufferWrite
import Derived.Laws.MakeOwn
/-
  What is read: a reading in memory, and what its methods do. Conditions: lengths within reach.
-/
namespace Go.Proofs.Ytldfjpgcemfpjaa
open Go.RowKit

theorem gb_refl (w : World) (r : Option Nat) : w.grownBy w r := ⟨rfl, rfl, rfl, Nat.le_refl _, fun _ _ _ => rfl⟩
theorem gb_trans {a b c : World} {r : Option Nat} (h : a.grownBy b r) (k : b.grownBy c r) : a.grownBy c r :=
  ⟨k.os.trans h.os, k.tape.trans h.tape, k.output.trans h.output, Nat.le_trans h.size k.size, fun i hi hr => (k.block i (Nat.lt_of_lt_of_le hi h.size) hr).trans (h.block i hi hr)⟩
theorem gb_below {a b : World} {r : Option Nat} (h : Below a.heap.size a b) : a.grownBy b r := ⟨h.os, h.tape, h.output, h.size, fun i hi _ => h.block i hi⟩
theorem gb_alloc (w : World) (o : Obj) (r : Option Nat) : w.grownBy (w.alloc o) r := gb_below ((Below.refl _ _).alloc (Nat.le_refl _) _)
theorem gb_drew (w : World) (r : Option Nat) : w.grownBy w.drew r := gb_below ((Below.refl _ _).drew)
theorem gb_set (w : World) (g i : Nat) (u : Value) : w.grownBy (w.setCell ⟨g, i, none⟩ u) (some g) := by
  refine ⟨rfl, rfl, rfl, by simp [World.setCell], fun k _ hk => ?_⟩
  have hne : k ≠ g := fun e => hk (by rw [e])
  unfold World.setCell
  simp [Array.getElem?_modify, Ne.symm hne]
variable {N : Nat}
/-- From N to g all is as it was. -/
def Und (N g : Nat) (w w' : World) : Prop := w.heap.size ≤ w'.heap.size ∧ ∀ k, N ≤ k → k < g → w'.heap[k]? = w.heap[k]?
theorem und_refl (g : Nat) (w : World) : Und N g w w := ⟨Nat.le_refl _, fun _ _ _ => rfl⟩
theorem und_trans {g : Nat} {a b c : World} (h : Und N g a b) (k : Und N g b c) : Und N g a c := ⟨Nat.le_trans h.1 k.1, fun i hN hi => (k.2 i hN hi).trans (h.2 i hN hi)⟩
theorem und_gb {g : Nat} {w w' : World} (hl : g < w.heap.size) (h : w.grownBy w' (some g)) : Und N g w w' := ⟨h.size, fun k _ hk => h.block k (by omega) (fun e => by injection e with e; omega)⟩
theorem und_set {g n i : Nat} (w : World) (u : Value) (hl : g < w.heap.size) (h : g ≤ n ∨ n < N) : Und N g w (w.setCell ⟨n, i, none⟩ u) := ⟨(gb_set w n i u).size, fun k _ hk => (gb_set w n i u).block k (by omega) (fun e => by injection e with e; omega)⟩
/-- The reading g goes through the bytes l, and stands at s. -/
def Rd (N : Nat) (w : World) (g : Nat) (l : Bs) (s : Pos) : Prop :=
  ∃ v, w.heap[g]? = some (.cells #[v, .int .i64 ((s.getD l.length : Nat) : Int), .bool s.isNone] 163) ∧ (∀ w', Und N g w w' → Sl w' v l) ∧ (∀ a, s = some a → a ≤ l.length)
theorem Rd.lt {w : World} {g : Nat} {l : Bs} {s : Pos} (h : Rd N w g l s) : g < w.heap.size := by
  obtain ⟨v, h1, _⟩ := h
  exact lt_of_heap h1
theorem Rd.keep {w w' : World} {g : Nat} {l : Bs} {s : Pos} (h : Rd N w g l s) (hb : Below w.heap.size w w') : Rd N w' g l s := by
  have hl := h.lt
  obtain ⟨v, h1, h2, h3⟩ := h
  exact ⟨v, (hb.block g hl).trans h1, fun w2 hw => h2 w2 (und_trans (und_gb hl (gb_below hb)) hw), h3⟩
theorem Rd.alloc {w : World} {g : Nat} {l : Bs} {s : Pos} (h : Rd N w g l s) (o : Obj) : Rd N (w.alloc o) g l s := h.keep ((Below.refl _ _).alloc (Nat.le_refl _) _)
theorem heap_set3 {w : World} {g : Nat} {v0 v1 v2 u1 : Value} {t : TypeId} (h : w.heap[g]? = some (.cells #[v0, v1, v2] t)) : (w.setCell ⟨g, 1, none⟩ u1).heap[g]? = some (.cells #[v0, u1, v2] t) := by
  rw [heap_setCell _ _ _ _ _ _ _ h]
  simp
theorem heap_set3b {w : World} {g : Nat} {v0 v1 v2 u2 : Value} {t : TypeId} (h : w.heap[g]? = some (.cells #[v0, v1, v2] t)) : (w.setCell ⟨g, 2, none⟩ u2).heap[g]? = some (.cells #[v0, v1, u2] t) := by
  rw [heap_setCell _ _ _ _ _ _ _ h]
  simp

theorem goTo_ok (w : World) (g : Nat) (l : Bs) (a q : Nat) (h : Rd N w g l (some a)) (hq : q ≤ l.length) :
    Calls Try.prog 96 #[.pointer (some ⟨g, 0, none⟩), .int .i64 (q : Int), .bool true] w fun e w' => e = .returned (.tuple #[]) ∧ Rd N w' g l (some q) ∧ w.grownBy w' (some g) := by
  obtain ⟨v, h1, h2, h3⟩ := h
  have c1 := cell_of_row w g 1 _ _ _ h1
  simp only [List.getElem?_toArray, List.getElem?_cons_zero, List.getElem?_cons_succ] at c1
  have f1 := frozen0 (j := 1) h1
  go_enter Try.func96, Try.ntmps96
  go_wp2
  go_end0
  exact ⟨rfl, ⟨v, heap_set3 h1, fun w2 hw => h2 w2 (und_trans (und_gb (lt_of_heap h1) (gb_set _ _ _ _)) hw), fun b hb => by injection hb with hb; omega⟩, gb_set _ _ _ _⟩
set_option maxRecDepth 20000 in
theorem goTo_no (w : World) (g : Nat) (l : Bs) (s : Pos) (q : Int) (h : Rd N w g l s) :
    Calls Try.prog 96 #[.pointer (some ⟨g, 0, none⟩), .int .i64 q, .bool false] w fun e w' => e = .returned (.tuple #[]) ∧ Rd N w' g l none ∧ w.grownBy w' (some g) := by
  obtain ⟨v, h1, h2, h3⟩ := h
  have c0 := cell_of_row w g 0 _ _ _ h1
  have c1 := cell_of_row w g 1 _ _ _ h1
  have c2 := cell_of_row w g 2 _ _ _ h1
  simp only [List.getElem?_toArray, List.getElem?_cons_zero, List.getElem?_cons_succ] at c0 c1 c2
  have f2 := frozen0 (j := 2) h1
  have hs := h2 w (und_refl _ _)
  have h1' := heap_set3b (u2 := .bool true) h1
  have d1 := cell_of_row _ g 1 _ _ _ h1'
  simp only [List.getElem?_toArray, List.getElem?_cons_zero, List.getElem?_cons_succ] at d1
  have e1 := frozen0 (j := 1) h1'
  go_enter Try.func96, Try.ntmps96
  go_wp2_with fail
  refine (size_any w g v l c0 hs).mono ?_
  rintro e w1 ⟨rfl, rfl⟩
  go_wp2
  go_end0
  refine ⟨rfl, ⟨v, heap_set3 h1', fun w2 hw => h2 w2 (und_trans (und_gb (lt_of_heap h1) (gb_trans (gb_set _ _ _ _) (gb_set _ _ _ _))) hw), fun b hb => by cases hb⟩, gb_trans (gb_set _ _ _ _) (gb_set _ _ _ _)⟩
/-- What is asked of a reading. -/
def Took (N K : Nat) (args : Array Value) (w : World) (g : Nat) (l : Bs) (v : Value) (s : Pos) : Prop :=
  Calls Try.prog K args w fun e w' => e = .returned v ∧ Rd N w' g l s ∧ w.grownBy w' (some g)

theorem takeT_at_end (l : Bs) (m : Int) : takeT l (l.length : Int) m = none := by unfold takeT; rw [takeI_end l]
set_option maxRecDepth 20000 in
theorem takeNumber_any (w : World) (g : Nat) (l : Bs) (s : Pos) (h : Rd N w g l s) (hl : l.length ≤ 140737488355328) :
    Took N 95 #[.pointer (some ⟨g, 0, none⟩)] w g l (.int .i64 (rI l s).1) (rI l s).2 := by
  have hR := h
  obtain ⟨v, h1, h2, h3⟩ := h
  have c0 := cell_of_row w g 0 _ _ _ h1
  have c1 := cell_of_row w g 1 _ _ _ h1
  simp only [List.getElem?_toArray, List.getElem?_cons_zero, List.getElem?_cons_succ] at c0 c1
  have hs := h2 w.drew (und_gb (lt_of_heap h1) (gb_drew _ _))
  have hd : Rd N w.drew g l s := hR.keep (Below.refl _ _).drew
  have HD := hide hd
  have hp : ((s.getD l.length : Nat) : Int) ≤ 9223372036854775807 := by
    cases s with
    | none => simp; omega
    | some a => have := h3 a rfl; simp; omega
  unfold Took
  cases ht : takeI l ((s.getD l.length : Nat) : Int) with
  | none =>
    have hr : rI l s = (0, none) := by
      cases s with
      | none => rfl
      | some a => simp only [Option.getD_some] at ht; simp only [rI]; rw [ht]
    rw [hr]
    have HT := hide ht
    clear ht hr h1 h2 h3 hR hd
    generalize ((s.getD l.length : Nat) : Int) = p at *
    go_enter Try.func95, Try.ntmps95
    go_wp2_with fail
    refine wp_region_held_drew (S := fun W => W.cell? ⟨g, 0, none⟩ = some v ∧ W.cell? ⟨g, 1, none⟩ = some (.int .i64 p)) (by kernel_rfl) (⟨c0, c1⟩) (fun hHeld => ?_)
    refine takeK 0 hHeld ?_
    refine takeK 1 hHeld ?_
    refine takeK 2 hHeld ?_
    refine takeK 3 hHeld ?_
    refine takeK 4 hHeld ?_
    refine takeK 5 hHeld ?_
    refine takeK 6 hHeld ?_
    refine takeK 7 hHeld ?_
    refine takeK 8 hHeld ?_
    refine onlyH (i := 9) rfl (by kernel_rfl) rfl (fun K hK => ?_)
    go_simp
    refine (takeInt_none _ _ l p hs hp HT.out).mono ?_
    rintro e w1 ⟨rfl, rfl⟩
    refine hK.out _ _ (⟨c0, c1⟩) (fun hHeld => ?_)
    clear hK K
    try simp only [Act.put, List.setIfInBounds_toArray, List.set_cons_zero, List.set_cons_succ]
    refine takeK 10 hHeld ?_
    refine takeK 11 hHeld ?_
    refine takeK 12 hHeld ?_
    refine takeK 13 hHeld ?_
    refine takeK 14 hHeld ?_
    refine takeK 15 hHeld ?_
    refine takeK 16 hHeld ?_
    refine wpAnyH_done (by kernel_rfl) ?_ _
    clear hHeld
    go_wp2_with fail
    refine (goTo_no _ g l s 0 HD.out).mono ?_
    rintro e w1 ⟨rfl, hR1, hg1⟩
    go_wp2
    go_ret
    exact ⟨rfl, hR1, gb_trans (gb_drew _ _) hg1⟩
  | some x =>
    obtain ⟨n, q⟩ := x
    obtain ⟨a, rfl⟩ : ∃ a, s = some a := by
      cases s with
      | none => simp only [Option.getD_none] at ht; rw [takeI_end] at ht; cases ht
      | some a => exact ⟨a, rfl⟩
    have hr : rI l (some a) = (n, some q) := by simp only [Option.getD_some] at ht; simp only [rI]; rw [ht]
    rw [hr]
    have hq := (takeI_sound ht).2.2.1
    have HT := hide ht
    clear ht hr h1 h2 h3 hR hd
    simp only [Option.getD_some] at *
    go_enter Try.func95, Try.ntmps95
    go_wp2_with fail
    refine wp_region_held_drew (S := fun W => W.cell? ⟨g, 0, none⟩ = some v ∧ W.cell? ⟨g, 1, none⟩ = some (.int .i64 (a : Int))) (by kernel_rfl) (⟨c0, c1⟩) (fun hHeld => ?_)
    refine takeK 0 hHeld ?_
    refine takeK 1 hHeld ?_
    refine takeK 2 hHeld ?_
    refine takeK 3 hHeld ?_
    refine takeK 4 hHeld ?_
    refine takeK 5 hHeld ?_
    refine takeK 6 hHeld ?_
    refine takeK 7 hHeld ?_
    refine takeK 8 hHeld ?_
    refine onlyH (i := 9) rfl (by kernel_rfl) rfl (fun K hK => ?_)
    go_simp
    refine (takeInt_some _ _ l a n q hs hp HT.out).mono ?_
    rintro e w1 ⟨rfl, rfl⟩
    refine hK.out _ _ (⟨c0, c1⟩) (fun hHeld => ?_)
    clear hK K
    try simp only [Act.put, List.setIfInBounds_toArray, List.set_cons_zero, List.set_cons_succ]
    refine takeK 10 hHeld ?_
    refine takeK 11 hHeld ?_
    refine takeK 12 hHeld ?_
    refine takeK 13 hHeld ?_
    refine takeK 14 hHeld ?_
    refine takeK 15 hHeld ?_
    refine takeK 16 hHeld ?_
    refine wpAnyH_done (by kernel_rfl) ?_ _
    clear hHeld
    go_wp2_with fail
    refine (goTo_ok _ g l a q HD.out hq).mono ?_
    rintro e w1 ⟨rfl, hR1, hg1⟩
    go_wp2
    go_ret
    exact ⟨rfl, hR1, gb_trans (gb_drew _ _) hg1⟩
set_option maxRecDepth 20000 in
theorem takeText_any (w : World) (g : Nat) (l : Bs) (s : Pos) (h : Rd N w g l s) (hl : l.length ≤ 140737488355328) :
    Took N 88 #[.pointer (some ⟨g, 0, none⟩)] w g l (.string (strB (rT l l.length s).1)) (rT l l.length s).2 := by
  have hR := h
  obtain ⟨v, h1, h2, h3⟩ := h
  have c0 := cell_of_row w g 0 _ _ _ h1
  have c1 := cell_of_row w g 1 _ _ _ h1
  simp only [List.getElem?_toArray, List.getElem?_cons_zero, List.getElem?_cons_succ] at c0 c1
  have hs := h2 w.drew (und_gb (lt_of_heap h1) (gb_drew _ _))
  have hd : Rd N w.drew g l s := hR.keep (Below.refl _ _).drew
  have HD := hide hd
  have hp : ((s.getD l.length : Nat) : Int) ≤ 9223372036854775807 := by
    cases s with
    | none => simp; omega
    | some a => have := h3 a rfl; simp; omega
  unfold Took
  cases ht : takeT l ((s.getD l.length : Nat) : Int) l.length with
  | none =>
    have hr : rT l l.length s = ([], none) := by
      cases s with
      | none => rfl
      | some a => simp only [Option.getD_some] at ht; simp only [rT]; rw [ht]
    rw [hr]
    have HT := hide ht
    clear ht hr h1 h2 h3 hR hd
    generalize ((s.getD l.length : Nat) : Int) = p at *
    go_enter Try.func88, Try.ntmps88
    go_wp2_with fail
    refine wp_region_held_drew (S := fun W => W.cell? ⟨g, 0, none⟩ = some v ∧ W.cell? ⟨g, 1, none⟩ = some (.int .i64 p)) (by kernel_rfl) (⟨c0, c1⟩) (fun hHeld => ?_)
    refine takeK 0 hHeld ?_
    refine takeK 1 hHeld ?_
    refine takeK 2 hHeld ?_
    refine takeK 3 hHeld ?_
    refine takeK 4 hHeld ?_
    refine takeK 5 hHeld ?_
    refine takeK 6 hHeld ?_
    refine takeK 7 hHeld ?_
    refine takeK 8 hHeld ?_
    refine takeK 9 hHeld ?_
    refine takeK 10 hHeld ?_
    refine takeK 11 hHeld ?_
    refine onlyH (i := 12) rfl (by kernel_rfl) rfl (fun K hK => ?_)
    go_simp
    refine (size_any w.drew g v l c0 hs).mono ?_
    rintro e w1 ⟨rfl, rfl⟩
    refine hK.out _ _ (⟨c0, c1⟩) (fun hHeld => ?_)
    clear hK K
    try simp only [Act.put, List.setIfInBounds_toArray, List.set_cons_zero, List.set_cons_succ]
    refine onlyH (i := 13) rfl (by kernel_rfl) rfl (fun K hK => ?_)
    go_simp
    refine (takeText_none _ _ l p l.length hs hp HT.out).mono ?_
    rintro e w1 ⟨rfl, rfl⟩
    refine hK.out _ _ (⟨c0, c1⟩) (fun hHeld => ?_)
    clear hK K
    try simp only [Act.put, List.setIfInBounds_toArray, List.set_cons_zero, List.set_cons_succ]
    refine takeK 14 hHeld ?_
    refine takeK 15 hHeld ?_
    refine takeK 16 hHeld ?_
    refine takeK 17 hHeld ?_
    refine takeK 18 hHeld ?_
    refine takeK 19 hHeld ?_
    refine takeK 20 hHeld ?_
    refine wpAnyH_done (by kernel_rfl) ?_ _
    clear hHeld
    go_wp2_with fail
    refine (goTo_no _ g l s 0 HD.out).mono ?_
    rintro e w1 ⟨rfl, hR1, hg1⟩
    go_wp2
    go_ret
    exact ⟨rfl, hR1, gb_trans (gb_drew _ _) hg1⟩
  | some x =>
    obtain ⟨n, q⟩ := x
    obtain ⟨a, rfl⟩ : ∃ a, s = some a := by
      cases s with
      | none => simp only [Option.getD_none] at ht; rw [takeT_at_end] at ht; cases ht
      | some a => exact ⟨a, rfl⟩
    have hr : rT l l.length (some a) = (n, some q) := by simp only [Option.getD_some] at ht; simp only [rT]; rw [ht]
    rw [hr]
    have hq := (takeT_sound ht).2.2.1
    have HT := hide ht
    clear ht hr h1 h2 h3 hR hd
    simp only [Option.getD_some] at *
    go_enter Try.func88, Try.ntmps88
    go_wp2_with fail
    refine wp_region_held_drew (S := fun W => W.cell? ⟨g, 0, none⟩ = some v ∧ W.cell? ⟨g, 1, none⟩ = some (.int .i64 (a : Int))) (by kernel_rfl) (⟨c0, c1⟩) (fun hHeld => ?_)
    refine takeK 0 hHeld ?_
    refine takeK 1 hHeld ?_
    refine takeK 2 hHeld ?_
    refine takeK 3 hHeld ?_
    refine takeK 4 hHeld ?_
    refine takeK 5 hHeld ?_
    refine takeK 6 hHeld ?_
    refine takeK 7 hHeld ?_
    refine takeK 8 hHeld ?_
    refine takeK 9 hHeld ?_
    refine takeK 10 hHeld ?_
    refine takeK 11 hHeld ?_
    refine onlyH (i := 12) rfl (by kernel_rfl) rfl (fun K hK => ?_)
    go_simp
    refine (size_any w.drew g v l c0 hs).mono ?_
    rintro e w1 ⟨rfl, rfl⟩
    refine hK.out _ _ (⟨c0, c1⟩) (fun hHeld => ?_)
    clear hK K
    try simp only [Act.put, List.setIfInBounds_toArray, List.set_cons_zero, List.set_cons_succ]
    refine onlyH (i := 13) rfl (by kernel_rfl) rfl (fun K hK => ?_)
    go_simp
    refine (takeText_some _ _ l a l.length n q hs hp HT.out).mono ?_
    rintro e w1 ⟨rfl, rfl⟩
    refine hK.out _ _ (⟨c0, c1⟩) (fun hHeld => ?_)
    clear hK K
    try simp only [Act.put, List.setIfInBounds_toArray, List.set_cons_zero, List.set_cons_succ]
    refine takeK 14 hHeld ?_
    refine takeK 15 hHeld ?_
    refine takeK 16 hHeld ?_
    refine takeK 17 hHeld ?_
    refine takeK 18 hHeld ?_
    refine takeK 19 hHeld ?_
    refine takeK 20 hHeld ?_
    refine wpAnyH_done (by kernel_rfl) ?_ _
    clear hHeld
    go_wp2_with fail
    refine (goTo_ok _ g l a q HD.out hq).mono ?_
    rintro e w1 ⟨rfl, hR1, hg1⟩
    go_wp2
    go_ret
    exact ⟨rfl, hR1, gb_trans (gb_drew _ _) hg1⟩
set_option maxRecDepth 20000 in
theorem takeId_any (w : World) (g : Nat) (l : Bs) (s : Pos) (h : Rd N w g l s) (hl : l.length ≤ 140737488355328) :
    Took N 97 #[.pointer (some ⟨g, 0, none⟩)] w g l (.string (strB (rD l s).1)) (rD l s).2 := by
  have hR := h
  obtain ⟨v, h1, h2, h3⟩ := h
  have c0 := cell_of_row w g 0 _ _ _ h1
  have c1 := cell_of_row w g 1 _ _ _ h1
  simp only [List.getElem?_toArray, List.getElem?_cons_zero, List.getElem?_cons_succ] at c0 c1
  have hs := h2 w.drew (und_gb (lt_of_heap h1) (gb_drew _ _))
  have hd : Rd N w.drew g l s := hR.keep (Below.refl _ _).drew
  have HD := hide hd
  unfold Took
  have hp : s.getD l.length ≤ l.length := by
    cases s with
    | none => simp
    | some a => exact h3 a rfl
  by_cases ht : s.getD l.length + 32 ≤ l.length
  · obtain ⟨a, rfl⟩ : ∃ a, s = some a := by
      cases s with
      | none => simp only [Option.getD_none] at ht; omega
      | some a => exact ⟨a, rfl⟩
    simp only [Option.getD_some] at *
    have hr : rD l (some a) = ((l.drop a).take 32, some (a + 32)) := by simp only [rD]; rw [if_pos ht]
    rw [hr]
    have HS := hide hs
    clear hr h1 h2 h3 hR hd
    go_enter Try.func97, Try.ntmps97
    go_wp2_with fail
    refine wp_region_held_drew (S := fun W => W.cell? ⟨g, 1, none⟩ = some (.int .i64 (a : Int))) (by kernel_rfl) (c1) (fun hHeld => ?_)
    refine takeK 0 hHeld ?_
    refine takeK 1 hHeld ?_
    refine takeK 2 hHeld ?_
    refine takeK 3 hHeld ?_
    refine takeK 4 hHeld ?_
    refine takeK 5 hHeld ?_
    refine takeK 6 hHeld ?_
    refine takeK 7 hHeld ?_
    refine takeK 8 hHeld ?_
    refine takeK 9 hHeld ?_
    refine takeK 10 hHeld ?_
    refine wpAnyH_done (by kernel_rfl) ?_ _
    clear hHeld
    go_wp2_with fail
    refine (size_any w.drew g v l c0 hs).mono ?_
    rintro e w1 ⟨rfl, rfl⟩
    go_wp2_with fail
    have hgo := goTo_ok _ g l a (a + 32) HD.out ht
    rw [show ((a + 32 : Nat) : Int) = (a : Int) + 32 from by omega] at hgo
    rw [show decide ((a : Int) + 32 ≤ (l.length : Int)) = true from by simp; omega]
    refine hgo.mono ?_
    rintro e w1 ⟨rfl, hR1, hg1⟩
    have hR1' := hR1
    obtain ⟨v1, k1, k2, -⟩ := hR1'
    have d0 := cell_of_row w1 g 0 _ _ _ k1
    simp only [List.getElem?_toArray, List.getElem?_cons_zero] at d0
    have hs1 := k2 w1 (und_refl _ _)
    have HR1 := hide hR1
    clear hR1 k1 k2
    go_wp2_with fail
    refine (piece_any w1 g v1 l a 32 d0 hs1 ht _ (by omega)).mono ?_
    rintro e w2 ⟨rfl, rfl⟩
    go_wp2
    go_ret
    exact ⟨rfl, HR1.out, gb_trans (gb_drew _ _) hg1⟩
  · have hr : rD l s = ([], none) := by
      cases s with
      | none => rfl
      | some a => simp only [Option.getD_some] at ht; simp only [rD]; rw [if_neg ht]
    rw [hr]
    clear hr h1 h2 h3 hR hd
    generalize s.getD l.length = p at *
    go_enter Try.func97, Try.ntmps97
    go_wp2_with fail
    refine wp_region_held_drew (S := fun W => W.cell? ⟨g, 1, none⟩ = some (.int .i64 (p : Int))) (by kernel_rfl) (c1) (fun hHeld => ?_)
    refine takeK 0 hHeld ?_
    refine takeK 1 hHeld ?_
    refine takeK 2 hHeld ?_
    refine takeK 3 hHeld ?_
    refine takeK 4 hHeld ?_
    refine takeK 5 hHeld ?_
    refine takeK 6 hHeld ?_
    refine takeK 7 hHeld ?_
    refine takeK 8 hHeld ?_
    refine takeK 9 hHeld ?_
    refine takeK 10 hHeld ?_
    refine wpAnyH_done (by kernel_rfl) ?_ _
    clear hHeld
    go_wp2_with fail
    refine (size_any w.drew g v l c0 hs).mono ?_
    rintro e w1 ⟨rfl, rfl⟩
    go_wp2_with fail
    rw [show decide ((p : Int) + 32 ≤ (l.length : Int)) = false from by simp; omega]
    refine (goTo_no _ g l s _ HD.out).mono ?_
    rintro e w1 ⟨rfl, hR1, hg1⟩
    go_wp2
    go_ret
    exact ⟨rfl, hR1, gb_trans (gb_drew _ _) hg1⟩
theorem rI_64 (l : Bs) (s : Pos) : In64 (rI l s).1 := by
  unfold rI In64
  cases s with
  | none => simp
  | some a =>
    simp only
    cases h : takeI l a with
    | none => simp
    | some x =>
      obtain ⟨n, q⟩ := x
      obtain ⟨_, _, _, _, h5, h6, _⟩ := takeI_sound h
      exact ⟨h5, h6⟩
set_option maxRecDepth 20000 in
theorem takeSmall_any (w : World) (g : Nat) (l : Bs) (s : Pos) (most : Int) (h : Rd N w g l s) (hl : l.length ≤ 140737488355328) :
    Took N 81 #[.pointer (some ⟨g, 0, none⟩), .int .i64 most] w g l (.int .i64 (rC l most s).1) (rC l most s).2 := by
  have hT := takeNumber_any w g l s h hl
  have h64 := rI_64 l s
  unfold Took at *
  unfold rC
  generalize hx : rI l s = x at *
  obtain ⟨n, q⟩ := x
  simp only at *
  by_cases h1 : n < 0
  · rw [if_pos (.inl h1)]
    go_enter Try.func81, Try.ntmps81
    go_wp2_with fail
    refine hT.mono ?_
    rintro e w1 ⟨rfl, hR1, hg1⟩
    go_wp2_with fail
    refine (goTo_no _ g l _ _ hR1).mono ?_
    rintro e w2 ⟨rfl, hR2, hg2⟩
    go_wp2
    go_ret
    exact ⟨rfl, hR2, gb_trans hg1 hg2⟩
  · by_cases h2 : most < n
    · rw [if_pos (.inr h2)]
      go_enter Try.func81, Try.ntmps81
      go_wp2_with fail
      refine hT.mono ?_
      rintro e w1 ⟨rfl, hR1, hg1⟩
      go_wp2_with fail
      refine (goTo_no _ g l _ _ hR1).mono ?_
      rintro e w2 ⟨rfl, hR2, hg2⟩
      go_wp2
      go_ret
      exact ⟨rfl, hR2, gb_trans hg1 hg2⟩
    · rw [if_neg (by omega)]
      go_enter Try.func81, Try.ntmps81
      go_wp2_with fail
      refine hT.mono ?_
      rintro e w1 ⟨rfl, hR1, hg1⟩
      go_wp2
      go_ret
      exact ⟨rfl, hR1, hg1⟩
set_option maxRecDepth 20000 in
theorem wasAll_any (w : World) (g : Nat) (l : Bs) (s : Pos) (h : Rd N w g l s) :
    Calls Try.prog 79 #[.pointer (some ⟨g, 0, none⟩)] w fun e w' => e = .returned (.bool (decide (s = some l.length))) ∧ Below w.heap.size w w' := by
  obtain ⟨v, h1, h2, h3⟩ := h
  have c0 := cell_of_row w g 0 _ _ _ h1
  have c1 := cell_of_row w g 1 _ _ _ h1
  have c2 := cell_of_row w g 2 _ _ _ h1
  simp only [List.getElem?_toArray, List.getElem?_cons_zero, List.getElem?_cons_succ] at c0 c1 c2
  have hs := h2 w.drew (und_gb (lt_of_heap h1) (gb_drew _ _))
  clear h1 h2
  cases s with
  | none =>
    simp only [Option.getD_none, Option.isNone_none] at *
    go_enter Try.func79, Try.ntmps79
    go_wp2_with fail
    refine wp_region_held_drew (S := fun W => W.cell? ⟨g, 1, none⟩ = some (.int .i64 (l.length : Int)) ∧ W.cell? ⟨g, 2, none⟩ = some (.bool true)) (by kernel_rfl) (⟨c1, c2⟩) (fun hHeld => ?_)
    refine takeK 0 hHeld ?_
    refine takeK 1 hHeld ?_
    refine takeK 2 hHeld ?_
    refine takeK 3 hHeld ?_
    refine takeK 4 hHeld ?_
    refine takeK 5 hHeld ?_
    refine skipK 6 hHeld ?_
    refine skipK 7 hHeld ?_
    refine skipK 8 hHeld ?_
    refine skipK 9 hHeld ?_
    refine skipK 10 hHeld ?_
    refine skipK 11 hHeld ?_
    refine skipK 12 hHeld ?_
    refine skipK 13 hHeld ?_
    refine skipK 14 hHeld ?_
    refine takeK 15 hHeld ?_
    refine takeK 16 hHeld ?_
    refine wpAnyH_done (by kernel_rfl) ?_ _
    clear hHeld
    go_wp2
    go_ret
    exact ⟨ret_bool (by simp), (Below.refl _ _).drew⟩
  | some a =>
    simp only [Option.getD_some, Option.isNone_some] at *
    go_enter Try.func79, Try.ntmps79
    go_wp2_with fail
    refine wp_region_held_drew (S := fun W => W.cell? ⟨g, 1, none⟩ = some (.int .i64 (a : Int)) ∧ W.cell? ⟨g, 2, none⟩ = some (.bool false)) (by kernel_rfl) (⟨c1, c2⟩) (fun hHeld => ?_)
    refine takeK 0 hHeld ?_
    refine takeK 1 hHeld ?_
    refine takeK 2 hHeld ?_
    refine takeK 3 hHeld ?_
    refine takeK 4 hHeld ?_
    refine takeK 5 hHeld ?_
    refine takeK 6 hHeld ?_
    refine takeK 7 hHeld ?_
    refine takeK 8 hHeld ?_
    refine takeK 9 hHeld ?_
    refine takeK 10 hHeld ?_
    refine takeK 11 hHeld ?_
    refine takeK 12 hHeld ?_
    refine onlyH (i := 13) rfl (by kernel_rfl) rfl (fun K hK => ?_)
    go_simp
    refine (size_any w.drew g v l c0 hs).mono ?_
    rintro e w1 ⟨rfl, rfl⟩
    refine hK.out _ _ (⟨c1, c2⟩) (fun hHeld => ?_)
    clear hK K
    try simp only [Act.put, List.setIfInBounds_toArray, List.set_cons_zero, List.set_cons_succ]
    refine takeK 14 hHeld ?_
    refine takeK 15 hHeld ?_
    refine takeK 16 hHeld ?_
    refine wpAnyH_done (by kernel_rfl) ?_ _
    clear hHeld
    go_wp2
    go_ret
    refine ⟨ret_bool ?_, (Below.refl _ _).drew⟩
    rw [Bool.eq_iff_iff]; simp <;> omega
end Go.Proofs.Ytldfjpgcemfpjaa

/-
  A text's bytes; a text copied; a text's beginning; a reading begun. Conditions: lengths within reach.
-/
namespace Go.Proofs.Ytldfjpgcemfpjaa
open Go.RowKit

theorem wpList_want {P : Program} {w : World} {ops : Array Oper} {rest : List Oper} {o : Oper} {a : Act} {Q : Exit → Act → World → Prop} (hw : Region.wanted o (yielded ops a.tmps) = true)
    (h : ∀ K : Act → World → Prop, (∀ a w, wpList P ops Q rest a w → K a w) → o.wp P a w K Q) : wpList P ops Q (o :: rest) a w :=
  wpList_step fun K hK => by rw [if_pos hw]; exact h K hK
theorem cell_at_new (w : World) (C : Array Value) (e : TypeId) (fr : Nat × Nat) (j : Nat) : (w.alloc (.cells C e fr)).cell? ⟨w.heap.size, j, none⟩ = C[j]? := by
  have : (w.alloc (.cells C e fr)).heap[w.heap.size]? = some (.cells C e fr) := by
    show (w.heap.push (.cells C e fr))[w.heap.size]? = _
    simp
  unfold World.cell?
  simp only [this]
  rfl
/-- '[]byte(s)', guarded. -/
theorem wpList_tobytes (w : World) {ops : Array Oper} {rest : List Oper} {o : Oper} {a : Act} {Q : Exit → Act → World → Prop} (hg : Region.wanted o (yielded ops a.tmps) = true) (x : Operand) (hop : o.op = Op.convert 9 93 x)
    (s : ByteArray) (hs : s.size ≤ maxLen) (hx : a.eval x = .string s)
    (hK : ∀ v' w', Sl w' v' s.data.toList → Below w.heap.size w w' → (∀ b off n c, v' = .slice (some ⟨b, off, none⟩) n c → w.heap.size ≤ b) → wpList Try.prog ops Q rest (a.put o.dst v') w') : wpList Try.prog ops Q (o :: rest) a w := by
  refine wpList_want hg fun K hK' => ?_
  have hr := run_bytes_of_string (P := Try.prog) w 9 93 5 s Try.underlying9 Try.underlying93 Try.underlying5
  have hlen : s.data.toList.length = s.size := by simp
  have hge := grownCap_ge w s.size 0 5
  have hle := grownCap_le_maxLen w s.size 0 5 hs
  unfold Oper.wp
  simp only [execOp, hop, hx, Result.andThen, Sem.run_bind, hr]
  refine hK' _ _ (hK _ _ ?_ (((Below.refl _ _).drew).alloc (by simp) _) (fun b off n c e => by injection e with e; injection e with e; injection e with e; omega))
  refine ⟨_, grownCap w s.size 0 5, by rw [hlen], by omega, hle, by simp, fun _ => ⟨w.heap.size, 0, rfl, by simp, fun j hj => ?_⟩⟩
  have := cell_at_new w.drew (bytesRow s (grownCap w s.size 0 5)) 5 ((bytesRow s (grownCap w s.size 0 5)).size, (bytesRow s (grownCap w s.size 0 5)).size + 1) j
  rw [show w.drew.heap.size = w.heap.size from rfl] at this
  rw [Nat.zero_add, this, bytesRow_at s _ j (by simpa using hj)]
  simp
theorem ext_strB (l : List UInt8) (i j : Nat) : (strB l).extract i j = strB ((l.take j).drop i) := by
  apply ByteArray.ext
  simp [strB, List.drop_take]
theorem toL (l : List UInt8) : (strB l).toList = l := by rw [ByteArray.toList_eq]; exact strB_list l
theorem prefix_take (p l : Bs) : p.isPrefixOf l = (decide (p.length ≤ l.length) && (l.take p.length == p)) := by
  rw [Bool.eq_iff_iff, List.isPrefixOf_iff_prefix]
  simp
  constructor
  · rintro h
    exact ⟨h.length_le, (List.prefix_iff_eq_take.1 h).symm⟩
  · rintro ⟨_, h⟩
    exact List.prefix_iff_eq_take.2 h.symm
set_option maxRecDepth 20000 in
theorem hasPrefix_any (w : World) (l p : Bs) (_hl : l.length ≤ 140737488355328) (_hp : p.length ≤ 140737488355328) :
    Calls Try.prog 110 #[.string (strB l), .string (strB p)] w fun e w' => e = .returned (.bool (p.isPrefixOf l)) ∧ w' = w := by
  have h1 := strB_size l
  have h2 := strB_size p
  have h3 := toL p
  have h4 := toL (l.take p.length)
  have h5 := ext_strB l 0 p.length
  rw [List.drop_zero] at h5
  rw [prefix_take]
  by_cases h : p.length ≤ l.length
  · go_enter Try.func110, Try.ntmps110
    go_wp2
    go_ret
    exact ⟨ret_bool (by simp [h]), rfl⟩
  · go_enter Try.func110, Try.ntmps110
    go_wp2
    go_ret
    exact ⟨ret_bool (by simp [h]), rfl⟩
set_option maxRecDepth 20000 in
theorem cutPrefix_any (w : World) (l p : Bs) (hl : l.length ≤ 140737488355328) (hp : p.length ≤ 140737488355328) :
    Calls Try.prog 87 #[.string (strB l), .string (strB p)] w fun e w' => e = .returned (if p.isPrefixOf l then .tuple #[.string (strB (l.drop p.length)), .bool true] else .tuple #[.string (strB l), .bool false]) ∧ w' = w := by
  have h1 := strB_size l
  have h2 := strB_size p
  by_cases h : p.isPrefixOf l = true
  · have hle : p.length ≤ l.length := (List.isPrefixOf_iff_prefix.1 h).length_le
    have h5 := ext_strB l p.length l.length
    rw [List.take_length] at h5
    rw [if_pos h]
    have hin : Calls Try.prog 106 #[.string (strB l), .string (strB p)] w fun e w' => e = .returned (.tuple #[.string (strB (l.drop p.length)), .bool true]) ∧ w' = w := by
      go_enter Try.func106, Try.ntmps106
      go_wp2_with fail
      refine (hasPrefix_any w l p hl hp).mono ?_
      rintro e w1 ⟨rfl, rfl⟩
      rw [h]
      go_wp2
      go_ret2
      exact ⟨rfl, rfl⟩
    go_enter Try.func87, Try.ntmps87
    go_wp2_with fail
    refine hin.mono ?_
    rintro e w1 ⟨rfl, rfl⟩
    go_wp2
    go_ret2
    exact ⟨rfl, rfl⟩
  · have h := Bool.eq_false_iff.2 h
    rw [if_neg (by rw [h]; decide)]
    have hin : Calls Try.prog 106 #[.string (strB l), .string (strB p)] w fun e w' => e = .returned (.tuple #[.string (strB l), .bool false]) ∧ w' = w := by
      go_enter Try.func106, Try.ntmps106
      go_wp2_with fail
      refine (hasPrefix_any w l p hl hp).mono ?_
      rintro e w1 ⟨rfl, rfl⟩
      rw [h]
      go_wp2
      go_ret2
      exact ⟨rfl, rfl⟩
    go_enter Try.func87, Try.ntmps87
    go_wp2_with fail
    refine hin.mono ?_
    rintro e w1 ⟨rfl, rfl⟩
    go_wp2
    go_ret2
    exact ⟨rfl, rfl⟩
/-- What begins at N. -/
theorem Sl.und {N : Nat} {w w' : World} {v : Value} {l : Bs} (h : Sl w v l) (hN : ∀ b off n c, v = .slice (some ⟨b, off, none⟩) n c → N ≤ b) (hu : Und N w.heap.size w w') : Sl w' v l := by
  obtain ⟨ao, cap, hv, h1, h2, h3, h4⟩ := h
  refine ⟨ao, cap, hv, h1, h2, h3, fun hl => ?_⟩
  obtain ⟨b, off, ha, hlt, hc⟩ := h4 hl
  exact ⟨b, off, ha, Nat.lt_of_lt_of_le hlt hu.1, fun j hj => (World.cell?_of_block (w := w) (hu.2 b (hN b off _ _ (by rw [hv, ha])) hlt)).trans (hc j hj)⟩
/-- What a reading begins with. -/
def begin (p b : Bs) : Bs × Pos := if p.isPrefixOf b then (b.drop p.length, some 0) else ([], none)
set_option maxRecDepth 20000 in
theorem read_any (w : World) (b p : Bs) (hb : b.length ≤ 140737488355328) (hp : p.length ≤ 140737488355328) :
    Calls Try.prog 76 #[.string (strB b), .string (strB p)] w fun e w' => ∃ g, e = .returned (.pointer (some ⟨g, 0, none⟩)) ∧ Rd w.heap.size w' g (begin p b).1 (begin p b).2 ∧ w.heap.size ≤ g ∧ Below w.heap.size w w' := by
  have hcp := cutPrefix_any w b p hb hp
  unfold begin
  by_cases h : p.isPrefixOf b = true
  · rw [if_pos h] at hcp ⊢
    have hd : (b.drop p.length).length ≤ b.length := by rw [List.length_drop]; omega
    generalize b.drop p.length = r at *
    have hrs := strB_size r
    go_enter Try.func76, Try.ntmps76
    go_wp2_with fail
    refine hcp.mono ?_
    rintro e w1 ⟨rfl, rfl⟩
    go_wp2_with (refine wpList_tobytes _ rfl (.tmp 17) rfl (strB r) (by rw [strB_size]; unfold maxLen; omega) rfl ?_; intro v2 w2 hsl2 hb2 hbk2; rw [strB_list] at hsl2; have HS := hide hsl2; have HBK := hide hbk2; clear hbk2; have HB := hide hb2; obtain ⟨ao, cap, rfl, -⟩ := hsl2; clear hb2)
    go_ret
    refine ⟨_, rfl, ⟨_, heap_last w2 _ _ rfl, fun w' hu => HS.out.und HBK.out ⟨Nat.le_trans (by simp) hu.1, fun k hN hk => (hu.2 k hN hk).trans (heap_past w2 _ k hk)⟩, fun a ha => by injection ha with ha; omega⟩, HB.out.size, HB.out.alloc HB.out.size _⟩
  · have h := Bool.eq_false_iff.2 h
    rw [if_neg (by rw [h]; decide)] at hcp ⊢
    go_enter Try.func76, Try.ntmps76
    go_wp2_with fail
    refine hcp.mono ?_
    rintro e w1 ⟨rfl, rfl⟩
    go_wp2
    go_ret
    exact ⟨_, rfl, ⟨_, heap_last w1 _ _ rfl, fun w' _ => Sl.nil w', fun a ha => by cases ha⟩, Nat.le_refl _, (Below.refl _ _).alloc (Nat.le_refl _) _⟩
end Go.Proofs.Ytldfjpgcemfpjaa

/-
  Parts, pairs, links, and lists of them, read. Conditions: lengths within reach.
-/
namespace Go.Proofs.Ytldfjpgcemfpjaa
open Go.RowKit
variable {N : Nat}

theorem gb_setnew {w a : World} {r : Option Nat} {n i : Nat} {u : Value} (h : w.grownBy a r) (hn : w.heap.size ≤ n) : w.grownBy (a.setCell ⟨n, i, none⟩ u) r := by
  have k := gb_set a n i u
  exact ⟨k.os.trans h.os, k.tape.trans h.tape, k.output.trans h.output, Nat.le_trans h.size k.size, fun j hj hr => (k.block j (Nat.lt_of_lt_of_le hj h.size) (fun e => by injection e with e; omega)).trans (h.block j hj hr)⟩
theorem gb_new {w a b : World} {r row : Option Nat} (h : w.grownBy a r) (k : a.grownBy b row) (hrow : ∀ q, row = some q → w.heap.size ≤ q) : w.grownBy b r :=
  ⟨k.os.trans h.os, k.tape.trans h.tape, k.output.trans h.output, Nat.le_trans h.size k.size, fun j hj hr => (k.block j (Nat.lt_of_lt_of_le hj h.size) (fun e => by have := hrow j e.symm; omega)).trans (h.block j hj hr)⟩
theorem Rd.set {w : World} {g : Nat} {l : Bs} {s : Pos} {n i : Nat} {u : Value} (h : Rd N w g l s) (hn : g < n ∨ n < N ∧ n ≠ g) : Rd N (w.setCell ⟨n, i, none⟩ u) g l s := by
  have hl := h.lt
  obtain ⟨v, h1, h2, h3⟩ := h
  exact ⟨v, ((gb_set w n i u).block g hl (fun e => by injection e with e; omega)).trans h1, fun w' hu => h2 w' (und_trans (und_set w u hl (by omega)) hu), h3⟩
theorem Rd.grown {a b : World} {g : Nat} {l : Bs} {s : Pos} {row : Option Nat} (h : Rd N a g l s) (k : a.grownBy b row) (hrow : ∀ q, row = some q → g < q) : Rd N b g l s := by
  have hl := h.lt
  obtain ⟨v, h1, h2, h3⟩ := h
  refine ⟨v, (k.block g hl (fun e => by have := hrow g e.symm; omega)).trans h1, fun w' hu => h2 w' (und_trans ⟨k.size, fun j _ hj => k.block j (by omega) (fun e => by have := hrow j e.symm; omega)⟩ hu), h3⟩
theorem ne_own' {B : Nat} {w : World} {g size : Nat} {v : Value} {n : Nat} {xs : List Value} {cs : Array Value} {t e : TypeId} {fr : Nat × Nat} (hown : w.ownsRow B e size v n xs) (hh : w.heap[g]? = some (.cells cs t fr)) (hte : t ≠ e) : v.ownBlock ≠ some g := by
  intro hk
  obtain ⟨c, fz, h1⟩ := Lib.ownsRow_kind hown g hk
  rw [hh] at h1
  injection h1 with h1
  injection h1 with _ h1
  exact hte h1
theorem Rd.heap {w : World} {g : Nat} {l : Bs} {s : Pos} (h : Rd N w g l s) : ∃ cs, w.heap[g]? = some (.cells cs 163) := by
  obtain ⟨v, h1, _⟩ := h
  exact ⟨_, h1⟩
theorem rC_le (l : Bs) (most : Int) (s : Pos) (h : 0 ≤ most) : 0 ≤ (rC l most s).1 ∧ (rC l most s).1 ≤ most := by
  unfold rC
  split
  · exact ⟨Int.le_refl _, h⟩
  · omega
theorem rN_step {α : Type} (one : Pos → α × Pos) : ∀ (n : Nat) (s : Pos) (k : Nat), k ≤ n → rN one n s = ((rN one k s).1 ++ (rN one (n - k) (rN one k s).2).1, (rN one (n - k) (rN one k s).2).2)
  | n, s, 0, _ => by simp [rN]
  | 0, s, k + 1, h => by omega
  | n + 1, s, k + 1, h => by
    have ih := rN_step one n (one s).2 k (by omega)
    simp only [rN]
    rw [show n + 1 - (k + 1) = n - k from by omega, ih]
    simp
theorem rN_snoc {α : Type} (one : Pos → α × Pos) (k : Nat) (s : Pos) : rN one (k + 1) s = ((rN one k s).1 ++ [(one (rN one k s).2).1], (one (rN one k s).2).2) := by
  rw [rN_step one (k + 1) s k (by omega), show k + 1 - k = 1 from by omega]
  rfl
theorem rN_length {α : Type} (one : Pos → α × Pos) : ∀ (n : Nat) (s : Pos), (rN one n s).1.length = n
  | 0, _ => rfl
  | n + 1, s => by simp [rN, rN_length one n]
theorem Try.infoPair : (Try.prog.info? 48).map (·.size) = some 2 := by kernel_rfl
theorem Try.infoLink : (Try.prog.info? 81).map (·.size) = some 3 := by kernel_rfl
theorem heap_set3all {w : World} {g : Nat} {v0 v1 v2 u0 u1 u2 : Value} {t : TypeId} (h : w.heap[g]? = some (.cells #[v0, v1, v2] t)) : (((w.setCell ⟨g, 0, none⟩ u0).setCell ⟨g, 1, none⟩ u1).setCell ⟨g, 2, none⟩ u2).heap[g]? = some (.cells #[u0, u1, u2] t) := by
  rw [heap_setCell _ _ _ _ _ _ _ (heap_setCell _ _ _ _ _ _ _ (heap_setCell _ _ _ _ _ _ _ h))]
  simp

set_option maxRecDepth 20000 in
theorem takePair_any (w : World) (g : Nat) (l : Bs) (s : Pos) (h : Rd N w g l s) (hl : l.length ≤ 140737488355328) :
    Took N 78 #[.pointer (some ⟨g, 0, none⟩)] w g l (.agg #[.string (strB (rPair l l.length l.length s).1.1), .string (strB (rPair l l.length l.length s).1.2)]) (rPair l l.length l.length s).2 := by
  have hgn := h.lt
  have hx0 := heap_last w (.cells #[.string ⟨#[]⟩, .string ⟨#[]⟩] 48) _ rfl
  have h0 := h.alloc (.cells #[.string ⟨#[]⟩, .string ⟨#[]⟩] 48)
  have hg0 := gb_alloc w (.cells #[.string ⟨#[]⟩, .string ⟨#[]⟩] 48) (some g)
  have hn0 : w.heap.size < (w.alloc (.cells #[.string ⟨#[]⟩, .string ⟨#[]⟩] 48)).heap.size := by simp
  unfold Took rPair  rP
  dsimp only
  have H0 := hide h0
  clear h h0
  generalize hw0 : w.alloc (.cells #[.string ⟨#[]⟩, .string ⟨#[]⟩] 48) = w0 at *
  go_enter Try.func78, Try.ntmps78
  go_wp2_with fail
  try rw [hw0]
  have hT1 := takeText_any w0 g l (s) H0.out hl
  unfold Took at hT1
  skip
  refine hT1.mono ?_
  rintro e w1 ⟨rfl, hR1, hg1⟩
  have hx1 := (hg1.block _ (lt_of_heap hx0) (fun e => by injection e with e; omega)).trans hx0
  have hG1 := gb_trans hg0 hg1
  have HR1 := hide hR1
  clear hR1 hT1
  have hT2 := takeText_any w1 g l ((rT l l.length (s)).2) HR1.out hl
  unfold Took at hT2
  go_wp2_with fail
  refine hT2.mono ?_
  rintro e w2 ⟨rfl, hR2, hg2⟩
  have hx2 := (hg2.block _ (lt_of_heap hx1) (fun e => by injection e with e; omega)).trans hx1
  have hG2 := gb_trans hG1 hg2
  have HR2 := hide hR2
  clear hR2 hT2
  have c0 := cell_of_row w2 w.heap.size 0 _ _ _ hx2
  simp only [List.getElem?_toArray, List.getElem?_cons_zero] at c0
  have f0 := frozen0 (j := 0) hx2
  have c1 := cell_of_row w2 w.heap.size 1 _ _ _ hx2
  simp only [List.getElem?_toArray, List.getElem?_cons_zero, List.getElem?_cons_succ] at c1
  have f1 := frozen0 (j := 1) hx2
  go_wp2
  refine bodyPost_ret (results_cell_row rfl _ _ _ _ _ _ _ rfl (heap_set2 hx2) Try.underlying48 rfl Try.infoPair) rfl ⟨rfl, ((HR2.out.set (.inl hgn)).set (.inl hgn)), (gb_setnew (gb_setnew hG2 (Nat.le_refl _)) (Nat.le_refl _))⟩

set_option maxRecDepth 20000 in
theorem takeLink_any (w : World) (g : Nat) (l : Bs) (s : Pos) (h : Rd N w g l s) (hl : l.length ≤ 140737488355328) :
    Took N 83 #[.pointer (some ⟨g, 0, none⟩)] w g l (.agg #[.string (strB (rLink l l.length s).1.1), .string (strB (rLink l l.length s).1.2.1), .int .i64 (rLink l l.length s).1.2.2]) (rLink l l.length s).2 := by
  have hgn := h.lt
  have hx0 := heap_last w (.cells #[.string ⟨#[]⟩, .string ⟨#[]⟩, .int .i64 0] 81) _ rfl
  have h0 := h.alloc (.cells #[.string ⟨#[]⟩, .string ⟨#[]⟩, .int .i64 0] 81)
  have hg0 := gb_alloc w (.cells #[.string ⟨#[]⟩, .string ⟨#[]⟩, .int .i64 0] 81) (some g)
  have hn0 : w.heap.size < (w.alloc (.cells #[.string ⟨#[]⟩, .string ⟨#[]⟩, .int .i64 0] 81)).heap.size := by simp
  unfold Took rLink rPart rP
  dsimp only
  have H0 := hide h0
  clear h h0
  generalize hw0 : w.alloc (.cells #[.string ⟨#[]⟩, .string ⟨#[]⟩, .int .i64 0] 81) = w0 at *
  go_enter Try.func83, Try.ntmps83
  go_wp2_with fail
  try rw [hw0]
  have hT1 := takeText_any w0 g l (s) H0.out hl
  unfold Took at hT1
  skip
  refine hT1.mono ?_
  rintro e w1 ⟨rfl, hR1, hg1⟩
  have hx1 := (hg1.block _ (lt_of_heap hx0) (fun e => by injection e with e; omega)).trans hx0
  have hG1 := gb_trans hg0 hg1
  have HR1 := hide hR1
  clear hR1 hT1
  have hT2 := takeId_any w1 g l ((rT l l.length (s)).2) HR1.out hl
  unfold Took at hT2
  go_wp2_with fail
  refine hT2.mono ?_
  rintro e w2 ⟨rfl, hR2, hg2⟩
  have hx2 := (hg2.block _ (lt_of_heap hx1) (fun e => by injection e with e; omega)).trans hx1
  have hG2 := gb_trans hG1 hg2
  have HR2 := hide hR2
  clear hR2 hT2
  have hT3 := takeNumber_any w2 g l ((rD l ((rT l l.length (s)).2)).2) HR2.out hl
  unfold Took at hT3
  go_wp2_with fail
  refine hT3.mono ?_
  rintro e w3 ⟨rfl, hR3, hg3⟩
  have hx3 := (hg3.block _ (lt_of_heap hx2) (fun e => by injection e with e; omega)).trans hx2
  have hG3 := gb_trans hG2 hg3
  have HR3 := hide hR3
  clear hR3 hT3
  have c0 := cell_of_row w3 w.heap.size 0 _ _ _ hx3
  simp only [List.getElem?_toArray, List.getElem?_cons_zero] at c0
  have f0 := frozen0 (j := 0) hx3
  have c1 := cell_of_row w3 w.heap.size 1 _ _ _ hx3
  simp only [List.getElem?_toArray, List.getElem?_cons_zero, List.getElem?_cons_succ] at c1
  have f1 := frozen0 (j := 1) hx3
  have c2 := cell_of_row w3 w.heap.size 2 _ _ _ hx3
  simp only [List.getElem?_toArray, List.getElem?_cons_zero, List.getElem?_cons_succ] at c2
  have f2 := frozen0 (j := 2) hx3
  go_wp2
  refine bodyPost_ret (results_cell_row rfl _ _ _ _ _ _ _ rfl (heap_set3all hx3) Try.underlying81 rfl Try.infoLink) rfl ⟨rfl, (((HR3.out.set (.inl hgn)).set (.inl hgn)).set (.inl hgn)), (gb_setnew (gb_setnew (gb_setnew hG3 (Nat.le_refl _)) (Nat.le_refl _)) (Nat.le_refl _))⟩
end Go.Proofs.Ytldfjpgcemfpjaa

/-
  Lists, read. Conditions: lengths within reach; at most 64 of a list.
-/
namespace Go.Proofs.Ytldfjpgcemfpjaa
open Go.RowKit
variable {N : Nat}

theorem flat_one {α : Type} (cs : α → List Value) (xs : List α) (x : α) : (xs ++ [x]).flatMap cs = xs.flatMap cs ++ cs x := by simp
theorem Try.zPair : (Try.prog.info? 48).map (fun i => (i.zero, i.size, i.bytes)) = some (some (.agg #[.string ⟨#[]⟩, .string ⟨#[]⟩]), 2, 32) := by kernel_rfl
theorem Try.zLink : (Try.prog.info? 81).map (fun i => (i.zero, i.size, i.bytes)) = some (some (.agg #[.string ⟨#[]⟩, .string ⟨#[]⟩, .int .i64 0]), 3, 40) := by kernel_rfl
theorem Try.zStr : (Try.prog.info? 9).map (fun i => (i.zero, i.size, i.bytes)) = some (some (.string ⟨#[]⟩), 1, 16) := by kernel_rfl
theorem news_at (w : World) (cs : List Value) (t : TypeId) : ∀ j u, cs[j]? = some u → (w.alloc (.cells cs.toArray t)).cell? ((⟨w.heap.size, 0, none⟩ : Addr).add j) = some u := by
  intro j u hu
  rw [Addr.add_lit, Nat.zero_add, cell_of_row _ _ _ _ _ _ (heap_last w _ _ rfl), List.getElem?_toArray]
  exact hu

set_option maxRecDepth 20000 in
theorem takePairs_any (w : World) (g : Nat) (l : Bs) (s : Pos) (most : Nat) (hm : most ≤ 64) (h : Rd N w g l s) (hl : l.length ≤ 140737488355328) :
    Calls Try.prog 77 #[.pointer (some ⟨g, 0, none⟩), .int .i64 (most : Int), .func (.func 78) #[.pointer (some ⟨g, 0, none⟩)] #[]] w fun e w' => ∃ v, e = .returned v ∧
      w'.ownsRow w.heap.size 48 2 v (rL l most (rPair l l.length l.length) s).1.length ((rL l most (rPair l l.length l.length) s).1.flatMap pairC) ∧ Rd N w' g l (rL l most (rPair l l.length l.length) s).2 ∧ w.grownBy w' (some g) := by
  obtain ⟨i0, hi, hz0, hz1, hz2⟩ := info_parts Try.zPair
  have hgn := h.lt
  have hS := takeSmall_any w g l s most h hl
  have hrc := rC_le l most s (by omega)
  unfold Took at hS
  unfold rL
  generalize hx : rC l most s = x at *
  obtain ⟨c, s1⟩ := x
  obtain ⟨n, rfl⟩ := Int.eq_ofNat_of_zero_le hrc.1
  simp only [Int.toNat_natCast] at *
  have hn : n ≤ 64 := by omega
  have hlen := rN_length (rPair l l.length l.length) n s1
  clear h hx
  go_enter Try.func77, Try.ntmps77
  go_wp2_with fail
  refine hS.mono ?_
  rintro e w1 ⟨rfl, hR1, hg1⟩
  have HR1 := hide hR1
  have HG1 := hide hg1
  clear hS hR1 hg1
  go_wp2_with fail
  go_loopw [11, 7] (fun t v wr => ∃ k : Nat, k ≤ n ∧ t = .int .i64 k ∧ wr.ownsRow w.heap.size 48 2 v k ((rN (rPair l l.length l.length) k s1).1.flatMap pairC) ∧ Rd N wr g l (rN (rPair l l.length l.length) k s1).2 ∧ w.grownBy wr (some g))
    (fun t _ _ => n - (intOf t).toNat)
  case atStart => exact ⟨0, by omega, rfl, World.ownsRow_nil _ _ _ _, HR1.out, HG1.out⟩
  case round =>
    clear HR1 HG1
    obtain ⟨k, hk, rfl, hown, hR, hg⟩ := hrel
    by_cases hlt : k < n
    · have hT := takePair_any wr g l (rN (rPair l l.length l.length) k s1).2 hR hl
      have hsn := rN_snoc (rPair l l.length l.length) k s1
      have hne : ∃ cs, wr.heap[g]? = some (.cells cs 163) := hR.heap
      unfold Took at hT
      generalize hx : (rPair l l.length l.length) (rN (rPair l l.length l.length) k s1).2 = x at *
      obtain ⟨p, s2⟩ := x
      simp only at hT hsn
      have HSN := hide hsn
      have HX := hide hx
      have HOWN := hide hown
      have HG := hide hg
      have HNE := hide hne
      clear hsn hx hown hg hR hne
      go_wp2_with fail
      refine hT.mono ?_
      rintro e w2 ⟨rfl, hR2, hg2⟩
      obtain ⟨csg, hcsg⟩ := HNE.out
      have hown2 := HOWN.out.kept hg2 (.inr (ne_own' HOWN.out hcsg (by decide)))
      have hg2' := gb_trans HG.out hg2
      have hsz2 := hg2'.size
      have hownA := hown2.alloc (.cells #[.string (strB p.1), .string (strB p.2)] 48)
      have hgA := gb_trans hg2' (gb_alloc w2 (.cells #[.string (strB p.1), .string (strB p.2)] 48) (some g))
      have hRA := hR2.alloc (.cells #[.string (strB p.1), .string (strB p.2)] 48)
      have HRA := hide hRA
      have HGA := hide hgA
      have HOA := hide hownA
      have hnw := news_at w2 [.string (strB p.1), .string (strB p.2)] 48
      clear hT hR2 hg2 hcsg csg hown2 hRA hgA hownA hg2'
      go_wp2_with (at_builtin; refine wpList_append_own _ rfl (.tmp 13) (.tmp 16) 49 rfl w.heap.size 48 i0 (.agg #[.string ⟨#[]⟩, .string ⟨#[]⟩]) 2 32 Try.underlying49 hi hz0 hz1 hz2 rfl (by decide) _ _ _ rfl HOA.out ⟨w2.heap.size, 0, none⟩ 1 1 [.string (strB p.1), .string (strB p.2)] rfl rfl hnw (by simp [Value.oneCell']) (by unfold maxLen; omega) (by omega) (by simp; omega) ?_; intro v3 w3 hown3 hgr3 _; have HO3 := hide hown3; obtain ⟨a3, c3, rfl, -⟩ := own_form hown3; clear hown3)
      have hR3 := HRA.out.grown hgr3 (fun q hq => by have := (HOA.out.lt q hq).1; omega)
      have hg3 := gb_new HGA.out hgr3 (fun q hq => (HOA.out.lt q hq).1)
      have HR3 := hide hR3
      have HG3 := hide hg3
      clear hgr3 hR3 hg3 hnw
      go_wp2
      go_roundw
      case rel =>
        refine ⟨k + 1, by omega, by go_num, ?_, by rw [HSN.out]; exact HR3.out, HG3.out⟩
        rw [HSN.out, flat_one]
        exact HO3.out
      case measure => simp [intOf]; omega
    · obtain rfl : k = n := by omega
      have HO := hide hown
      obtain ⟨a3, c3, rfl, -⟩ := own_form hown
      clear hown
      go_wp2
      go_ret
      refine ⟨_, rfl, ?_, hR, hg⟩
      rw [hlen]
      exact HO.out

set_option maxRecDepth 20000 in
theorem takeLinks_any (w : World) (g : Nat) (l : Bs) (s : Pos) (most : Nat) (hm : most ≤ 64) (h : Rd N w g l s) (hl : l.length ≤ 140737488355328) :
    Calls Try.prog 82 #[.pointer (some ⟨g, 0, none⟩), .int .i64 (most : Int), .func (.func 83) #[.pointer (some ⟨g, 0, none⟩)] #[]] w fun e w' => ∃ v, e = .returned v ∧
      w'.ownsRow w.heap.size 81 3 v (rL l most (rLink l l.length) s).1.length ((rL l most (rLink l l.length) s).1.flatMap linkC) ∧ Rd N w' g l (rL l most (rLink l l.length) s).2 ∧ w.grownBy w' (some g) := by
  obtain ⟨i0, hi, hz0, hz1, hz2⟩ := info_parts Try.zLink
  have hgn := h.lt
  have hS := takeSmall_any w g l s most h hl
  have hrc := rC_le l most s (by omega)
  unfold Took at hS
  unfold rL
  generalize hx : rC l most s = x at *
  obtain ⟨c, s1⟩ := x
  obtain ⟨n, rfl⟩ := Int.eq_ofNat_of_zero_le hrc.1
  simp only [Int.toNat_natCast] at *
  have hn : n ≤ 64 := by omega
  have hlen := rN_length (rLink l l.length) n s1
  clear h hx
  go_enter Try.func82, Try.ntmps82
  go_wp2_with fail
  refine hS.mono ?_
  rintro e w1 ⟨rfl, hR1, hg1⟩
  have HR1 := hide hR1
  have HG1 := hide hg1
  clear hS hR1 hg1
  go_wp2_with fail
  go_loopw [11, 7] (fun t v wr => ∃ k : Nat, k ≤ n ∧ t = .int .i64 k ∧ wr.ownsRow w.heap.size 81 3 v k ((rN (rLink l l.length) k s1).1.flatMap linkC) ∧ Rd N wr g l (rN (rLink l l.length) k s1).2 ∧ w.grownBy wr (some g))
    (fun t _ _ => n - (intOf t).toNat)
  case atStart => exact ⟨0, by omega, rfl, World.ownsRow_nil _ _ _ _, HR1.out, HG1.out⟩
  case round =>
    clear HR1 HG1
    obtain ⟨k, hk, rfl, hown, hR, hg⟩ := hrel
    by_cases hlt : k < n
    · have hT := takeLink_any wr g l (rN (rLink l l.length) k s1).2 hR hl
      have hsn := rN_snoc (rLink l l.length) k s1
      have hne : ∃ cs, wr.heap[g]? = some (.cells cs 163) := hR.heap
      unfold Took at hT
      generalize hx : (rLink l l.length) (rN (rLink l l.length) k s1).2 = x at *
      obtain ⟨p, s2⟩ := x
      simp only at hT hsn
      have HSN := hide hsn
      have HX := hide hx
      have HOWN := hide hown
      have HG := hide hg
      have HNE := hide hne
      clear hsn hx hown hg hR hne
      go_wp2_with fail
      refine hT.mono ?_
      rintro e w2 ⟨rfl, hR2, hg2⟩
      obtain ⟨csg, hcsg⟩ := HNE.out
      have hown2 := HOWN.out.kept hg2 (.inr (ne_own' HOWN.out hcsg (by decide)))
      have hg2' := gb_trans HG.out hg2
      have hsz2 := hg2'.size
      have hownA := hown2.alloc (.cells #[.string (strB p.1), .string (strB p.2.1), .int .i64 p.2.2] 81)
      have hgA := gb_trans hg2' (gb_alloc w2 (.cells #[.string (strB p.1), .string (strB p.2.1), .int .i64 p.2.2] 81) (some g))
      have hRA := hR2.alloc (.cells #[.string (strB p.1), .string (strB p.2.1), .int .i64 p.2.2] 81)
      have HRA := hide hRA
      have HGA := hide hgA
      have HOA := hide hownA
      have hnw := news_at w2 [.string (strB p.1), .string (strB p.2.1), .int .i64 p.2.2] 81
      clear hT hR2 hg2 hcsg csg hown2 hRA hgA hownA hg2'
      go_wp2_with (at_builtin; refine wpList_append_own _ rfl (.tmp 13) (.tmp 16) 76 rfl w.heap.size 81 i0 (.agg #[.string ⟨#[]⟩, .string ⟨#[]⟩, .int .i64 0]) 3 40 Try.underlying76 hi hz0 hz1 hz2 rfl (by decide) _ _ _ rfl HOA.out ⟨w2.heap.size, 0, none⟩ 1 1 [.string (strB p.1), .string (strB p.2.1), .int .i64 p.2.2] rfl rfl hnw (by simp [Value.oneCell']) (by unfold maxLen; omega) (by omega) (by simp; omega) ?_; intro v3 w3 hown3 hgr3 _; have HO3 := hide hown3; obtain ⟨a3, c3, rfl, -⟩ := own_form hown3; clear hown3)
      have hR3 := HRA.out.grown hgr3 (fun q hq => by have := (HOA.out.lt q hq).1; omega)
      have hg3 := gb_new HGA.out hgr3 (fun q hq => (HOA.out.lt q hq).1)
      have HR3 := hide hR3
      have HG3 := hide hg3
      clear hgr3 hR3 hg3 hnw
      go_wp2
      go_roundw
      case rel =>
        refine ⟨k + 1, by omega, by go_num, ?_, by rw [HSN.out]; exact HR3.out, HG3.out⟩
        rw [HSN.out, flat_one]
        exact HO3.out
      case measure => simp [intOf]; omega
    · obtain rfl : k = n := by omega
      have HO := hide hown
      obtain ⟨a3, c3, rfl, -⟩ := own_form hown
      clear hown
      go_wp2
      go_ret
      refine ⟨_, rfl, ?_, hR, hg⟩
      rw [hlen]
      exact HO.out

end Go.Proofs.Ytldfjpgcemfpjaa
