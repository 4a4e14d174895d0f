/-
  Texts joined: ORead, OBegin.
-/
import Derived.Test.YtokebnkgjchfaaaGreatDoorC5OList
import Derived.Lib.SliceRun
import Derived.Lib.UnsafeStr
import Derived.Lib.BufferWrite
import Derived.Laws.MakeOwn
/-
  What is read: a reading in memory, and what its methods do. Conditions: lengths within reach.
-/
namespace Go.Proofs.YtokebnkgjchfaaaGreatDoor
open Go.RowKit

theorem gb_refl (w : World) (r : Option Nat) : w.grownBy w r := ⟨rfl, rfl, rfl, Nat.le_refl _, fun _ _ _ => rfl⟩
theorem gb_trans {a b c : World} {r : Option Nat} (h : a.grownBy b r) (k : b.grownBy c r) : a.grownBy c r :=
  ⟨k.os.trans h.os, k.tape.trans h.tape, k.output.trans h.output, Nat.le_trans h.size k.size, fun i hi hr => (k.block i (Nat.lt_of_lt_of_le hi h.size) hr).trans (h.block i hi hr)⟩
theorem gb_below {a b : World} {r : Option Nat} (h : Below a.heap.size a b) : a.grownBy b r := ⟨h.os, h.tape, h.output, h.size, fun i hi _ => h.block i hi⟩
theorem gb_alloc (w : World) (o : Obj) (r : Option Nat) : w.grownBy (w.alloc o) r := gb_below ((Below.refl _ _).alloc (Nat.le_refl _) _)
theorem gb_drew (w : World) (r : Option Nat) : w.grownBy w.drew r := gb_below ((Below.refl _ _).drew)
theorem gb_set (w : World) (g i : Nat) (u : Value) : w.grownBy (w.setCell ⟨g, i, none⟩ u) (some g) := by
  refine ⟨rfl, rfl, rfl, by simp [World.setCell], fun k _ hk => ?_⟩
  have hne : k ≠ g := fun e => hk (by rw [e])
  unfold World.setCell
  simp [Array.getElem?_modify, Ne.symm hne]
variable {N : Nat}
/-- From N to g all is as it was. -/
def Und (N g : Nat) (w w' : World) : Prop := w.heap.size ≤ w'.heap.size ∧ ∀ k, N ≤ k → k < g → w'.heap[k]? = w.heap[k]?
theorem und_refl (g : Nat) (w : World) : Und N g w w := ⟨Nat.le_refl _, fun _ _ _ => rfl⟩
theorem und_trans {g : Nat} {a b c : World} (h : Und N g a b) (k : Und N g b c) : Und N g a c := ⟨Nat.le_trans h.1 k.1, fun i hN hi => (k.2 i hN hi).trans (h.2 i hN hi)⟩
theorem und_gb {g : Nat} {w w' : World} (hl : g < w.heap.size) (h : w.grownBy w' (some g)) : Und N g w w' := ⟨h.size, fun k _ hk => h.block k (by omega) (fun e => by injection e with e; omega)⟩
theorem und_set {g n i : Nat} (w : World) (u : Value) (hl : g < w.heap.size) (h : g ≤ n ∨ n < N) : Und N g w (w.setCell ⟨n, i, none⟩ u) := ⟨(gb_set w n i u).size, fun k _ hk => (gb_set w n i u).block k (by omega) (fun e => by injection e with e; omega)⟩
/-- The reading g goes through the bytes l, and stands at s. -/
def Rd (N : Nat) (w : World) (g : Nat) (l : Bs) (s : Pos) : Prop :=
  ∃ v, w.heap[g]? = some (.cells #[v, .int .i64 ((s.getD l.length : Nat) : Int), .bool s.isNone] 175) ∧ (∀ w', Und N g w w' → Sl w' v l) ∧ (∀ a, s = some a → a ≤ l.length)
theorem Rd.lt {w : World} {g : Nat} {l : Bs} {s : Pos} (h : Rd N w g l s) : g < w.heap.size := by
  obtain ⟨v, h1, _⟩ := h
  exact lt_of_heap h1
theorem Rd.keep {w w' : World} {g : Nat} {l : Bs} {s : Pos} (h : Rd N w g l s) (hb : Below w.heap.size w w') : Rd N w' g l s := by
  have hl := h.lt
  obtain ⟨v, h1, h2, h3⟩ := h
  exact ⟨v, (hb.block g hl).trans h1, fun w2 hw => h2 w2 (und_trans (und_gb hl (gb_below hb)) hw), h3⟩
theorem Rd.alloc {w : World} {g : Nat} {l : Bs} {s : Pos} (h : Rd N w g l s) (o : Obj) : Rd N (w.alloc o) g l s := h.keep ((Below.refl _ _).alloc (Nat.le_refl _) _)
theorem heap_set3 {w : World} {g : Nat} {v0 v1 v2 u1 : Value} {t : TypeId} (h : w.heap[g]? = some (.cells #[v0, v1, v2] t)) : (w.setCell ⟨g, 1, none⟩ u1).heap[g]? = some (.cells #[v0, u1, v2] t) := by
  rw [heap_setCell _ _ _ _ _ _ _ h]
  simp
theorem heap_set3b {w : World} {g : Nat} {v0 v1 v2 u2 : Value} {t : TypeId} (h : w.heap[g]? = some (.cells #[v0, v1, v2] t)) : (w.setCell ⟨g, 2, none⟩ u2).heap[g]? = some (.cells #[v0, v1, u2] t) := by
  rw [heap_setCell _ _ _ _ _ _ _ h]
  simp

theorem goTo_ok (w : World) (g : Nat) (l : Bs) (a q : Nat) (h : Rd N w g l (some a)) (hq : q ≤ l.length) :
    Calls Tryz.prog 116 #[.pointer (some ⟨g, 0, none⟩), .int .i64 (q : Int), .bool true] w fun e w' => e = .returned (.tuple #[]) ∧ Rd N w' g l (some q) ∧ w.grownBy w' (some g) := by
  obtain ⟨v, h1, h2, h3⟩ := h
  have c1 := cell_of_row w g 1 _ _ _ h1
  simp only [List.getElem?_toArray, List.getElem?_cons_zero, List.getElem?_cons_succ] at c1
  have f1 := frozen0 (j := 1) h1
  go_enter Tryz.func116, Tryz.ntmps116
  go_wp2
  go_end0
  exact ⟨rfl, ⟨v, heap_set3 h1, fun w2 hw => h2 w2 (und_trans (und_gb (lt_of_heap h1) (gb_set _ _ _ _)) hw), fun b hb => by injection hb with hb; omega⟩, gb_set _ _ _ _⟩
set_option maxRecDepth 20000 in
theorem goTo_no (w : World) (g : Nat) (l : Bs) (s : Pos) (q : Int) (h : Rd N w g l s) :
    Calls Tryz.prog 116 #[.pointer (some ⟨g, 0, none⟩), .int .i64 q, .bool false] w fun e w' => e = .returned (.tuple #[]) ∧ Rd N w' g l none ∧ w.grownBy w' (some g) := by
  obtain ⟨v, h1, h2, h3⟩ := h
  have c0 := cell_of_row w g 0 _ _ _ h1
  have c1 := cell_of_row w g 1 _ _ _ h1
  have c2 := cell_of_row w g 2 _ _ _ h1
  simp only [List.getElem?_toArray, List.getElem?_cons_zero, List.getElem?_cons_succ] at c0 c1 c2
  have f2 := frozen0 (j := 2) h1
  have hs := h2 w (und_refl _ _)
  have h1' := heap_set3b (u2 := .bool true) h1
  have d1 := cell_of_row _ g 1 _ _ _ h1'
  simp only [List.getElem?_toArray, List.getElem?_cons_zero, List.getElem?_cons_succ] at d1
  have e1 := frozen0 (j := 1) h1'
  go_enter Tryz.func116, Tryz.ntmps116
  go_wp2_with fail
  refine (size_any w g v l c0 hs).mono ?_
  rintro e w1 ⟨rfl, rfl⟩
  go_wp2
  go_end0
  refine ⟨rfl, ⟨v, heap_set3 h1', fun w2 hw => h2 w2 (und_trans (und_gb (lt_of_heap h1) (gb_trans (gb_set _ _ _ _) (gb_set _ _ _ _))) hw), fun b hb => by cases hb⟩, gb_trans (gb_set _ _ _ _) (gb_set _ _ _ _)⟩
/-- What is asked of a reading. -/
def Took (N K : Nat) (args : Array Value) (w : World) (g : Nat) (l : Bs) (v : Value) (s : Pos) : Prop :=
  Calls Tryz.prog K args w fun e w' => e = .returned v ∧ Rd N w' g l s ∧ w.grownBy w' (some g)

theorem takeT_at_end (l : Bs) (m : Int) : takeT l (l.length : Int) m = none := by unfold takeT; rw [takeI_end l]
set_option maxRecDepth 20000 in
theorem takeNumber_any (w : World) (g : Nat) (l : Bs) (s : Pos) (h : Rd N w g l s) (hl : l.length ≤ 140737488355328) :
    Took N 115 #[.pointer (some ⟨g, 0, none⟩)] w g l (.int .i64 (rI l s).1) (rI l s).2 := by
  have hR := h
  obtain ⟨v, h1, h2, h3⟩ := h
  have c0 := cell_of_row w g 0 _ _ _ h1
  have c1 := cell_of_row w g 1 _ _ _ h1
  simp only [List.getElem?_toArray, List.getElem?_cons_zero, List.getElem?_cons_succ] at c0 c1
  have hs := h2 w.drew (und_gb (lt_of_heap h1) (gb_drew _ _))
  have hd : Rd N w.drew g l s := hR.keep (Below.refl _ _).drew
  have HD := hide hd
  have hp : ((s.getD l.length : Nat) : Int) ≤ 9223372036854775807 := by
    cases s with
    | none => simp; omega
    | some a => have := h3 a rfl; simp; omega
  unfold Took
  cases ht : takeI l ((s.getD l.length : Nat) : Int) with
  | none =>
    have hr : rI l s = (0, none) := by
      cases s with
      | none => rfl
      | some a => simp only [Option.getD_some] at ht; simp only [rI]; rw [ht]
    rw [hr]
    have HT := hide ht
    clear ht hr h1 h2 h3 hR hd
    generalize ((s.getD l.length : Nat) : Int) = p at *
    go_enter Tryz.func115, Tryz.ntmps115
    go_wp2_with fail
    refine wp_region_held_drew (S := fun W => W.cell? ⟨g, 0, none⟩ = some v ∧ W.cell? ⟨g, 1, none⟩ = some (.int .i64 p)) (by kernel_rfl) (⟨c0, c1⟩) (fun hHeld => ?_)
    refine takeJ 0 (v := ?_) ?_ hHeld ?_
    rotate_left
    · rintro w ⟨_, _⟩; go_simp; try with_reducible rfl
    refine takeJ 1 (v := ?_) ?_ hHeld ?_
    rotate_left
    · rintro w ⟨_, _⟩; go_simp; try with_reducible rfl
    refine takeJ 2 (v := ?_) ?_ hHeld ?_
    rotate_left
    · rintro w ⟨_, _⟩; go_simp; try with_reducible rfl
    refine takeJ 3 (v := ?_) ?_ hHeld ?_
    rotate_left
    · rintro w ⟨_, _⟩; go_simp; try with_reducible rfl
    refine takeJ 4 (v := ?_) ?_ hHeld ?_
    rotate_left
    · rintro w ⟨_, _⟩; go_simp; try with_reducible rfl
    refine takeJ 5 (v := ?_) ?_ hHeld ?_
    rotate_left
    · rintro w ⟨_, _⟩; go_simp; try with_reducible rfl
    refine takeJ 6 (v := ?_) ?_ hHeld ?_
    rotate_left
    · rintro w ⟨_, _⟩; go_simp; try with_reducible rfl
    refine takeJ 7 (v := ?_) ?_ hHeld ?_
    rotate_left
    · rintro w ⟨_, _⟩; go_simp; try with_reducible rfl
    refine takeJ 8 (v := ?_) ?_ hHeld ?_
    rotate_left
    · rintro w ⟨_, _⟩; go_simp; try with_reducible rfl
    refine onlyH (i := 9) rfl (by kernel_rfl) rfl (fun K hK => ?_)
    go_simp
    refine (takeInt_none _ _ l p hs hp HT.out).mono ?_
    rintro e w1 ⟨rfl, rfl⟩
    refine hK.out _ _ (⟨c0, c1⟩) (fun hHeld => ?_)
    clear hK K
    try simp only [Act.put, List.setIfInBounds_toArray, List.set_cons_zero, List.set_cons_succ]
    refine takeJ 10 (v := ?_) ?_ hHeld ?_
    rotate_left
    · rintro w ⟨_, _⟩; go_simp; try with_reducible rfl
    refine takeJ 11 (v := ?_) ?_ hHeld ?_
    rotate_left
    · rintro w ⟨_, _⟩; go_simp; try with_reducible rfl
    refine takeJ 12 (v := ?_) ?_ hHeld ?_
    rotate_left
    · rintro w ⟨_, _⟩; go_simp; try with_reducible rfl
    refine takeJ 13 (v := ?_) ?_ hHeld ?_
    rotate_left
    · rintro w ⟨_, _⟩; go_simp; try with_reducible rfl
    refine takeJ 14 (v := ?_) ?_ hHeld ?_
    rotate_left
    · rintro w ⟨_, _⟩; go_simp; try with_reducible rfl
    refine takeJ 15 (v := ?_) ?_ hHeld ?_
    rotate_left
    · rintro w ⟨_, _⟩; go_simp; try with_reducible rfl
    refine takeJ 16 (v := ?_) ?_ hHeld ?_
    rotate_left
    · rintro w ⟨_, _⟩; go_simp; try with_reducible rfl
    refine wpAnyH_done (by kernel_rfl) ?_ _
    clear hHeld
    go_wp2_with fail
    refine (goTo_no _ g l s 0 HD.out).mono ?_
    rintro e w1 ⟨rfl, hR1, hg1⟩
    go_wp2
    go_ret
    exact ⟨rfl, hR1, gb_trans (gb_drew _ _) hg1⟩
  | some x =>
    obtain ⟨n, q⟩ := x
    obtain ⟨a, rfl⟩ : ∃ a, s = some a := by
      cases s with
      | none => simp only [Option.getD_none] at ht; rw [takeI_end] at ht; cases ht
      | some a => exact ⟨a, rfl⟩
    have hr : rI l (some a) = (n, some q) := by simp only [Option.getD_some] at ht; simp only [rI]; rw [ht]
    rw [hr]
    have hq := (takeI_sound ht).2.2.1
    have HT := hide ht
    clear ht hr h1 h2 h3 hR hd
    simp only [Option.getD_some] at *
    go_enter Tryz.func115, Tryz.ntmps115
    go_wp2_with fail
    refine wp_region_held_drew (S := fun W => W.cell? ⟨g, 0, none⟩ = some v ∧ W.cell? ⟨g, 1, none⟩ = some (.int .i64 (a : Int))) (by kernel_rfl) (⟨c0, c1⟩) (fun hHeld => ?_)
    refine takeJ 0 (v := ?_) ?_ hHeld ?_
    rotate_left
    · rintro w ⟨_, _⟩; go_simp; try with_reducible rfl
    refine takeJ 1 (v := ?_) ?_ hHeld ?_
    rotate_left
    · rintro w ⟨_, _⟩; go_simp; try with_reducible rfl
    refine takeJ 2 (v := ?_) ?_ hHeld ?_
    rotate_left
    · rintro w ⟨_, _⟩; go_simp; try with_reducible rfl
    refine takeJ 3 (v := ?_) ?_ hHeld ?_
    rotate_left
    · rintro w ⟨_, _⟩; go_simp; try with_reducible rfl
    refine takeJ 4 (v := ?_) ?_ hHeld ?_
    rotate_left
    · rintro w ⟨_, _⟩; go_simp; try with_reducible rfl
    refine takeJ 5 (v := ?_) ?_ hHeld ?_
    rotate_left
    · rintro w ⟨_, _⟩; go_simp; try with_reducible rfl
    refine takeJ 6 (v := ?_) ?_ hHeld ?_
    rotate_left
    · rintro w ⟨_, _⟩; go_simp; try with_reducible rfl
    refine takeJ 7 (v := ?_) ?_ hHeld ?_
    rotate_left
    · rintro w ⟨_, _⟩; go_simp; try with_reducible rfl
    refine takeJ 8 (v := ?_) ?_ hHeld ?_
    rotate_left
    · rintro w ⟨_, _⟩; go_simp; try with_reducible rfl
    refine onlyH (i := 9) rfl (by kernel_rfl) rfl (fun K hK => ?_)
    go_simp
    refine (takeInt_some _ _ l a n q hs hp HT.out).mono ?_
    rintro e w1 ⟨rfl, rfl⟩
    refine hK.out _ _ (⟨c0, c1⟩) (fun hHeld => ?_)
    clear hK K
    try simp only [Act.put, List.setIfInBounds_toArray, List.set_cons_zero, List.set_cons_succ]
    refine takeJ 10 (v := ?_) ?_ hHeld ?_
    rotate_left
    · rintro w ⟨_, _⟩; go_simp; try with_reducible rfl
    refine takeJ 11 (v := ?_) ?_ hHeld ?_
    rotate_left
    · rintro w ⟨_, _⟩; go_simp; try with_reducible rfl
    refine takeJ 12 (v := ?_) ?_ hHeld ?_
    rotate_left
    · rintro w ⟨_, _⟩; go_simp; try with_reducible rfl
    refine takeJ 13 (v := ?_) ?_ hHeld ?_
    rotate_left
    · rintro w ⟨_, _⟩; go_simp; try with_reducible rfl
    refine takeJ 14 (v := ?_) ?_ hHeld ?_
    rotate_left
    · rintro w ⟨_, _⟩; go_simp; try with_reducible rfl
    refine takeJ 15 (v := ?_) ?_ hHeld ?_
    rotate_left
    · rintro w ⟨_, _⟩; go_simp; try with_reducible rfl
    refine takeJ 16 (v := ?_) ?_ hHeld ?_
    rotate_left
    · rintro w ⟨_, _⟩; go_simp; try with_reducible rfl
    refine wpAnyH_done (by kernel_rfl) ?_ _
    clear hHeld
    go_wp2_with fail
    refine (goTo_ok _ g l a q HD.out hq).mono ?_
    rintro e w1 ⟨rfl, hR1, hg1⟩
    go_wp2
    go_ret
    exact ⟨rfl, hR1, gb_trans (gb_drew _ _) hg1⟩
set_option maxRecDepth 20000 in
theorem takeId_any (w : World) (g : Nat) (l : Bs) (s : Pos) (h : Rd N w g l s) (hl : l.length ≤ 140737488355328) :
    Took N 117 #[.pointer (some ⟨g, 0, none⟩)] w g l (.string (strB (rD l s).1)) (rD l s).2 := by
  have hR := h
  obtain ⟨v, h1, h2, h3⟩ := h
  have c0 := cell_of_row w g 0 _ _ _ h1
  have c1 := cell_of_row w g 1 _ _ _ h1
  simp only [List.getElem?_toArray, List.getElem?_cons_zero, List.getElem?_cons_succ] at c0 c1
  have hs := h2 w.drew (und_gb (lt_of_heap h1) (gb_drew _ _))
  have hd : Rd N w.drew g l s := hR.keep (Below.refl _ _).drew
  have HD := hide hd
  unfold Took
  have hp : s.getD l.length ≤ l.length := by
    cases s with
    | none => simp
    | some a => exact h3 a rfl
  by_cases ht : s.getD l.length + 32 ≤ l.length
  · obtain ⟨a, rfl⟩ : ∃ a, s = some a := by
      cases s with
      | none => simp only [Option.getD_none] at ht; omega
      | some a => exact ⟨a, rfl⟩
    simp only [Option.getD_some] at *
    have hr : rD l (some a) = ((l.drop a).take 32, some (a + 32)) := by simp only [rD]; rw [if_pos ht]
    rw [hr]
    have HS := hide hs
    clear hr h1 h2 h3 hR hd
    go_enter Tryz.func117, Tryz.ntmps117
    go_wp2_with fail
    refine wp_region_held_drew (S := fun W => W.cell? ⟨g, 1, none⟩ = some (.int .i64 (a : Int))) (by kernel_rfl) (c1) (fun hHeld => ?_)
    refine takeJ 0 (v := ?_) ?_ hHeld ?_
    rotate_left
    · intro w hS; (try dsimp only at hS); go_simp; try with_reducible rfl
    refine takeJ 1 (v := ?_) ?_ hHeld ?_
    rotate_left
    · intro w hS; (try dsimp only at hS); go_simp; try with_reducible rfl
    refine takeJ 2 (v := ?_) ?_ hHeld ?_
    rotate_left
    · intro w hS; (try dsimp only at hS); go_simp; try with_reducible rfl
    refine takeJ 3 (v := ?_) ?_ hHeld ?_
    rotate_left
    · intro w hS; (try dsimp only at hS); go_simp; try with_reducible rfl
    refine takeJ 4 (v := ?_) ?_ hHeld ?_
    rotate_left
    · intro w hS; (try dsimp only at hS); go_simp; try with_reducible rfl
    refine takeJ 5 (v := ?_) ?_ hHeld ?_
    rotate_left
    · intro w hS; (try dsimp only at hS); go_simp; try with_reducible rfl
    refine takeJ 6 (v := ?_) ?_ hHeld ?_
    rotate_left
    · intro w hS; (try dsimp only at hS); go_simp; try with_reducible rfl
    refine takeJ 7 (v := ?_) ?_ hHeld ?_
    rotate_left
    · intro w hS; (try dsimp only at hS); go_simp; try with_reducible rfl
    refine takeJ 8 (v := ?_) ?_ hHeld ?_
    rotate_left
    · intro w hS; (try dsimp only at hS); go_simp; try with_reducible rfl
    refine takeJ 9 (v := ?_) ?_ hHeld ?_
    rotate_left
    · intro w hS; (try dsimp only at hS); go_simp; try with_reducible rfl
    refine takeJ 10 (v := ?_) ?_ hHeld ?_
    rotate_left
    · intro w hS; (try dsimp only at hS); go_simp; try with_reducible rfl
    refine wpAnyH_done (by kernel_rfl) ?_ _
    clear hHeld
    go_wp2_with fail
    refine (size_any w.drew g v l c0 hs).mono ?_
    rintro e w1 ⟨rfl, rfl⟩
    go_wp2_with fail
    have hgo := goTo_ok _ g l a (a + 32) HD.out ht
    rw [show ((a + 32 : Nat) : Int) = (a : Int) + 32 from by omega] at hgo
    rw [show decide ((a : Int) + 32 ≤ (l.length : Int)) = true from by simp; omega]
    refine hgo.mono ?_
    rintro e w1 ⟨rfl, hR1, hg1⟩
    have hR1' := hR1
    obtain ⟨v1, k1, k2, -⟩ := hR1'
    have d0 := cell_of_row w1 g 0 _ _ _ k1
    simp only [List.getElem?_toArray, List.getElem?_cons_zero] at d0
    have hs1 := k2 w1 (und_refl _ _)
    have HR1 := hide hR1
    clear hR1 k1 k2
    go_wp2_with fail
    refine (piece_any w1 g v1 l a 32 d0 hs1 ht _ (by omega)).mono ?_
    rintro e w2 ⟨rfl, rfl⟩
    go_wp2
    go_ret
    exact ⟨rfl, HR1.out, gb_trans (gb_drew _ _) hg1⟩
  · have hr : rD l s = ([], none) := by
      cases s with
      | none => rfl
      | some a => simp only [Option.getD_some] at ht; simp only [rD]; rw [if_neg ht]
    rw [hr]
    clear hr h1 h2 h3 hR hd
    generalize s.getD l.length = p at *
    go_enter Tryz.func117, Tryz.ntmps117
    go_wp2_with fail
    refine wp_region_held_drew (S := fun W => W.cell? ⟨g, 1, none⟩ = some (.int .i64 (p : Int))) (by kernel_rfl) (c1) (fun hHeld => ?_)
    refine takeJ 0 (v := ?_) ?_ hHeld ?_
    rotate_left
    · intro w hS; (try dsimp only at hS); go_simp; try with_reducible rfl
    refine takeJ 1 (v := ?_) ?_ hHeld ?_
    rotate_left
    · intro w hS; (try dsimp only at hS); go_simp; try with_reducible rfl
    refine takeJ 2 (v := ?_) ?_ hHeld ?_
    rotate_left
    · intro w hS; (try dsimp only at hS); go_simp; try with_reducible rfl
    refine takeJ 3 (v := ?_) ?_ hHeld ?_
    rotate_left
    · intro w hS; (try dsimp only at hS); go_simp; try with_reducible rfl
    refine takeJ 4 (v := ?_) ?_ hHeld ?_
    rotate_left
    · intro w hS; (try dsimp only at hS); go_simp; try with_reducible rfl
    refine takeJ 5 (v := ?_) ?_ hHeld ?_
    rotate_left
    · intro w hS; (try dsimp only at hS); go_simp; try with_reducible rfl
    refine takeJ 6 (v := ?_) ?_ hHeld ?_
    rotate_left
    · intro w hS; (try dsimp only at hS); go_simp; try with_reducible rfl
    refine takeJ 7 (v := ?_) ?_ hHeld ?_
    rotate_left
    · intro w hS; (try dsimp only at hS); go_simp; try with_reducible rfl
    refine takeJ 8 (v := ?_) ?_ hHeld ?_
    rotate_left
    · intro w hS; (try dsimp only at hS); go_simp; try with_reducible rfl
    refine takeJ 9 (v := ?_) ?_ hHeld ?_
    rotate_left
    · intro w hS; (try dsimp only at hS); go_simp; try with_reducible rfl
    refine takeJ 10 (v := ?_) ?_ hHeld ?_
    rotate_left
    · intro w hS; (try dsimp only at hS); go_simp; try with_reducible rfl
    refine wpAnyH_done (by kernel_rfl) ?_ _
    clear hHeld
    go_wp2_with fail
    refine (size_any w.drew g v l c0 hs).mono ?_
    rintro e w1 ⟨rfl, rfl⟩
    go_wp2_with fail
    rw [show decide ((p : Int) + 32 ≤ (l.length : Int)) = false from by simp; omega]
    refine (goTo_no _ g l s _ HD.out).mono ?_
    rintro e w1 ⟨rfl, hR1, hg1⟩
    go_wp2
    go_ret
    exact ⟨rfl, hR1, gb_trans (gb_drew _ _) hg1⟩
theorem rI_64 (l : Bs) (s : Pos) : In64 (rI l s).1 := by
  unfold rI In64
  cases s with
  | none => simp
  | some a =>
    simp only
    cases h : takeI l a with
    | none => simp
    | some x =>
      obtain ⟨n, q⟩ := x
      obtain ⟨_, _, _, _, h5, h6, _⟩ := takeI_sound h
      exact ⟨h5, h6⟩
set_option maxRecDepth 20000 in
theorem takeSmall_any (w : World) (g : Nat) (l : Bs) (s : Pos) (most : Int) (h : Rd N w g l s) (hl : l.length ≤ 140737488355328) :
    Took N 100 #[.pointer (some ⟨g, 0, none⟩), .int .i64 most] w g l (.int .i64 (rC l most s).1) (rC l most s).2 := by
  have hT := takeNumber_any w g l s h hl
  have h64 := rI_64 l s
  unfold Took at *
  unfold rC
  generalize hx : rI l s = x at *
  obtain ⟨n, q⟩ := x
  simp only at *
  by_cases h1 : n < 0
  · rw [if_pos (.inl h1)]
    go_enter Tryz.func100, Tryz.ntmps100
    go_wp2_with fail
    refine hT.mono ?_
    rintro e w1 ⟨rfl, hR1, hg1⟩
    go_wp2_with fail
    refine (goTo_no _ g l _ _ hR1).mono ?_
    rintro e w2 ⟨rfl, hR2, hg2⟩
    go_wp2
    go_ret
    exact ⟨rfl, hR2, gb_trans hg1 hg2⟩
  · by_cases h2 : most < n
    · rw [if_pos (.inr h2)]
      go_enter Tryz.func100, Tryz.ntmps100
      go_wp2_with fail
      refine hT.mono ?_
      rintro e w1 ⟨rfl, hR1, hg1⟩
      go_wp2_with fail
      refine (goTo_no _ g l _ _ hR1).mono ?_
      rintro e w2 ⟨rfl, hR2, hg2⟩
      go_wp2
      go_ret
      exact ⟨rfl, hR2, gb_trans hg1 hg2⟩
    · rw [if_neg (by omega)]
      go_enter Tryz.func100, Tryz.ntmps100
      go_wp2_with fail
      refine hT.mono ?_
      rintro e w1 ⟨rfl, hR1, hg1⟩
      go_wp2
      go_ret
      exact ⟨rfl, hR1, hg1⟩
set_option maxRecDepth 20000 in
theorem wasAll_any (w : World) (g : Nat) (l : Bs) (s : Pos) (h : Rd N w g l s) :
    Calls Tryz.prog 103 #[.pointer (some ⟨g, 0, none⟩)] w fun e w' => e = .returned (.bool (decide (s = some l.length))) ∧ Below w.heap.size w w' := by
  obtain ⟨v, h1, h2, h3⟩ := h
  have c0 := cell_of_row w g 0 _ _ _ h1
  have c1 := cell_of_row w g 1 _ _ _ h1
  have c2 := cell_of_row w g 2 _ _ _ h1
  simp only [List.getElem?_toArray, List.getElem?_cons_zero, List.getElem?_cons_succ] at c0 c1 c2
  have hs := h2 w.drew (und_gb (lt_of_heap h1) (gb_drew _ _))
  clear h1 h2
  cases s with
  | none =>
    simp only [Option.getD_none, Option.isNone_none] at *
    go_enter Tryz.func103, Tryz.ntmps103
    go_wp2_with fail
    refine wp_region_held_drew (S := fun W => W.cell? ⟨g, 1, none⟩ = some (.int .i64 (l.length : Int)) ∧ W.cell? ⟨g, 2, none⟩ = some (.bool true)) (by kernel_rfl) (⟨c1, c2⟩) (fun hHeld => ?_)
    refine takeJ 0 (v := ?_) ?_ hHeld ?_
    rotate_left
    · rintro w ⟨_, _⟩; go_simp; try with_reducible rfl
    refine takeJ 1 (v := ?_) ?_ hHeld ?_
    rotate_left
    · rintro w ⟨_, _⟩; go_simp; try with_reducible rfl
    refine takeJ 2 (v := ?_) ?_ hHeld ?_
    rotate_left
    · rintro w ⟨_, _⟩; go_simp; try with_reducible rfl
    refine takeJ 3 (v := ?_) ?_ hHeld ?_
    rotate_left
    · rintro w ⟨_, _⟩; go_simp; try with_reducible rfl
    refine takeJ 4 (v := ?_) ?_ hHeld ?_
    rotate_left
    · rintro w ⟨_, _⟩; go_simp; try with_reducible rfl
    refine takeJ 5 (v := ?_) ?_ hHeld ?_
    rotate_left
    · rintro w ⟨_, _⟩; go_simp; try with_reducible rfl
    refine skipH (i := 6) rfl (by kernel_rfl) (by kernel_rfl) (by kernel_rfl) (fun _ _ _ h => h) rfl hHeld ?_
    try simp only [Act.put, List.setIfInBounds_toArray, List.set_cons_zero, List.set_cons_succ]
    refine skipH (i := 7) rfl (by kernel_rfl) (by kernel_rfl) (by kernel_rfl) (fun _ _ _ h => h) rfl hHeld ?_
    try simp only [Act.put, List.setIfInBounds_toArray, List.set_cons_zero, List.set_cons_succ]
    refine skipH (i := 8) rfl (by kernel_rfl) (by kernel_rfl) (by kernel_rfl) (fun _ _ _ h => h) rfl hHeld ?_
    try simp only [Act.put, List.setIfInBounds_toArray, List.set_cons_zero, List.set_cons_succ]
    refine skipH (i := 9) rfl (by kernel_rfl) (by kernel_rfl) (by kernel_rfl) (fun _ _ _ h => h) rfl hHeld ?_
    try simp only [Act.put, List.setIfInBounds_toArray, List.set_cons_zero, List.set_cons_succ]
    refine skipH (i := 10) rfl (by kernel_rfl) (by kernel_rfl) (by kernel_rfl) (fun _ _ _ h => h) rfl hHeld ?_
    try simp only [Act.put, List.setIfInBounds_toArray, List.set_cons_zero, List.set_cons_succ]
    refine skipH (i := 11) rfl (by kernel_rfl) (by kernel_rfl) (by kernel_rfl) (fun _ _ _ h => h) rfl hHeld ?_
    try simp only [Act.put, List.setIfInBounds_toArray, List.set_cons_zero, List.set_cons_succ]
    refine skipH (i := 12) rfl (by kernel_rfl) (by kernel_rfl) (by kernel_rfl) (fun _ _ _ h => h) rfl hHeld ?_
    try simp only [Act.put, List.setIfInBounds_toArray, List.set_cons_zero, List.set_cons_succ]
    refine skipH (i := 13) rfl (by kernel_rfl) (by kernel_rfl) (by kernel_rfl) (fun _ _ _ h => h) rfl hHeld ?_
    try simp only [Act.put, List.setIfInBounds_toArray, List.set_cons_zero, List.set_cons_succ]
    refine skipH (i := 14) rfl (by kernel_rfl) (by kernel_rfl) (by kernel_rfl) (fun _ _ _ h => h) rfl hHeld ?_
    try simp only [Act.put, List.setIfInBounds_toArray, List.set_cons_zero, List.set_cons_succ]
    refine takeJ 15 (v := ?_) ?_ hHeld ?_
    rotate_left
    · rintro w ⟨_, _⟩; go_simp; try with_reducible rfl
    refine takeJ 16 (v := ?_) ?_ hHeld ?_
    rotate_left
    · rintro w ⟨_, _⟩; go_simp; try with_reducible rfl
    refine wpAnyH_done (by kernel_rfl) ?_ _
    clear hHeld
    go_wp2
    go_ret
    exact ⟨ret_bool (by simp), (Below.refl _ _).drew⟩
  | some a =>
    simp only [Option.getD_some, Option.isNone_some] at *
    go_enter Tryz.func103, Tryz.ntmps103
    go_wp2_with fail
    refine wp_region_held_drew (S := fun W => W.cell? ⟨g, 1, none⟩ = some (.int .i64 (a : Int)) ∧ W.cell? ⟨g, 2, none⟩ = some (.bool false)) (by kernel_rfl) (⟨c1, c2⟩) (fun hHeld => ?_)
    refine takeJ 0 (v := ?_) ?_ hHeld ?_
    rotate_left
    · rintro w ⟨_, _⟩; go_simp; try with_reducible rfl
    refine takeJ 1 (v := ?_) ?_ hHeld ?_
    rotate_left
    · rintro w ⟨_, _⟩; go_simp; try with_reducible rfl
    refine takeJ 2 (v := ?_) ?_ hHeld ?_
    rotate_left
    · rintro w ⟨_, _⟩; go_simp; try with_reducible rfl
    refine takeJ 3 (v := ?_) ?_ hHeld ?_
    rotate_left
    · rintro w ⟨_, _⟩; go_simp; try with_reducible rfl
    refine takeJ 4 (v := ?_) ?_ hHeld ?_
    rotate_left
    · rintro w ⟨_, _⟩; go_simp; try with_reducible rfl
    refine takeJ 5 (v := ?_) ?_ hHeld ?_
    rotate_left
    · rintro w ⟨_, _⟩; go_simp; try with_reducible rfl
    refine takeJ 6 (v := ?_) ?_ hHeld ?_
    rotate_left
    · rintro w ⟨_, _⟩; go_simp; try with_reducible rfl
    refine takeJ 7 (v := ?_) ?_ hHeld ?_
    rotate_left
    · rintro w ⟨_, _⟩; go_simp; try with_reducible rfl
    refine takeJ 8 (v := ?_) ?_ hHeld ?_
    rotate_left
    · rintro w ⟨_, _⟩; go_simp; try with_reducible rfl
    refine takeJ 9 (v := ?_) ?_ hHeld ?_
    rotate_left
    · rintro w ⟨_, _⟩; go_simp; try with_reducible rfl
    refine takeJ 10 (v := ?_) ?_ hHeld ?_
    rotate_left
    · rintro w ⟨_, _⟩; go_simp; try with_reducible rfl
    refine takeJ 11 (v := ?_) ?_ hHeld ?_
    rotate_left
    · rintro w ⟨_, _⟩; go_simp; try with_reducible rfl
    refine takeJ 12 (v := ?_) ?_ hHeld ?_
    rotate_left
    · rintro w ⟨_, _⟩; go_simp; try with_reducible rfl
    refine onlyH (i := 13) rfl (by kernel_rfl) rfl (fun K hK => ?_)
    go_simp
    refine (size_any w.drew g v l c0 hs).mono ?_
    rintro e w1 ⟨rfl, rfl⟩
    refine hK.out _ _ (⟨c1, c2⟩) (fun hHeld => ?_)
    clear hK K
    try simp only [Act.put, List.setIfInBounds_toArray, List.set_cons_zero, List.set_cons_succ]
    refine takeJ 14 (v := ?_) ?_ hHeld ?_
    rotate_left
    · rintro w ⟨_, _⟩; go_simp; try with_reducible rfl
    refine takeJ 15 (v := ?_) ?_ hHeld ?_
    rotate_left
    · rintro w ⟨_, _⟩; go_simp; try with_reducible rfl
    refine takeJ 16 (v := ?_) ?_ hHeld ?_
    rotate_left
    · rintro w ⟨_, _⟩; go_simp; try with_reducible rfl
    refine wpAnyH_done (by kernel_rfl) ?_ _
    clear hHeld
    go_wp2
    go_ret
    refine ⟨ret_bool ?_, (Below.refl _ _).drew⟩
    rw [Bool.eq_iff_iff]; simp <;> omega
end Go.Proofs.YtokebnkgjchfaaaGreatDoor

/-
  A text's bytes; a text copied; a text's beginning; a reading begun. Conditions: lengths within reach.
-/
namespace Go.Proofs.YtokebnkgjchfaaaGreatDoor
open Go.RowKit

theorem wpList_want {P : Program} {w : World} {ops : Array Oper} {rest : List Oper} {o : Oper} {a : Act} {Q : Exit → Act → World → Prop} (hw : Region.wanted o (yielded ops a.tmps) = true)
    (h : ∀ K : Act → World → Prop, (∀ a w, wpList P ops Q rest a w → K a w) → o.wp P a w K Q) : wpList P ops Q (o :: rest) a w :=
  wpList_step fun K hK => by rw [if_pos hw]; exact h K hK
theorem cell_at_new (w : World) (C : Array Value) (e : TypeId) (fr : Nat × Nat) (j : Nat) : (w.alloc (.cells C e fr)).cell? ⟨w.heap.size, j, none⟩ = C[j]? := by
  have : (w.alloc (.cells C e fr)).heap[w.heap.size]? = some (.cells C e fr) := by
    show (w.heap.push (.cells C e fr))[w.heap.size]? = _
    simp
  unfold World.cell?
  simp only [this]
  rfl
/-- '[]byte(s)', guarded. -/
theorem wpList_tobytes (w : World) {ops : Array Oper} {rest : List Oper} {o : Oper} {a : Act} {Q : Exit → Act → World → Prop} (hg : Region.wanted o (yielded ops a.tmps) = true) (x : Operand) (hop : o.op = Op.convert 9 74 x)
    (s : ByteArray) (hs : s.size ≤ maxLen) (hx : a.eval x = .string s)
    (hK : ∀ v' w', Sl w' v' s.data.toList → Below w.heap.size w w' → (∀ b off n c, v' = .slice (some ⟨b, off, none⟩) n c → w.heap.size ≤ b) → wpList Tryz.prog ops Q rest (a.put o.dst v') w') : wpList Tryz.prog ops Q (o :: rest) a w := by
  refine wpList_want hg fun K hK' => ?_
  have hr := run_bytes_of_string (P := Tryz.prog) w 9 74 5 s Tryz.underlying9 Tryz.underlying74 Tryz.underlying5
  have hlen : s.data.toList.length = s.size := by simp
  have hge := grownCap_ge w s.size 0 5
  have hle := grownCap_le_maxLen w s.size 0 5 hs
  unfold Oper.wp
  simp only [execOp, hop, hx, Result.andThen, Sem.run_bind, hr]
  refine hK' _ _ (hK _ _ ?_ (((Below.refl _ _).drew).alloc (by simp) _) (fun b off n c e => by injection e with e; injection e with e; injection e with e; omega))
  refine ⟨_, grownCap w s.size 0 5, by rw [hlen], by omega, hle, by simp, fun _ => ⟨w.heap.size, 0, rfl, by simp, fun j hj => ?_⟩⟩
  have := cell_at_new w.drew (bytesRow s (grownCap w s.size 0 5)) 5 ((bytesRow s (grownCap w s.size 0 5)).size, (bytesRow s (grownCap w s.size 0 5)).size + 1) j
  rw [show w.drew.heap.size = w.heap.size from rfl] at this
  rw [Nat.zero_add, this, bytesRow_at s _ j (by simpa using hj)]
  simp
theorem Tryz.cellsB : Tryz.prog.cellsOf 5 = 1 := by kernel_rfl
theorem Tryz.sizeB1 : (Tryz.prog.info? 5).map (·.size) = some 1 := by kernel_rfl
theorem byteCells_bc (l : List UInt8) : Lib.byteCells l = bc l := rfl
set_option maxRecDepth 20000 in
/-- What strings.Clone calls. -/
theorem copyStr_in (w : World) (l : List UInt8) (hl : l.length ≤ 140737488355328) :
    Calls Tryz.prog 62 #[.string (strB l)] w fun e w' => e = .returned (.string (strB l)) ∧ Below w.heap.size w w' := by
  have hsz := strB_size l
  by_cases h0 : l = []
  · subst h0
    have hz : (strB []).size = 0 := rfl
    clear hsz
    go_enter Tryz.func62, Tryz.ntmps62
    go_wp2
    go_ret
    exact ⟨rfl, Below.refl _ _⟩
  · have hpos : 0 < l.length := List.length_pos_iff.2 h0
    obtain ⟨i0, hi, hz0, hz1, hz2⟩ := info_parts Tryz.infoB
    have hmk : ∀ W : World, ∃ M : Array Value, M.size = l.length ∧ (Instr.makeSlice 74 (.int .i64 (l.length : Int)) (.int .i64 (l.length : Int))).run Tryz.prog W = .ok (.slice (some ⟨W.heap.size, 0, none⟩) l.length l.length) (W.alloc (.cells M 5)) := fun W => by
      refine ⟨madeCells (Value.int .u8 0).cells (((l.length : Nat) : Int).toNat * i0.size), by rw [size_madeCells, hz1]; simp, ?_⟩
      have h := run_make (P := Tryz.prog) W 74 5 i0 (.int .u8 0) Tryz.underlying74 hi hz0 .i64 .i64 (l.length : Int) (l.length : Int) (by omega) (by omega) (by rw [hz2]; omega) (by omega)
      simpa using h
    obtain ⟨M, hM, hmk⟩ := hmk w
    have hcp := Lib.run_copy_row_string (P := Tryz.prog) (w.alloc (.cells M 5)) 74 9 3 5 w.heap.size 0 l.length l.length (strB l) M 5 Tryz.underlying74 Tryz.sizeB1 (heap_last w _ _ rfl) (by omega) (by omega)
    have hY : (M.toList.take 0 ++ Lib.byteCells (strB l).data.toList ++ M.toList.drop (0 + (strB l).size)) = bc l := by
      rw [List.take_zero, List.nil_append, List.drop_of_length_le (by rw [Array.length_toList]; omega), List.append_nil, strB_list, byteCells_bc]
    rw [hY, hsz] at hcp
    have hgY : ((w.alloc (.cells M 5)).setRow w.heap.size (bc l).toArray).heap[w.heap.size]? = some (.cells (bc l).toArray 5 (0, 0)) := setRow_heap _ _ M _ _ (0, 0) (heap_last w _ _ rfl)
    have hUS := Lib.run_unsafeString_row (P := Tryz.prog) ((w.alloc (.cells M 5)).setRow w.heap.size (bc l).toArray) 135 3 9 5 Tryz.underlying135 Tryz.cellsB w.heap.size (bc l).toArray.size (by unfold World.shape?; rw [hgY]) l h0 (by simp [bc_length]) (by omega)
      (fun j x hx => by
        have hj : j < l.length := (List.getElem?_eq_some_iff.1 hx).1
        rw [Addr.add_lit, Nat.zero_add, cell_of_row _ _ _ _ _ _ hgY, List.getElem?_toArray, bc_get l j hj]
        rw [List.getElem?_eq_getElem hj] at hx
        injection hx with hx
        rw [hx])
    have hb1 : Below w.heap.size w ((w.alloc (.cells M 5)).setRow w.heap.size (bc l).toArray) :=
      ((Below.refl _ w).alloc (Nat.le_refl _) _).trans ⟨rfl, rfl, rfl, by simp, fun k hk => setRow_other _ _ _ _ (by omega)⟩
    have HB := hide (Lib.below_freeze hb1 (p := ⟨w.heap.size, 0, none⟩) (Nat.le_refl _) l.length)
    clear hb1 hgY hY hM
    generalize (w.alloc (.cells M 5)).setRow w.heap.size (bc l).toArray = W2 at *
    go_enter Tryz.func62, Tryz.ntmps62
    go_wp2
    go_ret
    exact ⟨rfl, HB.out⟩

/-- strings.Clone. -/
theorem copyStr_any (w : World) (l : List UInt8) (hl : l.length ≤ 140737488355328) :
    Calls Tryz.prog 43 #[.string (strB l)] w fun e w' => e = .returned (.string (strB l)) ∧ Below w.heap.size w w' := by
  go_enter Tryz.func43, Tryz.ntmps43
  go_wp2_with (go_at_call 62; refine (copyStr_in _ l hl).mono ?_; rintro e w' ⟨rfl, hb⟩)
  go_ret
  exact ⟨rfl, hb⟩

theorem ext_strB (l : List UInt8) (i j : Nat) : (strB l).extract i j = strB ((l.take j).drop i) := by
  apply ByteArray.ext
  simp [strB, List.drop_take]
theorem toL (l : List UInt8) : (strB l).toList = l := by rw [ByteArray.toList_eq]; exact strB_list l
theorem prefix_take (p l : Bs) : p.isPrefixOf l = (decide (p.length ≤ l.length) && (l.take p.length == p)) := by
  rw [Bool.eq_iff_iff, List.isPrefixOf_iff_prefix]
  simp
  constructor
  · rintro h
    exact ⟨h.length_le, (List.prefix_iff_eq_take.1 h).symm⟩
  · rintro ⟨_, h⟩
    exact List.prefix_iff_eq_take.2 h.symm
set_option maxRecDepth 20000 in
theorem hasPrefix_any (w : World) (l p : Bs) (_hl : l.length ≤ 140737488355328) (_hp : p.length ≤ 140737488355328) :
    Calls Tryz.prog 121 #[.string (strB l), .string (strB p)] w fun e w' => e = .returned (.bool (p.isPrefixOf l)) ∧ w' = w := by
  have h1 := strB_size l
  have h2 := strB_size p
  have h3 := toL p
  have h4 := toL (l.take p.length)
  have h5 := ext_strB l 0 p.length
  rw [List.drop_zero] at h5
  rw [prefix_take]
  by_cases h : p.length ≤ l.length
  · go_enter Tryz.func121, Tryz.ntmps121
    go_wp2
    go_ret
    exact ⟨ret_bool (by simp [h]), rfl⟩
  · go_enter Tryz.func121, Tryz.ntmps121
    go_wp2
    go_ret
    exact ⟨ret_bool (by simp [h]), rfl⟩
set_option maxRecDepth 20000 in
theorem cutPrefix_any (w : World) (l p : Bs) (hl : l.length ≤ 140737488355328) (hp : p.length ≤ 140737488355328) :
    Calls Tryz.prog 98 #[.string (strB l), .string (strB p)] w fun e w' => e = .returned (if p.isPrefixOf l then .tuple #[.string (strB (l.drop p.length)), .bool true] else .tuple #[.string (strB l), .bool false]) ∧ w' = w := by
  have h1 := strB_size l
  have h2 := strB_size p
  by_cases h : p.isPrefixOf l = true
  · have hle : p.length ≤ l.length := (List.isPrefixOf_iff_prefix.1 h).length_le
    have h5 := ext_strB l p.length l.length
    rw [List.take_length] at h5
    rw [if_pos h]
    have hin : Calls Tryz.prog 114 #[.string (strB l), .string (strB p)] w fun e w' => e = .returned (.tuple #[.string (strB (l.drop p.length)), .bool true]) ∧ w' = w := by
      go_enter Tryz.func114, Tryz.ntmps114
      go_wp2_with fail
      refine (hasPrefix_any w l p hl hp).mono ?_
      rintro e w1 ⟨rfl, rfl⟩
      rw [h]
      go_wp2
      go_ret2
      exact ⟨rfl, rfl⟩
    go_enter Tryz.func98, Tryz.ntmps98
    go_wp2_with fail
    refine hin.mono ?_
    rintro e w1 ⟨rfl, rfl⟩
    go_wp2
    go_ret2
    exact ⟨rfl, rfl⟩
  · have h := Bool.eq_false_iff.2 h
    rw [if_neg (by rw [h]; decide)]
    have hin : Calls Tryz.prog 114 #[.string (strB l), .string (strB p)] w fun e w' => e = .returned (.tuple #[.string (strB l), .bool false]) ∧ w' = w := by
      go_enter Tryz.func114, Tryz.ntmps114
      go_wp2_with fail
      refine (hasPrefix_any w l p hl hp).mono ?_
      rintro e w1 ⟨rfl, rfl⟩
      rw [h]
      go_wp2
      go_ret2
      exact ⟨rfl, rfl⟩
    go_enter Tryz.func98, Tryz.ntmps98
    go_wp2_with fail
    refine hin.mono ?_
    rintro e w1 ⟨rfl, rfl⟩
    go_wp2
    go_ret2
    exact ⟨rfl, rfl⟩
/-- What begins at N. -/
theorem Sl.und {N : Nat} {w w' : World} {v : Value} {l : Bs} (h : Sl w v l) (hN : ∀ b off n c, v = .slice (some ⟨b, off, none⟩) n c → N ≤ b) (hu : Und N w.heap.size w w') : Sl w' v l := by
  obtain ⟨ao, cap, hv, h1, h2, h3, h4⟩ := h
  refine ⟨ao, cap, hv, h1, h2, h3, fun hl => ?_⟩
  obtain ⟨b, off, ha, hlt, hc⟩ := h4 hl
  exact ⟨b, off, ha, Nat.lt_of_lt_of_le hlt hu.1, fun j hj => (World.cell?_of_block (w := w) (hu.2 b (hN b off _ _ (by rw [hv, ha])) hlt)).trans (hc j hj)⟩
/-- What a reading begins with. -/
def begin (p b : Bs) : Bs × Pos := if p.isPrefixOf b then (b.drop p.length, some 0) else ([], none)
set_option maxRecDepth 20000 in
theorem read_any (w : World) (b p : Bs) (hb : b.length ≤ 140737488355328) (hp : p.length ≤ 140737488355328) :
    Calls Tryz.prog 99 #[.string (strB b), .string (strB p)] w fun e w' => ∃ g, e = .returned (.pointer (some ⟨g, 0, none⟩)) ∧ Rd w.heap.size w' g (begin p b).1 (begin p b).2 ∧ w.heap.size ≤ g ∧ Below w.heap.size w w' := by
  have hcp := cutPrefix_any w b p hb hp
  unfold begin
  by_cases h : p.isPrefixOf b = true
  · rw [if_pos h] at hcp ⊢
    have hd : (b.drop p.length).length ≤ b.length := by rw [List.length_drop]; omega
    generalize b.drop p.length = r at *
    have hrs := strB_size r
    go_enter Tryz.func99, Tryz.ntmps99
    go_wp2_with fail
    refine hcp.mono ?_
    rintro e w1 ⟨rfl, rfl⟩
    go_wp2_with (refine wpList_tobytes _ rfl (.tmp 17) rfl (strB r) (by rw [strB_size]; unfold maxLen; omega) rfl ?_; intro v2 w2 hsl2 hb2 hbk2; rw [strB_list] at hsl2; have HS := hide hsl2; have HBK := hide hbk2; clear hbk2; have HB := hide hb2; obtain ⟨ao, cap, rfl, -⟩ := hsl2; clear hb2)
    go_ret
    refine ⟨_, rfl, ⟨_, heap_last w2 _ _ rfl, fun w' hu => HS.out.und HBK.out ⟨Nat.le_trans (by simp) hu.1, fun k hN hk => (hu.2 k hN hk).trans (heap_past w2 _ k hk)⟩, fun a ha => by injection ha with ha; omega⟩, HB.out.size, HB.out.alloc HB.out.size _⟩
  · have h := Bool.eq_false_iff.2 h
    rw [if_neg (by rw [h]; decide)] at hcp ⊢
    go_enter Tryz.func99, Tryz.ntmps99
    go_wp2_with fail
    refine hcp.mono ?_
    rintro e w1 ⟨rfl, rfl⟩
    go_wp2
    go_ret
    exact ⟨_, rfl, ⟨_, heap_last w1 _ _ rfl, fun w' _ => Sl.nil w', fun a ha => by cases ha⟩, Nat.le_refl _, (Below.refl _ _).alloc (Nat.le_refl _) _⟩
end Go.Proofs.YtokebnkgjchfaaaGreatDoor
