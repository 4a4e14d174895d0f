/-
  The ring on raw memory: what unhang and hang do to the blocks. Conditions: what lies there is told by hypotheses; lengths within reach.
-/
import Derived.Test.YthhmjoafoahpbaaBase
namespace Go.Proofs.Ythhmjoafoahpbaa
open Go.RowKit

theorem Try.infoT : (Try.prog.info? 65).map (·.size) = some 4 := by kernel_rfl
theorem eql_same (w : World) (a : Nat) : (binOp .eql 46 (pt a) (pt a)).run Try.prog w = .ok (.bool true) w := by
  obtain ⟨j, hj, _⟩ := Option.map_eq_some_iff.1 Try.infoT
  exact run_eql_ptr_same w _ Try.underlying46 hj
theorem eql_other (w : World) {a b : Nat} {p q : Tx} {x y x' y' : Value} (h : a ≠ b) (ha : w.heap[a]? = some (txo p x y)) (hb : w.heap[b]? = some (txo q x' y')) : (binOp .eql 46 (pt a) (pt b)).run Try.prog w = .ok (.bool false) w := by
  obtain ⟨j, hj, hs⟩ := Option.map_eq_some_iff.1 Try.infoT
  exact run_eql_ptr_other w Try.underlying46 hj (by omega) (fun e => h (congrArg Addr.block e)) ha hb
theorem txo_cache {w : World} {x c : Nat} {q : Tx} {a b : Value} {cs : Array Value} (hx : w.heap[x]? = some (txo q a b)) (hc : w.heap[c]? = some (.cells cs 51)) : x ≠ c :=
  ne_of_obj hx hc (by intro e; injection e with e1 e2; exact absurd e2 (by decide))

/-- Behind unhang. -/
def Unhung (w : World) (c t o n : Nat) (p : Tx) (last : Nat) (g : Int) (bud tx : Value) (e : Ending) (w' : World) : Prop :=
  e = .returned (.tuple #[]) ∧
  w'.heap[c]? = some (.cells #[if o = t then .pointer none else if last = t then pt o else pt last, .int .i64 (g - (wt p : Int)), bud, tx] 51) ∧
  w'.heap[t]? = some (txo p (.pointer none) (.pointer none)) ∧
  (∀ x q a b, x ≠ t → w.heap[x]? = some (txo q (pt a) (pt b)) → w'.heap[x]? = some (txo q (pt (if x = n then o else a)) (pt (if x = o then n else b)))) ∧
  Chg (fun k => k = c ∨ k = t ∨ k = o ∨ k = n) w w' ∧ w'.heap.size = w.heap.size

set_option maxRecDepth 20000 in
set_option maxHeartbeats 1000000 in
/-- A text is taken out of the ring. -/
theorem unhang_raw (w : World) (c t o n : Nat) (p : Tx) (last : Nat) (g : Int) (bud tx : Value) (hc : w.heap[c]? = some (.cells #[pt last, .int .i64 g, bud, tx] 51))
    (ht : w.heap[t]? = some (txo p (pt o) (pt n))) (ho : ∃ q a b, w.heap[o]? = some (txo q (pt a) (pt b))) (hn : ∃ q a b, w.heap[n]? = some (txo q (pt a) (pt b)))
    (hl : ∃ q a b, w.heap[last]? = some (txo q (pt a) (pt b))) (hon : o = t ↔ n = t) (h1 : p.1.length ≤ 140737488351232) (h2 : p.2.length ≤ 140737488351232) (hg0 : (wt p : Int) ≤ g) (hg1 : g ≤ 4611686018427387904) :
    Calls Try.prog 32 #[pt c, pt t] w (Unhung w c t o n p last g bud tx) := by
  obtain ⟨qo, ao, bo, ho⟩ := ho
  obtain ⟨qn, an, bn, hn⟩ := hn
  obtain ⟨ql, al, bl, hl⟩ := hl
  have hct : c ≠ t := fun e => txo_cache ht hc e.symm
  have hcx : ∀ x q a b, w.heap[x]? = some (txo q (pt a) (pt b)) → x ≠ c := fun x q a b hx => txo_cache hx hc
  -- behind the first store
  obtain ⟨W1, hW1⟩ : ∃ W1, W1 = w.drew.setCell ⟨o, 3, none⟩ (pt n) := ⟨_, rfl⟩
  obtain ⟨W, hW⟩ : ∃ W, W = W1.setCell ⟨n, 2, none⟩ (pt o) := ⟨_, rfl⟩
  have hx1 : ∀ x q a b, w.heap[x]? = some (txo q (pt a) (pt b)) → W1.heap[x]? = some (txo q (pt a) (pt (if x = o then n else b))) := by
    intro x q a b hx
    subst hW1
    by_cases e : x = o
    · subst e
      rw [if_pos rfl]
      exact heap_set (w := w.drew) hx 3 (pt n)
    · rw [if_neg e]
      exact heap_set_other (w := w.drew) (p := ⟨o, 3, none⟩) hx e
  have hx2 : ∀ x q a b, w.heap[x]? = some (txo q (pt a) (pt b)) → W.heap[x]? = some (txo q (pt (if x = n then o else a)) (pt (if x = o then n else b))) := by
    intro x q a b hx
    have := hx1 x q a b hx
    subst hW
    by_cases e : x = n
    · subst e
      rw [if_pos rfl]
      exact heap_set this 2 (pt o)
    · rw [if_neg e]
      exact heap_set_other (p := ⟨n, 2, none⟩) this e
  have kt1 : W1.heap[t]? = some (txo p (pt o) (pt n)) := by
    have := hx1 t p o n ht
    rw [this]
    split <;> rfl
  have kt : W.heap[t]? = some (txo p (pt o) (pt n)) := by
    have := hx2 t p o n ht
    rw [this]
    split <;> split <;> rfl
  have kc : W.heap[c]? = some (.cells #[pt last, .int .i64 g, bud, tx] 51) := by
    subst hW hW1
    exact heap_set_other (p := ⟨n, 2, none⟩) (heap_set_other (w := w.drew) (p := ⟨o, 3, none⟩) hc (fun e => hcx _ _ _ _ ho e.symm)) (fun e => hcx _ _ _ _ hn e.symm)
  have hg : Chg (fun k => k = c ∨ k = t ∨ k = o ∨ k = n) w W := by
    subst hW hW1
    exact ((Chg.refl _ w).drew.setCell (p := ⟨o, 3, none⟩) (Or.inl (Or.inr (Or.inr (Or.inl rfl)))) _).setCell (p := ⟨n, 2, none⟩) (Or.inl (Or.inr (Or.inr (Or.inr rfl)))) _
  have hsz : W.heap.size = w.heap.size := by subst hW hW1; simp [World.setCell]
  have hxs : Hid (∀ x q a b, x ≠ t → w.heap[x]? = some (txo q (pt a) (pt b)) → W.heap[x]? = some (txo q (pt (if x = n then o else a)) (pt (if x = o then n else b)))) := fun x q a b _ hx => hx2 x q a b hx
  have kl := hx2 last ql al bl hl
  have ko := hx2 o qo ao bo ho
  have hS0 : w.drew.cell? ⟨t, 2, none⟩ = some (.pointer (some ⟨o, 0, none⟩)) ∧ w.drew.cell? ⟨t, 3, none⟩ = some (.pointer (some ⟨n, 0, none⟩)) := ⟨cell_of (w := w.drew) ht 2, cell_of (w := w.drew) ht 3⟩
  have hS1 : W1.cell? ⟨t, 2, none⟩ = some (.pointer (some ⟨o, 0, none⟩)) ∧ W1.cell? ⟨t, 3, none⟩ = some (.pointer (some ⟨n, 0, none⟩)) := ⟨cell_of kt1 2, cell_of kt1 3⟩
  have hS2 : W.cell? ⟨t, 2, none⟩ = some (.pointer (some ⟨o, 0, none⟩)) ∧ W.cell? ⟨t, 3, none⟩ = some (.pointer (some ⟨n, 0, none⟩)) := ⟨cell_of kt 2, cell_of kt 3⟩
  have f1 : w.drew.frozen? ⟨o, 3, none⟩ = false := thawed (w := w.drew) ho 3
  have g1 : w.drew.cell? ⟨o, 3, none⟩ = some (pt bo) := cell_of (w := w.drew) ho 3
  have f2 : W1.frozen? ⟨n, 2, none⟩ = false := thawed (hx1 n qn an bn hn) 2
  have g2 : W1.cell? ⟨n, 2, none⟩ = some (pt an) := cell_of (hx1 n qn an bn hn) 2
  have H0 := hide hS0
  have H1 := hide hS1
  have H2 := hide hS2
  have HO := hide ho
  have HN := hide hn
  have HW := hide hW
  have HW1 := hide hW1
  clear hS0 hS1 hS2 hx1 hx2 kt1 ho hn hl hW hW1
  unfold pt at f1 g1 f2 g2 ⊢
  go_enter Try.func32, Try.ntmps32
  go_wp2_with fail
  refine wp_region_held_drew (S := fun W => W.cell? ⟨t, 2, none⟩ = some (.pointer (some ⟨o, 0, none⟩)) ∧ W.cell? ⟨t, 3, none⟩ = some (.pointer (some ⟨n, 0, none⟩))) (by kernel_rfl) (H0.out) (fun hHeld => ?_)
  refine takeH (i := 0) (v := ?_) rfl (by kernel_rfl) (by kernel_rfl) (by kernel_rfl) (fun _ _ _ h => h) rfl ?_ hHeld ?_
  rotate_left
  · intro w hS; (try dsimp only at hS); obtain ⟨hS0, hS1⟩ := hS; go_simp; first | done | (with_reducible rfl)
  try simp only [Act.put, List.setIfInBounds_toArray, List.set_cons_zero, List.set_cons_succ]
  refine takeH (i := 1) (v := ?_) rfl (by kernel_rfl) (by kernel_rfl) (by kernel_rfl) (fun _ _ _ h => h) rfl ?_ hHeld ?_
  rotate_left
  · intro w hS; (try dsimp only at hS); obtain ⟨hS0, hS1⟩ := hS; go_simp; first | done | (with_reducible rfl)
  try simp only [Act.put, List.setIfInBounds_toArray, List.set_cons_zero, List.set_cons_succ]
  refine takeH (i := 2) (v := ?_) rfl (by kernel_rfl) (by kernel_rfl) (by kernel_rfl) (fun _ _ _ h => h) rfl ?_ hHeld ?_
  rotate_left
  · intro w hS; (try dsimp only at hS); obtain ⟨hS0, hS1⟩ := hS; go_simp; first | done | (with_reducible rfl)
  try simp only [Act.put, List.setIfInBounds_toArray, List.set_cons_zero, List.set_cons_succ]
  refine takeH (i := 3) (v := ?_) rfl (by kernel_rfl) (by kernel_rfl) (by kernel_rfl) (fun _ _ _ h => h) rfl ?_ hHeld ?_
  rotate_left
  · intro w hS; (try dsimp only at hS); obtain ⟨hS0, hS1⟩ := hS; go_simp; first | done | (with_reducible rfl)
  try simp only [Act.put, List.setIfInBounds_toArray, List.set_cons_zero, List.set_cons_succ]
  refine takeH (i := 4) (v := ?_) rfl (by kernel_rfl) (by kernel_rfl) (by kernel_rfl) (fun _ _ _ h => h) rfl ?_ hHeld ?_
  rotate_left
  · intro w hS; (try dsimp only at hS); obtain ⟨hS0, hS1⟩ := hS; go_simp; first | done | (with_reducible rfl)
  try simp only [Act.put, List.setIfInBounds_toArray, List.set_cons_zero, List.set_cons_succ]
  refine takeH (i := 5) (v := ?_) rfl (by kernel_rfl) (by kernel_rfl) (by kernel_rfl) (fun _ _ _ h => h) rfl ?_ hHeld ?_
  rotate_left
  · intro w hS; (try dsimp only at hS); obtain ⟨hS0, hS1⟩ := hS; go_simp; first | done | (with_reducible rfl)
  try simp only [Act.put, List.setIfInBounds_toArray, List.set_cons_zero, List.set_cons_succ]
  refine takeH (i := 6) (v := ?_) rfl (by kernel_rfl) (by kernel_rfl) (by kernel_rfl) (fun _ _ _ h => h) rfl ?_ hHeld ?_
  rotate_left
  · intro w hS; (try dsimp only at hS); obtain ⟨hS0, hS1⟩ := hS; go_simp; first | done | (with_reducible rfl)
  try simp only [Act.put, List.setIfInBounds_toArray, List.set_cons_zero, List.set_cons_succ]
  refine takeH (i := 7) (v := ?_) rfl (by kernel_rfl) (by kernel_rfl) (by kernel_rfl) (fun _ _ _ h => h) rfl ?_ hHeld ?_
  rotate_left
  · intro w hS; (try dsimp only at hS); obtain ⟨hS0, hS1⟩ := hS; go_simp; first | done | (with_reducible rfl)
  try simp only [Act.put, List.setIfInBounds_toArray, List.set_cons_zero, List.set_cons_succ]
  refine takeH (i := 8) (v := ?_) rfl (by kernel_rfl) (by kernel_rfl) (by kernel_rfl) (fun _ _ _ h => h) rfl ?_ hHeld ?_
  rotate_left
  · intro w hS; (try dsimp only at hS); obtain ⟨hS0, hS1⟩ := hS; go_simp; first | done | (with_reducible rfl)
  try simp only [Act.put, List.setIfInBounds_toArray, List.set_cons_zero, List.set_cons_succ]
  refine takeH (i := 9) (v := ?_) rfl (by kernel_rfl) (by kernel_rfl) (by kernel_rfl) (fun _ _ _ h => h) rfl ?_ hHeld ?_
  rotate_left
  · intro w hS; (try dsimp only at hS); obtain ⟨hS0, hS1⟩ := hS; go_simp; first | done | (with_reducible rfl)
  try simp only [Act.put, List.setIfInBounds_toArray, List.set_cons_zero, List.set_cons_succ]
  refine takeH (i := 10) (v := ?_) rfl (by kernel_rfl) (by kernel_rfl) (by kernel_rfl) (fun _ _ _ h => h) rfl ?_ hHeld ?_
  rotate_left
  · intro w hS; (try dsimp only at hS); obtain ⟨hS0, hS1⟩ := hS; go_simp; first | done | (with_reducible rfl)
  try simp only [Act.put, List.setIfInBounds_toArray, List.set_cons_zero, List.set_cons_succ]
  refine takeH (i := 11) (v := ?_) rfl (by kernel_rfl) (by kernel_rfl) (by kernel_rfl) (fun _ _ _ h => h) rfl ?_ hHeld ?_
  rotate_left
  · intro w hS; (try dsimp only at hS); obtain ⟨hS0, hS1⟩ := hS; go_simp; first | done | (with_reducible rfl)
  try simp only [Act.put, List.setIfInBounds_toArray, List.set_cons_zero, List.set_cons_succ]
  refine takeH (i := 12) (v := ?_) rfl (by kernel_rfl) (by kernel_rfl) (by kernel_rfl) (fun _ _ _ h => h) rfl ?_ hHeld ?_
  rotate_left
  · intro w hS; (try dsimp only at hS); obtain ⟨hS0, hS1⟩ := hS; go_simp; first | done | (with_reducible rfl)
  try simp only [Act.put, List.setIfInBounds_toArray, List.set_cons_zero, List.set_cons_succ]
  refine takeH (i := 13) (v := ?_) rfl (by kernel_rfl) (by kernel_rfl) (by kernel_rfl) (fun _ _ _ h => h) rfl ?_ hHeld ?_
  rotate_left
  · intro w hS; (try dsimp only at hS); obtain ⟨hS0, hS1⟩ := hS; go_simp; first | done | (with_reducible rfl)
  try simp only [Act.put, List.setIfInBounds_toArray, List.set_cons_zero, List.set_cons_succ]
  refine takeH (i := 14) (v := ?_) rfl (by kernel_rfl) (by kernel_rfl) (by kernel_rfl) (fun _ _ _ h => h) rfl ?_ hHeld ?_
  rotate_left
  · intro w hS; (try dsimp only at hS); obtain ⟨hS0, hS1⟩ := hS; go_simp; first | done | (with_reducible rfl)
  try simp only [Act.put, List.setIfInBounds_toArray, List.set_cons_zero, List.set_cons_succ]
  refine takeH (i := 15) (v := ?_) rfl (by kernel_rfl) (by kernel_rfl) (by kernel_rfl) (fun _ _ _ h => h) rfl ?_ hHeld ?_
  rotate_left
  · intro w hS; (try dsimp only at hS); obtain ⟨hS0, hS1⟩ := hS; go_simp; first | done | (with_reducible rfl)
  try simp only [Act.put, List.setIfInBounds_toArray, List.set_cons_zero, List.set_cons_succ]
  refine takeH (i := 16) (v := ?_) rfl (by kernel_rfl) (by kernel_rfl) (by kernel_rfl) (fun _ _ _ h => h) rfl ?_ hHeld ?_
  rotate_left
  · intro w hS; (try dsimp only at hS); obtain ⟨hS0, hS1⟩ := hS; go_simp; first | done | (with_reducible rfl)
  try simp only [Act.put, List.setIfInBounds_toArray, List.set_cons_zero, List.set_cons_succ]
  refine takeH (i := 17) (v := ?_) rfl (by kernel_rfl) (by kernel_rfl) (by kernel_rfl) (fun _ _ _ h => h) rfl ?_ hHeld ?_
  rotate_left
  · intro w hS; (try dsimp only at hS); obtain ⟨hS0, hS1⟩ := hS; go_simp; first | done | (with_reducible rfl)
  try simp only [Act.put, List.setIfInBounds_toArray, List.set_cons_zero, List.set_cons_succ]
  refine onlyH (i := 18) rfl (by kernel_rfl) rfl (fun K hK => ?_)
  go_simp
  rw [show (w.setCell ⟨o, 3, none⟩ (.pointer (some ⟨n, 0, none⟩))).drew = W1 from HW1.out.symm]
  refine hK.out _ _ (H1.out) (fun hHeld => ?_)
  clear hK K
  try simp only [Act.put, List.setIfInBounds_toArray, List.set_cons_zero, List.set_cons_succ]
  refine takeH (i := 19) (v := ?_) rfl (by kernel_rfl) (by kernel_rfl) (by kernel_rfl) (fun _ _ _ h => h) rfl ?_ hHeld ?_
  rotate_left
  · intro w hS; (try dsimp only at hS); obtain ⟨hS0, hS1⟩ := hS; go_simp; first | done | (with_reducible rfl)
  try simp only [Act.put, List.setIfInBounds_toArray, List.set_cons_zero, List.set_cons_succ]
  refine takeH (i := 20) (v := ?_) rfl (by kernel_rfl) (by kernel_rfl) (by kernel_rfl) (fun _ _ _ h => h) rfl ?_ hHeld ?_
  rotate_left
  · intro w hS; (try dsimp only at hS); obtain ⟨hS0, hS1⟩ := hS; go_simp; first | done | (with_reducible rfl)
  try simp only [Act.put, List.setIfInBounds_toArray, List.set_cons_zero, List.set_cons_succ]
  refine onlyH (i := 21) rfl (by kernel_rfl) rfl (fun K hK => ?_)
  go_simp
  rw [show W1.setCell ⟨n, 2, none⟩ (.pointer (some ⟨o, 0, none⟩)) = W from HW.out.symm]
  refine hK.out _ _ (H2.out) (fun hHeld => ?_)
  clear hK K
  try simp only [Act.put, List.setIfInBounds_toArray, List.set_cons_zero, List.set_cons_succ]
  refine wpAnyH_done (by kernel_rfl) ?_ _
  clear hHeld
  have x2 := H2.out.1
  have z0 := cell_of kc 0
  have zz0 := thawed kc 0
  simp only [List.getElem?_toArray, List.getElem?_cons_zero] at z0
  clear f1 g1 f2 g2
  have hO := hide hxs
  by_cases e0 : o = t
  · have en := hon.1 e0
    have q0 := eql_same W t
    unfold pt at q0
    rw [e0] at x2
    have kc0 : (W.setCell ⟨c, 0, none⟩ (.pointer none)).heap[c]? = some (.cells #[.pointer none, .int .i64 g, bud, tx] 51) := heap_set kc 0 (.pointer none)
    have kt0 : (W.setCell ⟨c, 0, none⟩ (.pointer none)).heap[t]? = some (txo p (pt o) (pt n)) := heap_set_other (p := ⟨c, 0, none⟩) kt (fun e => hct e.symm)
    have hg0 := hg.setCell (p := ⟨c, 0, none⟩) (Or.inl (Or.inl rfl)) (.pointer none)
    have hxs0 : ∀ x q a b, x ≠ t → w.heap[x]? = some (txo q (pt a) (pt b)) → (W.setCell ⟨c, 0, none⟩ (.pointer none)).heap[x]? = some (txo q (pt (if x = n then o else a)) (pt (if x = o then n else b))) := fun x q a b hxt hx => heap_set_other (p := ⟨c, 0, none⟩) (hxs.out x q a b hxt hx) (fun e => hcx x q a b hx e)
    have y1 := thawed kt0 2
    have y3 := cell_of kt0 2
    have s1 := heap_set kt0 2 (.pointer none)
    have y2 := thawed s1 3
    have y4 := cell_of s1 3
    simp [pt] at y3 y4
    have s2 := heap_set s1 3 (.pointer none)
    have sc1 := heap_set_other (p := ⟨t, 2, none⟩) (u := .pointer none) kc0 hct
    have sc := heap_set_other (p := ⟨t, 3, none⟩) (u := .pointer none) sc1 hct
    have hg1 := (hg0.setCell (p := ⟨t, 2, none⟩) (Or.inl (Or.inr (Or.inl rfl))) (.pointer none)).setCell (p := ⟨t, 3, none⟩) (Or.inl (Or.inr (Or.inl rfl))) (.pointer none)
    have hsz1 : (((W.setCell ⟨c, 0, none⟩ (.pointer none)).setCell ⟨t, 2, none⟩ (.pointer none)).setCell ⟨t, 3, none⟩ (.pointer none)).heap.size = w.heap.size := by simp [World.setCell]; exact hsz
    have hx1 : ∀ x q a b, x ≠ t → w.heap[x]? = some (txo q (pt a) (pt b)) → (((W.setCell ⟨c, 0, none⟩ (.pointer none)).setCell ⟨t, 2, none⟩ (.pointer none)).setCell ⟨t, 3, none⟩ (.pointer none)).heap[x]? = some (txo q (pt (if x = n then o else a)) (pt (if x = o then n else b))) := fun x q a b hxt hx => heap_set_other (p := ⟨t, 3, none⟩) (heap_set_other (p := ⟨t, 2, none⟩) (hxs0 x q a b hxt hx) hxt) hxt
    have st : (((W.setCell ⟨c, 0, none⟩ (.pointer none)).setCell ⟨t, 2, none⟩ (.pointer none)).setCell ⟨t, 3, none⟩ (.pointer none)).heap[t]? = some (txo p (.pointer none) (.pointer none)) := s2
    have HG := hide hg1
    have HX := hide hx1
    have HZ := hide hsz1
    have HST := hide st
    have HSC := hide sc
    clear s1 sc1 kc0 kt0 hg0 hxs0 hg1 hx1 hsz1 s2 st sc
    go_wp2_with fail
    clear y1 y2 y3 y4 x2 z0 zz0 q0 kc kt kl ko hg hsz hxs
    generalize ((W.setCell ⟨c, 0, none⟩ (.pointer none)).setCell ⟨t, 2, none⟩ (.pointer none)).setCell ⟨t, 3, none⟩ (.pointer none) = V at *
    have st := HST.out
    have sc := HSC.out
    have hwr : IntKind.i64.wrap (g - (wt p : Int)) = g - (wt p : Int) := by rw [IntKind.wrap_i64]; omega
    have q1 := cell_of sc 1
    have q2 := thawed sc 1
    have q3 : V.drew.cell? ⟨c, 1, none⟩ = some (.int .i64 g) := q1
    have q4 : V.drew.frozen? ⟨c, 1, none⟩ = false := q2
    have q5 : V.drew.drew.cell? ⟨c, 1, none⟩ = some (.int .i64 g) := q1
    have q6 : V.drew.drew.frozen? ⟨c, 1, none⟩ = false := q2
    refine wp_region_held_drew (S := fun _ => True) (by kernel_rfl) (trivial) (fun hHeld => ?_)
    refine takeH (i := 0) (v := ?_) rfl (by kernel_rfl) (by kernel_rfl) (by kernel_rfl) (fun _ _ _ h => h) rfl ?_ hHeld ?_
    rotate_left
    · intro w _; go_simp; first | done | (with_reducible rfl)
    try simp only [Act.put, List.setIfInBounds_toArray, List.set_cons_zero, List.set_cons_succ]
    refine takeH (i := 1) (v := ?_) rfl (by kernel_rfl) (by kernel_rfl) (by kernel_rfl) (fun _ _ _ h => h) rfl ?_ hHeld ?_
    rotate_left
    · intro w _; go_simp; first | done | (with_reducible rfl)
    try simp only [Act.put, List.setIfInBounds_toArray, List.set_cons_zero, List.set_cons_succ]
    refine takeH (i := 2) (v := ?_) rfl (by kernel_rfl) (by kernel_rfl) (by kernel_rfl) (fun _ _ _ h => h) rfl ?_ hHeld ?_
    rotate_left
    · intro w _; go_simp; first | done | (with_reducible rfl)
    try simp only [Act.put, List.setIfInBounds_toArray, List.set_cons_zero, List.set_cons_succ]
    refine takeH (i := 4) (v := ?_) rfl (by kernel_rfl) (by kernel_rfl) (by kernel_rfl) (fun _ _ _ h => h) rfl ?_ hHeld ?_
    rotate_left
    · intro w _; go_simp; first | done | (with_reducible rfl)
    try simp only [Act.put, List.setIfInBounds_toArray, List.set_cons_zero, List.set_cons_succ]
    refine twoH (i := 3) (j := 5) rfl rfl (by kernel_rfl) rfl rfl (fun K hK => ?_) (fun K hK => ?_)
    · go_simp
      refine hK.out _ _ (trivial) (fun hHeld => ?_)
      clear hK K
      try simp only [Act.put, List.setIfInBounds_toArray, List.set_cons_zero, List.set_cons_succ]
      refine onlyH (i := 5) rfl (by kernel_rfl) rfl (fun K hK => ?_)
      go_simp
      refine (weight_any V.drew t p _ _ (show V.drew.heap[t]? = _ from st) h1 h2).mono ?_
      rintro e w1 ⟨rfl, hw1⟩
      rw [hw1]
      clear hw1
      refine hK.out _ _ (trivial) (fun hHeld => ?_)
      clear hK K
      try simp only [Act.put, List.setIfInBounds_toArray, List.set_cons_zero, List.set_cons_succ]
      refine takeH (i := 6) (v := ?_) rfl (by kernel_rfl) (by kernel_rfl) (by kernel_rfl) (fun _ _ _ h => h) rfl ?_ hHeld ?_
      rotate_left
      · intro w _; go_simp; first | done | (with_reducible rfl)
      try simp only [Act.put, List.setIfInBounds_toArray, List.set_cons_zero, List.set_cons_succ]
      refine takeH (i := 7) (v := ?_) rfl (by kernel_rfl) (by kernel_rfl) (by kernel_rfl) (fun _ _ _ h => h) rfl ?_ hHeld ?_
      rotate_left
      · intro w _; go_simp; first | done | (with_reducible rfl)
      try simp only [Act.put, List.setIfInBounds_toArray, List.set_cons_zero, List.set_cons_succ]
      refine takeH (i := 8) (v := ?_) rfl (by kernel_rfl) (by kernel_rfl) (by kernel_rfl) (fun _ _ _ h => h) rfl ?_ hHeld ?_
      rotate_left
      · intro w _; go_simp; first | done | (with_reducible rfl)
      try simp only [Act.put, List.setIfInBounds_toArray, List.set_cons_zero, List.set_cons_succ]
      refine onlyH (i := 9) rfl (by kernel_rfl) rfl (fun K hK => ?_)
      go_simp
      refine hK.out _ _ (trivial) (fun hHeld => ?_)
      clear hK K
      try simp only [Act.put, List.setIfInBounds_toArray, List.set_cons_zero, List.set_cons_succ]
      refine wpAnyH_done (by kernel_rfl) ?_ _
      clear hHeld
      go_wp2
      go_end0
      exact ⟨rfl, by rw [if_pos e0]; exact heap_set (w := V.drew.drew) (c := #[.pointer none, .int .i64 g, bud, tx]) sc 1 _, heap_set_other (p := ⟨c, 1, none⟩) (w := V.drew.drew) st (fun e => hct e.symm), fun x q a b hxt hx => heap_set_other (p := ⟨c, 1, none⟩) (w := V.drew.drew) (HX.out x q a b hxt hx) (fun e => hcx x q a b hx e), (HG.out.drew.drew).setCell (p := ⟨c, 1, none⟩) (Or.inl (Or.inl rfl)) _, by simp [World.setCell]; exact HZ.out⟩
    · go_simp
      refine (weight_any V.drew t p _ _ (show V.drew.heap[t]? = _ from st) h1 h2).mono ?_
      rintro e w1 ⟨rfl, hw1⟩
      rw [hw1]
      clear hw1
      refine hK.out _ _ (trivial) (fun hHeld => ?_)
      clear hK K
      try simp only [Act.put, List.setIfInBounds_toArray, List.set_cons_zero, List.set_cons_succ]
      refine onlyH (i := 3) rfl (by kernel_rfl) rfl (fun K hK => ?_)
      go_simp
      refine hK.out _ _ (trivial) (fun hHeld => ?_)
      clear hK K
      try simp only [Act.put, List.setIfInBounds_toArray, List.set_cons_zero, List.set_cons_succ]
      refine takeH (i := 6) (v := ?_) rfl (by kernel_rfl) (by kernel_rfl) (by kernel_rfl) (fun _ _ _ h => h) rfl ?_ hHeld ?_
      rotate_left
      · intro w _; go_simp; first | done | (with_reducible rfl)
      try simp only [Act.put, List.setIfInBounds_toArray, List.set_cons_zero, List.set_cons_succ]
      refine takeH (i := 7) (v := ?_) rfl (by kernel_rfl) (by kernel_rfl) (by kernel_rfl) (fun _ _ _ h => h) rfl ?_ hHeld ?_
      rotate_left
      · intro w _; go_simp; first | done | (with_reducible rfl)
      try simp only [Act.put, List.setIfInBounds_toArray, List.set_cons_zero, List.set_cons_succ]
      refine takeH (i := 8) (v := ?_) rfl (by kernel_rfl) (by kernel_rfl) (by kernel_rfl) (fun _ _ _ h => h) rfl ?_ hHeld ?_
      rotate_left
      · intro w _; go_simp; first | done | (with_reducible rfl)
      try simp only [Act.put, List.setIfInBounds_toArray, List.set_cons_zero, List.set_cons_succ]
      refine onlyH (i := 9) rfl (by kernel_rfl) rfl (fun K hK => ?_)
      go_simp
      refine hK.out _ _ (trivial) (fun hHeld => ?_)
      clear hK K
      try simp only [Act.put, List.setIfInBounds_toArray, List.set_cons_zero, List.set_cons_succ]
      refine wpAnyH_done (by kernel_rfl) ?_ _
      clear hHeld
      go_wp2
      go_end0
      exact ⟨rfl, by rw [if_pos e0]; exact heap_set (w := V.drew.drew) (c := #[.pointer none, .int .i64 g, bud, tx]) sc 1 _, heap_set_other (p := ⟨c, 1, none⟩) (w := V.drew.drew) st (fun e => hct e.symm), fun x q a b hxt hx => heap_set_other (p := ⟨c, 1, none⟩) (w := V.drew.drew) (HX.out x q a b hxt hx) (fun e => hcx x q a b hx e), (HG.out.drew.drew).setCell (p := ⟨c, 1, none⟩) (Or.inl (Or.inl rfl)) _, by simp [World.setCell]; exact HZ.out⟩
  · have q0 := eql_other W e0 ko kt
    unfold pt at q0
    by_cases e1 : last = t
    · have q7 := eql_same W t
      unfold pt at q7 z0
      rw [e1] at z0
      have kc0 : (W.setCell ⟨c, 0, none⟩ (.pointer (some ⟨o, 0, none⟩))).heap[c]? = some (.cells #[.pointer (some ⟨o, 0, none⟩), .int .i64 g, bud, tx] 51) := heap_set kc 0 (.pointer (some ⟨o, 0, none⟩))
      have kt0 : (W.setCell ⟨c, 0, none⟩ (.pointer (some ⟨o, 0, none⟩))).heap[t]? = some (txo p (pt o) (pt n)) := heap_set_other (p := ⟨c, 0, none⟩) kt (fun e => hct e.symm)
      have hg0 := hg.setCell (p := ⟨c, 0, none⟩) (Or.inl (Or.inl rfl)) (.pointer (some ⟨o, 0, none⟩))
      have hxs0 : ∀ x q a b, x ≠ t → w.heap[x]? = some (txo q (pt a) (pt b)) → (W.setCell ⟨c, 0, none⟩ (.pointer (some ⟨o, 0, none⟩))).heap[x]? = some (txo q (pt (if x = n then o else a)) (pt (if x = o then n else b))) := fun x q a b hxt hx => heap_set_other (p := ⟨c, 0, none⟩) (hxs.out x q a b hxt hx) (fun e => hcx x q a b hx e)
      have y1 := thawed kt0 2
      have y3 := cell_of kt0 2
      have s1 := heap_set kt0 2 (.pointer none)
      have y2 := thawed s1 3
      have y4 := cell_of s1 3
      simp [pt] at y3 y4
      have s2 := heap_set s1 3 (.pointer none)
      have sc1 := heap_set_other (p := ⟨t, 2, none⟩) (u := .pointer none) kc0 hct
      have sc := heap_set_other (p := ⟨t, 3, none⟩) (u := .pointer none) sc1 hct
      have hg1 := (hg0.setCell (p := ⟨t, 2, none⟩) (Or.inl (Or.inr (Or.inl rfl))) (.pointer none)).setCell (p := ⟨t, 3, none⟩) (Or.inl (Or.inr (Or.inl rfl))) (.pointer none)
      have hsz1 : (((W.setCell ⟨c, 0, none⟩ (.pointer (some ⟨o, 0, none⟩))).setCell ⟨t, 2, none⟩ (.pointer none)).setCell ⟨t, 3, none⟩ (.pointer none)).heap.size = w.heap.size := by simp [World.setCell]; exact hsz
      have hx1 : ∀ x q a b, x ≠ t → w.heap[x]? = some (txo q (pt a) (pt b)) → (((W.setCell ⟨c, 0, none⟩ (.pointer (some ⟨o, 0, none⟩))).setCell ⟨t, 2, none⟩ (.pointer none)).setCell ⟨t, 3, none⟩ (.pointer none)).heap[x]? = some (txo q (pt (if x = n then o else a)) (pt (if x = o then n else b))) := fun x q a b hxt hx => heap_set_other (p := ⟨t, 3, none⟩) (heap_set_other (p := ⟨t, 2, none⟩) (hxs0 x q a b hxt hx) hxt) hxt
      have st : (((W.setCell ⟨c, 0, none⟩ (.pointer (some ⟨o, 0, none⟩))).setCell ⟨t, 2, none⟩ (.pointer none)).setCell ⟨t, 3, none⟩ (.pointer none)).heap[t]? = some (txo p (.pointer none) (.pointer none)) := s2
      have HG := hide hg1
      have HX := hide hx1
      have HZ := hide hsz1
      have HST := hide st
      have HSC := hide sc
      clear s1 sc1 kc0 kt0 hg0 hxs0 hg1 hx1 hsz1 s2 st sc
      go_wp2_with fail
      clear y1 y2 y3 y4 x2 z0 zz0 q0 kc kt kl ko hg hsz hxs
      generalize ((W.setCell ⟨c, 0, none⟩ (.pointer (some ⟨o, 0, none⟩))).setCell ⟨t, 2, none⟩ (.pointer none)).setCell ⟨t, 3, none⟩ (.pointer none) = V at *
      have st := HST.out
      have sc := HSC.out
      have hwr : IntKind.i64.wrap (g - (wt p : Int)) = g - (wt p : Int) := by rw [IntKind.wrap_i64]; omega
      have q1 := cell_of sc 1
      have q2 := thawed sc 1
      have q3 : V.drew.cell? ⟨c, 1, none⟩ = some (.int .i64 g) := q1
      have q4 : V.drew.frozen? ⟨c, 1, none⟩ = false := q2
      have q5 : V.drew.drew.cell? ⟨c, 1, none⟩ = some (.int .i64 g) := q1
      have q6 : V.drew.drew.frozen? ⟨c, 1, none⟩ = false := q2
      refine wp_region_held_drew (S := fun _ => True) (by kernel_rfl) (trivial) (fun hHeld => ?_)
      refine takeH (i := 0) (v := ?_) rfl (by kernel_rfl) (by kernel_rfl) (by kernel_rfl) (fun _ _ _ h => h) rfl ?_ hHeld ?_
      rotate_left
      · intro w _; go_simp; first | done | (with_reducible rfl)
      try simp only [Act.put, List.setIfInBounds_toArray, List.set_cons_zero, List.set_cons_succ]
      refine takeH (i := 1) (v := ?_) rfl (by kernel_rfl) (by kernel_rfl) (by kernel_rfl) (fun _ _ _ h => h) rfl ?_ hHeld ?_
      rotate_left
      · intro w _; go_simp; first | done | (with_reducible rfl)
      try simp only [Act.put, List.setIfInBounds_toArray, List.set_cons_zero, List.set_cons_succ]
      refine takeH (i := 2) (v := ?_) rfl (by kernel_rfl) (by kernel_rfl) (by kernel_rfl) (fun _ _ _ h => h) rfl ?_ hHeld ?_
      rotate_left
      · intro w _; go_simp; first | done | (with_reducible rfl)
      try simp only [Act.put, List.setIfInBounds_toArray, List.set_cons_zero, List.set_cons_succ]
      refine takeH (i := 4) (v := ?_) rfl (by kernel_rfl) (by kernel_rfl) (by kernel_rfl) (fun _ _ _ h => h) rfl ?_ hHeld ?_
      rotate_left
      · intro w _; go_simp; first | done | (with_reducible rfl)
      try simp only [Act.put, List.setIfInBounds_toArray, List.set_cons_zero, List.set_cons_succ]
      refine twoH (i := 3) (j := 5) rfl rfl (by kernel_rfl) rfl rfl (fun K hK => ?_) (fun K hK => ?_)
      · go_simp
        refine hK.out _ _ (trivial) (fun hHeld => ?_)
        clear hK K
        try simp only [Act.put, List.setIfInBounds_toArray, List.set_cons_zero, List.set_cons_succ]
        refine onlyH (i := 5) rfl (by kernel_rfl) rfl (fun K hK => ?_)
        go_simp
        refine (weight_any V.drew t p _ _ (show V.drew.heap[t]? = _ from st) h1 h2).mono ?_
        rintro e w1 ⟨rfl, hw1⟩
        rw [hw1]
        clear hw1
        refine hK.out _ _ (trivial) (fun hHeld => ?_)
        clear hK K
        try simp only [Act.put, List.setIfInBounds_toArray, List.set_cons_zero, List.set_cons_succ]
        refine takeH (i := 6) (v := ?_) rfl (by kernel_rfl) (by kernel_rfl) (by kernel_rfl) (fun _ _ _ h => h) rfl ?_ hHeld ?_
        rotate_left
        · intro w _; go_simp; first | done | (with_reducible rfl)
        try simp only [Act.put, List.setIfInBounds_toArray, List.set_cons_zero, List.set_cons_succ]
        refine takeH (i := 7) (v := ?_) rfl (by kernel_rfl) (by kernel_rfl) (by kernel_rfl) (fun _ _ _ h => h) rfl ?_ hHeld ?_
        rotate_left
        · intro w _; go_simp; first | done | (with_reducible rfl)
        try simp only [Act.put, List.setIfInBounds_toArray, List.set_cons_zero, List.set_cons_succ]
        refine takeH (i := 8) (v := ?_) rfl (by kernel_rfl) (by kernel_rfl) (by kernel_rfl) (fun _ _ _ h => h) rfl ?_ hHeld ?_
        rotate_left
        · intro w _; go_simp; first | done | (with_reducible rfl)
        try simp only [Act.put, List.setIfInBounds_toArray, List.set_cons_zero, List.set_cons_succ]
        refine onlyH (i := 9) rfl (by kernel_rfl) rfl (fun K hK => ?_)
        go_simp
        refine hK.out _ _ (trivial) (fun hHeld => ?_)
        clear hK K
        try simp only [Act.put, List.setIfInBounds_toArray, List.set_cons_zero, List.set_cons_succ]
        refine wpAnyH_done (by kernel_rfl) ?_ _
        clear hHeld
        go_wp2
        go_end0
        exact ⟨rfl, by rw [if_neg e0, if_pos e1]; exact heap_set (w := V.drew.drew) (c := #[.pointer (some ⟨o, 0, none⟩), .int .i64 g, bud, tx]) sc 1 _, heap_set_other (p := ⟨c, 1, none⟩) (w := V.drew.drew) st (fun e => hct e.symm), fun x q a b hxt hx => heap_set_other (p := ⟨c, 1, none⟩) (w := V.drew.drew) (HX.out x q a b hxt hx) (fun e => hcx x q a b hx e), (HG.out.drew.drew).setCell (p := ⟨c, 1, none⟩) (Or.inl (Or.inl rfl)) _, by simp [World.setCell]; exact HZ.out⟩
      · go_simp
        refine (weight_any V.drew t p _ _ (show V.drew.heap[t]? = _ from st) h1 h2).mono ?_
        rintro e w1 ⟨rfl, hw1⟩
        rw [hw1]
        clear hw1
        refine hK.out _ _ (trivial) (fun hHeld => ?_)
        clear hK K
        try simp only [Act.put, List.setIfInBounds_toArray, List.set_cons_zero, List.set_cons_succ]
        refine onlyH (i := 3) rfl (by kernel_rfl) rfl (fun K hK => ?_)
        go_simp
        refine hK.out _ _ (trivial) (fun hHeld => ?_)
        clear hK K
        try simp only [Act.put, List.setIfInBounds_toArray, List.set_cons_zero, List.set_cons_succ]
        refine takeH (i := 6) (v := ?_) rfl (by kernel_rfl) (by kernel_rfl) (by kernel_rfl) (fun _ _ _ h => h) rfl ?_ hHeld ?_
        rotate_left
        · intro w _; go_simp; first | done | (with_reducible rfl)
        try simp only [Act.put, List.setIfInBounds_toArray, List.set_cons_zero, List.set_cons_succ]
        refine takeH (i := 7) (v := ?_) rfl (by kernel_rfl) (by kernel_rfl) (by kernel_rfl) (fun _ _ _ h => h) rfl ?_ hHeld ?_
        rotate_left
        · intro w _; go_simp; first | done | (with_reducible rfl)
        try simp only [Act.put, List.setIfInBounds_toArray, List.set_cons_zero, List.set_cons_succ]
        refine takeH (i := 8) (v := ?_) rfl (by kernel_rfl) (by kernel_rfl) (by kernel_rfl) (fun _ _ _ h => h) rfl ?_ hHeld ?_
        rotate_left
        · intro w _; go_simp; first | done | (with_reducible rfl)
        try simp only [Act.put, List.setIfInBounds_toArray, List.set_cons_zero, List.set_cons_succ]
        refine onlyH (i := 9) rfl (by kernel_rfl) rfl (fun K hK => ?_)
        go_simp
        refine hK.out _ _ (trivial) (fun hHeld => ?_)
        clear hK K
        try simp only [Act.put, List.setIfInBounds_toArray, List.set_cons_zero, List.set_cons_succ]
        refine wpAnyH_done (by kernel_rfl) ?_ _
        clear hHeld
        go_wp2
        go_end0
        exact ⟨rfl, by rw [if_neg e0, if_pos e1]; exact heap_set (w := V.drew.drew) (c := #[.pointer (some ⟨o, 0, none⟩), .int .i64 g, bud, tx]) sc 1 _, heap_set_other (p := ⟨c, 1, none⟩) (w := V.drew.drew) st (fun e => hct e.symm), fun x q a b hxt hx => heap_set_other (p := ⟨c, 1, none⟩) (w := V.drew.drew) (HX.out x q a b hxt hx) (fun e => hcx x q a b hx e), (HG.out.drew.drew).setCell (p := ⟨c, 1, none⟩) (Or.inl (Or.inl rfl)) _, by simp [World.setCell]; exact HZ.out⟩
    · have q7 := eql_other W (fun e => e1 e.symm) kt kl
      unfold pt at q7 z0
      have kc0 := kc
      have kt0 := kt
      have hg0 := hg
      have hxs0 := hxs.out
      have y1 := thawed kt0 2
      have y3 := cell_of kt0 2
      have s1 := heap_set kt0 2 (.pointer none)
      have y2 := thawed s1 3
      have y4 := cell_of s1 3
      simp [pt] at y3 y4
      have s2 := heap_set s1 3 (.pointer none)
      have sc1 := heap_set_other (p := ⟨t, 2, none⟩) (u := .pointer none) kc0 hct
      have sc := heap_set_other (p := ⟨t, 3, none⟩) (u := .pointer none) sc1 hct
      have hg1 := (hg0.setCell (p := ⟨t, 2, none⟩) (Or.inl (Or.inr (Or.inl rfl))) (.pointer none)).setCell (p := ⟨t, 3, none⟩) (Or.inl (Or.inr (Or.inl rfl))) (.pointer none)
      have hsz1 : ((W.setCell ⟨t, 2, none⟩ (.pointer none)).setCell ⟨t, 3, none⟩ (.pointer none)).heap.size = w.heap.size := by simp [World.setCell]; exact hsz
      have hx1 : ∀ x q a b, x ≠ t → w.heap[x]? = some (txo q (pt a) (pt b)) → ((W.setCell ⟨t, 2, none⟩ (.pointer none)).setCell ⟨t, 3, none⟩ (.pointer none)).heap[x]? = some (txo q (pt (if x = n then o else a)) (pt (if x = o then n else b))) := fun x q a b hxt hx => heap_set_other (p := ⟨t, 3, none⟩) (heap_set_other (p := ⟨t, 2, none⟩) (hxs0 x q a b hxt hx) hxt) hxt
      have st : ((W.setCell ⟨t, 2, none⟩ (.pointer none)).setCell ⟨t, 3, none⟩ (.pointer none)).heap[t]? = some (txo p (.pointer none) (.pointer none)) := s2
      have HG := hide hg1
      have HX := hide hx1
      have HZ := hide hsz1
      have HST := hide st
      have HSC := hide sc
      clear s1 sc1 kc0 kt0 hg0 hxs0 hg1 hx1 hsz1 s2 st sc
      go_wp2_with fail
      clear y1 y2 y3 y4 x2 z0 zz0 q0 kc kt kl ko hg hsz hxs
      generalize (W.setCell ⟨t, 2, none⟩ (.pointer none)).setCell ⟨t, 3, none⟩ (.pointer none) = V at *
      have st := HST.out
      have sc := HSC.out
      have hwr : IntKind.i64.wrap (g - (wt p : Int)) = g - (wt p : Int) := by rw [IntKind.wrap_i64]; omega
      have q1 := cell_of sc 1
      have q2 := thawed sc 1
      have q3 : V.drew.cell? ⟨c, 1, none⟩ = some (.int .i64 g) := q1
      have q4 : V.drew.frozen? ⟨c, 1, none⟩ = false := q2
      have q5 : V.drew.drew.cell? ⟨c, 1, none⟩ = some (.int .i64 g) := q1
      have q6 : V.drew.drew.frozen? ⟨c, 1, none⟩ = false := q2
      refine wp_region_held_drew (S := fun _ => True) (by kernel_rfl) (trivial) (fun hHeld => ?_)
      refine takeH (i := 0) (v := ?_) rfl (by kernel_rfl) (by kernel_rfl) (by kernel_rfl) (fun _ _ _ h => h) rfl ?_ hHeld ?_
      rotate_left
      · intro w _; go_simp; first | done | (with_reducible rfl)
      try simp only [Act.put, List.setIfInBounds_toArray, List.set_cons_zero, List.set_cons_succ]
      refine takeH (i := 1) (v := ?_) rfl (by kernel_rfl) (by kernel_rfl) (by kernel_rfl) (fun _ _ _ h => h) rfl ?_ hHeld ?_
      rotate_left
      · intro w _; go_simp; first | done | (with_reducible rfl)
      try simp only [Act.put, List.setIfInBounds_toArray, List.set_cons_zero, List.set_cons_succ]
      refine takeH (i := 2) (v := ?_) rfl (by kernel_rfl) (by kernel_rfl) (by kernel_rfl) (fun _ _ _ h => h) rfl ?_ hHeld ?_
      rotate_left
      · intro w _; go_simp; first | done | (with_reducible rfl)
      try simp only [Act.put, List.setIfInBounds_toArray, List.set_cons_zero, List.set_cons_succ]
      refine takeH (i := 4) (v := ?_) rfl (by kernel_rfl) (by kernel_rfl) (by kernel_rfl) (fun _ _ _ h => h) rfl ?_ hHeld ?_
      rotate_left
      · intro w _; go_simp; first | done | (with_reducible rfl)
      try simp only [Act.put, List.setIfInBounds_toArray, List.set_cons_zero, List.set_cons_succ]
      refine twoH (i := 3) (j := 5) rfl rfl (by kernel_rfl) rfl rfl (fun K hK => ?_) (fun K hK => ?_)
      · go_simp
        refine hK.out _ _ (trivial) (fun hHeld => ?_)
        clear hK K
        try simp only [Act.put, List.setIfInBounds_toArray, List.set_cons_zero, List.set_cons_succ]
        refine onlyH (i := 5) rfl (by kernel_rfl) rfl (fun K hK => ?_)
        go_simp
        refine (weight_any V.drew t p _ _ (show V.drew.heap[t]? = _ from st) h1 h2).mono ?_
        rintro e w1 ⟨rfl, hw1⟩
        rw [hw1]
        clear hw1
        refine hK.out _ _ (trivial) (fun hHeld => ?_)
        clear hK K
        try simp only [Act.put, List.setIfInBounds_toArray, List.set_cons_zero, List.set_cons_succ]
        refine takeH (i := 6) (v := ?_) rfl (by kernel_rfl) (by kernel_rfl) (by kernel_rfl) (fun _ _ _ h => h) rfl ?_ hHeld ?_
        rotate_left
        · intro w _; go_simp; first | done | (with_reducible rfl)
        try simp only [Act.put, List.setIfInBounds_toArray, List.set_cons_zero, List.set_cons_succ]
        refine takeH (i := 7) (v := ?_) rfl (by kernel_rfl) (by kernel_rfl) (by kernel_rfl) (fun _ _ _ h => h) rfl ?_ hHeld ?_
        rotate_left
        · intro w _; go_simp; first | done | (with_reducible rfl)
        try simp only [Act.put, List.setIfInBounds_toArray, List.set_cons_zero, List.set_cons_succ]
        refine takeH (i := 8) (v := ?_) rfl (by kernel_rfl) (by kernel_rfl) (by kernel_rfl) (fun _ _ _ h => h) rfl ?_ hHeld ?_
        rotate_left
        · intro w _; go_simp; first | done | (with_reducible rfl)
        try simp only [Act.put, List.setIfInBounds_toArray, List.set_cons_zero, List.set_cons_succ]
        refine onlyH (i := 9) rfl (by kernel_rfl) rfl (fun K hK => ?_)
        go_simp
        refine hK.out _ _ (trivial) (fun hHeld => ?_)
        clear hK K
        try simp only [Act.put, List.setIfInBounds_toArray, List.set_cons_zero, List.set_cons_succ]
        refine wpAnyH_done (by kernel_rfl) ?_ _
        clear hHeld
        go_wp2
        go_end0
        exact ⟨rfl, by rw [if_neg e0, if_neg e1]; exact heap_set (w := V.drew.drew) (c := #[.pointer (some ⟨last, 0, none⟩), .int .i64 g, bud, tx]) sc 1 _, heap_set_other (p := ⟨c, 1, none⟩) (w := V.drew.drew) st (fun e => hct e.symm), fun x q a b hxt hx => heap_set_other (p := ⟨c, 1, none⟩) (w := V.drew.drew) (HX.out x q a b hxt hx) (fun e => hcx x q a b hx e), (HG.out.drew.drew).setCell (p := ⟨c, 1, none⟩) (Or.inl (Or.inl rfl)) _, by simp [World.setCell]; exact HZ.out⟩
      · go_simp
        refine (weight_any V.drew t p _ _ (show V.drew.heap[t]? = _ from st) h1 h2).mono ?_
        rintro e w1 ⟨rfl, hw1⟩
        rw [hw1]
        clear hw1
        refine hK.out _ _ (trivial) (fun hHeld => ?_)
        clear hK K
        try simp only [Act.put, List.setIfInBounds_toArray, List.set_cons_zero, List.set_cons_succ]
        refine onlyH (i := 3) rfl (by kernel_rfl) rfl (fun K hK => ?_)
        go_simp
        refine hK.out _ _ (trivial) (fun hHeld => ?_)
        clear hK K
        try simp only [Act.put, List.setIfInBounds_toArray, List.set_cons_zero, List.set_cons_succ]
        refine takeH (i := 6) (v := ?_) rfl (by kernel_rfl) (by kernel_rfl) (by kernel_rfl) (fun _ _ _ h => h) rfl ?_ hHeld ?_
        rotate_left
        · intro w _; go_simp; first | done | (with_reducible rfl)
        try simp only [Act.put, List.setIfInBounds_toArray, List.set_cons_zero, List.set_cons_succ]
        refine takeH (i := 7) (v := ?_) rfl (by kernel_rfl) (by kernel_rfl) (by kernel_rfl) (fun _ _ _ h => h) rfl ?_ hHeld ?_
        rotate_left
        · intro w _; go_simp; first | done | (with_reducible rfl)
        try simp only [Act.put, List.setIfInBounds_toArray, List.set_cons_zero, List.set_cons_succ]
        refine takeH (i := 8) (v := ?_) rfl (by kernel_rfl) (by kernel_rfl) (by kernel_rfl) (fun _ _ _ h => h) rfl ?_ hHeld ?_
        rotate_left
        · intro w _; go_simp; first | done | (with_reducible rfl)
        try simp only [Act.put, List.setIfInBounds_toArray, List.set_cons_zero, List.set_cons_succ]
        refine onlyH (i := 9) rfl (by kernel_rfl) rfl (fun K hK => ?_)
        go_simp
        refine hK.out _ _ (trivial) (fun hHeld => ?_)
        clear hK K
        try simp only [Act.put, List.setIfInBounds_toArray, List.set_cons_zero, List.set_cons_succ]
        refine wpAnyH_done (by kernel_rfl) ?_ _
        clear hHeld
        go_wp2
        go_end0
        exact ⟨rfl, by rw [if_neg e0, if_neg e1]; exact heap_set (w := V.drew.drew) (c := #[.pointer (some ⟨last, 0, none⟩), .int .i64 g, bud, tx]) sc 1 _, heap_set_other (p := ⟨c, 1, none⟩) (w := V.drew.drew) st (fun e => hct e.symm), fun x q a b hxt hx => heap_set_other (p := ⟨c, 1, none⟩) (w := V.drew.drew) (HX.out x q a b hxt hx) (fun e => hcx x q a b hx e), (HG.out.drew.drew).setCell (p := ⟨c, 1, none⟩) (Or.inl (Or.inl rfl)) _, by simp [World.setCell]; exact HZ.out⟩

/-- Behind hang, where there are some. -/
def Hung (w : World) (c t l z : Nat) (p : Tx) (g : Int) (bud tx : Value) (e : Ending) (w' : World) : Prop :=
  e = .returned (.tuple #[]) ∧ w'.heap[c]? = some (.cells #[pt t, .int .i64 (g + (wt p : Int)), bud, tx] 51) ∧ w'.heap[t]? = some (txo p (pt l) (pt z)) ∧
  (∀ x q a b, x ≠ t → w.heap[x]? = some (txo q (pt a) (pt b)) → w'.heap[x]? = some (txo q (pt (if x = z then t else a)) (pt (if x = l then t else b)))) ∧
  Chg (fun k => k = c ∨ k = t ∨ k = l ∨ k = z) w w' ∧ w'.heap.size = w.heap.size
/-- Behind hang, where there was none. -/
def Alone (w : World) (c t : Nat) (p : Tx) (g : Int) (bud tx : Value) (e : Ending) (w' : World) : Prop :=
  e = .returned (.tuple #[]) ∧ w'.heap[c]? = some (.cells #[pt t, .int .i64 (g + (wt p : Int)), bud, tx] 51) ∧ w'.heap[t]? = some (txo p (pt t) (pt t)) ∧
  Chg (fun k => k = c ∨ k = t) w w' ∧ w'.heap.size = w.heap.size

set_option maxRecDepth 20000 in
set_option maxHeartbeats 1000000 in
/-- A text is hung into a ring that has none. -/
theorem hang_none (w : World) (c t : Nat) (p : Tx) (g : Int) (o n bud tx : Value) (hc : w.heap[c]? = some (.cells #[.pointer none, .int .i64 g, bud, tx] 51))
    (ht : w.heap[t]? = some (txo p o n)) (h1 : p.1.length ≤ 140737488351232) (h2 : p.2.length ≤ 140737488351232) (hg0 : 0 ≤ g) (hg1 : g ≤ 4611686018427387904) :
    Calls Try.prog 34 #[pt c, pt t] w (Alone w c t p g bud tx) := by
  have hct : c ≠ t := fun e => txo_cache ht hc e.symm
  have y1 := thawed ht 2
  have y2 := cell_of ht 2
  have s1 := heap_set ht 2 (pt t)
  have y3 := thawed s1 3
  have y4 := cell_of s1 3
  have s2 := heap_set s1 3 (pt t)
  have sc := heap_set_other (p := ⟨t, 3, none⟩) (u := pt t) (heap_set_other (p := ⟨t, 2, none⟩) (u := pt t) hc hct) hct
  have hg2 := ((Chg.refl (fun k => k = c ∨ k = t) w).setCell (p := ⟨t, 2, none⟩) (Or.inl (Or.inr rfl)) (pt t)).setCell (p := ⟨t, 3, none⟩) (Or.inl (Or.inr rfl)) (pt t)
  have hsz : ((w.setCell ⟨t, 2, none⟩ (pt t)).setCell ⟨t, 3, none⟩ (pt t)).heap.size = w.heap.size := by simp [World.setCell]
  have st : ((w.setCell ⟨t, 2, none⟩ (pt t)).setCell ⟨t, 3, none⟩ (pt t)).heap[t]? = some (txo p (pt t) (pt t)) := s2
  have z0 := cell_of sc 0
  have z1 := thawed sc 0
  have sc2 := heap_set sc 0 (pt t)
  have st2 := heap_set_other (p := ⟨c, 0, none⟩) (u := pt t) st (fun e => hct e.symm)
  have hg3 := hg2.setCell (p := ⟨c, 0, none⟩) (Or.inl (Or.inl rfl)) (pt t)
  have hsz3 : (((w.setCell ⟨t, 2, none⟩ (pt t)).setCell ⟨t, 3, none⟩ (pt t)).setCell ⟨c, 0, none⟩ (pt t)).heap.size = w.heap.size := by simp [World.setCell]
  have HG := hide hg3
  have HZ := hide hsz3
  have HSC := hide sc2
  have HST := hide st2
  clear hg2 hsz st sc hg3 hsz3 sc2 st2 s2
  unfold pt at *
  simp at y2 y4 z0
  go_enter Try.func34, Try.ntmps34
  go_wp2_with fail
  clear y1 y2 y3 y4 z0 z1 s1
  generalize (((w.setCell ⟨t, 2, none⟩ (.pointer (some ⟨t, 0, none⟩))).setCell ⟨t, 3, none⟩ (.pointer (some ⟨t, 0, none⟩))).setCell ⟨c, 0, none⟩ (.pointer (some ⟨t, 0, none⟩))) = V at *
  have st := HST.out
  have sc := HSC.out
  have hwr : IntKind.i64.wrap (g + (wt p : Int)) = g + (wt p : Int) := by unfold wt; rw [IntKind.wrap_i64]; omega
  have q1 := cell_of sc 1
  have q2 := thawed sc 1
  have q3 : V.drew.cell? ⟨c, 1, none⟩ = some (.int .i64 g) := q1
  have q4 : V.drew.frozen? ⟨c, 1, none⟩ = false := q2
  have q5 : V.drew.drew.cell? ⟨c, 1, none⟩ = some (.int .i64 g) := q1
  have q6 : V.drew.drew.frozen? ⟨c, 1, none⟩ = false := q2
  refine wp_region_held_drew (S := fun _ => True) (by kernel_rfl) (trivial) (fun hHeld => ?_)
  refine takeH (i := 0) (v := ?_) rfl (by kernel_rfl) (by kernel_rfl) (by kernel_rfl) (fun _ _ _ h => h) rfl ?_ hHeld ?_
  rotate_left
  · intro w _; go_simp; first | done | (with_reducible rfl)
  try simp only [Act.put, List.setIfInBounds_toArray, List.set_cons_zero, List.set_cons_succ]
  refine takeH (i := 1) (v := ?_) rfl (by kernel_rfl) (by kernel_rfl) (by kernel_rfl) (fun _ _ _ h => h) rfl ?_ hHeld ?_
  rotate_left
  · intro w _; go_simp; first | done | (with_reducible rfl)
  try simp only [Act.put, List.setIfInBounds_toArray, List.set_cons_zero, List.set_cons_succ]
  refine takeH (i := 2) (v := ?_) rfl (by kernel_rfl) (by kernel_rfl) (by kernel_rfl) (fun _ _ _ h => h) rfl ?_ hHeld ?_
  rotate_left
  · intro w _; go_simp; first | done | (with_reducible rfl)
  try simp only [Act.put, List.setIfInBounds_toArray, List.set_cons_zero, List.set_cons_succ]
  refine takeH (i := 4) (v := ?_) rfl (by kernel_rfl) (by kernel_rfl) (by kernel_rfl) (fun _ _ _ h => h) rfl ?_ hHeld ?_
  rotate_left
  · intro w _; go_simp; first | done | (with_reducible rfl)
  try simp only [Act.put, List.setIfInBounds_toArray, List.set_cons_zero, List.set_cons_succ]
  refine twoH (i := 3) (j := 5) rfl rfl (by kernel_rfl) rfl rfl (fun K hK => ?_) (fun K hK => ?_)
  · go_simp
    refine hK.out _ _ (trivial) (fun hHeld => ?_)
    clear hK K
    try simp only [Act.put, List.setIfInBounds_toArray, List.set_cons_zero, List.set_cons_succ]
    refine onlyH (i := 5) rfl (by kernel_rfl) rfl (fun K hK => ?_)
    go_simp
    refine (weight_any V.drew t p _ _ (show V.drew.heap[t]? = _ from st) h1 h2).mono ?_
    rintro e w1 ⟨rfl, hw1⟩
    rw [hw1]
    clear hw1
    refine hK.out _ _ (trivial) (fun hHeld => ?_)
    clear hK K
    try simp only [Act.put, List.setIfInBounds_toArray, List.set_cons_zero, List.set_cons_succ]
    refine takeH (i := 6) (v := ?_) rfl (by kernel_rfl) (by kernel_rfl) (by kernel_rfl) (fun _ _ _ h => h) rfl ?_ hHeld ?_
    rotate_left
    · intro w _; go_simp; first | done | (with_reducible rfl)
    try simp only [Act.put, List.setIfInBounds_toArray, List.set_cons_zero, List.set_cons_succ]
    refine takeH (i := 7) (v := ?_) rfl (by kernel_rfl) (by kernel_rfl) (by kernel_rfl) (fun _ _ _ h => h) rfl ?_ hHeld ?_
    rotate_left
    · intro w _; go_simp; first | done | (with_reducible rfl)
    try simp only [Act.put, List.setIfInBounds_toArray, List.set_cons_zero, List.set_cons_succ]
    refine takeH (i := 8) (v := ?_) rfl (by kernel_rfl) (by kernel_rfl) (by kernel_rfl) (fun _ _ _ h => h) rfl ?_ hHeld ?_
    rotate_left
    · intro w _; go_simp; first | done | (with_reducible rfl)
    try simp only [Act.put, List.setIfInBounds_toArray, List.set_cons_zero, List.set_cons_succ]
    refine onlyH (i := 9) rfl (by kernel_rfl) rfl (fun K hK => ?_)
    go_simp
    refine hK.out _ _ (trivial) (fun hHeld => ?_)
    clear hK K
    try simp only [Act.put, List.setIfInBounds_toArray, List.set_cons_zero, List.set_cons_succ]
    refine wpAnyH_done (by kernel_rfl) ?_ _
    clear hHeld
    go_wp2
    go_end0
    exact ⟨rfl, heap_set (w := V.drew.drew) sc 1 _, heap_set_other (p := ⟨c, 1, none⟩) (w := V.drew.drew) st (fun e => hct e.symm), (HG.out.drew.drew).setCell (p := ⟨c, 1, none⟩) (Or.inl (Or.inl rfl)) _, by simp [World.setCell]; exact HZ.out⟩
  · go_simp
    refine (weight_any V.drew t p _ _ (show V.drew.heap[t]? = _ from st) h1 h2).mono ?_
    rintro e w1 ⟨rfl, hw1⟩
    rw [hw1]
    clear hw1
    refine hK.out _ _ (trivial) (fun hHeld => ?_)
    clear hK K
    try simp only [Act.put, List.setIfInBounds_toArray, List.set_cons_zero, List.set_cons_succ]
    refine onlyH (i := 3) rfl (by kernel_rfl) rfl (fun K hK => ?_)
    go_simp
    refine hK.out _ _ (trivial) (fun hHeld => ?_)
    clear hK K
    try simp only [Act.put, List.setIfInBounds_toArray, List.set_cons_zero, List.set_cons_succ]
    refine takeH (i := 6) (v := ?_) rfl (by kernel_rfl) (by kernel_rfl) (by kernel_rfl) (fun _ _ _ h => h) rfl ?_ hHeld ?_
    rotate_left
    · intro w _; go_simp; first | done | (with_reducible rfl)
    try simp only [Act.put, List.setIfInBounds_toArray, List.set_cons_zero, List.set_cons_succ]
    refine takeH (i := 7) (v := ?_) rfl (by kernel_rfl) (by kernel_rfl) (by kernel_rfl) (fun _ _ _ h => h) rfl ?_ hHeld ?_
    rotate_left
    · intro w _; go_simp; first | done | (with_reducible rfl)
    try simp only [Act.put, List.setIfInBounds_toArray, List.set_cons_zero, List.set_cons_succ]
    refine takeH (i := 8) (v := ?_) rfl (by kernel_rfl) (by kernel_rfl) (by kernel_rfl) (fun _ _ _ h => h) rfl ?_ hHeld ?_
    rotate_left
    · intro w _; go_simp; first | done | (with_reducible rfl)
    try simp only [Act.put, List.setIfInBounds_toArray, List.set_cons_zero, List.set_cons_succ]
    refine onlyH (i := 9) rfl (by kernel_rfl) rfl (fun K hK => ?_)
    go_simp
    refine hK.out _ _ (trivial) (fun hHeld => ?_)
    clear hK K
    try simp only [Act.put, List.setIfInBounds_toArray, List.set_cons_zero, List.set_cons_succ]
    refine wpAnyH_done (by kernel_rfl) ?_ _
    clear hHeld
    go_wp2
    go_end0
    exact ⟨rfl, heap_set (w := V.drew.drew) sc 1 _, heap_set_other (p := ⟨c, 1, none⟩) (w := V.drew.drew) st (fun e => hct e.symm), (HG.out.drew.drew).setCell (p := ⟨c, 1, none⟩) (Or.inl (Or.inl rfl)) _, by simp [World.setCell]; exact HZ.out⟩

set_option maxRecDepth 20000 in
set_option maxHeartbeats 1000000 in
/-- A text is hung into a ring that has some. -/
theorem hang_some (w : World) (c t l z : Nat) (p ql qz : Tx) (g : Int) (o n lo zn bud tx : Value) (zo : Nat) (hc : w.heap[c]? = some (.cells #[pt l, .int .i64 g, bud, tx] 51))
    (ht : w.heap[t]? = some (txo p o n)) (hl : w.heap[l]? = some (txo ql lo (pt z))) (hz : w.heap[z]? = some (txo qz (pt zo) zn)) (htl : t ≠ l) (htz : t ≠ z) (h1 : p.1.length ≤ 140737488351232) (h2 : p.2.length ≤ 140737488351232) (hg0 : 0 ≤ g) (hg1 : g ≤ 4611686018427387904) :
    Calls Try.prog 34 #[pt c, pt t] w (Hung w c t l z p g bud tx) := by
  have hct : c ≠ t := fun e => txo_cache ht hc e.symm
  have hcl : c ≠ l := fun e => txo_cache hl hc e.symm
  have hcz : c ≠ z := fun e => txo_cache hz hc e.symm
  have hcx : ∀ x q a b, w.heap[x]? = some (txo q (pt a) (pt b)) → x ≠ c := fun x q a b hx => txo_cache hx hc
  have y1 := thawed ht 2
  have y2 := cell_of ht 2
  have s1 := heap_set ht 2 (pt t)
  have y3 := thawed s1 3
  have y4 := cell_of s1 3
  obtain ⟨W0, hW0⟩ : ∃ W0, W0 = (w.setCell ⟨t, 2, none⟩ (pt t)).setCell ⟨t, 3, none⟩ (pt t) := ⟨_, rfl⟩
  have a0 : ∀ x o, x ≠ t → w.heap[x]? = some o → W0.heap[x]? = some o := fun x o hx h => by
    subst hW0
    exact heap_set_other (p := ⟨t, 3, none⟩) (heap_set_other (p := ⟨t, 2, none⟩) h hx) hx
  have t0 : W0.heap[t]? = some (txo p (pt t) (pt t)) := by subst hW0; exact heap_set s1 3 (pt t)
  obtain ⟨W1, hW1⟩ : ∃ W1, W1 = W0.drew.setCell ⟨t, 2, none⟩ (pt l) := ⟨_, rfl⟩
  obtain ⟨W2, hW2⟩ : ∃ W2, W2 = W1.setCell ⟨t, 3, none⟩ (pt z) := ⟨_, rfl⟩
  have t1 : W1.heap[t]? = some (txo p (pt l) (pt t)) := by subst hW1; exact heap_set (w := W0.drew) t0 2 (pt l)
  have t2 : W2.heap[t]? = some (txo p (pt l) (pt z)) := by subst hW2; exact heap_set t1 3 (pt z)
  have a1 : ∀ x o, x ≠ t → w.heap[x]? = some o → W1.heap[x]? = some o := fun x o hx h => by
    have := a0 x o hx h
    subst hW1
    exact heap_set_other (w := W0.drew) (p := ⟨t, 2, none⟩) this hx
  have a2 : ∀ x o, x ≠ t → w.heap[x]? = some o → W2.heap[x]? = some o := fun x o hx h => by
    have := a1 x o hx h
    subst hW2
    exact heap_set_other (p := ⟨t, 3, none⟩) this hx
  obtain ⟨W3, hW3⟩ : ∃ W3, W3 = W2.drew.setCell ⟨l, 3, none⟩ (pt t) := ⟨_, rfl⟩
  obtain ⟨W4, hW4⟩ : ∃ W4, W4 = W3.setCell ⟨z, 2, none⟩ (pt t) := ⟨_, rfl⟩
  have t3 : W3.heap[t]? = some (txo p (pt l) (pt z)) := by subst hW3; exact heap_set_other (w := W2.drew) (p := ⟨l, 3, none⟩) t2 htl
  have t4 : W4.heap[t]? = some (txo p (pt l) (pt z)) := by subst hW4; exact heap_set_other (p := ⟨z, 2, none⟩) t3 htz
  have a3 : ∀ x q (a b : Value), x ≠ t → w.heap[x]? = some (txo q a b) → W3.heap[x]? = some (txo q a (if x = l then pt t else b)) := fun x q a b hx h => by
    have := a2 x _ hx h
    subst hW3
    by_cases e : x = l
    · subst e
      rw [if_pos rfl]
      exact heap_set (w := W2.drew) this 3 (pt t)
    · rw [if_neg e]
      exact heap_set_other (w := W2.drew) (p := ⟨l, 3, none⟩) this e
  have a4 : ∀ x q (a b : Nat), x ≠ t → w.heap[x]? = some (txo q (pt a) (pt b)) → W4.heap[x]? = some (txo q (pt (if x = z then t else a)) (pt (if x = l then t else b))) := fun x q a b hx h => by
    have := a3 x q _ _ hx h
    rw [show (if x = l then pt t else pt b) = pt (if x = l then t else b) by split <;> rfl] at this
    subst hW4
    by_cases e : x = z
    · subst e
      rw [if_pos rfl]
      exact heap_set this 2 (pt t)
    · rw [if_neg e]
      exact heap_set_other (p := ⟨z, 2, none⟩) this e
  have c2 : W2.heap[c]? = some (.cells #[pt l, .int .i64 g, bud, tx] 51) := a2 c _ hct hc
  have c4 : W4.heap[c]? = some (.cells #[pt l, .int .i64 g, bud, tx] 51) := by
    subst hW4 hW3
    exact heap_set_other (p := ⟨z, 2, none⟩) (heap_set_other (w := W2.drew) (p := ⟨l, 3, none⟩) c2 hcl) hcz
  have hg4 : Chg (fun k => k = c ∨ k = t ∨ k = l ∨ k = z) w W4 := by
    subst hW4 hW3 hW2 hW1 hW0
    exact (((((((Chg.refl _ w).setCell (p := ⟨t, 2, none⟩) (Or.inl (Or.inr (Or.inl rfl))) _).setCell (p := ⟨t, 3, none⟩) (Or.inl (Or.inr (Or.inl rfl))) _).drew.setCell (p := ⟨t, 2, none⟩) (Or.inl (Or.inr (Or.inl rfl))) _).setCell (p := ⟨t, 3, none⟩) (Or.inl (Or.inr (Or.inl rfl))) _).drew).setCell (p := ⟨l, 3, none⟩) (Or.inl (Or.inr (Or.inr (Or.inl rfl)))) _).setCell (p := ⟨z, 2, none⟩) (Or.inl (Or.inr (Or.inr (Or.inr rfl)))) _
  have hsz4 : W4.heap.size = w.heap.size := by subst hW4 hW3 hW2 hW1 hW0; simp [World.setCell]
  -- the last store
  have sc2 := heap_set c4 0 (pt t)
  have st2 := heap_set_other (p := ⟨c, 0, none⟩) (u := pt t) t4 (fun e => hct e.symm)
  have hg5 := hg4.setCell (p := ⟨c, 0, none⟩) (Or.inl (Or.inl rfl)) (pt t)
  have hsz5 : (W4.setCell ⟨c, 0, none⟩ (pt t)).heap.size = w.heap.size := by simp [World.setCell]; exact hsz4
  have hx5 : ∀ x q (a b : Nat), x ≠ t → w.heap[x]? = some (txo q (pt a) (pt b)) → (W4.setCell ⟨c, 0, none⟩ (pt t)).heap[x]? = some (txo q (pt (if x = z then t else a)) (pt (if x = l then t else b))) := fun x q a b hx h => heap_set_other (p := ⟨c, 0, none⟩) (a4 x q a b hx h) (fun e => hcx x q a b h e)
  have HG := hide hg5
  have HZ := hide hsz5
  have HX := hide hx5
  have HSC := hide sc2
  have HST := hide st2
  have u0 := cell_of (a0 c _ hct hc) 0
  have A0 : W0.drew.cell? ⟨c, 0, none⟩ = some (.pointer (some ⟨l, 0, none⟩)) ∧ W0.drew.cell? ⟨l, 3, none⟩ = some (.pointer (some ⟨z, 0, none⟩)) := ⟨cell_of (w := W0.drew) (a0 c _ hct hc) 0, cell_of (w := W0.drew) (a0 l _ (fun e => htl e.symm) hl) 3⟩
  have A1 : W1.cell? ⟨c, 0, none⟩ = some (.pointer (some ⟨l, 0, none⟩)) ∧ W1.cell? ⟨l, 3, none⟩ = some (.pointer (some ⟨z, 0, none⟩)) := ⟨cell_of (a1 c _ hct hc) 0, cell_of (a1 l _ (fun e => htl e.symm) hl) 3⟩
  have A2 : W2.cell? ⟨c, 0, none⟩ = some (.pointer (some ⟨l, 0, none⟩)) ∧ W2.cell? ⟨l, 3, none⟩ = some (.pointer (some ⟨z, 0, none⟩)) := ⟨cell_of (a2 c _ hct hc) 0, cell_of (a2 l _ (fun e => htl e.symm) hl) 3⟩
  have B2 : W2.drew.cell? ⟨t, 2, none⟩ = some (.pointer (some ⟨l, 0, none⟩)) ∧ W2.drew.cell? ⟨t, 3, none⟩ = some (.pointer (some ⟨z, 0, none⟩)) := ⟨cell_of (w := W2.drew) t2 2, cell_of (w := W2.drew) t2 3⟩
  have B3 : W3.cell? ⟨t, 2, none⟩ = some (.pointer (some ⟨l, 0, none⟩)) ∧ W3.cell? ⟨t, 3, none⟩ = some (.pointer (some ⟨z, 0, none⟩)) := ⟨cell_of t3 2, cell_of t3 3⟩
  have B4 : W4.cell? ⟨t, 2, none⟩ = some (.pointer (some ⟨l, 0, none⟩)) ∧ W4.cell? ⟨t, 3, none⟩ = some (.pointer (some ⟨z, 0, none⟩)) := ⟨cell_of t4 2, cell_of t4 3⟩
  have f1 : W0.drew.frozen? ⟨t, 2, none⟩ = false := thawed (w := W0.drew) t0 2
  have e1 : W0.drew.cell? ⟨t, 2, none⟩ = some (pt t) := cell_of (w := W0.drew) t0 2
  have f2 := thawed t1 3
  have e2 : W1.cell? ⟨t, 3, none⟩ = some (pt t) := cell_of t1 3
  have f3 : W2.drew.frozen? ⟨l, 3, none⟩ = false := thawed (w := W2.drew) (a2 l _ (fun e => htl e.symm) hl) 3
  have e3 : W2.drew.cell? ⟨l, 3, none⟩ = some (pt z) := cell_of (w := W2.drew) (a2 l _ (fun e => htl e.symm) hl) 3
  have f4 := thawed (a3 z _ _ _ (fun e => htz e.symm) hz) 2
  have e4 : W3.cell? ⟨z, 2, none⟩ = some (pt zo) := cell_of (a3 z _ _ _ (fun e => htz e.symm) hz) 2
  have f5 := thawed c4 0
  have e5 := cell_of c4 0
  have HW0 := hide hW0
  have HW1 := hide hW1
  have HW2 := hide hW2
  have HW3 := hide hW3
  have HW4 := hide hW4
  have HA0 := hide A0
  have HA1 := hide A1
  have HA2 := hide A2
  have HB2 := hide B2
  have HB3 := hide B3
  have HB4 := hide B4
  clear hW0 hW1 hW2 hW3 hW4 A0 A1 A2 B2 B3 B4 a0 a1 a2 a3 a4 t0 t1 t2 t3 t4 c2 c4 hg4 hsz4 hg5 hsz5 hx5 sc2 st2 s1
  unfold pt at *
  simp at y2 y4 u0 e5
  go_enter Try.func34, Try.ntmps34
  have hq0 : ∀ W : World, W = W0 → W.cell? ⟨c, 0, none⟩ = some (.pointer (some ⟨l, 0, none⟩)) := fun W e => by rw [e]; exact u0
  have hq1 := hq0 _ HW0.out.symm
  go_wp2_with fail
  rw [← HW0.out]
  clear y1 y2 y3 y4 hq1 hq0
  refine wp_region_held_drew (S := fun W => W.cell? ⟨c, 0, none⟩ = some (.pointer (some ⟨l, 0, none⟩)) ∧ W.cell? ⟨l, 3, none⟩ = some (.pointer (some ⟨z, 0, none⟩))) (by kernel_rfl) (HA0.out) (fun hHeld => ?_)
  refine takeH (i := 0) (v := ?_) rfl (by kernel_rfl) (by kernel_rfl) (by kernel_rfl) (fun _ _ _ h => h) rfl ?_ hHeld ?_
  rotate_left
  · intro w hS; (try dsimp only at hS); obtain ⟨hS0, hS1⟩ := hS; go_simp; first | done | (with_reducible rfl)
  try simp only [Act.put, List.setIfInBounds_toArray, List.set_cons_zero, List.set_cons_succ]
  refine takeH (i := 1) (v := ?_) rfl (by kernel_rfl) (by kernel_rfl) (by kernel_rfl) (fun _ _ _ h => h) rfl ?_ hHeld ?_
  rotate_left
  · intro w hS; (try dsimp only at hS); obtain ⟨hS0, hS1⟩ := hS; go_simp; first | done | (with_reducible rfl)
  try simp only [Act.put, List.setIfInBounds_toArray, List.set_cons_zero, List.set_cons_succ]
  refine takeH (i := 2) (v := ?_) rfl (by kernel_rfl) (by kernel_rfl) (by kernel_rfl) (fun _ _ _ h => h) rfl ?_ hHeld ?_
  rotate_left
  · intro w hS; (try dsimp only at hS); obtain ⟨hS0, hS1⟩ := hS; go_simp; first | done | (with_reducible rfl)
  try simp only [Act.put, List.setIfInBounds_toArray, List.set_cons_zero, List.set_cons_succ]
  refine takeH (i := 3) (v := ?_) rfl (by kernel_rfl) (by kernel_rfl) (by kernel_rfl) (fun _ _ _ h => h) rfl ?_ hHeld ?_
  rotate_left
  · intro w hS; (try dsimp only at hS); obtain ⟨hS0, hS1⟩ := hS; go_simp; first | done | (with_reducible rfl)
  try simp only [Act.put, List.setIfInBounds_toArray, List.set_cons_zero, List.set_cons_succ]
  refine takeH (i := 4) (v := ?_) rfl (by kernel_rfl) (by kernel_rfl) (by kernel_rfl) (fun _ _ _ h => h) rfl ?_ hHeld ?_
  rotate_left
  · intro w hS; (try dsimp only at hS); obtain ⟨hS0, hS1⟩ := hS; go_simp; first | done | (with_reducible rfl)
  try simp only [Act.put, List.setIfInBounds_toArray, List.set_cons_zero, List.set_cons_succ]
  refine takeH (i := 5) (v := ?_) rfl (by kernel_rfl) (by kernel_rfl) (by kernel_rfl) (fun _ _ _ h => h) rfl ?_ hHeld ?_
  rotate_left
  · intro w hS; (try dsimp only at hS); obtain ⟨hS0, hS1⟩ := hS; go_simp; first | done | (with_reducible rfl)
  try simp only [Act.put, List.setIfInBounds_toArray, List.set_cons_zero, List.set_cons_succ]
  refine takeH (i := 6) (v := ?_) rfl (by kernel_rfl) (by kernel_rfl) (by kernel_rfl) (fun _ _ _ h => h) rfl ?_ hHeld ?_
  rotate_left
  · intro w hS; (try dsimp only at hS); obtain ⟨hS0, hS1⟩ := hS; go_simp; first | done | (with_reducible rfl)
  try simp only [Act.put, List.setIfInBounds_toArray, List.set_cons_zero, List.set_cons_succ]
  refine takeH (i := 7) (v := ?_) rfl (by kernel_rfl) (by kernel_rfl) (by kernel_rfl) (fun _ _ _ h => h) rfl ?_ hHeld ?_
  rotate_left
  · intro w hS; (try dsimp only at hS); obtain ⟨hS0, hS1⟩ := hS; go_simp; first | done | (with_reducible rfl)
  try simp only [Act.put, List.setIfInBounds_toArray, List.set_cons_zero, List.set_cons_succ]
  refine takeH (i := 8) (v := ?_) rfl (by kernel_rfl) (by kernel_rfl) (by kernel_rfl) (fun _ _ _ h => h) rfl ?_ hHeld ?_
  rotate_left
  · intro w hS; (try dsimp only at hS); obtain ⟨hS0, hS1⟩ := hS; go_simp; first | done | (with_reducible rfl)
  try simp only [Act.put, List.setIfInBounds_toArray, List.set_cons_zero, List.set_cons_succ]
  refine takeH (i := 9) (v := ?_) rfl (by kernel_rfl) (by kernel_rfl) (by kernel_rfl) (fun _ _ _ h => h) rfl ?_ hHeld ?_
  rotate_left
  · intro w hS; (try dsimp only at hS); obtain ⟨hS0, hS1⟩ := hS; go_simp; first | done | (with_reducible rfl)
  try simp only [Act.put, List.setIfInBounds_toArray, List.set_cons_zero, List.set_cons_succ]
  refine takeH (i := 10) (v := ?_) rfl (by kernel_rfl) (by kernel_rfl) (by kernel_rfl) (fun _ _ _ h => h) rfl ?_ hHeld ?_
  rotate_left
  · intro w hS; (try dsimp only at hS); obtain ⟨hS0, hS1⟩ := hS; go_simp; first | done | (with_reducible rfl)
  try simp only [Act.put, List.setIfInBounds_toArray, List.set_cons_zero, List.set_cons_succ]
  refine takeH (i := 11) (v := ?_) rfl (by kernel_rfl) (by kernel_rfl) (by kernel_rfl) (fun _ _ _ h => h) rfl ?_ hHeld ?_
  rotate_left
  · intro w hS; (try dsimp only at hS); obtain ⟨hS0, hS1⟩ := hS; go_simp; first | done | (with_reducible rfl)
  try simp only [Act.put, List.setIfInBounds_toArray, List.set_cons_zero, List.set_cons_succ]
  refine takeH (i := 12) (v := ?_) rfl (by kernel_rfl) (by kernel_rfl) (by kernel_rfl) (fun _ _ _ h => h) rfl ?_ hHeld ?_
  rotate_left
  · intro w hS; (try dsimp only at hS); obtain ⟨hS0, hS1⟩ := hS; go_simp; first | done | (with_reducible rfl)
  try simp only [Act.put, List.setIfInBounds_toArray, List.set_cons_zero, List.set_cons_succ]
  refine takeH (i := 13) (v := ?_) rfl (by kernel_rfl) (by kernel_rfl) (by kernel_rfl) (fun _ _ _ h => h) rfl ?_ hHeld ?_
  rotate_left
  · intro w hS; (try dsimp only at hS); obtain ⟨hS0, hS1⟩ := hS; go_simp; first | done | (with_reducible rfl)
  try simp only [Act.put, List.setIfInBounds_toArray, List.set_cons_zero, List.set_cons_succ]
  refine takeH (i := 14) (v := ?_) rfl (by kernel_rfl) (by kernel_rfl) (by kernel_rfl) (fun _ _ _ h => h) rfl ?_ hHeld ?_
  rotate_left
  · intro w hS; (try dsimp only at hS); obtain ⟨hS0, hS1⟩ := hS; go_simp; first | done | (with_reducible rfl)
  try simp only [Act.put, List.setIfInBounds_toArray, List.set_cons_zero, List.set_cons_succ]
  refine onlyH (i := 15) rfl (by kernel_rfl) rfl (fun K hK => ?_)
  go_simp
  rw [show (W0.setCell ⟨t, 2, none⟩ (.pointer (some ⟨l, 0, none⟩))).drew = W1 from HW1.out.symm]
  refine hK.out _ _ (HA1.out) (fun hHeld => ?_)
  clear hK K
  try simp only [Act.put, List.setIfInBounds_toArray, List.set_cons_zero, List.set_cons_succ]
  refine takeH (i := 16) (v := ?_) rfl (by kernel_rfl) (by kernel_rfl) (by kernel_rfl) (fun _ _ _ h => h) rfl ?_ hHeld ?_
  rotate_left
  · intro w hS; (try dsimp only at hS); obtain ⟨hS0, hS1⟩ := hS; go_simp; first | done | (with_reducible rfl)
  try simp only [Act.put, List.setIfInBounds_toArray, List.set_cons_zero, List.set_cons_succ]
  refine takeH (i := 17) (v := ?_) rfl (by kernel_rfl) (by kernel_rfl) (by kernel_rfl) (fun _ _ _ h => h) rfl ?_ hHeld ?_
  rotate_left
  · intro w hS; (try dsimp only at hS); obtain ⟨hS0, hS1⟩ := hS; go_simp; first | done | (with_reducible rfl)
  try simp only [Act.put, List.setIfInBounds_toArray, List.set_cons_zero, List.set_cons_succ]
  refine onlyH (i := 18) rfl (by kernel_rfl) rfl (fun K hK => ?_)
  go_simp
  rw [show W1.setCell ⟨t, 3, none⟩ (.pointer (some ⟨z, 0, none⟩)) = W2 from HW2.out.symm]
  refine hK.out _ _ (HA2.out) (fun hHeld => ?_)
  clear hK K
  try simp only [Act.put, List.setIfInBounds_toArray, List.set_cons_zero, List.set_cons_succ]
  refine wpAnyH_done (by kernel_rfl) ?_ _
  clear hHeld
  go_wp2_with fail
  refine wp_region_held_drew (S := fun W => W.cell? ⟨t, 2, none⟩ = some (.pointer (some ⟨l, 0, none⟩)) ∧ W.cell? ⟨t, 3, none⟩ = some (.pointer (some ⟨z, 0, none⟩))) (by kernel_rfl) (HB2.out) (fun hHeld => ?_)
  refine takeH (i := 0) (v := ?_) rfl (by kernel_rfl) (by kernel_rfl) (by kernel_rfl) (fun _ _ _ h => h) rfl ?_ hHeld ?_
  rotate_left
  · intro w hS; (try dsimp only at hS); obtain ⟨hS0, hS1⟩ := hS; go_simp; first | done | (with_reducible rfl)
  try simp only [Act.put, List.setIfInBounds_toArray, List.set_cons_zero, List.set_cons_succ]
  refine takeH (i := 1) (v := ?_) rfl (by kernel_rfl) (by kernel_rfl) (by kernel_rfl) (fun _ _ _ h => h) rfl ?_ hHeld ?_
  rotate_left
  · intro w hS; (try dsimp only at hS); obtain ⟨hS0, hS1⟩ := hS; go_simp; first | done | (with_reducible rfl)
  try simp only [Act.put, List.setIfInBounds_toArray, List.set_cons_zero, List.set_cons_succ]
  refine takeH (i := 2) (v := ?_) rfl (by kernel_rfl) (by kernel_rfl) (by kernel_rfl) (fun _ _ _ h => h) rfl ?_ hHeld ?_
  rotate_left
  · intro w hS; (try dsimp only at hS); obtain ⟨hS0, hS1⟩ := hS; go_simp; first | done | (with_reducible rfl)
  try simp only [Act.put, List.setIfInBounds_toArray, List.set_cons_zero, List.set_cons_succ]
  refine takeH (i := 3) (v := ?_) rfl (by kernel_rfl) (by kernel_rfl) (by kernel_rfl) (fun _ _ _ h => h) rfl ?_ hHeld ?_
  rotate_left
  · intro w hS; (try dsimp only at hS); obtain ⟨hS0, hS1⟩ := hS; go_simp; first | done | (with_reducible rfl)
  try simp only [Act.put, List.setIfInBounds_toArray, List.set_cons_zero, List.set_cons_succ]
  refine takeH (i := 4) (v := ?_) rfl (by kernel_rfl) (by kernel_rfl) (by kernel_rfl) (fun _ _ _ h => h) rfl ?_ hHeld ?_
  rotate_left
  · intro w hS; (try dsimp only at hS); obtain ⟨hS0, hS1⟩ := hS; go_simp; first | done | (with_reducible rfl)
  try simp only [Act.put, List.setIfInBounds_toArray, List.set_cons_zero, List.set_cons_succ]
  refine takeH (i := 5) (v := ?_) rfl (by kernel_rfl) (by kernel_rfl) (by kernel_rfl) (fun _ _ _ h => h) rfl ?_ hHeld ?_
  rotate_left
  · intro w hS; (try dsimp only at hS); obtain ⟨hS0, hS1⟩ := hS; go_simp; first | done | (with_reducible rfl)
  try simp only [Act.put, List.setIfInBounds_toArray, List.set_cons_zero, List.set_cons_succ]
  refine takeH (i := 6) (v := ?_) rfl (by kernel_rfl) (by kernel_rfl) (by kernel_rfl) (fun _ _ _ h => h) rfl ?_ hHeld ?_
  rotate_left
  · intro w hS; (try dsimp only at hS); obtain ⟨hS0, hS1⟩ := hS; go_simp; first | done | (with_reducible rfl)
  try simp only [Act.put, List.setIfInBounds_toArray, List.set_cons_zero, List.set_cons_succ]
  refine takeH (i := 7) (v := ?_) rfl (by kernel_rfl) (by kernel_rfl) (by kernel_rfl) (fun _ _ _ h => h) rfl ?_ hHeld ?_
  rotate_left
  · intro w hS; (try dsimp only at hS); obtain ⟨hS0, hS1⟩ := hS; go_simp; first | done | (with_reducible rfl)
  try simp only [Act.put, List.setIfInBounds_toArray, List.set_cons_zero, List.set_cons_succ]
  refine takeH (i := 8) (v := ?_) rfl (by kernel_rfl) (by kernel_rfl) (by kernel_rfl) (fun _ _ _ h => h) rfl ?_ hHeld ?_
  rotate_left
  · intro w hS; (try dsimp only at hS); obtain ⟨hS0, hS1⟩ := hS; go_simp; first | done | (with_reducible rfl)
  try simp only [Act.put, List.setIfInBounds_toArray, List.set_cons_zero, List.set_cons_succ]
  refine takeH (i := 9) (v := ?_) rfl (by kernel_rfl) (by kernel_rfl) (by kernel_rfl) (fun _ _ _ h => h) rfl ?_ hHeld ?_
  rotate_left
  · intro w hS; (try dsimp only at hS); obtain ⟨hS0, hS1⟩ := hS; go_simp; first | done | (with_reducible rfl)
  try simp only [Act.put, List.setIfInBounds_toArray, List.set_cons_zero, List.set_cons_succ]
  refine takeH (i := 10) (v := ?_) rfl (by kernel_rfl) (by kernel_rfl) (by kernel_rfl) (fun _ _ _ h => h) rfl ?_ hHeld ?_
  rotate_left
  · intro w hS; (try dsimp only at hS); obtain ⟨hS0, hS1⟩ := hS; go_simp; first | done | (with_reducible rfl)
  try simp only [Act.put, List.setIfInBounds_toArray, List.set_cons_zero, List.set_cons_succ]
  refine takeH (i := 11) (v := ?_) rfl (by kernel_rfl) (by kernel_rfl) (by kernel_rfl) (fun _ _ _ h => h) rfl ?_ hHeld ?_
  rotate_left
  · intro w hS; (try dsimp only at hS); obtain ⟨hS0, hS1⟩ := hS; go_simp; first | done | (with_reducible rfl)
  try simp only [Act.put, List.setIfInBounds_toArray, List.set_cons_zero, List.set_cons_succ]
  refine onlyH (i := 12) rfl (by kernel_rfl) rfl (fun K hK => ?_)
  go_simp
  rw [show (W2.setCell ⟨l, 3, none⟩ (.pointer (some ⟨t, 0, none⟩))).drew = W3 from HW3.out.symm]
  refine hK.out _ _ (HB3.out) (fun hHeld => ?_)
  clear hK K
  try simp only [Act.put, List.setIfInBounds_toArray, List.set_cons_zero, List.set_cons_succ]
  refine takeH (i := 13) (v := ?_) rfl (by kernel_rfl) (by kernel_rfl) (by kernel_rfl) (fun _ _ _ h => h) rfl ?_ hHeld ?_
  rotate_left
  · intro w hS; (try dsimp only at hS); obtain ⟨hS0, hS1⟩ := hS; go_simp; first | done | (with_reducible rfl)
  try simp only [Act.put, List.setIfInBounds_toArray, List.set_cons_zero, List.set_cons_succ]
  refine takeH (i := 14) (v := ?_) rfl (by kernel_rfl) (by kernel_rfl) (by kernel_rfl) (fun _ _ _ h => h) rfl ?_ hHeld ?_
  rotate_left
  · intro w hS; (try dsimp only at hS); obtain ⟨hS0, hS1⟩ := hS; go_simp; first | done | (with_reducible rfl)
  try simp only [Act.put, List.setIfInBounds_toArray, List.set_cons_zero, List.set_cons_succ]
  refine onlyH (i := 15) rfl (by kernel_rfl) rfl (fun K hK => ?_)
  go_simp
  rw [show W3.setCell ⟨z, 2, none⟩ (.pointer (some ⟨t, 0, none⟩)) = W4 from HW4.out.symm]
  refine hK.out _ _ (HB4.out) (fun hHeld => ?_)
  clear hK K
  try simp only [Act.put, List.setIfInBounds_toArray, List.set_cons_zero, List.set_cons_succ]
  refine wpAnyH_done (by kernel_rfl) ?_ _
  clear hHeld
  go_wp2_with fail
  clear f1 f2 f3 f4 f5 e1 e2 e3 e4 e5 u0
  generalize (W4.setCell ⟨c, 0, none⟩ (.pointer (some ⟨t, 0, none⟩))) = V at *
  have st := HST.out
  have sc := HSC.out
  have hwr : IntKind.i64.wrap (g + (wt p : Int)) = g + (wt p : Int) := by unfold wt; rw [IntKind.wrap_i64]; omega
  have q1 := cell_of sc 1
  have q2 := thawed sc 1
  have q3 : V.drew.cell? ⟨c, 1, none⟩ = some (.int .i64 g) := q1
  have q4 : V.drew.frozen? ⟨c, 1, none⟩ = false := q2
  have q5 : V.drew.drew.cell? ⟨c, 1, none⟩ = some (.int .i64 g) := q1
  have q6 : V.drew.drew.frozen? ⟨c, 1, none⟩ = false := q2
  refine wp_region_held_drew (S := fun _ => True) (by kernel_rfl) (trivial) (fun hHeld => ?_)
  refine takeH (i := 0) (v := ?_) rfl (by kernel_rfl) (by kernel_rfl) (by kernel_rfl) (fun _ _ _ h => h) rfl ?_ hHeld ?_
  rotate_left
  · intro w _; go_simp; first | done | (with_reducible rfl)
  try simp only [Act.put, List.setIfInBounds_toArray, List.set_cons_zero, List.set_cons_succ]
  refine takeH (i := 1) (v := ?_) rfl (by kernel_rfl) (by kernel_rfl) (by kernel_rfl) (fun _ _ _ h => h) rfl ?_ hHeld ?_
  rotate_left
  · intro w _; go_simp; first | done | (with_reducible rfl)
  try simp only [Act.put, List.setIfInBounds_toArray, List.set_cons_zero, List.set_cons_succ]
  refine takeH (i := 2) (v := ?_) rfl (by kernel_rfl) (by kernel_rfl) (by kernel_rfl) (fun _ _ _ h => h) rfl ?_ hHeld ?_
  rotate_left
  · intro w _; go_simp; first | done | (with_reducible rfl)
  try simp only [Act.put, List.setIfInBounds_toArray, List.set_cons_zero, List.set_cons_succ]
  refine takeH (i := 4) (v := ?_) rfl (by kernel_rfl) (by kernel_rfl) (by kernel_rfl) (fun _ _ _ h => h) rfl ?_ hHeld ?_
  rotate_left
  · intro w _; go_simp; first | done | (with_reducible rfl)
  try simp only [Act.put, List.setIfInBounds_toArray, List.set_cons_zero, List.set_cons_succ]
  refine twoH (i := 3) (j := 5) rfl rfl (by kernel_rfl) rfl rfl (fun K hK => ?_) (fun K hK => ?_)
  · go_simp
    refine hK.out _ _ (trivial) (fun hHeld => ?_)
    clear hK K
    try simp only [Act.put, List.setIfInBounds_toArray, List.set_cons_zero, List.set_cons_succ]
    refine onlyH (i := 5) rfl (by kernel_rfl) rfl (fun K hK => ?_)
    go_simp
    refine (weight_any V.drew t p _ _ (show V.drew.heap[t]? = _ from st) h1 h2).mono ?_
    rintro e w1 ⟨rfl, hw1⟩
    rw [hw1]
    clear hw1
    refine hK.out _ _ (trivial) (fun hHeld => ?_)
    clear hK K
    try simp only [Act.put, List.setIfInBounds_toArray, List.set_cons_zero, List.set_cons_succ]
    refine takeH (i := 6) (v := ?_) rfl (by kernel_rfl) (by kernel_rfl) (by kernel_rfl) (fun _ _ _ h => h) rfl ?_ hHeld ?_
    rotate_left
    · intro w _; go_simp; first | done | (with_reducible rfl)
    try simp only [Act.put, List.setIfInBounds_toArray, List.set_cons_zero, List.set_cons_succ]
    refine takeH (i := 7) (v := ?_) rfl (by kernel_rfl) (by kernel_rfl) (by kernel_rfl) (fun _ _ _ h => h) rfl ?_ hHeld ?_
    rotate_left
    · intro w _; go_simp; first | done | (with_reducible rfl)
    try simp only [Act.put, List.setIfInBounds_toArray, List.set_cons_zero, List.set_cons_succ]
    refine takeH (i := 8) (v := ?_) rfl (by kernel_rfl) (by kernel_rfl) (by kernel_rfl) (fun _ _ _ h => h) rfl ?_ hHeld ?_
    rotate_left
    · intro w _; go_simp; first | done | (with_reducible rfl)
    try simp only [Act.put, List.setIfInBounds_toArray, List.set_cons_zero, List.set_cons_succ]
    refine onlyH (i := 9) rfl (by kernel_rfl) rfl (fun K hK => ?_)
    go_simp
    refine hK.out _ _ (trivial) (fun hHeld => ?_)
    clear hK K
    try simp only [Act.put, List.setIfInBounds_toArray, List.set_cons_zero, List.set_cons_succ]
    refine wpAnyH_done (by kernel_rfl) ?_ _
    clear hHeld
    go_wp2
    go_end0
    exact ⟨rfl, heap_set (w := V.drew.drew) sc 1 _, heap_set_other (p := ⟨c, 1, none⟩) (w := V.drew.drew) st (fun e => hct e.symm), fun x q a b hxt hx => heap_set_other (p := ⟨c, 1, none⟩) (w := V.drew.drew) (HX.out x q a b hxt hx) (fun e => hcx x q a b hx e), (HG.out.drew.drew).setCell (p := ⟨c, 1, none⟩) (Or.inl (Or.inl rfl)) _, by simp [World.setCell]; exact HZ.out⟩
  · go_simp
    refine (weight_any V.drew t p _ _ (show V.drew.heap[t]? = _ from st) h1 h2).mono ?_
    rintro e w1 ⟨rfl, hw1⟩
    rw [hw1]
    clear hw1
    refine hK.out _ _ (trivial) (fun hHeld => ?_)
    clear hK K
    try simp only [Act.put, List.setIfInBounds_toArray, List.set_cons_zero, List.set_cons_succ]
    refine onlyH (i := 3) rfl (by kernel_rfl) rfl (fun K hK => ?_)
    go_simp
    refine hK.out _ _ (trivial) (fun hHeld => ?_)
    clear hK K
    try simp only [Act.put, List.setIfInBounds_toArray, List.set_cons_zero, List.set_cons_succ]
    refine takeH (i := 6) (v := ?_) rfl (by kernel_rfl) (by kernel_rfl) (by kernel_rfl) (fun _ _ _ h => h) rfl ?_ hHeld ?_
    rotate_left
    · intro w _; go_simp; first | done | (with_reducible rfl)
    try simp only [Act.put, List.setIfInBounds_toArray, List.set_cons_zero, List.set_cons_succ]
    refine takeH (i := 7) (v := ?_) rfl (by kernel_rfl) (by kernel_rfl) (by kernel_rfl) (fun _ _ _ h => h) rfl ?_ hHeld ?_
    rotate_left
    · intro w _; go_simp; first | done | (with_reducible rfl)
    try simp only [Act.put, List.setIfInBounds_toArray, List.set_cons_zero, List.set_cons_succ]
    refine takeH (i := 8) (v := ?_) rfl (by kernel_rfl) (by kernel_rfl) (by kernel_rfl) (fun _ _ _ h => h) rfl ?_ hHeld ?_
    rotate_left
    · intro w _; go_simp; first | done | (with_reducible rfl)
    try simp only [Act.put, List.setIfInBounds_toArray, List.set_cons_zero, List.set_cons_succ]
    refine onlyH (i := 9) rfl (by kernel_rfl) rfl (fun K hK => ?_)
    go_simp
    refine hK.out _ _ (trivial) (fun hHeld => ?_)
    clear hK K
    try simp only [Act.put, List.setIfInBounds_toArray, List.set_cons_zero, List.set_cons_succ]
    refine wpAnyH_done (by kernel_rfl) ?_ _
    clear hHeld
    go_wp2
    go_end0
    exact ⟨rfl, heap_set (w := V.drew.drew) sc 1 _, heap_set_other (p := ⟨c, 1, none⟩) (w := V.drew.drew) st (fun e => hct e.symm), fun x q a b hxt hx => heap_set_other (p := ⟨c, 1, none⟩) (w := V.drew.drew) (HX.out x q a b hxt hx) (fun e => hcx x q a b hx e), (HG.out.drew.drew).setCell (p := ⟨c, 1, none⟩) (Or.inl (Or.inl rfl)) _, by simp [World.setCell]; exact HZ.out⟩

end Go.Proofs.Ythhmjoafoahpbaa
