/-
  The get that notes what is asked. Conditions: what it holds lies there; not too much was asked.
-/
import Derived.Test.YtfeffaeinggiiaaGreatDoorJ21PPlain
namespace Go.Proofs.YtfeffaeinggiiaaGreatDoor
open Go.RowKit

/-- What the noting get holds: the objects, below B, and what was asked so far, since B. -/
structure AskW (B : Nat) (w : World) (ci cl ga : Nat) (objs : List Pair) (asked : List Bs) : Prop where
  ids : w.heap[ci]? = some (.cells #[.pointer (some ⟨ga, 0, none⟩)] 37)
  list : ∃ vl, w.heap[cl]? = some (.cells #[vl] 25) ∧ Ls B w 2 pairC vl objs
  row : ∃ va, w.heap[ga]? = some (.cells #[va] 32) ∧ Rw B w 9 1 idC va asked
  base : B ≤ ga
/-- What it moves. -/
abbrev ats : List TypeId := [9, 32]
theorem AskW.le {B : Nat} {w : World} {ci cl ga : Nat} {objs : List Pair} {asked : List Bs} (h : AskW B w ci cl ga objs asked) : B ≤ w.heap.size := by
  obtain ⟨va, hv, -⟩ := h.row
  have := lt_of_heap hv
  have := h.base
  omega
/-- It stays where nothing of it moves. -/
theorem AskW.keep {B B' : Nat} {w w' : World} {ci cl ga : Nat} {objs : List Pair} {asked : List Bs} {ts : List TypeId} {r : Option Nat} (h : AskW B w ci cl ga objs asked) (hm : Mv B' ts r w w') (hB : B ≤ B') (h1 : 37 ∉ ts) (h2 : 25 ∉ ts) (h3 : 32 ∉ ts) (h4 : 9 ∉ ts)
    (hr : ∀ q, r = some q → ∃ c t fr, w.heap[q]? = some (.cells c t fr) ∧ t ≠ 37 ∧ t ≠ 25 ∧ t ≠ 32 ∧ t ≠ 9) : AskW B w' ci cl ga objs asked := by
  obtain ⟨vl, hl, hv⟩ := h.list
  obtain ⟨va, ha, hw⟩ := h.row
  have ne : ∀ {k : Nat} {cs : Array Value} {t : TypeId} {fr : Nat × Nat}, w.heap[k]? = some (.cells cs t fr) → (t = 37 ∨ t = 25 ∨ t = 32 ∨ t = 9) → some k ≠ r := by
    intro k cs t fr hk ht hq
    obtain ⟨c, t', fr', g1, g2, g3, g4, g5⟩ := hr k hq.symm
    rw [hk] at g1
    injection g1 with g1
    injection g1 with _ g1
    subst g1
    rcases ht with h | h | h | h
    · exact g2 h
    · exact g3 h
    · exact g4 h
    · exact g5 h
  refine ⟨hm.k _ _ _ _ h.ids h1 (ne h.ids (.inl rfl)), ⟨vl, hm.k _ _ _ _ hl h2 (ne hl (.inr (.inl rfl))), hv.keep (hm.b.mono hB)⟩, ⟨va, hm.k _ _ _ _ ha h3 (ne ha (.inr (.inr (.inl rfl)))), ?_⟩, h.base⟩
  refine own_same hw (fun g hg => ?_)
  obtain ⟨c, fz, g1⟩ := Lib.ownsRow_kind hw g hg
  rw [hm.k _ _ _ _ g1 h4 (ne g1 (.inr (.inr (.inr rfl)))), g1]
theorem AskW.below {B : Nat} {w w' : World} {ci cl ga : Nat} {objs : List Pair} {asked : List Bs} (h : AskW B w ci cl ga objs asked) (hb : Below w.heap.size w w') : AskW B w' ci cl ga objs asked :=
  h.keep (ts := []) (r := none) (Mv.of hb (Nat.le_refl _)) h.le (by simp) (by simp) (by simp) (by simp) (by simp)
theorem AskW.alloc {B : Nat} {w : World} {ci cl ga : Nat} {objs : List Pair} {asked : List Bs} (h : AskW B w ci cl ga objs asked) (o : Obj) : AskW B (w.alloc o) ci cl ga objs asked := h.below ((Below.refl _ _).alloc (Nat.le_refl _) _)
theorem AskW.drew {B : Nat} {w : World} {ci cl ga : Nat} {objs : List Pair} {asked : List Bs} (h : AskW B w ci cl ga objs asked) : AskW B w.drew ci cl ga objs asked := ⟨h.ids, h.list, h.row, h.base⟩
theorem drew_alloc (w : World) (o : Obj) : w.drew.alloc o = (w.alloc o).drew := rfl
set_option maxRecDepth 20000 in
theorem asked1_any (B : Nat) (w : World) (ci cl ga : Nat) (objs : List Pair) (asked : List Bs) (id : Bs) (h : AskW B w ci cl ga objs asked) (hn : asked.length ≤ 4294967296) :
    Calls Tryz.prog 38 #[.string (strB id), .pointer (some ⟨ci, 0, none⟩), .pointer (some ⟨cl, 0, none⟩)] w fun e w' => e = .returned (foundV (findO objs id)) ∧ AskW B w' ci cl ga objs (asked ++ [id]) ∧ Mv B ats none w w' := by
  have hB := h.le
  have hgaB := h.base
  obtain ⟨vl, hl, hv⟩ := h.list
  obtain ⟨va, ha, hw⟩ := h.row
  have hi := h.ids
  obtain ⟨v', w1, hrun, hrow1, hgr, -⟩ := app_id w.drew B va asked id hw hB hn
  rw [drew_alloc] at hrun hgr
  rw [show w.drew.heap.size = w.heap.size from rfl] at hrun
  have hb0 : Below w.heap.size w (w.alloc (.cells #[.string (strB id)] 9)) := (Below.refl _ _).alloc (Nat.le_refl _) _
  have hw0 : Rw B (w.alloc (.cells #[.string (strB id)] 9)).drew 9 1 idC va asked := World.ownsRow.alloc hw _
  have hi0 := heap_past w (.cells #[.string (strB id)] 9) _ (lt_of_heap hi) |>.trans hi
  have hl0 := heap_past w (.cells #[.string (strB id)] 9) _ (lt_of_heap hl) |>.trans hl
  have ha0 := heap_past w (.cells #[.string (strB id)] 9) _ (lt_of_heap ha) |>.trans ha
  have hi1 := grow_keep hw0 hgr (show (w.alloc _).drew.heap[ci]? = _ from hi0) (by decide)
  have hl1 := grow_keep hw0 hgr (show (w.alloc _).drew.heap[cl]? = _ from hl0) (by decide)
  have ha1 := grow_keep hw0 hgr (show (w.alloc _).drew.heap[ga]? = _ from ha0) (by decide)
  have hne : ci ≠ ga := ne_type hi1 ha1 (by decide)
  have hne2 : cl ≠ ga := ne_type hl1 ha1 (by decide)
  have hm1 : Mv B ats none w w1 := ((Mv.refl B ats none w).alloc hB _).drew.grown hw0 hgr (by decide) (by simp; omega)
  have hm2 : Mv B ats none w (w1.setCell ⟨ga, 0, none⟩ v') := hm1.set ha1 (by decide) hgaB _
  have hi2 : (w1.setCell ⟨ga, 0, none⟩ v').heap[ci]? = some (.cells #[.pointer (some ⟨ga, 0, none⟩)] 37) := (heap_setOther hne).trans hi1
  have hl2 : (w1.setCell ⟨ga, 0, none⟩ v').heap[cl]? = some (.cells #[vl] 25) := (heap_setOther hne2).trans hl1
  have hv2 : Ls B (w1.setCell ⟨ga, 0, none⟩ v') 2 pairC vl objs := hv.keep hm2.b
  have hA : AskW B (w1.setCell ⟨ga, 0, none⟩ v') ci cl ga objs (asked ++ [id]) := ⟨hi2, ⟨vl, hl2, hv2⟩, ⟨v', heap_set0 ha1, own_setCell hrow1 ha1 (by decide) _⟩, hgaB⟩
  have hf := find_any (w1.setCell ⟨ga, 0, none⟩ v') vl objs id (hv2.up (Nat.le_trans hB hm2.size))
  have c0 := cell_of_row w ci 0 _ _ _ hi
  have c1 := cell_of_row w ga 0 _ _ _ ha
  have d0 := cell_of_row _ ci 0 _ _ _ hi0
  have d1 := cell_of_row _ ga 0 _ _ _ ha0
  have e0 := cell_of_row _ ci 0 _ _ _ hi1
  have g0 := cell_of_row _ ci 0 _ _ _ hi2
  have g1 := cell_of_row _ cl 0 _ _ _ hl2
  have c2 := cell_of_row w1 ga 0 _ _ _ ha1
  simp only [List.getElem?_toArray, List.getElem?_cons_zero] at c0 c1 c2 d0 d1 e0 g0 g1
  have f2 := frozen0 (j := 0) ha1
  have HA := hide (And.intro hA hm2)
  obtain ⟨ao', m', ca', rfl⟩ := row_form hrow1
  obtain ⟨al, cap, rfl, -⟩ := hv
  obtain ⟨s, k, hfv⟩ := foundV_form (findO objs id)
  rw [hfv] at hf ⊢
  clear hm1 hi hl ha hw hgr hrow1 hb0 hw0 hi0 hl0 ha0 hi1 hl1 ha1 hi2 hl2 hv2 h hfv hA hm2
  go_enter Tryz.func38, Tryz.ntmps38
  go_wp2_with fail
  refine wp_region_held_drew (S := fun W => W.cell? ⟨ci, 0, none⟩ = some (.pointer (some ⟨ga, 0, none⟩))) (by kernel_rfl) (c0) (fun hHeld => ?_)
  refine takeH (i := 0) (v := ?_) rfl (by kernel_rfl) (by kernel_rfl) (by kernel_rfl) (fun _ _ _ h => h) rfl ?_ hHeld ?_
  rotate_left
  · intro w hS; (try dsimp only at hS); obtain hS0 := hS; go_simp; first | done | (with_reducible rfl)
  try simp only [Act.put, List.setIfInBounds_toArray, List.set_cons_zero, List.set_cons_succ]
  refine takeH (i := 1) (v := ?_) rfl (by kernel_rfl) (by kernel_rfl) (by kernel_rfl) (fun _ _ _ h => h) rfl ?_ hHeld ?_
  rotate_left
  · intro w hS; (try dsimp only at hS); obtain hS0 := hS; go_simp; first | done | (with_reducible rfl)
  try simp only [Act.put, List.setIfInBounds_toArray, List.set_cons_zero, List.set_cons_succ]
  refine takeH (i := 2) (v := ?_) rfl (by kernel_rfl) (by kernel_rfl) (by kernel_rfl) (fun _ _ _ h => h) rfl ?_ hHeld ?_
  rotate_left
  · intro w hS; (try dsimp only at hS); obtain hS0 := hS; go_simp; first | done | (with_reducible rfl)
  try simp only [Act.put, List.setIfInBounds_toArray, List.set_cons_zero, List.set_cons_succ]
  refine takeH (i := 4) (v := ?_) rfl (by kernel_rfl) (by kernel_rfl) (by kernel_rfl) (fun _ _ _ h => h) rfl ?_ hHeld ?_
  rotate_left
  · intro w hS; (try dsimp only at hS); obtain hS0 := hS; go_simp; first | done | (with_reducible rfl)
  try simp only [Act.put, List.setIfInBounds_toArray, List.set_cons_zero, List.set_cons_succ]
  refine twoH (i := 3) (j := 5) rfl rfl (by kernel_rfl) rfl rfl (fun K hK => ?_) (fun K hK => ?_)
  · go_simp
    refine hK.out _ _ (c0) (fun hHeld => ?_)
    clear hK K
    try simp only [Act.put, List.setIfInBounds_toArray, List.set_cons_zero, List.set_cons_succ]
    refine onlyH (i := 5) rfl (by kernel_rfl) rfl (fun K hK => ?_)
    go_simp
    refine hK.out _ _ (d0) (fun hHeld => ?_)
    clear hK K
    try simp only [Act.put, List.setIfInBounds_toArray, List.set_cons_zero, List.set_cons_succ]
    refine onlyH (i := 6) rfl (by kernel_rfl) rfl (fun K hK => ?_)
    refine wp_append_run (.tmp 9) (.tmp 11) 32 rfl rfl rfl hrun ?_
    refine hK.out _ _ (e0) (fun hHeld => ?_)
    clear hK K
    try simp only [Act.put, List.setIfInBounds_toArray, List.set_cons_zero, List.set_cons_succ]
    refine takeH (i := 7) (v := ?_) rfl (by kernel_rfl) (by kernel_rfl) (by kernel_rfl) (fun _ _ _ h => h) rfl ?_ hHeld ?_
    rotate_left
    · intro w hS; (try dsimp only at hS); obtain hS0 := hS; go_simp; first | done | (with_reducible rfl)
    try simp only [Act.put, List.setIfInBounds_toArray, List.set_cons_zero, List.set_cons_succ]
    refine onlyH (i := 8) rfl (by kernel_rfl) rfl (fun K hK => ?_)
    go_simp
    refine hK.out _ _ (g0) (fun hHeld => ?_)
    clear hK K
    try simp only [Act.put, List.setIfInBounds_toArray, List.set_cons_zero, List.set_cons_succ]
    refine wpAnyH_done (by kernel_rfl) ?_ _
    clear hHeld
    go_wp2_with fail
    refine hf.mono ?_
    rintro e w1 ⟨rfl, rfl⟩
    go_wp2
    go_ret2
    exact ⟨rfl, HA.out.1, HA.out.2⟩
  · go_simp
    refine hK.out _ _ (d0) (fun hHeld => ?_)
    clear hK K
    try simp only [Act.put, List.setIfInBounds_toArray, List.set_cons_zero, List.set_cons_succ]
    refine onlyH (i := 3) rfl (by kernel_rfl) rfl (fun K hK => ?_)
    go_simp
    refine hK.out _ _ (d0) (fun hHeld => ?_)
    clear hK K
    try simp only [Act.put, List.setIfInBounds_toArray, List.set_cons_zero, List.set_cons_succ]
    refine onlyH (i := 6) rfl (by kernel_rfl) rfl (fun K hK => ?_)
    refine wp_append_run (.tmp 9) (.tmp 11) 32 rfl rfl rfl hrun ?_
    refine hK.out _ _ (e0) (fun hHeld => ?_)
    clear hK K
    try simp only [Act.put, List.setIfInBounds_toArray, List.set_cons_zero, List.set_cons_succ]
    refine takeH (i := 7) (v := ?_) rfl (by kernel_rfl) (by kernel_rfl) (by kernel_rfl) (fun _ _ _ h => h) rfl ?_ hHeld ?_
    rotate_left
    · intro w hS; (try dsimp only at hS); obtain hS0 := hS; go_simp; first | done | (with_reducible rfl)
    try simp only [Act.put, List.setIfInBounds_toArray, List.set_cons_zero, List.set_cons_succ]
    refine onlyH (i := 8) rfl (by kernel_rfl) rfl (fun K hK => ?_)
    go_simp
    refine hK.out _ _ (g0) (fun hHeld => ?_)
    clear hK K
    try simp only [Act.put, List.setIfInBounds_toArray, List.set_cons_zero, List.set_cons_succ]
    refine wpAnyH_done (by kernel_rfl) ?_ _
    clear hHeld
    go_wp2_with fail
    refine hf.mono ?_
    rintro e w1 ⟨rfl, rfl⟩
    go_wp2
    go_ret2
    exact ⟨rfl, HA.out.1, HA.out.2⟩
end Go.Proofs.YtfeffaeinggiiaaGreatDoor
