/-
  What is written: a writer in memory, and what its methods do. Conditions: lengths within reach; the writer's bytes lie at or behind its base.
-/
import Derived.Test.YtdbmngbinhemeabGreatDoorRH4
import Derived.Test.YtdbmngbinhemeabGreatDoorRP1
import Derived.Lib.OwnKind
import Derived.Deep.AppendSrc
namespace Go.Proofs.YtdbmngbinhemeabGreatDoor
open Go.RowKit

theorem own_form {w : World} {base size n : Nat} {e : TypeId} {v : Value} {xs : List Value} (h : w.ownsRow base e size v n xs) : ∃ ao cap, v = .slice ao n cap ∧ n ≤ cap ∧ cap ≤ maxLen := by
  rcases h.2 with ⟨rfl, rfl⟩ | ⟨g, cap, cur, rfl, _, _, h1, h2, _⟩
  · exact ⟨none, 0, rfl, by simp, by simp⟩
  · exact ⟨_, _, rfl, h1, h2⟩
theorem wp_append_run {P : Program} {o : Oper} {a : Act} {w : World} {K : Act → World → Prop} {Q : Exit → Act → World → Prop} (s x : Operand) (t : TypeId)
    (ho : o.op = .call { callee := .builtin .append, args := #[s, x], argTypes := #[t, t] }) {v1 v2 v' : Value} {w' : World} (hs : a.eval s = v1) (hx : a.eval x = v2)
    (hrun : (Builtin.append_ #[t, t] o.type #[v1, v2]).run P w = .ok v' w') (hK : K (a.put o.dst v') w') : o.wp P a w K Q := by
  unfold Oper.wp
  simp [execOp, ho, resolve, invoke, builtin, hs, hx, hrun, Result.andThen]
  exact hK

/-- The writer g, which began at base B or behind it, has the bytes l. -/
def Wr (B : Nat) (w : World) (g : Nat) (l : Bs) : Prop := B ≤ g ∧ ∃ v, w.heap[g]? = some (.cells #[v] 98) ∧ w.ownsRow B 5 1 v l.length (bc l)
theorem Wr.lt {B : Nat} {w : World} {g : Nat} {l : Bs} (h : Wr B w g l) : g < w.heap.size := by
  obtain ⟨_, v, h1, _⟩ := h
  exact lt_of_heap h1
theorem ne_own {B : Nat} {w : World} {g : Nat} {v : Value} {n : Nat} {xs : List Value} {cs : Array Value} {t e : TypeId} {fr : Nat × Nat} (hown : w.ownsRow B e 1 v n xs) (hh : w.heap[g]? = some (.cells cs t fr)) (hte : t ≠ e) : some g ≠ v.ownBlock := by
  intro hk
  obtain ⟨c, fz, h1⟩ := Lib.ownsRow_kind hown g hk.symm
  rw [hh] at h1
  injection h1 with h1
  injection h1 with _ h1
  exact hte h1
theorem heap_set0 {w : World} {g : Nat} {v u : Value} {t : TypeId} (h : w.heap[g]? = some (.cells #[v] t)) : (w.setCell ⟨g, 0, none⟩ u).heap[g]? = some (.cells #[u] t) := by
  rw [heap_setCell _ _ _ _ _ _ _ h]
  simp
theorem frozen0 {w : World} {g j : Nat} {cs : Array Value} {t : TypeId} (h : w.heap[g]? = some (.cells cs t)) : w.frozen? ⟨g, j, none⟩ = false := by simp [World.frozen?, h]
theorem own_set {w : World} {B g j : Nat} {v u : Value} {n : Nat} {xs : List Value} {cs : Array Value} {t : TypeId} (hown : w.ownsRow B 5 1 v n xs) (hh : w.heap[g]? = some (.cells cs t)) (hte : t ≠ 5) : (w.setCell ⟨g, j, none⟩ u).ownsRow B 5 1 v n xs :=
  ownsRow_setCell_other hown (fun e => ne_own hown hh hte e.symm) u

/-- Blocks of other types than these stay as they are. -/
def Kt (ts : List TypeId) (w w' : World) : Prop := w.heap.size ≤ w'.heap.size ∧ ∀ (k : Nat) (cs : Array Value) (t : TypeId) (fr : Nat × Nat), w.heap[k]? = some (Obj.cells cs t fr) → t ∉ ts → w'.heap[k]? = some (Obj.cells cs t fr)
theorem Kt.refl (ts : List TypeId) (w : World) : Kt ts w w := ⟨Nat.le_refl _, fun _ _ _ _ h _ => h⟩
theorem Kt.trans {ts : List TypeId} {a b c : World} (h : Kt ts a b) (k : Kt ts b c) : Kt ts a c := ⟨Nat.le_trans h.1 k.1, fun i cs t fr hi ht => k.2 i cs t fr (h.2 i cs t fr hi ht) ht⟩
theorem Kt.below {ts : List TypeId} {a b : World} (h : Below a.heap.size a b) : Kt ts a b := ⟨h.size, fun k _ _ _ hk _ => (h.block k (lt_of_heap hk)).trans hk⟩
theorem Kt.set {ts : List TypeId} {w : World} {g j : Nat} {cs : Array Value} {t : TypeId} {fr : Nat × Nat} (hh : w.heap[g]? = some (.cells cs t fr)) (ht : t ∈ ts) (u : Value) : Kt ts w (w.setCell ⟨g, j, none⟩ u) := by
  refine ⟨by simp [World.setCell], fun k cs' t' fr' hk ht' => ?_⟩
  have hne : k ≠ g := by
    rintro rfl
    rw [hh] at hk
    injection hk with hk
    injection hk with _ hk
    exact ht' (hk ▸ ht)
  rw [← hk]
  unfold World.setCell
  simp [Array.getElem?_modify, Ne.symm hne]
theorem Kt.grown {w w1 : World} {B : Nat} {v : Value} {n : Nat} {xs : List Value} {e : TypeId} {ts : List TypeId} (hown : w.ownsRow B e 1 v n xs) (hgr : w.grownBy w1 v.ownBlock) (he : e ∈ ts) : Kt ts w w1 := by
  refine ⟨hgr.size, fun k cs t fr hk ht => (hgr.block k (lt_of_heap hk) fun hq => ?_).trans hk⟩
  obtain ⟨c, fz, h1⟩ := Lib.ownsRow_kind hown k hq.symm
  rw [hk] at h1
  injection h1 with h1
  injection h1 with _ h1
  exact ht (h1 ▸ he)
/-- What a writer changes. -/
abbrev wts : List TypeId := [5, 98]

set_option maxRecDepth 20000 in
theorem layBare_any (B : Nat) (w : World) (g : Nat) (l s : Bs) (hW : Wr B w g l) (hsz : l.length + s.length ≤ 140737488355328) :
    Calls Tryz.prog 53 #[.pointer (some ⟨g, 0, none⟩), .string (strB s)] w fun e w' => e = .returned (.tuple #[]) ∧ Wr B w' g (l ++ s) ∧ Below B w w' ∧ Kt wts w w' := by
  have hB : B ≤ w.heap.size := Nat.le_of_lt (Nat.lt_of_le_of_lt hW.1 hW.lt)
  obtain ⟨hg, v, hh, hown⟩ := hW
  obtain ⟨i0, hi, hz0, hz1, hz2⟩ := info_parts Tryz.infoB
  have hc := cell_of_row w g 0 _ _ _ hh
  simp only [List.getElem?_toArray, List.getElem?_cons_zero] at hc
  have hne := ne_own hown hh (by decide)
  have hss := strB_size s
  have HN := hide hne
  have HH := hide hh
  have hcf : ∀ w1 : World, w.grownBy w1 v.ownBlock → w1.cell? ⟨g, 0, none⟩ = some v ∧ w1.frozen? ⟨g, 0, none⟩ = false := fun w1 hgr1 => by
    have hh1 : w1.heap[g]? = some (.cells #[v] 98) := (hgr1.block g (lt_of_heap hh) hne).trans hh
    exact ⟨by rw [cell_of_row w1 g 0 _ _ _ hh1]; rfl, frozen0 hh1⟩
  clear hne hh
  go_enter Tryz.func53, Tryz.ntmps53
  go_wp2_with (at_builtin; refine Lib.wpList_append_own_string _ rfl (.tmp 8) (.tmp 9) 28 9 rfl B 5 i0 Tryz.underlying28 Tryz.underlying9 hi hz0 hz1 hz2 v l.length (bc l) rfl hown (strB s) rfl (by unfold maxLen; omega) (by omega) hB ?_; intro v1 w1 hown1 hgr1 _; obtain ⟨a1, c1, rfl, -⟩ := own_form hown1; obtain ⟨hc1, hf1⟩ := hcf w1 hgr1)
  have hh1 : w1.heap[g]? = some (.cells #[v] 98) := (hgr1.block g (lt_of_heap HH.out) HN.out).trans HH.out
  have hb1 : Below B w w1 := (Below.refl _ _).grown hgr1 hB (fun k hk => (hown.lt k hk).1)
  have e : Lib.strCells (strB s) = bc s := by show bc (strB s).data.toList = _; rw [strB_list]
  have e2 : l.length + (strB s).size = (l ++ s).length := by rw [hss, List.length_append]
  rw [e, ← bc_append] at hown1
  go_end0
  refine ⟨rfl, ⟨hg, _, heap_set0 hh1, own_set ?_ hh1 (by decide)⟩, hb1.setCell (p := ⟨g, 0, none⟩) hg _, (Kt.grown hown hgr1 (by decide)).trans (Kt.set hh1 (by decide) _)⟩
  rw [← e2]
  exact hown1
-- behind this: gen_owrite.py

set_option maxRecDepth 20000 in
theorem layNumber_any (B : Nat) (w : World) (g : Nat) (l : Bs) (n : Int) (hW : Wr B w g l) (hn : In64 n) (hsz : l.length + 10 ≤ 140737488355328) :
    Calls Tryz.prog 65 #[.pointer (some ⟨g, 0, none⟩), .int .i64 n] w fun e w' => e = .returned (.tuple #[]) ∧ Wr B w' g (l ++ num n) ∧ Below B w w' ∧ Kt wts w w' := by
  have hglt := hW.lt
  obtain ⟨hg, v, hh, hown⟩ := hW
  obtain ⟨i0, hi, hz0, hz1, hz2⟩ := info_parts Tryz.infoB
  have hc := cell_of_row w g 0 _ _ _ hh
  simp only [List.getElem?_toArray, List.getElem?_cons_zero] at hc
  have hne := ne_own hown hh (by decide)
  have hBw : B ≤ w.heap.size := by omega
  have HN := hide hne
  have HH := hide hh
  clear hne hh
  have hnl := num_length n
  obtain ⟨hn0, hn1⟩ := hn
  go_enter Tryz.func65, Tryz.ntmps65
  go_wp2_with fail
  refine wp_region_held_drew (S := fun _ => True) (by kernel_rfl) (trivial) (fun hHeld => ?_)
  refine takeH (i := 0) (v := ?_) rfl (by kernel_rfl) (by kernel_rfl) (by kernel_rfl) (fun _ _ _ h => h) rfl ?_ hHeld ?_
  rotate_left
  · intro w _; go_simp; first | done | (with_reducible rfl)
  try simp only [Act.put, List.setIfInBounds_toArray, List.set_cons_zero, List.set_cons_succ]
  refine takeH (i := 1) (v := ?_) rfl (by kernel_rfl) (by kernel_rfl) (by kernel_rfl) (fun _ _ _ h => h) rfl ?_ hHeld ?_
  rotate_left
  · intro w _; go_simp; first | done | (with_reducible rfl)
  try simp only [Act.put, List.setIfInBounds_toArray, List.set_cons_zero, List.set_cons_succ]
  refine takeH (i := 5) (v := ?_) rfl (by kernel_rfl) (by kernel_rfl) (by kernel_rfl) (fun _ _ _ h => h) rfl ?_ hHeld ?_
  rotate_left
  · intro w _; go_simp; first | done | (with_reducible rfl)
  try simp only [Act.put, List.setIfInBounds_toArray, List.set_cons_zero, List.set_cons_succ]
  refine takeH (i := 2) (v := ?_) rfl (by kernel_rfl) (by kernel_rfl) (by kernel_rfl) (fun _ _ _ h => h) rfl ?_ hHeld ?_
  rotate_left
  · intro w _; go_simp; first | done | (with_reducible rfl)
  try simp only [Act.put, List.setIfInBounds_toArray, List.set_cons_zero, List.set_cons_succ]
  refine takeH (i := 3) (v := ?_) rfl (by kernel_rfl) (by kernel_rfl) (by kernel_rfl) (fun _ _ _ h => h) rfl ?_ hHeld ?_
  rotate_left
  · intro w _; go_simp; first | done | (with_reducible rfl)
  try simp only [Act.put, List.setIfInBounds_toArray, List.set_cons_zero, List.set_cons_succ]
  refine twoH (i := 4) (j := 6) rfl rfl (by kernel_rfl) rfl rfl (fun K hK => ?_) (fun K hK => ?_)
  · go_simp
    refine hK.out _ _ (trivial) (fun hHeld => ?_)
    clear hK K
    try simp only [Act.put, List.setIfInBounds_toArray, List.set_cons_zero, List.set_cons_succ]
    refine onlyH (i := 6) rfl (by kernel_rfl) rfl (fun K hK => ?_)
    go_simp
    refine (putNum_any _ n hn0 hn1).mono ?_
    rintro e w1 ⟨ag, m1, c1, rfl, hm1, hmc, hsl1, hb1⟩
    refine hK.out _ _ (trivial) (fun hHeld => ?_)
    clear hK K
    try simp only [Act.put, List.setIfInBounds_toArray, List.set_cons_zero, List.set_cons_succ]
    have hb1' : Below w.heap.size w w1 := (Below.refl w.heap.size w).drew.trans hb1
    have hh1 : w1.heap[g]? = some (.cells #[v] 98) := (hb1'.block g hglt).trans HH.out
    have hown1 : w1.ownsRow B 5 1 v l.length (bc l) := hown.kept (row := none) ⟨hb1'.os, hb1'.tape, hb1'.output, hb1'.size, fun k hk _ => hb1'.block k hk⟩ (by cases hq : v.ownBlock with | none => exact .inl rfl | some k => exact .inr (by simp))
    have hm1' := hm1.out
    obtain ⟨v2, w2, hrun, hown2, hgr2, -⟩ := run_append_own (P := Tryz.prog) w1 B 28 28 5 i0 (.int .u8 0) 1 1 Tryz.underlying28 hi hz0 hz1 hz2 rfl (by decide) v l.length (bc l) hown1 ⟨ag, 0, none⟩ m1 c1 (bc (num n)) (by rw [bc_length]; omega) (hsl1.cells (Below.refl _ _) _ rfl) (bc_one _) (by unfold maxLen; omega) (by omega) (Nat.le_trans hBw hb1'.size)
    obtain ⟨a2, c2, rfl, -⟩ := own_form hown2
    have hh2 : w2.heap[g]? = some (.cells #[v] 98) := (hgr2.block g (lt_of_heap hh1) HN.out).trans hh1
    have hb2 : Below B w w2 := ((hb1'.mono hBw).grown hgr2 (Nat.le_trans hBw hb1'.size) (fun k hk => (hown.lt k hk).1))
    have hc2 := cell_of_row w2 g 0 _ _ _ hh2
    simp only [List.getElem?_toArray, List.getElem?_cons_zero] at hc2
    have hf2 := frozen0 (j := 0) hh2
    have e2 : l.length + m1 = (l ++ num n).length := by rw [List.length_append, hm1']
    rw [← bc_append, e2] at hown2
    have HO := hide hown2
    have HB := hide hb2
    have HH2 := hide hh2
    have HE := hide e2
    have HKT : Hid (Kt wts w w2) := hide ((Kt.below hb1').trans (Kt.grown hown1 hgr2 (by decide)))
    clear hown2 hb2 hh2 hgr2 hown1 hh1 hc hm1' e2
    refine onlyH (i := 7) rfl (by kernel_rfl) rfl (fun K hK => ?_)
    refine wp_append_run (.tmp 8) (.tmp 10) 28 rfl rfl rfl hrun ?_
    refine hK.out _ _ (trivial) (fun hHeld => ?_)
    clear hK K
    try simp only [Act.put, List.setIfInBounds_toArray, List.set_cons_zero, List.set_cons_succ]
    refine takeH (i := 8) (v := ?_) rfl (by kernel_rfl) (by kernel_rfl) (by kernel_rfl) (fun _ _ _ h => h) rfl ?_ hHeld ?_
    rotate_left
    · intro w _; go_simp; first | done | (with_reducible rfl)
    try simp only [Act.put, List.setIfInBounds_toArray, List.set_cons_zero, List.set_cons_succ]
    refine takeH (i := 9) (v := ?_) rfl (by kernel_rfl) (by kernel_rfl) (by kernel_rfl) (fun _ _ _ h => h) rfl ?_ hHeld ?_
    rotate_left
    · intro w _; go_simp; first | done | (with_reducible rfl)
    try simp only [Act.put, List.setIfInBounds_toArray, List.set_cons_zero, List.set_cons_succ]
    refine onlyH (i := 10) rfl (by kernel_rfl) rfl (fun K hK => ?_)
    go_simp
    refine hK.out _ _ (trivial) (fun hHeld => ?_)
    clear hK K
    try simp only [Act.put, List.setIfInBounds_toArray, List.set_cons_zero, List.set_cons_succ]
    refine wpAnyH_done (by kernel_rfl) ?_ _
    clear hHeld
    go_wp2
    go_end0
    refine ⟨rfl, ⟨hg, _, heap_set0 HH2.out, own_set ?_ HH2.out (by decide)⟩, HB.out.setCell (p := ⟨g, 0, none⟩) hg _, HKT.out.trans (Kt.set HH2.out (by decide) _)⟩
    have := HO.out
    rw [← HE.out] at this ⊢
    exact this
  · go_simp
    refine (putNum_any _ n hn0 hn1).mono ?_
    rintro e w1 ⟨ag, m1, c1, rfl, hm1, hmc, hsl1, hb1⟩
    have hc1 : w1.cell? ⟨g, 0, none⟩ = some v := (hb1.cell (p := ⟨g, 0, none⟩) hglt).trans hc
    refine hK.out _ _ (trivial) (fun hHeld => ?_)
    clear hK K
    try simp only [Act.put, List.setIfInBounds_toArray, List.set_cons_zero, List.set_cons_succ]
    refine onlyH (i := 4) rfl (by kernel_rfl) rfl (fun K hK => ?_)
    go_simp
    refine hK.out _ _ (trivial) (fun hHeld => ?_)
    clear hK K
    try simp only [Act.put, List.setIfInBounds_toArray, List.set_cons_zero, List.set_cons_succ]
    clear hc1
    have hb1' : Below w.heap.size w w1 := (Below.refl w.heap.size w).drew.trans hb1
    have hh1 : w1.heap[g]? = some (.cells #[v] 98) := (hb1'.block g hglt).trans HH.out
    have hown1 : w1.ownsRow B 5 1 v l.length (bc l) := hown.kept (row := none) ⟨hb1'.os, hb1'.tape, hb1'.output, hb1'.size, fun k hk _ => hb1'.block k hk⟩ (by cases hq : v.ownBlock with | none => exact .inl rfl | some k => exact .inr (by simp))
    have hm1' := hm1.out
    obtain ⟨v2, w2, hrun, hown2, hgr2, -⟩ := run_append_own (P := Tryz.prog) w1 B 28 28 5 i0 (.int .u8 0) 1 1 Tryz.underlying28 hi hz0 hz1 hz2 rfl (by decide) v l.length (bc l) hown1 ⟨ag, 0, none⟩ m1 c1 (bc (num n)) (by rw [bc_length]; omega) (hsl1.cells (Below.refl _ _) _ rfl) (bc_one _) (by unfold maxLen; omega) (by omega) (Nat.le_trans hBw hb1'.size)
    obtain ⟨a2, c2, rfl, -⟩ := own_form hown2
    have hh2 : w2.heap[g]? = some (.cells #[v] 98) := (hgr2.block g (lt_of_heap hh1) HN.out).trans hh1
    have hb2 : Below B w w2 := ((hb1'.mono hBw).grown hgr2 (Nat.le_trans hBw hb1'.size) (fun k hk => (hown.lt k hk).1))
    have hc2 := cell_of_row w2 g 0 _ _ _ hh2
    simp only [List.getElem?_toArray, List.getElem?_cons_zero] at hc2
    have hf2 := frozen0 (j := 0) hh2
    have e2 : l.length + m1 = (l ++ num n).length := by rw [List.length_append, hm1']
    rw [← bc_append, e2] at hown2
    have HO := hide hown2
    have HB := hide hb2
    have HH2 := hide hh2
    have HE := hide e2
    have HKT : Hid (Kt wts w w2) := hide ((Kt.below hb1').trans (Kt.grown hown1 hgr2 (by decide)))
    clear hown2 hb2 hh2 hgr2 hown1 hh1 hc hm1' e2
    refine onlyH (i := 7) rfl (by kernel_rfl) rfl (fun K hK => ?_)
    refine wp_append_run (.tmp 8) (.tmp 10) 28 rfl rfl rfl hrun ?_
    refine hK.out _ _ (trivial) (fun hHeld => ?_)
    clear hK K
    try simp only [Act.put, List.setIfInBounds_toArray, List.set_cons_zero, List.set_cons_succ]
    refine takeH (i := 8) (v := ?_) rfl (by kernel_rfl) (by kernel_rfl) (by kernel_rfl) (fun _ _ _ h => h) rfl ?_ hHeld ?_
    rotate_left
    · intro w _; go_simp; first | done | (with_reducible rfl)
    try simp only [Act.put, List.setIfInBounds_toArray, List.set_cons_zero, List.set_cons_succ]
    refine takeH (i := 9) (v := ?_) rfl (by kernel_rfl) (by kernel_rfl) (by kernel_rfl) (fun _ _ _ h => h) rfl ?_ hHeld ?_
    rotate_left
    · intro w _; go_simp; first | done | (with_reducible rfl)
    try simp only [Act.put, List.setIfInBounds_toArray, List.set_cons_zero, List.set_cons_succ]
    refine onlyH (i := 10) rfl (by kernel_rfl) rfl (fun K hK => ?_)
    go_simp
    refine hK.out _ _ (trivial) (fun hHeld => ?_)
    clear hK K
    try simp only [Act.put, List.setIfInBounds_toArray, List.set_cons_zero, List.set_cons_succ]
    refine wpAnyH_done (by kernel_rfl) ?_ _
    clear hHeld
    go_wp2
    go_end0
    refine ⟨rfl, ⟨hg, _, heap_set0 HH2.out, own_set ?_ HH2.out (by decide)⟩, HB.out.setCell (p := ⟨g, 0, none⟩) hg _, HKT.out.trans (Kt.set HH2.out (by decide) _)⟩
    have := HO.out
    rw [← HE.out] at this ⊢
    exact this

set_option maxRecDepth 20000 in
theorem layText_any (B : Nat) (w : World) (g : Nat) (l : Bs) (s : Bs) (hW : Wr B w g l)  (hsz : l.length + (txt s).length ≤ 140737488355328) :
    Calls Tryz.prog 66 #[.pointer (some ⟨g, 0, none⟩), .string (strB s)] w fun e w' => e = .returned (.tuple #[]) ∧ Wr B w' g (l ++ txt s) ∧ Below B w w' ∧ Kt wts w w' := by
  have hglt := hW.lt
  obtain ⟨hg, v, hh, hown⟩ := hW
  obtain ⟨i0, hi, hz0, hz1, hz2⟩ := info_parts Tryz.infoB
  have hc := cell_of_row w g 0 _ _ _ hh
  simp only [List.getElem?_toArray, List.getElem?_cons_zero] at hc
  have hne := ne_own hown hh (by decide)
  have hBw : B ≤ w.heap.size := by omega
  have HN := hide hne
  have HH := hide hh
  clear hne hh
  have hpt : ∀ W, Calls Tryz.prog 94 #[.slice none 0 0, .string (strB s)] W fun e w' => ∃ g m cap, e = .returned (.slice (some ⟨g, 0, none⟩) m cap) ∧ Hid (m = (txt s).length) ∧ m ≤ cap ∧
      Sl w' (.slice (some ⟨g, 0, none⟩) m cap) (txt s) ∧ Below W.heap.size W w' := fun W => by
    have := putTxt_any W (strB s) (by rw [strB_size]; unfold txt at hsz; simp at hsz; omega)
    rw [strB_list] at this
    exact this
  go_enter Tryz.func66, Tryz.ntmps66
  go_wp2_with fail
  refine wp_region_held_drew (S := fun _ => True) (by kernel_rfl) (trivial) (fun hHeld => ?_)
  refine takeH (i := 0) (v := ?_) rfl (by kernel_rfl) (by kernel_rfl) (by kernel_rfl) (fun _ _ _ h => h) rfl ?_ hHeld ?_
  rotate_left
  · intro w _; go_simp; first | done | (with_reducible rfl)
  try simp only [Act.put, List.setIfInBounds_toArray, List.set_cons_zero, List.set_cons_succ]
  refine takeH (i := 1) (v := ?_) rfl (by kernel_rfl) (by kernel_rfl) (by kernel_rfl) (fun _ _ _ h => h) rfl ?_ hHeld ?_
  rotate_left
  · intro w _; go_simp; first | done | (with_reducible rfl)
  try simp only [Act.put, List.setIfInBounds_toArray, List.set_cons_zero, List.set_cons_succ]
  refine takeH (i := 5) (v := ?_) rfl (by kernel_rfl) (by kernel_rfl) (by kernel_rfl) (fun _ _ _ h => h) rfl ?_ hHeld ?_
  rotate_left
  · intro w _; go_simp; first | done | (with_reducible rfl)
  try simp only [Act.put, List.setIfInBounds_toArray, List.set_cons_zero, List.set_cons_succ]
  refine takeH (i := 2) (v := ?_) rfl (by kernel_rfl) (by kernel_rfl) (by kernel_rfl) (fun _ _ _ h => h) rfl ?_ hHeld ?_
  rotate_left
  · intro w _; go_simp; first | done | (with_reducible rfl)
  try simp only [Act.put, List.setIfInBounds_toArray, List.set_cons_zero, List.set_cons_succ]
  refine takeH (i := 3) (v := ?_) rfl (by kernel_rfl) (by kernel_rfl) (by kernel_rfl) (fun _ _ _ h => h) rfl ?_ hHeld ?_
  rotate_left
  · intro w _; go_simp; first | done | (with_reducible rfl)
  try simp only [Act.put, List.setIfInBounds_toArray, List.set_cons_zero, List.set_cons_succ]
  refine twoH (i := 4) (j := 6) rfl rfl (by kernel_rfl) rfl rfl (fun K hK => ?_) (fun K hK => ?_)
  · go_simp
    refine hK.out _ _ (trivial) (fun hHeld => ?_)
    clear hK K
    try simp only [Act.put, List.setIfInBounds_toArray, List.set_cons_zero, List.set_cons_succ]
    refine onlyH (i := 6) rfl (by kernel_rfl) rfl (fun K hK => ?_)
    go_simp
    refine (hpt _).mono ?_
    rintro e w1 ⟨ag, m1, c1, rfl, hm1, hmc, hsl1, hb1⟩
    refine hK.out _ _ (trivial) (fun hHeld => ?_)
    clear hK K
    try simp only [Act.put, List.setIfInBounds_toArray, List.set_cons_zero, List.set_cons_succ]
    have hb1' : Below w.heap.size w w1 := (Below.refl w.heap.size w).drew.trans hb1
    have hh1 : w1.heap[g]? = some (.cells #[v] 98) := (hb1'.block g hglt).trans HH.out
    have hown1 : w1.ownsRow B 5 1 v l.length (bc l) := hown.kept (row := none) ⟨hb1'.os, hb1'.tape, hb1'.output, hb1'.size, fun k hk _ => hb1'.block k hk⟩ (by cases hq : v.ownBlock with | none => exact .inl rfl | some k => exact .inr (by simp))
    have hm1' := hm1.out
    obtain ⟨v2, w2, hrun, hown2, hgr2, -⟩ := run_append_own (P := Tryz.prog) w1 B 28 28 5 i0 (.int .u8 0) 1 1 Tryz.underlying28 hi hz0 hz1 hz2 rfl (by decide) v l.length (bc l) hown1 ⟨ag, 0, none⟩ m1 c1 (bc (txt s)) (by rw [bc_length]; omega) (hsl1.cells (Below.refl _ _) _ rfl) (bc_one _) (by unfold maxLen; omega) (by omega) (Nat.le_trans hBw hb1'.size)
    obtain ⟨a2, c2, rfl, -⟩ := own_form hown2
    have hh2 : w2.heap[g]? = some (.cells #[v] 98) := (hgr2.block g (lt_of_heap hh1) HN.out).trans hh1
    have hb2 : Below B w w2 := ((hb1'.mono hBw).grown hgr2 (Nat.le_trans hBw hb1'.size) (fun k hk => (hown.lt k hk).1))
    have hc2 := cell_of_row w2 g 0 _ _ _ hh2
    simp only [List.getElem?_toArray, List.getElem?_cons_zero] at hc2
    have hf2 := frozen0 (j := 0) hh2
    have e2 : l.length + m1 = (l ++ txt s).length := by rw [List.length_append, hm1']
    rw [← bc_append, e2] at hown2
    have HO := hide hown2
    have HB := hide hb2
    have HH2 := hide hh2
    have HE := hide e2
    have HKT : Hid (Kt wts w w2) := hide ((Kt.below hb1').trans (Kt.grown hown1 hgr2 (by decide)))
    clear hown2 hb2 hh2 hgr2 hown1 hh1 hc hm1' e2
    refine onlyH (i := 7) rfl (by kernel_rfl) rfl (fun K hK => ?_)
    refine wp_append_run (.tmp 8) (.tmp 10) 28 rfl rfl rfl hrun ?_
    refine hK.out _ _ (trivial) (fun hHeld => ?_)
    clear hK K
    try simp only [Act.put, List.setIfInBounds_toArray, List.set_cons_zero, List.set_cons_succ]
    refine takeH (i := 8) (v := ?_) rfl (by kernel_rfl) (by kernel_rfl) (by kernel_rfl) (fun _ _ _ h => h) rfl ?_ hHeld ?_
    rotate_left
    · intro w _; go_simp; first | done | (with_reducible rfl)
    try simp only [Act.put, List.setIfInBounds_toArray, List.set_cons_zero, List.set_cons_succ]
    refine takeH (i := 9) (v := ?_) rfl (by kernel_rfl) (by kernel_rfl) (by kernel_rfl) (fun _ _ _ h => h) rfl ?_ hHeld ?_
    rotate_left
    · intro w _; go_simp; first | done | (with_reducible rfl)
    try simp only [Act.put, List.setIfInBounds_toArray, List.set_cons_zero, List.set_cons_succ]
    refine onlyH (i := 10) rfl (by kernel_rfl) rfl (fun K hK => ?_)
    go_simp
    refine hK.out _ _ (trivial) (fun hHeld => ?_)
    clear hK K
    try simp only [Act.put, List.setIfInBounds_toArray, List.set_cons_zero, List.set_cons_succ]
    refine wpAnyH_done (by kernel_rfl) ?_ _
    clear hHeld
    go_wp2
    go_end0
    refine ⟨rfl, ⟨hg, _, heap_set0 HH2.out, own_set ?_ HH2.out (by decide)⟩, HB.out.setCell (p := ⟨g, 0, none⟩) hg _, HKT.out.trans (Kt.set HH2.out (by decide) _)⟩
    have := HO.out
    rw [← HE.out] at this ⊢
    exact this
  · go_simp
    refine (hpt _).mono ?_
    rintro e w1 ⟨ag, m1, c1, rfl, hm1, hmc, hsl1, hb1⟩
    have hc1 : w1.cell? ⟨g, 0, none⟩ = some v := (hb1.cell (p := ⟨g, 0, none⟩) hglt).trans hc
    refine hK.out _ _ (trivial) (fun hHeld => ?_)
    clear hK K
    try simp only [Act.put, List.setIfInBounds_toArray, List.set_cons_zero, List.set_cons_succ]
    refine onlyH (i := 4) rfl (by kernel_rfl) rfl (fun K hK => ?_)
    go_simp
    refine hK.out _ _ (trivial) (fun hHeld => ?_)
    clear hK K
    try simp only [Act.put, List.setIfInBounds_toArray, List.set_cons_zero, List.set_cons_succ]
    clear hc1
    have hb1' : Below w.heap.size w w1 := (Below.refl w.heap.size w).drew.trans hb1
    have hh1 : w1.heap[g]? = some (.cells #[v] 98) := (hb1'.block g hglt).trans HH.out
    have hown1 : w1.ownsRow B 5 1 v l.length (bc l) := hown.kept (row := none) ⟨hb1'.os, hb1'.tape, hb1'.output, hb1'.size, fun k hk _ => hb1'.block k hk⟩ (by cases hq : v.ownBlock with | none => exact .inl rfl | some k => exact .inr (by simp))
    have hm1' := hm1.out
    obtain ⟨v2, w2, hrun, hown2, hgr2, -⟩ := run_append_own (P := Tryz.prog) w1 B 28 28 5 i0 (.int .u8 0) 1 1 Tryz.underlying28 hi hz0 hz1 hz2 rfl (by decide) v l.length (bc l) hown1 ⟨ag, 0, none⟩ m1 c1 (bc (txt s)) (by rw [bc_length]; omega) (hsl1.cells (Below.refl _ _) _ rfl) (bc_one _) (by unfold maxLen; omega) (by omega) (Nat.le_trans hBw hb1'.size)
    obtain ⟨a2, c2, rfl, -⟩ := own_form hown2
    have hh2 : w2.heap[g]? = some (.cells #[v] 98) := (hgr2.block g (lt_of_heap hh1) HN.out).trans hh1
    have hb2 : Below B w w2 := ((hb1'.mono hBw).grown hgr2 (Nat.le_trans hBw hb1'.size) (fun k hk => (hown.lt k hk).1))
    have hc2 := cell_of_row w2 g 0 _ _ _ hh2
    simp only [List.getElem?_toArray, List.getElem?_cons_zero] at hc2
    have hf2 := frozen0 (j := 0) hh2
    have e2 : l.length + m1 = (l ++ txt s).length := by rw [List.length_append, hm1']
    rw [← bc_append, e2] at hown2
    have HO := hide hown2
    have HB := hide hb2
    have HH2 := hide hh2
    have HE := hide e2
    have HKT : Hid (Kt wts w w2) := hide ((Kt.below hb1').trans (Kt.grown hown1 hgr2 (by decide)))
    clear hown2 hb2 hh2 hgr2 hown1 hh1 hc hm1' e2
    refine onlyH (i := 7) rfl (by kernel_rfl) rfl (fun K hK => ?_)
    refine wp_append_run (.tmp 8) (.tmp 10) 28 rfl rfl rfl hrun ?_
    refine hK.out _ _ (trivial) (fun hHeld => ?_)
    clear hK K
    try simp only [Act.put, List.setIfInBounds_toArray, List.set_cons_zero, List.set_cons_succ]
    refine takeH (i := 8) (v := ?_) rfl (by kernel_rfl) (by kernel_rfl) (by kernel_rfl) (fun _ _ _ h => h) rfl ?_ hHeld ?_
    rotate_left
    · intro w _; go_simp; first | done | (with_reducible rfl)
    try simp only [Act.put, List.setIfInBounds_toArray, List.set_cons_zero, List.set_cons_succ]
    refine takeH (i := 9) (v := ?_) rfl (by kernel_rfl) (by kernel_rfl) (by kernel_rfl) (fun _ _ _ h => h) rfl ?_ hHeld ?_
    rotate_left
    · intro w _; go_simp; first | done | (with_reducible rfl)
    try simp only [Act.put, List.setIfInBounds_toArray, List.set_cons_zero, List.set_cons_succ]
    refine onlyH (i := 10) rfl (by kernel_rfl) rfl (fun K hK => ?_)
    go_simp
    refine hK.out _ _ (trivial) (fun hHeld => ?_)
    clear hK K
    try simp only [Act.put, List.setIfInBounds_toArray, List.set_cons_zero, List.set_cons_succ]
    refine wpAnyH_done (by kernel_rfl) ?_ _
    clear hHeld
    go_wp2
    go_end0
    refine ⟨rfl, ⟨hg, _, heap_set0 HH2.out, own_set ?_ HH2.out (by decide)⟩, HB.out.setCell (p := ⟨g, 0, none⟩) hg _, HKT.out.trans (Kt.set HH2.out (by decide) _)⟩
    have := HO.out
    rw [← HE.out] at this ⊢
    exact this
end Go.Proofs.YtdbmngbinhemeabGreatDoor
