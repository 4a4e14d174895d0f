/-
  What one block makes of the numbers. Condition: the table holds its numbers.
-/
import Derived.Test.YtdbmngbinhemeabDoorCHRounds
import Derived.Test.YtdbmngbinhemeabDoorCHSpread
import Derived.Test.YtdbmngbinhemeabDoorCSteps
import Derived.Deep.Cut
import Derived.Deep.CutRange
namespace Go.Proofs.YtdbmngbinhemeabDoor
open Go.RowKit

theorem uc_set1 (L : List UInt32) (k : Nat) (x : UInt32) : (uc L).setIfInBounds k (.int .u32 (u x)) = uc (L.set k x) := by
  unfold uc
  rw [List.setIfInBounds_toArray, List.map_set]
/-- The first so many of two lists added. -/
def acc (A B : List UInt32) (k : Nat) : List UInt32 := (List.zipWith (· + ·) A B).take k ++ A.drop k
theorem acc_zero (A B : List UInt32) : acc A B 0 = A := by simp [acc]
theorem Tryd.uEight : Tryd.prog.underlying 159 = some (.array 8 157) := by kernel_rfl
theorem Tryd.uU : Tryd.prog.underlying 157 = some (.int .u32) := by kernel_rfl
theorem Tryd.sizeU (w : World) : (sizeOf 157).run Tryd.prog w = .ok 1 w := by
  have h : (Tryd.prog.info? 157).map (·.size) = some 1 := by kernel_rfl
  cases hq : Tryd.prog.info? 157 with
  | none => simp [hq] at h
  | some i =>
    have : i.size = 1 := by simpa [hq] using h
    simp [sizeOf, typeInfo, hq, this]
theorem index35 (w : World) (E : Array Value) (k : Nat) (v : Value) (hk : k < 8) (h : E[k]? = some v) : (Instr.index 159 (.agg E) (.int .i64 (k : Int))).run Tryd.prog w = .ok v w := by
  have a1 : (0 : Int) ≤ (k : Int) := by omega
  have a2 : (k : Int) < ((8 : Nat) : Int) := by omega
  have ha : (isAgg 157).run Tryd.prog w = .ok false w := by
    unfold isAgg
    rw [Sem.run_bind, run_underlying Tryd.uU w]
    rfl
  unfold Instr.index
  simp only [asIntOf, Sem.run_bind, Sem.run_pure, Result.andThen_ok, run_underlying Tryd.uEight w]
  rw [if_pos ⟨a1, a2⟩]
  simp [part, h]
theorem acc_get (A B : List UInt32) (k : Nat) (hA : k < A.length) (hB : B.length = A.length) : (acc A B k).getD k 0 = A.getD k 0 := by
  have h : ((List.zipWith (· + ·) A B).take k).length = k := by simp; omega
  simp [acc, List.getD, List.getElem?_append_right, h]
theorem acc_set (A B : List UInt32) (k : Nat) (hA : k < A.length) (hB : B.length = A.length) : (acc A B k).set k (A.getD k 0 + B.getD k 0) = acc A B (k + 1) := by
  have h : ((List.zipWith (· + ·) A B).take k).length = k := by simp; omega
  unfold acc
  rw [List.set_append_right _ _ (by omega), h, Nat.sub_self, List.drop_eq_getElem_cons hA, List.set_cons_zero, List.take_succ_eq_append_getElem (by simp; omega)]
  simp [List.getD, hA, show k < B.length by omega]
theorem acc_length (A B : List UInt32) (k : Nat) (hk : k ≤ A.length) (hB : B.length = A.length) : (acc A B k).length = A.length := by
  simp [acc]; omega
theorem acc_all (s t : St) : acc s.list t.list 8 = (s.add t).list := rfl
theorem uc_st (s : St) : (uc s.list).size = 8 := rfl

/-- What adding finds in memory. -/
def MX (w : World) (s T : St) (k : Nat) (wr : World) : Prop := Below w.heap.size w wr ∧ wr.heap[w.heap.size]? = some (.cells (uc (acc s.list T.list k)) 159) ∧ wr.heap[w.heap.size + 1 + 1]? = some (.cells (uc [0, 0, 0, 0, 0, 0, 0, 0]) 159)

theorem st_len (s : St) : s.list.length = 8 := rfl
theorem MX.cell {w : World} {s T : St} {k : Nat} {wr : World} (h : MX w s T k wr) (hk : k < 8) : wr.cell? ⟨w.heap.size, k, none⟩ = some (.int .u32 (u (s.list.getD k 0))) ∧ wr.frozen? ⟨w.heap.size, k, none⟩ = false := by
  constructor
  · rw [cell_of_row _ _ _ _ _ _ h.2.1, uc_get _ _ (by rw [acc_length _ _ _ (by rw [st_len]; omega) (by rw [st_len, st_len]), st_len]; exact hk), acc_get _ _ _ (by rw [st_len]; exact hk) (by rw [st_len, st_len])]
  · simp [World.frozen?, h.2.1]
theorem MX.store {w : World} {s T : St} {k : Nat} {wr : World} (h : MX w s T k wr) (hk : k < 8) : MX w s T (k + 1) (wr.setCell ⟨w.heap.size, k, none⟩ (.int .u32 (u (s.list.getD k 0 + T.list.getD k 0)))) := by
  refine ⟨h.1.setCell (p := ⟨w.heap.size, k, none⟩) (Nat.le_refl _) _, ?_, ?_⟩
  · rw [heap_setCell _ _ _ _ _ _ _ h.2.1, uc_set1, acc_set _ _ _ (by rw [st_len]; exact hk) (by rw [st_len, st_len])]
  · rw [Below.heap_setCell _ _ _ _ (by simp; omega)]
    exact h.2.2

set_option maxRecDepth 20000 in
set_option maxHeartbeats 800000 in
theorem mixed_gen (w : World) (s : St) (l : List UInt8) (hl : l.length = 64) (hT : TabW w) (W : List UInt32) (T : St)
    (hsp : ∀ w, Calls Tryd.prog 148 #[.agg (bc l).toArray] w fun e w' => e = .returned (.agg (uc W)) ∧ Below w.heap.size w w')
    (hrd : ∀ w, TabW w → Calls Tryd.prog 147 #[.agg (uc s.list), .agg (uc W)] w fun e w' => e = .returned (.agg (uc T.list)) ∧ Below w.heap.size w w') :
    Calls Tryd.prog 143 #[.agg (uc s.list), .agg (bc l).toArray] w fun e w' => e = .returned (.agg (uc (s.add T).list)) ∧ Below w.heap.size w w' := by
  generalize hC : uc s.list = C
  generalize hD : (bc l).toArray = D
  have hCs : C.size = 8 := by rw [← hC]; rfl
  have hDs : D.size = 64 := by rw [← hD]; simpa [bc] using hl
  obtain ⟨w3, hw3⟩ : ∃ x, x = ((w.alloc (Obj.cells C 159)).alloc (Obj.cells D 160)).alloc (Obj.cells #[.int .u32 0, .int .u32 0, .int .u32 0, .int .u32 0, .int .u32 0, .int .u32 0, .int .u32 0, .int .u32 0] 159) := ⟨_, rfl⟩
  have f0 : w3.heap[w.heap.size]? = some (.cells C 159) := by rw [hw3, heap_past _ _ _ (by simp; omega), heap_past _ _ _ (by simp), heap_last _ _ _ rfl]
  have f1 : w3.heap[w.heap.size + 1]? = some (.cells D 160) := by rw [hw3, heap_past _ _ _ (by simp), heap_last _ _ _ (by simp)]
  have f2 : w3.heap[w.heap.size + 1 + 1]? = some (.cells (uc [0, 0, 0, 0, 0, 0, 0, 0]) 159) := by rw [hw3, heap_last _ _ _ (by simp)]; rfl
  have hb3 : Below w.heap.size w w3 := by rw [hw3]; exact (((Below.refl _ _).alloc (Nat.le_refl _) _).alloc (by simp) _).alloc (by simp; omega) _
  have HZ : Hid (w3.heap.size = w.heap.size + 3) := by show _ = _; rw [hw3]; simp
  have h0 := hT.1
  have HW := hide hw3
  have HB := hide hb3
  go_enter Tryd.func143, Tryd.ntmps143
  clear hw3
  go_upto_region 1 with fail
  rw [← HW.out]
  go_cut [5] from 8 to 24 (fun p wc' => ∃ g, p = .pointer (some ⟨g, 0, none⟩) ∧ w3.heap.size ≤ g ∧ wc'.heap[g]? = some (.cells (uc T.list) 159) ∧ Below w3.heap.size w3 wc')
  case first =>
    subst hC hD
    have hT3 := hT.keep hb3 h0
    have hz0 : 0 < w3.heap.size := by have := HZ.out; omega
    have hCi : (Tryd.prog.info? 159).map (·.size) = some (uc s.list).size := Tryd.infoEight
    have hci : (Tryd.prog.info? 159).map (·.size) = some (uc T.list).size := by rw [uc_st]; exact Tryd.infoEight
    have hcs : (uc [0, 0, 0, 0, 0, 0, 0, 0]).size = (uc T.list).size := by rw [uc_st]; rfl
    have hDi : (Tryd.prog.info? 160).map (·.size) = some (bc l).toArray.size := by rw [hDs]; exact Tryd.infoBlk
    refine wp_region_held_drew (S := fun W => Below w3.heap.size w3 W) (by kernel_rfl) ((Below.refl _ _).drew) (fun hHeld => ?_)
    refine takeH (i := 0) (v := .agg (uc s.list)) rfl (by kernel_rfl) (by kernel_rfl) (by kernel_rfl) (fun _ _ _ h => h) rfl ?_ hHeld ?_
    · intro W hS; exact run_load_arr W _ _ 159 (.tmp 2) rfl _ rfl 159 (uc s.list) (0, 0) _ ((hS.block _ (lt_of_heap f0)).trans f0) Tryd.underlying159 rfl hCi
    try simp only [Act.put, List.setIfInBounds_toArray, List.set_cons_zero, List.set_cons_succ]
    refine takeH (i := 1) (v := .agg (bc l).toArray) rfl (by kernel_rfl) (by kernel_rfl) (by kernel_rfl) (fun _ _ _ h => h) rfl ?_ hHeld ?_
    · intro W hS; exact run_load_arr W _ _ 160 (.tmp 3) rfl _ rfl 160 (bc l).toArray (0, 0) _ ((hS.block _ (lt_of_heap f1)).trans f1) Tryd.underlying160 rfl hDi
    try simp only [Act.put, List.setIfInBounds_toArray, List.set_cons_zero, List.set_cons_succ]
    refine twoH (i := 2) (j := 4) rfl rfl (by kernel_rfl) rfl rfl (fun K hK => ?_) (fun K hK => ?_)
    · have hge := hHeld.size
      go_simp
      refine (hsp _).mono ?_
      rintro e1 w4 ⟨rfl, hb4⟩
      go_simp
      refine hK.out _ _ (hHeld.trans (hb4.mono hHeld.size)) (fun hHeld => ?_)
      clear hK K
      refine twoH (i := 3) (j := 4) rfl rfl (by kernel_rfl) rfl rfl (fun K hK => ?_) (fun K hK => ?_)
      · have hge := hHeld.size
        go_simp
        refine (hrd _ (hT3.keep hHeld hz0)).mono ?_
        rintro e1 w5 ⟨rfl, hb5⟩
        go_simp
        refine hK.out _ _ (hHeld.trans (hb5.mono hHeld.size)) (fun hHeld => ?_)
        clear hK K
        have hge := hHeld.size
        refine onlyH (i := 4) rfl (by kernel_rfl) rfl (fun K hK => ?_)
        go_simp
        refine hK.out _ _ (hHeld.alloc hHeld.size _) (fun hHeld => ?_)
        have hg := heap_last w5 (Obj.cells (uc [0, 0, 0, 0, 0, 0, 0, 0]) 159) _ rfl
        clear hK K
        refine onlyH (i := 5) rfl (by kernel_rfl) rfl (fun K hK => ?_)
        refine wp_store_arr _ 159 (.tmp 5) (.tmp 11) rfl _ (uc T.list) rfl rfl 159 _ hg hci hcs (uc_one _) ?_
        intro w6 hrow hg6
        refine hK.out _ _ (hHeld.grown hg6 hHeld.size (by intro k hk; injection hk with hk; subst hk; exact hge)) (fun hHeld => ?_)
        clear hK K
        refine wpAnyH_done (by kernel_rfl) ?_ _
        simp only [Act.put]
        go_wp2_with fail
        go_meet
        exact ⟨_, rfl, hge, hrow, hHeld⟩
      · have hge := hHeld.size
        go_simp
        refine hK.out _ _ (hHeld.alloc hHeld.size _) (fun hHeld => ?_)
        have hg := heap_last w4 (Obj.cells (uc [0, 0, 0, 0, 0, 0, 0, 0]) 159) _ rfl
        clear hK K
        refine onlyH (i := 3) rfl (by kernel_rfl) rfl (fun K hK => ?_)
        go_simp
        refine (hrd _ (hT3.keep hHeld hz0)).mono ?_
        rintro e1 w5 ⟨rfl, hb5⟩
        go_simp
        refine hK.out _ _ (hHeld.trans (hb5.mono hHeld.size)) (fun hHeld => ?_)
        have hg := (hb5.block _ (lt_of_heap hg)).trans hg
        clear hK K
        refine onlyH (i := 5) rfl (by kernel_rfl) rfl (fun K hK => ?_)
        refine wp_store_arr _ 159 (.tmp 5) (.tmp 11) rfl _ (uc T.list) rfl rfl 159 _ hg hci hcs (uc_one _) ?_
        intro w6 hrow hg6
        refine hK.out _ _ (hHeld.grown hg6 hHeld.size (by intro k hk; injection hk with hk; subst hk; exact hge)) (fun hHeld => ?_)
        clear hK K
        refine wpAnyH_done (by kernel_rfl) ?_ _
        simp only [Act.put]
        go_wp2_with fail
        go_meet
        exact ⟨_, rfl, hge, hrow, hHeld⟩
    · have hge := hHeld.size
      go_simp
      refine hK.out _ _ (hHeld.alloc hHeld.size _) (fun hHeld => ?_)
      have hg := heap_last w3.drew (Obj.cells (uc [0, 0, 0, 0, 0, 0, 0, 0]) 159) _ rfl
      clear hK K
      refine onlyH (i := 2) rfl (by kernel_rfl) rfl (fun K hK => ?_)
      go_simp
      refine (hsp _).mono ?_
      rintro e1 w4 ⟨rfl, hb4⟩
      go_simp
      refine hK.out _ _ (hHeld.trans (hb4.mono hHeld.size)) (fun hHeld => ?_)
      have hg := (hb4.block _ (lt_of_heap hg)).trans hg
      clear hK K
      refine onlyH (i := 3) rfl (by kernel_rfl) rfl (fun K hK => ?_)
      go_simp
      refine (hrd _ (hT3.keep hHeld hz0)).mono ?_
      rintro e1 w5 ⟨rfl, hb5⟩
      go_simp
      refine hK.out _ _ (hHeld.trans (hb5.mono hHeld.size)) (fun hHeld => ?_)
      have hg := (hb5.block _ (lt_of_heap hg)).trans hg
      clear hK K
      refine onlyH (i := 5) rfl (by kernel_rfl) rfl (fun K hK => ?_)
      refine wp_store_arr _ 159 (.tmp 5) (.tmp 11) rfl _ (uc T.list) rfl rfl 159 _ hg hci hcs (uc_one _) ?_
      intro w6 hrow hg6
      refine hK.out _ _ (hHeld.grown hg6 hHeld.size (by intro k hk; injection hk with hk; subst hk; exact hge)) (fun hHeld => ?_)
      clear hK K
      refine wpAnyH_done (by kernel_rfl) ?_ _
      simp only [Act.put]
      go_wp2_with fail
      go_meet
      exact ⟨_, rfl, hge, hrow, hHeld⟩
  case rest =>
    revert hcut
    generalize wc = wr
    intro hcut
    obtain ⟨g, rfl, hge, hrow, hb⟩ := hcut
    clear hb3
    have hbw : Below w.heap.size w wr := HB.out.trans (hb.mono HB.out.size)
    have f0' : wr.heap[w.heap.size]? = some (.cells (uc (acc s.list T.list 0)) 159) := by
      rw [hb.block _ (lt_of_heap f0), f0, ← hC, acc_zero]
    have f2' := (hb.block _ (lt_of_heap f2)).trans f2
    have hgn : g ≠ w.heap.size := by have := HZ.out; omega
    have hR : MX w s T 0 wr := ⟨hbw, f0', f2'⟩
    have hi : (Tryd.prog.info? 159).map (·.size) = some (uc T.list).size := Tryd.infoEight
    have hget : ∀ k, k < 8 → (uc T.list)[k]? = some (.int .u32 (u (T.list.getD k 0))) := fun k hk => uc_get _ _ hk
    clear f0 f1 f2 f0' f2' hbw hb
    generalize uc T.list = E at *
    go_wp2_with (refine wpList_load_row rfl 159 (.tmp 5) rfl _ rfl 159 E (0, 0) _ hrow Tryd.underlying159 rfl hi ?_)
    go_loopw [13] (fun t wr => ∃ k : Nat, k ≤ 8 ∧ t = .int .i64 k ∧ MX w s T k wr) (fun t _ => 8 - (intOf t).toNat)
    case atStart => exact ⟨0, by omega, rfl, hR⟩
    case round =>
      clear hR
      obtain ⟨k, hk, rfl, hR⟩ := hrel
      have hp := u_add
      have hp' := u_add'
      by_cases hlt : k < 8
      · obtain ⟨hc, hf⟩ := hR.cell hlt
        have hE := index35 wr E k _ hlt (hget k hlt)
        have HN := hide (hR.store hlt)
        clear hget hrow hi hR
        generalize s.list.getD k 0 = x at *
        generalize T.list.getD k 0 = y at *
        go_wp2
        go_roundw
        case rel => exact ⟨k + 1, by omega, by go_num, HN.out⟩
        case measure => simp [intOf]; omega
      · obtain rfl : k = 8 := by omega
        clear hget hrow hi
        obtain ⟨hbw, hA, hB⟩ := hR
        rw [acc_all] at hA
        generalize hRe : s.add T = R at *
        have HR := hide hRe
        clear hRe
        have hi : (Tryd.prog.info? 159).map (·.size) = some (uc R.list).size := Tryd.infoEight
        have hs8 : (uc [0, 0, 0, 0, 0, 0, 0, 0]).size = (uc R.list).size := rfl
        have HO := hide (uc_one R.list)
        have HE : Hid (uc (s.add T).list = uc R.list) := by show _ = _; rw [HR.out]
        generalize uc R.list = F at *
        go_wp2_with (first | (refine wpList_load_row rfl 159 (.tmp 2) rfl _ rfl 159 F (0, 0) _ hA Tryd.underlying159 rfl hi ?_) | (refine wpList_store_arr _ rfl 159 (.tmp 4) (.tmp 24) rfl _ F rfl rfl 159 _ hB hi hs8 HO.out ?_; intro w2 hrow2 hg2))
        have hb2 := hbw.grown hg2 hbw.size (by intro k hk; injection hk with hk; omega)
        refine bodyPost_ret (v := .agg F) (results_cell_row rfl _ _ _ _ _ _ _ rfl hrow2 Tryd.underlying159 rfl hi) rfl ⟨ret_agg HE.out.symm, hb2⟩

theorem mixed_any (w : World) (s : St) (l : List UInt8) (hl : l.length = 64) (hT : TabW w) :
    Calls Tryd.prog 143 #[.agg (uc s.list), .agg (bc l).toArray] w fun e w' => e = .returned (.agg (uc (comp s l).list)) ∧ Below w.heap.size w w' :=
  mixed_gen w s l hl hT (ext (words l) 48) (rds (ext (words l) 48) s 64) (fun w => spread_any w l hl) (fun w hw => rounds_any w s (ext (words l) 48) (by rw [ext_length, words_length]) hw)
end Go.Proofs.YtdbmngbinhemeabDoor
