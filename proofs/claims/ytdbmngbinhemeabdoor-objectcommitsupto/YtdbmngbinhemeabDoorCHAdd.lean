/-
  What taking up a text does to the mixer. Condition: the table holds its numbers.
-/
import Derived.Test.YtdbmngbinhemeabDoorCHFeed
import Derived.Test.YtdbmngbinhemeabDoorCSteps
namespace Go.Proofs.YtdbmngbinhemeabDoor
open Go.RowKit

theorem slice36l (w : World) (b off l : Nat) (h3 : l < 64) :
    (Instr.sliceAt 160 (.pointer (some ⟨b, off, none⟩)) (some (.int .i64 (l : Int))) none none).run Tryd.prog w = .ok (.slice (some ⟨b, off + l, none⟩) (64 - l) (64 - l)) w := by
  have e : ¬ 64 = l := by omega
  have a1 : (l : Int) ≤ 64 := by omega
  simp [Instr.sliceAt, Instr.sureAddr, run_underlying Tryd.uBlk, Instr.sliceBounds, run_sliceBound, e, a1, Addr.add_mid, Result.andThen]

set_option maxRecDepth 20000 in
set_option maxHeartbeats 800000 in
theorem add_any (w : World) (g : Nat) (l : List UInt8) (part : List UInt8) (hF : Fed w g l) (hT : TabW w) (hg0 : 0 < g) :
    Calls Tryd.prog 130 #[.pointer (some ⟨g, 0, none⟩), .string (strB part)] w fun e w' => e = .returned (.tuple #[]) ∧ Fed w' g (l ++ part) ∧ Below g w w' := by
  go_enter Tryd.func130, Tryd.ntmps130
  go_wp2_with fail
  go_loopw [1] (fun x wr => ∃ done rest, part = done ++ rest ∧ x = .string (strB rest) ∧ Fed wr g (l ++ done) ∧ Below g w wr)
    (fun x _ => match x with | .string s => s.size | _ => 0)
  case atStart => exact ⟨[], part, rfl, rfl, by simpa using hF, Below.refl _ _⟩
  case round =>
    obtain ⟨done, rest, hp, rfl, hR, hb⟩ := hrel
    have hTr := hT.keep hb hg0
    have hss := strB_size rest
    by_cases hne : rest = []
    · subst hne
      have hsz0 : (strB []).size = 0 := rfl
      rw [List.append_nil] at hp
      subst hp
      clear hss
      go_wp2
      go_end0
      exact ⟨rfl, hR, hb⟩
    · have hpos : 0 < rest.length := List.length_pos_iff.2 hne
      obtain ⟨B, hrow, hB, htk⟩ := hR
      have hla : l ++ (done ++ rest) = (l ++ done) ++ rest := by simp
      have HP := hide hp
      have HLA := hide hla
      have HTR := hide hTr
      have HBW := hide hb
      have hstr : ∀ r, part = done ++ rest → l ++ (done ++ r) = (l ++ done) ++ r := fun r _ => by simp
      have HSTR := hide hstr
      clear hp hla hTr hb hstr
      generalize l ++ done = la at *
      obtain ⟨h, hh⟩ : ∃ h, h = la.length % 64 := ⟨_, rfl⟩
      have hh64 : h < 64 := by omega
      obtain ⟨n, hn⟩ : ∃ n, n = min rest.length (64 - h) := ⟨_, rfl⟩
      have hn0 : 0 < n := by omega
      have hn1 : n ≤ rest.length := by omega
      have hn2 : h + n ≤ 64 := by omega
      rw [← hh] at hrow htk
      have hfs := fun hlt => feed_some la B (rest.take n) n hB (by rw [← hh]; exact htk) (by simp; omega) hlt
      have hff := fun hlt => feed_full la B (rest.take n) n hB (by rw [← hh]; exact htk) (by simp; omega) hlt
      rw [← hh] at hfs hff
      have hB' : (B.take h ++ rest.take n ++ B.drop (h + n)).length = 64 := by simp; omega
      generalize hS : mix st0 la (la.length / 64) = S at *
      have hsl := fun W => slice36l W g 8 h hh64
      have hcell : wr.cell? ⟨g, 72, none⟩ = some (.int .i64 (h : Int)) := by
        rw [cell_of_row _ _ _ _ _ _ hrow, List.getElem?_toArray, mcL_held _ _ _ hB]
      have hcp := run_copy_min (P := Tryd.prog) wr.drew 71 9 3 5 g (8 + h) (64 - h) (64 - h) n (strB rest) _ 162 Tryd.underlying71 (by kernel_rfl) hrow (by rw [strB_size]; exact hn.symm) (by rw [List.size_toArray, mcL_length _ _ _ hB]; omega)
      have hrow1 : (wr.drew.setRow g ((mcL S B h).take (8 + h) ++ bc ((strB rest).data.toList.take n) ++ (mcL S B h).drop (8 + h + n)).toArray).heap[g]? = some (.cells (mcL S (B.take h ++ rest.take n ++ B.drop (h + n)) h).toArray 162) := by
        rw [setRow_heap wr.drew _ _ _ _ _ hrow, strB_list, mcL_copy S B h n (rest.take n) hB (by simp; omega) hn2]
      have hb1 : Below g w (wr.drew.setRow g ((mcL S B h).take (8 + h) ++ bc ((strB rest).data.toList.take n) ++ (mcL S B h).drop (8 + h + n)).toArray) :=
        HBW.out.trans ⟨rfl, rfl, rfl, by simp [World.setRow], fun k hk => setRow_other _ _ _ _ (by omega)⟩
      generalize wr.drew.setRow g ((mcL S B h).take (8 + h) ++ bc ((strB rest).data.toList.take n) ++ (mcL S B h).drop (8 + h + n)).toArray = W1 at *
      have HFS := hide hfs
      have HFF := hide hff
      have HH := hide hh
      have HN := hide hn
      have HTK := hide htk
      have HS := hide hS
      have HB := hide hB'
      have hsz' : (strB rest).size = rest.length := strB_size rest
      clear hfs hff hh hn htk hS hrow hB hss
      have hc1 : W1.cell? ⟨g, 72, none⟩ = some (.int .i64 (h : Int)) := by
        rw [cell_of_row _ _ _ _ _ _ hrow1, List.getElem?_toArray, mcL_held _ _ _ hB']
      have hf1 : W1.frozen? ⟨g, 72, none⟩ = false := by simp [World.frozen?, hrow1]
      have hex := strB_drop rest n
      have hrow2 : (W1.setCell ⟨g, 72, none⟩ (.int .i64 ((h : Int) + (n : Int)))).heap[g]? = some (.cells (mcL S (B.take h ++ rest.take n ++ B.drop (h + n)) (h + n)).toArray 162) := by
        rw [heap_setCell _ _ _ _ _ _ _ hrow1, List.setIfInBounds_toArray, show (h : Int) + (n : Int) = ((h + n : Nat) : Int) from by omega, mcL_set _ _ _ _ hB']
      have hb2 : Below g w (W1.setCell ⟨g, 72, none⟩ (.int .i64 ((h : Int) + (n : Int)))) := hb1.setCell (p := ⟨g, 72, none⟩) (Nat.le_refl _) _
      have HR2 := hide hrow2
      have HB2 := hide hb2
      clear hrow1 hb1 hrow2 hb2 hB'
      by_cases hfull : h + n = 64
      · have hfi : (h : Int) + (n : Int) = 64 := by omega
        obtain ⟨e1, e2, e3, e4⟩ := HFF.out hfull
        have HE := hide (And.intro e1 (And.intro e2 e4))
        clear e1 e2 e4 HFF HFS
        generalize B.take h ++ rest.take n ++ B.drop (h + n) = B' at *
        rw [hfull] at HR2
        rw [hfi] at HR2 HB2
        go_wp2_with fail
        go_region
        go_wp2_with fail
        -- region
        generalize W1.setCell ⟨g, 72, none⟩ (.int .i64 64) = W2 at *
        have hB64 := e3
        have hS1 : W2.drew.heap[g]? = some (.cells (mcL S B' 64).toArray 162) := HR2.out
        have hTW : TabW W2.drew := (hT.keep HB2.out hg0).keep ((Below.refl g W2).drew) hg0
        have hcS : (Tryd.prog.info? 159).map (·.size) = some (uc S.list).toList.length := Tryd.infoEight
        have hcB : (Tryd.prog.info? 160).map (·.size) = some (bc B').length := by rw [bc_length, hB64]; exact Tryd.infoBlk
        obtain ⟨T, hTe⟩ : ∃ T, T = comp S B' := ⟨_, rfl⟩
        have hmx : ∀ W, TabW W → Calls Tryd.prog 143 #[.agg (uc S.list), .agg (bc B').toArray] W fun e w' => e = .returned (.agg (uc T.list)) ∧ Below W.heap.size W w' := fun W hW => by rw [hTe]; exact mixed_any W S B' hB64 hW
        have hcC : (Tryd.prog.info? 159).map (·.size) = some (uc T.list).size := Tryd.infoEight
        have HTE := hide hTe
        clear hTe
        refine wp_region_held_drew (S := fun _ => True) (by kernel_rfl) trivial (fun hHeld => ?_)
        refine takeH (i := 0) (v := ?_) rfl (by kernel_rfl) (by kernel_rfl) (by kernel_rfl) (fun _ _ _ h => h) rfl ?_ hHeld ?_
        rotate_left
        · intro w _; go_simp; first | done | (with_reducible rfl)
        try simp only [Act.put, List.setIfInBounds_toArray, List.set_cons_zero, List.set_cons_succ]
        refine takeH (i := 1) (v := ?_) rfl (by kernel_rfl) (by kernel_rfl) (by kernel_rfl) (fun _ _ _ h => h) rfl ?_ hHeld ?_
        rotate_left
        · intro w _; go_simp; first | done | (with_reducible rfl)
        try simp only [Act.put, List.setIfInBounds_toArray, List.set_cons_zero, List.set_cons_succ]
        refine takeH (i := 2) (v := ?_) rfl (by kernel_rfl) (by kernel_rfl) (by kernel_rfl) (fun _ _ _ h => h) rfl ?_ hHeld ?_
        rotate_left
        · intro w _; go_simp; first | done | (with_reducible rfl)
        try simp only [Act.put, List.setIfInBounds_toArray, List.set_cons_zero, List.set_cons_succ]
        refine takeH (i := 3) (v := ?_) rfl (by kernel_rfl) (by kernel_rfl) (by kernel_rfl) (fun _ _ _ h => h) rfl ?_ hHeld ?_
        rotate_left
        · intro w _; go_simp; first | done | (with_reducible rfl)
        try simp only [Act.put, List.setIfInBounds_toArray, List.set_cons_zero, List.set_cons_succ]
        refine takeH (i := 5) (v := ?_) rfl (by kernel_rfl) (by kernel_rfl) (by kernel_rfl) (fun _ _ _ h => h) rfl ?_ hHeld ?_
        rotate_left
        · intro w _; go_simp; first | done | (with_reducible rfl)
        try simp only [Act.put, List.setIfInBounds_toArray, List.set_cons_zero, List.set_cons_succ]
        refine takeH (i := 6) (v := ?_) rfl (by kernel_rfl) (by kernel_rfl) (by kernel_rfl) (fun _ _ _ h => h) rfl ?_ hHeld ?_
        rotate_left
        · intro w _; go_simp; first | done | (with_reducible rfl)
        try simp only [Act.put, List.setIfInBounds_toArray, List.set_cons_zero, List.set_cons_succ]
        refine takeH (i := 7) (v := ?_) rfl (by kernel_rfl) (by kernel_rfl) (by kernel_rfl) (fun _ _ _ h => h) rfl ?_ hHeld ?_
        rotate_left
        · intro w _; go_simp; first | done | (with_reducible rfl)
        try simp only [Act.put, List.setIfInBounds_toArray, List.set_cons_zero, List.set_cons_succ]
        refine twoH (i := 4) (j := 8) rfl rfl (by kernel_rfl) rfl rfl (fun K hK => ?_) (fun K hK => ?_)
        · refine wp_load_part _ 159 (.tmp 37) rfl g 0 rfl 162 (mcL S B' 64) (uc S.list).toList 8 (0, 0) _ hS1 (by rw [List.drop_zero]; exact mcL_numbers S B' 64) Tryd.underlying159 rfl hcS ?_
          refine hK.out _ _ trivial (fun hHeld => ?_)
          clear hK K
          try simp only [Act.put, List.setIfInBounds_toArray, List.set_cons_zero, List.set_cons_succ]
          refine onlyH (i := 8) rfl (by kernel_rfl) rfl (fun K hK => ?_)
          refine wp_load_part _ 160 (.tmp 41) rfl g 8 rfl 162 (mcL S B' 64) (bc B') 64 (0, 0) _ hS1 (mcL_block S B' 64 hB64) Tryd.underlying160 rfl hcB ?_
          refine hK.out _ _ trivial (fun hHeld => ?_)
          clear hK K
          try simp only [Act.put, List.setIfInBounds_toArray, List.set_cons_zero, List.set_cons_succ]
          refine onlyH (i := 9) rfl (by kernel_rfl) rfl (fun K hK => ?_)
          simp only [Array.toArray_toList]
          go_simp
          refine (hmx _ hTW).mono ?_
          rintro e1 w4 ⟨rfl, hb4⟩
          go_simp
          have hS4 := (hb4.block _ (lt_of_heap hS1)).trans hS1
          have hb4' : Below g w w4 := HB2.out.drew.trans (hb4.mono (Nat.le_of_lt (lt_of_heap hS1)))
          refine hK.out _ _ trivial (fun hHeld => ?_)
          clear hK K
          refine takeH (i := 10) (v := ?_) rfl (by kernel_rfl) (by kernel_rfl) (by kernel_rfl) (fun _ _ _ h => h) rfl ?_ hHeld ?_
          rotate_left
          · intro w _; go_simp; first | done | (with_reducible rfl)
          try simp only [Act.put, List.setIfInBounds_toArray, List.set_cons_zero, List.set_cons_succ]
          refine takeH (i := 11) (v := ?_) rfl (by kernel_rfl) (by kernel_rfl) (by kernel_rfl) (fun _ _ _ h => h) rfl ?_ hHeld ?_
          rotate_left
          · intro w _; go_simp; first | done | (with_reducible rfl)
          try simp only [Act.put, List.setIfInBounds_toArray, List.set_cons_zero, List.set_cons_succ]
          refine onlyH (i := 12) rfl (by kernel_rfl) rfl (fun K hK => ?_)
          refine wp_store_part _ 159 (.tmp 45) (.tmp 43) rfl g 0 (uc T.list) rfl rfl 162 (mcL S B' 64) hS4 hcC (by rw [mcL_length _ _ _ hB64, uc_st]; omega) (uc_one _) ?_
          intro w5 hrow5 hg5
          rw [uc_st, mcL_put] at hrow5
          have hb5 : Below g w w5 := hb4'.grown hg5 (Nat.le_of_lt (lt_of_heap hS4)) (by intro k hk; injection hk with hk; omega)
          refine hK.out _ _ trivial (fun hHeld => ?_)
          clear hK K
          try simp only [Act.put]
          refine wpAnyH_done (by kernel_rfl) ?_ _
          have hc5 : w5.cell? ⟨g, 72, none⟩ = some (.int .i64 ((64 : Nat) : Int)) := by rw [cell_of_row _ _ _ _ _ _ hrow5, List.getElem?_toArray, mcL_held _ _ _ hB64]
          have hf5 : w5.frozen? ⟨g, 72, none⟩ = false := by simp [World.frozen?, hrow5]
          have hrow6 : (w5.setCell ⟨g, 72, none⟩ (.int .i64 0)).heap[g]? = some (.cells (mcL T B' 0).toArray 162) := by
            rw [heap_setCell _ _ _ _ _ _ _ hrow5, List.setIfInBounds_toArray]
            exact congrArg (fun x : List Value => some (Obj.cells x.toArray 162)) (mcL_set T B' 64 0 hB64)
          have HR6 := hide hrow6
          have HB6 := hide (hb5.setCell (p := ⟨g, 72, none⟩) (Nat.le_refl _) (.int .i64 0))
          clear hrow5 hrow6 hb5 hg5 hS4 hb4' hb4 hmx hcC hS1 hTW hcS hcB
          go_wp2
          go_roundw
          case rel =>
            obtain ⟨e1, e2, e4⟩ := HE.out
            refine ⟨done ++ rest.take n, rest.drop n, by rw [HP.out]; simp, rfl, ?_, HB6.out⟩
            rw [HSTR.out _ HP.out]
            exact ⟨B', by rw [e2, e1, ← HTE.out]; exact HR6.out, hB64, by rw [e1, e4, List.take_zero]⟩
          case measure => simp [strB_size]; omega
        · refine wp_load_part _ 160 (.tmp 41) rfl g 8 rfl 162 (mcL S B' 64) (bc B') 64 (0, 0) _ hS1 (mcL_block S B' 64 hB64) Tryd.underlying160 rfl hcB ?_
          refine hK.out _ _ trivial (fun hHeld => ?_)
          clear hK K
          try simp only [Act.put, List.setIfInBounds_toArray, List.set_cons_zero, List.set_cons_succ]
          refine onlyH (i := 4) rfl (by kernel_rfl) rfl (fun K hK => ?_)
          refine wp_load_part _ 159 (.tmp 37) rfl g 0 rfl 162 (mcL S B' 64) (uc S.list).toList 8 (0, 0) _ hS1 (by rw [List.drop_zero]; exact mcL_numbers S B' 64) Tryd.underlying159 rfl hcS ?_
          refine hK.out _ _ trivial (fun hHeld => ?_)
          clear hK K
          try simp only [Act.put, List.setIfInBounds_toArray, List.set_cons_zero, List.set_cons_succ]
          refine onlyH (i := 9) rfl (by kernel_rfl) rfl (fun K hK => ?_)
          simp only [Array.toArray_toList]
          go_simp
          refine (hmx _ hTW).mono ?_
          rintro e1 w4 ⟨rfl, hb4⟩
          go_simp
          have hS4 := (hb4.block _ (lt_of_heap hS1)).trans hS1
          have hb4' : Below g w w4 := HB2.out.drew.trans (hb4.mono (Nat.le_of_lt (lt_of_heap hS1)))
          refine hK.out _ _ trivial (fun hHeld => ?_)
          clear hK K
          refine takeH (i := 10) (v := ?_) rfl (by kernel_rfl) (by kernel_rfl) (by kernel_rfl) (fun _ _ _ h => h) rfl ?_ hHeld ?_
          rotate_left
          · intro w _; go_simp; first | done | (with_reducible rfl)
          try simp only [Act.put, List.setIfInBounds_toArray, List.set_cons_zero, List.set_cons_succ]
          refine takeH (i := 11) (v := ?_) rfl (by kernel_rfl) (by kernel_rfl) (by kernel_rfl) (fun _ _ _ h => h) rfl ?_ hHeld ?_
          rotate_left
          · intro w _; go_simp; first | done | (with_reducible rfl)
          try simp only [Act.put, List.setIfInBounds_toArray, List.set_cons_zero, List.set_cons_succ]
          refine onlyH (i := 12) rfl (by kernel_rfl) rfl (fun K hK => ?_)
          refine wp_store_part _ 159 (.tmp 45) (.tmp 43) rfl g 0 (uc T.list) rfl rfl 162 (mcL S B' 64) hS4 hcC (by rw [mcL_length _ _ _ hB64, uc_st]; omega) (uc_one _) ?_
          intro w5 hrow5 hg5
          rw [uc_st, mcL_put] at hrow5
          have hb5 : Below g w w5 := hb4'.grown hg5 (Nat.le_of_lt (lt_of_heap hS4)) (by intro k hk; injection hk with hk; omega)
          refine hK.out _ _ trivial (fun hHeld => ?_)
          clear hK K
          try simp only [Act.put]
          refine wpAnyH_done (by kernel_rfl) ?_ _
          have hc5 : w5.cell? ⟨g, 72, none⟩ = some (.int .i64 ((64 : Nat) : Int)) := by rw [cell_of_row _ _ _ _ _ _ hrow5, List.getElem?_toArray, mcL_held _ _ _ hB64]
          have hf5 : w5.frozen? ⟨g, 72, none⟩ = false := by simp [World.frozen?, hrow5]
          have hrow6 : (w5.setCell ⟨g, 72, none⟩ (.int .i64 0)).heap[g]? = some (.cells (mcL T B' 0).toArray 162) := by
            rw [heap_setCell _ _ _ _ _ _ _ hrow5, List.setIfInBounds_toArray]
            exact congrArg (fun x : List Value => some (Obj.cells x.toArray 162)) (mcL_set T B' 64 0 hB64)
          have HR6 := hide hrow6
          have HB6 := hide (hb5.setCell (p := ⟨g, 72, none⟩) (Nat.le_refl _) (.int .i64 0))
          clear hrow5 hrow6 hb5 hg5 hS4 hb4' hb4 hmx hcC hS1 hTW hcS hcB
          go_wp2
          go_roundw
          case rel =>
            obtain ⟨e1, e2, e4⟩ := HE.out
            refine ⟨done ++ rest.take n, rest.drop n, by rw [HP.out]; simp, rfl, ?_, HB6.out⟩
            rw [HSTR.out _ HP.out]
            exact ⟨B', by rw [e2, e1, ← HTE.out]; exact HR6.out, hB64, by rw [e1, e4, List.take_zero]⟩
          case measure => simp [strB_size]; omega
        -- end of region
      · have hnf : (h : Int) + (n : Int) ≠ 64 := by omega
        go_wp2_with fail
        go_region
        go_wp2
        go_roundw
        case rel =>
          obtain ⟨e1, e2, e3, e4⟩ := HFS.out (by omega)
          refine ⟨done ++ rest.take n, rest.drop n, by rw [HP.out]; simp, rfl, ?_, HB2.out⟩
          rw [HSTR.out _ HP.out]
          exact ⟨_, by rw [e2, e1]; exact HR2.out, e3, e4⟩
        case measure => simp [strB_size]; omega
end Go.Proofs.YtdbmngbinhemeabDoor
