/-
  Texts joined: HAdd, HSum, HPadded, HWords, HConsts.
-/
import Derived.Test.YtimbleaafoiidaaGreatDoorL3HSpread
import Derived.Deep.RegionLaw
/-
  What taking up a text does to the mixer. Condition: the table holds its numbers.
-/
namespace Go.Proofs.YtimbleaafoiidaaGreatDoor
open Go.RowKit

theorem slice36l (w : World) (b off l : Nat) (h3 : l < 64) :
    (Instr.sliceAt 220 (.pointer (some ⟨b, off, none⟩)) (some (.int .i64 (l : Int))) none none).run Tryz.prog w = .ok (.slice (some ⟨b, off + l, none⟩) (64 - l) (64 - l)) w := by
  have e : ¬ 64 = l := by omega
  have a1 : (l : Int) ≤ 64 := by omega
  simp [Instr.sliceAt, Instr.sureAddr, run_underlying Tryz.uBlk, Instr.sliceBounds, run_sliceBound, e, a1, Addr.add_mid, Result.andThen]

set_option maxRecDepth 20000 in
set_option maxHeartbeats 800000 in
theorem add_any (w : World) (g : Nat) (l : List UInt8) (part : List UInt8) (hF : Fed w g l) (hT : TabW w) (hg0 : 0 < g) :
    Calls Tryz.prog 157 #[.pointer (some ⟨g, 0, none⟩), .string (strB part)] w fun e w' => e = .returned (.tuple #[]) ∧ Fed w' g (l ++ part) ∧ Below g w w' := by
  go_enter Tryz.func157, Tryz.ntmps157
  go_wp2_with fail
  go_loopw [1] (fun x wr => ∃ done rest, part = done ++ rest ∧ x = .string (strB rest) ∧ Fed wr g (l ++ done) ∧ Below g w wr)
    (fun x _ => match x with | .string s => s.size | _ => 0)
  case atStart => exact ⟨[], part, rfl, rfl, by simpa using hF, Below.refl _ _⟩
  case round =>
    obtain ⟨done, rest, hp, rfl, hR, hb⟩ := hrel
    have hTr := hT.keep hb hg0
    have hss := strB_size rest
    by_cases hne : rest = []
    · subst hne
      have hsz0 : (strB []).size = 0 := rfl
      rw [List.append_nil] at hp
      subst hp
      clear hss
      go_wp2
      go_end0
      exact ⟨rfl, hR, hb⟩
    · have hpos : 0 < rest.length := List.length_pos_iff.2 hne
      obtain ⟨B, hrow, hB, htk⟩ := hR
      have hla : l ++ (done ++ rest) = (l ++ done) ++ rest := by simp
      have HP := hide hp
      have HLA := hide hla
      have HTR := hide hTr
      have HBW := hide hb
      have hstr : ∀ r, part = done ++ rest → l ++ (done ++ r) = (l ++ done) ++ r := fun r _ => by simp
      have HSTR := hide hstr
      clear hp hla hTr hb hstr
      generalize l ++ done = la at *
      obtain ⟨h, hh⟩ : ∃ h, h = la.length % 64 := ⟨_, rfl⟩
      have hh64 : h < 64 := by omega
      obtain ⟨n, hn⟩ : ∃ n, n = min rest.length (64 - h) := ⟨_, rfl⟩
      have hn0 : 0 < n := by omega
      have hn1 : n ≤ rest.length := by omega
      have hn2 : h + n ≤ 64 := by omega
      rw [← hh] at hrow htk
      have hfs := fun hlt => feed_some la B (rest.take n) n hB (by rw [← hh]; exact htk) (by simp; omega) hlt
      have hff := fun hlt => feed_full la B (rest.take n) n hB (by rw [← hh]; exact htk) (by simp; omega) hlt
      rw [← hh] at hfs hff
      have hB' : (B.take h ++ rest.take n ++ B.drop (h + n)).length = 64 := by simp; omega
      generalize hS : mix st0 la (la.length / 64) = S at *
      have hsl := fun W => slice36l W g 8 h hh64
      have hcell : wr.cell? ⟨g, 72, none⟩ = some (.int .i64 (h : Int)) := by
        rw [cell_of_row _ _ _ _ _ _ hrow, List.getElem?_toArray, mcL_held _ _ _ hB]
      have hcp := run_copy_min (P := Tryz.prog) wr.drew 114 9 3 5 g (8 + h) (64 - h) (64 - h) n (strB rest) _ 222 Tryz.underlying114 (by kernel_rfl) hrow (by rw [strB_size]; exact hn.symm) (by rw [List.size_toArray, mcL_length _ _ _ hB]; omega)
      have hrow1 : (wr.drew.setRow g ((mcL S B h).take (8 + h) ++ bc ((strB rest).data.toList.take n) ++ (mcL S B h).drop (8 + h + n)).toArray).heap[g]? = some (.cells (mcL S (B.take h ++ rest.take n ++ B.drop (h + n)) h).toArray 222) := by
        rw [setRow_heap wr.drew _ _ _ _ _ hrow, strB_list, mcL_copy S B h n (rest.take n) hB (by simp; omega) hn2]
      have hb1 : Below g w (wr.drew.setRow g ((mcL S B h).take (8 + h) ++ bc ((strB rest).data.toList.take n) ++ (mcL S B h).drop (8 + h + n)).toArray) :=
        HBW.out.trans ⟨rfl, rfl, rfl, by simp [World.setRow], fun k hk => setRow_other _ _ _ _ (by omega)⟩
      generalize wr.drew.setRow g ((mcL S B h).take (8 + h) ++ bc ((strB rest).data.toList.take n) ++ (mcL S B h).drop (8 + h + n)).toArray = W1 at *
      have HFS := hide hfs
      have HFF := hide hff
      have HH := hide hh
      have HN := hide hn
      have HTK := hide htk
      have HS := hide hS
      have HB := hide hB'
      have hsz' : (strB rest).size = rest.length := strB_size rest
      clear hfs hff hh hn htk hS hrow hB hss
      have hc1 : W1.cell? ⟨g, 72, none⟩ = some (.int .i64 (h : Int)) := by
        rw [cell_of_row _ _ _ _ _ _ hrow1, List.getElem?_toArray, mcL_held _ _ _ hB']
      have hf1 : W1.frozen? ⟨g, 72, none⟩ = false := by simp [World.frozen?, hrow1]
      have hex := strB_drop rest n
      have hrow2 : (W1.setCell ⟨g, 72, none⟩ (.int .i64 ((h : Int) + (n : Int)))).heap[g]? = some (.cells (mcL S (B.take h ++ rest.take n ++ B.drop (h + n)) (h + n)).toArray 222) := by
        rw [heap_setCell _ _ _ _ _ _ _ hrow1, List.setIfInBounds_toArray, show (h : Int) + (n : Int) = ((h + n : Nat) : Int) from by omega, mcL_set _ _ _ _ hB']
      have hb2 : Below g w (W1.setCell ⟨g, 72, none⟩ (.int .i64 ((h : Int) + (n : Int)))) := hb1.setCell (p := ⟨g, 72, none⟩) (Nat.le_refl _) _
      have HR2 := hide hrow2
      have HB2 := hide hb2
      clear hrow1 hb1 hrow2 hb2 hB'
      by_cases hfull : h + n = 64
      · have hfi : (h : Int) + (n : Int) = 64 := by omega
        obtain ⟨e1, e2, e3, e4⟩ := HFF.out hfull
        have HE := hide (And.intro e1 (And.intro e2 e4))
        clear e1 e2 e4 HFF HFS
        generalize B.take h ++ rest.take n ++ B.drop (h + n) = B' at *
        rw [hfull] at HR2
        rw [hfi] at HR2 HB2
        go_wp2_with fail
        go_region
        go_wp2_with fail
        -- region
        generalize W1.setCell ⟨g, 72, none⟩ (.int .i64 64) = W2 at *
        have hB64 := e3
        have hS1 : W2.drew.heap[g]? = some (.cells (mcL S B' 64).toArray 222) := HR2.out
        have hTW : TabW W2.drew := (hT.keep HB2.out hg0).keep ((Below.refl g W2).drew) hg0
        have hcS : (Tryz.prog.info? 219).map (·.size) = some (uc S.list).toList.length := Tryz.infoEight
        have hcB : (Tryz.prog.info? 220).map (·.size) = some (bc B').length := by rw [bc_length, hB64]; exact Tryz.infoBlk
        obtain ⟨T, hTe⟩ : ∃ T, T = comp S B' := ⟨_, rfl⟩
        have hmx : ∀ W, TabW W → Calls Tryz.prog 173 #[.agg (uc S.list), .agg (bc B').toArray] W fun e w' => e = .returned (.agg (uc T.list)) ∧ Below W.heap.size W w' := fun W hW => by rw [hTe]; exact mixed_any W S B' hB64 hW
        have hcC : (Tryz.prog.info? 219).map (·.size) = some (uc T.list).size := Tryz.infoEight
        have HTE := hide hTe
        clear hTe
        refine wp_region_held_drew (S := fun _ => True) (by kernel_rfl) trivial (fun hHeld => ?_)
        refine takeH (i := 0) (v := ?_) rfl (by kernel_rfl) (by kernel_rfl) (by kernel_rfl) (fun _ _ _ h => h) rfl ?_ hHeld ?_
        rotate_left
        · intro w _; go_simp; first | done | (with_reducible rfl)
        try simp only [Act.put, List.setIfInBounds_toArray, List.set_cons_zero, List.set_cons_succ]
        refine takeH (i := 1) (v := ?_) rfl (by kernel_rfl) (by kernel_rfl) (by kernel_rfl) (fun _ _ _ h => h) rfl ?_ hHeld ?_
        rotate_left
        · intro w _; go_simp; first | done | (with_reducible rfl)
        try simp only [Act.put, List.setIfInBounds_toArray, List.set_cons_zero, List.set_cons_succ]
        refine takeH (i := 2) (v := ?_) rfl (by kernel_rfl) (by kernel_rfl) (by kernel_rfl) (fun _ _ _ h => h) rfl ?_ hHeld ?_
        rotate_left
        · intro w _; go_simp; first | done | (with_reducible rfl)
        try simp only [Act.put, List.setIfInBounds_toArray, List.set_cons_zero, List.set_cons_succ]
        refine takeH (i := 3) (v := ?_) rfl (by kernel_rfl) (by kernel_rfl) (by kernel_rfl) (fun _ _ _ h => h) rfl ?_ hHeld ?_
        rotate_left
        · intro w _; go_simp; first | done | (with_reducible rfl)
        try simp only [Act.put, List.setIfInBounds_toArray, List.set_cons_zero, List.set_cons_succ]
        refine takeH (i := 5) (v := ?_) rfl (by kernel_rfl) (by kernel_rfl) (by kernel_rfl) (fun _ _ _ h => h) rfl ?_ hHeld ?_
        rotate_left
        · intro w _; go_simp; first | done | (with_reducible rfl)
        try simp only [Act.put, List.setIfInBounds_toArray, List.set_cons_zero, List.set_cons_succ]
        refine takeH (i := 6) (v := ?_) rfl (by kernel_rfl) (by kernel_rfl) (by kernel_rfl) (fun _ _ _ h => h) rfl ?_ hHeld ?_
        rotate_left
        · intro w _; go_simp; first | done | (with_reducible rfl)
        try simp only [Act.put, List.setIfInBounds_toArray, List.set_cons_zero, List.set_cons_succ]
        refine takeH (i := 7) (v := ?_) rfl (by kernel_rfl) (by kernel_rfl) (by kernel_rfl) (fun _ _ _ h => h) rfl ?_ hHeld ?_
        rotate_left
        · intro w _; go_simp; first | done | (with_reducible rfl)
        try simp only [Act.put, List.setIfInBounds_toArray, List.set_cons_zero, List.set_cons_succ]
        refine twoH (i := 4) (j := 8) rfl rfl (by kernel_rfl) rfl rfl (fun K hK => ?_) (fun K hK => ?_)
        · refine wp_load_part _ 219 (.tmp 37) rfl g 0 rfl 222 (mcL S B' 64) (uc S.list).toList 8 (0, 0) _ hS1 (by rw [List.drop_zero]; exact mcL_numbers S B' 64) Tryz.underlying219 rfl hcS ?_
          refine hK.out _ _ trivial (fun hHeld => ?_)
          clear hK K
          try simp only [Act.put, List.setIfInBounds_toArray, List.set_cons_zero, List.set_cons_succ]
          refine onlyH (i := 8) rfl (by kernel_rfl) rfl (fun K hK => ?_)
          refine wp_load_part _ 220 (.tmp 41) rfl g 8 rfl 222 (mcL S B' 64) (bc B') 64 (0, 0) _ hS1 (mcL_block S B' 64 hB64) Tryz.underlying220 rfl hcB ?_
          refine hK.out _ _ trivial (fun hHeld => ?_)
          clear hK K
          try simp only [Act.put, List.setIfInBounds_toArray, List.set_cons_zero, List.set_cons_succ]
          refine onlyH (i := 9) rfl (by kernel_rfl) rfl (fun K hK => ?_)
          simp only [Array.toArray_toList]
          go_simp
          refine (hmx _ hTW).mono ?_
          rintro e1 w4 ⟨rfl, hb4⟩
          go_simp
          have hS4 := (hb4.block _ (lt_of_heap hS1)).trans hS1
          have hb4' : Below g w w4 := HB2.out.drew.trans (hb4.mono (Nat.le_of_lt (lt_of_heap hS1)))
          refine hK.out _ _ trivial (fun hHeld => ?_)
          clear hK K
          refine takeH (i := 10) (v := ?_) rfl (by kernel_rfl) (by kernel_rfl) (by kernel_rfl) (fun _ _ _ h => h) rfl ?_ hHeld ?_
          rotate_left
          · intro w _; go_simp; first | done | (with_reducible rfl)
          try simp only [Act.put, List.setIfInBounds_toArray, List.set_cons_zero, List.set_cons_succ]
          refine takeH (i := 11) (v := ?_) rfl (by kernel_rfl) (by kernel_rfl) (by kernel_rfl) (fun _ _ _ h => h) rfl ?_ hHeld ?_
          rotate_left
          · intro w _; go_simp; first | done | (with_reducible rfl)
          try simp only [Act.put, List.setIfInBounds_toArray, List.set_cons_zero, List.set_cons_succ]
          refine onlyH (i := 12) rfl (by kernel_rfl) rfl (fun K hK => ?_)
          refine wp_store_part _ 219 (.tmp 45) (.tmp 43) rfl g 0 (uc T.list) rfl rfl 222 (mcL S B' 64) hS4 hcC (by rw [mcL_length _ _ _ hB64, uc_st]; omega) (uc_one _) ?_
          intro w5 hrow5 hg5
          rw [uc_st, mcL_put] at hrow5
          have hb5 : Below g w w5 := hb4'.grown hg5 (Nat.le_of_lt (lt_of_heap hS4)) (by intro k hk; injection hk with hk; omega)
          refine hK.out _ _ trivial (fun hHeld => ?_)
          clear hK K
          try simp only [Act.put]
          refine wpAnyH_done (by kernel_rfl) ?_ _
          have hc5 : w5.cell? ⟨g, 72, none⟩ = some (.int .i64 ((64 : Nat) : Int)) := by rw [cell_of_row _ _ _ _ _ _ hrow5, List.getElem?_toArray, mcL_held _ _ _ hB64]
          have hf5 : w5.frozen? ⟨g, 72, none⟩ = false := by simp [World.frozen?, hrow5]
          have hrow6 : (w5.setCell ⟨g, 72, none⟩ (.int .i64 0)).heap[g]? = some (.cells (mcL T B' 0).toArray 222) := by
            rw [heap_setCell _ _ _ _ _ _ _ hrow5, List.setIfInBounds_toArray]
            exact congrArg (fun x : List Value => some (Obj.cells x.toArray 222)) (mcL_set T B' 64 0 hB64)
          have HR6 := hide hrow6
          have HB6 := hide (hb5.setCell (p := ⟨g, 72, none⟩) (Nat.le_refl _) (.int .i64 0))
          clear hrow5 hrow6 hb5 hg5 hS4 hb4' hb4 hmx hcC hS1 hTW hcS hcB
          go_wp2
          go_roundw
          case rel =>
            obtain ⟨e1, e2, e4⟩ := HE.out
            refine ⟨done ++ rest.take n, rest.drop n, by rw [HP.out]; simp, rfl, ?_, HB6.out⟩
            rw [HSTR.out _ HP.out]
            exact ⟨B', by rw [e2, e1, ← HTE.out]; exact HR6.out, hB64, by rw [e1, e4, List.take_zero]⟩
          case measure => simp [strB_size]; omega
        · refine wp_load_part _ 220 (.tmp 41) rfl g 8 rfl 222 (mcL S B' 64) (bc B') 64 (0, 0) _ hS1 (mcL_block S B' 64 hB64) Tryz.underlying220 rfl hcB ?_
          refine hK.out _ _ trivial (fun hHeld => ?_)
          clear hK K
          try simp only [Act.put, List.setIfInBounds_toArray, List.set_cons_zero, List.set_cons_succ]
          refine onlyH (i := 4) rfl (by kernel_rfl) rfl (fun K hK => ?_)
          refine wp_load_part _ 219 (.tmp 37) rfl g 0 rfl 222 (mcL S B' 64) (uc S.list).toList 8 (0, 0) _ hS1 (by rw [List.drop_zero]; exact mcL_numbers S B' 64) Tryz.underlying219 rfl hcS ?_
          refine hK.out _ _ trivial (fun hHeld => ?_)
          clear hK K
          try simp only [Act.put, List.setIfInBounds_toArray, List.set_cons_zero, List.set_cons_succ]
          refine onlyH (i := 9) rfl (by kernel_rfl) rfl (fun K hK => ?_)
          simp only [Array.toArray_toList]
          go_simp
          refine (hmx _ hTW).mono ?_
          rintro e1 w4 ⟨rfl, hb4⟩
          go_simp
          have hS4 := (hb4.block _ (lt_of_heap hS1)).trans hS1
          have hb4' : Below g w w4 := HB2.out.drew.trans (hb4.mono (Nat.le_of_lt (lt_of_heap hS1)))
          refine hK.out _ _ trivial (fun hHeld => ?_)
          clear hK K
          refine takeH (i := 10) (v := ?_) rfl (by kernel_rfl) (by kernel_rfl) (by kernel_rfl) (fun _ _ _ h => h) rfl ?_ hHeld ?_
          rotate_left
          · intro w _; go_simp; first | done | (with_reducible rfl)
          try simp only [Act.put, List.setIfInBounds_toArray, List.set_cons_zero, List.set_cons_succ]
          refine takeH (i := 11) (v := ?_) rfl (by kernel_rfl) (by kernel_rfl) (by kernel_rfl) (fun _ _ _ h => h) rfl ?_ hHeld ?_
          rotate_left
          · intro w _; go_simp; first | done | (with_reducible rfl)
          try simp only [Act.put, List.setIfInBounds_toArray, List.set_cons_zero, List.set_cons_succ]
          refine onlyH (i := 12) rfl (by kernel_rfl) rfl (fun K hK => ?_)
          refine wp_store_part _ 219 (.tmp 45) (.tmp 43) rfl g 0 (uc T.list) rfl rfl 222 (mcL S B' 64) hS4 hcC (by rw [mcL_length _ _ _ hB64, uc_st]; omega) (uc_one _) ?_
          intro w5 hrow5 hg5
          rw [uc_st, mcL_put] at hrow5
          have hb5 : Below g w w5 := hb4'.grown hg5 (Nat.le_of_lt (lt_of_heap hS4)) (by intro k hk; injection hk with hk; omega)
          refine hK.out _ _ trivial (fun hHeld => ?_)
          clear hK K
          try simp only [Act.put]
          refine wpAnyH_done (by kernel_rfl) ?_ _
          have hc5 : w5.cell? ⟨g, 72, none⟩ = some (.int .i64 ((64 : Nat) : Int)) := by rw [cell_of_row _ _ _ _ _ _ hrow5, List.getElem?_toArray, mcL_held _ _ _ hB64]
          have hf5 : w5.frozen? ⟨g, 72, none⟩ = false := by simp [World.frozen?, hrow5]
          have hrow6 : (w5.setCell ⟨g, 72, none⟩ (.int .i64 0)).heap[g]? = some (.cells (mcL T B' 0).toArray 222) := by
            rw [heap_setCell _ _ _ _ _ _ _ hrow5, List.setIfInBounds_toArray]
            exact congrArg (fun x : List Value => some (Obj.cells x.toArray 222)) (mcL_set T B' 64 0 hB64)
          have HR6 := hide hrow6
          have HB6 := hide (hb5.setCell (p := ⟨g, 72, none⟩) (Nat.le_refl _) (.int .i64 0))
          clear hrow5 hrow6 hb5 hg5 hS4 hb4' hb4 hmx hcC hS1 hTW hcS hcB
          go_wp2
          go_roundw
          case rel =>
            obtain ⟨e1, e2, e4⟩ := HE.out
            refine ⟨done ++ rest.take n, rest.drop n, by rw [HP.out]; simp, rfl, ?_, HB6.out⟩
            rw [HSTR.out _ HP.out]
            exact ⟨B', by rw [e2, e1, ← HTE.out]; exact HR6.out, hB64, by rw [e1, e4, List.take_zero]⟩
          case measure => simp [strB_size]; omega
        -- end of region
      · have hnf : (h : Int) + (n : Int) ≠ 64 := by omega
        go_wp2_with fail
        go_region
        go_wp2
        go_roundw
        case rel =>
          obtain ⟨e1, e2, e3, e4⟩ := HFS.out (by omega)
          refine ⟨done ++ rest.take n, rest.drop n, by rw [HP.out]; simp, rfl, ?_, HB2.out⟩
          rw [HSTR.out _ HP.out]
          exact ⟨_, by rw [e2, e1]; exact HR2.out, e3, e4⟩
        case measure => simp [strB_size]; omega
end Go.Proofs.YtimbleaafoiidaaGreatDoor

/-
  What the sum of texts answers. Conditions: the table holds its numbers; all texts together within the reach.
-/
namespace Go.Proofs.YtimbleaafoiidaaGreatDoor
open Go.RowKit

/-- The slice v has these texts. -/
def Ps (w : World) (v : Value) (ls : List (List UInt8)) : Prop :=
  ∃ ao cap, v = .slice ao ls.length cap ∧ ls.length ≤ cap ∧ cap ≤ maxLen ∧
    (ls ≠ [] → ∃ b off, ao = some ⟨b, off, none⟩ ∧ b < w.heap.size ∧ ∀ j (h : j < ls.length), w.cell? ⟨b, off + j, none⟩ = some (.string (strB (ls[j]'h))))
theorem Ps.keep {w w' : World} {v : Value} {ls : List (List UInt8)} (h : Ps w v ls) (hb : Below w.heap.size w w') : Ps w' v ls := by
  obtain ⟨ao, cap, hv, h1, h2, h4⟩ := h
  refine ⟨ao, cap, hv, h1, h2, fun hl => ?_⟩
  obtain ⟨b, off, ha, hlt, hc⟩ := h4 hl
  exact ⟨b, off, ha, Nat.lt_of_lt_of_le hlt hb.size, fun j hj => (hb.cell (p := ⟨b, off + j, none⟩) hlt).trans (hc j hj)⟩

def z38 : Array Value := (mcL ⟨0, 0, 0, 0, 0, 0, 0, 0⟩ (List.replicate 64 0) 0).toArray
def m38 : Array Value := (mcL st0 (List.replicate 64 0) 0).toArray
theorem Tryz.zeroMixer : (Tryz.prog.info? 222).map (fun i => (i.zero, i.size)) = some (some (.agg z38), 73) := by kernel_rfl
theorem chain38 : ((((((((z38.setIfInBounds 0 (.int .u32 1779033703)).setIfInBounds 1 (.int .u32 3144134277)).setIfInBounds 2 (.int .u32 1013904242)).setIfInBounds 3 (.int .u32 2773480762)).setIfInBounds 4 (.int .u32 1359893119)).setIfInBounds 5 (.int .u32 2600822924)).setIfInBounds 6 (.int .u32 528734635)).setIfInBounds 7 (.int .u32 1541459225)) = m38 := by kernel_rfl
theorem z38_size : z38.size = 73 := by kernel_rfl
theorem m38_size : m38.size = 73 := by kernel_rfl
theorem m38_one : m38.all (·.oneCell') = true := by kernel_rfl
theorem fed_start (w : World) (g : Nat) (h : w.heap[g]? = some (.cells m38 222)) : Fed w g [] := ⟨List.replicate 64 0, h, by simp, rfl⟩

theorem sha_out (l : List UInt8) : sha l = out (mix st0 (l ++ tail l.length) ((l ++ tail l.length).length / 64)) := rfl

set_option maxRecDepth 20000 in
set_option maxHeartbeats 800000 in
theorem sum_any (w : World) (v : Value) (ls : List (List UInt8)) (h : Ps w v ls) (hT : TabW w) (hsz : ls.flatten.length ≤ 140737488355328) :
    Calls Tryz.prog 120 #[v] w fun e w' => e = .returned (.string (strB (sha ls.flatten))) ∧ Below w.heap.size w w' := by
  obtain ⟨ao, cap, rfl, h1, h2, h4⟩ := h
  unfold maxLen at h2
  obtain ⟨hz, hi38⟩ := zero_of_info Tryz.zeroMixer
  have hch := chain38
  have hzs := z38_size
  have hms : z38.size = m38.size := by rw [z38_size, m38_size]
  have hone := m38_one
  have hfs := fed_start
  have hmi : (Tryz.prog.info? 222).map (·.size) = some m38.size := by rw [m38_size]; exact hi38
  have HFS := hide hfs
  have HONE := hide hone
  have HMI := hide hmi
  have HMS := hide hms
  clear hfs hone hmi hi38 hms
  generalize z38 = Z at *
  generalize m38 = M at *
  go_enter Tryz.func120, Tryz.ntmps120
  go_wp2_with (refine wpList_store_arr _ rfl 222 (.tmp 3) (.tmp 8) rfl _ M rfl rfl 222 Z (heap_last _ _ _ rfl) HMI.out HMS.out HONE.out ?_; intro w1 hrow1 hg1)
  have hb1 : Below w.heap.size w w1 := ((Below.refl _ _).alloc (Nat.le_refl _) _).grown hg1 (by simp) (by intro k hk; injection hk with hk; omega)
  have hF1 := HFS.out w1 w.heap.size hrow1
  have h0 := hT.1
  clear hrow1 hg1 hz hzs HFS HONE HMI HMS
  go_loopw [4, 11] (fun x t wr => ∃ k : Nat, k ≤ ls.length ∧ t = .int .i64 k ∧ x = .int .u64 (((ls.take k).flatten.length : Nat) : Int) ∧ Fed wr w.heap.size (ls.take k).flatten ∧ Below w.heap.size w wr)
    (fun _ t _ => ls.length - (intOf t).toNat)
  case atStart => exact ⟨0, by omega, rfl, rfl, hF1, hb1⟩
  case round =>
    clear hF1 hb1
    obtain ⟨k, hk, rfl, rfl, hF, hb⟩ := hrel
    have hTr := hide (hT.keep hb h0)
    by_cases hlt : k < ls.length
    · obtain ⟨b, off, rfl, hbl, hc⟩ := h4 (by rintro rfl; simp at hlt)
      have hcell := (hb.cell (p := ⟨b, off + k, none⟩) hbl).trans (hc k hlt)
      have hn : (ls.take (k + 1)).flatten = (ls.take k).flatten ++ ls[k] := by
        rw [List.take_succ_eq_append_getElem hlt, List.flatten_append]; simp
      have hle : (ls.take (k + 1)).flatten.length ≤ ls.flatten.length := by
        have : ls.flatten = (ls.take (k + 1)).flatten ++ (ls.drop (k + 1)).flatten := by rw [← List.flatten_append, List.take_append_drop]
        rw [this, List.length_append]; omega
      have hsum : (ls.take k).flatten.length + (ls[k]).length ≤ 140737488355328 := by
        rw [hn, List.length_append] at hle; omega
      have HN := hide hn
      have HF := hide hF
      have HB := hide hb
      clear hn hF hb hle hsz hc h4
      generalize (ls.take k).flatten = A at *
      generalize ls[k] = p at *
      have hps := strB_size p
      generalize hAl : A.length = al at *
      generalize hpl : p.length = pl at *
      have HAL := hide hAl
      have HPL := hide hpl
      clear hAl hpl
      go_wp2_with fail
      refine (add_any _ w.heap.size A p HF.out hTr.out h0).mono ?_
      rintro e1 w2 ⟨rfl, hF2, hb2⟩
      have HF2 := hide hF2
      have HB2 := hide (HB.out.trans hb2)
      clear hF2 hb2
      go_wp2
      go_roundw
      case rel => exact ⟨k + 1, by omega, by go_num, by rw [HN.out, List.length_append, HAL.out, HPL.out]; go_num, by rw [HN.out]; exact HF2.out, HB2.out⟩
      case measure => simp [intOf]; omega
    · have e : ls.take k = ls := List.take_of_length_le (by omega)
      rw [e] at hF ⊢
      have hSH := hide (sha_out ls.flatten)
      clear h4 e
      generalize hA : ls.flatten = A at *
      have HA := hide hA
      clear hA
      have HF := hide hF
      have HB := hide hb
      clear hF hb
      generalize hAl : A.length = al at *
      have HAL := hide hAl
      clear hAl
      go_wp2_with fail
      refine (ending_any _ al (by omega)).mono ?_
      rintro e1 w2 ⟨rfl, hb2⟩
      have hg2 : w.heap.size < wr.heap.size := by
        obtain ⟨B, hrow, _⟩ := HF.out
        exact lt_of_heap hrow
      have hF2 : Fed w2 w.heap.size A := by
        obtain ⟨B, hrow, hx⟩ := HF.out
        exact ⟨B, (hb2.block _ hg2).trans hrow, hx⟩
      have hB2 := HB.out.trans (hb2.mono (Nat.le_of_lt hg2))
      have HF2 := hide hF2
      have HB2 := hide hB2
      clear hF2 hB2 hb2
      go_wp2_with fail
      refine (add_any _ w.heap.size A (tail al) HF2.out (hT.keep HB2.out h0) h0).mono ?_
      rintro e1 w3 ⟨rfl, hF3, hb3⟩
      obtain ⟨B, hrow, _, _⟩ := hF3
      have HB3 := hide (HB2.out.trans hb3)
      generalize mix st0 (A ++ tail al) ((A ++ tail al).length / 64) = S at *
      generalize (A ++ tail al).length % 64 = hh at *
      have hin : (Tryz.prog.info? 219).map (·.size) = some (uc S.list).toList.length := Tryz.infoEight
      have hnb := mcL_numbers S B hh
      clear hb3
      go_wp2_with (refine wpList_load_part _ rfl 219 (.tmp 26) rfl w.heap.size 0 rfl 222 (mcL S B hh) (uc S.list).toList 8 (0, 0) _ hrow (by rw [List.drop_zero]; exact hnb) Tryz.underlying219 rfl hin ?_; rw [Array.toArray_toList])
      refine (bytesOf_any _ S).mono ?_
      rintro e1 w4 ⟨rfl, hb4⟩
      have hb := HB3.out.trans (hb4.mono HB3.out.size)
      clear hb4
      go_wp2
      go_ret
      exact ⟨ret_str (by rw [HA.out, hSH.out]), hb⟩
end Go.Proofs.YtimbleaafoiidaaGreatDoor

/-
  What the reference's padding answers. Condition: at most 1048576 bytes.
-/
namespace Go.Proofs.YtimbleaafoiidaaGreatDoor
open Go.RowKit

end Go.Proofs.YtimbleaafoiidaaGreatDoor

/-
  What the reference's words of a block, and its constants, answer. Condition: a slice of sixty-four bytes.
-/
namespace Go.Proofs.YtimbleaafoiidaaGreatDoor
open Go.RowKit

/-- What making words finds in memory: the numbers so far, noughts behind them. -/
def SW (w : World) (L : List UInt32) (wr : World) : Prop := Below w.heap.size w wr ∧ (∃ z, wr.heap[w.heap.size]? = some (.cells z 166) ∧ z.size = 64) ∧ wr.heap[w.heap.size + 1]? = some (.cells (uc (L ++ List.replicate (64 - L.length) 0)) 166)

theorem SW.store {w : World} {L : List UInt32} {wr : World} (h : SW w L wr) (hL : L.length < 64) (k : Nat) (hk : L.length = k) (x : UInt32) : SW w (L ++ [x]) (wr.setCell ⟨w.heap.size + 1, k, none⟩ (.int .u32 (u x))) := by
  subst hk
  obtain ⟨h1, ⟨z, h3, h3'⟩, h4⟩ := h
  have hb : Below (w.heap.size + 1) wr (wr.setCell ⟨w.heap.size + 1, L.length, none⟩ (.int .u32 (u x))) := (Below.refl _ _).setCell (p := ⟨w.heap.size + 1, L.length, none⟩) (Nat.le_refl _) _
  refine ⟨h1.setCell (p := ⟨w.heap.size + 1, L.length, none⟩) (by simp) _, ⟨z, (hb.block _ (by omega)).trans h3, h3'⟩, ?_⟩
  rw [heap_setCell _ _ _ _ _ _ _ h4, uc_set L x 64 hL]
theorem SW.drew {w : World} {L : List UInt32} {wr : World} (h : SW w L wr) : SW w L wr.drew := by
  obtain ⟨h1, h3, h4⟩ := h
  exact ⟨h1.drew, h3, h4⟩
theorem SW.get {w : World} {L : List UInt32} {wr : World} (h : SW w L wr) (k : Nat) (hk : k < L.length) : wr.cell? ⟨w.heap.size + 1, k, none⟩ = some (.int .u32 (u (L.getD k 0))) := by
  rw [cell_of_row _ _ _ _ _ _ h.2.2, uc_get _ _ (by simp; omega)]
  simp [List.getD, List.getElem?_append_left hk]
theorem SW.room {w : World} {L : List UInt32} {wr : World} (h : SW w L wr) (k : Nat) (hk : L.length = k) (hL : k < 64) : wr.cell? ⟨w.heap.size + 1, k, none⟩ = some (.int .u32 (u 0)) ∧ wr.frozen? ⟨w.heap.size + 1, k, none⟩ = false := by
  subst hk
  constructor
  · rw [cell_of_row _ _ _ _ _ _ h.2.2, uc_get _ _ (by simp; omega)]
    obtain ⟨m, hm⟩ : ∃ m, 64 - L.length = m + 1 := ⟨64 - L.length - 1, by omega⟩
    simp [List.getD, hm, List.replicate_succ]
  · simp [World.frozen?, h.2.2]

end Go.Proofs.YtimbleaafoiidaaGreatDoor

/-
  What the reference's constants answer. No condition.
-/
namespace Go.Proofs.YtimbleaafoiidaaGreatDoor
open Go.RowKit

end Go.Proofs.YtimbleaafoiidaaGreatDoor
