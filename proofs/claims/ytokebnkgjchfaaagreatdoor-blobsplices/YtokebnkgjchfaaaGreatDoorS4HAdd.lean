/-
  Texts joined: HAdd, HSum, OPlain, OKinds, OWrite.
-/
import Derived.Test.YtokebnkgjchfaaaGreatDoorS3HSpread
import Derived.Test.YtokebnkgjchfaaaGreatDoorS0WPlain
import Derived.Lib.OwnKind
import Derived.Deep.AppendSrc
/-
  What taking up a text does to the mixer. Condition: the table holds its numbers.
-/
namespace Go.Proofs.YtokebnkgjchfaaaGreatDoor
open Go.RowKit

theorem slice36l (w : World) (b off l : Nat) (h3 : l < 64) :
    (Instr.sliceAt 169 (.pointer (some ⟨b, off, none⟩)) (some (.int .i64 (l : Int))) none none).run Tryz.prog w = .ok (.slice (some ⟨b, off + l, none⟩) (64 - l) (64 - l)) w := by
  have e : ¬ 64 = l := by omega
  have a1 : (l : Int) ≤ 64 := by omega
  simp [Instr.sliceAt, Instr.sureAddr, run_underlying Tryz.uBlk, Instr.sliceBounds, run_sliceBound, e, a1, Addr.add_mid, Result.andThen]

set_option maxRecDepth 20000 in
set_option maxHeartbeats 800000 in
theorem add_any (w : World) (g : Nat) (l : List UInt8) (part : List UInt8) (hF : Fed w g l) (hT : TabW w) (hg0 : 0 < g) :
    Calls Tryz.prog 111 #[.pointer (some ⟨g, 0, none⟩), .string (strB part)] w fun e w' => e = .returned (.tuple #[]) ∧ Fed w' g (l ++ part) ∧ Below g w w' := by
  go_enter Tryz.func111, Tryz.ntmps111
  go_wp2_with fail
  go_loopw [1] (fun x wr => ∃ done rest, part = done ++ rest ∧ x = .string (strB rest) ∧ Fed wr g (l ++ done) ∧ Below g w wr)
    (fun x _ => match x with | .string s => s.size | _ => 0)
  case atStart => exact ⟨[], part, rfl, rfl, by simpa using hF, Below.refl _ _⟩
  case round =>
    obtain ⟨done, rest, hp, rfl, hR, hb⟩ := hrel
    have hTr := hT.keep hb hg0
    have hss := strB_size rest
    by_cases hne : rest = []
    · subst hne
      have hsz0 : (strB []).size = 0 := rfl
      rw [List.append_nil] at hp
      subst hp
      clear hss
      go_wp2
      go_end0
      exact ⟨rfl, hR, hb⟩
    · have hpos : 0 < rest.length := List.length_pos_iff.2 hne
      obtain ⟨B, hrow, hB, htk⟩ := hR
      have hla : l ++ (done ++ rest) = (l ++ done) ++ rest := by simp
      have HP := hide hp
      have HLA := hide hla
      have HTR := hide hTr
      have HBW := hide hb
      have hstr : ∀ r, part = done ++ rest → l ++ (done ++ r) = (l ++ done) ++ r := fun r _ => by simp
      have HSTR := hide hstr
      clear hp hla hTr hb hstr
      generalize l ++ done = la at *
      obtain ⟨h, hh⟩ : ∃ h, h = la.length % 64 := ⟨_, rfl⟩
      have hh64 : h < 64 := by omega
      obtain ⟨n, hn⟩ : ∃ n, n = min rest.length (64 - h) := ⟨_, rfl⟩
      have hn0 : 0 < n := by omega
      have hn1 : n ≤ rest.length := by omega
      have hn2 : h + n ≤ 64 := by omega
      rw [← hh] at hrow htk
      have hfs := fun hlt => feed_some la B (rest.take n) n hB (by rw [← hh]; exact htk) (by simp; omega) hlt
      have hff := fun hlt => feed_full la B (rest.take n) n hB (by rw [← hh]; exact htk) (by simp; omega) hlt
      rw [← hh] at hfs hff
      have hB' : (B.take h ++ rest.take n ++ B.drop (h + n)).length = 64 := by simp; omega
      generalize hS : mix st0 la (la.length / 64) = S at *
      have hsl := fun W => slice36l W g 8 h hh64
      have hcell : wr.cell? ⟨g, 72, none⟩ = some (.int .i64 (h : Int)) := by
        rw [cell_of_row _ _ _ _ _ _ hrow, List.getElem?_toArray, mcL_held _ _ _ hB]
      have hcp := run_copy_min (P := Tryz.prog) wr.drew 74 9 3 5 g (8 + h) (64 - h) (64 - h) n (strB rest) _ 171 Tryz.underlying74 (by kernel_rfl) hrow (by rw [strB_size]; exact hn.symm) (by rw [List.size_toArray, mcL_length _ _ _ hB]; omega)
      have hrow1 : (wr.drew.setRow g ((mcL S B h).take (8 + h) ++ bc ((strB rest).data.toList.take n) ++ (mcL S B h).drop (8 + h + n)).toArray).heap[g]? = some (.cells (mcL S (B.take h ++ rest.take n ++ B.drop (h + n)) h).toArray 171) := by
        rw [setRow_heap wr.drew _ _ _ _ _ hrow, strB_list, mcL_copy S B h n (rest.take n) hB (by simp; omega) hn2]
      have hb1 : Below g w (wr.drew.setRow g ((mcL S B h).take (8 + h) ++ bc ((strB rest).data.toList.take n) ++ (mcL S B h).drop (8 + h + n)).toArray) :=
        HBW.out.trans ⟨rfl, rfl, rfl, by simp [World.setRow], fun k hk => setRow_other _ _ _ _ (by omega)⟩
      generalize wr.drew.setRow g ((mcL S B h).take (8 + h) ++ bc ((strB rest).data.toList.take n) ++ (mcL S B h).drop (8 + h + n)).toArray = W1 at *
      have HFS := hide hfs
      have HFF := hide hff
      have HH := hide hh
      have HN := hide hn
      have HTK := hide htk
      have HS := hide hS
      have HB := hide hB'
      have hsz' : (strB rest).size = rest.length := strB_size rest
      clear hfs hff hh hn htk hS hrow hB hss
      have hc1 : W1.cell? ⟨g, 72, none⟩ = some (.int .i64 (h : Int)) := by
        rw [cell_of_row _ _ _ _ _ _ hrow1, List.getElem?_toArray, mcL_held _ _ _ hB']
      have hf1 : W1.frozen? ⟨g, 72, none⟩ = false := by simp [World.frozen?, hrow1]
      have hex := strB_drop rest n
      have hrow2 : (W1.setCell ⟨g, 72, none⟩ (.int .i64 ((h : Int) + (n : Int)))).heap[g]? = some (.cells (mcL S (B.take h ++ rest.take n ++ B.drop (h + n)) (h + n)).toArray 171) := by
        rw [heap_setCell _ _ _ _ _ _ _ hrow1, List.setIfInBounds_toArray, show (h : Int) + (n : Int) = ((h + n : Nat) : Int) from by omega, mcL_set _ _ _ _ hB']
      have hb2 : Below g w (W1.setCell ⟨g, 72, none⟩ (.int .i64 ((h : Int) + (n : Int)))) := hb1.setCell (p := ⟨g, 72, none⟩) (Nat.le_refl _) _
      have HR2 := hide hrow2
      have HB2 := hide hb2
      clear hrow1 hb1 hrow2 hb2 hB'
      by_cases hfull : h + n = 64
      · have hfi : (h : Int) + (n : Int) = 64 := by omega
        obtain ⟨e1, e2, e3, e4⟩ := HFF.out hfull
        have HE := hide (And.intro e1 (And.intro e2 e4))
        clear e1 e2 e4 HFF HFS
        generalize B.take h ++ rest.take n ++ B.drop (h + n) = B' at *
        rw [hfull] at HR2
        rw [hfi] at HR2 HB2
        go_wp2_with fail
        go_region
        go_wp2_with fail
        -- region
        generalize W1.setCell ⟨g, 72, none⟩ (.int .i64 64) = W2 at *
        have hB64 := e3
        have hS1 : W2.drew.heap[g]? = some (.cells (mcL S B' 64).toArray 171) := HR2.out
        have hTW : TabW W2.drew := (hT.keep HB2.out hg0).keep ((Below.refl g W2).drew) hg0
        have hcS : (Tryz.prog.info? 168).map (·.size) = some (uc S.list).toList.length := Tryz.infoEight
        have hcB : (Tryz.prog.info? 169).map (·.size) = some (bc B').length := by rw [bc_length, hB64]; exact Tryz.infoBlk
        obtain ⟨T, hTe⟩ : ∃ T, T = comp S B' := ⟨_, rfl⟩
        have hmx : ∀ W, TabW W → Calls Tryz.prog 119 #[.agg (uc S.list), .agg (bc B').toArray] W fun e w' => e = .returned (.agg (uc T.list)) ∧ Below W.heap.size W w' := fun W hW => by rw [hTe]; exact mixed_any W S B' hB64 hW
        have hcC : (Tryz.prog.info? 168).map (·.size) = some (uc T.list).size := Tryz.infoEight
        have HTE := hide hTe
        clear hTe
        refine wp_region_held_drew (S := fun _ => True) (by kernel_rfl) trivial (fun hHeld => ?_)
        refine takeH (i := 0) (v := ?_) rfl (by kernel_rfl) (by kernel_rfl) (by kernel_rfl) (fun _ _ _ h => h) rfl ?_ hHeld ?_
        rotate_left
        · intro w _; go_simp; first | done | (with_reducible rfl)
        try simp only [Act.put, List.setIfInBounds_toArray, List.set_cons_zero, List.set_cons_succ]
        refine takeH (i := 1) (v := ?_) rfl (by kernel_rfl) (by kernel_rfl) (by kernel_rfl) (fun _ _ _ h => h) rfl ?_ hHeld ?_
        rotate_left
        · intro w _; go_simp; first | done | (with_reducible rfl)
        try simp only [Act.put, List.setIfInBounds_toArray, List.set_cons_zero, List.set_cons_succ]
        refine takeH (i := 2) (v := ?_) rfl (by kernel_rfl) (by kernel_rfl) (by kernel_rfl) (fun _ _ _ h => h) rfl ?_ hHeld ?_
        rotate_left
        · intro w _; go_simp; first | done | (with_reducible rfl)
        try simp only [Act.put, List.setIfInBounds_toArray, List.set_cons_zero, List.set_cons_succ]
        refine takeH (i := 3) (v := ?_) rfl (by kernel_rfl) (by kernel_rfl) (by kernel_rfl) (fun _ _ _ h => h) rfl ?_ hHeld ?_
        rotate_left
        · intro w _; go_simp; first | done | (with_reducible rfl)
        try simp only [Act.put, List.setIfInBounds_toArray, List.set_cons_zero, List.set_cons_succ]
        refine takeH (i := 5) (v := ?_) rfl (by kernel_rfl) (by kernel_rfl) (by kernel_rfl) (fun _ _ _ h => h) rfl ?_ hHeld ?_
        rotate_left
        · intro w _; go_simp; first | done | (with_reducible rfl)
        try simp only [Act.put, List.setIfInBounds_toArray, List.set_cons_zero, List.set_cons_succ]
        refine takeH (i := 6) (v := ?_) rfl (by kernel_rfl) (by kernel_rfl) (by kernel_rfl) (fun _ _ _ h => h) rfl ?_ hHeld ?_
        rotate_left
        · intro w _; go_simp; first | done | (with_reducible rfl)
        try simp only [Act.put, List.setIfInBounds_toArray, List.set_cons_zero, List.set_cons_succ]
        refine takeH (i := 7) (v := ?_) rfl (by kernel_rfl) (by kernel_rfl) (by kernel_rfl) (fun _ _ _ h => h) rfl ?_ hHeld ?_
        rotate_left
        · intro w _; go_simp; first | done | (with_reducible rfl)
        try simp only [Act.put, List.setIfInBounds_toArray, List.set_cons_zero, List.set_cons_succ]
        refine twoH (i := 4) (j := 8) rfl rfl (by kernel_rfl) rfl rfl (fun K hK => ?_) (fun K hK => ?_)
        · refine wp_load_part _ 168 (.tmp 37) rfl g 0 rfl 171 (mcL S B' 64) (uc S.list).toList 8 (0, 0) _ hS1 (by rw [List.drop_zero]; exact mcL_numbers S B' 64) Tryz.underlying168 rfl hcS ?_
          refine hK.out _ _ trivial (fun hHeld => ?_)
          clear hK K
          try simp only [Act.put, List.setIfInBounds_toArray, List.set_cons_zero, List.set_cons_succ]
          refine onlyH (i := 8) rfl (by kernel_rfl) rfl (fun K hK => ?_)
          refine wp_load_part _ 169 (.tmp 41) rfl g 8 rfl 171 (mcL S B' 64) (bc B') 64 (0, 0) _ hS1 (mcL_block S B' 64 hB64) Tryz.underlying169 rfl hcB ?_
          refine hK.out _ _ trivial (fun hHeld => ?_)
          clear hK K
          try simp only [Act.put, List.setIfInBounds_toArray, List.set_cons_zero, List.set_cons_succ]
          refine onlyH (i := 9) rfl (by kernel_rfl) rfl (fun K hK => ?_)
          simp only [Array.toArray_toList]
          go_simp
          refine (hmx _ hTW).mono ?_
          rintro e1 w4 ⟨rfl, hb4⟩
          go_simp
          have hS4 := (hb4.block _ (lt_of_heap hS1)).trans hS1
          have hb4' : Below g w w4 := HB2.out.drew.trans (hb4.mono (Nat.le_of_lt (lt_of_heap hS1)))
          refine hK.out _ _ trivial (fun hHeld => ?_)
          clear hK K
          refine takeH (i := 10) (v := ?_) rfl (by kernel_rfl) (by kernel_rfl) (by kernel_rfl) (fun _ _ _ h => h) rfl ?_ hHeld ?_
          rotate_left
          · intro w _; go_simp; first | done | (with_reducible rfl)
          try simp only [Act.put, List.setIfInBounds_toArray, List.set_cons_zero, List.set_cons_succ]
          refine takeH (i := 11) (v := ?_) rfl (by kernel_rfl) (by kernel_rfl) (by kernel_rfl) (fun _ _ _ h => h) rfl ?_ hHeld ?_
          rotate_left
          · intro w _; go_simp; first | done | (with_reducible rfl)
          try simp only [Act.put, List.setIfInBounds_toArray, List.set_cons_zero, List.set_cons_succ]
          refine onlyH (i := 12) rfl (by kernel_rfl) rfl (fun K hK => ?_)
          refine wp_store_part _ 168 (.tmp 45) (.tmp 43) rfl g 0 (uc T.list) rfl rfl 171 (mcL S B' 64) hS4 hcC (by rw [mcL_length _ _ _ hB64, uc_st]; omega) (uc_one _) ?_
          intro w5 hrow5 hg5
          rw [uc_st, mcL_put] at hrow5
          have hb5 : Below g w w5 := hb4'.grown hg5 (Nat.le_of_lt (lt_of_heap hS4)) (by intro k hk; injection hk with hk; omega)
          refine hK.out _ _ trivial (fun hHeld => ?_)
          clear hK K
          try simp only [Act.put]
          refine wpAnyH_done (by kernel_rfl) ?_ _
          have hc5 : w5.cell? ⟨g, 72, none⟩ = some (.int .i64 ((64 : Nat) : Int)) := by rw [cell_of_row _ _ _ _ _ _ hrow5, List.getElem?_toArray, mcL_held _ _ _ hB64]
          have hf5 : w5.frozen? ⟨g, 72, none⟩ = false := by simp [World.frozen?, hrow5]
          have hrow6 : (w5.setCell ⟨g, 72, none⟩ (.int .i64 0)).heap[g]? = some (.cells (mcL T B' 0).toArray 171) := by
            rw [heap_setCell _ _ _ _ _ _ _ hrow5, List.setIfInBounds_toArray]
            exact congrArg (fun x : List Value => some (Obj.cells x.toArray 171)) (mcL_set T B' 64 0 hB64)
          have HR6 := hide hrow6
          have HB6 := hide (hb5.setCell (p := ⟨g, 72, none⟩) (Nat.le_refl _) (.int .i64 0))
          clear hrow5 hrow6 hb5 hg5 hS4 hb4' hb4 hmx hcC hS1 hTW hcS hcB
          go_wp2
          go_roundw
          case rel =>
            obtain ⟨e1, e2, e4⟩ := HE.out
            refine ⟨done ++ rest.take n, rest.drop n, by rw [HP.out]; simp, rfl, ?_, HB6.out⟩
            rw [HSTR.out _ HP.out]
            exact ⟨B', by rw [e2, e1, ← HTE.out]; exact HR6.out, hB64, by rw [e1, e4, List.take_zero]⟩
          case measure => simp [strB_size]; omega
        · refine wp_load_part _ 169 (.tmp 41) rfl g 8 rfl 171 (mcL S B' 64) (bc B') 64 (0, 0) _ hS1 (mcL_block S B' 64 hB64) Tryz.underlying169 rfl hcB ?_
          refine hK.out _ _ trivial (fun hHeld => ?_)
          clear hK K
          try simp only [Act.put, List.setIfInBounds_toArray, List.set_cons_zero, List.set_cons_succ]
          refine onlyH (i := 4) rfl (by kernel_rfl) rfl (fun K hK => ?_)
          refine wp_load_part _ 168 (.tmp 37) rfl g 0 rfl 171 (mcL S B' 64) (uc S.list).toList 8 (0, 0) _ hS1 (by rw [List.drop_zero]; exact mcL_numbers S B' 64) Tryz.underlying168 rfl hcS ?_
          refine hK.out _ _ trivial (fun hHeld => ?_)
          clear hK K
          try simp only [Act.put, List.setIfInBounds_toArray, List.set_cons_zero, List.set_cons_succ]
          refine onlyH (i := 9) rfl (by kernel_rfl) rfl (fun K hK => ?_)
          simp only [Array.toArray_toList]
          go_simp
          refine (hmx _ hTW).mono ?_
          rintro e1 w4 ⟨rfl, hb4⟩
          go_simp
          have hS4 := (hb4.block _ (lt_of_heap hS1)).trans hS1
          have hb4' : Below g w w4 := HB2.out.drew.trans (hb4.mono (Nat.le_of_lt (lt_of_heap hS1)))
          refine hK.out _ _ trivial (fun hHeld => ?_)
          clear hK K
          refine takeH (i := 10) (v := ?_) rfl (by kernel_rfl) (by kernel_rfl) (by kernel_rfl) (fun _ _ _ h => h) rfl ?_ hHeld ?_
          rotate_left
          · intro w _; go_simp; first | done | (with_reducible rfl)
          try simp only [Act.put, List.setIfInBounds_toArray, List.set_cons_zero, List.set_cons_succ]
          refine takeH (i := 11) (v := ?_) rfl (by kernel_rfl) (by kernel_rfl) (by kernel_rfl) (fun _ _ _ h => h) rfl ?_ hHeld ?_
          rotate_left
          · intro w _; go_simp; first | done | (with_reducible rfl)
          try simp only [Act.put, List.setIfInBounds_toArray, List.set_cons_zero, List.set_cons_succ]
          refine onlyH (i := 12) rfl (by kernel_rfl) rfl (fun K hK => ?_)
          refine wp_store_part _ 168 (.tmp 45) (.tmp 43) rfl g 0 (uc T.list) rfl rfl 171 (mcL S B' 64) hS4 hcC (by rw [mcL_length _ _ _ hB64, uc_st]; omega) (uc_one _) ?_
          intro w5 hrow5 hg5
          rw [uc_st, mcL_put] at hrow5
          have hb5 : Below g w w5 := hb4'.grown hg5 (Nat.le_of_lt (lt_of_heap hS4)) (by intro k hk; injection hk with hk; omega)
          refine hK.out _ _ trivial (fun hHeld => ?_)
          clear hK K
          try simp only [Act.put]
          refine wpAnyH_done (by kernel_rfl) ?_ _
          have hc5 : w5.cell? ⟨g, 72, none⟩ = some (.int .i64 ((64 : Nat) : Int)) := by rw [cell_of_row _ _ _ _ _ _ hrow5, List.getElem?_toArray, mcL_held _ _ _ hB64]
          have hf5 : w5.frozen? ⟨g, 72, none⟩ = false := by simp [World.frozen?, hrow5]
          have hrow6 : (w5.setCell ⟨g, 72, none⟩ (.int .i64 0)).heap[g]? = some (.cells (mcL T B' 0).toArray 171) := by
            rw [heap_setCell _ _ _ _ _ _ _ hrow5, List.setIfInBounds_toArray]
            exact congrArg (fun x : List Value => some (Obj.cells x.toArray 171)) (mcL_set T B' 64 0 hB64)
          have HR6 := hide hrow6
          have HB6 := hide (hb5.setCell (p := ⟨g, 72, none⟩) (Nat.le_refl _) (.int .i64 0))
          clear hrow5 hrow6 hb5 hg5 hS4 hb4' hb4 hmx hcC hS1 hTW hcS hcB
          go_wp2
          go_roundw
          case rel =>
            obtain ⟨e1, e2, e4⟩ := HE.out
            refine ⟨done ++ rest.take n, rest.drop n, by rw [HP.out]; simp, rfl, ?_, HB6.out⟩
            rw [HSTR.out _ HP.out]
            exact ⟨B', by rw [e2, e1, ← HTE.out]; exact HR6.out, hB64, by rw [e1, e4, List.take_zero]⟩
          case measure => simp [strB_size]; omega
        -- end of region
      · have hnf : (h : Int) + (n : Int) ≠ 64 := by omega
        go_wp2_with fail
        go_region
        go_wp2
        go_roundw
        case rel =>
          obtain ⟨e1, e2, e3, e4⟩ := HFS.out (by omega)
          refine ⟨done ++ rest.take n, rest.drop n, by rw [HP.out]; simp, rfl, ?_, HB2.out⟩
          rw [HSTR.out _ HP.out]
          exact ⟨_, by rw [e2, e1]; exact HR2.out, e3, e4⟩
        case measure => simp [strB_size]; omega
end Go.Proofs.YtokebnkgjchfaaaGreatDoor

/-
  What the sum of texts answers. Conditions: the table holds its numbers; all texts together within the reach.
-/
namespace Go.Proofs.YtokebnkgjchfaaaGreatDoor
open Go.RowKit

/-- The slice v has these texts. -/
def Ps (w : World) (v : Value) (ls : List (List UInt8)) : Prop :=
  ∃ ao cap, v = .slice ao ls.length cap ∧ ls.length ≤ cap ∧ cap ≤ maxLen ∧
    (ls ≠ [] → ∃ b off, ao = some ⟨b, off, none⟩ ∧ b < w.heap.size ∧ ∀ j (h : j < ls.length), w.cell? ⟨b, off + j, none⟩ = some (.string (strB (ls[j]'h))))
theorem Ps.keep {w w' : World} {v : Value} {ls : List (List UInt8)} (h : Ps w v ls) (hb : Below w.heap.size w w') : Ps w' v ls := by
  obtain ⟨ao, cap, hv, h1, h2, h4⟩ := h
  refine ⟨ao, cap, hv, h1, h2, fun hl => ?_⟩
  obtain ⟨b, off, ha, hlt, hc⟩ := h4 hl
  exact ⟨b, off, ha, Nat.lt_of_lt_of_le hlt hb.size, fun j hj => (hb.cell (p := ⟨b, off + j, none⟩) hlt).trans (hc j hj)⟩

def z38 : Array Value := (mcL ⟨0, 0, 0, 0, 0, 0, 0, 0⟩ (List.replicate 64 0) 0).toArray
def m38 : Array Value := (mcL st0 (List.replicate 64 0) 0).toArray
theorem Tryz.zeroMixer : (Tryz.prog.info? 171).map (fun i => (i.zero, i.size)) = some (some (.agg z38), 73) := by kernel_rfl
theorem chain38 : ((((((((z38.setIfInBounds 0 (.int .u32 1779033703)).setIfInBounds 1 (.int .u32 3144134277)).setIfInBounds 2 (.int .u32 1013904242)).setIfInBounds 3 (.int .u32 2773480762)).setIfInBounds 4 (.int .u32 1359893119)).setIfInBounds 5 (.int .u32 2600822924)).setIfInBounds 6 (.int .u32 528734635)).setIfInBounds 7 (.int .u32 1541459225)) = m38 := by kernel_rfl
theorem z38_size : z38.size = 73 := by kernel_rfl
theorem m38_size : m38.size = 73 := by kernel_rfl
theorem m38_one : m38.all (·.oneCell') = true := by kernel_rfl
theorem fed_start (w : World) (g : Nat) (h : w.heap[g]? = some (.cells m38 171)) : Fed w g [] := ⟨List.replicate 64 0, h, by simp, rfl⟩

theorem sha_out (l : List UInt8) : sha l = out (mix st0 (l ++ tail l.length) ((l ++ tail l.length).length / 64)) := rfl

set_option maxRecDepth 20000 in
set_option maxHeartbeats 800000 in
theorem sum_any (w : World) (v : Value) (ls : List (List UInt8)) (h : Ps w v ls) (hT : TabW w) (hsz : ls.flatten.length ≤ 140737488355328) :
    Calls Tryz.prog 93 #[v] w fun e w' => e = .returned (.string (strB (sha ls.flatten))) ∧ Below w.heap.size w w' := by
  obtain ⟨ao, cap, rfl, h1, h2, h4⟩ := h
  unfold maxLen at h2
  obtain ⟨hz, hi38⟩ := zero_of_info Tryz.zeroMixer
  have hch := chain38
  have hzs := z38_size
  have hms : z38.size = m38.size := by rw [z38_size, m38_size]
  have hone := m38_one
  have hfs := fed_start
  have hmi : (Tryz.prog.info? 171).map (·.size) = some m38.size := by rw [m38_size]; exact hi38
  have HFS := hide hfs
  have HONE := hide hone
  have HMI := hide hmi
  have HMS := hide hms
  clear hfs hone hmi hi38 hms
  generalize z38 = Z at *
  generalize m38 = M at *
  go_enter Tryz.func93, Tryz.ntmps93
  go_wp2_with (refine wpList_store_arr _ rfl 171 (.tmp 3) (.tmp 8) rfl _ M rfl rfl 171 Z (heap_last _ _ _ rfl) HMI.out HMS.out HONE.out ?_; intro w1 hrow1 hg1)
  have hb1 : Below w.heap.size w w1 := ((Below.refl _ _).alloc (Nat.le_refl _) _).grown hg1 (by simp) (by intro k hk; injection hk with hk; omega)
  have hF1 := HFS.out w1 w.heap.size hrow1
  have h0 := hT.1
  clear hrow1 hg1 hz hzs HFS HONE HMI HMS
  go_loopw [4, 11] (fun x t wr => ∃ k : Nat, k ≤ ls.length ∧ t = .int .i64 k ∧ x = .int .u64 (((ls.take k).flatten.length : Nat) : Int) ∧ Fed wr w.heap.size (ls.take k).flatten ∧ Below w.heap.size w wr)
    (fun _ t _ => ls.length - (intOf t).toNat)
  case atStart => exact ⟨0, by omega, rfl, rfl, hF1, hb1⟩
  case round =>
    clear hF1 hb1
    obtain ⟨k, hk, rfl, rfl, hF, hb⟩ := hrel
    have hTr := hide (hT.keep hb h0)
    by_cases hlt : k < ls.length
    · obtain ⟨b, off, rfl, hbl, hc⟩ := h4 (by rintro rfl; simp at hlt)
      have hcell := (hb.cell (p := ⟨b, off + k, none⟩) hbl).trans (hc k hlt)
      have hn : (ls.take (k + 1)).flatten = (ls.take k).flatten ++ ls[k] := by
        rw [List.take_succ_eq_append_getElem hlt, List.flatten_append]; simp
      have hle : (ls.take (k + 1)).flatten.length ≤ ls.flatten.length := by
        have : ls.flatten = (ls.take (k + 1)).flatten ++ (ls.drop (k + 1)).flatten := by rw [← List.flatten_append, List.take_append_drop]
        rw [this, List.length_append]; omega
      have hsum : (ls.take k).flatten.length + (ls[k]).length ≤ 140737488355328 := by
        rw [hn, List.length_append] at hle; omega
      have HN := hide hn
      have HF := hide hF
      have HB := hide hb
      clear hn hF hb hle hsz hc h4
      generalize (ls.take k).flatten = A at *
      generalize ls[k] = p at *
      have hps := strB_size p
      generalize hAl : A.length = al at *
      generalize hpl : p.length = pl at *
      have HAL := hide hAl
      have HPL := hide hpl
      clear hAl hpl
      go_wp2_with fail
      refine (add_any _ w.heap.size A p HF.out hTr.out h0).mono ?_
      rintro e1 w2 ⟨rfl, hF2, hb2⟩
      have HF2 := hide hF2
      have HB2 := hide (HB.out.trans hb2)
      clear hF2 hb2
      go_wp2
      go_roundw
      case rel => exact ⟨k + 1, by omega, by go_num, by rw [HN.out, List.length_append, HAL.out, HPL.out]; go_num, by rw [HN.out]; exact HF2.out, HB2.out⟩
      case measure => simp [intOf]; omega
    · have e : ls.take k = ls := List.take_of_length_le (by omega)
      rw [e] at hF ⊢
      have hSH := hide (sha_out ls.flatten)
      clear h4 e
      generalize hA : ls.flatten = A at *
      have HA := hide hA
      clear hA
      have HF := hide hF
      have HB := hide hb
      clear hF hb
      generalize hAl : A.length = al at *
      have HAL := hide hAl
      clear hAl
      go_wp2_with fail
      refine (ending_any _ al (by omega)).mono ?_
      rintro e1 w2 ⟨rfl, hb2⟩
      have hg2 : w.heap.size < wr.heap.size := by
        obtain ⟨B, hrow, _⟩ := HF.out
        exact lt_of_heap hrow
      have hF2 : Fed w2 w.heap.size A := by
        obtain ⟨B, hrow, hx⟩ := HF.out
        exact ⟨B, (hb2.block _ hg2).trans hrow, hx⟩
      have hB2 := HB.out.trans (hb2.mono (Nat.le_of_lt hg2))
      have HF2 := hide hF2
      have HB2 := hide hB2
      clear hF2 hB2 hb2
      go_wp2_with fail
      refine (add_any _ w.heap.size A (tail al) HF2.out (hT.keep HB2.out h0) h0).mono ?_
      rintro e1 w3 ⟨rfl, hF3, hb3⟩
      obtain ⟨B, hrow, _, _⟩ := hF3
      have HB3 := hide (HB2.out.trans hb3)
      generalize mix st0 (A ++ tail al) ((A ++ tail al).length / 64) = S at *
      generalize (A ++ tail al).length % 64 = hh at *
      have hin : (Tryz.prog.info? 168).map (·.size) = some (uc S.list).toList.length := Tryz.infoEight
      have hnb := mcL_numbers S B hh
      clear hb3
      go_wp2_with (refine wpList_load_part _ rfl 168 (.tmp 26) rfl w.heap.size 0 rfl 171 (mcL S B hh) (uc S.list).toList 8 (0, 0) _ hrow (by rw [List.drop_zero]; exact hnb) Tryz.underlying168 rfl hin ?_; rw [Array.toArray_toList])
      refine (bytesOf_any _ S).mono ?_
      rintro e1 w4 ⟨rfl, hb4⟩
      have hb := HB3.out.trans (hb4.mono HB3.out.size)
      clear hb4
      go_wp2
      go_ret
      exact ⟨ret_str (by rw [HA.out, hSH.out]), hb⟩
end Go.Proofs.YtokebnkgjchfaaaGreatDoor

/-
  What objects are, plainly: how bytes are gone through, what is right. No program. No condition.
-/
namespace Go.Proofs.YtokebnkgjchfaaaGreatDoor

/-- From a to q the bytes bs stand. -/
def Sees (l : List UInt8) (a q : Nat) (bs : List UInt8) : Prop := l.drop a = bs ++ l.drop q ∧ q = a + bs.length ∧ q ≤ l.length
theorem Sees.refl {l : List UInt8} {a : Nat} (h : a ≤ l.length) : Sees l a a [] := ⟨by simp, by simp, h⟩
theorem Sees.trans {l : List UInt8} {a q r : Nat} {x y : List UInt8} (h : Sees l a q x) (k : Sees l q r y) : Sees l a r (x ++ y) := by
  refine ⟨by rw [h.1, k.1, List.append_assoc], ?_, k.2.2⟩
  rw [k.2.1, h.2.1, List.length_append]
  omega
theorem Sees.part {l : List UInt8} {a r : Nat} {x y : List UInt8} (h : Sees l a r (x ++ y)) : Sees l a (a + x.length) x ∧ Sees l (a + x.length) r y := by
  obtain ⟨h1, h2, h3⟩ := h
  rw [List.length_append] at h2
  have e : l.drop (a + x.length) = y ++ l.drop r := by
    rw [← List.drop_drop, h1, List.append_assoc, List.drop_left]
  exact ⟨⟨by rw [e, h1, List.append_assoc], rfl, by omega⟩, e, by omega, h3⟩
theorem Sees.all {l bs : List UInt8} (h : Sees l 0 l.length bs) : l = bs := by
  have := h.1
  simpa using this
theorem Sees.whole (l : List UInt8) : Sees l 0 l.length l := ⟨by simp, by simp, Nat.le_refl _⟩
theorem Sees.same {l x y : List UInt8} {a q : Nat} (h : Sees l a q x) (k : Sees l a q y) : x = y := by
  have e : x ++ l.drop q = y ++ l.drop q := h.1.symm.trans k.1
  exact List.append_cancel_right e
theorem Sees.le {l x : List UInt8} {a q : Nat} (h : Sees l a q x) : a ≤ q ∧ x.length ≤ l.length := by
  obtain ⟨_, h2, h3⟩ := h
  omega

/-- Where a reading stands; none: something was not there. -/
abbrev Pos := Option Nat
def rI (l : List UInt8) : Pos → Int × Pos
  | none => (0, none)
  | some a => match takeI l a with
    | some (n, q) => (n, some q)
    | none => (0, none)
def rT (l : List UInt8) (most : Int) : Pos → List UInt8 × Pos
  | none => ([], none)
  | some a => match takeT l a most with
    | some (t, q) => (t, some q)
    | none => ([], none)
def rD (l : List UInt8) : Pos → List UInt8 × Pos
  | none => ([], none)
  | some a => if a + 32 ≤ l.length then ((l.drop a).take 32, some (a + 32)) else ([], none)
def rC (l : List UInt8) (most : Int) (s : Pos) : Int × Pos := if (rI l s).1 < 0 ∨ most < (rI l s).1 then (0, none) else rI l s
def rP {α β : Type} (f : Pos → α × Pos) (g : Pos → β × Pos) (s : Pos) : (α × β) × Pos := (((f s).1, (g (f s).2).1), (g (f s).2).2)
def rN {α : Type} (one : Pos → α × Pos) : Nat → Pos → List α × Pos
  | 0, s => ([], s)
  | n + 1, s => ((one s).1 :: (rN one n (one s).2).1, (rN one n (one s).2).2)

/-- What is read so is written so. -/
structure Fm {α : Type} (l : List UInt8) (one : Pos → α × Pos) (enc : α → List UInt8) (ok : α → Prop) : Prop where
  stop : (one none).2 = none
  sound : ∀ a q, a ≤ l.length → (one (some a)).2 = some q → Sees l a q (enc (one (some a)).1) ∧ ok (one (some a)).1
  put : ∀ a q x, ok x → Sees l a q (enc x) → one (some a) = (x, some q)

theorem Fm.weak {α : Type} {l : List UInt8} {one : Pos → α × Pos} {enc : α → List UInt8} {ok ok' : α → Prop} (h : Fm l one enc ok) (h1 : ∀ x, ok x → ok' x) (h2 : ∀ x, (enc x).length ≤ l.length → ok' x → ok x) : Fm l one enc ok' :=
  ⟨h.stop, fun a q ha hq => ⟨(h.sound a q ha hq).1, h1 _ (h.sound a q ha hq).2⟩, fun a q x hx hs => h.put a q x (h2 x hs.le.2 hx) hs⟩
theorem Fm.both {α β : Type} {l : List UInt8} {f : Pos → α × Pos} {g : Pos → β × Pos} {ef : α → List UInt8} {eg : β → List UInt8} {of : α → Prop} {og : β → Prop} (hf : Fm l f ef of) (hg : Fm l g eg og) :
    Fm l (rP f g) (fun x => ef x.1 ++ eg x.2) (fun x => of x.1 ∧ og x.2) := by
  refine ⟨by simp only [rP]; rw [hf.stop, hg.stop], fun a q ha hq => ?_, fun a q x hx hs => ?_⟩
  · simp only [rP] at hq ⊢
    cases h1 : (f (some a)).2 with
    | none => rw [h1, hg.stop] at hq; cases hq
    | some r =>
      obtain ⟨s1, o1⟩ := hf.sound a r ha h1
      rw [h1] at hq
      obtain ⟨s2, o2⟩ := hg.sound r q s1.2.2 hq
      exact ⟨s1.trans s2, o1, o2⟩
  · obtain ⟨s1, s2⟩ := hs.part
    simp only [rP]
    rw [hf.put _ _ _ hx.1 s1]
    simp only
    rw [hg.put _ _ _ hx.2 s2]
theorem Fm.list {α : Type} {l : List UInt8} {one : Pos → α × Pos} {enc : α → List UInt8} {ok : α → Prop} (h : Fm l one enc ok) : ∀ n, Fm l (rN one n) (fun xs => xs.flatMap enc) (fun xs => xs.length = n ∧ ∀ x ∈ xs, ok x)
  | 0 => by
    refine ⟨rfl, fun a q ha hq => ?_, fun a q x hx hs => ?_⟩
    · simp only [rN] at hq ⊢
      injection hq with hq
      subst hq
      exact ⟨by simpa using Sees.refl ha, by simp⟩
    · obtain rfl : x = [] := List.eq_nil_of_length_eq_zero hx.1
      have := hs.2.1
      simp at this
      simp [rN, this]
  | n + 1 => by
    have ih := Fm.list h n
    refine ⟨by simp only [rN]; rw [h.stop, ih.stop], fun a q ha hq => ?_, fun a q x hx hs => ?_⟩
    · simp only [rN] at hq ⊢
      cases h1 : (one (some a)).2 with
      | none => rw [h1, ih.stop] at hq; cases hq
      | some r =>
        obtain ⟨s1, o1⟩ := h.sound a r ha h1
        rw [h1] at hq
        obtain ⟨s2, o2, o3⟩ := ih.sound r q s1.2.2 hq
        refine ⟨by rw [List.flatMap_cons]; exact s1.trans s2, by rw [List.length_cons, o2], fun x hx => ?_⟩
        rcases List.mem_cons.1 hx with rfl | hx
        · exact o1
        · exact o3 x hx
    · obtain ⟨hx1, hx2⟩ := hx
      cases x with
      | nil => simp at hx1
      | cons y ys =>
        rw [List.flatMap_cons] at hs
        obtain ⟨s1, s2⟩ := hs.part
        simp only [rN]
        rw [h.put _ _ _ (hx2 y (by simp)) s1]
        simp only
        rw [ih.put _ _ ys ⟨by simpa using hx1, fun z hz => hx2 z (by simp [hz])⟩ s2]

def In64 (n : Int) : Prop := -9223372036854775808 ≤ n ∧ n ≤ 9223372036854775807
theorem sees_take {l bs : List UInt8} {a q : Nat} (h : (l.drop a).take (q - a) = bs) (h1 : a ≤ q) (h2 : q ≤ l.length) : Sees l a q bs := by
  subst h
  refine ⟨?_, by simp; omega, h2⟩
  have e : l.drop q = (l.drop a).drop (q - a) := by rw [List.drop_drop]; congr 1; omega
  rw [e, List.take_append_drop]
theorem fmI (l : List UInt8) : Fm l (rI l) num In64 := by
  refine ⟨rfl, fun a q ha hq => ?_, fun a q x hx hs => ?_⟩
  · simp only [rI] at hq ⊢
    cases h1 : takeI l a with
    | none => rw [h1] at hq; cases hq
    | some r =>
      obtain ⟨n, r⟩ := r
      rw [h1] at hq
      obtain rfl : r = q := by simpa using hq
      obtain ⟨_, g2, g3, g4, g5, g6, _⟩ := takeI_sound h1
      rw [Int.toNat_natCast] at g2 g4
      exact ⟨sees_take g4 g2 g3, g5, g6⟩
  · have hle := hs.le.1
    have e : l = l.take a ++ (num x ++ l.drop q) := by rw [← hs.1, List.take_append_drop]
    have hl : (l.take a).length = a := by rw [List.length_take]; have := hs.2.2; omega
    have h1 := takeI_put (l.take a) (l.drop q) x hx.1 hx.2
    rw [← e, hl] at h1
    simp only [rI]
    rw [h1, hs.2.1]
theorem fmT (l : List UInt8) (most : Int) (hm : most ≤ 9223372036854775807) : Fm l (rT l most) txt (fun t => (t.length : Int) ≤ most) := by
  refine ⟨rfl, fun a q ha hq => ?_, fun a q x hx hs => ?_⟩
  · simp only [rT] at hq ⊢
    cases h1 : takeT l a most with
    | none => rw [h1] at hq; cases hq
    | some r =>
      obtain ⟨n, r⟩ := r
      rw [h1] at hq
      obtain rfl : r = q := by simpa using hq
      obtain ⟨_, g2, g3, g4, g5⟩ := takeT_sound h1
      rw [Int.toNat_natCast] at g2 g4
      exact ⟨sees_take g4 g2 g3, g5⟩
  · have hle := hs.le.1
    have e : l = l.take a ++ (txt x ++ l.drop q) := by rw [← hs.1, List.take_append_drop]
    have hl : (l.take a).length = a := by rw [List.length_take]; have := hs.2.2; omega
    have h1 := takeT_put (l.take a) (l.drop q) x most hx (by omega)
    rw [← e, hl] at h1
    simp only [rT]
    rw [h1, hs.2.1]
theorem txt_length (t : List UInt8) : t.length ≤ (txt t).length := by unfold txt; simp
/-- A text of any length, as the bytes may have. -/
theorem fmT' (l : List UInt8) (hl : (l.length : Int) ≤ 9223372036854775807) : Fm l (rT l l.length) txt (fun _ => True) :=
  (fmT l l.length hl).weak (fun _ _ => trivial) (fun x hx _ => by have := txt_length x; omega)
theorem fmD (l : List UInt8) : Fm l (rD l) (fun t => t) (fun t => t.length = 32) := by
  refine ⟨rfl, fun a q ha hq => ?_, fun a q x hx hs => ?_⟩
  · simp only [rD] at hq ⊢
    split at hq
    · rename_i h
      rw [if_pos h]
      obtain rfl : a + 32 = q := by simpa using hq
      exact ⟨sees_take (by rw [Nat.add_sub_cancel_left]) (by omega) h, by rw [List.length_take, List.length_drop]; omega⟩
    · cases hq
  · obtain ⟨h1, h2, h3⟩ := hs
    simp only [rD]
    rw [if_pos (by omega), h1, List.take_left' hx, h2, hx]
theorem fmC (l : List UInt8) (most : Int) (hm : most ≤ 9223372036854775807) : Fm l (rC l most) num (fun n => 0 ≤ n ∧ n ≤ most) := by
  have h := fmI l
  refine ⟨by unfold rC; split <;> rfl, fun a q ha hq => ?_, fun a q x hx hs => ?_⟩
  · unfold rC at hq ⊢
    split at hq
    · cases hq
    · rename_i hn
      rw [if_neg hn]
      obtain ⟨s1, s2⟩ := h.sound a q ha hq
      exact ⟨s1, by omega⟩
  · have := h.put a q x ⟨by omega, by omega⟩ hs
    unfold rC
    rw [this]
    simp only
    rw [if_neg (by omega)]
/-- How many, and each. -/
def rL {α : Type} (l : List UInt8) (most : Int) (one : Pos → α × Pos) (s : Pos) : List α × Pos := rN one (rC l most s).1.toNat (rC l most s).2
def listB {α : Type} (enc : α → List UInt8) (xs : List α) : List UInt8 := num xs.length ++ xs.flatMap enc
theorem Fm.many {α : Type} {l : List UInt8} {one : Pos → α × Pos} {enc : α → List UInt8} {ok : α → Prop} (h : Fm l one enc ok) (most : Int) (hm : most ≤ 9223372036854775807) :
    Fm l (rL l most one) (listB enc) (fun xs => (xs.length : Int) ≤ most ∧ ∀ x ∈ xs, ok x) := by
  have hc := fmC l most hm
  refine ⟨?_, fun a q ha hq => ?_, fun a q x hx hs => ?_⟩
  · unfold rL
    rw [hc.stop, (h.list _).stop]
  · unfold rL at hq ⊢
    cases h1 : (rC l most (some a)).2 with
    | none => rw [h1, (h.list _).stop] at hq; cases hq
    | some r =>
      obtain ⟨s1, o1⟩ := hc.sound a r ha h1
      rw [h1] at hq
      obtain ⟨s2, o2, o3⟩ := (h.list _).sound r q s1.2.2 hq
      have e : ((rN one (rC l most (some a)).1.toNat (some r)).1.length : Int) = (rC l most (some a)).1 := by rw [o2]; omega
      refine ⟨?_, by rw [e]; exact o1.2, o3⟩
      unfold listB
      rw [e]
      exact s1.trans s2
  · unfold listB at hs
    obtain ⟨s1, s2⟩ := hs.part
    unfold rL
    rw [hc.put _ _ _ ⟨by omega, hx.1⟩ s1]
    simp only
    rw [(h.list _).put _ _ x ⟨by simp, hx.2⟩ s2]
theorem Fm.read {α : Type} {l : List UInt8} {one : Pos → α × Pos} {enc : α → List UInt8} {ok : α → Prop} (h : Fm l one enc ok) (h1 : (one (some 0)).2 = some l.length) : l = enc (one (some 0)).1 ∧ ok (one (some 0)).1 := by
  obtain ⟨s, o⟩ := h.sound 0 _ (Nat.zero_le _) h1
  exact ⟨s.all, o⟩
theorem Fm.back {α : Type} {l : List UInt8} {one : Pos → α × Pos} {enc : α → List UInt8} {ok : α → Prop} (h : Fm l one enc ok) {x : α} (ho : ok x) (hl : l = enc x) : one (some 0) = (x, some l.length) :=
  h.put 0 _ x ho (by rw [← hl]; exact Sees.whole l)

end Go.Proofs.YtokebnkgjchfaaaGreatDoor

/-
  The five kinds of objects, and entries' values, plainly. No program. No condition.
-/
namespace Go.Proofs.YtokebnkgjchfaaaGreatDoor

abbrev Bs := List UInt8
/-- A part: its id, its size. A pair: its key, its value. A link: its last key, its id, how many. -/
abbrev Part := Bs × Int
abbrev Pair := Bs × Bs
abbrev Fan := Int × List Part
def partB (p : Part) : Bs := p.1 ++ num p.2
def pairB (p : Pair) : Bs := txt p.1 ++ txt p.2
def fanB (f : Fan) : Bs := num f.1 ++ listB partB f.2
def leafB (l : List Pair) : Bs := listB pairB l
/-- All 1 or above, together at most so many. -/
def within : List Int → Int → Bool
  | [], _ => true
  | n :: r, most => !(decide (n < 1 ∨ most < n)) && within r (most - n)
theorem within_iff : ∀ (xs : List Int) (m : Int), 0 ≤ m → (within xs m = true ↔ (∀ x ∈ xs, 1 ≤ x) ∧ xs.sum ≤ m)
  | [], m, hm => by simp [within, hm]
  | n :: r, m, hm => by
    have nonneg : ∀ (ys : List Int), (∀ x ∈ ys, 1 ≤ x) → 0 ≤ ys.sum := by
      intro ys
      induction ys with
      | nil => intro _; simp
      | cons y ys ih => intro h; have h1 := ih (fun x hx => h x (by simp [hx])); have h2 := h y (by simp); simp; omega
    by_cases h : n < 1 ∨ m < n
    · simp only [within, h, decide_true, Bool.not_true, Bool.false_and, Bool.false_eq_true, false_iff]
      rintro ⟨h1, h2⟩
      have g1 := h1 n (by simp)
      have g2 := nonneg r (fun x hx => h1 x (by simp [hx]))
      rw [List.sum_cons] at h2
      omega
    · simp only [within, h, decide_false, Bool.not_false, Bool.true_and]
      rw [within_iff r (m - n) (by omega), List.sum_cons]
      constructor
      · rintro ⟨h1, h2⟩
        refine ⟨fun x hx => ?_, by omega⟩
        rcases List.mem_cons.1 hx with rfl | hx
        · omega
        · exact h1 x hx
      · rintro ⟨h1, h2⟩
        exact ⟨fun x hx => h1 x (by simp [hx]), by omega⟩
/-- Each ahead of the next one. -/
def rise (lt : Bs → Bs → Bool) : List Bs → Bool
  | [] => true
  | [_] => true
  | a :: b :: r => lt a b && rise lt (b :: r)
def isKeyB (k : Bs) : Bool := decide (1 ≤ k.length ∧ k.length ≤ 64)
def isIdB (k : Bs) : Bool := decide (k.length = 32)
def levelB (n : Int) : Bool := decide (1 ≤ n ∧ n ≤ 20)
def fanOk (f : Fan) : Bool := levelB f.1 && decide (1 ≤ f.2.length ∧ f.2.length ≤ 32) && f.2.all (fun p => isIdB p.1) && within (f.2.map (·.2)) 262144
def leafOk (lt : Bs → Bs → Bool) (l : List Pair) : Bool := decide (l.length ≤ 64) && l.all (fun p => isKeyB p.1 && decide (p.2.length ≤ 128)) && rise lt (l.map (·.1))
def rPart (l : Bs) : Pos → Part × Pos := rP (rD l) (rI l)
def rPair (l : Bs) (m n : Int) : Pos → Pair × Pos := rP (rT l m) (rT l n)
/-- As the program reads them. -/
def gFan (l : Bs) : Pos → Fan × Pos := rP (rC l 20) (rL l 32 (rPart l))
def gLeaf (l : Bs) : Pos → List Pair × Pos := rL l 64 (rPair l l.length l.length)
theorem fmPart (l : Bs) : Fm l (rPart l) partB (fun p => p.1.length = 32 ∧ In64 p.2) := (fmD l).both (fmI l)
theorem fmFan (l : Bs) : Fm l (gFan l) fanB (fun f => (0 ≤ f.1 ∧ f.1 ≤ 20) ∧ ((f.2.length : Int) ≤ 32 ∧ ∀ p ∈ f.2, p.1.length = 32 ∧ In64 p.2)) := (fmC l 20 (by omega)).both ((fmPart l).many 32 (by omega))
theorem fmLeaf (l : Bs) (hl : (l.length : Int) ≤ 9223372036854775807) : Fm l (gLeaf l) leafB (fun f => ((f.length : Int) ≤ 64 ∧ ∀ p ∈ f, True ∧ True)) := ((fmT' l hl).both (fmT' l hl)).many 64 (by omega)
/-- What bytes behind a mark say, if all is read and right. -/
def said {α : Type} (one : Bs → Pos → α × Pos) (right : α → Bool) (l : Bs) : Option α := if (one l (some 0)).2 = some l.length ∧ right (one l (some 0)).1 = true then some (one l (some 0)).1 else none
theorem said_iff {α : Type} {one : Bs → Pos → α × Pos} {right : α → Bool} {l : Bs} {enc : α → Bs} {ok : α → Prop} (h : Fm l (one l) enc ok) (hr : ∀ x, right x = true → ok x) (x : α) : said one right l = some x ↔ right x = true ∧ l = enc x := by
  unfold said
  constructor
  · intro g
    split at g
    · rename_i g1
      injection g with g
      subst g
      exact ⟨g1.2, (h.read g1.1).1⟩
    · cases g
  · rintro ⟨h1, h2⟩
    have e := h.back (hr x h1) h2
    rw [if_pos (by rw [e]; exact ⟨rfl, h1⟩), e]
theorem within_64 {xs : List Int} {m : Int} (h : within xs m = true) (h0 : 0 ≤ m) (hm : m ≤ 9223372036854775807) : ∀ x ∈ xs, In64 x := by
  induction xs generalizing m with
  | nil => intro x hx; simp at hx
  | cons n r ih =>
    simp only [within, Bool.and_eq_true, Bool.not_eq_true', decide_eq_false_iff_not] at h
    intro x hx
    rcases List.mem_cons.1 hx with rfl | hx
    · exact ⟨by omega, by omega⟩
    · exact ih h.2 (by omega) (by omega) x hx
theorem fan_iff (l : Bs) (f : Fan) : said gFan fanOk l = some f ↔ fanOk f = true ∧ l = fanB f := by
  refine said_iff (fmFan l) (fun x hx => ?_) f
  simp only [fanOk, levelB, isIdB, Bool.and_eq_true, decide_eq_true_eq, List.all_eq_true] at hx
  obtain ⟨⟨⟨h1, h2⟩, h3⟩, h4⟩ := hx
  exact ⟨by omega, by omega, fun p hp => ⟨h3 p hp, within_64 h4 (by omega) (by omega) _ (List.mem_map_of_mem hp)⟩⟩
theorem leaf_iff (lt : Bs → Bs → Bool) (l : Bs) (hl : (l.length : Int) ≤ 9223372036854775807) (f : List Pair) : said gLeaf (leafOk lt) l = some f ↔ leafOk lt f = true ∧ l = leafB f := by
  refine said_iff (fmLeaf l hl) (fun x hx => ?_) f
  simp only [leafOk, Bool.and_eq_true, decide_eq_true_eq] at hx
  exact ⟨by omega, fun _ _ => ⟨trivial, trivial⟩⟩
end Go.Proofs.YtokebnkgjchfaaaGreatDoor

/-
  What is written: a writer in memory, and what its methods do. Conditions: lengths within reach; the writer's bytes lie at or behind its base.
-/
namespace Go.Proofs.YtokebnkgjchfaaaGreatDoor
open Go.RowKit

theorem own_form {w : World} {base size n : Nat} {e : TypeId} {v : Value} {xs : List Value} (h : w.ownsRow base e size v n xs) : ∃ ao cap, v = .slice ao n cap ∧ n ≤ cap ∧ cap ≤ maxLen := by
  rcases h.2 with ⟨rfl, rfl⟩ | ⟨g, cap, cur, rfl, _, _, h1, h2, _⟩
  · exact ⟨none, 0, rfl, by simp, by simp⟩
  · exact ⟨_, _, rfl, h1, h2⟩
theorem wp_append_run {P : Program} {o : Oper} {a : Act} {w : World} {K : Act → World → Prop} {Q : Exit → Act → World → Prop} (s x : Operand) (t : TypeId)
    (ho : o.op = .call { callee := .builtin .append, args := #[s, x], argTypes := #[t, t] }) {v1 v2 v' : Value} {w' : World} (hs : a.eval s = v1) (hx : a.eval x = v2)
    (hrun : (Builtin.append_ #[t, t] o.type #[v1, v2]).run P w = .ok v' w') (hK : K (a.put o.dst v') w') : o.wp P a w K Q := by
  unfold Oper.wp
  simp [execOp, ho, resolve, invoke, builtin, hs, hx, hrun, Result.andThen]
  exact hK

/-- The writer g, which began at base B or behind it, has the bytes l. -/
def Wr (B : Nat) (w : World) (g : Nat) (l : Bs) : Prop := B ≤ g ∧ ∃ v, w.heap[g]? = some (.cells #[v] 144) ∧ w.ownsRow B 5 1 v l.length (bc l)
theorem Wr.lt {B : Nat} {w : World} {g : Nat} {l : Bs} (h : Wr B w g l) : g < w.heap.size := by
  obtain ⟨_, v, h1, _⟩ := h
  exact lt_of_heap h1
theorem ne_own {B : Nat} {w : World} {g : Nat} {v : Value} {n : Nat} {xs : List Value} {cs : Array Value} {t e : TypeId} {fr : Nat × Nat} (hown : w.ownsRow B e 1 v n xs) (hh : w.heap[g]? = some (.cells cs t fr)) (hte : t ≠ e) : some g ≠ v.ownBlock := by
  intro hk
  obtain ⟨c, fz, h1⟩ := Lib.ownsRow_kind hown g hk.symm
  rw [hh] at h1
  injection h1 with h1
  injection h1 with _ h1
  exact hte h1
theorem heap_set0 {w : World} {g : Nat} {v u : Value} {t : TypeId} (h : w.heap[g]? = some (.cells #[v] t)) : (w.setCell ⟨g, 0, none⟩ u).heap[g]? = some (.cells #[u] t) := by
  rw [heap_setCell _ _ _ _ _ _ _ h]
  simp
theorem frozen0 {w : World} {g j : Nat} {cs : Array Value} {t : TypeId} (h : w.heap[g]? = some (.cells cs t)) : w.frozen? ⟨g, j, none⟩ = false := by simp [World.frozen?, h]
theorem own_set {w : World} {B g j : Nat} {v u : Value} {n : Nat} {xs : List Value} {cs : Array Value} {t : TypeId} (hown : w.ownsRow B 5 1 v n xs) (hh : w.heap[g]? = some (.cells cs t)) (hte : t ≠ 5) : (w.setCell ⟨g, j, none⟩ u).ownsRow B 5 1 v n xs :=
  ownsRow_setCell_other hown (fun e => ne_own hown hh hte e.symm) u

/-- Blocks of other types than these stay as they are. -/
def Kt (ts : List TypeId) (w w' : World) : Prop := w.heap.size ≤ w'.heap.size ∧ ∀ (k : Nat) (cs : Array Value) (t : TypeId) (fr : Nat × Nat), w.heap[k]? = some (Obj.cells cs t fr) → t ∉ ts → w'.heap[k]? = some (Obj.cells cs t fr)
theorem Kt.refl (ts : List TypeId) (w : World) : Kt ts w w := ⟨Nat.le_refl _, fun _ _ _ _ h _ => h⟩
theorem Kt.trans {ts : List TypeId} {a b c : World} (h : Kt ts a b) (k : Kt ts b c) : Kt ts a c := ⟨Nat.le_trans h.1 k.1, fun i cs t fr hi ht => k.2 i cs t fr (h.2 i cs t fr hi ht) ht⟩
theorem Kt.below {ts : List TypeId} {a b : World} (h : Below a.heap.size a b) : Kt ts a b := ⟨h.size, fun k _ _ _ hk _ => (h.block k (lt_of_heap hk)).trans hk⟩
theorem Kt.set {ts : List TypeId} {w : World} {g j : Nat} {cs : Array Value} {t : TypeId} {fr : Nat × Nat} (hh : w.heap[g]? = some (.cells cs t fr)) (ht : t ∈ ts) (u : Value) : Kt ts w (w.setCell ⟨g, j, none⟩ u) := by
  refine ⟨by simp [World.setCell], fun k cs' t' fr' hk ht' => ?_⟩
  have hne : k ≠ g := by
    rintro rfl
    rw [hh] at hk
    injection hk with hk
    injection hk with _ hk
    exact ht' (hk ▸ ht)
  rw [← hk]
  unfold World.setCell
  simp [Array.getElem?_modify, Ne.symm hne]
theorem Kt.grown {w w1 : World} {B : Nat} {v : Value} {n : Nat} {xs : List Value} {e : TypeId} {ts : List TypeId} (hown : w.ownsRow B e 1 v n xs) (hgr : w.grownBy w1 v.ownBlock) (he : e ∈ ts) : Kt ts w w1 := by
  refine ⟨hgr.size, fun k cs t fr hk ht => (hgr.block k (lt_of_heap hk) fun hq => ?_).trans hk⟩
  obtain ⟨c, fz, h1⟩ := Lib.ownsRow_kind hown k hq.symm
  rw [hk] at h1
  injection h1 with h1
  injection h1 with _ h1
  exact ht (h1 ▸ he)
/-- What a writer changes. -/
abbrev wts : List TypeId := [5, 144]

set_option maxRecDepth 20000 in
theorem layBare_any (B : Nat) (w : World) (g : Nat) (l s : Bs) (hW : Wr B w g l) (hsz : l.length + s.length ≤ 140737488355328) :
    Calls Tryz.prog 90 #[.pointer (some ⟨g, 0, none⟩), .string (strB s)] w fun e w' => e = .returned (.tuple #[]) ∧ Wr B w' g (l ++ s) ∧ Below B w w' ∧ Kt wts w w' := by
  have hB : B ≤ w.heap.size := Nat.le_of_lt (Nat.lt_of_le_of_lt hW.1 hW.lt)
  obtain ⟨hg, v, hh, hown⟩ := hW
  obtain ⟨i0, hi, hz0, hz1, hz2⟩ := info_parts Tryz.infoB
  have hc := cell_of_row w g 0 _ _ _ hh
  simp only [List.getElem?_toArray, List.getElem?_cons_zero] at hc
  have hne := ne_own hown hh (by decide)
  have hss := strB_size s
  have HN := hide hne
  have HH := hide hh
  have hcf : ∀ w1 : World, w.grownBy w1 v.ownBlock → w1.cell? ⟨g, 0, none⟩ = some v ∧ w1.frozen? ⟨g, 0, none⟩ = false := fun w1 hgr1 => by
    have hh1 : w1.heap[g]? = some (.cells #[v] 144) := (hgr1.block g (lt_of_heap hh) hne).trans hh
    exact ⟨by rw [cell_of_row w1 g 0 _ _ _ hh1]; rfl, frozen0 hh1⟩
  clear hne hh
  go_enter Tryz.func90, Tryz.ntmps90
  go_wp2_with (at_builtin; refine Lib.wpList_append_own_string _ rfl (.tmp 8) (.tmp 9) 74 9 rfl B 5 i0 Tryz.underlying74 Tryz.underlying9 hi hz0 hz1 hz2 v l.length (bc l) rfl hown (strB s) rfl (by unfold maxLen; omega) (by omega) hB ?_; intro v1 w1 hown1 hgr1 _; obtain ⟨a1, c1, rfl, -⟩ := own_form hown1; obtain ⟨hc1, hf1⟩ := hcf w1 hgr1)
  have hh1 : w1.heap[g]? = some (.cells #[v] 144) := (hgr1.block g (lt_of_heap HH.out) HN.out).trans HH.out
  have hb1 : Below B w w1 := (Below.refl _ _).grown hgr1 hB (fun k hk => (hown.lt k hk).1)
  have e : Lib.strCells (strB s) = bc s := by show bc (strB s).data.toList = _; rw [strB_list]
  have e2 : l.length + (strB s).size = (l ++ s).length := by rw [hss, List.length_append]
  rw [e, ← bc_append] at hown1
  go_end0
  refine ⟨rfl, ⟨hg, _, heap_set0 hh1, own_set ?_ hh1 (by decide)⟩, hb1.setCell (p := ⟨g, 0, none⟩) hg _, (Kt.grown hown hgr1 (by decide)).trans (Kt.set hh1 (by decide) _)⟩
  rw [← e2]
  exact hown1
-- behind this: gen_owrite.py

set_option maxRecDepth 20000 in
theorem layNumber_any (B : Nat) (w : World) (g : Nat) (l : Bs) (n : Int) (hW : Wr B w g l) (hn : In64 n) (hsz : l.length + 10 ≤ 140737488355328) :
    Calls Tryz.prog 72 #[.pointer (some ⟨g, 0, none⟩), .int .i64 n] w fun e w' => e = .returned (.tuple #[]) ∧ Wr B w' g (l ++ num n) ∧ Below B w w' ∧ Kt wts w w' := by
  have hglt := hW.lt
  obtain ⟨hg, v, hh, hown⟩ := hW
  obtain ⟨i0, hi, hz0, hz1, hz2⟩ := info_parts Tryz.infoB
  have hc := cell_of_row w g 0 _ _ _ hh
  simp only [List.getElem?_toArray, List.getElem?_cons_zero] at hc
  have hne := ne_own hown hh (by decide)
  have hBw : B ≤ w.heap.size := by omega
  have HN := hide hne
  have HH := hide hh
  clear hne hh
  have hnl := num_length n
  obtain ⟨hn0, hn1⟩ := hn
  go_enter Tryz.func72, Tryz.ntmps72
  go_wp2_with fail
  refine wp_region_held_drew (S := fun _ => True) (by kernel_rfl) (trivial) (fun hHeld => ?_)
  refine takeJ 0 (v := ?_) ?_ hHeld ?_
  rotate_left
  · intro w _; go_simp; try with_reducible rfl
  refine takeJ 1 (v := ?_) ?_ hHeld ?_
  rotate_left
  · intro w _; go_simp; try with_reducible rfl
  refine takeJ 5 (v := ?_) ?_ hHeld ?_
  rotate_left
  · intro w _; go_simp; try with_reducible rfl
  refine takeJ 2 (v := ?_) ?_ hHeld ?_
  rotate_left
  · intro w _; go_simp; try with_reducible rfl
  refine takeJ 3 (v := ?_) ?_ hHeld ?_
  rotate_left
  · intro w _; go_simp; try with_reducible rfl
  refine twoH (i := 4) (j := 6) rfl rfl (by kernel_rfl) rfl rfl (fun K hK => ?_) (fun K hK => ?_)
  · go_simp
    refine hK.out _ _ (trivial) (fun hHeld => ?_)
    clear hK K
    try simp only [Act.put, List.setIfInBounds_toArray, List.set_cons_zero, List.set_cons_succ]
    refine onlyH (i := 6) rfl (by kernel_rfl) rfl (fun K hK => ?_)
    go_simp
    refine (putNum_any _ n hn0 hn1).mono ?_
    rintro e w1 ⟨ag, m1, c1, rfl, hm1, hmc, hsl1, hb1⟩
    refine hK.out _ _ (trivial) (fun hHeld => ?_)
    clear hK K
    try simp only [Act.put, List.setIfInBounds_toArray, List.set_cons_zero, List.set_cons_succ]
    have hb1' : Below w.heap.size w w1 := (Below.refl w.heap.size w).drew.trans hb1
    have hh1 : w1.heap[g]? = some (.cells #[v] 144) := (hb1'.block g hglt).trans HH.out
    have hown1 : w1.ownsRow B 5 1 v l.length (bc l) := hown.kept (row := none) ⟨hb1'.os, hb1'.tape, hb1'.output, hb1'.size, fun k hk _ => hb1'.block k hk⟩ (by cases hq : v.ownBlock with | none => exact .inl rfl | some k => exact .inr (by simp))
    have hm1' := hm1.out
    obtain ⟨v2, w2, hrun, hown2, hgr2, -⟩ := run_append_own (P := Tryz.prog) w1 B 74 74 5 i0 (.int .u8 0) 1 1 Tryz.underlying74 hi hz0 hz1 hz2 rfl (by decide) v l.length (bc l) hown1 ⟨ag, 0, none⟩ m1 c1 (bc (num n)) (by rw [bc_length]; omega) (hsl1.cells (Below.refl _ _) _ rfl) (bc_one _) (by unfold maxLen; omega) (by omega) (Nat.le_trans hBw hb1'.size)
    obtain ⟨a2, c2, rfl, -⟩ := own_form hown2
    have hh2 : w2.heap[g]? = some (.cells #[v] 144) := (hgr2.block g (lt_of_heap hh1) HN.out).trans hh1
    have hb2 : Below B w w2 := ((hb1'.mono hBw).grown hgr2 (Nat.le_trans hBw hb1'.size) (fun k hk => (hown.lt k hk).1))
    have hc2 := cell_of_row w2 g 0 _ _ _ hh2
    simp only [List.getElem?_toArray, List.getElem?_cons_zero] at hc2
    have hf2 := frozen0 (j := 0) hh2
    have e2 : l.length + m1 = (l ++ num n).length := by rw [List.length_append, hm1']
    rw [← bc_append, e2] at hown2
    have HO := hide hown2
    have HB := hide hb2
    have HH2 := hide hh2
    have HE := hide e2
    have HKT : Hid (Kt wts w w2) := hide ((Kt.below hb1').trans (Kt.grown hown1 hgr2 (by decide)))
    clear hown2 hb2 hh2 hgr2 hown1 hh1 hc hm1' e2
    refine onlyH (i := 7) rfl (by kernel_rfl) rfl (fun K hK => ?_)
    refine wp_append_run (.tmp 8) (.tmp 10) 74 rfl rfl rfl hrun ?_
    refine hK.out _ _ (trivial) (fun hHeld => ?_)
    clear hK K
    try simp only [Act.put, List.setIfInBounds_toArray, List.set_cons_zero, List.set_cons_succ]
    refine takeJ 8 (v := ?_) ?_ hHeld ?_
    rotate_left
    · intro w _; go_simp; try with_reducible rfl
    refine takeJ 9 (v := ?_) ?_ hHeld ?_
    rotate_left
    · intro w _; go_simp; try with_reducible rfl
    refine onlyH (i := 10) rfl (by kernel_rfl) rfl (fun K hK => ?_)
    go_simp
    refine hK.out _ _ (trivial) (fun hHeld => ?_)
    clear hK K
    try simp only [Act.put, List.setIfInBounds_toArray, List.set_cons_zero, List.set_cons_succ]
    refine wpAnyH_done (by kernel_rfl) ?_ _
    clear hHeld
    go_wp2
    go_end0
    refine ⟨rfl, ⟨hg, _, heap_set0 HH2.out, own_set ?_ HH2.out (by decide)⟩, HB.out.setCell (p := ⟨g, 0, none⟩) hg _, HKT.out.trans (Kt.set HH2.out (by decide) _)⟩
    have := HO.out
    rw [← HE.out] at this ⊢
    exact this
  · go_simp
    refine (putNum_any _ n hn0 hn1).mono ?_
    rintro e w1 ⟨ag, m1, c1, rfl, hm1, hmc, hsl1, hb1⟩
    have hc1 : w1.cell? ⟨g, 0, none⟩ = some v := (hb1.cell (p := ⟨g, 0, none⟩) hglt).trans hc
    refine hK.out _ _ (trivial) (fun hHeld => ?_)
    clear hK K
    try simp only [Act.put, List.setIfInBounds_toArray, List.set_cons_zero, List.set_cons_succ]
    refine onlyH (i := 4) rfl (by kernel_rfl) rfl (fun K hK => ?_)
    go_simp
    refine hK.out _ _ (trivial) (fun hHeld => ?_)
    clear hK K
    try simp only [Act.put, List.setIfInBounds_toArray, List.set_cons_zero, List.set_cons_succ]
    clear hc1
    have hb1' : Below w.heap.size w w1 := (Below.refl w.heap.size w).drew.trans hb1
    have hh1 : w1.heap[g]? = some (.cells #[v] 144) := (hb1'.block g hglt).trans HH.out
    have hown1 : w1.ownsRow B 5 1 v l.length (bc l) := hown.kept (row := none) ⟨hb1'.os, hb1'.tape, hb1'.output, hb1'.size, fun k hk _ => hb1'.block k hk⟩ (by cases hq : v.ownBlock with | none => exact .inl rfl | some k => exact .inr (by simp))
    have hm1' := hm1.out
    obtain ⟨v2, w2, hrun, hown2, hgr2, -⟩ := run_append_own (P := Tryz.prog) w1 B 74 74 5 i0 (.int .u8 0) 1 1 Tryz.underlying74 hi hz0 hz1 hz2 rfl (by decide) v l.length (bc l) hown1 ⟨ag, 0, none⟩ m1 c1 (bc (num n)) (by rw [bc_length]; omega) (hsl1.cells (Below.refl _ _) _ rfl) (bc_one _) (by unfold maxLen; omega) (by omega) (Nat.le_trans hBw hb1'.size)
    obtain ⟨a2, c2, rfl, -⟩ := own_form hown2
    have hh2 : w2.heap[g]? = some (.cells #[v] 144) := (hgr2.block g (lt_of_heap hh1) HN.out).trans hh1
    have hb2 : Below B w w2 := ((hb1'.mono hBw).grown hgr2 (Nat.le_trans hBw hb1'.size) (fun k hk => (hown.lt k hk).1))
    have hc2 := cell_of_row w2 g 0 _ _ _ hh2
    simp only [List.getElem?_toArray, List.getElem?_cons_zero] at hc2
    have hf2 := frozen0 (j := 0) hh2
    have e2 : l.length + m1 = (l ++ num n).length := by rw [List.length_append, hm1']
    rw [← bc_append, e2] at hown2
    have HO := hide hown2
    have HB := hide hb2
    have HH2 := hide hh2
    have HE := hide e2
    have HKT : Hid (Kt wts w w2) := hide ((Kt.below hb1').trans (Kt.grown hown1 hgr2 (by decide)))
    clear hown2 hb2 hh2 hgr2 hown1 hh1 hc hm1' e2
    refine onlyH (i := 7) rfl (by kernel_rfl) rfl (fun K hK => ?_)
    refine wp_append_run (.tmp 8) (.tmp 10) 74 rfl rfl rfl hrun ?_
    refine hK.out _ _ (trivial) (fun hHeld => ?_)
    clear hK K
    try simp only [Act.put, List.setIfInBounds_toArray, List.set_cons_zero, List.set_cons_succ]
    refine takeJ 8 (v := ?_) ?_ hHeld ?_
    rotate_left
    · intro w _; go_simp; try with_reducible rfl
    refine takeJ 9 (v := ?_) ?_ hHeld ?_
    rotate_left
    · intro w _; go_simp; try with_reducible rfl
    refine onlyH (i := 10) rfl (by kernel_rfl) rfl (fun K hK => ?_)
    go_simp
    refine hK.out _ _ (trivial) (fun hHeld => ?_)
    clear hK K
    try simp only [Act.put, List.setIfInBounds_toArray, List.set_cons_zero, List.set_cons_succ]
    refine wpAnyH_done (by kernel_rfl) ?_ _
    clear hHeld
    go_wp2
    go_end0
    refine ⟨rfl, ⟨hg, _, heap_set0 HH2.out, own_set ?_ HH2.out (by decide)⟩, HB.out.setCell (p := ⟨g, 0, none⟩) hg _, HKT.out.trans (Kt.set HH2.out (by decide) _)⟩
    have := HO.out
    rw [← HE.out] at this ⊢
    exact this

end Go.Proofs.YtokebnkgjchfaaaGreatDoor
