/-
  ObjectBack, walked: what was made an object is read from its bytes as it was. Conditions: what came in lies there; the table holds its numbers.
-/
import Derived.Test.YtmlfonmdiimdfaaDoorOSame
namespace Go.Proofs.YtmlfonmdiimdfaaDoor
open Go.RowKit

theorem rc {w : World} {k i : Nat} {cs : Array Value} {t : TypeId} {fr : Nat × Nat} {u : Value} (h : w.heap[k]? = some (Obj.cells cs t fr)) (hu : cs[i]? = some u) : w.cell? ⟨k, i, none⟩ = some u := by rw [cell_of_row w k i _ _ _ h, hu]
theorem takenFan_nil : takenFan [] = none := by
  cases h : takenFan [] with
  | none => rfl
  | some f => exact absurd ((takenFan_iff _ f).1 h).2 (by simp)
theorem takenLeaf_nil : takenLeaf [] = none := by
  cases h : takenLeaf [] with
  | none => rfl
  | some f => exact absurd ((takenLeaf_iff _ (by simp) f).1 h).2 (by simp)
theorem takenBranch_nil : takenBranch [] = none := by
  cases h : takenBranch [] with
  | none => rfl
  | some f => exact absurd ((takenBranch_iff _ (by simp) f).1 h).2 (by simp)
theorem takenCommit_nil : takenCommit [] = none := by
  cases h : takenCommit [] with
  | none => rfl
  | some f => exact absurd ((takenCommit_iff _ (by simp) f).1 h).2 (by simp)
theorem made_yes (b : Bs) : made true b = .tuple #[.agg #[.string (strB (sha b)), .string (strB b)], .int .i64 0] := rfl
theorem made_no (b : Bs) : made false b = .tuple #[.agg #[.string (strB []), .string (strB [])], .int .i64 80] := rfl

set_option maxRecDepth 20000 in
set_option maxHeartbeats 16000000 in
theorem back_any (w : World) (f : Fan) (ps : List Pair) (n : Branch) (c : Commit) (vf vp vn vc : Value) (hf : Ls w.heap.size w 2 partC vf f.2) (hp : Ls w.heap.size w 2 pairC vp ps) (hn : Ls w.heap.size w 3 linkC vn n.2) (hc : Ls w.heap.size w 1 idC vc c.2.1) (hT : TabW w) :
    Calls Tryd.prog 7 #[.agg #[.int .i64 f.1, vf], vp, .agg #[.int .i64 n.1, vn], .agg #[.string (strB c.1), vc, .string (strB c.2.2.1), .int .i64 c.2.2.2.1, .string (strB c.2.2.2.2)]] w fun e w' => e = .returned (.bool true) ∧ Below w.heap.size w w' := by
  have h0 := hT.1
  have Lf0 := hf
  have Lp0 := hp
  have Ln0 := hn
  have Lc0 := hc
  obtain ⟨af, cf, rfl, -⟩ := hf
  obtain ⟨ap, cp, rfl, -⟩ := hp
  obtain ⟨an, cn, rfl, -⟩ := hn
  obtain ⟨ac, cc, rfl, -⟩ := hc
  have BA : Below w.heap.size w (((w.alloc (.cells #[.int .i64 f.1, .slice af f.2.length cf] 24)).alloc (.cells #[.int .i64 n.1, .slice an n.2.length cn] 41)).alloc (.cells #[.string (strB c.1), .slice ac c.2.1.length cc, .string (strB c.2.2.1), .int .i64 c.2.2.2.1, .string (strB c.2.2.2.2)] 54)) := (((Below.refl _ _).alloc (Nat.le_refl _) _).alloc (by simp) _).alloc (by simp; omega) _
  have zfA : (((w.alloc (.cells #[.int .i64 f.1, .slice af f.2.length cf] 24)).alloc (.cells #[.int .i64 n.1, .slice an n.2.length cn] 41)).alloc (.cells #[.string (strB c.1), .slice ac c.2.1.length cc, .string (strB c.2.2.1), .int .i64 c.2.2.2.1, .string (strB c.2.2.2.2)] 54)).heap[w.heap.size]? = some (.cells #[.int .i64 f.1, .slice af f.2.length cf] 24) := (heap_past _ _ _ (by simp; omega)).trans ((heap_past _ _ _ (by simp)).trans (heap_last w _ _ rfl))
  have znA : (((w.alloc (.cells #[.int .i64 f.1, .slice af f.2.length cf] 24)).alloc (.cells #[.int .i64 n.1, .slice an n.2.length cn] 41)).alloc (.cells #[.string (strB c.1), .slice ac c.2.1.length cc, .string (strB c.2.2.1), .int .i64 c.2.2.2.1, .string (strB c.2.2.2.2)] 54)).heap[w.heap.size + 1]? = some (.cells #[.int .i64 n.1, .slice an n.2.length cn] 41) := (heap_past _ _ _ (by simp)).trans (heap_last (w.alloc (.cells #[.int .i64 f.1, .slice af f.2.length cf] 24)) _ _ (by simp))
  have zcA : (((w.alloc (.cells #[.int .i64 f.1, .slice af f.2.length cf] 24)).alloc (.cells #[.int .i64 n.1, .slice an n.2.length cn] 41)).alloc (.cells #[.string (strB c.1), .slice ac c.2.1.length cc, .string (strB c.2.2.1), .int .i64 c.2.2.2.1, .string (strB c.2.2.2.2)] 54)).heap[w.heap.size + 2]? = some (.cells #[.string (strB c.1), .slice ac c.2.1.length cc, .string (strB c.2.2.1), .int .i64 c.2.2.2.1, .string (strB c.2.2.2.2)] 54) := heap_last ((w.alloc (.cells #[.int .i64 f.1, .slice af f.2.length cf] 24)).alloc (.cells #[.int .i64 n.1, .slice an n.2.length cn] 41)) _ _ (by simp)
  have LfA := Lf0.past BA
  have LpA := Lp0.past BA
  have LnA := Ln0.past BA
  have LcA := Lc0.past BA
  have TA := hT.keep BA h0
  generalize hwA : ((w.alloc (.cells #[.int .i64 f.1, .slice af f.2.length cf] 24)).alloc (.cells #[.int .i64 n.1, .slice an n.2.length cn] 41)).alloc (.cells #[.string (strB c.1), .slice ac c.2.1.length cc, .string (strB c.2.2.1), .int .i64 c.2.2.2.1, .string (strB c.2.2.2.2)] 54) = wA at *
  go_enter Tryd.func7, Tryd.ntmps7
  go_wp2_with fail
  try rw [hwA]
  refine (shown_any wA TA).mono ?_
  rintro e wS ⟨rfl, hbS⟩
  have zfS := (hbS.block _ (lt_of_heap zfA)).trans zfA
  have znS := (hbS.block _ (lt_of_heap znA)).trans znA
  have zcS := (hbS.block _ (lt_of_heap zcA)).trans zcA
  have BS := BA.trans (hbS.mono BA.size)
  have LfS := LfA.past hbS
  have LpS := LpA.past hbS
  have LnS := LnA.past hbS
  have LcS := LcA.past hbS
  have TS := TA.keep hbS (Nat.lt_of_lt_of_le h0 BA.size)
  clear hbS zfA znA zcA  BA LfA LpA LnA LcA TA
  by_cases hok1 : fanOk f = true
  · skip
    have hM := fan_any wS f _ LfS TS
    rw [hok1, made_yes] at hM
    generalize sha (70 :: fanB f) = S1 at hM
    have cfS0 := rc (i := 0) zfS rfl
    have cfS1 := rc (i := 1) zfS rfl
    have cnS0 := rc (i := 0) znS rfl
    have cnS1 := rc (i := 1) znS rfl
    have ccS0 := rc (i := 0) zcS rfl
    have ccS1 := rc (i := 1) zcS rfl
    have ccS2 := rc (i := 2) zcS rfl
    have ccS3 := rc (i := 3) zcS rfl
    have ccS4 := rc (i := 4) zcS rfl
    go_wp2_with fail
    refine hM.mono ?_
    rintro e wx1 ⟨rfl, hbx1⟩
    clear hM
    clear cfS0 cfS1 cnS0 cnS1 ccS0 ccS1 ccS2 ccS3 ccS4
    have zfx1 := (hbx1.block _ (lt_of_heap zfS)).trans zfS
    have znx1 := (hbx1.block _ (lt_of_heap znS)).trans znS
    have zcx1 := (hbx1.block _ (lt_of_heap zcS)).trans zcS
    have Bx1 := BS.trans (hbx1.mono BS.size)
    have Lfx1 := LfS.past hbx1
    have Lpx1 := LpS.past hbx1
    have Lnx1 := LnS.past hbx1
    have Lcx1 := LcS.past hbx1
    have Tx1 := TS.keep hbx1 (Nat.lt_of_lt_of_le h0 BS.size)
    clear hbx1 zfS znS zcS  BS LfS LpS LnS LcS TS
    have haS : w.heap.size + 3 ≤ wx1.heap.size := lt_of_heap zcx1
    have hqx1 : Below wx1.heap.size wx1 (wx1.alloc (.cells #[.string (strB (S1)), .string (strB (70 :: fanB f))] 27)) := (Below.refl _ _).alloc (Nat.le_refl _) _
    have zaNx1 := heap_last wx1 (.cells #[.string (strB (S1)), .string (strB (70 :: fanB f))] 27) _ rfl
    have zfx1a := (hqx1.block _ (lt_of_heap zfx1)).trans zfx1
    have znx1a := (hqx1.block _ (lt_of_heap znx1)).trans znx1
    have zcx1a := (hqx1.block _ (lt_of_heap zcx1)).trans zcx1
    have Bx1a := Bx1.trans (hqx1.mono Bx1.size)
    have Lfx1a := Lfx1.past hqx1
    have Lpx1a := Lpx1.past hqx1
    have Lnx1a := Lnx1.past hqx1
    have Lcx1a := Lcx1.past hqx1
    have Tx1a := Tx1.keep hqx1 (Nat.lt_of_lt_of_le h0 Bx1.size)
    clear hqx1 zfx1 znx1 zcx1  Bx1 Lfx1 Lpx1 Lnx1 Lcx1 Tx1
    have zax1a := zaNx1
    clear zaNx1
    go_wp2_with fail
    generalize hgx1 : (wx1.alloc (.cells #[.string (strB (S1)), .string (strB (70 :: fanB f))] 27)) = vx1 at *
    have hby : (70 :: fanB f).length ≤ 140737488355328 := by have := (fanB_le hok1).1; simp only [List.length_cons]; omega
    have hK := takeFan_any vx1 (70 :: fanB f) hby
    unfold fanSaid at hK
    rw [(takenFan_iff _ f).2 ⟨hok1, rfl⟩] at hK
    simp only at hK
    refine hK.mono ?_
    rintro e yx1 ⟨⟨vvx1, rfl, ownx1⟩, hb2x1⟩
    clear hK hby hgx1
    have zfx1b := (hb2x1.block _ (lt_of_heap zfx1a)).trans zfx1a
    have znx1b := (hb2x1.block _ (lt_of_heap znx1a)).trans znx1a
    have zcx1b := (hb2x1.block _ (lt_of_heap zcx1a)).trans zcx1a
    have zax1b := (hb2x1.block _ (lt_of_heap zax1a)).trans zax1a
    have Bx1b := Bx1a.trans (hb2x1.mono Bx1a.size)
    have Lfx1b := Lfx1a.past hb2x1
    have Lpx1b := Lpx1a.past hb2x1
    have Lnx1b := Lnx1a.past hb2x1
    have Lcx1b := Lcx1a.past hb2x1
    have Tx1b := Tx1a.keep hb2x1 (Nat.lt_of_lt_of_le h0 Bx1a.size)
    clear hb2x1 zfx1a znx1a zcx1a zax1a Bx1a Lfx1a Lpx1a Lnx1a Lcx1a Tx1a
    obtain ⟨ag, cg, rfl, -⟩ := own_form ownx1
    have lvx1 := ls_of_own partC_length ownx1
    have hq2x1 : Below yx1.heap.size yx1 (yx1.alloc (.cells #[.int .i64 f.1, .slice ag f.2.length cg] 24)) := (Below.refl _ _).alloc (Nat.le_refl _) _
    have zgx1 := heap_last yx1 (.cells #[.int .i64 f.1, .slice ag f.2.length cg] 24) _ rfl
    have lwx1 := lvx1.past hq2x1
    clear lvx1
    have zfx1c := (hq2x1.block _ (lt_of_heap zfx1b)).trans zfx1b
    have znx1c := (hq2x1.block _ (lt_of_heap znx1b)).trans znx1b
    have zcx1c := (hq2x1.block _ (lt_of_heap zcx1b)).trans zcx1b
    have zax1c := (hq2x1.block _ (lt_of_heap zax1b)).trans zax1b
    have Bx1c := Bx1b.trans (hq2x1.mono Bx1b.size)
    have Lfx1c := Lfx1b.past hq2x1
    have Lpx1c := Lpx1b.past hq2x1
    have Lnx1c := Lnx1b.past hq2x1
    have Lcx1c := Lcx1b.past hq2x1
    have Tx1c := Tx1b.keep hq2x1 (Nat.lt_of_lt_of_le h0 Bx1b.size)
    clear hq2x1 zfx1b znx1b zcx1b zax1b Bx1b Lfx1b Lpx1b Lnx1b Lcx1b Tx1b
    have hE := sameFan_any (yx1.alloc (.cells #[.int .i64 f.1, .slice ag f.2.length cg] 24)) f.1 f.1 f.2 f.2 _ _ Lfx1c lwx1
    rw [decide_eq_true (rfl : (f.1, f.2) = (f.1, f.2))] at hE
    clear ownx1 lwx1
    have cfx1c0 := rc (i := 0) zfx1c rfl
    have cfx1c1 := rc (i := 1) zfx1c rfl
    have cnx1c0 := rc (i := 0) znx1c rfl
    have cnx1c1 := rc (i := 1) znx1c rfl
    have ccx1c0 := rc (i := 0) zcx1c rfl
    have ccx1c1 := rc (i := 1) zcx1c rfl
    have ccx1c2 := rc (i := 2) zcx1c rfl
    have ccx1c3 := rc (i := 3) zcx1c rfl
    have ccx1c4 := rc (i := 4) zcx1c rfl
    go_wp2_with fail
    generalize hg2x1 : (yx1.alloc (.cells #[.int .i64 f.1, .slice ag f.2.length cg] 24)) = zx1 at *
    refine hE.mono ?_
    rintro e tx1 ⟨rfl, hb3x1⟩
    clear hE
    clear cfx1c0 cfx1c1 cnx1c0 cnx1c1 ccx1c0 ccx1c1 ccx1c2 ccx1c3 ccx1c4
    have zfx1d := (hb3x1.block _ (lt_of_heap zfx1c)).trans zfx1c
    have znx1d := (hb3x1.block _ (lt_of_heap znx1c)).trans znx1c
    have zcx1d := (hb3x1.block _ (lt_of_heap zcx1c)).trans zcx1c
    have zax1d := (hb3x1.block _ (lt_of_heap zax1c)).trans zax1c
    have Bx1d := Bx1c.trans (hb3x1.mono Bx1c.size)
    have Lfx1d := Lfx1c.past hb3x1
    have Lpx1d := Lpx1c.past hb3x1
    have Lnx1d := Lnx1c.past hb3x1
    have Lcx1d := Lcx1c.past hb3x1
    have Tx1d := Tx1c.keep hb3x1 (Nat.lt_of_lt_of_le h0 Bx1c.size)
    clear hb3x1 zfx1c znx1c zcx1c zax1c Bx1c Lfx1c Lpx1c Lnx1c Lcx1c Tx1c
    clear zgx1 hg2x1
    by_cases hok2 : leafOk ltB ps = true
    · skip
      have hM := leaf_any tx1 ps _ Lpx1d Tx1d
      rw [hok2, made_yes] at hM
      generalize sha (76 :: leafB ps) = S2 at hM
      have cfx1d0 := rc (i := 0) zfx1d rfl
      have cfx1d1 := rc (i := 1) zfx1d rfl
      have cnx1d0 := rc (i := 0) znx1d rfl
      have cnx1d1 := rc (i := 1) znx1d rfl
      have ccx1d0 := rc (i := 0) zcx1d rfl
      have ccx1d1 := rc (i := 1) zcx1d rfl
      have ccx1d2 := rc (i := 2) zcx1d rfl
      have ccx1d3 := rc (i := 3) zcx1d rfl
      have ccx1d4 := rc (i := 4) zcx1d rfl
      go_wp2_with fail
      refine hM.mono ?_
      rintro e wx2 ⟨rfl, hbx2⟩
      clear hM
      clear cfx1d0 cfx1d1 cnx1d0 cnx1d1 ccx1d0 ccx1d1 ccx1d2 ccx1d3 ccx1d4
      have zfx2 := (hbx2.block _ (lt_of_heap zfx1d)).trans zfx1d
      have znx2 := (hbx2.block _ (lt_of_heap znx1d)).trans znx1d
      have zcx2 := (hbx2.block _ (lt_of_heap zcx1d)).trans zcx1d
      have zax2 := (hbx2.block _ (lt_of_heap zax1d)).trans zax1d
      have Bx2 := Bx1d.trans (hbx2.mono Bx1d.size)
      have Lfx2 := Lfx1d.past hbx2
      have Lpx2 := Lpx1d.past hbx2
      have Lnx2 := Lnx1d.past hbx2
      have Lcx2 := Lcx1d.past hbx2
      have Tx2 := Tx1d.keep hbx2 (Nat.lt_of_lt_of_le h0 Bx1d.size)
      clear hbx2 zfx1d znx1d zcx1d zax1d Bx1d Lfx1d Lpx1d Lnx1d Lcx1d Tx1d
      have cax20 := rc (i := 0) zax2 rfl
      have cax21 := rc (i := 1) zax2 rfl
      have fax20 := frozen0 (j := 0) zax2
      have fax21 := frozen0 (j := 1) zax2
      have zax2a : ((wx2.setCell ⟨wx1.heap.size, 0, none⟩ (.string (strB (S2)))).setCell ⟨wx1.heap.size, 1, none⟩ (.string (strB (76 :: leafB ps)))).heap[wx1.heap.size]? = some (.cells #[.string (strB (S2)), .string (strB (76 :: leafB ps))] 27) := heap_set2 zax2
      have zfx2a : ((wx2.setCell ⟨wx1.heap.size, 0, none⟩ (.string (strB (S2)))).setCell ⟨wx1.heap.size, 1, none⟩ (.string (strB (76 :: leafB ps)))).heap[w.heap.size]? = some (.cells #[.int .i64 f.1, .slice af f.2.length cf] 24) := ((gb_set _ (wx1.heap.size) 1 _).block _ (Nat.lt_of_lt_of_le (lt_of_heap zfx2) (gb_set _ (wx1.heap.size) 0 _).size) (fun e => by injection e with e; omega)).trans (((gb_set wx2 (wx1.heap.size) 0 _).block _ (lt_of_heap zfx2) (fun e => by injection e with e; omega)).trans zfx2)
      have znx2a : ((wx2.setCell ⟨wx1.heap.size, 0, none⟩ (.string (strB (S2)))).setCell ⟨wx1.heap.size, 1, none⟩ (.string (strB (76 :: leafB ps)))).heap[w.heap.size + 1]? = some (.cells #[.int .i64 n.1, .slice an n.2.length cn] 41) := ((gb_set _ (wx1.heap.size) 1 _).block _ (Nat.lt_of_lt_of_le (lt_of_heap znx2) (gb_set _ (wx1.heap.size) 0 _).size) (fun e => by injection e with e; omega)).trans (((gb_set wx2 (wx1.heap.size) 0 _).block _ (lt_of_heap znx2) (fun e => by injection e with e; omega)).trans znx2)
      have zcx2a : ((wx2.setCell ⟨wx1.heap.size, 0, none⟩ (.string (strB (S2)))).setCell ⟨wx1.heap.size, 1, none⟩ (.string (strB (76 :: leafB ps)))).heap[w.heap.size + 2]? = some (.cells #[.string (strB c.1), .slice ac c.2.1.length cc, .string (strB c.2.2.1), .int .i64 c.2.2.2.1, .string (strB c.2.2.2.2)] 54) := ((gb_set _ (wx1.heap.size) 1 _).block _ (Nat.lt_of_lt_of_le (lt_of_heap zcx2) (gb_set _ (wx1.heap.size) 0 _).size) (fun e => by injection e with e; omega)).trans (((gb_set wx2 (wx1.heap.size) 0 _).block _ (lt_of_heap zcx2) (fun e => by injection e with e; omega)).trans zcx2)
      have Bx2a := (Bx2.setCell (p := ⟨wx1.heap.size, 0, none⟩) (by simp; omega) (.string (strB (S2)))).setCell (p := ⟨wx1.heap.size, 1, none⟩) (by simp; omega) (.string (strB (76 :: leafB ps)))
      have Lfx2a : Ls ((wx2.setCell ⟨wx1.heap.size, 0, none⟩ (.string (strB (S2)))).setCell ⟨wx1.heap.size, 1, none⟩ (.string (strB (76 :: leafB ps)))).heap.size ((wx2.setCell ⟨wx1.heap.size, 0, none⟩ (.string (strB (S2)))).setCell ⟨wx1.heap.size, 1, none⟩ (.string (strB (76 :: leafB ps)))) _ _ _ _ := ((Lf0.keep Bx2a)).up Bx2a.size
      have Lpx2a : Ls ((wx2.setCell ⟨wx1.heap.size, 0, none⟩ (.string (strB (S2)))).setCell ⟨wx1.heap.size, 1, none⟩ (.string (strB (76 :: leafB ps)))).heap.size ((wx2.setCell ⟨wx1.heap.size, 0, none⟩ (.string (strB (S2)))).setCell ⟨wx1.heap.size, 1, none⟩ (.string (strB (76 :: leafB ps)))) _ _ _ _ := ((Lp0.keep Bx2a)).up Bx2a.size
      have Lnx2a : Ls ((wx2.setCell ⟨wx1.heap.size, 0, none⟩ (.string (strB (S2)))).setCell ⟨wx1.heap.size, 1, none⟩ (.string (strB (76 :: leafB ps)))).heap.size ((wx2.setCell ⟨wx1.heap.size, 0, none⟩ (.string (strB (S2)))).setCell ⟨wx1.heap.size, 1, none⟩ (.string (strB (76 :: leafB ps)))) _ _ _ _ := ((Ln0.keep Bx2a)).up Bx2a.size
      have Lcx2a : Ls ((wx2.setCell ⟨wx1.heap.size, 0, none⟩ (.string (strB (S2)))).setCell ⟨wx1.heap.size, 1, none⟩ (.string (strB (76 :: leafB ps)))).heap.size ((wx2.setCell ⟨wx1.heap.size, 0, none⟩ (.string (strB (S2)))).setCell ⟨wx1.heap.size, 1, none⟩ (.string (strB (76 :: leafB ps)))) _ _ _ _ := ((Lc0.keep Bx2a)).up Bx2a.size
      have Tx2a := hT.keep Bx2a h0
      clear zfx2 znx2 zcx2 zax2 Bx2 Lfx2 Lpx2 Lnx2 Lcx2 Tx2
      go_wp2_with fail
      generalize hgx2 : ((wx2.setCell ⟨wx1.heap.size, 0, none⟩ (.string (strB (S2)))).setCell ⟨wx1.heap.size, 1, none⟩ (.string (strB (76 :: leafB ps)))) = vx2 at *
      have hby : (76 :: leafB ps).length ≤ 140737488355328 := by have := leafB_le hok2; simp only [List.length_cons]; omega
      have hK := takeLeaf_any vx2 (76 :: leafB ps) hby
      unfold LeafSaid at hK
      rw [(takenLeaf_iff _ hby ps).2 ⟨hok2, rfl⟩] at hK
      simp only at hK
      refine hK.mono ?_
      rintro e yx2 ⟨⟨vvx2, rfl, ownx2⟩, hb2x2⟩
      clear hK hby hgx2
      clear cax20 cax21 fax20 fax21
      have zfx2b := (hb2x2.block _ (lt_of_heap zfx2a)).trans zfx2a
      have znx2b := (hb2x2.block _ (lt_of_heap znx2a)).trans znx2a
      have zcx2b := (hb2x2.block _ (lt_of_heap zcx2a)).trans zcx2a
      have zax2b := (hb2x2.block _ (lt_of_heap zax2a)).trans zax2a
      have Bx2b := Bx2a.trans (hb2x2.mono Bx2a.size)
      have Lfx2b := Lfx2a.past hb2x2
      have Lpx2b := Lpx2a.past hb2x2
      have Lnx2b := Lnx2a.past hb2x2
      have Lcx2b := Lcx2a.past hb2x2
      have Tx2b := Tx2a.keep hb2x2 (Nat.lt_of_lt_of_le h0 Bx2a.size)
      clear hb2x2 zfx2a znx2a zcx2a zax2a Bx2a Lfx2a Lpx2a Lnx2a Lcx2a Tx2a
      obtain ⟨ag, cg, rfl, -⟩ := own_form ownx2
      have lvx2 := ls_of_own pairC_length ownx2
      have lwx2 := lvx2
      clear lvx2
      have hE := sameLeaf_any yx2 ps ps _ _ lwx2 Lpx2b
      rw [decide_eq_true (rfl : ps = ps)] at hE
      clear ownx2 lwx2
      have cfx2b0 := rc (i := 0) zfx2b rfl
      have cfx2b1 := rc (i := 1) zfx2b rfl
      have cnx2b0 := rc (i := 0) znx2b rfl
      have cnx2b1 := rc (i := 1) znx2b rfl
      have ccx2b0 := rc (i := 0) zcx2b rfl
      have ccx2b1 := rc (i := 1) zcx2b rfl
      have ccx2b2 := rc (i := 2) zcx2b rfl
      have ccx2b3 := rc (i := 3) zcx2b rfl
      have ccx2b4 := rc (i := 4) zcx2b rfl
      go_wp2_with fail
      refine hE.mono ?_
      rintro e tx2 ⟨rfl, hb3x2⟩
      clear hE
      clear cfx2b0 cfx2b1 cnx2b0 cnx2b1 ccx2b0 ccx2b1 ccx2b2 ccx2b3 ccx2b4
      have zfx2d := (hb3x2.block _ (lt_of_heap zfx2b)).trans zfx2b
      have znx2d := (hb3x2.block _ (lt_of_heap znx2b)).trans znx2b
      have zcx2d := (hb3x2.block _ (lt_of_heap zcx2b)).trans zcx2b
      have zax2d := (hb3x2.block _ (lt_of_heap zax2b)).trans zax2b
      have Bx2d := Bx2b.trans (hb3x2.mono Bx2b.size)
      have Lfx2d := Lfx2b.past hb3x2
      have Lpx2d := Lpx2b.past hb3x2
      have Lnx2d := Lnx2b.past hb3x2
      have Lcx2d := Lcx2b.past hb3x2
      have Tx2d := Tx2b.keep hb3x2 (Nat.lt_of_lt_of_le h0 Bx2b.size)
      clear hb3x2 zfx2b znx2b zcx2b zax2b Bx2b Lfx2b Lpx2b Lnx2b Lcx2b Tx2b
      by_cases hok3 : branchOk ltB n = true
      · skip
        have hM := branch_any tx2 n _ Lnx2d Tx2d
        rw [hok3, made_yes] at hM
        generalize sha (66 :: branchB n) = S3 at hM
        have cfx2d0 := rc (i := 0) zfx2d rfl
        have cfx2d1 := rc (i := 1) zfx2d rfl
        have cnx2d0 := rc (i := 0) znx2d rfl
        have cnx2d1 := rc (i := 1) znx2d rfl
        have ccx2d0 := rc (i := 0) zcx2d rfl
        have ccx2d1 := rc (i := 1) zcx2d rfl
        have ccx2d2 := rc (i := 2) zcx2d rfl
        have ccx2d3 := rc (i := 3) zcx2d rfl
        have ccx2d4 := rc (i := 4) zcx2d rfl
        go_wp2_with fail
        refine hM.mono ?_
        rintro e wx3 ⟨rfl, hbx3⟩
        clear hM
        clear cfx2d0 cfx2d1 cnx2d0 cnx2d1 ccx2d0 ccx2d1 ccx2d2 ccx2d3 ccx2d4
        have zfx3 := (hbx3.block _ (lt_of_heap zfx2d)).trans zfx2d
        have znx3 := (hbx3.block _ (lt_of_heap znx2d)).trans znx2d
        have zcx3 := (hbx3.block _ (lt_of_heap zcx2d)).trans zcx2d
        have zax3 := (hbx3.block _ (lt_of_heap zax2d)).trans zax2d
        have Bx3 := Bx2d.trans (hbx3.mono Bx2d.size)
        have Lfx3 := Lfx2d.past hbx3
        have Lpx3 := Lpx2d.past hbx3
        have Lnx3 := Lnx2d.past hbx3
        have Lcx3 := Lcx2d.past hbx3
        have Tx3 := Tx2d.keep hbx3 (Nat.lt_of_lt_of_le h0 Bx2d.size)
        clear hbx3 zfx2d znx2d zcx2d zax2d Bx2d Lfx2d Lpx2d Lnx2d Lcx2d Tx2d
        have cax30 := rc (i := 0) zax3 rfl
        have cax31 := rc (i := 1) zax3 rfl
        have fax30 := frozen0 (j := 0) zax3
        have fax31 := frozen0 (j := 1) zax3
        have zax3a : ((wx3.setCell ⟨wx1.heap.size, 0, none⟩ (.string (strB (S3)))).setCell ⟨wx1.heap.size, 1, none⟩ (.string (strB (66 :: branchB n)))).heap[wx1.heap.size]? = some (.cells #[.string (strB (S3)), .string (strB (66 :: branchB n))] 27) := heap_set2 zax3
        have zfx3a : ((wx3.setCell ⟨wx1.heap.size, 0, none⟩ (.string (strB (S3)))).setCell ⟨wx1.heap.size, 1, none⟩ (.string (strB (66 :: branchB n)))).heap[w.heap.size]? = some (.cells #[.int .i64 f.1, .slice af f.2.length cf] 24) := ((gb_set _ (wx1.heap.size) 1 _).block _ (Nat.lt_of_lt_of_le (lt_of_heap zfx3) (gb_set _ (wx1.heap.size) 0 _).size) (fun e => by injection e with e; omega)).trans (((gb_set wx3 (wx1.heap.size) 0 _).block _ (lt_of_heap zfx3) (fun e => by injection e with e; omega)).trans zfx3)
        have znx3a : ((wx3.setCell ⟨wx1.heap.size, 0, none⟩ (.string (strB (S3)))).setCell ⟨wx1.heap.size, 1, none⟩ (.string (strB (66 :: branchB n)))).heap[w.heap.size + 1]? = some (.cells #[.int .i64 n.1, .slice an n.2.length cn] 41) := ((gb_set _ (wx1.heap.size) 1 _).block _ (Nat.lt_of_lt_of_le (lt_of_heap znx3) (gb_set _ (wx1.heap.size) 0 _).size) (fun e => by injection e with e; omega)).trans (((gb_set wx3 (wx1.heap.size) 0 _).block _ (lt_of_heap znx3) (fun e => by injection e with e; omega)).trans znx3)
        have zcx3a : ((wx3.setCell ⟨wx1.heap.size, 0, none⟩ (.string (strB (S3)))).setCell ⟨wx1.heap.size, 1, none⟩ (.string (strB (66 :: branchB n)))).heap[w.heap.size + 2]? = some (.cells #[.string (strB c.1), .slice ac c.2.1.length cc, .string (strB c.2.2.1), .int .i64 c.2.2.2.1, .string (strB c.2.2.2.2)] 54) := ((gb_set _ (wx1.heap.size) 1 _).block _ (Nat.lt_of_lt_of_le (lt_of_heap zcx3) (gb_set _ (wx1.heap.size) 0 _).size) (fun e => by injection e with e; omega)).trans (((gb_set wx3 (wx1.heap.size) 0 _).block _ (lt_of_heap zcx3) (fun e => by injection e with e; omega)).trans zcx3)
        have Bx3a := (Bx3.setCell (p := ⟨wx1.heap.size, 0, none⟩) (by simp; omega) (.string (strB (S3)))).setCell (p := ⟨wx1.heap.size, 1, none⟩) (by simp; omega) (.string (strB (66 :: branchB n)))
        have Lfx3a : Ls ((wx3.setCell ⟨wx1.heap.size, 0, none⟩ (.string (strB (S3)))).setCell ⟨wx1.heap.size, 1, none⟩ (.string (strB (66 :: branchB n)))).heap.size ((wx3.setCell ⟨wx1.heap.size, 0, none⟩ (.string (strB (S3)))).setCell ⟨wx1.heap.size, 1, none⟩ (.string (strB (66 :: branchB n)))) _ _ _ _ := ((Lf0.keep Bx3a)).up Bx3a.size
        have Lpx3a : Ls ((wx3.setCell ⟨wx1.heap.size, 0, none⟩ (.string (strB (S3)))).setCell ⟨wx1.heap.size, 1, none⟩ (.string (strB (66 :: branchB n)))).heap.size ((wx3.setCell ⟨wx1.heap.size, 0, none⟩ (.string (strB (S3)))).setCell ⟨wx1.heap.size, 1, none⟩ (.string (strB (66 :: branchB n)))) _ _ _ _ := ((Lp0.keep Bx3a)).up Bx3a.size
        have Lnx3a : Ls ((wx3.setCell ⟨wx1.heap.size, 0, none⟩ (.string (strB (S3)))).setCell ⟨wx1.heap.size, 1, none⟩ (.string (strB (66 :: branchB n)))).heap.size ((wx3.setCell ⟨wx1.heap.size, 0, none⟩ (.string (strB (S3)))).setCell ⟨wx1.heap.size, 1, none⟩ (.string (strB (66 :: branchB n)))) _ _ _ _ := ((Ln0.keep Bx3a)).up Bx3a.size
        have Lcx3a : Ls ((wx3.setCell ⟨wx1.heap.size, 0, none⟩ (.string (strB (S3)))).setCell ⟨wx1.heap.size, 1, none⟩ (.string (strB (66 :: branchB n)))).heap.size ((wx3.setCell ⟨wx1.heap.size, 0, none⟩ (.string (strB (S3)))).setCell ⟨wx1.heap.size, 1, none⟩ (.string (strB (66 :: branchB n)))) _ _ _ _ := ((Lc0.keep Bx3a)).up Bx3a.size
        have Tx3a := hT.keep Bx3a h0
        clear zfx3 znx3 zcx3 zax3 Bx3 Lfx3 Lpx3 Lnx3 Lcx3 Tx3
        go_wp2_with fail
        generalize hgx3 : ((wx3.setCell ⟨wx1.heap.size, 0, none⟩ (.string (strB (S3)))).setCell ⟨wx1.heap.size, 1, none⟩ (.string (strB (66 :: branchB n)))) = vx3 at *
        have hby : (66 :: branchB n).length ≤ 140737488355328 := by have := (branchB_le hok3).1; simp only [List.length_cons]; omega
        have hK := takeBranch_any vx3 (66 :: branchB n) hby
        unfold branchSaid at hK
        rw [(takenBranch_iff _ hby n).2 ⟨hok3, rfl⟩] at hK
        simp only at hK
        refine hK.mono ?_
        rintro e yx3 ⟨⟨vvx3, rfl, ownx3⟩, hb2x3⟩
        clear hK hby hgx3
        clear cax30 cax31 fax30 fax31
        have zfx3b := (hb2x3.block _ (lt_of_heap zfx3a)).trans zfx3a
        have znx3b := (hb2x3.block _ (lt_of_heap znx3a)).trans znx3a
        have zcx3b := (hb2x3.block _ (lt_of_heap zcx3a)).trans zcx3a
        have zax3b := (hb2x3.block _ (lt_of_heap zax3a)).trans zax3a
        have Bx3b := Bx3a.trans (hb2x3.mono Bx3a.size)
        have Lfx3b := Lfx3a.past hb2x3
        have Lpx3b := Lpx3a.past hb2x3
        have Lnx3b := Lnx3a.past hb2x3
        have Lcx3b := Lcx3a.past hb2x3
        have Tx3b := Tx3a.keep hb2x3 (Nat.lt_of_lt_of_le h0 Bx3a.size)
        clear hb2x3 zfx3a znx3a zcx3a zax3a Bx3a Lfx3a Lpx3a Lnx3a Lcx3a Tx3a
        obtain ⟨ag, cg, rfl, -⟩ := own_form ownx3
        have lvx3 := ls_of_own linkC_length ownx3
        have hq2x3 : Below yx3.heap.size yx3 (yx3.alloc (.cells #[.int .i64 n.1, .slice ag n.2.length cg] 41)) := (Below.refl _ _).alloc (Nat.le_refl _) _
        have zgx3 := heap_last yx3 (.cells #[.int .i64 n.1, .slice ag n.2.length cg] 41) _ rfl
        have lwx3 := lvx3.past hq2x3
        clear lvx3
        have zfx3c := (hq2x3.block _ (lt_of_heap zfx3b)).trans zfx3b
        have znx3c := (hq2x3.block _ (lt_of_heap znx3b)).trans znx3b
        have zcx3c := (hq2x3.block _ (lt_of_heap zcx3b)).trans zcx3b
        have zax3c := (hq2x3.block _ (lt_of_heap zax3b)).trans zax3b
        have Bx3c := Bx3b.trans (hq2x3.mono Bx3b.size)
        have Lfx3c := Lfx3b.past hq2x3
        have Lpx3c := Lpx3b.past hq2x3
        have Lnx3c := Lnx3b.past hq2x3
        have Lcx3c := Lcx3b.past hq2x3
        have Tx3c := Tx3b.keep hq2x3 (Nat.lt_of_lt_of_le h0 Bx3b.size)
        clear hq2x3 zfx3b znx3b zcx3b zax3b Bx3b Lfx3b Lpx3b Lnx3b Lcx3b Tx3b
        have hE := sameBranch_any (yx3.alloc (.cells #[.int .i64 n.1, .slice ag n.2.length cg] 41)) n.1 n.1 n.2 n.2 _ _ lwx3 Lnx3c
        rw [decide_eq_true (rfl : (n.1, n.2) = (n.1, n.2))] at hE
        clear ownx3 lwx3
        have cfx3c0 := rc (i := 0) zfx3c rfl
        have cfx3c1 := rc (i := 1) zfx3c rfl
        have cnx3c0 := rc (i := 0) znx3c rfl
        have cnx3c1 := rc (i := 1) znx3c rfl
        have ccx3c0 := rc (i := 0) zcx3c rfl
        have ccx3c1 := rc (i := 1) zcx3c rfl
        have ccx3c2 := rc (i := 2) zcx3c rfl
        have ccx3c3 := rc (i := 3) zcx3c rfl
        have ccx3c4 := rc (i := 4) zcx3c rfl
        go_wp2_with fail
        generalize hg2x3 : (yx3.alloc (.cells #[.int .i64 n.1, .slice ag n.2.length cg] 41)) = zx3 at *
        refine hE.mono ?_
        rintro e tx3 ⟨rfl, hb3x3⟩
        clear hE
        clear cfx3c0 cfx3c1 cnx3c0 cnx3c1 ccx3c0 ccx3c1 ccx3c2 ccx3c3 ccx3c4
        have zfx3d := (hb3x3.block _ (lt_of_heap zfx3c)).trans zfx3c
        have znx3d := (hb3x3.block _ (lt_of_heap znx3c)).trans znx3c
        have zcx3d := (hb3x3.block _ (lt_of_heap zcx3c)).trans zcx3c
        have zax3d := (hb3x3.block _ (lt_of_heap zax3c)).trans zax3c
        have Bx3d := Bx3c.trans (hb3x3.mono Bx3c.size)
        have Lfx3d := Lfx3c.past hb3x3
        have Lpx3d := Lpx3c.past hb3x3
        have Lnx3d := Lnx3c.past hb3x3
        have Lcx3d := Lcx3c.past hb3x3
        have Tx3d := Tx3c.keep hb3x3 (Nat.lt_of_lt_of_le h0 Bx3c.size)
        clear hb3x3 zfx3c znx3c zcx3c zax3c Bx3c Lfx3c Lpx3c Lnx3c Lcx3c Tx3c
        clear zgx3 hg2x3
        by_cases hok4 : commitOk c = true
        · skip
          have hM := commit_any tx3 c _ Lcx3d Tx3d
          rw [hok4, made_yes] at hM
          generalize sha (75 :: commitB c) = S4 at hM
          have cfx3d0 := rc (i := 0) zfx3d rfl
          have cfx3d1 := rc (i := 1) zfx3d rfl
          have cnx3d0 := rc (i := 0) znx3d rfl
          have cnx3d1 := rc (i := 1) znx3d rfl
          have ccx3d0 := rc (i := 0) zcx3d rfl
          have ccx3d1 := rc (i := 1) zcx3d rfl
          have ccx3d2 := rc (i := 2) zcx3d rfl
          have ccx3d3 := rc (i := 3) zcx3d rfl
          have ccx3d4 := rc (i := 4) zcx3d rfl
          go_wp2_with fail
          refine hM.mono ?_
          rintro e wx4 ⟨rfl, hbx4⟩
          clear hM
          clear cfx3d0 cfx3d1 cnx3d0 cnx3d1 ccx3d0 ccx3d1 ccx3d2 ccx3d3 ccx3d4
          have zfx4 := (hbx4.block _ (lt_of_heap zfx3d)).trans zfx3d
          have znx4 := (hbx4.block _ (lt_of_heap znx3d)).trans znx3d
          have zcx4 := (hbx4.block _ (lt_of_heap zcx3d)).trans zcx3d
          have zax4 := (hbx4.block _ (lt_of_heap zax3d)).trans zax3d
          have Bx4 := Bx3d.trans (hbx4.mono Bx3d.size)
          have Lfx4 := Lfx3d.past hbx4
          have Lpx4 := Lpx3d.past hbx4
          have Lnx4 := Lnx3d.past hbx4
          have Lcx4 := Lcx3d.past hbx4
          have Tx4 := Tx3d.keep hbx4 (Nat.lt_of_lt_of_le h0 Bx3d.size)
          clear hbx4 zfx3d znx3d zcx3d zax3d Bx3d Lfx3d Lpx3d Lnx3d Lcx3d Tx3d
          have cax40 := rc (i := 0) zax4 rfl
          have cax41 := rc (i := 1) zax4 rfl
          have fax40 := frozen0 (j := 0) zax4
          have fax41 := frozen0 (j := 1) zax4
          have zax4a : ((wx4.setCell ⟨wx1.heap.size, 0, none⟩ (.string (strB (S4)))).setCell ⟨wx1.heap.size, 1, none⟩ (.string (strB (75 :: commitB c)))).heap[wx1.heap.size]? = some (.cells #[.string (strB (S4)), .string (strB (75 :: commitB c))] 27) := heap_set2 zax4
          have zfx4a : ((wx4.setCell ⟨wx1.heap.size, 0, none⟩ (.string (strB (S4)))).setCell ⟨wx1.heap.size, 1, none⟩ (.string (strB (75 :: commitB c)))).heap[w.heap.size]? = some (.cells #[.int .i64 f.1, .slice af f.2.length cf] 24) := ((gb_set _ (wx1.heap.size) 1 _).block _ (Nat.lt_of_lt_of_le (lt_of_heap zfx4) (gb_set _ (wx1.heap.size) 0 _).size) (fun e => by injection e with e; omega)).trans (((gb_set wx4 (wx1.heap.size) 0 _).block _ (lt_of_heap zfx4) (fun e => by injection e with e; omega)).trans zfx4)
          have znx4a : ((wx4.setCell ⟨wx1.heap.size, 0, none⟩ (.string (strB (S4)))).setCell ⟨wx1.heap.size, 1, none⟩ (.string (strB (75 :: commitB c)))).heap[w.heap.size + 1]? = some (.cells #[.int .i64 n.1, .slice an n.2.length cn] 41) := ((gb_set _ (wx1.heap.size) 1 _).block _ (Nat.lt_of_lt_of_le (lt_of_heap znx4) (gb_set _ (wx1.heap.size) 0 _).size) (fun e => by injection e with e; omega)).trans (((gb_set wx4 (wx1.heap.size) 0 _).block _ (lt_of_heap znx4) (fun e => by injection e with e; omega)).trans znx4)
          have zcx4a : ((wx4.setCell ⟨wx1.heap.size, 0, none⟩ (.string (strB (S4)))).setCell ⟨wx1.heap.size, 1, none⟩ (.string (strB (75 :: commitB c)))).heap[w.heap.size + 2]? = some (.cells #[.string (strB c.1), .slice ac c.2.1.length cc, .string (strB c.2.2.1), .int .i64 c.2.2.2.1, .string (strB c.2.2.2.2)] 54) := ((gb_set _ (wx1.heap.size) 1 _).block _ (Nat.lt_of_lt_of_le (lt_of_heap zcx4) (gb_set _ (wx1.heap.size) 0 _).size) (fun e => by injection e with e; omega)).trans (((gb_set wx4 (wx1.heap.size) 0 _).block _ (lt_of_heap zcx4) (fun e => by injection e with e; omega)).trans zcx4)
          have Bx4a := (Bx4.setCell (p := ⟨wx1.heap.size, 0, none⟩) (by simp; omega) (.string (strB (S4)))).setCell (p := ⟨wx1.heap.size, 1, none⟩) (by simp; omega) (.string (strB (75 :: commitB c)))
          have Lfx4a : Ls ((wx4.setCell ⟨wx1.heap.size, 0, none⟩ (.string (strB (S4)))).setCell ⟨wx1.heap.size, 1, none⟩ (.string (strB (75 :: commitB c)))).heap.size ((wx4.setCell ⟨wx1.heap.size, 0, none⟩ (.string (strB (S4)))).setCell ⟨wx1.heap.size, 1, none⟩ (.string (strB (75 :: commitB c)))) _ _ _ _ := ((Lf0.keep Bx4a)).up Bx4a.size
          have Lpx4a : Ls ((wx4.setCell ⟨wx1.heap.size, 0, none⟩ (.string (strB (S4)))).setCell ⟨wx1.heap.size, 1, none⟩ (.string (strB (75 :: commitB c)))).heap.size ((wx4.setCell ⟨wx1.heap.size, 0, none⟩ (.string (strB (S4)))).setCell ⟨wx1.heap.size, 1, none⟩ (.string (strB (75 :: commitB c)))) _ _ _ _ := ((Lp0.keep Bx4a)).up Bx4a.size
          have Lnx4a : Ls ((wx4.setCell ⟨wx1.heap.size, 0, none⟩ (.string (strB (S4)))).setCell ⟨wx1.heap.size, 1, none⟩ (.string (strB (75 :: commitB c)))).heap.size ((wx4.setCell ⟨wx1.heap.size, 0, none⟩ (.string (strB (S4)))).setCell ⟨wx1.heap.size, 1, none⟩ (.string (strB (75 :: commitB c)))) _ _ _ _ := ((Ln0.keep Bx4a)).up Bx4a.size
          have Lcx4a : Ls ((wx4.setCell ⟨wx1.heap.size, 0, none⟩ (.string (strB (S4)))).setCell ⟨wx1.heap.size, 1, none⟩ (.string (strB (75 :: commitB c)))).heap.size ((wx4.setCell ⟨wx1.heap.size, 0, none⟩ (.string (strB (S4)))).setCell ⟨wx1.heap.size, 1, none⟩ (.string (strB (75 :: commitB c)))) _ _ _ _ := ((Lc0.keep Bx4a)).up Bx4a.size
          have Tx4a := hT.keep Bx4a h0
          clear zfx4 znx4 zcx4 zax4 Bx4 Lfx4 Lpx4 Lnx4 Lcx4 Tx4
          go_wp2_with fail
          generalize hgx4 : ((wx4.setCell ⟨wx1.heap.size, 0, none⟩ (.string (strB (S4)))).setCell ⟨wx1.heap.size, 1, none⟩ (.string (strB (75 :: commitB c)))) = vx4 at *
          have hby : (75 :: commitB c).length ≤ 140737488355328 := by have := (commitB_le hok4).1; simp only [List.length_cons]; omega
          have hK := takeCommit_any vx4 (75 :: commitB c) hby
          unfold commitSaid at hK
          rw [(takenCommit_iff _ hby c).2 ⟨hok4, rfl⟩] at hK
          simp only at hK
          refine hK.mono ?_
          rintro e yx4 ⟨⟨vvx4, rfl, ownx4⟩, hb2x4⟩
          clear hK hby hgx4
          clear cax40 cax41 fax40 fax41
          have zfx4b := (hb2x4.block _ (lt_of_heap zfx4a)).trans zfx4a
          have znx4b := (hb2x4.block _ (lt_of_heap znx4a)).trans znx4a
          have zcx4b := (hb2x4.block _ (lt_of_heap zcx4a)).trans zcx4a
          have zax4b := (hb2x4.block _ (lt_of_heap zax4a)).trans zax4a
          have Bx4b := Bx4a.trans (hb2x4.mono Bx4a.size)
          have Lfx4b := Lfx4a.past hb2x4
          have Lpx4b := Lpx4a.past hb2x4
          have Lnx4b := Lnx4a.past hb2x4
          have Lcx4b := Lcx4a.past hb2x4
          have Tx4b := Tx4a.keep hb2x4 (Nat.lt_of_lt_of_le h0 Bx4a.size)
          clear hb2x4 zfx4a znx4a zcx4a zax4a Bx4a Lfx4a Lpx4a Lnx4a Lcx4a Tx4a
          obtain ⟨ag, cg, rfl, -⟩ := own_form ownx4
          have lvx4 := ls_of_own idC_length ownx4
          have hq2x4 : Below yx4.heap.size yx4 (yx4.alloc (.cells #[.string (strB c.1), .slice ag c.2.1.length cg, .string (strB c.2.2.1), .int .i64 c.2.2.2.1, .string (strB c.2.2.2.2)] 54)) := (Below.refl _ _).alloc (Nat.le_refl _) _
          have zgx4 := heap_last yx4 (.cells #[.string (strB c.1), .slice ag c.2.1.length cg, .string (strB c.2.2.1), .int .i64 c.2.2.2.1, .string (strB c.2.2.2.2)] 54) _ rfl
          have lwx4 := lvx4.past hq2x4
          clear lvx4
          have zfx4c := (hq2x4.block _ (lt_of_heap zfx4b)).trans zfx4b
          have znx4c := (hq2x4.block _ (lt_of_heap znx4b)).trans znx4b
          have zcx4c := (hq2x4.block _ (lt_of_heap zcx4b)).trans zcx4b
          have zax4c := (hq2x4.block _ (lt_of_heap zax4b)).trans zax4b
          have Bx4c := Bx4b.trans (hq2x4.mono Bx4b.size)
          have Lfx4c := Lfx4b.past hq2x4
          have Lpx4c := Lpx4b.past hq2x4
          have Lnx4c := Lnx4b.past hq2x4
          have Lcx4c := Lcx4b.past hq2x4
          have Tx4c := Tx4b.keep hq2x4 (Nat.lt_of_lt_of_le h0 Bx4b.size)
          clear hq2x4 zfx4b znx4b zcx4b zax4b Bx4b Lfx4b Lpx4b Lnx4b Lcx4b Tx4b
          have hE := sameCommit_any (yx4.alloc (.cells #[.string (strB c.1), .slice ag c.2.1.length cg, .string (strB c.2.2.1), .int .i64 c.2.2.2.1, .string (strB c.2.2.2.2)] 54)) c c _ _ Lcx4c lwx4
          rw [decide_eq_true (rfl : c = c)] at hE
          clear ownx4 lwx4
          have cfx4c0 := rc (i := 0) zfx4c rfl
          have cfx4c1 := rc (i := 1) zfx4c rfl
          have cnx4c0 := rc (i := 0) znx4c rfl
          have cnx4c1 := rc (i := 1) znx4c rfl
          have ccx4c0 := rc (i := 0) zcx4c rfl
          have ccx4c1 := rc (i := 1) zcx4c rfl
          have ccx4c2 := rc (i := 2) zcx4c rfl
          have ccx4c3 := rc (i := 3) zcx4c rfl
          have ccx4c4 := rc (i := 4) zcx4c rfl
          go_wp2_with fail
          generalize hg2x4 : (yx4.alloc (.cells #[.string (strB c.1), .slice ag c.2.1.length cg, .string (strB c.2.2.1), .int .i64 c.2.2.2.1, .string (strB c.2.2.2.2)] 54)) = zx4 at *
          refine hE.mono ?_
          rintro e tx4 ⟨rfl, hb3x4⟩
          clear hE
          clear cfx4c0 cfx4c1 cnx4c0 cnx4c1 ccx4c0 ccx4c1 ccx4c2 ccx4c3 ccx4c4
          have zfx4d := (hb3x4.block _ (lt_of_heap zfx4c)).trans zfx4c
          have znx4d := (hb3x4.block _ (lt_of_heap znx4c)).trans znx4c
          have zcx4d := (hb3x4.block _ (lt_of_heap zcx4c)).trans zcx4c
          have zax4d := (hb3x4.block _ (lt_of_heap zax4c)).trans zax4c
          have Bx4d := Bx4c.trans (hb3x4.mono Bx4c.size)
          have Lfx4d := Lfx4c.past hb3x4
          have Lpx4d := Lpx4c.past hb3x4
          have Lnx4d := Lnx4c.past hb3x4
          have Lcx4d := Lcx4c.past hb3x4
          have Tx4d := Tx4c.keep hb3x4 (Nat.lt_of_lt_of_le h0 Bx4c.size)
          clear hb3x4 zfx4c znx4c zcx4c zax4c Bx4c Lfx4c Lpx4c Lnx4c Lcx4c Tx4c
          clear zgx4 hg2x4
          go_wp2
          go_ret
          exact ⟨ret_bool (by first | rfl | simp), Bx4d⟩
        · have hok4 := Bool.eq_false_iff.2 hok4
          have hM := commit_any tx3 c _ Lcx3d Tx3d
          rw [hok4, made_no] at hM
          have cfx3d0 := rc (i := 0) zfx3d rfl
          have cfx3d1 := rc (i := 1) zfx3d rfl
          have cnx3d0 := rc (i := 0) znx3d rfl
          have cnx3d1 := rc (i := 1) znx3d rfl
          have ccx3d0 := rc (i := 0) zcx3d rfl
          have ccx3d1 := rc (i := 1) zcx3d rfl
          have ccx3d2 := rc (i := 2) zcx3d rfl
          have ccx3d3 := rc (i := 3) zcx3d rfl
          have ccx3d4 := rc (i := 4) zcx3d rfl
          go_wp2_with fail
          refine hM.mono ?_
          rintro e wx5 ⟨rfl, hbx5⟩
          clear hM
          clear cfx3d0 cfx3d1 cnx3d0 cnx3d1 ccx3d0 ccx3d1 ccx3d2 ccx3d3 ccx3d4
          have zfx5 := (hbx5.block _ (lt_of_heap zfx3d)).trans zfx3d
          have znx5 := (hbx5.block _ (lt_of_heap znx3d)).trans znx3d
          have zcx5 := (hbx5.block _ (lt_of_heap zcx3d)).trans zcx3d
          have zax5 := (hbx5.block _ (lt_of_heap zax3d)).trans zax3d
          have Bx5 := Bx3d.trans (hbx5.mono Bx3d.size)
          have Lfx5 := Lfx3d.past hbx5
          have Lpx5 := Lpx3d.past hbx5
          have Lnx5 := Lnx3d.past hbx5
          have Lcx5 := Lcx3d.past hbx5
          have Tx5 := Tx3d.keep hbx5 (Nat.lt_of_lt_of_le h0 Bx3d.size)
          clear hbx5 zfx3d znx3d zcx3d zax3d Bx3d Lfx3d Lpx3d Lnx3d Lcx3d Tx3d
          have cax50 := rc (i := 0) zax5 rfl
          have cax51 := rc (i := 1) zax5 rfl
          have fax50 := frozen0 (j := 0) zax5
          have fax51 := frozen0 (j := 1) zax5
          have zax5a : ((wx5.setCell ⟨wx1.heap.size, 0, none⟩ (.string (strB (([] : Bs))))).setCell ⟨wx1.heap.size, 1, none⟩ (.string (strB (([] : Bs))))).heap[wx1.heap.size]? = some (.cells #[.string (strB (([] : Bs))), .string (strB (([] : Bs)))] 27) := heap_set2 zax5
          have zfx5a : ((wx5.setCell ⟨wx1.heap.size, 0, none⟩ (.string (strB (([] : Bs))))).setCell ⟨wx1.heap.size, 1, none⟩ (.string (strB (([] : Bs))))).heap[w.heap.size]? = some (.cells #[.int .i64 f.1, .slice af f.2.length cf] 24) := ((gb_set _ (wx1.heap.size) 1 _).block _ (Nat.lt_of_lt_of_le (lt_of_heap zfx5) (gb_set _ (wx1.heap.size) 0 _).size) (fun e => by injection e with e; omega)).trans (((gb_set wx5 (wx1.heap.size) 0 _).block _ (lt_of_heap zfx5) (fun e => by injection e with e; omega)).trans zfx5)
          have znx5a : ((wx5.setCell ⟨wx1.heap.size, 0, none⟩ (.string (strB (([] : Bs))))).setCell ⟨wx1.heap.size, 1, none⟩ (.string (strB (([] : Bs))))).heap[w.heap.size + 1]? = some (.cells #[.int .i64 n.1, .slice an n.2.length cn] 41) := ((gb_set _ (wx1.heap.size) 1 _).block _ (Nat.lt_of_lt_of_le (lt_of_heap znx5) (gb_set _ (wx1.heap.size) 0 _).size) (fun e => by injection e with e; omega)).trans (((gb_set wx5 (wx1.heap.size) 0 _).block _ (lt_of_heap znx5) (fun e => by injection e with e; omega)).trans znx5)
          have zcx5a : ((wx5.setCell ⟨wx1.heap.size, 0, none⟩ (.string (strB (([] : Bs))))).setCell ⟨wx1.heap.size, 1, none⟩ (.string (strB (([] : Bs))))).heap[w.heap.size + 2]? = some (.cells #[.string (strB c.1), .slice ac c.2.1.length cc, .string (strB c.2.2.1), .int .i64 c.2.2.2.1, .string (strB c.2.2.2.2)] 54) := ((gb_set _ (wx1.heap.size) 1 _).block _ (Nat.lt_of_lt_of_le (lt_of_heap zcx5) (gb_set _ (wx1.heap.size) 0 _).size) (fun e => by injection e with e; omega)).trans (((gb_set wx5 (wx1.heap.size) 0 _).block _ (lt_of_heap zcx5) (fun e => by injection e with e; omega)).trans zcx5)
          have Bx5a := (Bx5.setCell (p := ⟨wx1.heap.size, 0, none⟩) (by simp; omega) (.string (strB (([] : Bs))))).setCell (p := ⟨wx1.heap.size, 1, none⟩) (by simp; omega) (.string (strB (([] : Bs))))
          have Lfx5a : Ls ((wx5.setCell ⟨wx1.heap.size, 0, none⟩ (.string (strB (([] : Bs))))).setCell ⟨wx1.heap.size, 1, none⟩ (.string (strB (([] : Bs))))).heap.size ((wx5.setCell ⟨wx1.heap.size, 0, none⟩ (.string (strB (([] : Bs))))).setCell ⟨wx1.heap.size, 1, none⟩ (.string (strB (([] : Bs))))) _ _ _ _ := ((Lf0.keep Bx5a)).up Bx5a.size
          have Lpx5a : Ls ((wx5.setCell ⟨wx1.heap.size, 0, none⟩ (.string (strB (([] : Bs))))).setCell ⟨wx1.heap.size, 1, none⟩ (.string (strB (([] : Bs))))).heap.size ((wx5.setCell ⟨wx1.heap.size, 0, none⟩ (.string (strB (([] : Bs))))).setCell ⟨wx1.heap.size, 1, none⟩ (.string (strB (([] : Bs))))) _ _ _ _ := ((Lp0.keep Bx5a)).up Bx5a.size
          have Lnx5a : Ls ((wx5.setCell ⟨wx1.heap.size, 0, none⟩ (.string (strB (([] : Bs))))).setCell ⟨wx1.heap.size, 1, none⟩ (.string (strB (([] : Bs))))).heap.size ((wx5.setCell ⟨wx1.heap.size, 0, none⟩ (.string (strB (([] : Bs))))).setCell ⟨wx1.heap.size, 1, none⟩ (.string (strB (([] : Bs))))) _ _ _ _ := ((Ln0.keep Bx5a)).up Bx5a.size
          have Lcx5a : Ls ((wx5.setCell ⟨wx1.heap.size, 0, none⟩ (.string (strB (([] : Bs))))).setCell ⟨wx1.heap.size, 1, none⟩ (.string (strB (([] : Bs))))).heap.size ((wx5.setCell ⟨wx1.heap.size, 0, none⟩ (.string (strB (([] : Bs))))).setCell ⟨wx1.heap.size, 1, none⟩ (.string (strB (([] : Bs))))) _ _ _ _ := ((Lc0.keep Bx5a)).up Bx5a.size
          have Tx5a := hT.keep Bx5a h0
          clear zfx5 znx5 zcx5 zax5 Bx5 Lfx5 Lpx5 Lnx5 Lcx5 Tx5
          go_wp2_with fail
          generalize hgx5 : ((wx5.setCell ⟨wx1.heap.size, 0, none⟩ (.string (strB (([] : Bs))))).setCell ⟨wx1.heap.size, 1, none⟩ (.string (strB (([] : Bs))))) = vx5 at *
          have hby : (([] : Bs)).length ≤ 140737488355328 := by simp
          have hK := takeCommit_any vx5 (([] : Bs)) hby
          unfold commitSaid at hK
          rw [takenCommit_nil] at hK
          simp only at hK
          refine hK.mono ?_
          rintro e yx5 ⟨rfl, hb2x5⟩
          clear hK hby hgx5
          clear cax50 cax51 fax50 fax51
          have zfx5b := (hb2x5.block _ (lt_of_heap zfx5a)).trans zfx5a
          have znx5b := (hb2x5.block _ (lt_of_heap znx5a)).trans znx5a
          have zcx5b := (hb2x5.block _ (lt_of_heap zcx5a)).trans zcx5a
          have zax5b := (hb2x5.block _ (lt_of_heap zax5a)).trans zax5a
          have Bx5b := Bx5a.trans (hb2x5.mono Bx5a.size)
          have Lfx5b := Lfx5a.past hb2x5
          have Lpx5b := Lpx5a.past hb2x5
          have Lnx5b := Lnx5a.past hb2x5
          have Lcx5b := Lcx5a.past hb2x5
          have Tx5b := Tx5a.keep hb2x5 (Nat.lt_of_lt_of_le h0 Bx5a.size)
          clear hb2x5 zfx5a znx5a zcx5a zax5a Bx5a Lfx5a Lpx5a Lnx5a Lcx5a Tx5a
          have hq2x5 : Below yx5.heap.size yx5 (yx5.alloc (.cells #[.string ⟨#[]⟩, .slice none 0 0, .string ⟨#[]⟩, .int .i64 0, .string ⟨#[]⟩] 54)) := (Below.refl _ _).alloc (Nat.le_refl _) _
          have zgx5 := heap_last yx5 (.cells #[.string ⟨#[]⟩, .slice none 0 0, .string ⟨#[]⟩, .int .i64 0, .string ⟨#[]⟩] 54) _ rfl
          have zfx5c := (hq2x5.block _ (lt_of_heap zfx5b)).trans zfx5b
          have znx5c := (hq2x5.block _ (lt_of_heap znx5b)).trans znx5b
          have zcx5c := (hq2x5.block _ (lt_of_heap zcx5b)).trans zcx5b
          have zax5c := (hq2x5.block _ (lt_of_heap zax5b)).trans zax5b
          have Bx5c := Bx5b.trans (hq2x5.mono Bx5b.size)
          have Lfx5c := Lfx5b.past hq2x5
          have Lpx5c := Lpx5b.past hq2x5
          have Lnx5c := Lnx5b.past hq2x5
          have Lcx5c := Lcx5b.past hq2x5
          have Tx5c := Tx5b.keep hq2x5 (Nat.lt_of_lt_of_le h0 Bx5b.size)
          clear hq2x5 zfx5b znx5b zcx5b zax5b Bx5b Lfx5b Lpx5b Lnx5b Lcx5b Tx5b
          go_wp2
          go_ret
          exact ⟨ret_bool (by first | rfl | simp), Bx5c⟩
      · have hok3 := Bool.eq_false_iff.2 hok3
        have hM := branch_any tx2 n _ Lnx2d Tx2d
        rw [hok3, made_no] at hM
        have cfx2d0 := rc (i := 0) zfx2d rfl
        have cfx2d1 := rc (i := 1) zfx2d rfl
        have cnx2d0 := rc (i := 0) znx2d rfl
        have cnx2d1 := rc (i := 1) znx2d rfl
        have ccx2d0 := rc (i := 0) zcx2d rfl
        have ccx2d1 := rc (i := 1) zcx2d rfl
        have ccx2d2 := rc (i := 2) zcx2d rfl
        have ccx2d3 := rc (i := 3) zcx2d rfl
        have ccx2d4 := rc (i := 4) zcx2d rfl
        go_wp2_with fail
        refine hM.mono ?_
        rintro e wx6 ⟨rfl, hbx6⟩
        clear hM
        clear cfx2d0 cfx2d1 cnx2d0 cnx2d1 ccx2d0 ccx2d1 ccx2d2 ccx2d3 ccx2d4
        have zfx6 := (hbx6.block _ (lt_of_heap zfx2d)).trans zfx2d
        have znx6 := (hbx6.block _ (lt_of_heap znx2d)).trans znx2d
        have zcx6 := (hbx6.block _ (lt_of_heap zcx2d)).trans zcx2d
        have zax6 := (hbx6.block _ (lt_of_heap zax2d)).trans zax2d
        have Bx6 := Bx2d.trans (hbx6.mono Bx2d.size)
        have Lfx6 := Lfx2d.past hbx6
        have Lpx6 := Lpx2d.past hbx6
        have Lnx6 := Lnx2d.past hbx6
        have Lcx6 := Lcx2d.past hbx6
        have Tx6 := Tx2d.keep hbx6 (Nat.lt_of_lt_of_le h0 Bx2d.size)
        clear hbx6 zfx2d znx2d zcx2d zax2d Bx2d Lfx2d Lpx2d Lnx2d Lcx2d Tx2d
        have cax60 := rc (i := 0) zax6 rfl
        have cax61 := rc (i := 1) zax6 rfl
        have fax60 := frozen0 (j := 0) zax6
        have fax61 := frozen0 (j := 1) zax6
        have zax6a : ((wx6.setCell ⟨wx1.heap.size, 0, none⟩ (.string (strB (([] : Bs))))).setCell ⟨wx1.heap.size, 1, none⟩ (.string (strB (([] : Bs))))).heap[wx1.heap.size]? = some (.cells #[.string (strB (([] : Bs))), .string (strB (([] : Bs)))] 27) := heap_set2 zax6
        have zfx6a : ((wx6.setCell ⟨wx1.heap.size, 0, none⟩ (.string (strB (([] : Bs))))).setCell ⟨wx1.heap.size, 1, none⟩ (.string (strB (([] : Bs))))).heap[w.heap.size]? = some (.cells #[.int .i64 f.1, .slice af f.2.length cf] 24) := ((gb_set _ (wx1.heap.size) 1 _).block _ (Nat.lt_of_lt_of_le (lt_of_heap zfx6) (gb_set _ (wx1.heap.size) 0 _).size) (fun e => by injection e with e; omega)).trans (((gb_set wx6 (wx1.heap.size) 0 _).block _ (lt_of_heap zfx6) (fun e => by injection e with e; omega)).trans zfx6)
        have znx6a : ((wx6.setCell ⟨wx1.heap.size, 0, none⟩ (.string (strB (([] : Bs))))).setCell ⟨wx1.heap.size, 1, none⟩ (.string (strB (([] : Bs))))).heap[w.heap.size + 1]? = some (.cells #[.int .i64 n.1, .slice an n.2.length cn] 41) := ((gb_set _ (wx1.heap.size) 1 _).block _ (Nat.lt_of_lt_of_le (lt_of_heap znx6) (gb_set _ (wx1.heap.size) 0 _).size) (fun e => by injection e with e; omega)).trans (((gb_set wx6 (wx1.heap.size) 0 _).block _ (lt_of_heap znx6) (fun e => by injection e with e; omega)).trans znx6)
        have zcx6a : ((wx6.setCell ⟨wx1.heap.size, 0, none⟩ (.string (strB (([] : Bs))))).setCell ⟨wx1.heap.size, 1, none⟩ (.string (strB (([] : Bs))))).heap[w.heap.size + 2]? = some (.cells #[.string (strB c.1), .slice ac c.2.1.length cc, .string (strB c.2.2.1), .int .i64 c.2.2.2.1, .string (strB c.2.2.2.2)] 54) := ((gb_set _ (wx1.heap.size) 1 _).block _ (Nat.lt_of_lt_of_le (lt_of_heap zcx6) (gb_set _ (wx1.heap.size) 0 _).size) (fun e => by injection e with e; omega)).trans (((gb_set wx6 (wx1.heap.size) 0 _).block _ (lt_of_heap zcx6) (fun e => by injection e with e; omega)).trans zcx6)
        have Bx6a := (Bx6.setCell (p := ⟨wx1.heap.size, 0, none⟩) (by simp; omega) (.string (strB (([] : Bs))))).setCell (p := ⟨wx1.heap.size, 1, none⟩) (by simp; omega) (.string (strB (([] : Bs))))
        have Lfx6a : Ls ((wx6.setCell ⟨wx1.heap.size, 0, none⟩ (.string (strB (([] : Bs))))).setCell ⟨wx1.heap.size, 1, none⟩ (.string (strB (([] : Bs))))).heap.size ((wx6.setCell ⟨wx1.heap.size, 0, none⟩ (.string (strB (([] : Bs))))).setCell ⟨wx1.heap.size, 1, none⟩ (.string (strB (([] : Bs))))) _ _ _ _ := ((Lf0.keep Bx6a)).up Bx6a.size
        have Lpx6a : Ls ((wx6.setCell ⟨wx1.heap.size, 0, none⟩ (.string (strB (([] : Bs))))).setCell ⟨wx1.heap.size, 1, none⟩ (.string (strB (([] : Bs))))).heap.size ((wx6.setCell ⟨wx1.heap.size, 0, none⟩ (.string (strB (([] : Bs))))).setCell ⟨wx1.heap.size, 1, none⟩ (.string (strB (([] : Bs))))) _ _ _ _ := ((Lp0.keep Bx6a)).up Bx6a.size
        have Lnx6a : Ls ((wx6.setCell ⟨wx1.heap.size, 0, none⟩ (.string (strB (([] : Bs))))).setCell ⟨wx1.heap.size, 1, none⟩ (.string (strB (([] : Bs))))).heap.size ((wx6.setCell ⟨wx1.heap.size, 0, none⟩ (.string (strB (([] : Bs))))).setCell ⟨wx1.heap.size, 1, none⟩ (.string (strB (([] : Bs))))) _ _ _ _ := ((Ln0.keep Bx6a)).up Bx6a.size
        have Lcx6a : Ls ((wx6.setCell ⟨wx1.heap.size, 0, none⟩ (.string (strB (([] : Bs))))).setCell ⟨wx1.heap.size, 1, none⟩ (.string (strB (([] : Bs))))).heap.size ((wx6.setCell ⟨wx1.heap.size, 0, none⟩ (.string (strB (([] : Bs))))).setCell ⟨wx1.heap.size, 1, none⟩ (.string (strB (([] : Bs))))) _ _ _ _ := ((Lc0.keep Bx6a)).up Bx6a.size
        have Tx6a := hT.keep Bx6a h0
        clear zfx6 znx6 zcx6 zax6 Bx6 Lfx6 Lpx6 Lnx6 Lcx6 Tx6
        go_wp2_with fail
        generalize hgx6 : ((wx6.setCell ⟨wx1.heap.size, 0, none⟩ (.string (strB (([] : Bs))))).setCell ⟨wx1.heap.size, 1, none⟩ (.string (strB (([] : Bs))))) = vx6 at *
        have hby : (([] : Bs)).length ≤ 140737488355328 := by simp
        have hK := takeBranch_any vx6 (([] : Bs)) hby
        unfold branchSaid at hK
        rw [takenBranch_nil] at hK
        simp only at hK
        refine hK.mono ?_
        rintro e yx6 ⟨rfl, hb2x6⟩
        clear hK hby hgx6
        clear cax60 cax61 fax60 fax61
        have zfx6b := (hb2x6.block _ (lt_of_heap zfx6a)).trans zfx6a
        have znx6b := (hb2x6.block _ (lt_of_heap znx6a)).trans znx6a
        have zcx6b := (hb2x6.block _ (lt_of_heap zcx6a)).trans zcx6a
        have zax6b := (hb2x6.block _ (lt_of_heap zax6a)).trans zax6a
        have Bx6b := Bx6a.trans (hb2x6.mono Bx6a.size)
        have Lfx6b := Lfx6a.past hb2x6
        have Lpx6b := Lpx6a.past hb2x6
        have Lnx6b := Lnx6a.past hb2x6
        have Lcx6b := Lcx6a.past hb2x6
        have Tx6b := Tx6a.keep hb2x6 (Nat.lt_of_lt_of_le h0 Bx6a.size)
        clear hb2x6 zfx6a znx6a zcx6a zax6a Bx6a Lfx6a Lpx6a Lnx6a Lcx6a Tx6a
        have hq2x6 : Below yx6.heap.size yx6 (yx6.alloc (.cells #[.int .i64 0, .slice none 0 0] 41)) := (Below.refl _ _).alloc (Nat.le_refl _) _
        have zgx6 := heap_last yx6 (.cells #[.int .i64 0, .slice none 0 0] 41) _ rfl
        have zfx6c := (hq2x6.block _ (lt_of_heap zfx6b)).trans zfx6b
        have znx6c := (hq2x6.block _ (lt_of_heap znx6b)).trans znx6b
        have zcx6c := (hq2x6.block _ (lt_of_heap zcx6b)).trans zcx6b
        have zax6c := (hq2x6.block _ (lt_of_heap zax6b)).trans zax6b
        have Bx6c := Bx6b.trans (hq2x6.mono Bx6b.size)
        have Lfx6c := Lfx6b.past hq2x6
        have Lpx6c := Lpx6b.past hq2x6
        have Lnx6c := Lnx6b.past hq2x6
        have Lcx6c := Lcx6b.past hq2x6
        have Tx6c := Tx6b.keep hq2x6 (Nat.lt_of_lt_of_le h0 Bx6b.size)
        clear hq2x6 zfx6b znx6b zcx6b zax6b Bx6b Lfx6b Lpx6b Lnx6b Lcx6b Tx6b
        by_cases hok4 : commitOk c = true
        · skip
          have hM := commit_any (yx6.alloc (.cells #[.int .i64 0, .slice none 0 0] 41)) c _ Lcx6c Tx6c
          rw [hok4, made_yes] at hM
          generalize sha (75 :: commitB c) = S4 at hM
          have cfx6c0 := rc (i := 0) zfx6c rfl
          have cfx6c1 := rc (i := 1) zfx6c rfl
          have cnx6c0 := rc (i := 0) znx6c rfl
          have cnx6c1 := rc (i := 1) znx6c rfl
          have ccx6c0 := rc (i := 0) zcx6c rfl
          have ccx6c1 := rc (i := 1) zcx6c rfl
          have ccx6c2 := rc (i := 2) zcx6c rfl
          have ccx6c3 := rc (i := 3) zcx6c rfl
          have ccx6c4 := rc (i := 4) zcx6c rfl
          go_wp2_with fail
          refine hM.mono ?_
          rintro e wx7 ⟨rfl, hbx7⟩
          clear hM
          clear cfx6c0 cfx6c1 cnx6c0 cnx6c1 ccx6c0 ccx6c1 ccx6c2 ccx6c3 ccx6c4
          have zfx7 := (hbx7.block _ (lt_of_heap zfx6c)).trans zfx6c
          have znx7 := (hbx7.block _ (lt_of_heap znx6c)).trans znx6c
          have zcx7 := (hbx7.block _ (lt_of_heap zcx6c)).trans zcx6c
          have zax7 := (hbx7.block _ (lt_of_heap zax6c)).trans zax6c
          have Bx7 := Bx6c.trans (hbx7.mono Bx6c.size)
          have Lfx7 := Lfx6c.past hbx7
          have Lpx7 := Lpx6c.past hbx7
          have Lnx7 := Lnx6c.past hbx7
          have Lcx7 := Lcx6c.past hbx7
          have Tx7 := Tx6c.keep hbx7 (Nat.lt_of_lt_of_le h0 Bx6c.size)
          clear hbx7 zfx6c znx6c zcx6c zax6c Bx6c Lfx6c Lpx6c Lnx6c Lcx6c Tx6c
          have cax70 := rc (i := 0) zax7 rfl
          have cax71 := rc (i := 1) zax7 rfl
          have fax70 := frozen0 (j := 0) zax7
          have fax71 := frozen0 (j := 1) zax7
          have zax7a : ((wx7.setCell ⟨wx1.heap.size, 0, none⟩ (.string (strB (S4)))).setCell ⟨wx1.heap.size, 1, none⟩ (.string (strB (75 :: commitB c)))).heap[wx1.heap.size]? = some (.cells #[.string (strB (S4)), .string (strB (75 :: commitB c))] 27) := heap_set2 zax7
          have zfx7a : ((wx7.setCell ⟨wx1.heap.size, 0, none⟩ (.string (strB (S4)))).setCell ⟨wx1.heap.size, 1, none⟩ (.string (strB (75 :: commitB c)))).heap[w.heap.size]? = some (.cells #[.int .i64 f.1, .slice af f.2.length cf] 24) := ((gb_set _ (wx1.heap.size) 1 _).block _ (Nat.lt_of_lt_of_le (lt_of_heap zfx7) (gb_set _ (wx1.heap.size) 0 _).size) (fun e => by injection e with e; omega)).trans (((gb_set wx7 (wx1.heap.size) 0 _).block _ (lt_of_heap zfx7) (fun e => by injection e with e; omega)).trans zfx7)
          have znx7a : ((wx7.setCell ⟨wx1.heap.size, 0, none⟩ (.string (strB (S4)))).setCell ⟨wx1.heap.size, 1, none⟩ (.string (strB (75 :: commitB c)))).heap[w.heap.size + 1]? = some (.cells #[.int .i64 n.1, .slice an n.2.length cn] 41) := ((gb_set _ (wx1.heap.size) 1 _).block _ (Nat.lt_of_lt_of_le (lt_of_heap znx7) (gb_set _ (wx1.heap.size) 0 _).size) (fun e => by injection e with e; omega)).trans (((gb_set wx7 (wx1.heap.size) 0 _).block _ (lt_of_heap znx7) (fun e => by injection e with e; omega)).trans znx7)
          have zcx7a : ((wx7.setCell ⟨wx1.heap.size, 0, none⟩ (.string (strB (S4)))).setCell ⟨wx1.heap.size, 1, none⟩ (.string (strB (75 :: commitB c)))).heap[w.heap.size + 2]? = some (.cells #[.string (strB c.1), .slice ac c.2.1.length cc, .string (strB c.2.2.1), .int .i64 c.2.2.2.1, .string (strB c.2.2.2.2)] 54) := ((gb_set _ (wx1.heap.size) 1 _).block _ (Nat.lt_of_lt_of_le (lt_of_heap zcx7) (gb_set _ (wx1.heap.size) 0 _).size) (fun e => by injection e with e; omega)).trans (((gb_set wx7 (wx1.heap.size) 0 _).block _ (lt_of_heap zcx7) (fun e => by injection e with e; omega)).trans zcx7)
          have Bx7a := (Bx7.setCell (p := ⟨wx1.heap.size, 0, none⟩) (by simp; omega) (.string (strB (S4)))).setCell (p := ⟨wx1.heap.size, 1, none⟩) (by simp; omega) (.string (strB (75 :: commitB c)))
          have Lfx7a : Ls ((wx7.setCell ⟨wx1.heap.size, 0, none⟩ (.string (strB (S4)))).setCell ⟨wx1.heap.size, 1, none⟩ (.string (strB (75 :: commitB c)))).heap.size ((wx7.setCell ⟨wx1.heap.size, 0, none⟩ (.string (strB (S4)))).setCell ⟨wx1.heap.size, 1, none⟩ (.string (strB (75 :: commitB c)))) _ _ _ _ := ((Lf0.keep Bx7a)).up Bx7a.size
          have Lpx7a : Ls ((wx7.setCell ⟨wx1.heap.size, 0, none⟩ (.string (strB (S4)))).setCell ⟨wx1.heap.size, 1, none⟩ (.string (strB (75 :: commitB c)))).heap.size ((wx7.setCell ⟨wx1.heap.size, 0, none⟩ (.string (strB (S4)))).setCell ⟨wx1.heap.size, 1, none⟩ (.string (strB (75 :: commitB c)))) _ _ _ _ := ((Lp0.keep Bx7a)).up Bx7a.size
          have Lnx7a : Ls ((wx7.setCell ⟨wx1.heap.size, 0, none⟩ (.string (strB (S4)))).setCell ⟨wx1.heap.size, 1, none⟩ (.string (strB (75 :: commitB c)))).heap.size ((wx7.setCell ⟨wx1.heap.size, 0, none⟩ (.string (strB (S4)))).setCell ⟨wx1.heap.size, 1, none⟩ (.string (strB (75 :: commitB c)))) _ _ _ _ := ((Ln0.keep Bx7a)).up Bx7a.size
          have Lcx7a : Ls ((wx7.setCell ⟨wx1.heap.size, 0, none⟩ (.string (strB (S4)))).setCell ⟨wx1.heap.size, 1, none⟩ (.string (strB (75 :: commitB c)))).heap.size ((wx7.setCell ⟨wx1.heap.size, 0, none⟩ (.string (strB (S4)))).setCell ⟨wx1.heap.size, 1, none⟩ (.string (strB (75 :: commitB c)))) _ _ _ _ := ((Lc0.keep Bx7a)).up Bx7a.size
          have Tx7a := hT.keep Bx7a h0
          clear zfx7 znx7 zcx7 zax7 Bx7 Lfx7 Lpx7 Lnx7 Lcx7 Tx7
          go_wp2_with fail
          generalize hgx7 : ((wx7.setCell ⟨wx1.heap.size, 0, none⟩ (.string (strB (S4)))).setCell ⟨wx1.heap.size, 1, none⟩ (.string (strB (75 :: commitB c)))) = vx7 at *
          have hby : (75 :: commitB c).length ≤ 140737488355328 := by have := (commitB_le hok4).1; simp only [List.length_cons]; omega
          have hK := takeCommit_any vx7 (75 :: commitB c) hby
          unfold commitSaid at hK
          rw [(takenCommit_iff _ hby c).2 ⟨hok4, rfl⟩] at hK
          simp only at hK
          refine hK.mono ?_
          rintro e yx7 ⟨⟨vvx7, rfl, ownx7⟩, hb2x7⟩
          clear hK hby hgx7
          clear cax70 cax71 fax70 fax71
          have zfx7b := (hb2x7.block _ (lt_of_heap zfx7a)).trans zfx7a
          have znx7b := (hb2x7.block _ (lt_of_heap znx7a)).trans znx7a
          have zcx7b := (hb2x7.block _ (lt_of_heap zcx7a)).trans zcx7a
          have zax7b := (hb2x7.block _ (lt_of_heap zax7a)).trans zax7a
          have Bx7b := Bx7a.trans (hb2x7.mono Bx7a.size)
          have Lfx7b := Lfx7a.past hb2x7
          have Lpx7b := Lpx7a.past hb2x7
          have Lnx7b := Lnx7a.past hb2x7
          have Lcx7b := Lcx7a.past hb2x7
          have Tx7b := Tx7a.keep hb2x7 (Nat.lt_of_lt_of_le h0 Bx7a.size)
          clear hb2x7 zfx7a znx7a zcx7a zax7a Bx7a Lfx7a Lpx7a Lnx7a Lcx7a Tx7a
          obtain ⟨ag, cg, rfl, -⟩ := own_form ownx7
          have lvx7 := ls_of_own idC_length ownx7
          have hq2x7 : Below yx7.heap.size yx7 (yx7.alloc (.cells #[.string (strB c.1), .slice ag c.2.1.length cg, .string (strB c.2.2.1), .int .i64 c.2.2.2.1, .string (strB c.2.2.2.2)] 54)) := (Below.refl _ _).alloc (Nat.le_refl _) _
          have zgx7 := heap_last yx7 (.cells #[.string (strB c.1), .slice ag c.2.1.length cg, .string (strB c.2.2.1), .int .i64 c.2.2.2.1, .string (strB c.2.2.2.2)] 54) _ rfl
          have lwx7 := lvx7.past hq2x7
          clear lvx7
          have zfx7c := (hq2x7.block _ (lt_of_heap zfx7b)).trans zfx7b
          have znx7c := (hq2x7.block _ (lt_of_heap znx7b)).trans znx7b
          have zcx7c := (hq2x7.block _ (lt_of_heap zcx7b)).trans zcx7b
          have zax7c := (hq2x7.block _ (lt_of_heap zax7b)).trans zax7b
          have Bx7c := Bx7b.trans (hq2x7.mono Bx7b.size)
          have Lfx7c := Lfx7b.past hq2x7
          have Lpx7c := Lpx7b.past hq2x7
          have Lnx7c := Lnx7b.past hq2x7
          have Lcx7c := Lcx7b.past hq2x7
          have Tx7c := Tx7b.keep hq2x7 (Nat.lt_of_lt_of_le h0 Bx7b.size)
          clear hq2x7 zfx7b znx7b zcx7b zax7b Bx7b Lfx7b Lpx7b Lnx7b Lcx7b Tx7b
          have hE := sameCommit_any (yx7.alloc (.cells #[.string (strB c.1), .slice ag c.2.1.length cg, .string (strB c.2.2.1), .int .i64 c.2.2.2.1, .string (strB c.2.2.2.2)] 54)) c c _ _ Lcx7c lwx7
          rw [decide_eq_true (rfl : c = c)] at hE
          clear ownx7 lwx7
          have cfx7c0 := rc (i := 0) zfx7c rfl
          have cfx7c1 := rc (i := 1) zfx7c rfl
          have cnx7c0 := rc (i := 0) znx7c rfl
          have cnx7c1 := rc (i := 1) znx7c rfl
          have ccx7c0 := rc (i := 0) zcx7c rfl
          have ccx7c1 := rc (i := 1) zcx7c rfl
          have ccx7c2 := rc (i := 2) zcx7c rfl
          have ccx7c3 := rc (i := 3) zcx7c rfl
          have ccx7c4 := rc (i := 4) zcx7c rfl
          go_wp2_with fail
          generalize hg2x7 : (yx7.alloc (.cells #[.string (strB c.1), .slice ag c.2.1.length cg, .string (strB c.2.2.1), .int .i64 c.2.2.2.1, .string (strB c.2.2.2.2)] 54)) = zx7 at *
          refine hE.mono ?_
          rintro e tx7 ⟨rfl, hb3x7⟩
          clear hE
          clear cfx7c0 cfx7c1 cnx7c0 cnx7c1 ccx7c0 ccx7c1 ccx7c2 ccx7c3 ccx7c4
          have zfx7d := (hb3x7.block _ (lt_of_heap zfx7c)).trans zfx7c
          have znx7d := (hb3x7.block _ (lt_of_heap znx7c)).trans znx7c
          have zcx7d := (hb3x7.block _ (lt_of_heap zcx7c)).trans zcx7c
          have zax7d := (hb3x7.block _ (lt_of_heap zax7c)).trans zax7c
          have Bx7d := Bx7c.trans (hb3x7.mono Bx7c.size)
          have Lfx7d := Lfx7c.past hb3x7
          have Lpx7d := Lpx7c.past hb3x7
          have Lnx7d := Lnx7c.past hb3x7
          have Lcx7d := Lcx7c.past hb3x7
          have Tx7d := Tx7c.keep hb3x7 (Nat.lt_of_lt_of_le h0 Bx7c.size)
          clear hb3x7 zfx7c znx7c zcx7c zax7c Bx7c Lfx7c Lpx7c Lnx7c Lcx7c Tx7c
          clear zgx7 hg2x7
          go_wp2
          go_ret
          exact ⟨ret_bool (by first | rfl | simp), Bx7d⟩
        · have hok4 := Bool.eq_false_iff.2 hok4
          have hM := commit_any (yx6.alloc (.cells #[.int .i64 0, .slice none 0 0] 41)) c _ Lcx6c Tx6c
          rw [hok4, made_no] at hM
          have cfx6c0 := rc (i := 0) zfx6c rfl
          have cfx6c1 := rc (i := 1) zfx6c rfl
          have cnx6c0 := rc (i := 0) znx6c rfl
          have cnx6c1 := rc (i := 1) znx6c rfl
          have ccx6c0 := rc (i := 0) zcx6c rfl
          have ccx6c1 := rc (i := 1) zcx6c rfl
          have ccx6c2 := rc (i := 2) zcx6c rfl
          have ccx6c3 := rc (i := 3) zcx6c rfl
          have ccx6c4 := rc (i := 4) zcx6c rfl
          go_wp2_with fail
          refine hM.mono ?_
          rintro e wx8 ⟨rfl, hbx8⟩
          clear hM
          clear cfx6c0 cfx6c1 cnx6c0 cnx6c1 ccx6c0 ccx6c1 ccx6c2 ccx6c3 ccx6c4
          have zfx8 := (hbx8.block _ (lt_of_heap zfx6c)).trans zfx6c
          have znx8 := (hbx8.block _ (lt_of_heap znx6c)).trans znx6c
          have zcx8 := (hbx8.block _ (lt_of_heap zcx6c)).trans zcx6c
          have zax8 := (hbx8.block _ (lt_of_heap zax6c)).trans zax6c
          have Bx8 := Bx6c.trans (hbx8.mono Bx6c.size)
          have Lfx8 := Lfx6c.past hbx8
          have Lpx8 := Lpx6c.past hbx8
          have Lnx8 := Lnx6c.past hbx8
          have Lcx8 := Lcx6c.past hbx8
          have Tx8 := Tx6c.keep hbx8 (Nat.lt_of_lt_of_le h0 Bx6c.size)
          clear hbx8 zfx6c znx6c zcx6c zax6c Bx6c Lfx6c Lpx6c Lnx6c Lcx6c Tx6c
          have cax80 := rc (i := 0) zax8 rfl
          have cax81 := rc (i := 1) zax8 rfl
          have fax80 := frozen0 (j := 0) zax8
          have fax81 := frozen0 (j := 1) zax8
          have zax8a : ((wx8.setCell ⟨wx1.heap.size, 0, none⟩ (.string (strB (([] : Bs))))).setCell ⟨wx1.heap.size, 1, none⟩ (.string (strB (([] : Bs))))).heap[wx1.heap.size]? = some (.cells #[.string (strB (([] : Bs))), .string (strB (([] : Bs)))] 27) := heap_set2 zax8
          have zfx8a : ((wx8.setCell ⟨wx1.heap.size, 0, none⟩ (.string (strB (([] : Bs))))).setCell ⟨wx1.heap.size, 1, none⟩ (.string (strB (([] : Bs))))).heap[w.heap.size]? = some (.cells #[.int .i64 f.1, .slice af f.2.length cf] 24) := ((gb_set _ (wx1.heap.size) 1 _).block _ (Nat.lt_of_lt_of_le (lt_of_heap zfx8) (gb_set _ (wx1.heap.size) 0 _).size) (fun e => by injection e with e; omega)).trans (((gb_set wx8 (wx1.heap.size) 0 _).block _ (lt_of_heap zfx8) (fun e => by injection e with e; omega)).trans zfx8)
          have znx8a : ((wx8.setCell ⟨wx1.heap.size, 0, none⟩ (.string (strB (([] : Bs))))).setCell ⟨wx1.heap.size, 1, none⟩ (.string (strB (([] : Bs))))).heap[w.heap.size + 1]? = some (.cells #[.int .i64 n.1, .slice an n.2.length cn] 41) := ((gb_set _ (wx1.heap.size) 1 _).block _ (Nat.lt_of_lt_of_le (lt_of_heap znx8) (gb_set _ (wx1.heap.size) 0 _).size) (fun e => by injection e with e; omega)).trans (((gb_set wx8 (wx1.heap.size) 0 _).block _ (lt_of_heap znx8) (fun e => by injection e with e; omega)).trans znx8)
          have zcx8a : ((wx8.setCell ⟨wx1.heap.size, 0, none⟩ (.string (strB (([] : Bs))))).setCell ⟨wx1.heap.size, 1, none⟩ (.string (strB (([] : Bs))))).heap[w.heap.size + 2]? = some (.cells #[.string (strB c.1), .slice ac c.2.1.length cc, .string (strB c.2.2.1), .int .i64 c.2.2.2.1, .string (strB c.2.2.2.2)] 54) := ((gb_set _ (wx1.heap.size) 1 _).block _ (Nat.lt_of_lt_of_le (lt_of_heap zcx8) (gb_set _ (wx1.heap.size) 0 _).size) (fun e => by injection e with e; omega)).trans (((gb_set wx8 (wx1.heap.size) 0 _).block _ (lt_of_heap zcx8) (fun e => by injection e with e; omega)).trans zcx8)
          have Bx8a := (Bx8.setCell (p := ⟨wx1.heap.size, 0, none⟩) (by simp; omega) (.string (strB (([] : Bs))))).setCell (p := ⟨wx1.heap.size, 1, none⟩) (by simp; omega) (.string (strB (([] : Bs))))
          have Lfx8a : Ls ((wx8.setCell ⟨wx1.heap.size, 0, none⟩ (.string (strB (([] : Bs))))).setCell ⟨wx1.heap.size, 1, none⟩ (.string (strB (([] : Bs))))).heap.size ((wx8.setCell ⟨wx1.heap.size, 0, none⟩ (.string (strB (([] : Bs))))).setCell ⟨wx1.heap.size, 1, none⟩ (.string (strB (([] : Bs))))) _ _ _ _ := ((Lf0.keep Bx8a)).up Bx8a.size
          have Lpx8a : Ls ((wx8.setCell ⟨wx1.heap.size, 0, none⟩ (.string (strB (([] : Bs))))).setCell ⟨wx1.heap.size, 1, none⟩ (.string (strB (([] : Bs))))).heap.size ((wx8.setCell ⟨wx1.heap.size, 0, none⟩ (.string (strB (([] : Bs))))).setCell ⟨wx1.heap.size, 1, none⟩ (.string (strB (([] : Bs))))) _ _ _ _ := ((Lp0.keep Bx8a)).up Bx8a.size
          have Lnx8a : Ls ((wx8.setCell ⟨wx1.heap.size, 0, none⟩ (.string (strB (([] : Bs))))).setCell ⟨wx1.heap.size, 1, none⟩ (.string (strB (([] : Bs))))).heap.size ((wx8.setCell ⟨wx1.heap.size, 0, none⟩ (.string (strB (([] : Bs))))).setCell ⟨wx1.heap.size, 1, none⟩ (.string (strB (([] : Bs))))) _ _ _ _ := ((Ln0.keep Bx8a)).up Bx8a.size
          have Lcx8a : Ls ((wx8.setCell ⟨wx1.heap.size, 0, none⟩ (.string (strB (([] : Bs))))).setCell ⟨wx1.heap.size, 1, none⟩ (.string (strB (([] : Bs))))).heap.size ((wx8.setCell ⟨wx1.heap.size, 0, none⟩ (.string (strB (([] : Bs))))).setCell ⟨wx1.heap.size, 1, none⟩ (.string (strB (([] : Bs))))) _ _ _ _ := ((Lc0.keep Bx8a)).up Bx8a.size
          have Tx8a := hT.keep Bx8a h0
          clear zfx8 znx8 zcx8 zax8 Bx8 Lfx8 Lpx8 Lnx8 Lcx8 Tx8
          go_wp2_with fail
          generalize hgx8 : ((wx8.setCell ⟨wx1.heap.size, 0, none⟩ (.string (strB (([] : Bs))))).setCell ⟨wx1.heap.size, 1, none⟩ (.string (strB (([] : Bs))))) = vx8 at *
          have hby : (([] : Bs)).length ≤ 140737488355328 := by simp
          have hK := takeCommit_any vx8 (([] : Bs)) hby
          unfold commitSaid at hK
          rw [takenCommit_nil] at hK
          simp only at hK
          refine hK.mono ?_
          rintro e yx8 ⟨rfl, hb2x8⟩
          clear hK hby hgx8
          clear cax80 cax81 fax80 fax81
          have zfx8b := (hb2x8.block _ (lt_of_heap zfx8a)).trans zfx8a
          have znx8b := (hb2x8.block _ (lt_of_heap znx8a)).trans znx8a
          have zcx8b := (hb2x8.block _ (lt_of_heap zcx8a)).trans zcx8a
          have zax8b := (hb2x8.block _ (lt_of_heap zax8a)).trans zax8a
          have Bx8b := Bx8a.trans (hb2x8.mono Bx8a.size)
          have Lfx8b := Lfx8a.past hb2x8
          have Lpx8b := Lpx8a.past hb2x8
          have Lnx8b := Lnx8a.past hb2x8
          have Lcx8b := Lcx8a.past hb2x8
          have Tx8b := Tx8a.keep hb2x8 (Nat.lt_of_lt_of_le h0 Bx8a.size)
          clear hb2x8 zfx8a znx8a zcx8a zax8a Bx8a Lfx8a Lpx8a Lnx8a Lcx8a Tx8a
          have hq2x8 : Below yx8.heap.size yx8 (yx8.alloc (.cells #[.string ⟨#[]⟩, .slice none 0 0, .string ⟨#[]⟩, .int .i64 0, .string ⟨#[]⟩] 54)) := (Below.refl _ _).alloc (Nat.le_refl _) _
          have zgx8 := heap_last yx8 (.cells #[.string ⟨#[]⟩, .slice none 0 0, .string ⟨#[]⟩, .int .i64 0, .string ⟨#[]⟩] 54) _ rfl
          have zfx8c := (hq2x8.block _ (lt_of_heap zfx8b)).trans zfx8b
          have znx8c := (hq2x8.block _ (lt_of_heap znx8b)).trans znx8b
          have zcx8c := (hq2x8.block _ (lt_of_heap zcx8b)).trans zcx8b
          have zax8c := (hq2x8.block _ (lt_of_heap zax8b)).trans zax8b
          have Bx8c := Bx8b.trans (hq2x8.mono Bx8b.size)
          have Lfx8c := Lfx8b.past hq2x8
          have Lpx8c := Lpx8b.past hq2x8
          have Lnx8c := Lnx8b.past hq2x8
          have Lcx8c := Lcx8b.past hq2x8
          have Tx8c := Tx8b.keep hq2x8 (Nat.lt_of_lt_of_le h0 Bx8b.size)
          clear hq2x8 zfx8b znx8b zcx8b zax8b Bx8b Lfx8b Lpx8b Lnx8b Lcx8b Tx8b
          go_wp2
          go_ret
          exact ⟨ret_bool (by first | rfl | simp), Bx8c⟩
    · have hok2 := Bool.eq_false_iff.2 hok2
      have hM := leaf_any tx1 ps _ Lpx1d Tx1d
      rw [hok2, made_no] at hM
      have cfx1d0 := rc (i := 0) zfx1d rfl
      have cfx1d1 := rc (i := 1) zfx1d rfl
      have cnx1d0 := rc (i := 0) znx1d rfl
      have cnx1d1 := rc (i := 1) znx1d rfl
      have ccx1d0 := rc (i := 0) zcx1d rfl
      have ccx1d1 := rc (i := 1) zcx1d rfl
      have ccx1d2 := rc (i := 2) zcx1d rfl
      have ccx1d3 := rc (i := 3) zcx1d rfl
      have ccx1d4 := rc (i := 4) zcx1d rfl
      go_wp2_with fail
      refine hM.mono ?_
      rintro e wx9 ⟨rfl, hbx9⟩
      clear hM
      clear cfx1d0 cfx1d1 cnx1d0 cnx1d1 ccx1d0 ccx1d1 ccx1d2 ccx1d3 ccx1d4
      have zfx9 := (hbx9.block _ (lt_of_heap zfx1d)).trans zfx1d
      have znx9 := (hbx9.block _ (lt_of_heap znx1d)).trans znx1d
      have zcx9 := (hbx9.block _ (lt_of_heap zcx1d)).trans zcx1d
      have zax9 := (hbx9.block _ (lt_of_heap zax1d)).trans zax1d
      have Bx9 := Bx1d.trans (hbx9.mono Bx1d.size)
      have Lfx9 := Lfx1d.past hbx9
      have Lpx9 := Lpx1d.past hbx9
      have Lnx9 := Lnx1d.past hbx9
      have Lcx9 := Lcx1d.past hbx9
      have Tx9 := Tx1d.keep hbx9 (Nat.lt_of_lt_of_le h0 Bx1d.size)
      clear hbx9 zfx1d znx1d zcx1d zax1d Bx1d Lfx1d Lpx1d Lnx1d Lcx1d Tx1d
      have cax90 := rc (i := 0) zax9 rfl
      have cax91 := rc (i := 1) zax9 rfl
      have fax90 := frozen0 (j := 0) zax9
      have fax91 := frozen0 (j := 1) zax9
      have zax9a : ((wx9.setCell ⟨wx1.heap.size, 0, none⟩ (.string (strB (([] : Bs))))).setCell ⟨wx1.heap.size, 1, none⟩ (.string (strB (([] : Bs))))).heap[wx1.heap.size]? = some (.cells #[.string (strB (([] : Bs))), .string (strB (([] : Bs)))] 27) := heap_set2 zax9
      have zfx9a : ((wx9.setCell ⟨wx1.heap.size, 0, none⟩ (.string (strB (([] : Bs))))).setCell ⟨wx1.heap.size, 1, none⟩ (.string (strB (([] : Bs))))).heap[w.heap.size]? = some (.cells #[.int .i64 f.1, .slice af f.2.length cf] 24) := ((gb_set _ (wx1.heap.size) 1 _).block _ (Nat.lt_of_lt_of_le (lt_of_heap zfx9) (gb_set _ (wx1.heap.size) 0 _).size) (fun e => by injection e with e; omega)).trans (((gb_set wx9 (wx1.heap.size) 0 _).block _ (lt_of_heap zfx9) (fun e => by injection e with e; omega)).trans zfx9)
      have znx9a : ((wx9.setCell ⟨wx1.heap.size, 0, none⟩ (.string (strB (([] : Bs))))).setCell ⟨wx1.heap.size, 1, none⟩ (.string (strB (([] : Bs))))).heap[w.heap.size + 1]? = some (.cells #[.int .i64 n.1, .slice an n.2.length cn] 41) := ((gb_set _ (wx1.heap.size) 1 _).block _ (Nat.lt_of_lt_of_le (lt_of_heap znx9) (gb_set _ (wx1.heap.size) 0 _).size) (fun e => by injection e with e; omega)).trans (((gb_set wx9 (wx1.heap.size) 0 _).block _ (lt_of_heap znx9) (fun e => by injection e with e; omega)).trans znx9)
      have zcx9a : ((wx9.setCell ⟨wx1.heap.size, 0, none⟩ (.string (strB (([] : Bs))))).setCell ⟨wx1.heap.size, 1, none⟩ (.string (strB (([] : Bs))))).heap[w.heap.size + 2]? = some (.cells #[.string (strB c.1), .slice ac c.2.1.length cc, .string (strB c.2.2.1), .int .i64 c.2.2.2.1, .string (strB c.2.2.2.2)] 54) := ((gb_set _ (wx1.heap.size) 1 _).block _ (Nat.lt_of_lt_of_le (lt_of_heap zcx9) (gb_set _ (wx1.heap.size) 0 _).size) (fun e => by injection e with e; omega)).trans (((gb_set wx9 (wx1.heap.size) 0 _).block _ (lt_of_heap zcx9) (fun e => by injection e with e; omega)).trans zcx9)
      have Bx9a := (Bx9.setCell (p := ⟨wx1.heap.size, 0, none⟩) (by simp; omega) (.string (strB (([] : Bs))))).setCell (p := ⟨wx1.heap.size, 1, none⟩) (by simp; omega) (.string (strB (([] : Bs))))
      have Lfx9a : Ls ((wx9.setCell ⟨wx1.heap.size, 0, none⟩ (.string (strB (([] : Bs))))).setCell ⟨wx1.heap.size, 1, none⟩ (.string (strB (([] : Bs))))).heap.size ((wx9.setCell ⟨wx1.heap.size, 0, none⟩ (.string (strB (([] : Bs))))).setCell ⟨wx1.heap.size, 1, none⟩ (.string (strB (([] : Bs))))) _ _ _ _ := ((Lf0.keep Bx9a)).up Bx9a.size
      have Lpx9a : Ls ((wx9.setCell ⟨wx1.heap.size, 0, none⟩ (.string (strB (([] : Bs))))).setCell ⟨wx1.heap.size, 1, none⟩ (.string (strB (([] : Bs))))).heap.size ((wx9.setCell ⟨wx1.heap.size, 0, none⟩ (.string (strB (([] : Bs))))).setCell ⟨wx1.heap.size, 1, none⟩ (.string (strB (([] : Bs))))) _ _ _ _ := ((Lp0.keep Bx9a)).up Bx9a.size
      have Lnx9a : Ls ((wx9.setCell ⟨wx1.heap.size, 0, none⟩ (.string (strB (([] : Bs))))).setCell ⟨wx1.heap.size, 1, none⟩ (.string (strB (([] : Bs))))).heap.size ((wx9.setCell ⟨wx1.heap.size, 0, none⟩ (.string (strB (([] : Bs))))).setCell ⟨wx1.heap.size, 1, none⟩ (.string (strB (([] : Bs))))) _ _ _ _ := ((Ln0.keep Bx9a)).up Bx9a.size
      have Lcx9a : Ls ((wx9.setCell ⟨wx1.heap.size, 0, none⟩ (.string (strB (([] : Bs))))).setCell ⟨wx1.heap.size, 1, none⟩ (.string (strB (([] : Bs))))).heap.size ((wx9.setCell ⟨wx1.heap.size, 0, none⟩ (.string (strB (([] : Bs))))).setCell ⟨wx1.heap.size, 1, none⟩ (.string (strB (([] : Bs))))) _ _ _ _ := ((Lc0.keep Bx9a)).up Bx9a.size
      have Tx9a := hT.keep Bx9a h0
      clear zfx9 znx9 zcx9 zax9 Bx9 Lfx9 Lpx9 Lnx9 Lcx9 Tx9
      go_wp2_with fail
      generalize hgx9 : ((wx9.setCell ⟨wx1.heap.size, 0, none⟩ (.string (strB (([] : Bs))))).setCell ⟨wx1.heap.size, 1, none⟩ (.string (strB (([] : Bs))))) = vx9 at *
      have hby : (([] : Bs)).length ≤ 140737488355328 := by simp
      have hK := takeLeaf_any vx9 (([] : Bs)) hby
      unfold LeafSaid at hK
      rw [takenLeaf_nil] at hK
      simp only at hK
      refine hK.mono ?_
      rintro e yx9 ⟨rfl, hb2x9⟩
      clear hK hby hgx9
      clear cax90 cax91 fax90 fax91
      have zfx9b := (hb2x9.block _ (lt_of_heap zfx9a)).trans zfx9a
      have znx9b := (hb2x9.block _ (lt_of_heap znx9a)).trans znx9a
      have zcx9b := (hb2x9.block _ (lt_of_heap zcx9a)).trans zcx9a
      have zax9b := (hb2x9.block _ (lt_of_heap zax9a)).trans zax9a
      have Bx9b := Bx9a.trans (hb2x9.mono Bx9a.size)
      have Lfx9b := Lfx9a.past hb2x9
      have Lpx9b := Lpx9a.past hb2x9
      have Lnx9b := Lnx9a.past hb2x9
      have Lcx9b := Lcx9a.past hb2x9
      have Tx9b := Tx9a.keep hb2x9 (Nat.lt_of_lt_of_le h0 Bx9a.size)
      clear hb2x9 zfx9a znx9a zcx9a zax9a Bx9a Lfx9a Lpx9a Lnx9a Lcx9a Tx9a
      by_cases hok3 : branchOk ltB n = true
      · skip
        have hM := branch_any yx9 n _ Lnx9b Tx9b
        rw [hok3, made_yes] at hM
        generalize sha (66 :: branchB n) = S3 at hM
        have cfx9b0 := rc (i := 0) zfx9b rfl
        have cfx9b1 := rc (i := 1) zfx9b rfl
        have cnx9b0 := rc (i := 0) znx9b rfl
        have cnx9b1 := rc (i := 1) znx9b rfl
        have ccx9b0 := rc (i := 0) zcx9b rfl
        have ccx9b1 := rc (i := 1) zcx9b rfl
        have ccx9b2 := rc (i := 2) zcx9b rfl
        have ccx9b3 := rc (i := 3) zcx9b rfl
        have ccx9b4 := rc (i := 4) zcx9b rfl
        go_wp2_with fail
        refine hM.mono ?_
        rintro e wx10 ⟨rfl, hbx10⟩
        clear hM
        clear cfx9b0 cfx9b1 cnx9b0 cnx9b1 ccx9b0 ccx9b1 ccx9b2 ccx9b3 ccx9b4
        have zfx10 := (hbx10.block _ (lt_of_heap zfx9b)).trans zfx9b
        have znx10 := (hbx10.block _ (lt_of_heap znx9b)).trans znx9b
        have zcx10 := (hbx10.block _ (lt_of_heap zcx9b)).trans zcx9b
        have zax10 := (hbx10.block _ (lt_of_heap zax9b)).trans zax9b
        have Bx10 := Bx9b.trans (hbx10.mono Bx9b.size)
        have Lfx10 := Lfx9b.past hbx10
        have Lpx10 := Lpx9b.past hbx10
        have Lnx10 := Lnx9b.past hbx10
        have Lcx10 := Lcx9b.past hbx10
        have Tx10 := Tx9b.keep hbx10 (Nat.lt_of_lt_of_le h0 Bx9b.size)
        clear hbx10 zfx9b znx9b zcx9b zax9b Bx9b Lfx9b Lpx9b Lnx9b Lcx9b Tx9b
        have cax100 := rc (i := 0) zax10 rfl
        have cax101 := rc (i := 1) zax10 rfl
        have fax100 := frozen0 (j := 0) zax10
        have fax101 := frozen0 (j := 1) zax10
        have zax10a : ((wx10.setCell ⟨wx1.heap.size, 0, none⟩ (.string (strB (S3)))).setCell ⟨wx1.heap.size, 1, none⟩ (.string (strB (66 :: branchB n)))).heap[wx1.heap.size]? = some (.cells #[.string (strB (S3)), .string (strB (66 :: branchB n))] 27) := heap_set2 zax10
        have zfx10a : ((wx10.setCell ⟨wx1.heap.size, 0, none⟩ (.string (strB (S3)))).setCell ⟨wx1.heap.size, 1, none⟩ (.string (strB (66 :: branchB n)))).heap[w.heap.size]? = some (.cells #[.int .i64 f.1, .slice af f.2.length cf] 24) := ((gb_set _ (wx1.heap.size) 1 _).block _ (Nat.lt_of_lt_of_le (lt_of_heap zfx10) (gb_set _ (wx1.heap.size) 0 _).size) (fun e => by injection e with e; omega)).trans (((gb_set wx10 (wx1.heap.size) 0 _).block _ (lt_of_heap zfx10) (fun e => by injection e with e; omega)).trans zfx10)
        have znx10a : ((wx10.setCell ⟨wx1.heap.size, 0, none⟩ (.string (strB (S3)))).setCell ⟨wx1.heap.size, 1, none⟩ (.string (strB (66 :: branchB n)))).heap[w.heap.size + 1]? = some (.cells #[.int .i64 n.1, .slice an n.2.length cn] 41) := ((gb_set _ (wx1.heap.size) 1 _).block _ (Nat.lt_of_lt_of_le (lt_of_heap znx10) (gb_set _ (wx1.heap.size) 0 _).size) (fun e => by injection e with e; omega)).trans (((gb_set wx10 (wx1.heap.size) 0 _).block _ (lt_of_heap znx10) (fun e => by injection e with e; omega)).trans znx10)
        have zcx10a : ((wx10.setCell ⟨wx1.heap.size, 0, none⟩ (.string (strB (S3)))).setCell ⟨wx1.heap.size, 1, none⟩ (.string (strB (66 :: branchB n)))).heap[w.heap.size + 2]? = some (.cells #[.string (strB c.1), .slice ac c.2.1.length cc, .string (strB c.2.2.1), .int .i64 c.2.2.2.1, .string (strB c.2.2.2.2)] 54) := ((gb_set _ (wx1.heap.size) 1 _).block _ (Nat.lt_of_lt_of_le (lt_of_heap zcx10) (gb_set _ (wx1.heap.size) 0 _).size) (fun e => by injection e with e; omega)).trans (((gb_set wx10 (wx1.heap.size) 0 _).block _ (lt_of_heap zcx10) (fun e => by injection e with e; omega)).trans zcx10)
        have Bx10a := (Bx10.setCell (p := ⟨wx1.heap.size, 0, none⟩) (by simp; omega) (.string (strB (S3)))).setCell (p := ⟨wx1.heap.size, 1, none⟩) (by simp; omega) (.string (strB (66 :: branchB n)))
        have Lfx10a : Ls ((wx10.setCell ⟨wx1.heap.size, 0, none⟩ (.string (strB (S3)))).setCell ⟨wx1.heap.size, 1, none⟩ (.string (strB (66 :: branchB n)))).heap.size ((wx10.setCell ⟨wx1.heap.size, 0, none⟩ (.string (strB (S3)))).setCell ⟨wx1.heap.size, 1, none⟩ (.string (strB (66 :: branchB n)))) _ _ _ _ := ((Lf0.keep Bx10a)).up Bx10a.size
        have Lpx10a : Ls ((wx10.setCell ⟨wx1.heap.size, 0, none⟩ (.string (strB (S3)))).setCell ⟨wx1.heap.size, 1, none⟩ (.string (strB (66 :: branchB n)))).heap.size ((wx10.setCell ⟨wx1.heap.size, 0, none⟩ (.string (strB (S3)))).setCell ⟨wx1.heap.size, 1, none⟩ (.string (strB (66 :: branchB n)))) _ _ _ _ := ((Lp0.keep Bx10a)).up Bx10a.size
        have Lnx10a : Ls ((wx10.setCell ⟨wx1.heap.size, 0, none⟩ (.string (strB (S3)))).setCell ⟨wx1.heap.size, 1, none⟩ (.string (strB (66 :: branchB n)))).heap.size ((wx10.setCell ⟨wx1.heap.size, 0, none⟩ (.string (strB (S3)))).setCell ⟨wx1.heap.size, 1, none⟩ (.string (strB (66 :: branchB n)))) _ _ _ _ := ((Ln0.keep Bx10a)).up Bx10a.size
        have Lcx10a : Ls ((wx10.setCell ⟨wx1.heap.size, 0, none⟩ (.string (strB (S3)))).setCell ⟨wx1.heap.size, 1, none⟩ (.string (strB (66 :: branchB n)))).heap.size ((wx10.setCell ⟨wx1.heap.size, 0, none⟩ (.string (strB (S3)))).setCell ⟨wx1.heap.size, 1, none⟩ (.string (strB (66 :: branchB n)))) _ _ _ _ := ((Lc0.keep Bx10a)).up Bx10a.size
        have Tx10a := hT.keep Bx10a h0
        clear zfx10 znx10 zcx10 zax10 Bx10 Lfx10 Lpx10 Lnx10 Lcx10 Tx10
        go_wp2_with fail
        generalize hgx10 : ((wx10.setCell ⟨wx1.heap.size, 0, none⟩ (.string (strB (S3)))).setCell ⟨wx1.heap.size, 1, none⟩ (.string (strB (66 :: branchB n)))) = vx10 at *
        have hby : (66 :: branchB n).length ≤ 140737488355328 := by have := (branchB_le hok3).1; simp only [List.length_cons]; omega
        have hK := takeBranch_any vx10 (66 :: branchB n) hby
        unfold branchSaid at hK
        rw [(takenBranch_iff _ hby n).2 ⟨hok3, rfl⟩] at hK
        simp only at hK
        refine hK.mono ?_
        rintro e yx10 ⟨⟨vvx10, rfl, ownx10⟩, hb2x10⟩
        clear hK hby hgx10
        clear cax100 cax101 fax100 fax101
        have zfx10b := (hb2x10.block _ (lt_of_heap zfx10a)).trans zfx10a
        have znx10b := (hb2x10.block _ (lt_of_heap znx10a)).trans znx10a
        have zcx10b := (hb2x10.block _ (lt_of_heap zcx10a)).trans zcx10a
        have zax10b := (hb2x10.block _ (lt_of_heap zax10a)).trans zax10a
        have Bx10b := Bx10a.trans (hb2x10.mono Bx10a.size)
        have Lfx10b := Lfx10a.past hb2x10
        have Lpx10b := Lpx10a.past hb2x10
        have Lnx10b := Lnx10a.past hb2x10
        have Lcx10b := Lcx10a.past hb2x10
        have Tx10b := Tx10a.keep hb2x10 (Nat.lt_of_lt_of_le h0 Bx10a.size)
        clear hb2x10 zfx10a znx10a zcx10a zax10a Bx10a Lfx10a Lpx10a Lnx10a Lcx10a Tx10a
        obtain ⟨ag, cg, rfl, -⟩ := own_form ownx10
        have lvx10 := ls_of_own linkC_length ownx10
        have hq2x10 : Below yx10.heap.size yx10 (yx10.alloc (.cells #[.int .i64 n.1, .slice ag n.2.length cg] 41)) := (Below.refl _ _).alloc (Nat.le_refl _) _
        have zgx10 := heap_last yx10 (.cells #[.int .i64 n.1, .slice ag n.2.length cg] 41) _ rfl
        have lwx10 := lvx10.past hq2x10
        clear lvx10
        have zfx10c := (hq2x10.block _ (lt_of_heap zfx10b)).trans zfx10b
        have znx10c := (hq2x10.block _ (lt_of_heap znx10b)).trans znx10b
        have zcx10c := (hq2x10.block _ (lt_of_heap zcx10b)).trans zcx10b
        have zax10c := (hq2x10.block _ (lt_of_heap zax10b)).trans zax10b
        have Bx10c := Bx10b.trans (hq2x10.mono Bx10b.size)
        have Lfx10c := Lfx10b.past hq2x10
        have Lpx10c := Lpx10b.past hq2x10
        have Lnx10c := Lnx10b.past hq2x10
        have Lcx10c := Lcx10b.past hq2x10
        have Tx10c := Tx10b.keep hq2x10 (Nat.lt_of_lt_of_le h0 Bx10b.size)
        clear hq2x10 zfx10b znx10b zcx10b zax10b Bx10b Lfx10b Lpx10b Lnx10b Lcx10b Tx10b
        have hE := sameBranch_any (yx10.alloc (.cells #[.int .i64 n.1, .slice ag n.2.length cg] 41)) n.1 n.1 n.2 n.2 _ _ lwx10 Lnx10c
        rw [decide_eq_true (rfl : (n.1, n.2) = (n.1, n.2))] at hE
        clear ownx10 lwx10
        have cfx10c0 := rc (i := 0) zfx10c rfl
        have cfx10c1 := rc (i := 1) zfx10c rfl
        have cnx10c0 := rc (i := 0) znx10c rfl
        have cnx10c1 := rc (i := 1) znx10c rfl
        have ccx10c0 := rc (i := 0) zcx10c rfl
        have ccx10c1 := rc (i := 1) zcx10c rfl
        have ccx10c2 := rc (i := 2) zcx10c rfl
        have ccx10c3 := rc (i := 3) zcx10c rfl
        have ccx10c4 := rc (i := 4) zcx10c rfl
        go_wp2_with fail
        generalize hg2x10 : (yx10.alloc (.cells #[.int .i64 n.1, .slice ag n.2.length cg] 41)) = zx10 at *
        refine hE.mono ?_
        rintro e tx10 ⟨rfl, hb3x10⟩
        clear hE
        clear cfx10c0 cfx10c1 cnx10c0 cnx10c1 ccx10c0 ccx10c1 ccx10c2 ccx10c3 ccx10c4
        have zfx10d := (hb3x10.block _ (lt_of_heap zfx10c)).trans zfx10c
        have znx10d := (hb3x10.block _ (lt_of_heap znx10c)).trans znx10c
        have zcx10d := (hb3x10.block _ (lt_of_heap zcx10c)).trans zcx10c
        have zax10d := (hb3x10.block _ (lt_of_heap zax10c)).trans zax10c
        have Bx10d := Bx10c.trans (hb3x10.mono Bx10c.size)
        have Lfx10d := Lfx10c.past hb3x10
        have Lpx10d := Lpx10c.past hb3x10
        have Lnx10d := Lnx10c.past hb3x10
        have Lcx10d := Lcx10c.past hb3x10
        have Tx10d := Tx10c.keep hb3x10 (Nat.lt_of_lt_of_le h0 Bx10c.size)
        clear hb3x10 zfx10c znx10c zcx10c zax10c Bx10c Lfx10c Lpx10c Lnx10c Lcx10c Tx10c
        clear zgx10 hg2x10
        by_cases hok4 : commitOk c = true
        · skip
          have hM := commit_any tx10 c _ Lcx10d Tx10d
          rw [hok4, made_yes] at hM
          generalize sha (75 :: commitB c) = S4 at hM
          have cfx10d0 := rc (i := 0) zfx10d rfl
          have cfx10d1 := rc (i := 1) zfx10d rfl
          have cnx10d0 := rc (i := 0) znx10d rfl
          have cnx10d1 := rc (i := 1) znx10d rfl
          have ccx10d0 := rc (i := 0) zcx10d rfl
          have ccx10d1 := rc (i := 1) zcx10d rfl
          have ccx10d2 := rc (i := 2) zcx10d rfl
          have ccx10d3 := rc (i := 3) zcx10d rfl
          have ccx10d4 := rc (i := 4) zcx10d rfl
          go_wp2_with fail
          refine hM.mono ?_
          rintro e wx11 ⟨rfl, hbx11⟩
          clear hM
          clear cfx10d0 cfx10d1 cnx10d0 cnx10d1 ccx10d0 ccx10d1 ccx10d2 ccx10d3 ccx10d4
          have zfx11 := (hbx11.block _ (lt_of_heap zfx10d)).trans zfx10d
          have znx11 := (hbx11.block _ (lt_of_heap znx10d)).trans znx10d
          have zcx11 := (hbx11.block _ (lt_of_heap zcx10d)).trans zcx10d
          have zax11 := (hbx11.block _ (lt_of_heap zax10d)).trans zax10d
          have Bx11 := Bx10d.trans (hbx11.mono Bx10d.size)
          have Lfx11 := Lfx10d.past hbx11
          have Lpx11 := Lpx10d.past hbx11
          have Lnx11 := Lnx10d.past hbx11
          have Lcx11 := Lcx10d.past hbx11
          have Tx11 := Tx10d.keep hbx11 (Nat.lt_of_lt_of_le h0 Bx10d.size)
          clear hbx11 zfx10d znx10d zcx10d zax10d Bx10d Lfx10d Lpx10d Lnx10d Lcx10d Tx10d
          have cax110 := rc (i := 0) zax11 rfl
          have cax111 := rc (i := 1) zax11 rfl
          have fax110 := frozen0 (j := 0) zax11
          have fax111 := frozen0 (j := 1) zax11
          have zax11a : ((wx11.setCell ⟨wx1.heap.size, 0, none⟩ (.string (strB (S4)))).setCell ⟨wx1.heap.size, 1, none⟩ (.string (strB (75 :: commitB c)))).heap[wx1.heap.size]? = some (.cells #[.string (strB (S4)), .string (strB (75 :: commitB c))] 27) := heap_set2 zax11
          have zfx11a : ((wx11.setCell ⟨wx1.heap.size, 0, none⟩ (.string (strB (S4)))).setCell ⟨wx1.heap.size, 1, none⟩ (.string (strB (75 :: commitB c)))).heap[w.heap.size]? = some (.cells #[.int .i64 f.1, .slice af f.2.length cf] 24) := ((gb_set _ (wx1.heap.size) 1 _).block _ (Nat.lt_of_lt_of_le (lt_of_heap zfx11) (gb_set _ (wx1.heap.size) 0 _).size) (fun e => by injection e with e; omega)).trans (((gb_set wx11 (wx1.heap.size) 0 _).block _ (lt_of_heap zfx11) (fun e => by injection e with e; omega)).trans zfx11)
          have znx11a : ((wx11.setCell ⟨wx1.heap.size, 0, none⟩ (.string (strB (S4)))).setCell ⟨wx1.heap.size, 1, none⟩ (.string (strB (75 :: commitB c)))).heap[w.heap.size + 1]? = some (.cells #[.int .i64 n.1, .slice an n.2.length cn] 41) := ((gb_set _ (wx1.heap.size) 1 _).block _ (Nat.lt_of_lt_of_le (lt_of_heap znx11) (gb_set _ (wx1.heap.size) 0 _).size) (fun e => by injection e with e; omega)).trans (((gb_set wx11 (wx1.heap.size) 0 _).block _ (lt_of_heap znx11) (fun e => by injection e with e; omega)).trans znx11)
          have zcx11a : ((wx11.setCell ⟨wx1.heap.size, 0, none⟩ (.string (strB (S4)))).setCell ⟨wx1.heap.size, 1, none⟩ (.string (strB (75 :: commitB c)))).heap[w.heap.size + 2]? = some (.cells #[.string (strB c.1), .slice ac c.2.1.length cc, .string (strB c.2.2.1), .int .i64 c.2.2.2.1, .string (strB c.2.2.2.2)] 54) := ((gb_set _ (wx1.heap.size) 1 _).block _ (Nat.lt_of_lt_of_le (lt_of_heap zcx11) (gb_set _ (wx1.heap.size) 0 _).size) (fun e => by injection e with e; omega)).trans (((gb_set wx11 (wx1.heap.size) 0 _).block _ (lt_of_heap zcx11) (fun e => by injection e with e; omega)).trans zcx11)
          have Bx11a := (Bx11.setCell (p := ⟨wx1.heap.size, 0, none⟩) (by simp; omega) (.string (strB (S4)))).setCell (p := ⟨wx1.heap.size, 1, none⟩) (by simp; omega) (.string (strB (75 :: commitB c)))
          have Lfx11a : Ls ((wx11.setCell ⟨wx1.heap.size, 0, none⟩ (.string (strB (S4)))).setCell ⟨wx1.heap.size, 1, none⟩ (.string (strB (75 :: commitB c)))).heap.size ((wx11.setCell ⟨wx1.heap.size, 0, none⟩ (.string (strB (S4)))).setCell ⟨wx1.heap.size, 1, none⟩ (.string (strB (75 :: commitB c)))) _ _ _ _ := ((Lf0.keep Bx11a)).up Bx11a.size
          have Lpx11a : Ls ((wx11.setCell ⟨wx1.heap.size, 0, none⟩ (.string (strB (S4)))).setCell ⟨wx1.heap.size, 1, none⟩ (.string (strB (75 :: commitB c)))).heap.size ((wx11.setCell ⟨wx1.heap.size, 0, none⟩ (.string (strB (S4)))).setCell ⟨wx1.heap.size, 1, none⟩ (.string (strB (75 :: commitB c)))) _ _ _ _ := ((Lp0.keep Bx11a)).up Bx11a.size
          have Lnx11a : Ls ((wx11.setCell ⟨wx1.heap.size, 0, none⟩ (.string (strB (S4)))).setCell ⟨wx1.heap.size, 1, none⟩ (.string (strB (75 :: commitB c)))).heap.size ((wx11.setCell ⟨wx1.heap.size, 0, none⟩ (.string (strB (S4)))).setCell ⟨wx1.heap.size, 1, none⟩ (.string (strB (75 :: commitB c)))) _ _ _ _ := ((Ln0.keep Bx11a)).up Bx11a.size
          have Lcx11a : Ls ((wx11.setCell ⟨wx1.heap.size, 0, none⟩ (.string (strB (S4)))).setCell ⟨wx1.heap.size, 1, none⟩ (.string (strB (75 :: commitB c)))).heap.size ((wx11.setCell ⟨wx1.heap.size, 0, none⟩ (.string (strB (S4)))).setCell ⟨wx1.heap.size, 1, none⟩ (.string (strB (75 :: commitB c)))) _ _ _ _ := ((Lc0.keep Bx11a)).up Bx11a.size
          have Tx11a := hT.keep Bx11a h0
          clear zfx11 znx11 zcx11 zax11 Bx11 Lfx11 Lpx11 Lnx11 Lcx11 Tx11
          go_wp2_with fail
          generalize hgx11 : ((wx11.setCell ⟨wx1.heap.size, 0, none⟩ (.string (strB (S4)))).setCell ⟨wx1.heap.size, 1, none⟩ (.string (strB (75 :: commitB c)))) = vx11 at *
          have hby : (75 :: commitB c).length ≤ 140737488355328 := by have := (commitB_le hok4).1; simp only [List.length_cons]; omega
          have hK := takeCommit_any vx11 (75 :: commitB c) hby
          unfold commitSaid at hK
          rw [(takenCommit_iff _ hby c).2 ⟨hok4, rfl⟩] at hK
          simp only at hK
          refine hK.mono ?_
          rintro e yx11 ⟨⟨vvx11, rfl, ownx11⟩, hb2x11⟩
          clear hK hby hgx11
          clear cax110 cax111 fax110 fax111
          have zfx11b := (hb2x11.block _ (lt_of_heap zfx11a)).trans zfx11a
          have znx11b := (hb2x11.block _ (lt_of_heap znx11a)).trans znx11a
          have zcx11b := (hb2x11.block _ (lt_of_heap zcx11a)).trans zcx11a
          have zax11b := (hb2x11.block _ (lt_of_heap zax11a)).trans zax11a
          have Bx11b := Bx11a.trans (hb2x11.mono Bx11a.size)
          have Lfx11b := Lfx11a.past hb2x11
          have Lpx11b := Lpx11a.past hb2x11
          have Lnx11b := Lnx11a.past hb2x11
          have Lcx11b := Lcx11a.past hb2x11
          have Tx11b := Tx11a.keep hb2x11 (Nat.lt_of_lt_of_le h0 Bx11a.size)
          clear hb2x11 zfx11a znx11a zcx11a zax11a Bx11a Lfx11a Lpx11a Lnx11a Lcx11a Tx11a
          obtain ⟨ag, cg, rfl, -⟩ := own_form ownx11
          have lvx11 := ls_of_own idC_length ownx11
          have hq2x11 : Below yx11.heap.size yx11 (yx11.alloc (.cells #[.string (strB c.1), .slice ag c.2.1.length cg, .string (strB c.2.2.1), .int .i64 c.2.2.2.1, .string (strB c.2.2.2.2)] 54)) := (Below.refl _ _).alloc (Nat.le_refl _) _
          have zgx11 := heap_last yx11 (.cells #[.string (strB c.1), .slice ag c.2.1.length cg, .string (strB c.2.2.1), .int .i64 c.2.2.2.1, .string (strB c.2.2.2.2)] 54) _ rfl
          have lwx11 := lvx11.past hq2x11
          clear lvx11
          have zfx11c := (hq2x11.block _ (lt_of_heap zfx11b)).trans zfx11b
          have znx11c := (hq2x11.block _ (lt_of_heap znx11b)).trans znx11b
          have zcx11c := (hq2x11.block _ (lt_of_heap zcx11b)).trans zcx11b
          have zax11c := (hq2x11.block _ (lt_of_heap zax11b)).trans zax11b
          have Bx11c := Bx11b.trans (hq2x11.mono Bx11b.size)
          have Lfx11c := Lfx11b.past hq2x11
          have Lpx11c := Lpx11b.past hq2x11
          have Lnx11c := Lnx11b.past hq2x11
          have Lcx11c := Lcx11b.past hq2x11
          have Tx11c := Tx11b.keep hq2x11 (Nat.lt_of_lt_of_le h0 Bx11b.size)
          clear hq2x11 zfx11b znx11b zcx11b zax11b Bx11b Lfx11b Lpx11b Lnx11b Lcx11b Tx11b
          have hE := sameCommit_any (yx11.alloc (.cells #[.string (strB c.1), .slice ag c.2.1.length cg, .string (strB c.2.2.1), .int .i64 c.2.2.2.1, .string (strB c.2.2.2.2)] 54)) c c _ _ Lcx11c lwx11
          rw [decide_eq_true (rfl : c = c)] at hE
          clear ownx11 lwx11
          have cfx11c0 := rc (i := 0) zfx11c rfl
          have cfx11c1 := rc (i := 1) zfx11c rfl
          have cnx11c0 := rc (i := 0) znx11c rfl
          have cnx11c1 := rc (i := 1) znx11c rfl
          have ccx11c0 := rc (i := 0) zcx11c rfl
          have ccx11c1 := rc (i := 1) zcx11c rfl
          have ccx11c2 := rc (i := 2) zcx11c rfl
          have ccx11c3 := rc (i := 3) zcx11c rfl
          have ccx11c4 := rc (i := 4) zcx11c rfl
          go_wp2_with fail
          generalize hg2x11 : (yx11.alloc (.cells #[.string (strB c.1), .slice ag c.2.1.length cg, .string (strB c.2.2.1), .int .i64 c.2.2.2.1, .string (strB c.2.2.2.2)] 54)) = zx11 at *
          refine hE.mono ?_
          rintro e tx11 ⟨rfl, hb3x11⟩
          clear hE
          clear cfx11c0 cfx11c1 cnx11c0 cnx11c1 ccx11c0 ccx11c1 ccx11c2 ccx11c3 ccx11c4
          have zfx11d := (hb3x11.block _ (lt_of_heap zfx11c)).trans zfx11c
          have znx11d := (hb3x11.block _ (lt_of_heap znx11c)).trans znx11c
          have zcx11d := (hb3x11.block _ (lt_of_heap zcx11c)).trans zcx11c
          have zax11d := (hb3x11.block _ (lt_of_heap zax11c)).trans zax11c
          have Bx11d := Bx11c.trans (hb3x11.mono Bx11c.size)
          have Lfx11d := Lfx11c.past hb3x11
          have Lpx11d := Lpx11c.past hb3x11
          have Lnx11d := Lnx11c.past hb3x11
          have Lcx11d := Lcx11c.past hb3x11
          have Tx11d := Tx11c.keep hb3x11 (Nat.lt_of_lt_of_le h0 Bx11c.size)
          clear hb3x11 zfx11c znx11c zcx11c zax11c Bx11c Lfx11c Lpx11c Lnx11c Lcx11c Tx11c
          clear zgx11 hg2x11
          go_wp2
          go_ret
          exact ⟨ret_bool (by first | rfl | simp), Bx11d⟩
        · have hok4 := Bool.eq_false_iff.2 hok4
          have hM := commit_any tx10 c _ Lcx10d Tx10d
          rw [hok4, made_no] at hM
          have cfx10d0 := rc (i := 0) zfx10d rfl
          have cfx10d1 := rc (i := 1) zfx10d rfl
          have cnx10d0 := rc (i := 0) znx10d rfl
          have cnx10d1 := rc (i := 1) znx10d rfl
          have ccx10d0 := rc (i := 0) zcx10d rfl
          have ccx10d1 := rc (i := 1) zcx10d rfl
          have ccx10d2 := rc (i := 2) zcx10d rfl
          have ccx10d3 := rc (i := 3) zcx10d rfl
          have ccx10d4 := rc (i := 4) zcx10d rfl
          go_wp2_with fail
          refine hM.mono ?_
          rintro e wx12 ⟨rfl, hbx12⟩
          clear hM
          clear cfx10d0 cfx10d1 cnx10d0 cnx10d1 ccx10d0 ccx10d1 ccx10d2 ccx10d3 ccx10d4
          have zfx12 := (hbx12.block _ (lt_of_heap zfx10d)).trans zfx10d
          have znx12 := (hbx12.block _ (lt_of_heap znx10d)).trans znx10d
          have zcx12 := (hbx12.block _ (lt_of_heap zcx10d)).trans zcx10d
          have zax12 := (hbx12.block _ (lt_of_heap zax10d)).trans zax10d
          have Bx12 := Bx10d.trans (hbx12.mono Bx10d.size)
          have Lfx12 := Lfx10d.past hbx12
          have Lpx12 := Lpx10d.past hbx12
          have Lnx12 := Lnx10d.past hbx12
          have Lcx12 := Lcx10d.past hbx12
          have Tx12 := Tx10d.keep hbx12 (Nat.lt_of_lt_of_le h0 Bx10d.size)
          clear hbx12 zfx10d znx10d zcx10d zax10d Bx10d Lfx10d Lpx10d Lnx10d Lcx10d Tx10d
          have cax120 := rc (i := 0) zax12 rfl
          have cax121 := rc (i := 1) zax12 rfl
          have fax120 := frozen0 (j := 0) zax12
          have fax121 := frozen0 (j := 1) zax12
          have zax12a : ((wx12.setCell ⟨wx1.heap.size, 0, none⟩ (.string (strB (([] : Bs))))).setCell ⟨wx1.heap.size, 1, none⟩ (.string (strB (([] : Bs))))).heap[wx1.heap.size]? = some (.cells #[.string (strB (([] : Bs))), .string (strB (([] : Bs)))] 27) := heap_set2 zax12
          have zfx12a : ((wx12.setCell ⟨wx1.heap.size, 0, none⟩ (.string (strB (([] : Bs))))).setCell ⟨wx1.heap.size, 1, none⟩ (.string (strB (([] : Bs))))).heap[w.heap.size]? = some (.cells #[.int .i64 f.1, .slice af f.2.length cf] 24) := ((gb_set _ (wx1.heap.size) 1 _).block _ (Nat.lt_of_lt_of_le (lt_of_heap zfx12) (gb_set _ (wx1.heap.size) 0 _).size) (fun e => by injection e with e; omega)).trans (((gb_set wx12 (wx1.heap.size) 0 _).block _ (lt_of_heap zfx12) (fun e => by injection e with e; omega)).trans zfx12)
          have znx12a : ((wx12.setCell ⟨wx1.heap.size, 0, none⟩ (.string (strB (([] : Bs))))).setCell ⟨wx1.heap.size, 1, none⟩ (.string (strB (([] : Bs))))).heap[w.heap.size + 1]? = some (.cells #[.int .i64 n.1, .slice an n.2.length cn] 41) := ((gb_set _ (wx1.heap.size) 1 _).block _ (Nat.lt_of_lt_of_le (lt_of_heap znx12) (gb_set _ (wx1.heap.size) 0 _).size) (fun e => by injection e with e; omega)).trans (((gb_set wx12 (wx1.heap.size) 0 _).block _ (lt_of_heap znx12) (fun e => by injection e with e; omega)).trans znx12)
          have zcx12a : ((wx12.setCell ⟨wx1.heap.size, 0, none⟩ (.string (strB (([] : Bs))))).setCell ⟨wx1.heap.size, 1, none⟩ (.string (strB (([] : Bs))))).heap[w.heap.size + 2]? = some (.cells #[.string (strB c.1), .slice ac c.2.1.length cc, .string (strB c.2.2.1), .int .i64 c.2.2.2.1, .string (strB c.2.2.2.2)] 54) := ((gb_set _ (wx1.heap.size) 1 _).block _ (Nat.lt_of_lt_of_le (lt_of_heap zcx12) (gb_set _ (wx1.heap.size) 0 _).size) (fun e => by injection e with e; omega)).trans (((gb_set wx12 (wx1.heap.size) 0 _).block _ (lt_of_heap zcx12) (fun e => by injection e with e; omega)).trans zcx12)
          have Bx12a := (Bx12.setCell (p := ⟨wx1.heap.size, 0, none⟩) (by simp; omega) (.string (strB (([] : Bs))))).setCell (p := ⟨wx1.heap.size, 1, none⟩) (by simp; omega) (.string (strB (([] : Bs))))
          have Lfx12a : Ls ((wx12.setCell ⟨wx1.heap.size, 0, none⟩ (.string (strB (([] : Bs))))).setCell ⟨wx1.heap.size, 1, none⟩ (.string (strB (([] : Bs))))).heap.size ((wx12.setCell ⟨wx1.heap.size, 0, none⟩ (.string (strB (([] : Bs))))).setCell ⟨wx1.heap.size, 1, none⟩ (.string (strB (([] : Bs))))) _ _ _ _ := ((Lf0.keep Bx12a)).up Bx12a.size
          have Lpx12a : Ls ((wx12.setCell ⟨wx1.heap.size, 0, none⟩ (.string (strB (([] : Bs))))).setCell ⟨wx1.heap.size, 1, none⟩ (.string (strB (([] : Bs))))).heap.size ((wx12.setCell ⟨wx1.heap.size, 0, none⟩ (.string (strB (([] : Bs))))).setCell ⟨wx1.heap.size, 1, none⟩ (.string (strB (([] : Bs))))) _ _ _ _ := ((Lp0.keep Bx12a)).up Bx12a.size
          have Lnx12a : Ls ((wx12.setCell ⟨wx1.heap.size, 0, none⟩ (.string (strB (([] : Bs))))).setCell ⟨wx1.heap.size, 1, none⟩ (.string (strB (([] : Bs))))).heap.size ((wx12.setCell ⟨wx1.heap.size, 0, none⟩ (.string (strB (([] : Bs))))).setCell ⟨wx1.heap.size, 1, none⟩ (.string (strB (([] : Bs))))) _ _ _ _ := ((Ln0.keep Bx12a)).up Bx12a.size
          have Lcx12a : Ls ((wx12.setCell ⟨wx1.heap.size, 0, none⟩ (.string (strB (([] : Bs))))).setCell ⟨wx1.heap.size, 1, none⟩ (.string (strB (([] : Bs))))).heap.size ((wx12.setCell ⟨wx1.heap.size, 0, none⟩ (.string (strB (([] : Bs))))).setCell ⟨wx1.heap.size, 1, none⟩ (.string (strB (([] : Bs))))) _ _ _ _ := ((Lc0.keep Bx12a)).up Bx12a.size
          have Tx12a := hT.keep Bx12a h0
          clear zfx12 znx12 zcx12 zax12 Bx12 Lfx12 Lpx12 Lnx12 Lcx12 Tx12
          go_wp2_with fail
          generalize hgx12 : ((wx12.setCell ⟨wx1.heap.size, 0, none⟩ (.string (strB (([] : Bs))))).setCell ⟨wx1.heap.size, 1, none⟩ (.string (strB (([] : Bs))))) = vx12 at *
          have hby : (([] : Bs)).length ≤ 140737488355328 := by simp
          have hK := takeCommit_any vx12 (([] : Bs)) hby
          unfold commitSaid at hK
          rw [takenCommit_nil] at hK
          simp only at hK
          refine hK.mono ?_
          rintro e yx12 ⟨rfl, hb2x12⟩
          clear hK hby hgx12
          clear cax120 cax121 fax120 fax121
          have zfx12b := (hb2x12.block _ (lt_of_heap zfx12a)).trans zfx12a
          have znx12b := (hb2x12.block _ (lt_of_heap znx12a)).trans znx12a
          have zcx12b := (hb2x12.block _ (lt_of_heap zcx12a)).trans zcx12a
          have zax12b := (hb2x12.block _ (lt_of_heap zax12a)).trans zax12a
          have Bx12b := Bx12a.trans (hb2x12.mono Bx12a.size)
          have Lfx12b := Lfx12a.past hb2x12
          have Lpx12b := Lpx12a.past hb2x12
          have Lnx12b := Lnx12a.past hb2x12
          have Lcx12b := Lcx12a.past hb2x12
          have Tx12b := Tx12a.keep hb2x12 (Nat.lt_of_lt_of_le h0 Bx12a.size)
          clear hb2x12 zfx12a znx12a zcx12a zax12a Bx12a Lfx12a Lpx12a Lnx12a Lcx12a Tx12a
          have hq2x12 : Below yx12.heap.size yx12 (yx12.alloc (.cells #[.string ⟨#[]⟩, .slice none 0 0, .string ⟨#[]⟩, .int .i64 0, .string ⟨#[]⟩] 54)) := (Below.refl _ _).alloc (Nat.le_refl _) _
          have zgx12 := heap_last yx12 (.cells #[.string ⟨#[]⟩, .slice none 0 0, .string ⟨#[]⟩, .int .i64 0, .string ⟨#[]⟩] 54) _ rfl
          have zfx12c := (hq2x12.block _ (lt_of_heap zfx12b)).trans zfx12b
          have znx12c := (hq2x12.block _ (lt_of_heap znx12b)).trans znx12b
          have zcx12c := (hq2x12.block _ (lt_of_heap zcx12b)).trans zcx12b
          have zax12c := (hq2x12.block _ (lt_of_heap zax12b)).trans zax12b
          have Bx12c := Bx12b.trans (hq2x12.mono Bx12b.size)
          have Lfx12c := Lfx12b.past hq2x12
          have Lpx12c := Lpx12b.past hq2x12
          have Lnx12c := Lnx12b.past hq2x12
          have Lcx12c := Lcx12b.past hq2x12
          have Tx12c := Tx12b.keep hq2x12 (Nat.lt_of_lt_of_le h0 Bx12b.size)
          clear hq2x12 zfx12b znx12b zcx12b zax12b Bx12b Lfx12b Lpx12b Lnx12b Lcx12b Tx12b
          go_wp2
          go_ret
          exact ⟨ret_bool (by first | rfl | simp), Bx12c⟩
      · have hok3 := Bool.eq_false_iff.2 hok3
        have hM := branch_any yx9 n _ Lnx9b Tx9b
        rw [hok3, made_no] at hM
        have cfx9b0 := rc (i := 0) zfx9b rfl
        have cfx9b1 := rc (i := 1) zfx9b rfl
        have cnx9b0 := rc (i := 0) znx9b rfl
        have cnx9b1 := rc (i := 1) znx9b rfl
        have ccx9b0 := rc (i := 0) zcx9b rfl
        have ccx9b1 := rc (i := 1) zcx9b rfl
        have ccx9b2 := rc (i := 2) zcx9b rfl
        have ccx9b3 := rc (i := 3) zcx9b rfl
        have ccx9b4 := rc (i := 4) zcx9b rfl
        go_wp2_with fail
        refine hM.mono ?_
        rintro e wx13 ⟨rfl, hbx13⟩
        clear hM
        clear cfx9b0 cfx9b1 cnx9b0 cnx9b1 ccx9b0 ccx9b1 ccx9b2 ccx9b3 ccx9b4
        have zfx13 := (hbx13.block _ (lt_of_heap zfx9b)).trans zfx9b
        have znx13 := (hbx13.block _ (lt_of_heap znx9b)).trans znx9b
        have zcx13 := (hbx13.block _ (lt_of_heap zcx9b)).trans zcx9b
        have zax13 := (hbx13.block _ (lt_of_heap zax9b)).trans zax9b
        have Bx13 := Bx9b.trans (hbx13.mono Bx9b.size)
        have Lfx13 := Lfx9b.past hbx13
        have Lpx13 := Lpx9b.past hbx13
        have Lnx13 := Lnx9b.past hbx13
        have Lcx13 := Lcx9b.past hbx13
        have Tx13 := Tx9b.keep hbx13 (Nat.lt_of_lt_of_le h0 Bx9b.size)
        clear hbx13 zfx9b znx9b zcx9b zax9b Bx9b Lfx9b Lpx9b Lnx9b Lcx9b Tx9b
        have cax130 := rc (i := 0) zax13 rfl
        have cax131 := rc (i := 1) zax13 rfl
        have fax130 := frozen0 (j := 0) zax13
        have fax131 := frozen0 (j := 1) zax13
        have zax13a : ((wx13.setCell ⟨wx1.heap.size, 0, none⟩ (.string (strB (([] : Bs))))).setCell ⟨wx1.heap.size, 1, none⟩ (.string (strB (([] : Bs))))).heap[wx1.heap.size]? = some (.cells #[.string (strB (([] : Bs))), .string (strB (([] : Bs)))] 27) := heap_set2 zax13
        have zfx13a : ((wx13.setCell ⟨wx1.heap.size, 0, none⟩ (.string (strB (([] : Bs))))).setCell ⟨wx1.heap.size, 1, none⟩ (.string (strB (([] : Bs))))).heap[w.heap.size]? = some (.cells #[.int .i64 f.1, .slice af f.2.length cf] 24) := ((gb_set _ (wx1.heap.size) 1 _).block _ (Nat.lt_of_lt_of_le (lt_of_heap zfx13) (gb_set _ (wx1.heap.size) 0 _).size) (fun e => by injection e with e; omega)).trans (((gb_set wx13 (wx1.heap.size) 0 _).block _ (lt_of_heap zfx13) (fun e => by injection e with e; omega)).trans zfx13)
        have znx13a : ((wx13.setCell ⟨wx1.heap.size, 0, none⟩ (.string (strB (([] : Bs))))).setCell ⟨wx1.heap.size, 1, none⟩ (.string (strB (([] : Bs))))).heap[w.heap.size + 1]? = some (.cells #[.int .i64 n.1, .slice an n.2.length cn] 41) := ((gb_set _ (wx1.heap.size) 1 _).block _ (Nat.lt_of_lt_of_le (lt_of_heap znx13) (gb_set _ (wx1.heap.size) 0 _).size) (fun e => by injection e with e; omega)).trans (((gb_set wx13 (wx1.heap.size) 0 _).block _ (lt_of_heap znx13) (fun e => by injection e with e; omega)).trans znx13)
        have zcx13a : ((wx13.setCell ⟨wx1.heap.size, 0, none⟩ (.string (strB (([] : Bs))))).setCell ⟨wx1.heap.size, 1, none⟩ (.string (strB (([] : Bs))))).heap[w.heap.size + 2]? = some (.cells #[.string (strB c.1), .slice ac c.2.1.length cc, .string (strB c.2.2.1), .int .i64 c.2.2.2.1, .string (strB c.2.2.2.2)] 54) := ((gb_set _ (wx1.heap.size) 1 _).block _ (Nat.lt_of_lt_of_le (lt_of_heap zcx13) (gb_set _ (wx1.heap.size) 0 _).size) (fun e => by injection e with e; omega)).trans (((gb_set wx13 (wx1.heap.size) 0 _).block _ (lt_of_heap zcx13) (fun e => by injection e with e; omega)).trans zcx13)
        have Bx13a := (Bx13.setCell (p := ⟨wx1.heap.size, 0, none⟩) (by simp; omega) (.string (strB (([] : Bs))))).setCell (p := ⟨wx1.heap.size, 1, none⟩) (by simp; omega) (.string (strB (([] : Bs))))
        have Lfx13a : Ls ((wx13.setCell ⟨wx1.heap.size, 0, none⟩ (.string (strB (([] : Bs))))).setCell ⟨wx1.heap.size, 1, none⟩ (.string (strB (([] : Bs))))).heap.size ((wx13.setCell ⟨wx1.heap.size, 0, none⟩ (.string (strB (([] : Bs))))).setCell ⟨wx1.heap.size, 1, none⟩ (.string (strB (([] : Bs))))) _ _ _ _ := ((Lf0.keep Bx13a)).up Bx13a.size
        have Lpx13a : Ls ((wx13.setCell ⟨wx1.heap.size, 0, none⟩ (.string (strB (([] : Bs))))).setCell ⟨wx1.heap.size, 1, none⟩ (.string (strB (([] : Bs))))).heap.size ((wx13.setCell ⟨wx1.heap.size, 0, none⟩ (.string (strB (([] : Bs))))).setCell ⟨wx1.heap.size, 1, none⟩ (.string (strB (([] : Bs))))) _ _ _ _ := ((Lp0.keep Bx13a)).up Bx13a.size
        have Lnx13a : Ls ((wx13.setCell ⟨wx1.heap.size, 0, none⟩ (.string (strB (([] : Bs))))).setCell ⟨wx1.heap.size, 1, none⟩ (.string (strB (([] : Bs))))).heap.size ((wx13.setCell ⟨wx1.heap.size, 0, none⟩ (.string (strB (([] : Bs))))).setCell ⟨wx1.heap.size, 1, none⟩ (.string (strB (([] : Bs))))) _ _ _ _ := ((Ln0.keep Bx13a)).up Bx13a.size
        have Lcx13a : Ls ((wx13.setCell ⟨wx1.heap.size, 0, none⟩ (.string (strB (([] : Bs))))).setCell ⟨wx1.heap.size, 1, none⟩ (.string (strB (([] : Bs))))).heap.size ((wx13.setCell ⟨wx1.heap.size, 0, none⟩ (.string (strB (([] : Bs))))).setCell ⟨wx1.heap.size, 1, none⟩ (.string (strB (([] : Bs))))) _ _ _ _ := ((Lc0.keep Bx13a)).up Bx13a.size
        have Tx13a := hT.keep Bx13a h0
        clear zfx13 znx13 zcx13 zax13 Bx13 Lfx13 Lpx13 Lnx13 Lcx13 Tx13
        go_wp2_with fail
        generalize hgx13 : ((wx13.setCell ⟨wx1.heap.size, 0, none⟩ (.string (strB (([] : Bs))))).setCell ⟨wx1.heap.size, 1, none⟩ (.string (strB (([] : Bs))))) = vx13 at *
        have hby : (([] : Bs)).length ≤ 140737488355328 := by simp
        have hK := takeBranch_any vx13 (([] : Bs)) hby
        unfold branchSaid at hK
        rw [takenBranch_nil] at hK
        simp only at hK
        refine hK.mono ?_
        rintro e yx13 ⟨rfl, hb2x13⟩
        clear hK hby hgx13
        clear cax130 cax131 fax130 fax131
        have zfx13b := (hb2x13.block _ (lt_of_heap zfx13a)).trans zfx13a
        have znx13b := (hb2x13.block _ (lt_of_heap znx13a)).trans znx13a
        have zcx13b := (hb2x13.block _ (lt_of_heap zcx13a)).trans zcx13a
        have zax13b := (hb2x13.block _ (lt_of_heap zax13a)).trans zax13a
        have Bx13b := Bx13a.trans (hb2x13.mono Bx13a.size)
        have Lfx13b := Lfx13a.past hb2x13
        have Lpx13b := Lpx13a.past hb2x13
        have Lnx13b := Lnx13a.past hb2x13
        have Lcx13b := Lcx13a.past hb2x13
        have Tx13b := Tx13a.keep hb2x13 (Nat.lt_of_lt_of_le h0 Bx13a.size)
        clear hb2x13 zfx13a znx13a zcx13a zax13a Bx13a Lfx13a Lpx13a Lnx13a Lcx13a Tx13a
        have hq2x13 : Below yx13.heap.size yx13 (yx13.alloc (.cells #[.int .i64 0, .slice none 0 0] 41)) := (Below.refl _ _).alloc (Nat.le_refl _) _
        have zgx13 := heap_last yx13 (.cells #[.int .i64 0, .slice none 0 0] 41) _ rfl
        have zfx13c := (hq2x13.block _ (lt_of_heap zfx13b)).trans zfx13b
        have znx13c := (hq2x13.block _ (lt_of_heap znx13b)).trans znx13b
        have zcx13c := (hq2x13.block _ (lt_of_heap zcx13b)).trans zcx13b
        have zax13c := (hq2x13.block _ (lt_of_heap zax13b)).trans zax13b
        have Bx13c := Bx13b.trans (hq2x13.mono Bx13b.size)
        have Lfx13c := Lfx13b.past hq2x13
        have Lpx13c := Lpx13b.past hq2x13
        have Lnx13c := Lnx13b.past hq2x13
        have Lcx13c := Lcx13b.past hq2x13
        have Tx13c := Tx13b.keep hq2x13 (Nat.lt_of_lt_of_le h0 Bx13b.size)
        clear hq2x13 zfx13b znx13b zcx13b zax13b Bx13b Lfx13b Lpx13b Lnx13b Lcx13b Tx13b
        by_cases hok4 : commitOk c = true
        · skip
          have hM := commit_any (yx13.alloc (.cells #[.int .i64 0, .slice none 0 0] 41)) c _ Lcx13c Tx13c
          rw [hok4, made_yes] at hM
          generalize sha (75 :: commitB c) = S4 at hM
          have cfx13c0 := rc (i := 0) zfx13c rfl
          have cfx13c1 := rc (i := 1) zfx13c rfl
          have cnx13c0 := rc (i := 0) znx13c rfl
          have cnx13c1 := rc (i := 1) znx13c rfl
          have ccx13c0 := rc (i := 0) zcx13c rfl
          have ccx13c1 := rc (i := 1) zcx13c rfl
          have ccx13c2 := rc (i := 2) zcx13c rfl
          have ccx13c3 := rc (i := 3) zcx13c rfl
          have ccx13c4 := rc (i := 4) zcx13c rfl
          go_wp2_with fail
          refine hM.mono ?_
          rintro e wx14 ⟨rfl, hbx14⟩
          clear hM
          clear cfx13c0 cfx13c1 cnx13c0 cnx13c1 ccx13c0 ccx13c1 ccx13c2 ccx13c3 ccx13c4
          have zfx14 := (hbx14.block _ (lt_of_heap zfx13c)).trans zfx13c
          have znx14 := (hbx14.block _ (lt_of_heap znx13c)).trans znx13c
          have zcx14 := (hbx14.block _ (lt_of_heap zcx13c)).trans zcx13c
          have zax14 := (hbx14.block _ (lt_of_heap zax13c)).trans zax13c
          have Bx14 := Bx13c.trans (hbx14.mono Bx13c.size)
          have Lfx14 := Lfx13c.past hbx14
          have Lpx14 := Lpx13c.past hbx14
          have Lnx14 := Lnx13c.past hbx14
          have Lcx14 := Lcx13c.past hbx14
          have Tx14 := Tx13c.keep hbx14 (Nat.lt_of_lt_of_le h0 Bx13c.size)
          clear hbx14 zfx13c znx13c zcx13c zax13c Bx13c Lfx13c Lpx13c Lnx13c Lcx13c Tx13c
          have cax140 := rc (i := 0) zax14 rfl
          have cax141 := rc (i := 1) zax14 rfl
          have fax140 := frozen0 (j := 0) zax14
          have fax141 := frozen0 (j := 1) zax14
          have zax14a : ((wx14.setCell ⟨wx1.heap.size, 0, none⟩ (.string (strB (S4)))).setCell ⟨wx1.heap.size, 1, none⟩ (.string (strB (75 :: commitB c)))).heap[wx1.heap.size]? = some (.cells #[.string (strB (S4)), .string (strB (75 :: commitB c))] 27) := heap_set2 zax14
          have zfx14a : ((wx14.setCell ⟨wx1.heap.size, 0, none⟩ (.string (strB (S4)))).setCell ⟨wx1.heap.size, 1, none⟩ (.string (strB (75 :: commitB c)))).heap[w.heap.size]? = some (.cells #[.int .i64 f.1, .slice af f.2.length cf] 24) := ((gb_set _ (wx1.heap.size) 1 _).block _ (Nat.lt_of_lt_of_le (lt_of_heap zfx14) (gb_set _ (wx1.heap.size) 0 _).size) (fun e => by injection e with e; omega)).trans (((gb_set wx14 (wx1.heap.size) 0 _).block _ (lt_of_heap zfx14) (fun e => by injection e with e; omega)).trans zfx14)
          have znx14a : ((wx14.setCell ⟨wx1.heap.size, 0, none⟩ (.string (strB (S4)))).setCell ⟨wx1.heap.size, 1, none⟩ (.string (strB (75 :: commitB c)))).heap[w.heap.size + 1]? = some (.cells #[.int .i64 n.1, .slice an n.2.length cn] 41) := ((gb_set _ (wx1.heap.size) 1 _).block _ (Nat.lt_of_lt_of_le (lt_of_heap znx14) (gb_set _ (wx1.heap.size) 0 _).size) (fun e => by injection e with e; omega)).trans (((gb_set wx14 (wx1.heap.size) 0 _).block _ (lt_of_heap znx14) (fun e => by injection e with e; omega)).trans znx14)
          have zcx14a : ((wx14.setCell ⟨wx1.heap.size, 0, none⟩ (.string (strB (S4)))).setCell ⟨wx1.heap.size, 1, none⟩ (.string (strB (75 :: commitB c)))).heap[w.heap.size + 2]? = some (.cells #[.string (strB c.1), .slice ac c.2.1.length cc, .string (strB c.2.2.1), .int .i64 c.2.2.2.1, .string (strB c.2.2.2.2)] 54) := ((gb_set _ (wx1.heap.size) 1 _).block _ (Nat.lt_of_lt_of_le (lt_of_heap zcx14) (gb_set _ (wx1.heap.size) 0 _).size) (fun e => by injection e with e; omega)).trans (((gb_set wx14 (wx1.heap.size) 0 _).block _ (lt_of_heap zcx14) (fun e => by injection e with e; omega)).trans zcx14)
          have Bx14a := (Bx14.setCell (p := ⟨wx1.heap.size, 0, none⟩) (by simp; omega) (.string (strB (S4)))).setCell (p := ⟨wx1.heap.size, 1, none⟩) (by simp; omega) (.string (strB (75 :: commitB c)))
          have Lfx14a : Ls ((wx14.setCell ⟨wx1.heap.size, 0, none⟩ (.string (strB (S4)))).setCell ⟨wx1.heap.size, 1, none⟩ (.string (strB (75 :: commitB c)))).heap.size ((wx14.setCell ⟨wx1.heap.size, 0, none⟩ (.string (strB (S4)))).setCell ⟨wx1.heap.size, 1, none⟩ (.string (strB (75 :: commitB c)))) _ _ _ _ := ((Lf0.keep Bx14a)).up Bx14a.size
          have Lpx14a : Ls ((wx14.setCell ⟨wx1.heap.size, 0, none⟩ (.string (strB (S4)))).setCell ⟨wx1.heap.size, 1, none⟩ (.string (strB (75 :: commitB c)))).heap.size ((wx14.setCell ⟨wx1.heap.size, 0, none⟩ (.string (strB (S4)))).setCell ⟨wx1.heap.size, 1, none⟩ (.string (strB (75 :: commitB c)))) _ _ _ _ := ((Lp0.keep Bx14a)).up Bx14a.size
          have Lnx14a : Ls ((wx14.setCell ⟨wx1.heap.size, 0, none⟩ (.string (strB (S4)))).setCell ⟨wx1.heap.size, 1, none⟩ (.string (strB (75 :: commitB c)))).heap.size ((wx14.setCell ⟨wx1.heap.size, 0, none⟩ (.string (strB (S4)))).setCell ⟨wx1.heap.size, 1, none⟩ (.string (strB (75 :: commitB c)))) _ _ _ _ := ((Ln0.keep Bx14a)).up Bx14a.size
          have Lcx14a : Ls ((wx14.setCell ⟨wx1.heap.size, 0, none⟩ (.string (strB (S4)))).setCell ⟨wx1.heap.size, 1, none⟩ (.string (strB (75 :: commitB c)))).heap.size ((wx14.setCell ⟨wx1.heap.size, 0, none⟩ (.string (strB (S4)))).setCell ⟨wx1.heap.size, 1, none⟩ (.string (strB (75 :: commitB c)))) _ _ _ _ := ((Lc0.keep Bx14a)).up Bx14a.size
          have Tx14a := hT.keep Bx14a h0
          clear zfx14 znx14 zcx14 zax14 Bx14 Lfx14 Lpx14 Lnx14 Lcx14 Tx14
          go_wp2_with fail
          generalize hgx14 : ((wx14.setCell ⟨wx1.heap.size, 0, none⟩ (.string (strB (S4)))).setCell ⟨wx1.heap.size, 1, none⟩ (.string (strB (75 :: commitB c)))) = vx14 at *
          have hby : (75 :: commitB c).length ≤ 140737488355328 := by have := (commitB_le hok4).1; simp only [List.length_cons]; omega
          have hK := takeCommit_any vx14 (75 :: commitB c) hby
          unfold commitSaid at hK
          rw [(takenCommit_iff _ hby c).2 ⟨hok4, rfl⟩] at hK
          simp only at hK
          refine hK.mono ?_
          rintro e yx14 ⟨⟨vvx14, rfl, ownx14⟩, hb2x14⟩
          clear hK hby hgx14
          clear cax140 cax141 fax140 fax141
          have zfx14b := (hb2x14.block _ (lt_of_heap zfx14a)).trans zfx14a
          have znx14b := (hb2x14.block _ (lt_of_heap znx14a)).trans znx14a
          have zcx14b := (hb2x14.block _ (lt_of_heap zcx14a)).trans zcx14a
          have zax14b := (hb2x14.block _ (lt_of_heap zax14a)).trans zax14a
          have Bx14b := Bx14a.trans (hb2x14.mono Bx14a.size)
          have Lfx14b := Lfx14a.past hb2x14
          have Lpx14b := Lpx14a.past hb2x14
          have Lnx14b := Lnx14a.past hb2x14
          have Lcx14b := Lcx14a.past hb2x14
          have Tx14b := Tx14a.keep hb2x14 (Nat.lt_of_lt_of_le h0 Bx14a.size)
          clear hb2x14 zfx14a znx14a zcx14a zax14a Bx14a Lfx14a Lpx14a Lnx14a Lcx14a Tx14a
          obtain ⟨ag, cg, rfl, -⟩ := own_form ownx14
          have lvx14 := ls_of_own idC_length ownx14
          have hq2x14 : Below yx14.heap.size yx14 (yx14.alloc (.cells #[.string (strB c.1), .slice ag c.2.1.length cg, .string (strB c.2.2.1), .int .i64 c.2.2.2.1, .string (strB c.2.2.2.2)] 54)) := (Below.refl _ _).alloc (Nat.le_refl _) _
          have zgx14 := heap_last yx14 (.cells #[.string (strB c.1), .slice ag c.2.1.length cg, .string (strB c.2.2.1), .int .i64 c.2.2.2.1, .string (strB c.2.2.2.2)] 54) _ rfl
          have lwx14 := lvx14.past hq2x14
          clear lvx14
          have zfx14c := (hq2x14.block _ (lt_of_heap zfx14b)).trans zfx14b
          have znx14c := (hq2x14.block _ (lt_of_heap znx14b)).trans znx14b
          have zcx14c := (hq2x14.block _ (lt_of_heap zcx14b)).trans zcx14b
          have zax14c := (hq2x14.block _ (lt_of_heap zax14b)).trans zax14b
          have Bx14c := Bx14b.trans (hq2x14.mono Bx14b.size)
          have Lfx14c := Lfx14b.past hq2x14
          have Lpx14c := Lpx14b.past hq2x14
          have Lnx14c := Lnx14b.past hq2x14
          have Lcx14c := Lcx14b.past hq2x14
          have Tx14c := Tx14b.keep hq2x14 (Nat.lt_of_lt_of_le h0 Bx14b.size)
          clear hq2x14 zfx14b znx14b zcx14b zax14b Bx14b Lfx14b Lpx14b Lnx14b Lcx14b Tx14b
          have hE := sameCommit_any (yx14.alloc (.cells #[.string (strB c.1), .slice ag c.2.1.length cg, .string (strB c.2.2.1), .int .i64 c.2.2.2.1, .string (strB c.2.2.2.2)] 54)) c c _ _ Lcx14c lwx14
          rw [decide_eq_true (rfl : c = c)] at hE
          clear ownx14 lwx14
          have cfx14c0 := rc (i := 0) zfx14c rfl
          have cfx14c1 := rc (i := 1) zfx14c rfl
          have cnx14c0 := rc (i := 0) znx14c rfl
          have cnx14c1 := rc (i := 1) znx14c rfl
          have ccx14c0 := rc (i := 0) zcx14c rfl
          have ccx14c1 := rc (i := 1) zcx14c rfl
          have ccx14c2 := rc (i := 2) zcx14c rfl
          have ccx14c3 := rc (i := 3) zcx14c rfl
          have ccx14c4 := rc (i := 4) zcx14c rfl
          go_wp2_with fail
          generalize hg2x14 : (yx14.alloc (.cells #[.string (strB c.1), .slice ag c.2.1.length cg, .string (strB c.2.2.1), .int .i64 c.2.2.2.1, .string (strB c.2.2.2.2)] 54)) = zx14 at *
          refine hE.mono ?_
          rintro e tx14 ⟨rfl, hb3x14⟩
          clear hE
          clear cfx14c0 cfx14c1 cnx14c0 cnx14c1 ccx14c0 ccx14c1 ccx14c2 ccx14c3 ccx14c4
          have zfx14d := (hb3x14.block _ (lt_of_heap zfx14c)).trans zfx14c
          have znx14d := (hb3x14.block _ (lt_of_heap znx14c)).trans znx14c
          have zcx14d := (hb3x14.block _ (lt_of_heap zcx14c)).trans zcx14c
          have zax14d := (hb3x14.block _ (lt_of_heap zax14c)).trans zax14c
          have Bx14d := Bx14c.trans (hb3x14.mono Bx14c.size)
          have Lfx14d := Lfx14c.past hb3x14
          have Lpx14d := Lpx14c.past hb3x14
          have Lnx14d := Lnx14c.past hb3x14
          have Lcx14d := Lcx14c.past hb3x14
          have Tx14d := Tx14c.keep hb3x14 (Nat.lt_of_lt_of_le h0 Bx14c.size)
          clear hb3x14 zfx14c znx14c zcx14c zax14c Bx14c Lfx14c Lpx14c Lnx14c Lcx14c Tx14c
          clear zgx14 hg2x14
          go_wp2
          go_ret
          exact ⟨ret_bool (by first | rfl | simp), Bx14d⟩
        · have hok4 := Bool.eq_false_iff.2 hok4
          have hM := commit_any (yx13.alloc (.cells #[.int .i64 0, .slice none 0 0] 41)) c _ Lcx13c Tx13c
          rw [hok4, made_no] at hM
          have cfx13c0 := rc (i := 0) zfx13c rfl
          have cfx13c1 := rc (i := 1) zfx13c rfl
          have cnx13c0 := rc (i := 0) znx13c rfl
          have cnx13c1 := rc (i := 1) znx13c rfl
          have ccx13c0 := rc (i := 0) zcx13c rfl
          have ccx13c1 := rc (i := 1) zcx13c rfl
          have ccx13c2 := rc (i := 2) zcx13c rfl
          have ccx13c3 := rc (i := 3) zcx13c rfl
          have ccx13c4 := rc (i := 4) zcx13c rfl
          go_wp2_with fail
          refine hM.mono ?_
          rintro e wx15 ⟨rfl, hbx15⟩
          clear hM
          clear cfx13c0 cfx13c1 cnx13c0 cnx13c1 ccx13c0 ccx13c1 ccx13c2 ccx13c3 ccx13c4
          have zfx15 := (hbx15.block _ (lt_of_heap zfx13c)).trans zfx13c
          have znx15 := (hbx15.block _ (lt_of_heap znx13c)).trans znx13c
          have zcx15 := (hbx15.block _ (lt_of_heap zcx13c)).trans zcx13c
          have zax15 := (hbx15.block _ (lt_of_heap zax13c)).trans zax13c
          have Bx15 := Bx13c.trans (hbx15.mono Bx13c.size)
          have Lfx15 := Lfx13c.past hbx15
          have Lpx15 := Lpx13c.past hbx15
          have Lnx15 := Lnx13c.past hbx15
          have Lcx15 := Lcx13c.past hbx15
          have Tx15 := Tx13c.keep hbx15 (Nat.lt_of_lt_of_le h0 Bx13c.size)
          clear hbx15 zfx13c znx13c zcx13c zax13c Bx13c Lfx13c Lpx13c Lnx13c Lcx13c Tx13c
          have cax150 := rc (i := 0) zax15 rfl
          have cax151 := rc (i := 1) zax15 rfl
          have fax150 := frozen0 (j := 0) zax15
          have fax151 := frozen0 (j := 1) zax15
          have zax15a : ((wx15.setCell ⟨wx1.heap.size, 0, none⟩ (.string (strB (([] : Bs))))).setCell ⟨wx1.heap.size, 1, none⟩ (.string (strB (([] : Bs))))).heap[wx1.heap.size]? = some (.cells #[.string (strB (([] : Bs))), .string (strB (([] : Bs)))] 27) := heap_set2 zax15
          have zfx15a : ((wx15.setCell ⟨wx1.heap.size, 0, none⟩ (.string (strB (([] : Bs))))).setCell ⟨wx1.heap.size, 1, none⟩ (.string (strB (([] : Bs))))).heap[w.heap.size]? = some (.cells #[.int .i64 f.1, .slice af f.2.length cf] 24) := ((gb_set _ (wx1.heap.size) 1 _).block _ (Nat.lt_of_lt_of_le (lt_of_heap zfx15) (gb_set _ (wx1.heap.size) 0 _).size) (fun e => by injection e with e; omega)).trans (((gb_set wx15 (wx1.heap.size) 0 _).block _ (lt_of_heap zfx15) (fun e => by injection e with e; omega)).trans zfx15)
          have znx15a : ((wx15.setCell ⟨wx1.heap.size, 0, none⟩ (.string (strB (([] : Bs))))).setCell ⟨wx1.heap.size, 1, none⟩ (.string (strB (([] : Bs))))).heap[w.heap.size + 1]? = some (.cells #[.int .i64 n.1, .slice an n.2.length cn] 41) := ((gb_set _ (wx1.heap.size) 1 _).block _ (Nat.lt_of_lt_of_le (lt_of_heap znx15) (gb_set _ (wx1.heap.size) 0 _).size) (fun e => by injection e with e; omega)).trans (((gb_set wx15 (wx1.heap.size) 0 _).block _ (lt_of_heap znx15) (fun e => by injection e with e; omega)).trans znx15)
          have zcx15a : ((wx15.setCell ⟨wx1.heap.size, 0, none⟩ (.string (strB (([] : Bs))))).setCell ⟨wx1.heap.size, 1, none⟩ (.string (strB (([] : Bs))))).heap[w.heap.size + 2]? = some (.cells #[.string (strB c.1), .slice ac c.2.1.length cc, .string (strB c.2.2.1), .int .i64 c.2.2.2.1, .string (strB c.2.2.2.2)] 54) := ((gb_set _ (wx1.heap.size) 1 _).block _ (Nat.lt_of_lt_of_le (lt_of_heap zcx15) (gb_set _ (wx1.heap.size) 0 _).size) (fun e => by injection e with e; omega)).trans (((gb_set wx15 (wx1.heap.size) 0 _).block _ (lt_of_heap zcx15) (fun e => by injection e with e; omega)).trans zcx15)
          have Bx15a := (Bx15.setCell (p := ⟨wx1.heap.size, 0, none⟩) (by simp; omega) (.string (strB (([] : Bs))))).setCell (p := ⟨wx1.heap.size, 1, none⟩) (by simp; omega) (.string (strB (([] : Bs))))
          have Lfx15a : Ls ((wx15.setCell ⟨wx1.heap.size, 0, none⟩ (.string (strB (([] : Bs))))).setCell ⟨wx1.heap.size, 1, none⟩ (.string (strB (([] : Bs))))).heap.size ((wx15.setCell ⟨wx1.heap.size, 0, none⟩ (.string (strB (([] : Bs))))).setCell ⟨wx1.heap.size, 1, none⟩ (.string (strB (([] : Bs))))) _ _ _ _ := ((Lf0.keep Bx15a)).up Bx15a.size
          have Lpx15a : Ls ((wx15.setCell ⟨wx1.heap.size, 0, none⟩ (.string (strB (([] : Bs))))).setCell ⟨wx1.heap.size, 1, none⟩ (.string (strB (([] : Bs))))).heap.size ((wx15.setCell ⟨wx1.heap.size, 0, none⟩ (.string (strB (([] : Bs))))).setCell ⟨wx1.heap.size, 1, none⟩ (.string (strB (([] : Bs))))) _ _ _ _ := ((Lp0.keep Bx15a)).up Bx15a.size
          have Lnx15a : Ls ((wx15.setCell ⟨wx1.heap.size, 0, none⟩ (.string (strB (([] : Bs))))).setCell ⟨wx1.heap.size, 1, none⟩ (.string (strB (([] : Bs))))).heap.size ((wx15.setCell ⟨wx1.heap.size, 0, none⟩ (.string (strB (([] : Bs))))).setCell ⟨wx1.heap.size, 1, none⟩ (.string (strB (([] : Bs))))) _ _ _ _ := ((Ln0.keep Bx15a)).up Bx15a.size
          have Lcx15a : Ls ((wx15.setCell ⟨wx1.heap.size, 0, none⟩ (.string (strB (([] : Bs))))).setCell ⟨wx1.heap.size, 1, none⟩ (.string (strB (([] : Bs))))).heap.size ((wx15.setCell ⟨wx1.heap.size, 0, none⟩ (.string (strB (([] : Bs))))).setCell ⟨wx1.heap.size, 1, none⟩ (.string (strB (([] : Bs))))) _ _ _ _ := ((Lc0.keep Bx15a)).up Bx15a.size
          have Tx15a := hT.keep Bx15a h0
          clear zfx15 znx15 zcx15 zax15 Bx15 Lfx15 Lpx15 Lnx15 Lcx15 Tx15
          go_wp2_with fail
          generalize hgx15 : ((wx15.setCell ⟨wx1.heap.size, 0, none⟩ (.string (strB (([] : Bs))))).setCell ⟨wx1.heap.size, 1, none⟩ (.string (strB (([] : Bs))))) = vx15 at *
          have hby : (([] : Bs)).length ≤ 140737488355328 := by simp
          have hK := takeCommit_any vx15 (([] : Bs)) hby
          unfold commitSaid at hK
          rw [takenCommit_nil] at hK
          simp only at hK
          refine hK.mono ?_
          rintro e yx15 ⟨rfl, hb2x15⟩
          clear hK hby hgx15
          clear cax150 cax151 fax150 fax151
          have zfx15b := (hb2x15.block _ (lt_of_heap zfx15a)).trans zfx15a
          have znx15b := (hb2x15.block _ (lt_of_heap znx15a)).trans znx15a
          have zcx15b := (hb2x15.block _ (lt_of_heap zcx15a)).trans zcx15a
          have zax15b := (hb2x15.block _ (lt_of_heap zax15a)).trans zax15a
          have Bx15b := Bx15a.trans (hb2x15.mono Bx15a.size)
          have Lfx15b := Lfx15a.past hb2x15
          have Lpx15b := Lpx15a.past hb2x15
          have Lnx15b := Lnx15a.past hb2x15
          have Lcx15b := Lcx15a.past hb2x15
          have Tx15b := Tx15a.keep hb2x15 (Nat.lt_of_lt_of_le h0 Bx15a.size)
          clear hb2x15 zfx15a znx15a zcx15a zax15a Bx15a Lfx15a Lpx15a Lnx15a Lcx15a Tx15a
          have hq2x15 : Below yx15.heap.size yx15 (yx15.alloc (.cells #[.string ⟨#[]⟩, .slice none 0 0, .string ⟨#[]⟩, .int .i64 0, .string ⟨#[]⟩] 54)) := (Below.refl _ _).alloc (Nat.le_refl _) _
          have zgx15 := heap_last yx15 (.cells #[.string ⟨#[]⟩, .slice none 0 0, .string ⟨#[]⟩, .int .i64 0, .string ⟨#[]⟩] 54) _ rfl
          have zfx15c := (hq2x15.block _ (lt_of_heap zfx15b)).trans zfx15b
          have znx15c := (hq2x15.block _ (lt_of_heap znx15b)).trans znx15b
          have zcx15c := (hq2x15.block _ (lt_of_heap zcx15b)).trans zcx15b
          have zax15c := (hq2x15.block _ (lt_of_heap zax15b)).trans zax15b
          have Bx15c := Bx15b.trans (hq2x15.mono Bx15b.size)
          have Lfx15c := Lfx15b.past hq2x15
          have Lpx15c := Lpx15b.past hq2x15
          have Lnx15c := Lnx15b.past hq2x15
          have Lcx15c := Lcx15b.past hq2x15
          have Tx15c := Tx15b.keep hq2x15 (Nat.lt_of_lt_of_le h0 Bx15b.size)
          clear hq2x15 zfx15b znx15b zcx15b zax15b Bx15b Lfx15b Lpx15b Lnx15b Lcx15b Tx15b
          go_wp2
          go_ret
          exact ⟨ret_bool (by first | rfl | simp), Bx15c⟩
  · have hok1 := Bool.eq_false_iff.2 hok1
    have hM := fan_any wS f _ LfS TS
    rw [hok1, made_no] at hM
    have cfS0 := rc (i := 0) zfS rfl
    have cfS1 := rc (i := 1) zfS rfl
    have cnS0 := rc (i := 0) znS rfl
    have cnS1 := rc (i := 1) znS rfl
    have ccS0 := rc (i := 0) zcS rfl
    have ccS1 := rc (i := 1) zcS rfl
    have ccS2 := rc (i := 2) zcS rfl
    have ccS3 := rc (i := 3) zcS rfl
    have ccS4 := rc (i := 4) zcS rfl
    go_wp2_with fail
    refine hM.mono ?_
    rintro e wx16 ⟨rfl, hbx16⟩
    clear hM
    clear cfS0 cfS1 cnS0 cnS1 ccS0 ccS1 ccS2 ccS3 ccS4
    have zfx16 := (hbx16.block _ (lt_of_heap zfS)).trans zfS
    have znx16 := (hbx16.block _ (lt_of_heap znS)).trans znS
    have zcx16 := (hbx16.block _ (lt_of_heap zcS)).trans zcS
    have Bx16 := BS.trans (hbx16.mono BS.size)
    have Lfx16 := LfS.past hbx16
    have Lpx16 := LpS.past hbx16
    have Lnx16 := LnS.past hbx16
    have Lcx16 := LcS.past hbx16
    have Tx16 := TS.keep hbx16 (Nat.lt_of_lt_of_le h0 BS.size)
    clear hbx16 zfS znS zcS  BS LfS LpS LnS LcS TS
    have haS : w.heap.size + 3 ≤ wx16.heap.size := lt_of_heap zcx16
    have hqx16 : Below wx16.heap.size wx16 (wx16.alloc (.cells #[.string (strB (([] : Bs))), .string (strB (([] : Bs)))] 27)) := (Below.refl _ _).alloc (Nat.le_refl _) _
    have zaNx16 := heap_last wx16 (.cells #[.string (strB (([] : Bs))), .string (strB (([] : Bs)))] 27) _ rfl
    have zfx16a := (hqx16.block _ (lt_of_heap zfx16)).trans zfx16
    have znx16a := (hqx16.block _ (lt_of_heap znx16)).trans znx16
    have zcx16a := (hqx16.block _ (lt_of_heap zcx16)).trans zcx16
    have Bx16a := Bx16.trans (hqx16.mono Bx16.size)
    have Lfx16a := Lfx16.past hqx16
    have Lpx16a := Lpx16.past hqx16
    have Lnx16a := Lnx16.past hqx16
    have Lcx16a := Lcx16.past hqx16
    have Tx16a := Tx16.keep hqx16 (Nat.lt_of_lt_of_le h0 Bx16.size)
    clear hqx16 zfx16 znx16 zcx16  Bx16 Lfx16 Lpx16 Lnx16 Lcx16 Tx16
    have zax16a := zaNx16
    clear zaNx16
    go_wp2_with fail
    generalize hgx16 : (wx16.alloc (.cells #[.string (strB (([] : Bs))), .string (strB (([] : Bs)))] 27)) = vx16 at *
    have hby : (([] : Bs)).length ≤ 140737488355328 := by simp
    have hK := takeFan_any vx16 (([] : Bs)) hby
    unfold fanSaid at hK
    rw [takenFan_nil] at hK
    simp only at hK
    refine hK.mono ?_
    rintro e yx16 ⟨rfl, hb2x16⟩
    clear hK hby hgx16
    have zfx16b := (hb2x16.block _ (lt_of_heap zfx16a)).trans zfx16a
    have znx16b := (hb2x16.block _ (lt_of_heap znx16a)).trans znx16a
    have zcx16b := (hb2x16.block _ (lt_of_heap zcx16a)).trans zcx16a
    have zax16b := (hb2x16.block _ (lt_of_heap zax16a)).trans zax16a
    have Bx16b := Bx16a.trans (hb2x16.mono Bx16a.size)
    have Lfx16b := Lfx16a.past hb2x16
    have Lpx16b := Lpx16a.past hb2x16
    have Lnx16b := Lnx16a.past hb2x16
    have Lcx16b := Lcx16a.past hb2x16
    have Tx16b := Tx16a.keep hb2x16 (Nat.lt_of_lt_of_le h0 Bx16a.size)
    clear hb2x16 zfx16a znx16a zcx16a zax16a Bx16a Lfx16a Lpx16a Lnx16a Lcx16a Tx16a
    have hq2x16 : Below yx16.heap.size yx16 (yx16.alloc (.cells #[.int .i64 0, .slice none 0 0] 24)) := (Below.refl _ _).alloc (Nat.le_refl _) _
    have zgx16 := heap_last yx16 (.cells #[.int .i64 0, .slice none 0 0] 24) _ rfl
    have zfx16c := (hq2x16.block _ (lt_of_heap zfx16b)).trans zfx16b
    have znx16c := (hq2x16.block _ (lt_of_heap znx16b)).trans znx16b
    have zcx16c := (hq2x16.block _ (lt_of_heap zcx16b)).trans zcx16b
    have zax16c := (hq2x16.block _ (lt_of_heap zax16b)).trans zax16b
    have Bx16c := Bx16b.trans (hq2x16.mono Bx16b.size)
    have Lfx16c := Lfx16b.past hq2x16
    have Lpx16c := Lpx16b.past hq2x16
    have Lnx16c := Lnx16b.past hq2x16
    have Lcx16c := Lcx16b.past hq2x16
    have Tx16c := Tx16b.keep hq2x16 (Nat.lt_of_lt_of_le h0 Bx16b.size)
    clear hq2x16 zfx16b znx16b zcx16b zax16b Bx16b Lfx16b Lpx16b Lnx16b Lcx16b Tx16b
    by_cases hok2 : leafOk ltB ps = true
    · skip
      have hM := leaf_any (yx16.alloc (.cells #[.int .i64 0, .slice none 0 0] 24)) ps _ Lpx16c Tx16c
      rw [hok2, made_yes] at hM
      generalize sha (76 :: leafB ps) = S2 at hM
      have cfx16c0 := rc (i := 0) zfx16c rfl
      have cfx16c1 := rc (i := 1) zfx16c rfl
      have cnx16c0 := rc (i := 0) znx16c rfl
      have cnx16c1 := rc (i := 1) znx16c rfl
      have ccx16c0 := rc (i := 0) zcx16c rfl
      have ccx16c1 := rc (i := 1) zcx16c rfl
      have ccx16c2 := rc (i := 2) zcx16c rfl
      have ccx16c3 := rc (i := 3) zcx16c rfl
      have ccx16c4 := rc (i := 4) zcx16c rfl
      go_wp2_with fail
      refine hM.mono ?_
      rintro e wx17 ⟨rfl, hbx17⟩
      clear hM
      clear cfx16c0 cfx16c1 cnx16c0 cnx16c1 ccx16c0 ccx16c1 ccx16c2 ccx16c3 ccx16c4
      have zfx17 := (hbx17.block _ (lt_of_heap zfx16c)).trans zfx16c
      have znx17 := (hbx17.block _ (lt_of_heap znx16c)).trans znx16c
      have zcx17 := (hbx17.block _ (lt_of_heap zcx16c)).trans zcx16c
      have zax17 := (hbx17.block _ (lt_of_heap zax16c)).trans zax16c
      have Bx17 := Bx16c.trans (hbx17.mono Bx16c.size)
      have Lfx17 := Lfx16c.past hbx17
      have Lpx17 := Lpx16c.past hbx17
      have Lnx17 := Lnx16c.past hbx17
      have Lcx17 := Lcx16c.past hbx17
      have Tx17 := Tx16c.keep hbx17 (Nat.lt_of_lt_of_le h0 Bx16c.size)
      clear hbx17 zfx16c znx16c zcx16c zax16c Bx16c Lfx16c Lpx16c Lnx16c Lcx16c Tx16c
      have cax170 := rc (i := 0) zax17 rfl
      have cax171 := rc (i := 1) zax17 rfl
      have fax170 := frozen0 (j := 0) zax17
      have fax171 := frozen0 (j := 1) zax17
      have zax17a : ((wx17.setCell ⟨wx16.heap.size, 0, none⟩ (.string (strB (S2)))).setCell ⟨wx16.heap.size, 1, none⟩ (.string (strB (76 :: leafB ps)))).heap[wx16.heap.size]? = some (.cells #[.string (strB (S2)), .string (strB (76 :: leafB ps))] 27) := heap_set2 zax17
      have zfx17a : ((wx17.setCell ⟨wx16.heap.size, 0, none⟩ (.string (strB (S2)))).setCell ⟨wx16.heap.size, 1, none⟩ (.string (strB (76 :: leafB ps)))).heap[w.heap.size]? = some (.cells #[.int .i64 f.1, .slice af f.2.length cf] 24) := ((gb_set _ (wx16.heap.size) 1 _).block _ (Nat.lt_of_lt_of_le (lt_of_heap zfx17) (gb_set _ (wx16.heap.size) 0 _).size) (fun e => by injection e with e; omega)).trans (((gb_set wx17 (wx16.heap.size) 0 _).block _ (lt_of_heap zfx17) (fun e => by injection e with e; omega)).trans zfx17)
      have znx17a : ((wx17.setCell ⟨wx16.heap.size, 0, none⟩ (.string (strB (S2)))).setCell ⟨wx16.heap.size, 1, none⟩ (.string (strB (76 :: leafB ps)))).heap[w.heap.size + 1]? = some (.cells #[.int .i64 n.1, .slice an n.2.length cn] 41) := ((gb_set _ (wx16.heap.size) 1 _).block _ (Nat.lt_of_lt_of_le (lt_of_heap znx17) (gb_set _ (wx16.heap.size) 0 _).size) (fun e => by injection e with e; omega)).trans (((gb_set wx17 (wx16.heap.size) 0 _).block _ (lt_of_heap znx17) (fun e => by injection e with e; omega)).trans znx17)
      have zcx17a : ((wx17.setCell ⟨wx16.heap.size, 0, none⟩ (.string (strB (S2)))).setCell ⟨wx16.heap.size, 1, none⟩ (.string (strB (76 :: leafB ps)))).heap[w.heap.size + 2]? = some (.cells #[.string (strB c.1), .slice ac c.2.1.length cc, .string (strB c.2.2.1), .int .i64 c.2.2.2.1, .string (strB c.2.2.2.2)] 54) := ((gb_set _ (wx16.heap.size) 1 _).block _ (Nat.lt_of_lt_of_le (lt_of_heap zcx17) (gb_set _ (wx16.heap.size) 0 _).size) (fun e => by injection e with e; omega)).trans (((gb_set wx17 (wx16.heap.size) 0 _).block _ (lt_of_heap zcx17) (fun e => by injection e with e; omega)).trans zcx17)
      have Bx17a := (Bx17.setCell (p := ⟨wx16.heap.size, 0, none⟩) (by simp; omega) (.string (strB (S2)))).setCell (p := ⟨wx16.heap.size, 1, none⟩) (by simp; omega) (.string (strB (76 :: leafB ps)))
      have Lfx17a : Ls ((wx17.setCell ⟨wx16.heap.size, 0, none⟩ (.string (strB (S2)))).setCell ⟨wx16.heap.size, 1, none⟩ (.string (strB (76 :: leafB ps)))).heap.size ((wx17.setCell ⟨wx16.heap.size, 0, none⟩ (.string (strB (S2)))).setCell ⟨wx16.heap.size, 1, none⟩ (.string (strB (76 :: leafB ps)))) _ _ _ _ := ((Lf0.keep Bx17a)).up Bx17a.size
      have Lpx17a : Ls ((wx17.setCell ⟨wx16.heap.size, 0, none⟩ (.string (strB (S2)))).setCell ⟨wx16.heap.size, 1, none⟩ (.string (strB (76 :: leafB ps)))).heap.size ((wx17.setCell ⟨wx16.heap.size, 0, none⟩ (.string (strB (S2)))).setCell ⟨wx16.heap.size, 1, none⟩ (.string (strB (76 :: leafB ps)))) _ _ _ _ := ((Lp0.keep Bx17a)).up Bx17a.size
      have Lnx17a : Ls ((wx17.setCell ⟨wx16.heap.size, 0, none⟩ (.string (strB (S2)))).setCell ⟨wx16.heap.size, 1, none⟩ (.string (strB (76 :: leafB ps)))).heap.size ((wx17.setCell ⟨wx16.heap.size, 0, none⟩ (.string (strB (S2)))).setCell ⟨wx16.heap.size, 1, none⟩ (.string (strB (76 :: leafB ps)))) _ _ _ _ := ((Ln0.keep Bx17a)).up Bx17a.size
      have Lcx17a : Ls ((wx17.setCell ⟨wx16.heap.size, 0, none⟩ (.string (strB (S2)))).setCell ⟨wx16.heap.size, 1, none⟩ (.string (strB (76 :: leafB ps)))).heap.size ((wx17.setCell ⟨wx16.heap.size, 0, none⟩ (.string (strB (S2)))).setCell ⟨wx16.heap.size, 1, none⟩ (.string (strB (76 :: leafB ps)))) _ _ _ _ := ((Lc0.keep Bx17a)).up Bx17a.size
      have Tx17a := hT.keep Bx17a h0
      clear zfx17 znx17 zcx17 zax17 Bx17 Lfx17 Lpx17 Lnx17 Lcx17 Tx17
      go_wp2_with fail
      generalize hgx17 : ((wx17.setCell ⟨wx16.heap.size, 0, none⟩ (.string (strB (S2)))).setCell ⟨wx16.heap.size, 1, none⟩ (.string (strB (76 :: leafB ps)))) = vx17 at *
      have hby : (76 :: leafB ps).length ≤ 140737488355328 := by have := leafB_le hok2; simp only [List.length_cons]; omega
      have hK := takeLeaf_any vx17 (76 :: leafB ps) hby
      unfold LeafSaid at hK
      rw [(takenLeaf_iff _ hby ps).2 ⟨hok2, rfl⟩] at hK
      simp only at hK
      refine hK.mono ?_
      rintro e yx17 ⟨⟨vvx17, rfl, ownx17⟩, hb2x17⟩
      clear hK hby hgx17
      clear cax170 cax171 fax170 fax171
      have zfx17b := (hb2x17.block _ (lt_of_heap zfx17a)).trans zfx17a
      have znx17b := (hb2x17.block _ (lt_of_heap znx17a)).trans znx17a
      have zcx17b := (hb2x17.block _ (lt_of_heap zcx17a)).trans zcx17a
      have zax17b := (hb2x17.block _ (lt_of_heap zax17a)).trans zax17a
      have Bx17b := Bx17a.trans (hb2x17.mono Bx17a.size)
      have Lfx17b := Lfx17a.past hb2x17
      have Lpx17b := Lpx17a.past hb2x17
      have Lnx17b := Lnx17a.past hb2x17
      have Lcx17b := Lcx17a.past hb2x17
      have Tx17b := Tx17a.keep hb2x17 (Nat.lt_of_lt_of_le h0 Bx17a.size)
      clear hb2x17 zfx17a znx17a zcx17a zax17a Bx17a Lfx17a Lpx17a Lnx17a Lcx17a Tx17a
      obtain ⟨ag, cg, rfl, -⟩ := own_form ownx17
      have lvx17 := ls_of_own pairC_length ownx17
      have lwx17 := lvx17
      clear lvx17
      have hE := sameLeaf_any yx17 ps ps _ _ lwx17 Lpx17b
      rw [decide_eq_true (rfl : ps = ps)] at hE
      clear ownx17 lwx17
      have cfx17b0 := rc (i := 0) zfx17b rfl
      have cfx17b1 := rc (i := 1) zfx17b rfl
      have cnx17b0 := rc (i := 0) znx17b rfl
      have cnx17b1 := rc (i := 1) znx17b rfl
      have ccx17b0 := rc (i := 0) zcx17b rfl
      have ccx17b1 := rc (i := 1) zcx17b rfl
      have ccx17b2 := rc (i := 2) zcx17b rfl
      have ccx17b3 := rc (i := 3) zcx17b rfl
      have ccx17b4 := rc (i := 4) zcx17b rfl
      go_wp2_with fail
      refine hE.mono ?_
      rintro e tx17 ⟨rfl, hb3x17⟩
      clear hE
      clear cfx17b0 cfx17b1 cnx17b0 cnx17b1 ccx17b0 ccx17b1 ccx17b2 ccx17b3 ccx17b4
      have zfx17d := (hb3x17.block _ (lt_of_heap zfx17b)).trans zfx17b
      have znx17d := (hb3x17.block _ (lt_of_heap znx17b)).trans znx17b
      have zcx17d := (hb3x17.block _ (lt_of_heap zcx17b)).trans zcx17b
      have zax17d := (hb3x17.block _ (lt_of_heap zax17b)).trans zax17b
      have Bx17d := Bx17b.trans (hb3x17.mono Bx17b.size)
      have Lfx17d := Lfx17b.past hb3x17
      have Lpx17d := Lpx17b.past hb3x17
      have Lnx17d := Lnx17b.past hb3x17
      have Lcx17d := Lcx17b.past hb3x17
      have Tx17d := Tx17b.keep hb3x17 (Nat.lt_of_lt_of_le h0 Bx17b.size)
      clear hb3x17 zfx17b znx17b zcx17b zax17b Bx17b Lfx17b Lpx17b Lnx17b Lcx17b Tx17b
      by_cases hok3 : branchOk ltB n = true
      · skip
        have hM := branch_any tx17 n _ Lnx17d Tx17d
        rw [hok3, made_yes] at hM
        generalize sha (66 :: branchB n) = S3 at hM
        have cfx17d0 := rc (i := 0) zfx17d rfl
        have cfx17d1 := rc (i := 1) zfx17d rfl
        have cnx17d0 := rc (i := 0) znx17d rfl
        have cnx17d1 := rc (i := 1) znx17d rfl
        have ccx17d0 := rc (i := 0) zcx17d rfl
        have ccx17d1 := rc (i := 1) zcx17d rfl
        have ccx17d2 := rc (i := 2) zcx17d rfl
        have ccx17d3 := rc (i := 3) zcx17d rfl
        have ccx17d4 := rc (i := 4) zcx17d rfl
        go_wp2_with fail
        refine hM.mono ?_
        rintro e wx18 ⟨rfl, hbx18⟩
        clear hM
        clear cfx17d0 cfx17d1 cnx17d0 cnx17d1 ccx17d0 ccx17d1 ccx17d2 ccx17d3 ccx17d4
        have zfx18 := (hbx18.block _ (lt_of_heap zfx17d)).trans zfx17d
        have znx18 := (hbx18.block _ (lt_of_heap znx17d)).trans znx17d
        have zcx18 := (hbx18.block _ (lt_of_heap zcx17d)).trans zcx17d
        have zax18 := (hbx18.block _ (lt_of_heap zax17d)).trans zax17d
        have Bx18 := Bx17d.trans (hbx18.mono Bx17d.size)
        have Lfx18 := Lfx17d.past hbx18
        have Lpx18 := Lpx17d.past hbx18
        have Lnx18 := Lnx17d.past hbx18
        have Lcx18 := Lcx17d.past hbx18
        have Tx18 := Tx17d.keep hbx18 (Nat.lt_of_lt_of_le h0 Bx17d.size)
        clear hbx18 zfx17d znx17d zcx17d zax17d Bx17d Lfx17d Lpx17d Lnx17d Lcx17d Tx17d
        have cax180 := rc (i := 0) zax18 rfl
        have cax181 := rc (i := 1) zax18 rfl
        have fax180 := frozen0 (j := 0) zax18
        have fax181 := frozen0 (j := 1) zax18
        have zax18a : ((wx18.setCell ⟨wx16.heap.size, 0, none⟩ (.string (strB (S3)))).setCell ⟨wx16.heap.size, 1, none⟩ (.string (strB (66 :: branchB n)))).heap[wx16.heap.size]? = some (.cells #[.string (strB (S3)), .string (strB (66 :: branchB n))] 27) := heap_set2 zax18
        have zfx18a : ((wx18.setCell ⟨wx16.heap.size, 0, none⟩ (.string (strB (S3)))).setCell ⟨wx16.heap.size, 1, none⟩ (.string (strB (66 :: branchB n)))).heap[w.heap.size]? = some (.cells #[.int .i64 f.1, .slice af f.2.length cf] 24) := ((gb_set _ (wx16.heap.size) 1 _).block _ (Nat.lt_of_lt_of_le (lt_of_heap zfx18) (gb_set _ (wx16.heap.size) 0 _).size) (fun e => by injection e with e; omega)).trans (((gb_set wx18 (wx16.heap.size) 0 _).block _ (lt_of_heap zfx18) (fun e => by injection e with e; omega)).trans zfx18)
        have znx18a : ((wx18.setCell ⟨wx16.heap.size, 0, none⟩ (.string (strB (S3)))).setCell ⟨wx16.heap.size, 1, none⟩ (.string (strB (66 :: branchB n)))).heap[w.heap.size + 1]? = some (.cells #[.int .i64 n.1, .slice an n.2.length cn] 41) := ((gb_set _ (wx16.heap.size) 1 _).block _ (Nat.lt_of_lt_of_le (lt_of_heap znx18) (gb_set _ (wx16.heap.size) 0 _).size) (fun e => by injection e with e; omega)).trans (((gb_set wx18 (wx16.heap.size) 0 _).block _ (lt_of_heap znx18) (fun e => by injection e with e; omega)).trans znx18)
        have zcx18a : ((wx18.setCell ⟨wx16.heap.size, 0, none⟩ (.string (strB (S3)))).setCell ⟨wx16.heap.size, 1, none⟩ (.string (strB (66 :: branchB n)))).heap[w.heap.size + 2]? = some (.cells #[.string (strB c.1), .slice ac c.2.1.length cc, .string (strB c.2.2.1), .int .i64 c.2.2.2.1, .string (strB c.2.2.2.2)] 54) := ((gb_set _ (wx16.heap.size) 1 _).block _ (Nat.lt_of_lt_of_le (lt_of_heap zcx18) (gb_set _ (wx16.heap.size) 0 _).size) (fun e => by injection e with e; omega)).trans (((gb_set wx18 (wx16.heap.size) 0 _).block _ (lt_of_heap zcx18) (fun e => by injection e with e; omega)).trans zcx18)
        have Bx18a := (Bx18.setCell (p := ⟨wx16.heap.size, 0, none⟩) (by simp; omega) (.string (strB (S3)))).setCell (p := ⟨wx16.heap.size, 1, none⟩) (by simp; omega) (.string (strB (66 :: branchB n)))
        have Lfx18a : Ls ((wx18.setCell ⟨wx16.heap.size, 0, none⟩ (.string (strB (S3)))).setCell ⟨wx16.heap.size, 1, none⟩ (.string (strB (66 :: branchB n)))).heap.size ((wx18.setCell ⟨wx16.heap.size, 0, none⟩ (.string (strB (S3)))).setCell ⟨wx16.heap.size, 1, none⟩ (.string (strB (66 :: branchB n)))) _ _ _ _ := ((Lf0.keep Bx18a)).up Bx18a.size
        have Lpx18a : Ls ((wx18.setCell ⟨wx16.heap.size, 0, none⟩ (.string (strB (S3)))).setCell ⟨wx16.heap.size, 1, none⟩ (.string (strB (66 :: branchB n)))).heap.size ((wx18.setCell ⟨wx16.heap.size, 0, none⟩ (.string (strB (S3)))).setCell ⟨wx16.heap.size, 1, none⟩ (.string (strB (66 :: branchB n)))) _ _ _ _ := ((Lp0.keep Bx18a)).up Bx18a.size
        have Lnx18a : Ls ((wx18.setCell ⟨wx16.heap.size, 0, none⟩ (.string (strB (S3)))).setCell ⟨wx16.heap.size, 1, none⟩ (.string (strB (66 :: branchB n)))).heap.size ((wx18.setCell ⟨wx16.heap.size, 0, none⟩ (.string (strB (S3)))).setCell ⟨wx16.heap.size, 1, none⟩ (.string (strB (66 :: branchB n)))) _ _ _ _ := ((Ln0.keep Bx18a)).up Bx18a.size
        have Lcx18a : Ls ((wx18.setCell ⟨wx16.heap.size, 0, none⟩ (.string (strB (S3)))).setCell ⟨wx16.heap.size, 1, none⟩ (.string (strB (66 :: branchB n)))).heap.size ((wx18.setCell ⟨wx16.heap.size, 0, none⟩ (.string (strB (S3)))).setCell ⟨wx16.heap.size, 1, none⟩ (.string (strB (66 :: branchB n)))) _ _ _ _ := ((Lc0.keep Bx18a)).up Bx18a.size
        have Tx18a := hT.keep Bx18a h0
        clear zfx18 znx18 zcx18 zax18 Bx18 Lfx18 Lpx18 Lnx18 Lcx18 Tx18
        go_wp2_with fail
        generalize hgx18 : ((wx18.setCell ⟨wx16.heap.size, 0, none⟩ (.string (strB (S3)))).setCell ⟨wx16.heap.size, 1, none⟩ (.string (strB (66 :: branchB n)))) = vx18 at *
        have hby : (66 :: branchB n).length ≤ 140737488355328 := by have := (branchB_le hok3).1; simp only [List.length_cons]; omega
        have hK := takeBranch_any vx18 (66 :: branchB n) hby
        unfold branchSaid at hK
        rw [(takenBranch_iff _ hby n).2 ⟨hok3, rfl⟩] at hK
        simp only at hK
        refine hK.mono ?_
        rintro e yx18 ⟨⟨vvx18, rfl, ownx18⟩, hb2x18⟩
        clear hK hby hgx18
        clear cax180 cax181 fax180 fax181
        have zfx18b := (hb2x18.block _ (lt_of_heap zfx18a)).trans zfx18a
        have znx18b := (hb2x18.block _ (lt_of_heap znx18a)).trans znx18a
        have zcx18b := (hb2x18.block _ (lt_of_heap zcx18a)).trans zcx18a
        have zax18b := (hb2x18.block _ (lt_of_heap zax18a)).trans zax18a
        have Bx18b := Bx18a.trans (hb2x18.mono Bx18a.size)
        have Lfx18b := Lfx18a.past hb2x18
        have Lpx18b := Lpx18a.past hb2x18
        have Lnx18b := Lnx18a.past hb2x18
        have Lcx18b := Lcx18a.past hb2x18
        have Tx18b := Tx18a.keep hb2x18 (Nat.lt_of_lt_of_le h0 Bx18a.size)
        clear hb2x18 zfx18a znx18a zcx18a zax18a Bx18a Lfx18a Lpx18a Lnx18a Lcx18a Tx18a
        obtain ⟨ag, cg, rfl, -⟩ := own_form ownx18
        have lvx18 := ls_of_own linkC_length ownx18
        have hq2x18 : Below yx18.heap.size yx18 (yx18.alloc (.cells #[.int .i64 n.1, .slice ag n.2.length cg] 41)) := (Below.refl _ _).alloc (Nat.le_refl _) _
        have zgx18 := heap_last yx18 (.cells #[.int .i64 n.1, .slice ag n.2.length cg] 41) _ rfl
        have lwx18 := lvx18.past hq2x18
        clear lvx18
        have zfx18c := (hq2x18.block _ (lt_of_heap zfx18b)).trans zfx18b
        have znx18c := (hq2x18.block _ (lt_of_heap znx18b)).trans znx18b
        have zcx18c := (hq2x18.block _ (lt_of_heap zcx18b)).trans zcx18b
        have zax18c := (hq2x18.block _ (lt_of_heap zax18b)).trans zax18b
        have Bx18c := Bx18b.trans (hq2x18.mono Bx18b.size)
        have Lfx18c := Lfx18b.past hq2x18
        have Lpx18c := Lpx18b.past hq2x18
        have Lnx18c := Lnx18b.past hq2x18
        have Lcx18c := Lcx18b.past hq2x18
        have Tx18c := Tx18b.keep hq2x18 (Nat.lt_of_lt_of_le h0 Bx18b.size)
        clear hq2x18 zfx18b znx18b zcx18b zax18b Bx18b Lfx18b Lpx18b Lnx18b Lcx18b Tx18b
        have hE := sameBranch_any (yx18.alloc (.cells #[.int .i64 n.1, .slice ag n.2.length cg] 41)) n.1 n.1 n.2 n.2 _ _ lwx18 Lnx18c
        rw [decide_eq_true (rfl : (n.1, n.2) = (n.1, n.2))] at hE
        clear ownx18 lwx18
        have cfx18c0 := rc (i := 0) zfx18c rfl
        have cfx18c1 := rc (i := 1) zfx18c rfl
        have cnx18c0 := rc (i := 0) znx18c rfl
        have cnx18c1 := rc (i := 1) znx18c rfl
        have ccx18c0 := rc (i := 0) zcx18c rfl
        have ccx18c1 := rc (i := 1) zcx18c rfl
        have ccx18c2 := rc (i := 2) zcx18c rfl
        have ccx18c3 := rc (i := 3) zcx18c rfl
        have ccx18c4 := rc (i := 4) zcx18c rfl
        go_wp2_with fail
        generalize hg2x18 : (yx18.alloc (.cells #[.int .i64 n.1, .slice ag n.2.length cg] 41)) = zx18 at *
        refine hE.mono ?_
        rintro e tx18 ⟨rfl, hb3x18⟩
        clear hE
        clear cfx18c0 cfx18c1 cnx18c0 cnx18c1 ccx18c0 ccx18c1 ccx18c2 ccx18c3 ccx18c4
        have zfx18d := (hb3x18.block _ (lt_of_heap zfx18c)).trans zfx18c
        have znx18d := (hb3x18.block _ (lt_of_heap znx18c)).trans znx18c
        have zcx18d := (hb3x18.block _ (lt_of_heap zcx18c)).trans zcx18c
        have zax18d := (hb3x18.block _ (lt_of_heap zax18c)).trans zax18c
        have Bx18d := Bx18c.trans (hb3x18.mono Bx18c.size)
        have Lfx18d := Lfx18c.past hb3x18
        have Lpx18d := Lpx18c.past hb3x18
        have Lnx18d := Lnx18c.past hb3x18
        have Lcx18d := Lcx18c.past hb3x18
        have Tx18d := Tx18c.keep hb3x18 (Nat.lt_of_lt_of_le h0 Bx18c.size)
        clear hb3x18 zfx18c znx18c zcx18c zax18c Bx18c Lfx18c Lpx18c Lnx18c Lcx18c Tx18c
        clear zgx18 hg2x18
        by_cases hok4 : commitOk c = true
        · skip
          have hM := commit_any tx18 c _ Lcx18d Tx18d
          rw [hok4, made_yes] at hM
          generalize sha (75 :: commitB c) = S4 at hM
          have cfx18d0 := rc (i := 0) zfx18d rfl
          have cfx18d1 := rc (i := 1) zfx18d rfl
          have cnx18d0 := rc (i := 0) znx18d rfl
          have cnx18d1 := rc (i := 1) znx18d rfl
          have ccx18d0 := rc (i := 0) zcx18d rfl
          have ccx18d1 := rc (i := 1) zcx18d rfl
          have ccx18d2 := rc (i := 2) zcx18d rfl
          have ccx18d3 := rc (i := 3) zcx18d rfl
          have ccx18d4 := rc (i := 4) zcx18d rfl
          go_wp2_with fail
          refine hM.mono ?_
          rintro e wx19 ⟨rfl, hbx19⟩
          clear hM
          clear cfx18d0 cfx18d1 cnx18d0 cnx18d1 ccx18d0 ccx18d1 ccx18d2 ccx18d3 ccx18d4
          have zfx19 := (hbx19.block _ (lt_of_heap zfx18d)).trans zfx18d
          have znx19 := (hbx19.block _ (lt_of_heap znx18d)).trans znx18d
          have zcx19 := (hbx19.block _ (lt_of_heap zcx18d)).trans zcx18d
          have zax19 := (hbx19.block _ (lt_of_heap zax18d)).trans zax18d
          have Bx19 := Bx18d.trans (hbx19.mono Bx18d.size)
          have Lfx19 := Lfx18d.past hbx19
          have Lpx19 := Lpx18d.past hbx19
          have Lnx19 := Lnx18d.past hbx19
          have Lcx19 := Lcx18d.past hbx19
          have Tx19 := Tx18d.keep hbx19 (Nat.lt_of_lt_of_le h0 Bx18d.size)
          clear hbx19 zfx18d znx18d zcx18d zax18d Bx18d Lfx18d Lpx18d Lnx18d Lcx18d Tx18d
          have cax190 := rc (i := 0) zax19 rfl
          have cax191 := rc (i := 1) zax19 rfl
          have fax190 := frozen0 (j := 0) zax19
          have fax191 := frozen0 (j := 1) zax19
          have zax19a : ((wx19.setCell ⟨wx16.heap.size, 0, none⟩ (.string (strB (S4)))).setCell ⟨wx16.heap.size, 1, none⟩ (.string (strB (75 :: commitB c)))).heap[wx16.heap.size]? = some (.cells #[.string (strB (S4)), .string (strB (75 :: commitB c))] 27) := heap_set2 zax19
          have zfx19a : ((wx19.setCell ⟨wx16.heap.size, 0, none⟩ (.string (strB (S4)))).setCell ⟨wx16.heap.size, 1, none⟩ (.string (strB (75 :: commitB c)))).heap[w.heap.size]? = some (.cells #[.int .i64 f.1, .slice af f.2.length cf] 24) := ((gb_set _ (wx16.heap.size) 1 _).block _ (Nat.lt_of_lt_of_le (lt_of_heap zfx19) (gb_set _ (wx16.heap.size) 0 _).size) (fun e => by injection e with e; omega)).trans (((gb_set wx19 (wx16.heap.size) 0 _).block _ (lt_of_heap zfx19) (fun e => by injection e with e; omega)).trans zfx19)
          have znx19a : ((wx19.setCell ⟨wx16.heap.size, 0, none⟩ (.string (strB (S4)))).setCell ⟨wx16.heap.size, 1, none⟩ (.string (strB (75 :: commitB c)))).heap[w.heap.size + 1]? = some (.cells #[.int .i64 n.1, .slice an n.2.length cn] 41) := ((gb_set _ (wx16.heap.size) 1 _).block _ (Nat.lt_of_lt_of_le (lt_of_heap znx19) (gb_set _ (wx16.heap.size) 0 _).size) (fun e => by injection e with e; omega)).trans (((gb_set wx19 (wx16.heap.size) 0 _).block _ (lt_of_heap znx19) (fun e => by injection e with e; omega)).trans znx19)
          have zcx19a : ((wx19.setCell ⟨wx16.heap.size, 0, none⟩ (.string (strB (S4)))).setCell ⟨wx16.heap.size, 1, none⟩ (.string (strB (75 :: commitB c)))).heap[w.heap.size + 2]? = some (.cells #[.string (strB c.1), .slice ac c.2.1.length cc, .string (strB c.2.2.1), .int .i64 c.2.2.2.1, .string (strB c.2.2.2.2)] 54) := ((gb_set _ (wx16.heap.size) 1 _).block _ (Nat.lt_of_lt_of_le (lt_of_heap zcx19) (gb_set _ (wx16.heap.size) 0 _).size) (fun e => by injection e with e; omega)).trans (((gb_set wx19 (wx16.heap.size) 0 _).block _ (lt_of_heap zcx19) (fun e => by injection e with e; omega)).trans zcx19)
          have Bx19a := (Bx19.setCell (p := ⟨wx16.heap.size, 0, none⟩) (by simp; omega) (.string (strB (S4)))).setCell (p := ⟨wx16.heap.size, 1, none⟩) (by simp; omega) (.string (strB (75 :: commitB c)))
          have Lfx19a : Ls ((wx19.setCell ⟨wx16.heap.size, 0, none⟩ (.string (strB (S4)))).setCell ⟨wx16.heap.size, 1, none⟩ (.string (strB (75 :: commitB c)))).heap.size ((wx19.setCell ⟨wx16.heap.size, 0, none⟩ (.string (strB (S4)))).setCell ⟨wx16.heap.size, 1, none⟩ (.string (strB (75 :: commitB c)))) _ _ _ _ := ((Lf0.keep Bx19a)).up Bx19a.size
          have Lpx19a : Ls ((wx19.setCell ⟨wx16.heap.size, 0, none⟩ (.string (strB (S4)))).setCell ⟨wx16.heap.size, 1, none⟩ (.string (strB (75 :: commitB c)))).heap.size ((wx19.setCell ⟨wx16.heap.size, 0, none⟩ (.string (strB (S4)))).setCell ⟨wx16.heap.size, 1, none⟩ (.string (strB (75 :: commitB c)))) _ _ _ _ := ((Lp0.keep Bx19a)).up Bx19a.size
          have Lnx19a : Ls ((wx19.setCell ⟨wx16.heap.size, 0, none⟩ (.string (strB (S4)))).setCell ⟨wx16.heap.size, 1, none⟩ (.string (strB (75 :: commitB c)))).heap.size ((wx19.setCell ⟨wx16.heap.size, 0, none⟩ (.string (strB (S4)))).setCell ⟨wx16.heap.size, 1, none⟩ (.string (strB (75 :: commitB c)))) _ _ _ _ := ((Ln0.keep Bx19a)).up Bx19a.size
          have Lcx19a : Ls ((wx19.setCell ⟨wx16.heap.size, 0, none⟩ (.string (strB (S4)))).setCell ⟨wx16.heap.size, 1, none⟩ (.string (strB (75 :: commitB c)))).heap.size ((wx19.setCell ⟨wx16.heap.size, 0, none⟩ (.string (strB (S4)))).setCell ⟨wx16.heap.size, 1, none⟩ (.string (strB (75 :: commitB c)))) _ _ _ _ := ((Lc0.keep Bx19a)).up Bx19a.size
          have Tx19a := hT.keep Bx19a h0
          clear zfx19 znx19 zcx19 zax19 Bx19 Lfx19 Lpx19 Lnx19 Lcx19 Tx19
          go_wp2_with fail
          generalize hgx19 : ((wx19.setCell ⟨wx16.heap.size, 0, none⟩ (.string (strB (S4)))).setCell ⟨wx16.heap.size, 1, none⟩ (.string (strB (75 :: commitB c)))) = vx19 at *
          have hby : (75 :: commitB c).length ≤ 140737488355328 := by have := (commitB_le hok4).1; simp only [List.length_cons]; omega
          have hK := takeCommit_any vx19 (75 :: commitB c) hby
          unfold commitSaid at hK
          rw [(takenCommit_iff _ hby c).2 ⟨hok4, rfl⟩] at hK
          simp only at hK
          refine hK.mono ?_
          rintro e yx19 ⟨⟨vvx19, rfl, ownx19⟩, hb2x19⟩
          clear hK hby hgx19
          clear cax190 cax191 fax190 fax191
          have zfx19b := (hb2x19.block _ (lt_of_heap zfx19a)).trans zfx19a
          have znx19b := (hb2x19.block _ (lt_of_heap znx19a)).trans znx19a
          have zcx19b := (hb2x19.block _ (lt_of_heap zcx19a)).trans zcx19a
          have zax19b := (hb2x19.block _ (lt_of_heap zax19a)).trans zax19a
          have Bx19b := Bx19a.trans (hb2x19.mono Bx19a.size)
          have Lfx19b := Lfx19a.past hb2x19
          have Lpx19b := Lpx19a.past hb2x19
          have Lnx19b := Lnx19a.past hb2x19
          have Lcx19b := Lcx19a.past hb2x19
          have Tx19b := Tx19a.keep hb2x19 (Nat.lt_of_lt_of_le h0 Bx19a.size)
          clear hb2x19 zfx19a znx19a zcx19a zax19a Bx19a Lfx19a Lpx19a Lnx19a Lcx19a Tx19a
          obtain ⟨ag, cg, rfl, -⟩ := own_form ownx19
          have lvx19 := ls_of_own idC_length ownx19
          have hq2x19 : Below yx19.heap.size yx19 (yx19.alloc (.cells #[.string (strB c.1), .slice ag c.2.1.length cg, .string (strB c.2.2.1), .int .i64 c.2.2.2.1, .string (strB c.2.2.2.2)] 54)) := (Below.refl _ _).alloc (Nat.le_refl _) _
          have zgx19 := heap_last yx19 (.cells #[.string (strB c.1), .slice ag c.2.1.length cg, .string (strB c.2.2.1), .int .i64 c.2.2.2.1, .string (strB c.2.2.2.2)] 54) _ rfl
          have lwx19 := lvx19.past hq2x19
          clear lvx19
          have zfx19c := (hq2x19.block _ (lt_of_heap zfx19b)).trans zfx19b
          have znx19c := (hq2x19.block _ (lt_of_heap znx19b)).trans znx19b
          have zcx19c := (hq2x19.block _ (lt_of_heap zcx19b)).trans zcx19b
          have zax19c := (hq2x19.block _ (lt_of_heap zax19b)).trans zax19b
          have Bx19c := Bx19b.trans (hq2x19.mono Bx19b.size)
          have Lfx19c := Lfx19b.past hq2x19
          have Lpx19c := Lpx19b.past hq2x19
          have Lnx19c := Lnx19b.past hq2x19
          have Lcx19c := Lcx19b.past hq2x19
          have Tx19c := Tx19b.keep hq2x19 (Nat.lt_of_lt_of_le h0 Bx19b.size)
          clear hq2x19 zfx19b znx19b zcx19b zax19b Bx19b Lfx19b Lpx19b Lnx19b Lcx19b Tx19b
          have hE := sameCommit_any (yx19.alloc (.cells #[.string (strB c.1), .slice ag c.2.1.length cg, .string (strB c.2.2.1), .int .i64 c.2.2.2.1, .string (strB c.2.2.2.2)] 54)) c c _ _ Lcx19c lwx19
          rw [decide_eq_true (rfl : c = c)] at hE
          clear ownx19 lwx19
          have cfx19c0 := rc (i := 0) zfx19c rfl
          have cfx19c1 := rc (i := 1) zfx19c rfl
          have cnx19c0 := rc (i := 0) znx19c rfl
          have cnx19c1 := rc (i := 1) znx19c rfl
          have ccx19c0 := rc (i := 0) zcx19c rfl
          have ccx19c1 := rc (i := 1) zcx19c rfl
          have ccx19c2 := rc (i := 2) zcx19c rfl
          have ccx19c3 := rc (i := 3) zcx19c rfl
          have ccx19c4 := rc (i := 4) zcx19c rfl
          go_wp2_with fail
          generalize hg2x19 : (yx19.alloc (.cells #[.string (strB c.1), .slice ag c.2.1.length cg, .string (strB c.2.2.1), .int .i64 c.2.2.2.1, .string (strB c.2.2.2.2)] 54)) = zx19 at *
          refine hE.mono ?_
          rintro e tx19 ⟨rfl, hb3x19⟩
          clear hE
          clear cfx19c0 cfx19c1 cnx19c0 cnx19c1 ccx19c0 ccx19c1 ccx19c2 ccx19c3 ccx19c4
          have zfx19d := (hb3x19.block _ (lt_of_heap zfx19c)).trans zfx19c
          have znx19d := (hb3x19.block _ (lt_of_heap znx19c)).trans znx19c
          have zcx19d := (hb3x19.block _ (lt_of_heap zcx19c)).trans zcx19c
          have zax19d := (hb3x19.block _ (lt_of_heap zax19c)).trans zax19c
          have Bx19d := Bx19c.trans (hb3x19.mono Bx19c.size)
          have Lfx19d := Lfx19c.past hb3x19
          have Lpx19d := Lpx19c.past hb3x19
          have Lnx19d := Lnx19c.past hb3x19
          have Lcx19d := Lcx19c.past hb3x19
          have Tx19d := Tx19c.keep hb3x19 (Nat.lt_of_lt_of_le h0 Bx19c.size)
          clear hb3x19 zfx19c znx19c zcx19c zax19c Bx19c Lfx19c Lpx19c Lnx19c Lcx19c Tx19c
          clear zgx19 hg2x19
          go_wp2
          go_ret
          exact ⟨ret_bool (by first | rfl | simp), Bx19d⟩
        · have hok4 := Bool.eq_false_iff.2 hok4
          have hM := commit_any tx18 c _ Lcx18d Tx18d
          rw [hok4, made_no] at hM
          have cfx18d0 := rc (i := 0) zfx18d rfl
          have cfx18d1 := rc (i := 1) zfx18d rfl
          have cnx18d0 := rc (i := 0) znx18d rfl
          have cnx18d1 := rc (i := 1) znx18d rfl
          have ccx18d0 := rc (i := 0) zcx18d rfl
          have ccx18d1 := rc (i := 1) zcx18d rfl
          have ccx18d2 := rc (i := 2) zcx18d rfl
          have ccx18d3 := rc (i := 3) zcx18d rfl
          have ccx18d4 := rc (i := 4) zcx18d rfl
          go_wp2_with fail
          refine hM.mono ?_
          rintro e wx20 ⟨rfl, hbx20⟩
          clear hM
          clear cfx18d0 cfx18d1 cnx18d0 cnx18d1 ccx18d0 ccx18d1 ccx18d2 ccx18d3 ccx18d4
          have zfx20 := (hbx20.block _ (lt_of_heap zfx18d)).trans zfx18d
          have znx20 := (hbx20.block _ (lt_of_heap znx18d)).trans znx18d
          have zcx20 := (hbx20.block _ (lt_of_heap zcx18d)).trans zcx18d
          have zax20 := (hbx20.block _ (lt_of_heap zax18d)).trans zax18d
          have Bx20 := Bx18d.trans (hbx20.mono Bx18d.size)
          have Lfx20 := Lfx18d.past hbx20
          have Lpx20 := Lpx18d.past hbx20
          have Lnx20 := Lnx18d.past hbx20
          have Lcx20 := Lcx18d.past hbx20
          have Tx20 := Tx18d.keep hbx20 (Nat.lt_of_lt_of_le h0 Bx18d.size)
          clear hbx20 zfx18d znx18d zcx18d zax18d Bx18d Lfx18d Lpx18d Lnx18d Lcx18d Tx18d
          have cax200 := rc (i := 0) zax20 rfl
          have cax201 := rc (i := 1) zax20 rfl
          have fax200 := frozen0 (j := 0) zax20
          have fax201 := frozen0 (j := 1) zax20
          have zax20a : ((wx20.setCell ⟨wx16.heap.size, 0, none⟩ (.string (strB (([] : Bs))))).setCell ⟨wx16.heap.size, 1, none⟩ (.string (strB (([] : Bs))))).heap[wx16.heap.size]? = some (.cells #[.string (strB (([] : Bs))), .string (strB (([] : Bs)))] 27) := heap_set2 zax20
          have zfx20a : ((wx20.setCell ⟨wx16.heap.size, 0, none⟩ (.string (strB (([] : Bs))))).setCell ⟨wx16.heap.size, 1, none⟩ (.string (strB (([] : Bs))))).heap[w.heap.size]? = some (.cells #[.int .i64 f.1, .slice af f.2.length cf] 24) := ((gb_set _ (wx16.heap.size) 1 _).block _ (Nat.lt_of_lt_of_le (lt_of_heap zfx20) (gb_set _ (wx16.heap.size) 0 _).size) (fun e => by injection e with e; omega)).trans (((gb_set wx20 (wx16.heap.size) 0 _).block _ (lt_of_heap zfx20) (fun e => by injection e with e; omega)).trans zfx20)
          have znx20a : ((wx20.setCell ⟨wx16.heap.size, 0, none⟩ (.string (strB (([] : Bs))))).setCell ⟨wx16.heap.size, 1, none⟩ (.string (strB (([] : Bs))))).heap[w.heap.size + 1]? = some (.cells #[.int .i64 n.1, .slice an n.2.length cn] 41) := ((gb_set _ (wx16.heap.size) 1 _).block _ (Nat.lt_of_lt_of_le (lt_of_heap znx20) (gb_set _ (wx16.heap.size) 0 _).size) (fun e => by injection e with e; omega)).trans (((gb_set wx20 (wx16.heap.size) 0 _).block _ (lt_of_heap znx20) (fun e => by injection e with e; omega)).trans znx20)
          have zcx20a : ((wx20.setCell ⟨wx16.heap.size, 0, none⟩ (.string (strB (([] : Bs))))).setCell ⟨wx16.heap.size, 1, none⟩ (.string (strB (([] : Bs))))).heap[w.heap.size + 2]? = some (.cells #[.string (strB c.1), .slice ac c.2.1.length cc, .string (strB c.2.2.1), .int .i64 c.2.2.2.1, .string (strB c.2.2.2.2)] 54) := ((gb_set _ (wx16.heap.size) 1 _).block _ (Nat.lt_of_lt_of_le (lt_of_heap zcx20) (gb_set _ (wx16.heap.size) 0 _).size) (fun e => by injection e with e; omega)).trans (((gb_set wx20 (wx16.heap.size) 0 _).block _ (lt_of_heap zcx20) (fun e => by injection e with e; omega)).trans zcx20)
          have Bx20a := (Bx20.setCell (p := ⟨wx16.heap.size, 0, none⟩) (by simp; omega) (.string (strB (([] : Bs))))).setCell (p := ⟨wx16.heap.size, 1, none⟩) (by simp; omega) (.string (strB (([] : Bs))))
          have Lfx20a : Ls ((wx20.setCell ⟨wx16.heap.size, 0, none⟩ (.string (strB (([] : Bs))))).setCell ⟨wx16.heap.size, 1, none⟩ (.string (strB (([] : Bs))))).heap.size ((wx20.setCell ⟨wx16.heap.size, 0, none⟩ (.string (strB (([] : Bs))))).setCell ⟨wx16.heap.size, 1, none⟩ (.string (strB (([] : Bs))))) _ _ _ _ := ((Lf0.keep Bx20a)).up Bx20a.size
          have Lpx20a : Ls ((wx20.setCell ⟨wx16.heap.size, 0, none⟩ (.string (strB (([] : Bs))))).setCell ⟨wx16.heap.size, 1, none⟩ (.string (strB (([] : Bs))))).heap.size ((wx20.setCell ⟨wx16.heap.size, 0, none⟩ (.string (strB (([] : Bs))))).setCell ⟨wx16.heap.size, 1, none⟩ (.string (strB (([] : Bs))))) _ _ _ _ := ((Lp0.keep Bx20a)).up Bx20a.size
          have Lnx20a : Ls ((wx20.setCell ⟨wx16.heap.size, 0, none⟩ (.string (strB (([] : Bs))))).setCell ⟨wx16.heap.size, 1, none⟩ (.string (strB (([] : Bs))))).heap.size ((wx20.setCell ⟨wx16.heap.size, 0, none⟩ (.string (strB (([] : Bs))))).setCell ⟨wx16.heap.size, 1, none⟩ (.string (strB (([] : Bs))))) _ _ _ _ := ((Ln0.keep Bx20a)).up Bx20a.size
          have Lcx20a : Ls ((wx20.setCell ⟨wx16.heap.size, 0, none⟩ (.string (strB (([] : Bs))))).setCell ⟨wx16.heap.size, 1, none⟩ (.string (strB (([] : Bs))))).heap.size ((wx20.setCell ⟨wx16.heap.size, 0, none⟩ (.string (strB (([] : Bs))))).setCell ⟨wx16.heap.size, 1, none⟩ (.string (strB (([] : Bs))))) _ _ _ _ := ((Lc0.keep Bx20a)).up Bx20a.size
          have Tx20a := hT.keep Bx20a h0
          clear zfx20 znx20 zcx20 zax20 Bx20 Lfx20 Lpx20 Lnx20 Lcx20 Tx20
          go_wp2_with fail
          generalize hgx20 : ((wx20.setCell ⟨wx16.heap.size, 0, none⟩ (.string (strB (([] : Bs))))).setCell ⟨wx16.heap.size, 1, none⟩ (.string (strB (([] : Bs))))) = vx20 at *
          have hby : (([] : Bs)).length ≤ 140737488355328 := by simp
          have hK := takeCommit_any vx20 (([] : Bs)) hby
          unfold commitSaid at hK
          rw [takenCommit_nil] at hK
          simp only at hK
          refine hK.mono ?_
          rintro e yx20 ⟨rfl, hb2x20⟩
          clear hK hby hgx20
          clear cax200 cax201 fax200 fax201
          have zfx20b := (hb2x20.block _ (lt_of_heap zfx20a)).trans zfx20a
          have znx20b := (hb2x20.block _ (lt_of_heap znx20a)).trans znx20a
          have zcx20b := (hb2x20.block _ (lt_of_heap zcx20a)).trans zcx20a
          have zax20b := (hb2x20.block _ (lt_of_heap zax20a)).trans zax20a
          have Bx20b := Bx20a.trans (hb2x20.mono Bx20a.size)
          have Lfx20b := Lfx20a.past hb2x20
          have Lpx20b := Lpx20a.past hb2x20
          have Lnx20b := Lnx20a.past hb2x20
          have Lcx20b := Lcx20a.past hb2x20
          have Tx20b := Tx20a.keep hb2x20 (Nat.lt_of_lt_of_le h0 Bx20a.size)
          clear hb2x20 zfx20a znx20a zcx20a zax20a Bx20a Lfx20a Lpx20a Lnx20a Lcx20a Tx20a
          have hq2x20 : Below yx20.heap.size yx20 (yx20.alloc (.cells #[.string ⟨#[]⟩, .slice none 0 0, .string ⟨#[]⟩, .int .i64 0, .string ⟨#[]⟩] 54)) := (Below.refl _ _).alloc (Nat.le_refl _) _
          have zgx20 := heap_last yx20 (.cells #[.string ⟨#[]⟩, .slice none 0 0, .string ⟨#[]⟩, .int .i64 0, .string ⟨#[]⟩] 54) _ rfl
          have zfx20c := (hq2x20.block _ (lt_of_heap zfx20b)).trans zfx20b
          have znx20c := (hq2x20.block _ (lt_of_heap znx20b)).trans znx20b
          have zcx20c := (hq2x20.block _ (lt_of_heap zcx20b)).trans zcx20b
          have zax20c := (hq2x20.block _ (lt_of_heap zax20b)).trans zax20b
          have Bx20c := Bx20b.trans (hq2x20.mono Bx20b.size)
          have Lfx20c := Lfx20b.past hq2x20
          have Lpx20c := Lpx20b.past hq2x20
          have Lnx20c := Lnx20b.past hq2x20
          have Lcx20c := Lcx20b.past hq2x20
          have Tx20c := Tx20b.keep hq2x20 (Nat.lt_of_lt_of_le h0 Bx20b.size)
          clear hq2x20 zfx20b znx20b zcx20b zax20b Bx20b Lfx20b Lpx20b Lnx20b Lcx20b Tx20b
          go_wp2
          go_ret
          exact ⟨ret_bool (by first | rfl | simp), Bx20c⟩
      · have hok3 := Bool.eq_false_iff.2 hok3
        have hM := branch_any tx17 n _ Lnx17d Tx17d
        rw [hok3, made_no] at hM
        have cfx17d0 := rc (i := 0) zfx17d rfl
        have cfx17d1 := rc (i := 1) zfx17d rfl
        have cnx17d0 := rc (i := 0) znx17d rfl
        have cnx17d1 := rc (i := 1) znx17d rfl
        have ccx17d0 := rc (i := 0) zcx17d rfl
        have ccx17d1 := rc (i := 1) zcx17d rfl
        have ccx17d2 := rc (i := 2) zcx17d rfl
        have ccx17d3 := rc (i := 3) zcx17d rfl
        have ccx17d4 := rc (i := 4) zcx17d rfl
        go_wp2_with fail
        refine hM.mono ?_
        rintro e wx21 ⟨rfl, hbx21⟩
        clear hM
        clear cfx17d0 cfx17d1 cnx17d0 cnx17d1 ccx17d0 ccx17d1 ccx17d2 ccx17d3 ccx17d4
        have zfx21 := (hbx21.block _ (lt_of_heap zfx17d)).trans zfx17d
        have znx21 := (hbx21.block _ (lt_of_heap znx17d)).trans znx17d
        have zcx21 := (hbx21.block _ (lt_of_heap zcx17d)).trans zcx17d
        have zax21 := (hbx21.block _ (lt_of_heap zax17d)).trans zax17d
        have Bx21 := Bx17d.trans (hbx21.mono Bx17d.size)
        have Lfx21 := Lfx17d.past hbx21
        have Lpx21 := Lpx17d.past hbx21
        have Lnx21 := Lnx17d.past hbx21
        have Lcx21 := Lcx17d.past hbx21
        have Tx21 := Tx17d.keep hbx21 (Nat.lt_of_lt_of_le h0 Bx17d.size)
        clear hbx21 zfx17d znx17d zcx17d zax17d Bx17d Lfx17d Lpx17d Lnx17d Lcx17d Tx17d
        have cax210 := rc (i := 0) zax21 rfl
        have cax211 := rc (i := 1) zax21 rfl
        have fax210 := frozen0 (j := 0) zax21
        have fax211 := frozen0 (j := 1) zax21
        have zax21a : ((wx21.setCell ⟨wx16.heap.size, 0, none⟩ (.string (strB (([] : Bs))))).setCell ⟨wx16.heap.size, 1, none⟩ (.string (strB (([] : Bs))))).heap[wx16.heap.size]? = some (.cells #[.string (strB (([] : Bs))), .string (strB (([] : Bs)))] 27) := heap_set2 zax21
        have zfx21a : ((wx21.setCell ⟨wx16.heap.size, 0, none⟩ (.string (strB (([] : Bs))))).setCell ⟨wx16.heap.size, 1, none⟩ (.string (strB (([] : Bs))))).heap[w.heap.size]? = some (.cells #[.int .i64 f.1, .slice af f.2.length cf] 24) := ((gb_set _ (wx16.heap.size) 1 _).block _ (Nat.lt_of_lt_of_le (lt_of_heap zfx21) (gb_set _ (wx16.heap.size) 0 _).size) (fun e => by injection e with e; omega)).trans (((gb_set wx21 (wx16.heap.size) 0 _).block _ (lt_of_heap zfx21) (fun e => by injection e with e; omega)).trans zfx21)
        have znx21a : ((wx21.setCell ⟨wx16.heap.size, 0, none⟩ (.string (strB (([] : Bs))))).setCell ⟨wx16.heap.size, 1, none⟩ (.string (strB (([] : Bs))))).heap[w.heap.size + 1]? = some (.cells #[.int .i64 n.1, .slice an n.2.length cn] 41) := ((gb_set _ (wx16.heap.size) 1 _).block _ (Nat.lt_of_lt_of_le (lt_of_heap znx21) (gb_set _ (wx16.heap.size) 0 _).size) (fun e => by injection e with e; omega)).trans (((gb_set wx21 (wx16.heap.size) 0 _).block _ (lt_of_heap znx21) (fun e => by injection e with e; omega)).trans znx21)
        have zcx21a : ((wx21.setCell ⟨wx16.heap.size, 0, none⟩ (.string (strB (([] : Bs))))).setCell ⟨wx16.heap.size, 1, none⟩ (.string (strB (([] : Bs))))).heap[w.heap.size + 2]? = some (.cells #[.string (strB c.1), .slice ac c.2.1.length cc, .string (strB c.2.2.1), .int .i64 c.2.2.2.1, .string (strB c.2.2.2.2)] 54) := ((gb_set _ (wx16.heap.size) 1 _).block _ (Nat.lt_of_lt_of_le (lt_of_heap zcx21) (gb_set _ (wx16.heap.size) 0 _).size) (fun e => by injection e with e; omega)).trans (((gb_set wx21 (wx16.heap.size) 0 _).block _ (lt_of_heap zcx21) (fun e => by injection e with e; omega)).trans zcx21)
        have Bx21a := (Bx21.setCell (p := ⟨wx16.heap.size, 0, none⟩) (by simp; omega) (.string (strB (([] : Bs))))).setCell (p := ⟨wx16.heap.size, 1, none⟩) (by simp; omega) (.string (strB (([] : Bs))))
        have Lfx21a : Ls ((wx21.setCell ⟨wx16.heap.size, 0, none⟩ (.string (strB (([] : Bs))))).setCell ⟨wx16.heap.size, 1, none⟩ (.string (strB (([] : Bs))))).heap.size ((wx21.setCell ⟨wx16.heap.size, 0, none⟩ (.string (strB (([] : Bs))))).setCell ⟨wx16.heap.size, 1, none⟩ (.string (strB (([] : Bs))))) _ _ _ _ := ((Lf0.keep Bx21a)).up Bx21a.size
        have Lpx21a : Ls ((wx21.setCell ⟨wx16.heap.size, 0, none⟩ (.string (strB (([] : Bs))))).setCell ⟨wx16.heap.size, 1, none⟩ (.string (strB (([] : Bs))))).heap.size ((wx21.setCell ⟨wx16.heap.size, 0, none⟩ (.string (strB (([] : Bs))))).setCell ⟨wx16.heap.size, 1, none⟩ (.string (strB (([] : Bs))))) _ _ _ _ := ((Lp0.keep Bx21a)).up Bx21a.size
        have Lnx21a : Ls ((wx21.setCell ⟨wx16.heap.size, 0, none⟩ (.string (strB (([] : Bs))))).setCell ⟨wx16.heap.size, 1, none⟩ (.string (strB (([] : Bs))))).heap.size ((wx21.setCell ⟨wx16.heap.size, 0, none⟩ (.string (strB (([] : Bs))))).setCell ⟨wx16.heap.size, 1, none⟩ (.string (strB (([] : Bs))))) _ _ _ _ := ((Ln0.keep Bx21a)).up Bx21a.size
        have Lcx21a : Ls ((wx21.setCell ⟨wx16.heap.size, 0, none⟩ (.string (strB (([] : Bs))))).setCell ⟨wx16.heap.size, 1, none⟩ (.string (strB (([] : Bs))))).heap.size ((wx21.setCell ⟨wx16.heap.size, 0, none⟩ (.string (strB (([] : Bs))))).setCell ⟨wx16.heap.size, 1, none⟩ (.string (strB (([] : Bs))))) _ _ _ _ := ((Lc0.keep Bx21a)).up Bx21a.size
        have Tx21a := hT.keep Bx21a h0
        clear zfx21 znx21 zcx21 zax21 Bx21 Lfx21 Lpx21 Lnx21 Lcx21 Tx21
        go_wp2_with fail
        generalize hgx21 : ((wx21.setCell ⟨wx16.heap.size, 0, none⟩ (.string (strB (([] : Bs))))).setCell ⟨wx16.heap.size, 1, none⟩ (.string (strB (([] : Bs))))) = vx21 at *
        have hby : (([] : Bs)).length ≤ 140737488355328 := by simp
        have hK := takeBranch_any vx21 (([] : Bs)) hby
        unfold branchSaid at hK
        rw [takenBranch_nil] at hK
        simp only at hK
        refine hK.mono ?_
        rintro e yx21 ⟨rfl, hb2x21⟩
        clear hK hby hgx21
        clear cax210 cax211 fax210 fax211
        have zfx21b := (hb2x21.block _ (lt_of_heap zfx21a)).trans zfx21a
        have znx21b := (hb2x21.block _ (lt_of_heap znx21a)).trans znx21a
        have zcx21b := (hb2x21.block _ (lt_of_heap zcx21a)).trans zcx21a
        have zax21b := (hb2x21.block _ (lt_of_heap zax21a)).trans zax21a
        have Bx21b := Bx21a.trans (hb2x21.mono Bx21a.size)
        have Lfx21b := Lfx21a.past hb2x21
        have Lpx21b := Lpx21a.past hb2x21
        have Lnx21b := Lnx21a.past hb2x21
        have Lcx21b := Lcx21a.past hb2x21
        have Tx21b := Tx21a.keep hb2x21 (Nat.lt_of_lt_of_le h0 Bx21a.size)
        clear hb2x21 zfx21a znx21a zcx21a zax21a Bx21a Lfx21a Lpx21a Lnx21a Lcx21a Tx21a
        have hq2x21 : Below yx21.heap.size yx21 (yx21.alloc (.cells #[.int .i64 0, .slice none 0 0] 41)) := (Below.refl _ _).alloc (Nat.le_refl _) _
        have zgx21 := heap_last yx21 (.cells #[.int .i64 0, .slice none 0 0] 41) _ rfl
        have zfx21c := (hq2x21.block _ (lt_of_heap zfx21b)).trans zfx21b
        have znx21c := (hq2x21.block _ (lt_of_heap znx21b)).trans znx21b
        have zcx21c := (hq2x21.block _ (lt_of_heap zcx21b)).trans zcx21b
        have zax21c := (hq2x21.block _ (lt_of_heap zax21b)).trans zax21b
        have Bx21c := Bx21b.trans (hq2x21.mono Bx21b.size)
        have Lfx21c := Lfx21b.past hq2x21
        have Lpx21c := Lpx21b.past hq2x21
        have Lnx21c := Lnx21b.past hq2x21
        have Lcx21c := Lcx21b.past hq2x21
        have Tx21c := Tx21b.keep hq2x21 (Nat.lt_of_lt_of_le h0 Bx21b.size)
        clear hq2x21 zfx21b znx21b zcx21b zax21b Bx21b Lfx21b Lpx21b Lnx21b Lcx21b Tx21b
        by_cases hok4 : commitOk c = true
        · skip
          have hM := commit_any (yx21.alloc (.cells #[.int .i64 0, .slice none 0 0] 41)) c _ Lcx21c Tx21c
          rw [hok4, made_yes] at hM
          generalize sha (75 :: commitB c) = S4 at hM
          have cfx21c0 := rc (i := 0) zfx21c rfl
          have cfx21c1 := rc (i := 1) zfx21c rfl
          have cnx21c0 := rc (i := 0) znx21c rfl
          have cnx21c1 := rc (i := 1) znx21c rfl
          have ccx21c0 := rc (i := 0) zcx21c rfl
          have ccx21c1 := rc (i := 1) zcx21c rfl
          have ccx21c2 := rc (i := 2) zcx21c rfl
          have ccx21c3 := rc (i := 3) zcx21c rfl
          have ccx21c4 := rc (i := 4) zcx21c rfl
          go_wp2_with fail
          refine hM.mono ?_
          rintro e wx22 ⟨rfl, hbx22⟩
          clear hM
          clear cfx21c0 cfx21c1 cnx21c0 cnx21c1 ccx21c0 ccx21c1 ccx21c2 ccx21c3 ccx21c4
          have zfx22 := (hbx22.block _ (lt_of_heap zfx21c)).trans zfx21c
          have znx22 := (hbx22.block _ (lt_of_heap znx21c)).trans znx21c
          have zcx22 := (hbx22.block _ (lt_of_heap zcx21c)).trans zcx21c
          have zax22 := (hbx22.block _ (lt_of_heap zax21c)).trans zax21c
          have Bx22 := Bx21c.trans (hbx22.mono Bx21c.size)
          have Lfx22 := Lfx21c.past hbx22
          have Lpx22 := Lpx21c.past hbx22
          have Lnx22 := Lnx21c.past hbx22
          have Lcx22 := Lcx21c.past hbx22
          have Tx22 := Tx21c.keep hbx22 (Nat.lt_of_lt_of_le h0 Bx21c.size)
          clear hbx22 zfx21c znx21c zcx21c zax21c Bx21c Lfx21c Lpx21c Lnx21c Lcx21c Tx21c
          have cax220 := rc (i := 0) zax22 rfl
          have cax221 := rc (i := 1) zax22 rfl
          have fax220 := frozen0 (j := 0) zax22
          have fax221 := frozen0 (j := 1) zax22
          have zax22a : ((wx22.setCell ⟨wx16.heap.size, 0, none⟩ (.string (strB (S4)))).setCell ⟨wx16.heap.size, 1, none⟩ (.string (strB (75 :: commitB c)))).heap[wx16.heap.size]? = some (.cells #[.string (strB (S4)), .string (strB (75 :: commitB c))] 27) := heap_set2 zax22
          have zfx22a : ((wx22.setCell ⟨wx16.heap.size, 0, none⟩ (.string (strB (S4)))).setCell ⟨wx16.heap.size, 1, none⟩ (.string (strB (75 :: commitB c)))).heap[w.heap.size]? = some (.cells #[.int .i64 f.1, .slice af f.2.length cf] 24) := ((gb_set _ (wx16.heap.size) 1 _).block _ (Nat.lt_of_lt_of_le (lt_of_heap zfx22) (gb_set _ (wx16.heap.size) 0 _).size) (fun e => by injection e with e; omega)).trans (((gb_set wx22 (wx16.heap.size) 0 _).block _ (lt_of_heap zfx22) (fun e => by injection e with e; omega)).trans zfx22)
          have znx22a : ((wx22.setCell ⟨wx16.heap.size, 0, none⟩ (.string (strB (S4)))).setCell ⟨wx16.heap.size, 1, none⟩ (.string (strB (75 :: commitB c)))).heap[w.heap.size + 1]? = some (.cells #[.int .i64 n.1, .slice an n.2.length cn] 41) := ((gb_set _ (wx16.heap.size) 1 _).block _ (Nat.lt_of_lt_of_le (lt_of_heap znx22) (gb_set _ (wx16.heap.size) 0 _).size) (fun e => by injection e with e; omega)).trans (((gb_set wx22 (wx16.heap.size) 0 _).block _ (lt_of_heap znx22) (fun e => by injection e with e; omega)).trans znx22)
          have zcx22a : ((wx22.setCell ⟨wx16.heap.size, 0, none⟩ (.string (strB (S4)))).setCell ⟨wx16.heap.size, 1, none⟩ (.string (strB (75 :: commitB c)))).heap[w.heap.size + 2]? = some (.cells #[.string (strB c.1), .slice ac c.2.1.length cc, .string (strB c.2.2.1), .int .i64 c.2.2.2.1, .string (strB c.2.2.2.2)] 54) := ((gb_set _ (wx16.heap.size) 1 _).block _ (Nat.lt_of_lt_of_le (lt_of_heap zcx22) (gb_set _ (wx16.heap.size) 0 _).size) (fun e => by injection e with e; omega)).trans (((gb_set wx22 (wx16.heap.size) 0 _).block _ (lt_of_heap zcx22) (fun e => by injection e with e; omega)).trans zcx22)
          have Bx22a := (Bx22.setCell (p := ⟨wx16.heap.size, 0, none⟩) (by simp; omega) (.string (strB (S4)))).setCell (p := ⟨wx16.heap.size, 1, none⟩) (by simp; omega) (.string (strB (75 :: commitB c)))
          have Lfx22a : Ls ((wx22.setCell ⟨wx16.heap.size, 0, none⟩ (.string (strB (S4)))).setCell ⟨wx16.heap.size, 1, none⟩ (.string (strB (75 :: commitB c)))).heap.size ((wx22.setCell ⟨wx16.heap.size, 0, none⟩ (.string (strB (S4)))).setCell ⟨wx16.heap.size, 1, none⟩ (.string (strB (75 :: commitB c)))) _ _ _ _ := ((Lf0.keep Bx22a)).up Bx22a.size
          have Lpx22a : Ls ((wx22.setCell ⟨wx16.heap.size, 0, none⟩ (.string (strB (S4)))).setCell ⟨wx16.heap.size, 1, none⟩ (.string (strB (75 :: commitB c)))).heap.size ((wx22.setCell ⟨wx16.heap.size, 0, none⟩ (.string (strB (S4)))).setCell ⟨wx16.heap.size, 1, none⟩ (.string (strB (75 :: commitB c)))) _ _ _ _ := ((Lp0.keep Bx22a)).up Bx22a.size
          have Lnx22a : Ls ((wx22.setCell ⟨wx16.heap.size, 0, none⟩ (.string (strB (S4)))).setCell ⟨wx16.heap.size, 1, none⟩ (.string (strB (75 :: commitB c)))).heap.size ((wx22.setCell ⟨wx16.heap.size, 0, none⟩ (.string (strB (S4)))).setCell ⟨wx16.heap.size, 1, none⟩ (.string (strB (75 :: commitB c)))) _ _ _ _ := ((Ln0.keep Bx22a)).up Bx22a.size
          have Lcx22a : Ls ((wx22.setCell ⟨wx16.heap.size, 0, none⟩ (.string (strB (S4)))).setCell ⟨wx16.heap.size, 1, none⟩ (.string (strB (75 :: commitB c)))).heap.size ((wx22.setCell ⟨wx16.heap.size, 0, none⟩ (.string (strB (S4)))).setCell ⟨wx16.heap.size, 1, none⟩ (.string (strB (75 :: commitB c)))) _ _ _ _ := ((Lc0.keep Bx22a)).up Bx22a.size
          have Tx22a := hT.keep Bx22a h0
          clear zfx22 znx22 zcx22 zax22 Bx22 Lfx22 Lpx22 Lnx22 Lcx22 Tx22
          go_wp2_with fail
          generalize hgx22 : ((wx22.setCell ⟨wx16.heap.size, 0, none⟩ (.string (strB (S4)))).setCell ⟨wx16.heap.size, 1, none⟩ (.string (strB (75 :: commitB c)))) = vx22 at *
          have hby : (75 :: commitB c).length ≤ 140737488355328 := by have := (commitB_le hok4).1; simp only [List.length_cons]; omega
          have hK := takeCommit_any vx22 (75 :: commitB c) hby
          unfold commitSaid at hK
          rw [(takenCommit_iff _ hby c).2 ⟨hok4, rfl⟩] at hK
          simp only at hK
          refine hK.mono ?_
          rintro e yx22 ⟨⟨vvx22, rfl, ownx22⟩, hb2x22⟩
          clear hK hby hgx22
          clear cax220 cax221 fax220 fax221
          have zfx22b := (hb2x22.block _ (lt_of_heap zfx22a)).trans zfx22a
          have znx22b := (hb2x22.block _ (lt_of_heap znx22a)).trans znx22a
          have zcx22b := (hb2x22.block _ (lt_of_heap zcx22a)).trans zcx22a
          have zax22b := (hb2x22.block _ (lt_of_heap zax22a)).trans zax22a
          have Bx22b := Bx22a.trans (hb2x22.mono Bx22a.size)
          have Lfx22b := Lfx22a.past hb2x22
          have Lpx22b := Lpx22a.past hb2x22
          have Lnx22b := Lnx22a.past hb2x22
          have Lcx22b := Lcx22a.past hb2x22
          have Tx22b := Tx22a.keep hb2x22 (Nat.lt_of_lt_of_le h0 Bx22a.size)
          clear hb2x22 zfx22a znx22a zcx22a zax22a Bx22a Lfx22a Lpx22a Lnx22a Lcx22a Tx22a
          obtain ⟨ag, cg, rfl, -⟩ := own_form ownx22
          have lvx22 := ls_of_own idC_length ownx22
          have hq2x22 : Below yx22.heap.size yx22 (yx22.alloc (.cells #[.string (strB c.1), .slice ag c.2.1.length cg, .string (strB c.2.2.1), .int .i64 c.2.2.2.1, .string (strB c.2.2.2.2)] 54)) := (Below.refl _ _).alloc (Nat.le_refl _) _
          have zgx22 := heap_last yx22 (.cells #[.string (strB c.1), .slice ag c.2.1.length cg, .string (strB c.2.2.1), .int .i64 c.2.2.2.1, .string (strB c.2.2.2.2)] 54) _ rfl
          have lwx22 := lvx22.past hq2x22
          clear lvx22
          have zfx22c := (hq2x22.block _ (lt_of_heap zfx22b)).trans zfx22b
          have znx22c := (hq2x22.block _ (lt_of_heap znx22b)).trans znx22b
          have zcx22c := (hq2x22.block _ (lt_of_heap zcx22b)).trans zcx22b
          have zax22c := (hq2x22.block _ (lt_of_heap zax22b)).trans zax22b
          have Bx22c := Bx22b.trans (hq2x22.mono Bx22b.size)
          have Lfx22c := Lfx22b.past hq2x22
          have Lpx22c := Lpx22b.past hq2x22
          have Lnx22c := Lnx22b.past hq2x22
          have Lcx22c := Lcx22b.past hq2x22
          have Tx22c := Tx22b.keep hq2x22 (Nat.lt_of_lt_of_le h0 Bx22b.size)
          clear hq2x22 zfx22b znx22b zcx22b zax22b Bx22b Lfx22b Lpx22b Lnx22b Lcx22b Tx22b
          have hE := sameCommit_any (yx22.alloc (.cells #[.string (strB c.1), .slice ag c.2.1.length cg, .string (strB c.2.2.1), .int .i64 c.2.2.2.1, .string (strB c.2.2.2.2)] 54)) c c _ _ Lcx22c lwx22
          rw [decide_eq_true (rfl : c = c)] at hE
          clear ownx22 lwx22
          have cfx22c0 := rc (i := 0) zfx22c rfl
          have cfx22c1 := rc (i := 1) zfx22c rfl
          have cnx22c0 := rc (i := 0) znx22c rfl
          have cnx22c1 := rc (i := 1) znx22c rfl
          have ccx22c0 := rc (i := 0) zcx22c rfl
          have ccx22c1 := rc (i := 1) zcx22c rfl
          have ccx22c2 := rc (i := 2) zcx22c rfl
          have ccx22c3 := rc (i := 3) zcx22c rfl
          have ccx22c4 := rc (i := 4) zcx22c rfl
          go_wp2_with fail
          generalize hg2x22 : (yx22.alloc (.cells #[.string (strB c.1), .slice ag c.2.1.length cg, .string (strB c.2.2.1), .int .i64 c.2.2.2.1, .string (strB c.2.2.2.2)] 54)) = zx22 at *
          refine hE.mono ?_
          rintro e tx22 ⟨rfl, hb3x22⟩
          clear hE
          clear cfx22c0 cfx22c1 cnx22c0 cnx22c1 ccx22c0 ccx22c1 ccx22c2 ccx22c3 ccx22c4
          have zfx22d := (hb3x22.block _ (lt_of_heap zfx22c)).trans zfx22c
          have znx22d := (hb3x22.block _ (lt_of_heap znx22c)).trans znx22c
          have zcx22d := (hb3x22.block _ (lt_of_heap zcx22c)).trans zcx22c
          have zax22d := (hb3x22.block _ (lt_of_heap zax22c)).trans zax22c
          have Bx22d := Bx22c.trans (hb3x22.mono Bx22c.size)
          have Lfx22d := Lfx22c.past hb3x22
          have Lpx22d := Lpx22c.past hb3x22
          have Lnx22d := Lnx22c.past hb3x22
          have Lcx22d := Lcx22c.past hb3x22
          have Tx22d := Tx22c.keep hb3x22 (Nat.lt_of_lt_of_le h0 Bx22c.size)
          clear hb3x22 zfx22c znx22c zcx22c zax22c Bx22c Lfx22c Lpx22c Lnx22c Lcx22c Tx22c
          clear zgx22 hg2x22
          go_wp2
          go_ret
          exact ⟨ret_bool (by first | rfl | simp), Bx22d⟩
        · have hok4 := Bool.eq_false_iff.2 hok4
          have hM := commit_any (yx21.alloc (.cells #[.int .i64 0, .slice none 0 0] 41)) c _ Lcx21c Tx21c
          rw [hok4, made_no] at hM
          have cfx21c0 := rc (i := 0) zfx21c rfl
          have cfx21c1 := rc (i := 1) zfx21c rfl
          have cnx21c0 := rc (i := 0) znx21c rfl
          have cnx21c1 := rc (i := 1) znx21c rfl
          have ccx21c0 := rc (i := 0) zcx21c rfl
          have ccx21c1 := rc (i := 1) zcx21c rfl
          have ccx21c2 := rc (i := 2) zcx21c rfl
          have ccx21c3 := rc (i := 3) zcx21c rfl
          have ccx21c4 := rc (i := 4) zcx21c rfl
          go_wp2_with fail
          refine hM.mono ?_
          rintro e wx23 ⟨rfl, hbx23⟩
          clear hM
          clear cfx21c0 cfx21c1 cnx21c0 cnx21c1 ccx21c0 ccx21c1 ccx21c2 ccx21c3 ccx21c4
          have zfx23 := (hbx23.block _ (lt_of_heap zfx21c)).trans zfx21c
          have znx23 := (hbx23.block _ (lt_of_heap znx21c)).trans znx21c
          have zcx23 := (hbx23.block _ (lt_of_heap zcx21c)).trans zcx21c
          have zax23 := (hbx23.block _ (lt_of_heap zax21c)).trans zax21c
          have Bx23 := Bx21c.trans (hbx23.mono Bx21c.size)
          have Lfx23 := Lfx21c.past hbx23
          have Lpx23 := Lpx21c.past hbx23
          have Lnx23 := Lnx21c.past hbx23
          have Lcx23 := Lcx21c.past hbx23
          have Tx23 := Tx21c.keep hbx23 (Nat.lt_of_lt_of_le h0 Bx21c.size)
          clear hbx23 zfx21c znx21c zcx21c zax21c Bx21c Lfx21c Lpx21c Lnx21c Lcx21c Tx21c
          have cax230 := rc (i := 0) zax23 rfl
          have cax231 := rc (i := 1) zax23 rfl
          have fax230 := frozen0 (j := 0) zax23
          have fax231 := frozen0 (j := 1) zax23
          have zax23a : ((wx23.setCell ⟨wx16.heap.size, 0, none⟩ (.string (strB (([] : Bs))))).setCell ⟨wx16.heap.size, 1, none⟩ (.string (strB (([] : Bs))))).heap[wx16.heap.size]? = some (.cells #[.string (strB (([] : Bs))), .string (strB (([] : Bs)))] 27) := heap_set2 zax23
          have zfx23a : ((wx23.setCell ⟨wx16.heap.size, 0, none⟩ (.string (strB (([] : Bs))))).setCell ⟨wx16.heap.size, 1, none⟩ (.string (strB (([] : Bs))))).heap[w.heap.size]? = some (.cells #[.int .i64 f.1, .slice af f.2.length cf] 24) := ((gb_set _ (wx16.heap.size) 1 _).block _ (Nat.lt_of_lt_of_le (lt_of_heap zfx23) (gb_set _ (wx16.heap.size) 0 _).size) (fun e => by injection e with e; omega)).trans (((gb_set wx23 (wx16.heap.size) 0 _).block _ (lt_of_heap zfx23) (fun e => by injection e with e; omega)).trans zfx23)
          have znx23a : ((wx23.setCell ⟨wx16.heap.size, 0, none⟩ (.string (strB (([] : Bs))))).setCell ⟨wx16.heap.size, 1, none⟩ (.string (strB (([] : Bs))))).heap[w.heap.size + 1]? = some (.cells #[.int .i64 n.1, .slice an n.2.length cn] 41) := ((gb_set _ (wx16.heap.size) 1 _).block _ (Nat.lt_of_lt_of_le (lt_of_heap znx23) (gb_set _ (wx16.heap.size) 0 _).size) (fun e => by injection e with e; omega)).trans (((gb_set wx23 (wx16.heap.size) 0 _).block _ (lt_of_heap znx23) (fun e => by injection e with e; omega)).trans znx23)
          have zcx23a : ((wx23.setCell ⟨wx16.heap.size, 0, none⟩ (.string (strB (([] : Bs))))).setCell ⟨wx16.heap.size, 1, none⟩ (.string (strB (([] : Bs))))).heap[w.heap.size + 2]? = some (.cells #[.string (strB c.1), .slice ac c.2.1.length cc, .string (strB c.2.2.1), .int .i64 c.2.2.2.1, .string (strB c.2.2.2.2)] 54) := ((gb_set _ (wx16.heap.size) 1 _).block _ (Nat.lt_of_lt_of_le (lt_of_heap zcx23) (gb_set _ (wx16.heap.size) 0 _).size) (fun e => by injection e with e; omega)).trans (((gb_set wx23 (wx16.heap.size) 0 _).block _ (lt_of_heap zcx23) (fun e => by injection e with e; omega)).trans zcx23)
          have Bx23a := (Bx23.setCell (p := ⟨wx16.heap.size, 0, none⟩) (by simp; omega) (.string (strB (([] : Bs))))).setCell (p := ⟨wx16.heap.size, 1, none⟩) (by simp; omega) (.string (strB (([] : Bs))))
          have Lfx23a : Ls ((wx23.setCell ⟨wx16.heap.size, 0, none⟩ (.string (strB (([] : Bs))))).setCell ⟨wx16.heap.size, 1, none⟩ (.string (strB (([] : Bs))))).heap.size ((wx23.setCell ⟨wx16.heap.size, 0, none⟩ (.string (strB (([] : Bs))))).setCell ⟨wx16.heap.size, 1, none⟩ (.string (strB (([] : Bs))))) _ _ _ _ := ((Lf0.keep Bx23a)).up Bx23a.size
          have Lpx23a : Ls ((wx23.setCell ⟨wx16.heap.size, 0, none⟩ (.string (strB (([] : Bs))))).setCell ⟨wx16.heap.size, 1, none⟩ (.string (strB (([] : Bs))))).heap.size ((wx23.setCell ⟨wx16.heap.size, 0, none⟩ (.string (strB (([] : Bs))))).setCell ⟨wx16.heap.size, 1, none⟩ (.string (strB (([] : Bs))))) _ _ _ _ := ((Lp0.keep Bx23a)).up Bx23a.size
          have Lnx23a : Ls ((wx23.setCell ⟨wx16.heap.size, 0, none⟩ (.string (strB (([] : Bs))))).setCell ⟨wx16.heap.size, 1, none⟩ (.string (strB (([] : Bs))))).heap.size ((wx23.setCell ⟨wx16.heap.size, 0, none⟩ (.string (strB (([] : Bs))))).setCell ⟨wx16.heap.size, 1, none⟩ (.string (strB (([] : Bs))))) _ _ _ _ := ((Ln0.keep Bx23a)).up Bx23a.size
          have Lcx23a : Ls ((wx23.setCell ⟨wx16.heap.size, 0, none⟩ (.string (strB (([] : Bs))))).setCell ⟨wx16.heap.size, 1, none⟩ (.string (strB (([] : Bs))))).heap.size ((wx23.setCell ⟨wx16.heap.size, 0, none⟩ (.string (strB (([] : Bs))))).setCell ⟨wx16.heap.size, 1, none⟩ (.string (strB (([] : Bs))))) _ _ _ _ := ((Lc0.keep Bx23a)).up Bx23a.size
          have Tx23a := hT.keep Bx23a h0
          clear zfx23 znx23 zcx23 zax23 Bx23 Lfx23 Lpx23 Lnx23 Lcx23 Tx23
          go_wp2_with fail
          generalize hgx23 : ((wx23.setCell ⟨wx16.heap.size, 0, none⟩ (.string (strB (([] : Bs))))).setCell ⟨wx16.heap.size, 1, none⟩ (.string (strB (([] : Bs))))) = vx23 at *
          have hby : (([] : Bs)).length ≤ 140737488355328 := by simp
          have hK := takeCommit_any vx23 (([] : Bs)) hby
          unfold commitSaid at hK
          rw [takenCommit_nil] at hK
          simp only at hK
          refine hK.mono ?_
          rintro e yx23 ⟨rfl, hb2x23⟩
          clear hK hby hgx23
          clear cax230 cax231 fax230 fax231
          have zfx23b := (hb2x23.block _ (lt_of_heap zfx23a)).trans zfx23a
          have znx23b := (hb2x23.block _ (lt_of_heap znx23a)).trans znx23a
          have zcx23b := (hb2x23.block _ (lt_of_heap zcx23a)).trans zcx23a
          have zax23b := (hb2x23.block _ (lt_of_heap zax23a)).trans zax23a
          have Bx23b := Bx23a.trans (hb2x23.mono Bx23a.size)
          have Lfx23b := Lfx23a.past hb2x23
          have Lpx23b := Lpx23a.past hb2x23
          have Lnx23b := Lnx23a.past hb2x23
          have Lcx23b := Lcx23a.past hb2x23
          have Tx23b := Tx23a.keep hb2x23 (Nat.lt_of_lt_of_le h0 Bx23a.size)
          clear hb2x23 zfx23a znx23a zcx23a zax23a Bx23a Lfx23a Lpx23a Lnx23a Lcx23a Tx23a
          have hq2x23 : Below yx23.heap.size yx23 (yx23.alloc (.cells #[.string ⟨#[]⟩, .slice none 0 0, .string ⟨#[]⟩, .int .i64 0, .string ⟨#[]⟩] 54)) := (Below.refl _ _).alloc (Nat.le_refl _) _
          have zgx23 := heap_last yx23 (.cells #[.string ⟨#[]⟩, .slice none 0 0, .string ⟨#[]⟩, .int .i64 0, .string ⟨#[]⟩] 54) _ rfl
          have zfx23c := (hq2x23.block _ (lt_of_heap zfx23b)).trans zfx23b
          have znx23c := (hq2x23.block _ (lt_of_heap znx23b)).trans znx23b
          have zcx23c := (hq2x23.block _ (lt_of_heap zcx23b)).trans zcx23b
          have zax23c := (hq2x23.block _ (lt_of_heap zax23b)).trans zax23b
          have Bx23c := Bx23b.trans (hq2x23.mono Bx23b.size)
          have Lfx23c := Lfx23b.past hq2x23
          have Lpx23c := Lpx23b.past hq2x23
          have Lnx23c := Lnx23b.past hq2x23
          have Lcx23c := Lcx23b.past hq2x23
          have Tx23c := Tx23b.keep hq2x23 (Nat.lt_of_lt_of_le h0 Bx23b.size)
          clear hq2x23 zfx23b znx23b zcx23b zax23b Bx23b Lfx23b Lpx23b Lnx23b Lcx23b Tx23b
          go_wp2
          go_ret
          exact ⟨ret_bool (by first | rfl | simp), Bx23c⟩
    · have hok2 := Bool.eq_false_iff.2 hok2
      have hM := leaf_any (yx16.alloc (.cells #[.int .i64 0, .slice none 0 0] 24)) ps _ Lpx16c Tx16c
      rw [hok2, made_no] at hM
      have cfx16c0 := rc (i := 0) zfx16c rfl
      have cfx16c1 := rc (i := 1) zfx16c rfl
      have cnx16c0 := rc (i := 0) znx16c rfl
      have cnx16c1 := rc (i := 1) znx16c rfl
      have ccx16c0 := rc (i := 0) zcx16c rfl
      have ccx16c1 := rc (i := 1) zcx16c rfl
      have ccx16c2 := rc (i := 2) zcx16c rfl
      have ccx16c3 := rc (i := 3) zcx16c rfl
      have ccx16c4 := rc (i := 4) zcx16c rfl
      go_wp2_with fail
      refine hM.mono ?_
      rintro e wx24 ⟨rfl, hbx24⟩
      clear hM
      clear cfx16c0 cfx16c1 cnx16c0 cnx16c1 ccx16c0 ccx16c1 ccx16c2 ccx16c3 ccx16c4
      have zfx24 := (hbx24.block _ (lt_of_heap zfx16c)).trans zfx16c
      have znx24 := (hbx24.block _ (lt_of_heap znx16c)).trans znx16c
      have zcx24 := (hbx24.block _ (lt_of_heap zcx16c)).trans zcx16c
      have zax24 := (hbx24.block _ (lt_of_heap zax16c)).trans zax16c
      have Bx24 := Bx16c.trans (hbx24.mono Bx16c.size)
      have Lfx24 := Lfx16c.past hbx24
      have Lpx24 := Lpx16c.past hbx24
      have Lnx24 := Lnx16c.past hbx24
      have Lcx24 := Lcx16c.past hbx24
      have Tx24 := Tx16c.keep hbx24 (Nat.lt_of_lt_of_le h0 Bx16c.size)
      clear hbx24 zfx16c znx16c zcx16c zax16c Bx16c Lfx16c Lpx16c Lnx16c Lcx16c Tx16c
      have cax240 := rc (i := 0) zax24 rfl
      have cax241 := rc (i := 1) zax24 rfl
      have fax240 := frozen0 (j := 0) zax24
      have fax241 := frozen0 (j := 1) zax24
      have zax24a : ((wx24.setCell ⟨wx16.heap.size, 0, none⟩ (.string (strB (([] : Bs))))).setCell ⟨wx16.heap.size, 1, none⟩ (.string (strB (([] : Bs))))).heap[wx16.heap.size]? = some (.cells #[.string (strB (([] : Bs))), .string (strB (([] : Bs)))] 27) := heap_set2 zax24
      have zfx24a : ((wx24.setCell ⟨wx16.heap.size, 0, none⟩ (.string (strB (([] : Bs))))).setCell ⟨wx16.heap.size, 1, none⟩ (.string (strB (([] : Bs))))).heap[w.heap.size]? = some (.cells #[.int .i64 f.1, .slice af f.2.length cf] 24) := ((gb_set _ (wx16.heap.size) 1 _).block _ (Nat.lt_of_lt_of_le (lt_of_heap zfx24) (gb_set _ (wx16.heap.size) 0 _).size) (fun e => by injection e with e; omega)).trans (((gb_set wx24 (wx16.heap.size) 0 _).block _ (lt_of_heap zfx24) (fun e => by injection e with e; omega)).trans zfx24)
      have znx24a : ((wx24.setCell ⟨wx16.heap.size, 0, none⟩ (.string (strB (([] : Bs))))).setCell ⟨wx16.heap.size, 1, none⟩ (.string (strB (([] : Bs))))).heap[w.heap.size + 1]? = some (.cells #[.int .i64 n.1, .slice an n.2.length cn] 41) := ((gb_set _ (wx16.heap.size) 1 _).block _ (Nat.lt_of_lt_of_le (lt_of_heap znx24) (gb_set _ (wx16.heap.size) 0 _).size) (fun e => by injection e with e; omega)).trans (((gb_set wx24 (wx16.heap.size) 0 _).block _ (lt_of_heap znx24) (fun e => by injection e with e; omega)).trans znx24)
      have zcx24a : ((wx24.setCell ⟨wx16.heap.size, 0, none⟩ (.string (strB (([] : Bs))))).setCell ⟨wx16.heap.size, 1, none⟩ (.string (strB (([] : Bs))))).heap[w.heap.size + 2]? = some (.cells #[.string (strB c.1), .slice ac c.2.1.length cc, .string (strB c.2.2.1), .int .i64 c.2.2.2.1, .string (strB c.2.2.2.2)] 54) := ((gb_set _ (wx16.heap.size) 1 _).block _ (Nat.lt_of_lt_of_le (lt_of_heap zcx24) (gb_set _ (wx16.heap.size) 0 _).size) (fun e => by injection e with e; omega)).trans (((gb_set wx24 (wx16.heap.size) 0 _).block _ (lt_of_heap zcx24) (fun e => by injection e with e; omega)).trans zcx24)
      have Bx24a := (Bx24.setCell (p := ⟨wx16.heap.size, 0, none⟩) (by simp; omega) (.string (strB (([] : Bs))))).setCell (p := ⟨wx16.heap.size, 1, none⟩) (by simp; omega) (.string (strB (([] : Bs))))
      have Lfx24a : Ls ((wx24.setCell ⟨wx16.heap.size, 0, none⟩ (.string (strB (([] : Bs))))).setCell ⟨wx16.heap.size, 1, none⟩ (.string (strB (([] : Bs))))).heap.size ((wx24.setCell ⟨wx16.heap.size, 0, none⟩ (.string (strB (([] : Bs))))).setCell ⟨wx16.heap.size, 1, none⟩ (.string (strB (([] : Bs))))) _ _ _ _ := ((Lf0.keep Bx24a)).up Bx24a.size
      have Lpx24a : Ls ((wx24.setCell ⟨wx16.heap.size, 0, none⟩ (.string (strB (([] : Bs))))).setCell ⟨wx16.heap.size, 1, none⟩ (.string (strB (([] : Bs))))).heap.size ((wx24.setCell ⟨wx16.heap.size, 0, none⟩ (.string (strB (([] : Bs))))).setCell ⟨wx16.heap.size, 1, none⟩ (.string (strB (([] : Bs))))) _ _ _ _ := ((Lp0.keep Bx24a)).up Bx24a.size
      have Lnx24a : Ls ((wx24.setCell ⟨wx16.heap.size, 0, none⟩ (.string (strB (([] : Bs))))).setCell ⟨wx16.heap.size, 1, none⟩ (.string (strB (([] : Bs))))).heap.size ((wx24.setCell ⟨wx16.heap.size, 0, none⟩ (.string (strB (([] : Bs))))).setCell ⟨wx16.heap.size, 1, none⟩ (.string (strB (([] : Bs))))) _ _ _ _ := ((Ln0.keep Bx24a)).up Bx24a.size
      have Lcx24a : Ls ((wx24.setCell ⟨wx16.heap.size, 0, none⟩ (.string (strB (([] : Bs))))).setCell ⟨wx16.heap.size, 1, none⟩ (.string (strB (([] : Bs))))).heap.size ((wx24.setCell ⟨wx16.heap.size, 0, none⟩ (.string (strB (([] : Bs))))).setCell ⟨wx16.heap.size, 1, none⟩ (.string (strB (([] : Bs))))) _ _ _ _ := ((Lc0.keep Bx24a)).up Bx24a.size
      have Tx24a := hT.keep Bx24a h0
      clear zfx24 znx24 zcx24 zax24 Bx24 Lfx24 Lpx24 Lnx24 Lcx24 Tx24
      go_wp2_with fail
      generalize hgx24 : ((wx24.setCell ⟨wx16.heap.size, 0, none⟩ (.string (strB (([] : Bs))))).setCell ⟨wx16.heap.size, 1, none⟩ (.string (strB (([] : Bs))))) = vx24 at *
      have hby : (([] : Bs)).length ≤ 140737488355328 := by simp
      have hK := takeLeaf_any vx24 (([] : Bs)) hby
      unfold LeafSaid at hK
      rw [takenLeaf_nil] at hK
      simp only at hK
      refine hK.mono ?_
      rintro e yx24 ⟨rfl, hb2x24⟩
      clear hK hby hgx24
      clear cax240 cax241 fax240 fax241
      have zfx24b := (hb2x24.block _ (lt_of_heap zfx24a)).trans zfx24a
      have znx24b := (hb2x24.block _ (lt_of_heap znx24a)).trans znx24a
      have zcx24b := (hb2x24.block _ (lt_of_heap zcx24a)).trans zcx24a
      have zax24b := (hb2x24.block _ (lt_of_heap zax24a)).trans zax24a
      have Bx24b := Bx24a.trans (hb2x24.mono Bx24a.size)
      have Lfx24b := Lfx24a.past hb2x24
      have Lpx24b := Lpx24a.past hb2x24
      have Lnx24b := Lnx24a.past hb2x24
      have Lcx24b := Lcx24a.past hb2x24
      have Tx24b := Tx24a.keep hb2x24 (Nat.lt_of_lt_of_le h0 Bx24a.size)
      clear hb2x24 zfx24a znx24a zcx24a zax24a Bx24a Lfx24a Lpx24a Lnx24a Lcx24a Tx24a
      by_cases hok3 : branchOk ltB n = true
      · skip
        have hM := branch_any yx24 n _ Lnx24b Tx24b
        rw [hok3, made_yes] at hM
        generalize sha (66 :: branchB n) = S3 at hM
        have cfx24b0 := rc (i := 0) zfx24b rfl
        have cfx24b1 := rc (i := 1) zfx24b rfl
        have cnx24b0 := rc (i := 0) znx24b rfl
        have cnx24b1 := rc (i := 1) znx24b rfl
        have ccx24b0 := rc (i := 0) zcx24b rfl
        have ccx24b1 := rc (i := 1) zcx24b rfl
        have ccx24b2 := rc (i := 2) zcx24b rfl
        have ccx24b3 := rc (i := 3) zcx24b rfl
        have ccx24b4 := rc (i := 4) zcx24b rfl
        go_wp2_with fail
        refine hM.mono ?_
        rintro e wx25 ⟨rfl, hbx25⟩
        clear hM
        clear cfx24b0 cfx24b1 cnx24b0 cnx24b1 ccx24b0 ccx24b1 ccx24b2 ccx24b3 ccx24b4
        have zfx25 := (hbx25.block _ (lt_of_heap zfx24b)).trans zfx24b
        have znx25 := (hbx25.block _ (lt_of_heap znx24b)).trans znx24b
        have zcx25 := (hbx25.block _ (lt_of_heap zcx24b)).trans zcx24b
        have zax25 := (hbx25.block _ (lt_of_heap zax24b)).trans zax24b
        have Bx25 := Bx24b.trans (hbx25.mono Bx24b.size)
        have Lfx25 := Lfx24b.past hbx25
        have Lpx25 := Lpx24b.past hbx25
        have Lnx25 := Lnx24b.past hbx25
        have Lcx25 := Lcx24b.past hbx25
        have Tx25 := Tx24b.keep hbx25 (Nat.lt_of_lt_of_le h0 Bx24b.size)
        clear hbx25 zfx24b znx24b zcx24b zax24b Bx24b Lfx24b Lpx24b Lnx24b Lcx24b Tx24b
        have cax250 := rc (i := 0) zax25 rfl
        have cax251 := rc (i := 1) zax25 rfl
        have fax250 := frozen0 (j := 0) zax25
        have fax251 := frozen0 (j := 1) zax25
        have zax25a : ((wx25.setCell ⟨wx16.heap.size, 0, none⟩ (.string (strB (S3)))).setCell ⟨wx16.heap.size, 1, none⟩ (.string (strB (66 :: branchB n)))).heap[wx16.heap.size]? = some (.cells #[.string (strB (S3)), .string (strB (66 :: branchB n))] 27) := heap_set2 zax25
        have zfx25a : ((wx25.setCell ⟨wx16.heap.size, 0, none⟩ (.string (strB (S3)))).setCell ⟨wx16.heap.size, 1, none⟩ (.string (strB (66 :: branchB n)))).heap[w.heap.size]? = some (.cells #[.int .i64 f.1, .slice af f.2.length cf] 24) := ((gb_set _ (wx16.heap.size) 1 _).block _ (Nat.lt_of_lt_of_le (lt_of_heap zfx25) (gb_set _ (wx16.heap.size) 0 _).size) (fun e => by injection e with e; omega)).trans (((gb_set wx25 (wx16.heap.size) 0 _).block _ (lt_of_heap zfx25) (fun e => by injection e with e; omega)).trans zfx25)
        have znx25a : ((wx25.setCell ⟨wx16.heap.size, 0, none⟩ (.string (strB (S3)))).setCell ⟨wx16.heap.size, 1, none⟩ (.string (strB (66 :: branchB n)))).heap[w.heap.size + 1]? = some (.cells #[.int .i64 n.1, .slice an n.2.length cn] 41) := ((gb_set _ (wx16.heap.size) 1 _).block _ (Nat.lt_of_lt_of_le (lt_of_heap znx25) (gb_set _ (wx16.heap.size) 0 _).size) (fun e => by injection e with e; omega)).trans (((gb_set wx25 (wx16.heap.size) 0 _).block _ (lt_of_heap znx25) (fun e => by injection e with e; omega)).trans znx25)
        have zcx25a : ((wx25.setCell ⟨wx16.heap.size, 0, none⟩ (.string (strB (S3)))).setCell ⟨wx16.heap.size, 1, none⟩ (.string (strB (66 :: branchB n)))).heap[w.heap.size + 2]? = some (.cells #[.string (strB c.1), .slice ac c.2.1.length cc, .string (strB c.2.2.1), .int .i64 c.2.2.2.1, .string (strB c.2.2.2.2)] 54) := ((gb_set _ (wx16.heap.size) 1 _).block _ (Nat.lt_of_lt_of_le (lt_of_heap zcx25) (gb_set _ (wx16.heap.size) 0 _).size) (fun e => by injection e with e; omega)).trans (((gb_set wx25 (wx16.heap.size) 0 _).block _ (lt_of_heap zcx25) (fun e => by injection e with e; omega)).trans zcx25)
        have Bx25a := (Bx25.setCell (p := ⟨wx16.heap.size, 0, none⟩) (by simp; omega) (.string (strB (S3)))).setCell (p := ⟨wx16.heap.size, 1, none⟩) (by simp; omega) (.string (strB (66 :: branchB n)))
        have Lfx25a : Ls ((wx25.setCell ⟨wx16.heap.size, 0, none⟩ (.string (strB (S3)))).setCell ⟨wx16.heap.size, 1, none⟩ (.string (strB (66 :: branchB n)))).heap.size ((wx25.setCell ⟨wx16.heap.size, 0, none⟩ (.string (strB (S3)))).setCell ⟨wx16.heap.size, 1, none⟩ (.string (strB (66 :: branchB n)))) _ _ _ _ := ((Lf0.keep Bx25a)).up Bx25a.size
        have Lpx25a : Ls ((wx25.setCell ⟨wx16.heap.size, 0, none⟩ (.string (strB (S3)))).setCell ⟨wx16.heap.size, 1, none⟩ (.string (strB (66 :: branchB n)))).heap.size ((wx25.setCell ⟨wx16.heap.size, 0, none⟩ (.string (strB (S3)))).setCell ⟨wx16.heap.size, 1, none⟩ (.string (strB (66 :: branchB n)))) _ _ _ _ := ((Lp0.keep Bx25a)).up Bx25a.size
        have Lnx25a : Ls ((wx25.setCell ⟨wx16.heap.size, 0, none⟩ (.string (strB (S3)))).setCell ⟨wx16.heap.size, 1, none⟩ (.string (strB (66 :: branchB n)))).heap.size ((wx25.setCell ⟨wx16.heap.size, 0, none⟩ (.string (strB (S3)))).setCell ⟨wx16.heap.size, 1, none⟩ (.string (strB (66 :: branchB n)))) _ _ _ _ := ((Ln0.keep Bx25a)).up Bx25a.size
        have Lcx25a : Ls ((wx25.setCell ⟨wx16.heap.size, 0, none⟩ (.string (strB (S3)))).setCell ⟨wx16.heap.size, 1, none⟩ (.string (strB (66 :: branchB n)))).heap.size ((wx25.setCell ⟨wx16.heap.size, 0, none⟩ (.string (strB (S3)))).setCell ⟨wx16.heap.size, 1, none⟩ (.string (strB (66 :: branchB n)))) _ _ _ _ := ((Lc0.keep Bx25a)).up Bx25a.size
        have Tx25a := hT.keep Bx25a h0
        clear zfx25 znx25 zcx25 zax25 Bx25 Lfx25 Lpx25 Lnx25 Lcx25 Tx25
        go_wp2_with fail
        generalize hgx25 : ((wx25.setCell ⟨wx16.heap.size, 0, none⟩ (.string (strB (S3)))).setCell ⟨wx16.heap.size, 1, none⟩ (.string (strB (66 :: branchB n)))) = vx25 at *
        have hby : (66 :: branchB n).length ≤ 140737488355328 := by have := (branchB_le hok3).1; simp only [List.length_cons]; omega
        have hK := takeBranch_any vx25 (66 :: branchB n) hby
        unfold branchSaid at hK
        rw [(takenBranch_iff _ hby n).2 ⟨hok3, rfl⟩] at hK
        simp only at hK
        refine hK.mono ?_
        rintro e yx25 ⟨⟨vvx25, rfl, ownx25⟩, hb2x25⟩
        clear hK hby hgx25
        clear cax250 cax251 fax250 fax251
        have zfx25b := (hb2x25.block _ (lt_of_heap zfx25a)).trans zfx25a
        have znx25b := (hb2x25.block _ (lt_of_heap znx25a)).trans znx25a
        have zcx25b := (hb2x25.block _ (lt_of_heap zcx25a)).trans zcx25a
        have zax25b := (hb2x25.block _ (lt_of_heap zax25a)).trans zax25a
        have Bx25b := Bx25a.trans (hb2x25.mono Bx25a.size)
        have Lfx25b := Lfx25a.past hb2x25
        have Lpx25b := Lpx25a.past hb2x25
        have Lnx25b := Lnx25a.past hb2x25
        have Lcx25b := Lcx25a.past hb2x25
        have Tx25b := Tx25a.keep hb2x25 (Nat.lt_of_lt_of_le h0 Bx25a.size)
        clear hb2x25 zfx25a znx25a zcx25a zax25a Bx25a Lfx25a Lpx25a Lnx25a Lcx25a Tx25a
        obtain ⟨ag, cg, rfl, -⟩ := own_form ownx25
        have lvx25 := ls_of_own linkC_length ownx25
        have hq2x25 : Below yx25.heap.size yx25 (yx25.alloc (.cells #[.int .i64 n.1, .slice ag n.2.length cg] 41)) := (Below.refl _ _).alloc (Nat.le_refl _) _
        have zgx25 := heap_last yx25 (.cells #[.int .i64 n.1, .slice ag n.2.length cg] 41) _ rfl
        have lwx25 := lvx25.past hq2x25
        clear lvx25
        have zfx25c := (hq2x25.block _ (lt_of_heap zfx25b)).trans zfx25b
        have znx25c := (hq2x25.block _ (lt_of_heap znx25b)).trans znx25b
        have zcx25c := (hq2x25.block _ (lt_of_heap zcx25b)).trans zcx25b
        have zax25c := (hq2x25.block _ (lt_of_heap zax25b)).trans zax25b
        have Bx25c := Bx25b.trans (hq2x25.mono Bx25b.size)
        have Lfx25c := Lfx25b.past hq2x25
        have Lpx25c := Lpx25b.past hq2x25
        have Lnx25c := Lnx25b.past hq2x25
        have Lcx25c := Lcx25b.past hq2x25
        have Tx25c := Tx25b.keep hq2x25 (Nat.lt_of_lt_of_le h0 Bx25b.size)
        clear hq2x25 zfx25b znx25b zcx25b zax25b Bx25b Lfx25b Lpx25b Lnx25b Lcx25b Tx25b
        have hE := sameBranch_any (yx25.alloc (.cells #[.int .i64 n.1, .slice ag n.2.length cg] 41)) n.1 n.1 n.2 n.2 _ _ lwx25 Lnx25c
        rw [decide_eq_true (rfl : (n.1, n.2) = (n.1, n.2))] at hE
        clear ownx25 lwx25
        have cfx25c0 := rc (i := 0) zfx25c rfl
        have cfx25c1 := rc (i := 1) zfx25c rfl
        have cnx25c0 := rc (i := 0) znx25c rfl
        have cnx25c1 := rc (i := 1) znx25c rfl
        have ccx25c0 := rc (i := 0) zcx25c rfl
        have ccx25c1 := rc (i := 1) zcx25c rfl
        have ccx25c2 := rc (i := 2) zcx25c rfl
        have ccx25c3 := rc (i := 3) zcx25c rfl
        have ccx25c4 := rc (i := 4) zcx25c rfl
        go_wp2_with fail
        generalize hg2x25 : (yx25.alloc (.cells #[.int .i64 n.1, .slice ag n.2.length cg] 41)) = zx25 at *
        refine hE.mono ?_
        rintro e tx25 ⟨rfl, hb3x25⟩
        clear hE
        clear cfx25c0 cfx25c1 cnx25c0 cnx25c1 ccx25c0 ccx25c1 ccx25c2 ccx25c3 ccx25c4
        have zfx25d := (hb3x25.block _ (lt_of_heap zfx25c)).trans zfx25c
        have znx25d := (hb3x25.block _ (lt_of_heap znx25c)).trans znx25c
        have zcx25d := (hb3x25.block _ (lt_of_heap zcx25c)).trans zcx25c
        have zax25d := (hb3x25.block _ (lt_of_heap zax25c)).trans zax25c
        have Bx25d := Bx25c.trans (hb3x25.mono Bx25c.size)
        have Lfx25d := Lfx25c.past hb3x25
        have Lpx25d := Lpx25c.past hb3x25
        have Lnx25d := Lnx25c.past hb3x25
        have Lcx25d := Lcx25c.past hb3x25
        have Tx25d := Tx25c.keep hb3x25 (Nat.lt_of_lt_of_le h0 Bx25c.size)
        clear hb3x25 zfx25c znx25c zcx25c zax25c Bx25c Lfx25c Lpx25c Lnx25c Lcx25c Tx25c
        clear zgx25 hg2x25
        by_cases hok4 : commitOk c = true
        · skip
          have hM := commit_any tx25 c _ Lcx25d Tx25d
          rw [hok4, made_yes] at hM
          generalize sha (75 :: commitB c) = S4 at hM
          have cfx25d0 := rc (i := 0) zfx25d rfl
          have cfx25d1 := rc (i := 1) zfx25d rfl
          have cnx25d0 := rc (i := 0) znx25d rfl
          have cnx25d1 := rc (i := 1) znx25d rfl
          have ccx25d0 := rc (i := 0) zcx25d rfl
          have ccx25d1 := rc (i := 1) zcx25d rfl
          have ccx25d2 := rc (i := 2) zcx25d rfl
          have ccx25d3 := rc (i := 3) zcx25d rfl
          have ccx25d4 := rc (i := 4) zcx25d rfl
          go_wp2_with fail
          refine hM.mono ?_
          rintro e wx26 ⟨rfl, hbx26⟩
          clear hM
          clear cfx25d0 cfx25d1 cnx25d0 cnx25d1 ccx25d0 ccx25d1 ccx25d2 ccx25d3 ccx25d4
          have zfx26 := (hbx26.block _ (lt_of_heap zfx25d)).trans zfx25d
          have znx26 := (hbx26.block _ (lt_of_heap znx25d)).trans znx25d
          have zcx26 := (hbx26.block _ (lt_of_heap zcx25d)).trans zcx25d
          have zax26 := (hbx26.block _ (lt_of_heap zax25d)).trans zax25d
          have Bx26 := Bx25d.trans (hbx26.mono Bx25d.size)
          have Lfx26 := Lfx25d.past hbx26
          have Lpx26 := Lpx25d.past hbx26
          have Lnx26 := Lnx25d.past hbx26
          have Lcx26 := Lcx25d.past hbx26
          have Tx26 := Tx25d.keep hbx26 (Nat.lt_of_lt_of_le h0 Bx25d.size)
          clear hbx26 zfx25d znx25d zcx25d zax25d Bx25d Lfx25d Lpx25d Lnx25d Lcx25d Tx25d
          have cax260 := rc (i := 0) zax26 rfl
          have cax261 := rc (i := 1) zax26 rfl
          have fax260 := frozen0 (j := 0) zax26
          have fax261 := frozen0 (j := 1) zax26
          have zax26a : ((wx26.setCell ⟨wx16.heap.size, 0, none⟩ (.string (strB (S4)))).setCell ⟨wx16.heap.size, 1, none⟩ (.string (strB (75 :: commitB c)))).heap[wx16.heap.size]? = some (.cells #[.string (strB (S4)), .string (strB (75 :: commitB c))] 27) := heap_set2 zax26
          have zfx26a : ((wx26.setCell ⟨wx16.heap.size, 0, none⟩ (.string (strB (S4)))).setCell ⟨wx16.heap.size, 1, none⟩ (.string (strB (75 :: commitB c)))).heap[w.heap.size]? = some (.cells #[.int .i64 f.1, .slice af f.2.length cf] 24) := ((gb_set _ (wx16.heap.size) 1 _).block _ (Nat.lt_of_lt_of_le (lt_of_heap zfx26) (gb_set _ (wx16.heap.size) 0 _).size) (fun e => by injection e with e; omega)).trans (((gb_set wx26 (wx16.heap.size) 0 _).block _ (lt_of_heap zfx26) (fun e => by injection e with e; omega)).trans zfx26)
          have znx26a : ((wx26.setCell ⟨wx16.heap.size, 0, none⟩ (.string (strB (S4)))).setCell ⟨wx16.heap.size, 1, none⟩ (.string (strB (75 :: commitB c)))).heap[w.heap.size + 1]? = some (.cells #[.int .i64 n.1, .slice an n.2.length cn] 41) := ((gb_set _ (wx16.heap.size) 1 _).block _ (Nat.lt_of_lt_of_le (lt_of_heap znx26) (gb_set _ (wx16.heap.size) 0 _).size) (fun e => by injection e with e; omega)).trans (((gb_set wx26 (wx16.heap.size) 0 _).block _ (lt_of_heap znx26) (fun e => by injection e with e; omega)).trans znx26)
          have zcx26a : ((wx26.setCell ⟨wx16.heap.size, 0, none⟩ (.string (strB (S4)))).setCell ⟨wx16.heap.size, 1, none⟩ (.string (strB (75 :: commitB c)))).heap[w.heap.size + 2]? = some (.cells #[.string (strB c.1), .slice ac c.2.1.length cc, .string (strB c.2.2.1), .int .i64 c.2.2.2.1, .string (strB c.2.2.2.2)] 54) := ((gb_set _ (wx16.heap.size) 1 _).block _ (Nat.lt_of_lt_of_le (lt_of_heap zcx26) (gb_set _ (wx16.heap.size) 0 _).size) (fun e => by injection e with e; omega)).trans (((gb_set wx26 (wx16.heap.size) 0 _).block _ (lt_of_heap zcx26) (fun e => by injection e with e; omega)).trans zcx26)
          have Bx26a := (Bx26.setCell (p := ⟨wx16.heap.size, 0, none⟩) (by simp; omega) (.string (strB (S4)))).setCell (p := ⟨wx16.heap.size, 1, none⟩) (by simp; omega) (.string (strB (75 :: commitB c)))
          have Lfx26a : Ls ((wx26.setCell ⟨wx16.heap.size, 0, none⟩ (.string (strB (S4)))).setCell ⟨wx16.heap.size, 1, none⟩ (.string (strB (75 :: commitB c)))).heap.size ((wx26.setCell ⟨wx16.heap.size, 0, none⟩ (.string (strB (S4)))).setCell ⟨wx16.heap.size, 1, none⟩ (.string (strB (75 :: commitB c)))) _ _ _ _ := ((Lf0.keep Bx26a)).up Bx26a.size
          have Lpx26a : Ls ((wx26.setCell ⟨wx16.heap.size, 0, none⟩ (.string (strB (S4)))).setCell ⟨wx16.heap.size, 1, none⟩ (.string (strB (75 :: commitB c)))).heap.size ((wx26.setCell ⟨wx16.heap.size, 0, none⟩ (.string (strB (S4)))).setCell ⟨wx16.heap.size, 1, none⟩ (.string (strB (75 :: commitB c)))) _ _ _ _ := ((Lp0.keep Bx26a)).up Bx26a.size
          have Lnx26a : Ls ((wx26.setCell ⟨wx16.heap.size, 0, none⟩ (.string (strB (S4)))).setCell ⟨wx16.heap.size, 1, none⟩ (.string (strB (75 :: commitB c)))).heap.size ((wx26.setCell ⟨wx16.heap.size, 0, none⟩ (.string (strB (S4)))).setCell ⟨wx16.heap.size, 1, none⟩ (.string (strB (75 :: commitB c)))) _ _ _ _ := ((Ln0.keep Bx26a)).up Bx26a.size
          have Lcx26a : Ls ((wx26.setCell ⟨wx16.heap.size, 0, none⟩ (.string (strB (S4)))).setCell ⟨wx16.heap.size, 1, none⟩ (.string (strB (75 :: commitB c)))).heap.size ((wx26.setCell ⟨wx16.heap.size, 0, none⟩ (.string (strB (S4)))).setCell ⟨wx16.heap.size, 1, none⟩ (.string (strB (75 :: commitB c)))) _ _ _ _ := ((Lc0.keep Bx26a)).up Bx26a.size
          have Tx26a := hT.keep Bx26a h0
          clear zfx26 znx26 zcx26 zax26 Bx26 Lfx26 Lpx26 Lnx26 Lcx26 Tx26
          go_wp2_with fail
          generalize hgx26 : ((wx26.setCell ⟨wx16.heap.size, 0, none⟩ (.string (strB (S4)))).setCell ⟨wx16.heap.size, 1, none⟩ (.string (strB (75 :: commitB c)))) = vx26 at *
          have hby : (75 :: commitB c).length ≤ 140737488355328 := by have := (commitB_le hok4).1; simp only [List.length_cons]; omega
          have hK := takeCommit_any vx26 (75 :: commitB c) hby
          unfold commitSaid at hK
          rw [(takenCommit_iff _ hby c).2 ⟨hok4, rfl⟩] at hK
          simp only at hK
          refine hK.mono ?_
          rintro e yx26 ⟨⟨vvx26, rfl, ownx26⟩, hb2x26⟩
          clear hK hby hgx26
          clear cax260 cax261 fax260 fax261
          have zfx26b := (hb2x26.block _ (lt_of_heap zfx26a)).trans zfx26a
          have znx26b := (hb2x26.block _ (lt_of_heap znx26a)).trans znx26a
          have zcx26b := (hb2x26.block _ (lt_of_heap zcx26a)).trans zcx26a
          have zax26b := (hb2x26.block _ (lt_of_heap zax26a)).trans zax26a
          have Bx26b := Bx26a.trans (hb2x26.mono Bx26a.size)
          have Lfx26b := Lfx26a.past hb2x26
          have Lpx26b := Lpx26a.past hb2x26
          have Lnx26b := Lnx26a.past hb2x26
          have Lcx26b := Lcx26a.past hb2x26
          have Tx26b := Tx26a.keep hb2x26 (Nat.lt_of_lt_of_le h0 Bx26a.size)
          clear hb2x26 zfx26a znx26a zcx26a zax26a Bx26a Lfx26a Lpx26a Lnx26a Lcx26a Tx26a
          obtain ⟨ag, cg, rfl, -⟩ := own_form ownx26
          have lvx26 := ls_of_own idC_length ownx26
          have hq2x26 : Below yx26.heap.size yx26 (yx26.alloc (.cells #[.string (strB c.1), .slice ag c.2.1.length cg, .string (strB c.2.2.1), .int .i64 c.2.2.2.1, .string (strB c.2.2.2.2)] 54)) := (Below.refl _ _).alloc (Nat.le_refl _) _
          have zgx26 := heap_last yx26 (.cells #[.string (strB c.1), .slice ag c.2.1.length cg, .string (strB c.2.2.1), .int .i64 c.2.2.2.1, .string (strB c.2.2.2.2)] 54) _ rfl
          have lwx26 := lvx26.past hq2x26
          clear lvx26
          have zfx26c := (hq2x26.block _ (lt_of_heap zfx26b)).trans zfx26b
          have znx26c := (hq2x26.block _ (lt_of_heap znx26b)).trans znx26b
          have zcx26c := (hq2x26.block _ (lt_of_heap zcx26b)).trans zcx26b
          have zax26c := (hq2x26.block _ (lt_of_heap zax26b)).trans zax26b
          have Bx26c := Bx26b.trans (hq2x26.mono Bx26b.size)
          have Lfx26c := Lfx26b.past hq2x26
          have Lpx26c := Lpx26b.past hq2x26
          have Lnx26c := Lnx26b.past hq2x26
          have Lcx26c := Lcx26b.past hq2x26
          have Tx26c := Tx26b.keep hq2x26 (Nat.lt_of_lt_of_le h0 Bx26b.size)
          clear hq2x26 zfx26b znx26b zcx26b zax26b Bx26b Lfx26b Lpx26b Lnx26b Lcx26b Tx26b
          have hE := sameCommit_any (yx26.alloc (.cells #[.string (strB c.1), .slice ag c.2.1.length cg, .string (strB c.2.2.1), .int .i64 c.2.2.2.1, .string (strB c.2.2.2.2)] 54)) c c _ _ Lcx26c lwx26
          rw [decide_eq_true (rfl : c = c)] at hE
          clear ownx26 lwx26
          have cfx26c0 := rc (i := 0) zfx26c rfl
          have cfx26c1 := rc (i := 1) zfx26c rfl
          have cnx26c0 := rc (i := 0) znx26c rfl
          have cnx26c1 := rc (i := 1) znx26c rfl
          have ccx26c0 := rc (i := 0) zcx26c rfl
          have ccx26c1 := rc (i := 1) zcx26c rfl
          have ccx26c2 := rc (i := 2) zcx26c rfl
          have ccx26c3 := rc (i := 3) zcx26c rfl
          have ccx26c4 := rc (i := 4) zcx26c rfl
          go_wp2_with fail
          generalize hg2x26 : (yx26.alloc (.cells #[.string (strB c.1), .slice ag c.2.1.length cg, .string (strB c.2.2.1), .int .i64 c.2.2.2.1, .string (strB c.2.2.2.2)] 54)) = zx26 at *
          refine hE.mono ?_
          rintro e tx26 ⟨rfl, hb3x26⟩
          clear hE
          clear cfx26c0 cfx26c1 cnx26c0 cnx26c1 ccx26c0 ccx26c1 ccx26c2 ccx26c3 ccx26c4
          have zfx26d := (hb3x26.block _ (lt_of_heap zfx26c)).trans zfx26c
          have znx26d := (hb3x26.block _ (lt_of_heap znx26c)).trans znx26c
          have zcx26d := (hb3x26.block _ (lt_of_heap zcx26c)).trans zcx26c
          have zax26d := (hb3x26.block _ (lt_of_heap zax26c)).trans zax26c
          have Bx26d := Bx26c.trans (hb3x26.mono Bx26c.size)
          have Lfx26d := Lfx26c.past hb3x26
          have Lpx26d := Lpx26c.past hb3x26
          have Lnx26d := Lnx26c.past hb3x26
          have Lcx26d := Lcx26c.past hb3x26
          have Tx26d := Tx26c.keep hb3x26 (Nat.lt_of_lt_of_le h0 Bx26c.size)
          clear hb3x26 zfx26c znx26c zcx26c zax26c Bx26c Lfx26c Lpx26c Lnx26c Lcx26c Tx26c
          clear zgx26 hg2x26
          go_wp2
          go_ret
          exact ⟨ret_bool (by first | rfl | simp), Bx26d⟩
        · have hok4 := Bool.eq_false_iff.2 hok4
          have hM := commit_any tx25 c _ Lcx25d Tx25d
          rw [hok4, made_no] at hM
          have cfx25d0 := rc (i := 0) zfx25d rfl
          have cfx25d1 := rc (i := 1) zfx25d rfl
          have cnx25d0 := rc (i := 0) znx25d rfl
          have cnx25d1 := rc (i := 1) znx25d rfl
          have ccx25d0 := rc (i := 0) zcx25d rfl
          have ccx25d1 := rc (i := 1) zcx25d rfl
          have ccx25d2 := rc (i := 2) zcx25d rfl
          have ccx25d3 := rc (i := 3) zcx25d rfl
          have ccx25d4 := rc (i := 4) zcx25d rfl
          go_wp2_with fail
          refine hM.mono ?_
          rintro e wx27 ⟨rfl, hbx27⟩
          clear hM
          clear cfx25d0 cfx25d1 cnx25d0 cnx25d1 ccx25d0 ccx25d1 ccx25d2 ccx25d3 ccx25d4
          have zfx27 := (hbx27.block _ (lt_of_heap zfx25d)).trans zfx25d
          have znx27 := (hbx27.block _ (lt_of_heap znx25d)).trans znx25d
          have zcx27 := (hbx27.block _ (lt_of_heap zcx25d)).trans zcx25d
          have zax27 := (hbx27.block _ (lt_of_heap zax25d)).trans zax25d
          have Bx27 := Bx25d.trans (hbx27.mono Bx25d.size)
          have Lfx27 := Lfx25d.past hbx27
          have Lpx27 := Lpx25d.past hbx27
          have Lnx27 := Lnx25d.past hbx27
          have Lcx27 := Lcx25d.past hbx27
          have Tx27 := Tx25d.keep hbx27 (Nat.lt_of_lt_of_le h0 Bx25d.size)
          clear hbx27 zfx25d znx25d zcx25d zax25d Bx25d Lfx25d Lpx25d Lnx25d Lcx25d Tx25d
          have cax270 := rc (i := 0) zax27 rfl
          have cax271 := rc (i := 1) zax27 rfl
          have fax270 := frozen0 (j := 0) zax27
          have fax271 := frozen0 (j := 1) zax27
          have zax27a : ((wx27.setCell ⟨wx16.heap.size, 0, none⟩ (.string (strB (([] : Bs))))).setCell ⟨wx16.heap.size, 1, none⟩ (.string (strB (([] : Bs))))).heap[wx16.heap.size]? = some (.cells #[.string (strB (([] : Bs))), .string (strB (([] : Bs)))] 27) := heap_set2 zax27
          have zfx27a : ((wx27.setCell ⟨wx16.heap.size, 0, none⟩ (.string (strB (([] : Bs))))).setCell ⟨wx16.heap.size, 1, none⟩ (.string (strB (([] : Bs))))).heap[w.heap.size]? = some (.cells #[.int .i64 f.1, .slice af f.2.length cf] 24) := ((gb_set _ (wx16.heap.size) 1 _).block _ (Nat.lt_of_lt_of_le (lt_of_heap zfx27) (gb_set _ (wx16.heap.size) 0 _).size) (fun e => by injection e with e; omega)).trans (((gb_set wx27 (wx16.heap.size) 0 _).block _ (lt_of_heap zfx27) (fun e => by injection e with e; omega)).trans zfx27)
          have znx27a : ((wx27.setCell ⟨wx16.heap.size, 0, none⟩ (.string (strB (([] : Bs))))).setCell ⟨wx16.heap.size, 1, none⟩ (.string (strB (([] : Bs))))).heap[w.heap.size + 1]? = some (.cells #[.int .i64 n.1, .slice an n.2.length cn] 41) := ((gb_set _ (wx16.heap.size) 1 _).block _ (Nat.lt_of_lt_of_le (lt_of_heap znx27) (gb_set _ (wx16.heap.size) 0 _).size) (fun e => by injection e with e; omega)).trans (((gb_set wx27 (wx16.heap.size) 0 _).block _ (lt_of_heap znx27) (fun e => by injection e with e; omega)).trans znx27)
          have zcx27a : ((wx27.setCell ⟨wx16.heap.size, 0, none⟩ (.string (strB (([] : Bs))))).setCell ⟨wx16.heap.size, 1, none⟩ (.string (strB (([] : Bs))))).heap[w.heap.size + 2]? = some (.cells #[.string (strB c.1), .slice ac c.2.1.length cc, .string (strB c.2.2.1), .int .i64 c.2.2.2.1, .string (strB c.2.2.2.2)] 54) := ((gb_set _ (wx16.heap.size) 1 _).block _ (Nat.lt_of_lt_of_le (lt_of_heap zcx27) (gb_set _ (wx16.heap.size) 0 _).size) (fun e => by injection e with e; omega)).trans (((gb_set wx27 (wx16.heap.size) 0 _).block _ (lt_of_heap zcx27) (fun e => by injection e with e; omega)).trans zcx27)
          have Bx27a := (Bx27.setCell (p := ⟨wx16.heap.size, 0, none⟩) (by simp; omega) (.string (strB (([] : Bs))))).setCell (p := ⟨wx16.heap.size, 1, none⟩) (by simp; omega) (.string (strB (([] : Bs))))
          have Lfx27a : Ls ((wx27.setCell ⟨wx16.heap.size, 0, none⟩ (.string (strB (([] : Bs))))).setCell ⟨wx16.heap.size, 1, none⟩ (.string (strB (([] : Bs))))).heap.size ((wx27.setCell ⟨wx16.heap.size, 0, none⟩ (.string (strB (([] : Bs))))).setCell ⟨wx16.heap.size, 1, none⟩ (.string (strB (([] : Bs))))) _ _ _ _ := ((Lf0.keep Bx27a)).up Bx27a.size
          have Lpx27a : Ls ((wx27.setCell ⟨wx16.heap.size, 0, none⟩ (.string (strB (([] : Bs))))).setCell ⟨wx16.heap.size, 1, none⟩ (.string (strB (([] : Bs))))).heap.size ((wx27.setCell ⟨wx16.heap.size, 0, none⟩ (.string (strB (([] : Bs))))).setCell ⟨wx16.heap.size, 1, none⟩ (.string (strB (([] : Bs))))) _ _ _ _ := ((Lp0.keep Bx27a)).up Bx27a.size
          have Lnx27a : Ls ((wx27.setCell ⟨wx16.heap.size, 0, none⟩ (.string (strB (([] : Bs))))).setCell ⟨wx16.heap.size, 1, none⟩ (.string (strB (([] : Bs))))).heap.size ((wx27.setCell ⟨wx16.heap.size, 0, none⟩ (.string (strB (([] : Bs))))).setCell ⟨wx16.heap.size, 1, none⟩ (.string (strB (([] : Bs))))) _ _ _ _ := ((Ln0.keep Bx27a)).up Bx27a.size
          have Lcx27a : Ls ((wx27.setCell ⟨wx16.heap.size, 0, none⟩ (.string (strB (([] : Bs))))).setCell ⟨wx16.heap.size, 1, none⟩ (.string (strB (([] : Bs))))).heap.size ((wx27.setCell ⟨wx16.heap.size, 0, none⟩ (.string (strB (([] : Bs))))).setCell ⟨wx16.heap.size, 1, none⟩ (.string (strB (([] : Bs))))) _ _ _ _ := ((Lc0.keep Bx27a)).up Bx27a.size
          have Tx27a := hT.keep Bx27a h0
          clear zfx27 znx27 zcx27 zax27 Bx27 Lfx27 Lpx27 Lnx27 Lcx27 Tx27
          go_wp2_with fail
          generalize hgx27 : ((wx27.setCell ⟨wx16.heap.size, 0, none⟩ (.string (strB (([] : Bs))))).setCell ⟨wx16.heap.size, 1, none⟩ (.string (strB (([] : Bs))))) = vx27 at *
          have hby : (([] : Bs)).length ≤ 140737488355328 := by simp
          have hK := takeCommit_any vx27 (([] : Bs)) hby
          unfold commitSaid at hK
          rw [takenCommit_nil] at hK
          simp only at hK
          refine hK.mono ?_
          rintro e yx27 ⟨rfl, hb2x27⟩
          clear hK hby hgx27
          clear cax270 cax271 fax270 fax271
          have zfx27b := (hb2x27.block _ (lt_of_heap zfx27a)).trans zfx27a
          have znx27b := (hb2x27.block _ (lt_of_heap znx27a)).trans znx27a
          have zcx27b := (hb2x27.block _ (lt_of_heap zcx27a)).trans zcx27a
          have zax27b := (hb2x27.block _ (lt_of_heap zax27a)).trans zax27a
          have Bx27b := Bx27a.trans (hb2x27.mono Bx27a.size)
          have Lfx27b := Lfx27a.past hb2x27
          have Lpx27b := Lpx27a.past hb2x27
          have Lnx27b := Lnx27a.past hb2x27
          have Lcx27b := Lcx27a.past hb2x27
          have Tx27b := Tx27a.keep hb2x27 (Nat.lt_of_lt_of_le h0 Bx27a.size)
          clear hb2x27 zfx27a znx27a zcx27a zax27a Bx27a Lfx27a Lpx27a Lnx27a Lcx27a Tx27a
          have hq2x27 : Below yx27.heap.size yx27 (yx27.alloc (.cells #[.string ⟨#[]⟩, .slice none 0 0, .string ⟨#[]⟩, .int .i64 0, .string ⟨#[]⟩] 54)) := (Below.refl _ _).alloc (Nat.le_refl _) _
          have zgx27 := heap_last yx27 (.cells #[.string ⟨#[]⟩, .slice none 0 0, .string ⟨#[]⟩, .int .i64 0, .string ⟨#[]⟩] 54) _ rfl
          have zfx27c := (hq2x27.block _ (lt_of_heap zfx27b)).trans zfx27b
          have znx27c := (hq2x27.block _ (lt_of_heap znx27b)).trans znx27b
          have zcx27c := (hq2x27.block _ (lt_of_heap zcx27b)).trans zcx27b
          have zax27c := (hq2x27.block _ (lt_of_heap zax27b)).trans zax27b
          have Bx27c := Bx27b.trans (hq2x27.mono Bx27b.size)
          have Lfx27c := Lfx27b.past hq2x27
          have Lpx27c := Lpx27b.past hq2x27
          have Lnx27c := Lnx27b.past hq2x27
          have Lcx27c := Lcx27b.past hq2x27
          have Tx27c := Tx27b.keep hq2x27 (Nat.lt_of_lt_of_le h0 Bx27b.size)
          clear hq2x27 zfx27b znx27b zcx27b zax27b Bx27b Lfx27b Lpx27b Lnx27b Lcx27b Tx27b
          go_wp2
          go_ret
          exact ⟨ret_bool (by first | rfl | simp), Bx27c⟩
      · have hok3 := Bool.eq_false_iff.2 hok3
        have hM := branch_any yx24 n _ Lnx24b Tx24b
        rw [hok3, made_no] at hM
        have cfx24b0 := rc (i := 0) zfx24b rfl
        have cfx24b1 := rc (i := 1) zfx24b rfl
        have cnx24b0 := rc (i := 0) znx24b rfl
        have cnx24b1 := rc (i := 1) znx24b rfl
        have ccx24b0 := rc (i := 0) zcx24b rfl
        have ccx24b1 := rc (i := 1) zcx24b rfl
        have ccx24b2 := rc (i := 2) zcx24b rfl
        have ccx24b3 := rc (i := 3) zcx24b rfl
        have ccx24b4 := rc (i := 4) zcx24b rfl
        go_wp2_with fail
        refine hM.mono ?_
        rintro e wx28 ⟨rfl, hbx28⟩
        clear hM
        clear cfx24b0 cfx24b1 cnx24b0 cnx24b1 ccx24b0 ccx24b1 ccx24b2 ccx24b3 ccx24b4
        have zfx28 := (hbx28.block _ (lt_of_heap zfx24b)).trans zfx24b
        have znx28 := (hbx28.block _ (lt_of_heap znx24b)).trans znx24b
        have zcx28 := (hbx28.block _ (lt_of_heap zcx24b)).trans zcx24b
        have zax28 := (hbx28.block _ (lt_of_heap zax24b)).trans zax24b
        have Bx28 := Bx24b.trans (hbx28.mono Bx24b.size)
        have Lfx28 := Lfx24b.past hbx28
        have Lpx28 := Lpx24b.past hbx28
        have Lnx28 := Lnx24b.past hbx28
        have Lcx28 := Lcx24b.past hbx28
        have Tx28 := Tx24b.keep hbx28 (Nat.lt_of_lt_of_le h0 Bx24b.size)
        clear hbx28 zfx24b znx24b zcx24b zax24b Bx24b Lfx24b Lpx24b Lnx24b Lcx24b Tx24b
        have cax280 := rc (i := 0) zax28 rfl
        have cax281 := rc (i := 1) zax28 rfl
        have fax280 := frozen0 (j := 0) zax28
        have fax281 := frozen0 (j := 1) zax28
        have zax28a : ((wx28.setCell ⟨wx16.heap.size, 0, none⟩ (.string (strB (([] : Bs))))).setCell ⟨wx16.heap.size, 1, none⟩ (.string (strB (([] : Bs))))).heap[wx16.heap.size]? = some (.cells #[.string (strB (([] : Bs))), .string (strB (([] : Bs)))] 27) := heap_set2 zax28
        have zfx28a : ((wx28.setCell ⟨wx16.heap.size, 0, none⟩ (.string (strB (([] : Bs))))).setCell ⟨wx16.heap.size, 1, none⟩ (.string (strB (([] : Bs))))).heap[w.heap.size]? = some (.cells #[.int .i64 f.1, .slice af f.2.length cf] 24) := ((gb_set _ (wx16.heap.size) 1 _).block _ (Nat.lt_of_lt_of_le (lt_of_heap zfx28) (gb_set _ (wx16.heap.size) 0 _).size) (fun e => by injection e with e; omega)).trans (((gb_set wx28 (wx16.heap.size) 0 _).block _ (lt_of_heap zfx28) (fun e => by injection e with e; omega)).trans zfx28)
        have znx28a : ((wx28.setCell ⟨wx16.heap.size, 0, none⟩ (.string (strB (([] : Bs))))).setCell ⟨wx16.heap.size, 1, none⟩ (.string (strB (([] : Bs))))).heap[w.heap.size + 1]? = some (.cells #[.int .i64 n.1, .slice an n.2.length cn] 41) := ((gb_set _ (wx16.heap.size) 1 _).block _ (Nat.lt_of_lt_of_le (lt_of_heap znx28) (gb_set _ (wx16.heap.size) 0 _).size) (fun e => by injection e with e; omega)).trans (((gb_set wx28 (wx16.heap.size) 0 _).block _ (lt_of_heap znx28) (fun e => by injection e with e; omega)).trans znx28)
        have zcx28a : ((wx28.setCell ⟨wx16.heap.size, 0, none⟩ (.string (strB (([] : Bs))))).setCell ⟨wx16.heap.size, 1, none⟩ (.string (strB (([] : Bs))))).heap[w.heap.size + 2]? = some (.cells #[.string (strB c.1), .slice ac c.2.1.length cc, .string (strB c.2.2.1), .int .i64 c.2.2.2.1, .string (strB c.2.2.2.2)] 54) := ((gb_set _ (wx16.heap.size) 1 _).block _ (Nat.lt_of_lt_of_le (lt_of_heap zcx28) (gb_set _ (wx16.heap.size) 0 _).size) (fun e => by injection e with e; omega)).trans (((gb_set wx28 (wx16.heap.size) 0 _).block _ (lt_of_heap zcx28) (fun e => by injection e with e; omega)).trans zcx28)
        have Bx28a := (Bx28.setCell (p := ⟨wx16.heap.size, 0, none⟩) (by simp; omega) (.string (strB (([] : Bs))))).setCell (p := ⟨wx16.heap.size, 1, none⟩) (by simp; omega) (.string (strB (([] : Bs))))
        have Lfx28a : Ls ((wx28.setCell ⟨wx16.heap.size, 0, none⟩ (.string (strB (([] : Bs))))).setCell ⟨wx16.heap.size, 1, none⟩ (.string (strB (([] : Bs))))).heap.size ((wx28.setCell ⟨wx16.heap.size, 0, none⟩ (.string (strB (([] : Bs))))).setCell ⟨wx16.heap.size, 1, none⟩ (.string (strB (([] : Bs))))) _ _ _ _ := ((Lf0.keep Bx28a)).up Bx28a.size
        have Lpx28a : Ls ((wx28.setCell ⟨wx16.heap.size, 0, none⟩ (.string (strB (([] : Bs))))).setCell ⟨wx16.heap.size, 1, none⟩ (.string (strB (([] : Bs))))).heap.size ((wx28.setCell ⟨wx16.heap.size, 0, none⟩ (.string (strB (([] : Bs))))).setCell ⟨wx16.heap.size, 1, none⟩ (.string (strB (([] : Bs))))) _ _ _ _ := ((Lp0.keep Bx28a)).up Bx28a.size
        have Lnx28a : Ls ((wx28.setCell ⟨wx16.heap.size, 0, none⟩ (.string (strB (([] : Bs))))).setCell ⟨wx16.heap.size, 1, none⟩ (.string (strB (([] : Bs))))).heap.size ((wx28.setCell ⟨wx16.heap.size, 0, none⟩ (.string (strB (([] : Bs))))).setCell ⟨wx16.heap.size, 1, none⟩ (.string (strB (([] : Bs))))) _ _ _ _ := ((Ln0.keep Bx28a)).up Bx28a.size
        have Lcx28a : Ls ((wx28.setCell ⟨wx16.heap.size, 0, none⟩ (.string (strB (([] : Bs))))).setCell ⟨wx16.heap.size, 1, none⟩ (.string (strB (([] : Bs))))).heap.size ((wx28.setCell ⟨wx16.heap.size, 0, none⟩ (.string (strB (([] : Bs))))).setCell ⟨wx16.heap.size, 1, none⟩ (.string (strB (([] : Bs))))) _ _ _ _ := ((Lc0.keep Bx28a)).up Bx28a.size
        have Tx28a := hT.keep Bx28a h0
        clear zfx28 znx28 zcx28 zax28 Bx28 Lfx28 Lpx28 Lnx28 Lcx28 Tx28
        go_wp2_with fail
        generalize hgx28 : ((wx28.setCell ⟨wx16.heap.size, 0, none⟩ (.string (strB (([] : Bs))))).setCell ⟨wx16.heap.size, 1, none⟩ (.string (strB (([] : Bs))))) = vx28 at *
        have hby : (([] : Bs)).length ≤ 140737488355328 := by simp
        have hK := takeBranch_any vx28 (([] : Bs)) hby
        unfold branchSaid at hK
        rw [takenBranch_nil] at hK
        simp only at hK
        refine hK.mono ?_
        rintro e yx28 ⟨rfl, hb2x28⟩
        clear hK hby hgx28
        clear cax280 cax281 fax280 fax281
        have zfx28b := (hb2x28.block _ (lt_of_heap zfx28a)).trans zfx28a
        have znx28b := (hb2x28.block _ (lt_of_heap znx28a)).trans znx28a
        have zcx28b := (hb2x28.block _ (lt_of_heap zcx28a)).trans zcx28a
        have zax28b := (hb2x28.block _ (lt_of_heap zax28a)).trans zax28a
        have Bx28b := Bx28a.trans (hb2x28.mono Bx28a.size)
        have Lfx28b := Lfx28a.past hb2x28
        have Lpx28b := Lpx28a.past hb2x28
        have Lnx28b := Lnx28a.past hb2x28
        have Lcx28b := Lcx28a.past hb2x28
        have Tx28b := Tx28a.keep hb2x28 (Nat.lt_of_lt_of_le h0 Bx28a.size)
        clear hb2x28 zfx28a znx28a zcx28a zax28a Bx28a Lfx28a Lpx28a Lnx28a Lcx28a Tx28a
        have hq2x28 : Below yx28.heap.size yx28 (yx28.alloc (.cells #[.int .i64 0, .slice none 0 0] 41)) := (Below.refl _ _).alloc (Nat.le_refl _) _
        have zgx28 := heap_last yx28 (.cells #[.int .i64 0, .slice none 0 0] 41) _ rfl
        have zfx28c := (hq2x28.block _ (lt_of_heap zfx28b)).trans zfx28b
        have znx28c := (hq2x28.block _ (lt_of_heap znx28b)).trans znx28b
        have zcx28c := (hq2x28.block _ (lt_of_heap zcx28b)).trans zcx28b
        have zax28c := (hq2x28.block _ (lt_of_heap zax28b)).trans zax28b
        have Bx28c := Bx28b.trans (hq2x28.mono Bx28b.size)
        have Lfx28c := Lfx28b.past hq2x28
        have Lpx28c := Lpx28b.past hq2x28
        have Lnx28c := Lnx28b.past hq2x28
        have Lcx28c := Lcx28b.past hq2x28
        have Tx28c := Tx28b.keep hq2x28 (Nat.lt_of_lt_of_le h0 Bx28b.size)
        clear hq2x28 zfx28b znx28b zcx28b zax28b Bx28b Lfx28b Lpx28b Lnx28b Lcx28b Tx28b
        by_cases hok4 : commitOk c = true
        · skip
          have hM := commit_any (yx28.alloc (.cells #[.int .i64 0, .slice none 0 0] 41)) c _ Lcx28c Tx28c
          rw [hok4, made_yes] at hM
          generalize sha (75 :: commitB c) = S4 at hM
          have cfx28c0 := rc (i := 0) zfx28c rfl
          have cfx28c1 := rc (i := 1) zfx28c rfl
          have cnx28c0 := rc (i := 0) znx28c rfl
          have cnx28c1 := rc (i := 1) znx28c rfl
          have ccx28c0 := rc (i := 0) zcx28c rfl
          have ccx28c1 := rc (i := 1) zcx28c rfl
          have ccx28c2 := rc (i := 2) zcx28c rfl
          have ccx28c3 := rc (i := 3) zcx28c rfl
          have ccx28c4 := rc (i := 4) zcx28c rfl
          go_wp2_with fail
          refine hM.mono ?_
          rintro e wx29 ⟨rfl, hbx29⟩
          clear hM
          clear cfx28c0 cfx28c1 cnx28c0 cnx28c1 ccx28c0 ccx28c1 ccx28c2 ccx28c3 ccx28c4
          have zfx29 := (hbx29.block _ (lt_of_heap zfx28c)).trans zfx28c
          have znx29 := (hbx29.block _ (lt_of_heap znx28c)).trans znx28c
          have zcx29 := (hbx29.block _ (lt_of_heap zcx28c)).trans zcx28c
          have zax29 := (hbx29.block _ (lt_of_heap zax28c)).trans zax28c
          have Bx29 := Bx28c.trans (hbx29.mono Bx28c.size)
          have Lfx29 := Lfx28c.past hbx29
          have Lpx29 := Lpx28c.past hbx29
          have Lnx29 := Lnx28c.past hbx29
          have Lcx29 := Lcx28c.past hbx29
          have Tx29 := Tx28c.keep hbx29 (Nat.lt_of_lt_of_le h0 Bx28c.size)
          clear hbx29 zfx28c znx28c zcx28c zax28c Bx28c Lfx28c Lpx28c Lnx28c Lcx28c Tx28c
          have cax290 := rc (i := 0) zax29 rfl
          have cax291 := rc (i := 1) zax29 rfl
          have fax290 := frozen0 (j := 0) zax29
          have fax291 := frozen0 (j := 1) zax29
          have zax29a : ((wx29.setCell ⟨wx16.heap.size, 0, none⟩ (.string (strB (S4)))).setCell ⟨wx16.heap.size, 1, none⟩ (.string (strB (75 :: commitB c)))).heap[wx16.heap.size]? = some (.cells #[.string (strB (S4)), .string (strB (75 :: commitB c))] 27) := heap_set2 zax29
          have zfx29a : ((wx29.setCell ⟨wx16.heap.size, 0, none⟩ (.string (strB (S4)))).setCell ⟨wx16.heap.size, 1, none⟩ (.string (strB (75 :: commitB c)))).heap[w.heap.size]? = some (.cells #[.int .i64 f.1, .slice af f.2.length cf] 24) := ((gb_set _ (wx16.heap.size) 1 _).block _ (Nat.lt_of_lt_of_le (lt_of_heap zfx29) (gb_set _ (wx16.heap.size) 0 _).size) (fun e => by injection e with e; omega)).trans (((gb_set wx29 (wx16.heap.size) 0 _).block _ (lt_of_heap zfx29) (fun e => by injection e with e; omega)).trans zfx29)
          have znx29a : ((wx29.setCell ⟨wx16.heap.size, 0, none⟩ (.string (strB (S4)))).setCell ⟨wx16.heap.size, 1, none⟩ (.string (strB (75 :: commitB c)))).heap[w.heap.size + 1]? = some (.cells #[.int .i64 n.1, .slice an n.2.length cn] 41) := ((gb_set _ (wx16.heap.size) 1 _).block _ (Nat.lt_of_lt_of_le (lt_of_heap znx29) (gb_set _ (wx16.heap.size) 0 _).size) (fun e => by injection e with e; omega)).trans (((gb_set wx29 (wx16.heap.size) 0 _).block _ (lt_of_heap znx29) (fun e => by injection e with e; omega)).trans znx29)
          have zcx29a : ((wx29.setCell ⟨wx16.heap.size, 0, none⟩ (.string (strB (S4)))).setCell ⟨wx16.heap.size, 1, none⟩ (.string (strB (75 :: commitB c)))).heap[w.heap.size + 2]? = some (.cells #[.string (strB c.1), .slice ac c.2.1.length cc, .string (strB c.2.2.1), .int .i64 c.2.2.2.1, .string (strB c.2.2.2.2)] 54) := ((gb_set _ (wx16.heap.size) 1 _).block _ (Nat.lt_of_lt_of_le (lt_of_heap zcx29) (gb_set _ (wx16.heap.size) 0 _).size) (fun e => by injection e with e; omega)).trans (((gb_set wx29 (wx16.heap.size) 0 _).block _ (lt_of_heap zcx29) (fun e => by injection e with e; omega)).trans zcx29)
          have Bx29a := (Bx29.setCell (p := ⟨wx16.heap.size, 0, none⟩) (by simp; omega) (.string (strB (S4)))).setCell (p := ⟨wx16.heap.size, 1, none⟩) (by simp; omega) (.string (strB (75 :: commitB c)))
          have Lfx29a : Ls ((wx29.setCell ⟨wx16.heap.size, 0, none⟩ (.string (strB (S4)))).setCell ⟨wx16.heap.size, 1, none⟩ (.string (strB (75 :: commitB c)))).heap.size ((wx29.setCell ⟨wx16.heap.size, 0, none⟩ (.string (strB (S4)))).setCell ⟨wx16.heap.size, 1, none⟩ (.string (strB (75 :: commitB c)))) _ _ _ _ := ((Lf0.keep Bx29a)).up Bx29a.size
          have Lpx29a : Ls ((wx29.setCell ⟨wx16.heap.size, 0, none⟩ (.string (strB (S4)))).setCell ⟨wx16.heap.size, 1, none⟩ (.string (strB (75 :: commitB c)))).heap.size ((wx29.setCell ⟨wx16.heap.size, 0, none⟩ (.string (strB (S4)))).setCell ⟨wx16.heap.size, 1, none⟩ (.string (strB (75 :: commitB c)))) _ _ _ _ := ((Lp0.keep Bx29a)).up Bx29a.size
          have Lnx29a : Ls ((wx29.setCell ⟨wx16.heap.size, 0, none⟩ (.string (strB (S4)))).setCell ⟨wx16.heap.size, 1, none⟩ (.string (strB (75 :: commitB c)))).heap.size ((wx29.setCell ⟨wx16.heap.size, 0, none⟩ (.string (strB (S4)))).setCell ⟨wx16.heap.size, 1, none⟩ (.string (strB (75 :: commitB c)))) _ _ _ _ := ((Ln0.keep Bx29a)).up Bx29a.size
          have Lcx29a : Ls ((wx29.setCell ⟨wx16.heap.size, 0, none⟩ (.string (strB (S4)))).setCell ⟨wx16.heap.size, 1, none⟩ (.string (strB (75 :: commitB c)))).heap.size ((wx29.setCell ⟨wx16.heap.size, 0, none⟩ (.string (strB (S4)))).setCell ⟨wx16.heap.size, 1, none⟩ (.string (strB (75 :: commitB c)))) _ _ _ _ := ((Lc0.keep Bx29a)).up Bx29a.size
          have Tx29a := hT.keep Bx29a h0
          clear zfx29 znx29 zcx29 zax29 Bx29 Lfx29 Lpx29 Lnx29 Lcx29 Tx29
          go_wp2_with fail
          generalize hgx29 : ((wx29.setCell ⟨wx16.heap.size, 0, none⟩ (.string (strB (S4)))).setCell ⟨wx16.heap.size, 1, none⟩ (.string (strB (75 :: commitB c)))) = vx29 at *
          have hby : (75 :: commitB c).length ≤ 140737488355328 := by have := (commitB_le hok4).1; simp only [List.length_cons]; omega
          have hK := takeCommit_any vx29 (75 :: commitB c) hby
          unfold commitSaid at hK
          rw [(takenCommit_iff _ hby c).2 ⟨hok4, rfl⟩] at hK
          simp only at hK
          refine hK.mono ?_
          rintro e yx29 ⟨⟨vvx29, rfl, ownx29⟩, hb2x29⟩
          clear hK hby hgx29
          clear cax290 cax291 fax290 fax291
          have zfx29b := (hb2x29.block _ (lt_of_heap zfx29a)).trans zfx29a
          have znx29b := (hb2x29.block _ (lt_of_heap znx29a)).trans znx29a
          have zcx29b := (hb2x29.block _ (lt_of_heap zcx29a)).trans zcx29a
          have zax29b := (hb2x29.block _ (lt_of_heap zax29a)).trans zax29a
          have Bx29b := Bx29a.trans (hb2x29.mono Bx29a.size)
          have Lfx29b := Lfx29a.past hb2x29
          have Lpx29b := Lpx29a.past hb2x29
          have Lnx29b := Lnx29a.past hb2x29
          have Lcx29b := Lcx29a.past hb2x29
          have Tx29b := Tx29a.keep hb2x29 (Nat.lt_of_lt_of_le h0 Bx29a.size)
          clear hb2x29 zfx29a znx29a zcx29a zax29a Bx29a Lfx29a Lpx29a Lnx29a Lcx29a Tx29a
          obtain ⟨ag, cg, rfl, -⟩ := own_form ownx29
          have lvx29 := ls_of_own idC_length ownx29
          have hq2x29 : Below yx29.heap.size yx29 (yx29.alloc (.cells #[.string (strB c.1), .slice ag c.2.1.length cg, .string (strB c.2.2.1), .int .i64 c.2.2.2.1, .string (strB c.2.2.2.2)] 54)) := (Below.refl _ _).alloc (Nat.le_refl _) _
          have zgx29 := heap_last yx29 (.cells #[.string (strB c.1), .slice ag c.2.1.length cg, .string (strB c.2.2.1), .int .i64 c.2.2.2.1, .string (strB c.2.2.2.2)] 54) _ rfl
          have lwx29 := lvx29.past hq2x29
          clear lvx29
          have zfx29c := (hq2x29.block _ (lt_of_heap zfx29b)).trans zfx29b
          have znx29c := (hq2x29.block _ (lt_of_heap znx29b)).trans znx29b
          have zcx29c := (hq2x29.block _ (lt_of_heap zcx29b)).trans zcx29b
          have zax29c := (hq2x29.block _ (lt_of_heap zax29b)).trans zax29b
          have Bx29c := Bx29b.trans (hq2x29.mono Bx29b.size)
          have Lfx29c := Lfx29b.past hq2x29
          have Lpx29c := Lpx29b.past hq2x29
          have Lnx29c := Lnx29b.past hq2x29
          have Lcx29c := Lcx29b.past hq2x29
          have Tx29c := Tx29b.keep hq2x29 (Nat.lt_of_lt_of_le h0 Bx29b.size)
          clear hq2x29 zfx29b znx29b zcx29b zax29b Bx29b Lfx29b Lpx29b Lnx29b Lcx29b Tx29b
          have hE := sameCommit_any (yx29.alloc (.cells #[.string (strB c.1), .slice ag c.2.1.length cg, .string (strB c.2.2.1), .int .i64 c.2.2.2.1, .string (strB c.2.2.2.2)] 54)) c c _ _ Lcx29c lwx29
          rw [decide_eq_true (rfl : c = c)] at hE
          clear ownx29 lwx29
          have cfx29c0 := rc (i := 0) zfx29c rfl
          have cfx29c1 := rc (i := 1) zfx29c rfl
          have cnx29c0 := rc (i := 0) znx29c rfl
          have cnx29c1 := rc (i := 1) znx29c rfl
          have ccx29c0 := rc (i := 0) zcx29c rfl
          have ccx29c1 := rc (i := 1) zcx29c rfl
          have ccx29c2 := rc (i := 2) zcx29c rfl
          have ccx29c3 := rc (i := 3) zcx29c rfl
          have ccx29c4 := rc (i := 4) zcx29c rfl
          go_wp2_with fail
          generalize hg2x29 : (yx29.alloc (.cells #[.string (strB c.1), .slice ag c.2.1.length cg, .string (strB c.2.2.1), .int .i64 c.2.2.2.1, .string (strB c.2.2.2.2)] 54)) = zx29 at *
          refine hE.mono ?_
          rintro e tx29 ⟨rfl, hb3x29⟩
          clear hE
          clear cfx29c0 cfx29c1 cnx29c0 cnx29c1 ccx29c0 ccx29c1 ccx29c2 ccx29c3 ccx29c4
          have zfx29d := (hb3x29.block _ (lt_of_heap zfx29c)).trans zfx29c
          have znx29d := (hb3x29.block _ (lt_of_heap znx29c)).trans znx29c
          have zcx29d := (hb3x29.block _ (lt_of_heap zcx29c)).trans zcx29c
          have zax29d := (hb3x29.block _ (lt_of_heap zax29c)).trans zax29c
          have Bx29d := Bx29c.trans (hb3x29.mono Bx29c.size)
          have Lfx29d := Lfx29c.past hb3x29
          have Lpx29d := Lpx29c.past hb3x29
          have Lnx29d := Lnx29c.past hb3x29
          have Lcx29d := Lcx29c.past hb3x29
          have Tx29d := Tx29c.keep hb3x29 (Nat.lt_of_lt_of_le h0 Bx29c.size)
          clear hb3x29 zfx29c znx29c zcx29c zax29c Bx29c Lfx29c Lpx29c Lnx29c Lcx29c Tx29c
          clear zgx29 hg2x29
          go_wp2
          go_ret
          exact ⟨ret_bool (by first | rfl | simp), Bx29d⟩
        · have hok4 := Bool.eq_false_iff.2 hok4
          have hM := commit_any (yx28.alloc (.cells #[.int .i64 0, .slice none 0 0] 41)) c _ Lcx28c Tx28c
          rw [hok4, made_no] at hM
          have cfx28c0 := rc (i := 0) zfx28c rfl
          have cfx28c1 := rc (i := 1) zfx28c rfl
          have cnx28c0 := rc (i := 0) znx28c rfl
          have cnx28c1 := rc (i := 1) znx28c rfl
          have ccx28c0 := rc (i := 0) zcx28c rfl
          have ccx28c1 := rc (i := 1) zcx28c rfl
          have ccx28c2 := rc (i := 2) zcx28c rfl
          have ccx28c3 := rc (i := 3) zcx28c rfl
          have ccx28c4 := rc (i := 4) zcx28c rfl
          go_wp2_with fail
          refine hM.mono ?_
          rintro e wx30 ⟨rfl, hbx30⟩
          clear hM
          clear cfx28c0 cfx28c1 cnx28c0 cnx28c1 ccx28c0 ccx28c1 ccx28c2 ccx28c3 ccx28c4
          have zfx30 := (hbx30.block _ (lt_of_heap zfx28c)).trans zfx28c
          have znx30 := (hbx30.block _ (lt_of_heap znx28c)).trans znx28c
          have zcx30 := (hbx30.block _ (lt_of_heap zcx28c)).trans zcx28c
          have zax30 := (hbx30.block _ (lt_of_heap zax28c)).trans zax28c
          have Bx30 := Bx28c.trans (hbx30.mono Bx28c.size)
          have Lfx30 := Lfx28c.past hbx30
          have Lpx30 := Lpx28c.past hbx30
          have Lnx30 := Lnx28c.past hbx30
          have Lcx30 := Lcx28c.past hbx30
          have Tx30 := Tx28c.keep hbx30 (Nat.lt_of_lt_of_le h0 Bx28c.size)
          clear hbx30 zfx28c znx28c zcx28c zax28c Bx28c Lfx28c Lpx28c Lnx28c Lcx28c Tx28c
          have cax300 := rc (i := 0) zax30 rfl
          have cax301 := rc (i := 1) zax30 rfl
          have fax300 := frozen0 (j := 0) zax30
          have fax301 := frozen0 (j := 1) zax30
          have zax30a : ((wx30.setCell ⟨wx16.heap.size, 0, none⟩ (.string (strB (([] : Bs))))).setCell ⟨wx16.heap.size, 1, none⟩ (.string (strB (([] : Bs))))).heap[wx16.heap.size]? = some (.cells #[.string (strB (([] : Bs))), .string (strB (([] : Bs)))] 27) := heap_set2 zax30
          have zfx30a : ((wx30.setCell ⟨wx16.heap.size, 0, none⟩ (.string (strB (([] : Bs))))).setCell ⟨wx16.heap.size, 1, none⟩ (.string (strB (([] : Bs))))).heap[w.heap.size]? = some (.cells #[.int .i64 f.1, .slice af f.2.length cf] 24) := ((gb_set _ (wx16.heap.size) 1 _).block _ (Nat.lt_of_lt_of_le (lt_of_heap zfx30) (gb_set _ (wx16.heap.size) 0 _).size) (fun e => by injection e with e; omega)).trans (((gb_set wx30 (wx16.heap.size) 0 _).block _ (lt_of_heap zfx30) (fun e => by injection e with e; omega)).trans zfx30)
          have znx30a : ((wx30.setCell ⟨wx16.heap.size, 0, none⟩ (.string (strB (([] : Bs))))).setCell ⟨wx16.heap.size, 1, none⟩ (.string (strB (([] : Bs))))).heap[w.heap.size + 1]? = some (.cells #[.int .i64 n.1, .slice an n.2.length cn] 41) := ((gb_set _ (wx16.heap.size) 1 _).block _ (Nat.lt_of_lt_of_le (lt_of_heap znx30) (gb_set _ (wx16.heap.size) 0 _).size) (fun e => by injection e with e; omega)).trans (((gb_set wx30 (wx16.heap.size) 0 _).block _ (lt_of_heap znx30) (fun e => by injection e with e; omega)).trans znx30)
          have zcx30a : ((wx30.setCell ⟨wx16.heap.size, 0, none⟩ (.string (strB (([] : Bs))))).setCell ⟨wx16.heap.size, 1, none⟩ (.string (strB (([] : Bs))))).heap[w.heap.size + 2]? = some (.cells #[.string (strB c.1), .slice ac c.2.1.length cc, .string (strB c.2.2.1), .int .i64 c.2.2.2.1, .string (strB c.2.2.2.2)] 54) := ((gb_set _ (wx16.heap.size) 1 _).block _ (Nat.lt_of_lt_of_le (lt_of_heap zcx30) (gb_set _ (wx16.heap.size) 0 _).size) (fun e => by injection e with e; omega)).trans (((gb_set wx30 (wx16.heap.size) 0 _).block _ (lt_of_heap zcx30) (fun e => by injection e with e; omega)).trans zcx30)
          have Bx30a := (Bx30.setCell (p := ⟨wx16.heap.size, 0, none⟩) (by simp; omega) (.string (strB (([] : Bs))))).setCell (p := ⟨wx16.heap.size, 1, none⟩) (by simp; omega) (.string (strB (([] : Bs))))
          have Lfx30a : Ls ((wx30.setCell ⟨wx16.heap.size, 0, none⟩ (.string (strB (([] : Bs))))).setCell ⟨wx16.heap.size, 1, none⟩ (.string (strB (([] : Bs))))).heap.size ((wx30.setCell ⟨wx16.heap.size, 0, none⟩ (.string (strB (([] : Bs))))).setCell ⟨wx16.heap.size, 1, none⟩ (.string (strB (([] : Bs))))) _ _ _ _ := ((Lf0.keep Bx30a)).up Bx30a.size
          have Lpx30a : Ls ((wx30.setCell ⟨wx16.heap.size, 0, none⟩ (.string (strB (([] : Bs))))).setCell ⟨wx16.heap.size, 1, none⟩ (.string (strB (([] : Bs))))).heap.size ((wx30.setCell ⟨wx16.heap.size, 0, none⟩ (.string (strB (([] : Bs))))).setCell ⟨wx16.heap.size, 1, none⟩ (.string (strB (([] : Bs))))) _ _ _ _ := ((Lp0.keep Bx30a)).up Bx30a.size
          have Lnx30a : Ls ((wx30.setCell ⟨wx16.heap.size, 0, none⟩ (.string (strB (([] : Bs))))).setCell ⟨wx16.heap.size, 1, none⟩ (.string (strB (([] : Bs))))).heap.size ((wx30.setCell ⟨wx16.heap.size, 0, none⟩ (.string (strB (([] : Bs))))).setCell ⟨wx16.heap.size, 1, none⟩ (.string (strB (([] : Bs))))) _ _ _ _ := ((Ln0.keep Bx30a)).up Bx30a.size
          have Lcx30a : Ls ((wx30.setCell ⟨wx16.heap.size, 0, none⟩ (.string (strB (([] : Bs))))).setCell ⟨wx16.heap.size, 1, none⟩ (.string (strB (([] : Bs))))).heap.size ((wx30.setCell ⟨wx16.heap.size, 0, none⟩ (.string (strB (([] : Bs))))).setCell ⟨wx16.heap.size, 1, none⟩ (.string (strB (([] : Bs))))) _ _ _ _ := ((Lc0.keep Bx30a)).up Bx30a.size
          have Tx30a := hT.keep Bx30a h0
          clear zfx30 znx30 zcx30 zax30 Bx30 Lfx30 Lpx30 Lnx30 Lcx30 Tx30
          go_wp2_with fail
          generalize hgx30 : ((wx30.setCell ⟨wx16.heap.size, 0, none⟩ (.string (strB (([] : Bs))))).setCell ⟨wx16.heap.size, 1, none⟩ (.string (strB (([] : Bs))))) = vx30 at *
          have hby : (([] : Bs)).length ≤ 140737488355328 := by simp
          have hK := takeCommit_any vx30 (([] : Bs)) hby
          unfold commitSaid at hK
          rw [takenCommit_nil] at hK
          simp only at hK
          refine hK.mono ?_
          rintro e yx30 ⟨rfl, hb2x30⟩
          clear hK hby hgx30
          clear cax300 cax301 fax300 fax301
          have zfx30b := (hb2x30.block _ (lt_of_heap zfx30a)).trans zfx30a
          have znx30b := (hb2x30.block _ (lt_of_heap znx30a)).trans znx30a
          have zcx30b := (hb2x30.block _ (lt_of_heap zcx30a)).trans zcx30a
          have zax30b := (hb2x30.block _ (lt_of_heap zax30a)).trans zax30a
          have Bx30b := Bx30a.trans (hb2x30.mono Bx30a.size)
          have Lfx30b := Lfx30a.past hb2x30
          have Lpx30b := Lpx30a.past hb2x30
          have Lnx30b := Lnx30a.past hb2x30
          have Lcx30b := Lcx30a.past hb2x30
          have Tx30b := Tx30a.keep hb2x30 (Nat.lt_of_lt_of_le h0 Bx30a.size)
          clear hb2x30 zfx30a znx30a zcx30a zax30a Bx30a Lfx30a Lpx30a Lnx30a Lcx30a Tx30a
          have hq2x30 : Below yx30.heap.size yx30 (yx30.alloc (.cells #[.string ⟨#[]⟩, .slice none 0 0, .string ⟨#[]⟩, .int .i64 0, .string ⟨#[]⟩] 54)) := (Below.refl _ _).alloc (Nat.le_refl _) _
          have zgx30 := heap_last yx30 (.cells #[.string ⟨#[]⟩, .slice none 0 0, .string ⟨#[]⟩, .int .i64 0, .string ⟨#[]⟩] 54) _ rfl
          have zfx30c := (hq2x30.block _ (lt_of_heap zfx30b)).trans zfx30b
          have znx30c := (hq2x30.block _ (lt_of_heap znx30b)).trans znx30b
          have zcx30c := (hq2x30.block _ (lt_of_heap zcx30b)).trans zcx30b
          have zax30c := (hq2x30.block _ (lt_of_heap zax30b)).trans zax30b
          have Bx30c := Bx30b.trans (hq2x30.mono Bx30b.size)
          have Lfx30c := Lfx30b.past hq2x30
          have Lpx30c := Lpx30b.past hq2x30
          have Lnx30c := Lnx30b.past hq2x30
          have Lcx30c := Lcx30b.past hq2x30
          have Tx30c := Tx30b.keep hq2x30 (Nat.lt_of_lt_of_le h0 Bx30b.size)
          clear hq2x30 zfx30b znx30b zcx30b zax30b Bx30b Lfx30b Lpx30b Lnx30b Lcx30b Tx30b
          go_wp2
          go_ret
          exact ⟨ret_bool (by first | rfl | simp), Bx30c⟩
end Go.Proofs.YtmlfonmdiimdfaaDoor
