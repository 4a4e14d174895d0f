/-
  Which ids an object names, by the reference. Conditions: lengths within reach.
-/
import Derived.Test.YtdbmngbinhemeabGreatDoorRONames2
import Derived.Test.YtdbmngbinhemeabGreatDoorRQ2
import Derived.Test.YtdbmngbinhemeabGreatDoorRORTakeC
import Derived.Test.YtdbmngbinhemeabGreatDoorRORBranch2
import Derived.Test.YtdbmngbinhemeabGreatDoorRORCommit2
namespace Go.Proofs.YtdbmngbinhemeabGreatDoor
open Go.RowKit

def once1 (A : List Bs) (x : Bs) : List Bs := if A.contains x then A else A ++ [x]
theorem once_snoc1 (xs : List Bs) (x : Bs) : once [] (xs ++ [x]) = once1 (once [] xs) x := once_snoc xs [] x
theorem once1_le (A : List Bs) (x : Bs) : (once1 A x).length ≤ A.length + 1 := by
  unfold once1
  split <;> simp
theorem once_len (xs : List Bs) : (once [] xs).length ≤ xs.length := by
  have := once_le xs []
  simpa using this
set_option maxRecDepth 20000 in
theorem rwith_any (w : World) (B : Nat) (v : Value) (A : List Bs) (x : Bs) (hB : B ≤ w.heap.size) (hown : w.ownsRow B 9 1 v A.length (A.flatMap idC)) (hn : A.length ≤ 1000) :
    Calls Tryz.prog 16 #[v, .string (strB x)] w fun e w' => ∃ v', e = .returned v' ∧ w'.ownsRow B 9 1 v' (once1 A x).length ((once1 A x).flatMap idC) ∧ Below B w w' := by
  obtain ⟨i0, hi, hz0, hz1, hz2⟩ := info_parts Tryz.zStr
  have hls := ls_of_own idC_length hown
  have HO := hide hown
  obtain ⟨ao, cap, rfl, h1, h2, h4⟩ := hls
  unfold maxLen at h2
  clear hown
  go_enter Tryz.func16, Tryz.ntmps16
  go_wp2_with fail
  go_loopw [5] (fun t wr => ∃ k : Nat, k ≤ A.length ∧ t = .int .i64 k ∧ (∀ j (hj : j < k) (hl : j < A.length), A[j] ≠ x) ∧ wr = w) (fun t _ => A.length - (intOf t).toNat)
  case atStart => exact ⟨0, by omega, rfl, fun j hj => by omega, rfl⟩
  case round =>
    obtain ⟨k, hk, rfl, hne, hwr⟩ := hrel
    rw [hwr]
    have HNE := hide hne
    clear hne hwr
    by_cases hlt : k < A.length
    · obtain ⟨b, off, rfl, hbB, hc⟩ := h4 (by rintro rfl; simp at hlt)
      have c0 := hc k hlt 0 _ rfl
      simp only [Nat.mul_one, Nat.add_zero] at c0
      obtain ⟨y, hy⟩ : ∃ y, A[k] = y := ⟨_, rfl⟩
      rw [hy] at c0
      have HY := hide hy
      clear hy
      have heq := eql_str 9 y x
      by_cases hxy : y = x
      · have hb1 : (y == x) = true := by simpa using hxy
        have hcon : once1 A x = A := by
          unfold once1
          rw [if_pos (by rw [List.contains_iff_mem, ← hxy, ← HY.out]; exact List.getElem_mem hlt)]
        have HC := hide hcon
        clear hxy hcon
        rw [hb1] at heq
        go_wp2
        go_ret
        exact ⟨_, rfl, by rw [HC.out]; exact HO.out, Below.refl _ _⟩
      · have hb1 : (y == x) = false := by simpa using hxy
        have HXY := hide hxy
        clear hxy
        rw [hb1] at heq
        go_wp2
        go_roundw
        case rel =>
          refine ⟨k + 1, by omega, by go_num, fun j hj hl => ?_, by first | trivial | rfl⟩
          by_cases hjk : j < k
          · exact HNE.out j hjk hl
          · obtain rfl : j = k := by omega
            rw [HY.out]
            exact HXY.out
        case measure => simp [intOf]; omega
    · obtain rfl : k = A.length := by omega
      have hcon : once1 A x = A ++ [x] := by
        unfold once1
        rw [if_neg (fun h => ?_)]
        obtain ⟨j, hj, e⟩ := List.getElem_of_mem (List.contains_iff_mem.1 h)
        exact HNE.out j hj hj e
      have HC := hide hcon
      clear hcon
      have hnl : ¬ ((A.length : Int) < (A.length : Int)) := by omega
      have hnw := news_at w [.string (strB x)] 9
      have HOA := hide (HO.out.alloc (.cells #[.string (strB x)] 9))
      have HBA : Hid (Below B w (w.alloc (.cells #[.string (strB x)] 9))) := hide ((Below.refl _ _).alloc hB _)
      go_wp2_with (at_builtin; refine wpList_append_own _ rfl (.tmp 19) (.tmp 21) 22 rfl B 9 i0 (.string ⟨#[]⟩) 1 16 Tryz.underlying22 hi hz0 hz1 hz2 rfl (by decide) _ _ _ rfl HOA.out ⟨w.heap.size, 0, none⟩ 1 1 [.string (strB x)] rfl rfl hnw (by simp [Value.oneCell']) (by unfold maxLen; omega) (by omega) (by simp; omega) ?_; intro v3 w3 hown3 hgr3 _; have HO3 := hide hown3; obtain ⟨a3, c3, rfl, -⟩ := own_form hown3; clear hown3)
      have hb3 := HBA.out.grown hgr3 (Nat.le_trans hB HBA.out.size) (fun q hq => (HOA.out.lt q hq).1)
      clear hgr3 hnw
      try go_wp2
      go_ret
      refine ⟨_, rfl, ?_, hb3⟩
      rw [HC.out, List.length_append, flat_one]
      exact HO3.out
theorem heap_set4x {w : World} {g : Nat} {v0 v1 v2 v3 u0 u1 u2 u3 : Value} {t : TypeId} (h : w.heap[g]? = some (.cells #[v0, v1, v2, v3] t)) : ((((w.setCell ⟨g, 0, none⟩ u0).setCell ⟨g, 1, none⟩ u1).setCell ⟨g, 2, none⟩ u2).setCell ⟨g, 3, none⟩ u3).heap[g]? = some (.cells #[u0, u1, u2, u3] t) := by
  rw [heap_setCell _ _ _ _ _ _ _ (heap_setCell _ _ _ _ _ _ _ (heap_setCell _ _ _ _ _ _ _ (heap_setCell _ _ _ _ _ _ _ h)))]
  simp
theorem fm_map {α : Type} (f : α → Bs) (xs : List α) : xs.filterMap (fun p => some (f p)) = xs.map f := by
  induction xs with
  | nil => rfl
  | cons x r ih => simp [ih]
/-- Of each kind, by its first byte. -/
theorem kinds_chunk {b : Bs} {d : Bs} (h : takenChunk b = some d) : objB b = true ∧ namesP b = [] := by
  have h2 := ((takenChunk_iff b d).1 h).2
  subst h2
  exact ⟨by simp [objB, h], rfl⟩
theorem kinds_fan {b : Bs} {f : Fan} (h : takenFan b = some f) : objB b = true ∧ namesP b = f.2.map (·.1) := by
  have h2 := ((takenFan_iff b f).1 h).2
  subst h2
  exact ⟨by simp [objB, h], (show namesP (70 :: fanB f) = ((takenFan (70 :: fanB f)).map (fun f : Fan => f.2.filterMap (fun p : Part => some p.1))).getD [] from rfl).trans (by rw [h]; exact fm_map (fun p : Part => p.1) f.2)⟩
theorem kinds_leaf {b : Bs} (hb : b.length ≤ 140737488355328) {f : List Pair} (h : takenLeaf b = some f) : objB b = true ∧ namesP b = f.filterMap entryIdOf := by
  have h2 := ((takenLeaf_iff b hb f).1 h).2
  subst h2
  exact ⟨by simp [objB, h], (show namesP (76 :: leafB f) = ((takenLeaf (76 :: leafB f)).map (fun f : List Pair => f.filterMap entryIdOf)).getD [] from rfl).trans (by rw [h]; rfl)⟩
theorem kinds_branch {b : Bs} (hb : b.length ≤ 140737488355328) {f : Branch} (h : takenBranch b = some f) : objB b = true ∧ namesP b = f.2.map (·.2.1) := by
  have h2 := ((takenBranch_iff b hb f).1 h).2
  subst h2
  exact ⟨by simp [objB, h], (show namesP (66 :: branchB f) = ((takenBranch (66 :: branchB f)).map (fun f : Branch => f.2.filterMap (fun p : Link => some p.2.1))).getD [] from rfl).trans (by rw [h]; exact fm_map (fun p : Link => p.2.1) f.2)⟩
theorem kinds_commit {b : Bs} (hb : b.length ≤ 140737488355328) {c : Commit} (h : takenCommit b = some c) : objB b = true ∧ namesP b = c.1 :: c.2.1 := by
  have h2 := ((takenCommit_iff b hb c).1 h).2
  subst h2
  exact ⟨by simp [objB, h], (show namesP (75 :: commitB c) = ((takenCommit (75 :: commitB c)).map (fun c : Commit => c.1 :: c.2.1)).getD [] from rfl).trans (by rw [h]; rfl)⟩
theorem kinds_none {b : Bs} (h1 : takenChunk b = none) (h2 : takenFan b = none) (h3 : takenLeaf b = none) (h4 : takenBranch b = none) (h5 : takenCommit b = none) : objB b = false := by
  cases b with
  | nil => rfl
  | cons c l => simp [objB, h1, h2, h3, h4, h5]
theorem refs_yes {B : Nat} {b : Bs} {e : Ending} {w' : World} {v : Value} {ids : List Bs} (ho : objB b = true) (hn : namesP b = ids) (he : e = .returned (.tuple #[v, .int .i64 0])) (hown : w'.ownsRow B 9 1 v (once [] ids).length ((once [] ids).flatMap idC)) : refsSaid B b e w' := by
  unfold refsSaid
  rw [if_pos ho, hn]
  exact ⟨v, he, hown⟩
set_option maxRecDepth 40000 in
set_option maxHeartbeats 3200000 in
theorem rrefs_any (w : World) (b : Bs) (hb : b.length ≤ 140737488351232) :
    Calls Tryz.prog 6 #[.string (strB b)] w fun e w' => refsSaid w.heap.size b e w' ∧ Below w.heap.size w w' := by
  have hK0 := rtakeChunk_any w b hb
  have hK1 := fun W => rtakeFan_any W b hb
  have hK2 := fun W => rtakeBranch_any W b hb
  have hK3 := fun W => rtakeLeaf_any W b hb
  have hK4 := fun W => rtakeCommit_any W b hb
  have hEn := fun (W : World) (p q : Bs) h => rtakeEntry_any W p q h
  have hbb : b.length ≤ 140737488355328 := by omega
  have HBB := hide hbb
  clear hb hbb
  unfold fanSaid at hK1
  unfold branchSaid at hK2
  unfold LeafSaid at hK3
  unfold commitSaid at hK4
  cases h0 : takenChunk b with
  | some d =>
    have hv : chunkV b = .tuple #[.string (strB d), .int .i64 0] := by unfold chunkV; rw [h0]
    rw [hv] at hK0
    have HKD := hide (kinds_chunk h0)
    clear h0 hv hK1 hK2 hK3 hK4 hEn
    go_enter Tryz.func6, Tryz.ntmps6
    go_wp2_with fail
    refine hK0.mono ?_
    rintro e w1 ⟨rfl, hb1⟩
    clear hK0
    go_wp2
    go_ret2
    exact ⟨refs_yes HKD.out.1 HKD.out.2 rfl (World.ownsRow_nil _ _ _ _), hb1⟩
  | none =>
    rw [chunkV_no h0] at hK0
    have H0 := hide h0
    clear h0
    cases h1 : takenFan b with
    | some f =>
      have HKD := hide (kinds_fan h1)
      have hfl := (fanB_le ((takenFan_iff b f).1 h1).1).2.1
      rw [h1] at hK1
      clear h1 hK2 hK3 hK4 hEn
      go_enter Tryz.func6, Tryz.ntmps6
      go_wp2_with fail
      refine hK0.mono ?_
      rintro e w1 ⟨rfl, hb1⟩
      clear hK0
      go_wp2_with fail
      refine (hK1 w1).mono ?_
      rintro e w2 ⟨⟨v2, rfl, hown2⟩, hb2⟩
      clear hK1
      obtain ⟨a2, c2, rfl, -⟩ := own_form hown2
      have BB := (hb1.trans (hb2.mono hb1.size)).alloc (hb1.trans (hb2.mono hb1.size)).size (.cells #[.int .i64 f.1, .slice a2 f.2.length c2] 46)
      have hq3 : Below w2.heap.size w2 (w2.alloc (.cells #[.int .i64 f.1, .slice a2 f.2.length c2] 46)) := (Below.refl _ _).alloc (Nat.le_refl _) _
      have z3 := heap_last w2 (.cells #[.int .i64 f.1, .slice a2 f.2.length c2] 46) _ rfl
      have hls := (ls_of_own partC_length hown2).past hq3
      have hs3 : (w2.alloc (.cells #[.int .i64 f.1, .slice a2 f.2.length c2] 46)).heap.size = w2.heap.size + 1 := by simp
      go_wp2_with fail
      generalize hw3 : w2.alloc (.cells #[.int .i64 f.1, .slice a2 f.2.length c2] 46) = w3 at *
      generalize hp3 : w2.heap.size = p3 at *
      have HLS := hide hls
      have hp3l := lt_of_heap z3
      have hwlo := BB.size
      clear hown2 hq3 hw3 hp3 hls hb2
      go_loopw [4, 8] (fun s t wr => ∃ (k : Nat) (A : List Bs), k ≤ f.2.length ∧ t = .int .i64 k ∧ A = once [] ((f.2.take k).map (·.1)) ∧ wr.ownsRow w3.heap.size 9 1 s A.length (A.flatMap idC) ∧ Below w3.heap.size w3 wr) (fun _ t _ => f.2.length - (intOf t).toNat)
      case atStart => exact ⟨0, [], by omega, rfl, rfl, World.ownsRow_nil _ _ _ _, Below.refl _ _⟩
      case round =>
        obtain ⟨k, A, hk, rfl, hA, hown, hbr⟩ := hrel
        have hAl : A.length ≤ k := by
          have h1 := once_len ((f.2.take k).map (·.1))
          rw [← hA, List.length_map, List.length_take] at h1
          omega
        have HA := hide hA
        have HO := hide hown
        have zr := (hbr.block _ hp3l).trans z3
        have d1 := rc (i := 1) zr rfl
        have HBR := hide hbr
        obtain ⟨av, cv, rfl, -⟩ := own_form hown
        clear hA hown hbr
        by_cases hlt : k < f.2.length
        · obtain ⟨ao', cap', he, -, -, h4⟩ := HLS.out
          obtain ⟨b0, off, rfl, hbB, hc⟩ := h4 (by intro e; rw [e] at hlt; simp at hlt)
          injection he with he _ he2
          subst he he2
          have k0 := (HBR.out.cell (p := ⟨b0, off + k * 2 + 0, none⟩) hbB).trans (hc k hlt 0 _ rfl)
          try simp only [Nat.add_zero] at k0
          have hst : (f.2.take (k + 1)).map (·.1) = (f.2.take k).map (·.1) ++ [(f.2[k].1)] := by
            rw [List.take_succ_eq_append_getElem hlt, List.map_append]
            rfl
          have HST := hide hst
          clear hst hc
          generalize f.2[k] = x at *
          have hwi := rwith_any wr w3.heap.size (.slice av A.length cv) A x.1 HBR.out.size HO.out (by omega)
          go_wp2_with fail
          refine hwi.mono ?_
          rintro e w5 ⟨v5, rfl, own5, hb5⟩
          have HO5 := hide own5
          obtain ⟨a5, c5, rfl, -⟩ := own_form own5
          clear own5 hwi
          go_wp2
          go_roundw
          case rel => exact ⟨k + 1, once1 A x.1, by omega, by go_num, by rw [HST.out, once_snoc1, ← HA.out], HO5.out, HBR.out.trans hb5⟩
          case measure => simp [intOf]; omega
        · obtain rfl : k = f.2.length := by omega
          have hnl : ¬ ((f.2.length : Int) < (f.2.length : Int)) := by omega
          have hAf : A = once [] (f.2.map (·.1)) := by rw [HA.out, List.take_length]
          have HAF := hide hAf
          clear hAf
          go_wp2
          go_ret2
          refine ⟨refs_yes HKD.out.1 HKD.out.2 rfl ?_, BB.trans (HBR.out.mono BB.size)⟩
          rw [← HAF.out]
          exact World.ownsRow.mono HO.out hwlo
    | none =>
      rw [h1] at hK1
      have H1 := hide h1
      clear h1
      cases h2 : takenBranch b with
      | some f =>
        have HKD := hide (kinds_branch HBB.out h2)
        have hfl := (branchB_le ((takenBranch_iff b HBB.out f).1 h2).1).2.1
        rw [h2] at hK2
        clear h2 hK3 hK4 hEn
        go_enter Tryz.func6, Tryz.ntmps6
        go_wp2_with fail
        refine hK0.mono ?_
        rintro e w1 ⟨rfl, hb1⟩
        clear hK0
        go_wp2_with fail
        refine (hK1 w1).mono ?_
        rintro e wf ⟨rfl, hbf⟩
        clear hK1
        have B0 := (hb1.trans (hbf.mono hb1.size)).alloc (hb1.trans (hbf.mono hb1.size)).size (.cells #[.int .i64 0, .slice none 0 0] 46)
        have zf := heap_last wf (.cells #[.int .i64 0, .slice none 0 0] 46) _ rfl
        have c1f := rc (i := 1) zf rfl
        go_wp2_with fail
        generalize hwf : wf.alloc (.cells #[.int .i64 0, .slice none 0 0] 46) = wg at *
        generalize hpf : wf.heap.size = pf at *
        clear hwf hpf
        go_loopw [4, 8] (fun s t wr => s = .slice none 0 0 ∧ t = .int .i64 0 ∧ wr = wg) (fun _ _ _ => 0)
        case atStart => exact ⟨rfl, rfl, rfl⟩
        case round =>
          obtain ⟨rfl, rfl, rfl⟩ := hrel
          go_wp2_with fail
          refine (hK2 _).mono ?_
          rintro e w2 ⟨⟨v2, rfl, hown2⟩, hb2⟩
          clear hK2
          obtain ⟨a2, c2, rfl, -⟩ := own_form hown2
          have BB := (B0.trans (hb2.mono B0.size)).alloc (B0.trans (hb2.mono B0.size)).size (.cells #[.int .i64 f.1, .slice a2 f.2.length c2] 54)
          have hq3 : Below w2.heap.size w2 (w2.alloc (.cells #[.int .i64 f.1, .slice a2 f.2.length c2] 54)) := (Below.refl _ _).alloc (Nat.le_refl _) _
          have z3 := heap_last w2 (.cells #[.int .i64 f.1, .slice a2 f.2.length c2] 54) _ rfl
          have hls := (ls_of_own linkC_length hown2).past hq3
          have hs3 : (w2.alloc (.cells #[.int .i64 f.1, .slice a2 f.2.length c2] 54)).heap.size = w2.heap.size + 1 := by simp
          go_wp2_with fail
          generalize hw3 : w2.alloc (.cells #[.int .i64 f.1, .slice a2 f.2.length c2] 54) = w3 at *
          generalize hp3 : w2.heap.size = p3 at *
          have HLS := hide hls
          have hp3l := lt_of_heap z3
          have hwlo := BB.size
          clear hown2 hq3 hw3 hp3 hls hb2
          go_loopw [4, 10] (fun s t wr => ∃ (k : Nat) (A : List Bs), k ≤ f.2.length ∧ t = .int .i64 k ∧ A = once [] ((f.2.take k).map (·.2.1)) ∧ wr.ownsRow w3.heap.size 9 1 s A.length (A.flatMap idC) ∧ Below w3.heap.size w3 wr) (fun _ t _ => f.2.length - (intOf t).toNat)
          case atStart => exact ⟨0, [], by omega, rfl, rfl, World.ownsRow_nil _ _ _ _, Below.refl _ _⟩
          case round =>
            obtain ⟨k, A, hk, rfl, hA, hown, hbr⟩ := hrel
            have hAl : A.length ≤ k := by
              have h1 := once_len ((f.2.take k).map (·.2.1))
              rw [← hA, List.length_map, List.length_take] at h1
              omega
            have HA := hide hA
            have HO := hide hown
            have zr := (hbr.block _ hp3l).trans z3
            have d1 := rc (i := 1) zr rfl
            have HBR := hide hbr
            obtain ⟨av, cv, rfl, -⟩ := own_form hown
            clear hA hown hbr
            by_cases hlt : k < f.2.length
            · obtain ⟨ao', cap', he, -, -, h4⟩ := HLS.out
              obtain ⟨b0, off, rfl, hbB, hc⟩ := h4 (by intro e; rw [e] at hlt; simp at hlt)
              injection he with he _ he2
              subst he he2
              have k0 := (HBR.out.cell (p := ⟨b0, off + k * 3 + 1, none⟩) hbB).trans (hc k hlt 1 _ rfl)
              try simp only [Nat.add_zero] at k0
              have hst : (f.2.take (k + 1)).map (·.2.1) = (f.2.take k).map (·.2.1) ++ [(f.2[k].2.1)] := by
                rw [List.take_succ_eq_append_getElem hlt, List.map_append]
                rfl
              have HST := hide hst
              clear hst hc
              generalize f.2[k] = x at *
              have hwi := rwith_any wr w3.heap.size (.slice av A.length cv) A x.2.1 HBR.out.size HO.out (by omega)
              go_wp2_with fail
              refine hwi.mono ?_
              rintro e w5 ⟨v5, rfl, own5, hb5⟩
              have HO5 := hide own5
              obtain ⟨a5, c5, rfl, -⟩ := own_form own5
              clear own5 hwi
              go_wp2
              go_roundw
              case rel => exact ⟨k + 1, once1 A x.2.1, by omega, by go_num, by rw [HST.out, once_snoc1, ← HA.out], HO5.out, HBR.out.trans hb5⟩
              case measure => simp [intOf]; omega
            · obtain rfl : k = f.2.length := by omega
              have hnl : ¬ ((f.2.length : Int) < (f.2.length : Int)) := by omega
              have hAf : A = once [] (f.2.map (·.2.1)) := by rw [HA.out, List.take_length]
              have HAF := hide hAf
              clear hAf
              go_wp2
              go_ret2
              refine ⟨refs_yes HKD.out.1 HKD.out.2 rfl ?_, BB.trans (HBR.out.mono BB.size)⟩
              rw [← HAF.out]
              exact World.ownsRow.mono HO.out hwlo
      | none =>
        rw [h2] at hK2
        have H2 := hide h2
        clear h2
        cases h3 : takenLeaf b with
        | some f =>
          have HKD := hide (kinds_leaf HBB.out h3)
          have hfl : f.length ≤ 64 ∧ ∀ x ∈ f, x.1.length ≤ 64 ∧ x.2.length ≤ 128 := by
            have h4 := ((takenLeaf_iff b HBB.out f).1 h3).1
            simp only [leafOk, isKeyB, Bool.and_eq_true, decide_eq_true_eq, List.all_eq_true] at h4
            exact ⟨h4.1.1, fun x hx => by have := h4.1.2 x hx; omega⟩
          rw [h3] at hK3
          clear h3 hK4
          go_enter Tryz.func6, Tryz.ntmps6
          go_wp2_with fail
          refine hK0.mono ?_
          rintro e w1 ⟨rfl, hb1⟩
          clear hK0
          go_wp2_with fail
          refine (hK1 w1).mono ?_
          rintro e wf ⟨rfl, hbf⟩
          clear hK1
          have B0 := (hb1.trans (hbf.mono hb1.size)).alloc (hb1.trans (hbf.mono hb1.size)).size (.cells #[.int .i64 0, .slice none 0 0] 46)
          have zf := heap_last wf (.cells #[.int .i64 0, .slice none 0 0] 46) _ rfl
          have c1f := rc (i := 1) zf rfl
          go_wp2_with fail
          generalize hwf : wf.alloc (.cells #[.int .i64 0, .slice none 0 0] 46) = wg at *
          generalize hpf : wf.heap.size = pf at *
          clear hwf hpf
          go_loopw [4, 8] (fun s t wr => s = .slice none 0 0 ∧ t = .int .i64 0 ∧ wr = wg) (fun _ _ _ => 0)
          case atStart => exact ⟨rfl, rfl, rfl⟩
          case round =>
            obtain ⟨rfl, rfl, rfl⟩ := hrel
            go_wp2_with fail
            refine (hK2 _).mono ?_
            rintro e wb ⟨rfl, hbb⟩
            clear hK2
            replace B0 := (B0.trans (hbb.mono B0.size)).alloc (B0.trans (hbb.mono B0.size)).size (.cells #[.int .i64 0, .slice none 0 0] 54)
            have zb := heap_last wb (.cells #[.int .i64 0, .slice none 0 0] 54) _ rfl
            have c1b := rc (i := 1) zb rfl
            clear c1f zf
            go_wp2_with fail
            generalize hwb : wb.alloc (.cells #[.int .i64 0, .slice none 0 0] 54) = wh at *
            generalize hpb : wb.heap.size = pb at *
            clear hwb hpb
            go_loopw [4, 10] (fun s t wr => s = .slice none 0 0 ∧ t = .int .i64 0 ∧ wr = wh) (fun _ _ _ => 0)
            case atStart => exact ⟨rfl, rfl, rfl⟩
            case round =>
              obtain ⟨rfl, rfl, rfl⟩ := hrel
              go_wp2_with fail
              refine (hK3 _).mono ?_
              rintro e w2 ⟨⟨v2, rfl, hown2⟩, hb2⟩
              clear hK3
              have BB := B0.trans (hb2.mono B0.size)
              obtain ⟨a2, c2, rfl, -⟩ := own_form hown2
              have hls := ls_of_own pairC_length hown2
              have HLS := hide hls
              have hwlo := BB.size
              clear hown2 hls hb2
              go_wp2_with fail
              go_loopw [4, 12] (fun s t wr => ∃ (k : Nat) (A : List Bs), k ≤ f.length ∧ t = .int .i64 k ∧ A = once [] ((f.take k).filterMap entryIdOf) ∧ wr.ownsRow w2.heap.size 9 1 s A.length (A.flatMap idC) ∧ Below w2.heap.size w2 wr) (fun _ t _ => f.length - (intOf t).toNat)
              case atStart => exact ⟨0, [], by omega, rfl, rfl, World.ownsRow_nil _ _ _ _, Below.refl _ _⟩
              case round =>
                obtain ⟨k, A, hk, rfl, hA, hown, hbr⟩ := hrel
                have hAl : A.length ≤ k := by
                  have h1 := once_len ((f.take k).filterMap entryIdOf)
                  have h2 := fm_le entryIdOf (f.take k)
                  rw [← hA] at h1
                  rw [List.length_take] at h2
                  omega
                have HA := hide hA
                have HO := hide hown
                have HBR := hide hbr
                obtain ⟨av, cv, rfl, -⟩ := own_form hown
                clear hA hown hbr
                by_cases hlt : k < f.length
                · obtain ⟨ao', cap', he, -, -, h4⟩ := HLS.out
                  obtain ⟨b0, off, rfl, hbB, hc⟩ := h4 (by intro e; rw [e] at hlt; simp at hlt)
                  injection he with he _ he2
                  subst he he2
                  have k0 := (HBR.out.cell (p := ⟨b0, off + k * 2 + 0, none⟩) hbB).trans (hc k hlt 0 _ rfl)
                  have k1 := (HBR.out.cell (p := ⟨b0, off + k * 2 + 1, none⟩) hbB).trans (hc k hlt 1 _ rfl)
                  simp only [Nat.add_zero] at k0
                  have hst := fm_step entryIdOf f k hlt
                  have HST := hide hst
                  have hx2 := hfl.2 f[k] (List.getElem_mem hlt)
                  clear hst hc
                  generalize f[k] = x at *
                  have hef : ∃ nm kd id sz code, (∀ e, entrySaid x.1 x.2 e → e = .returned (.tuple #[.agg #[.string (strB nm), .int .i64 kd, .string (strB id), .int .i64 sz], .int .i64 code])) ∧ (code = 0 ∧ entryIdOf x = some id ∨ code = 81 ∧ entryIdOf x = none) := by
                    unfold entrySaid entryIdOf
                    cases takenEntry x.1 x.2 with
                    | none => exact ⟨[], 0, [], 0, 81, fun e he => he, .inr ⟨rfl, rfl⟩⟩
                    | some v => exact ⟨x.1, v.1, v.2.1, v.2.2, 0, fun e he => he, .inl ⟨rfl, rfl⟩⟩
                  obtain ⟨nm, kd, id, sz, code, hform, hcode⟩ := hef
                  have HCO := hide hcode
                  clear hcode
                  have hE1 := hEn wr.drew x.1 x.2 (by omega)
                  have hdw : Below wr.heap.size wr wr.drew := (Below.refl _ _).drew
                  have hkp : ∀ (W : World) (i : Nat) (u : Value), Below wr.heap.size wr W → wr.cell? ⟨b0, i, none⟩ = some u → W.cell? ⟨b0, i, none⟩ = some u := fun W i u hW hu => (hW.cell (p := ⟨b0, i, none⟩) (Nat.lt_of_lt_of_le hbB HBR.out.size)).trans hu
                  go_wp2_with fail
                  refine wp_region_held_drew (S := fun W => W.cell? ⟨b0, off + k * 2, none⟩ = some (.string (strB x.1)) ∧ W.cell? ⟨b0, off + k * 2 + 1, none⟩ = some (.string (strB x.2))) (by kernel_rfl) (⟨k0, k1⟩) (fun hHeld => ?_)
                  refine takeH (i := 0) (v := ?_) rfl (by kernel_rfl) (by kernel_rfl) (by kernel_rfl) (fun _ _ _ h => h) rfl ?_ hHeld ?_
                  rotate_left
                  · intro w hS; (try dsimp only at hS); obtain ⟨hS0, hS1⟩ := hS; go_simp; first | done | (with_reducible rfl)
                  try simp only [Act.put, List.setIfInBounds_toArray, List.set_cons_zero, List.set_cons_succ]
                  refine takeH (i := 1) (v := ?_) rfl (by kernel_rfl) (by kernel_rfl) (by kernel_rfl) (fun _ _ _ h => h) rfl ?_ hHeld ?_
                  rotate_left
                  · intro w hS; (try dsimp only at hS); obtain ⟨hS0, hS1⟩ := hS; go_simp; first | done | (with_reducible rfl)
                  try simp only [Act.put, List.setIfInBounds_toArray, List.set_cons_zero, List.set_cons_succ]
                  refine takeH (i := 2) (v := ?_) rfl (by kernel_rfl) (by kernel_rfl) (by kernel_rfl) (fun _ _ _ h => h) rfl ?_ hHeld ?_
                  rotate_left
                  · intro w hS; (try dsimp only at hS); obtain ⟨hS0, hS1⟩ := hS; go_simp; first | done | (with_reducible rfl)
                  try simp only [Act.put, List.setIfInBounds_toArray, List.set_cons_zero, List.set_cons_succ]
                  refine takeH (i := 3) (v := ?_) rfl (by kernel_rfl) (by kernel_rfl) (by kernel_rfl) (fun _ _ _ h => h) rfl ?_ hHeld ?_
                  rotate_left
                  · intro w hS; (try dsimp only at hS); obtain ⟨hS0, hS1⟩ := hS; go_simp; first | done | (with_reducible rfl)
                  try simp only [Act.put, List.setIfInBounds_toArray, List.set_cons_zero, List.set_cons_succ]
                  refine takeH (i := 4) (v := ?_) rfl (by kernel_rfl) (by kernel_rfl) (by kernel_rfl) (fun _ _ _ h => h) rfl ?_ hHeld ?_
                  rotate_left
                  · intro w hS; (try dsimp only at hS); obtain ⟨hS0, hS1⟩ := hS; go_simp; first | done | (with_reducible rfl)
                  try simp only [Act.put, List.setIfInBounds_toArray, List.set_cons_zero, List.set_cons_succ]
                  refine takeH (i := 5) (v := ?_) rfl (by kernel_rfl) (by kernel_rfl) (by kernel_rfl) (fun _ _ _ h => h) rfl ?_ hHeld ?_
                  rotate_left
                  · intro w hS; (try dsimp only at hS); obtain ⟨hS0, hS1⟩ := hS; go_simp; first | done | (with_reducible rfl)
                  try simp only [Act.put, List.setIfInBounds_toArray, List.set_cons_zero, List.set_cons_succ]
                  refine takeH (i := 6) (v := ?_) rfl (by kernel_rfl) (by kernel_rfl) (by kernel_rfl) (fun _ _ _ h => h) rfl ?_ hHeld ?_
                  rotate_left
                  · intro w hS; (try dsimp only at hS); obtain ⟨hS0, hS1⟩ := hS; go_simp; first | done | (with_reducible rfl)
                  try simp only [Act.put, List.setIfInBounds_toArray, List.set_cons_zero, List.set_cons_succ]
                  refine takeH (i := 7) (v := ?_) rfl (by kernel_rfl) (by kernel_rfl) (by kernel_rfl) (fun _ _ _ h => h) rfl ?_ hHeld ?_
                  rotate_left
                  · intro w hS; (try dsimp only at hS); obtain ⟨hS0, hS1⟩ := hS; go_simp; first | done | (with_reducible rfl)
                  try simp only [Act.put, List.setIfInBounds_toArray, List.set_cons_zero, List.set_cons_succ]
                  refine takeH (i := 8) (v := ?_) rfl (by kernel_rfl) (by kernel_rfl) (by kernel_rfl) (fun _ _ _ h => h) rfl ?_ hHeld ?_
                  rotate_left
                  · intro w hS; (try dsimp only at hS); obtain ⟨hS0, hS1⟩ := hS; go_simp; first | done | (with_reducible rfl)
                  try simp only [Act.put, List.setIfInBounds_toArray, List.set_cons_zero, List.set_cons_succ]
                  refine takeH (i := 9) (v := ?_) rfl (by kernel_rfl) (by kernel_rfl) (by kernel_rfl) (fun _ _ _ h => h) rfl ?_ hHeld ?_
                  rotate_left
                  · intro w hS; (try dsimp only at hS); obtain ⟨hS0, hS1⟩ := hS; go_simp; first | done | (with_reducible rfl)
                  try simp only [Act.put, List.setIfInBounds_toArray, List.set_cons_zero, List.set_cons_succ]
                  refine twoH (i := 10) (j := 14) rfl rfl (by kernel_rfl) rfl rfl (fun K hK => ?_) (fun K hK => ?_)
                  · go_simp
                    refine hE1.mono ?_
                    rintro e w5 ⟨he, hb5⟩
                    obtain rfl := hform _ he
                    have hb5' : Below wr.heap.size wr w5 := hdw.trans hb5
                    clear he
                    refine hK.out _ _ (⟨hkp w5 _ _ hb5' k0, hkp w5 _ _ hb5' k1⟩) (fun hHeld => ?_)
                    clear hK K
                    try simp only [Act.put, List.setIfInBounds_toArray, List.set_cons_zero, List.set_cons_succ]
                    refine takeH (i := 11) (v := ?_) rfl (by kernel_rfl) (by kernel_rfl) (by kernel_rfl) (fun _ _ _ h => h) rfl ?_ hHeld ?_
                    rotate_left
                    · intro w hS; (try dsimp only at hS); obtain ⟨hS0, hS1⟩ := hS; go_simp; first | done | (with_reducible rfl)
                    try simp only [Act.put, List.setIfInBounds_toArray, List.set_cons_zero, List.set_cons_succ]
                    refine takeH (i := 12) (v := ?_) rfl (by kernel_rfl) (by kernel_rfl) (by kernel_rfl) (fun _ _ _ h => h) rfl ?_ hHeld ?_
                    rotate_left
                    · intro w hS; (try dsimp only at hS); obtain ⟨hS0, hS1⟩ := hS; go_simp; first | done | (with_reducible rfl)
                    try simp only [Act.put, List.setIfInBounds_toArray, List.set_cons_zero, List.set_cons_succ]
                    refine takeH (i := 13) (v := ?_) rfl (by kernel_rfl) (by kernel_rfl) (by kernel_rfl) (fun _ _ _ h => h) rfl ?_ hHeld ?_
                    rotate_left
                    · intro w hS; (try dsimp only at hS); obtain ⟨hS0, hS1⟩ := hS; go_simp; first | done | (with_reducible rfl)
                    try simp only [Act.put, List.setIfInBounds_toArray, List.set_cons_zero, List.set_cons_succ]
                    refine onlyH (i := 14) rfl (by kernel_rfl) rfl (fun K hK => ?_)
                    go_simp
                    have hbq : Below wr.heap.size wr (w5.alloc (.cells #[.string ⟨#[]⟩, .int .i64 0, .string ⟨#[]⟩, .int .i64 0] 60)) := hb5'.alloc hb5'.size _
                    have zq := heap_last w5 (.cells #[.string ⟨#[]⟩, .int .i64 0, .string ⟨#[]⟩, .int .i64 0] 60) _ rfl
                    have m0 := rc (i := 0) zq rfl
                    have m1 := rc (i := 1) zq rfl
                    have m2 := rc (i := 2) zq rfl
                    have m3 := rc (i := 3) zq rfl
                    have f0 := frozen0 (j := 0) zq
                    have f1 := frozen0 (j := 1) zq
                    have f2 := frozen0 (j := 2) zq
                    have f3 := frozen0 (j := 3) zq
                    refine hK.out _ _ (⟨hkp _ _ _ hbq k0, hkp _ _ _ hbq k1⟩) (fun hHeld => ?_)
                    clear hK K
                    try simp only [Act.put, List.setIfInBounds_toArray, List.set_cons_zero, List.set_cons_succ]
                    have hbX : Below wr.heap.size wr (w5.alloc (.cells #[.string (strB nm), .int .i64 kd, .string (strB id), .int .i64 sz] 60)) := hb5'.alloc hb5'.size _
                    have zE := heap_last w5 (.cells #[.string (strB nm), .int .i64 kd, .string (strB id), .int .i64 sz] 60) _ rfl
                    refine onlyH (i := 15) rfl (by kernel_rfl) rfl (fun K hK => ?_)
                    go_simp
                    refine hK.out _ _ (⟨hkp _ _ _ hbX k0, hkp _ _ _ hbX k1⟩) (fun hHeld => ?_)
                    clear hK K
                    try simp only [Act.put, List.setIfInBounds_toArray, List.set_cons_zero, List.set_cons_succ]
                    refine takeH (i := 16) (v := ?_) rfl (by kernel_rfl) (by kernel_rfl) (by kernel_rfl) (fun _ _ _ h => h) rfl ?_ hHeld ?_
                    rotate_left
                    · intro w hS; (try dsimp only at hS); obtain ⟨hS0, hS1⟩ := hS; go_simp; first | done | (with_reducible rfl)
                    try simp only [Act.put, List.setIfInBounds_toArray, List.set_cons_zero, List.set_cons_succ]
                    refine wpAnyH_done (by kernel_rfl) ?_ _
                    clear hHeld m0 m1 m2 m3 f0 f1 f2 f3 zq hbq
                    generalize hwq : w5.alloc (.cells #[.string (strB nm), .int .i64 kd, .string (strB id), .int .i64 sz] 60) = wq at *
                    generalize hpq : w5.heap.size = pq at *
                    clear hwq hpq
                    have HO5 := hide (own_below HO.out hbX)
                    have BX := HBR.out.trans (hbX.mono HBR.out.size)
                    clear hform hE1 hkp
                    rcases HCO.out with ⟨hc0, hid⟩ | ⟨hc0, hid⟩
                    · subst hc0
                      have HID := hide hid
                      clear hid
                      have e2 := rc (i := 2) zE rfl
                      have hwi := rwith_any wq w2.heap.size (.slice av A.length cv) A id BX.size HO5.out (by omega)
                      go_wp2_with fail
                      refine hwi.mono ?_
                      rintro e w7 ⟨v7, rfl, own7, hb7⟩
                      have HO7 := hide own7
                      obtain ⟨a7, c7, rfl, -⟩ := own_form own7
                      clear own7 hwi
                      go_wp2
                      go_roundw
                      case rel => exact ⟨k + 1, once1 A id, by omega, by go_num, by rw [HST.out, HID.out, HA.out]; exact (once_snoc1 _ id).symm, HO7.out, BX.trans hb7⟩
                      case measure => simp [intOf]; omega
                    · subst hc0
                      have HID := hide hid
                      clear hid
                      go_wp2
                      go_roundw
                      case rel => exact ⟨k + 1, A, by omega, by go_num, by rw [HST.out, HID.out, HA.out]; simp, HO5.out, BX⟩
                      case measure => simp [intOf]; omega
                  · have hba : Below wr.heap.size wr (wr.drew.alloc (.cells #[.string ⟨#[]⟩, .int .i64 0, .string ⟨#[]⟩, .int .i64 0] 60)) := hdw.alloc hdw.size _
                    have za : (wr.drew.alloc (.cells #[.string ⟨#[]⟩, .int .i64 0, .string ⟨#[]⟩, .int .i64 0] 60)).heap[wr.heap.size]? = some (.cells #[.string ⟨#[]⟩, .int .i64 0, .string ⟨#[]⟩, .int .i64 0] 60) := heap_last wr.drew (.cells #[.string ⟨#[]⟩, .int .i64 0, .string ⟨#[]⟩, .int .i64 0] 60) _ rfl
                    have hE2 := hEn (wr.drew.alloc (.cells #[.string ⟨#[]⟩, .int .i64 0, .string ⟨#[]⟩, .int .i64 0] 60)) x.1 x.2 (by omega)
                    go_simp
                    refine hK.out _ _ (⟨hkp _ _ _ hba k0, hkp _ _ _ hba k1⟩) (fun hHeld => ?_)
                    clear hK K
                    try simp only [Act.put, List.setIfInBounds_toArray, List.set_cons_zero, List.set_cons_succ]
                    refine onlyH (i := 10) rfl (by kernel_rfl) rfl (fun K hK => ?_)
                    go_simp
                    refine hE2.mono ?_
                    rintro e w5 ⟨he, hb5⟩
                    obtain rfl := hform _ he
                    have hb5' : Below wr.heap.size wr w5 := hba.trans (hb5.mono hba.size)
                    have zq := (hb5.block _ (lt_of_heap za)).trans za
                    clear he
                    refine hK.out _ _ (⟨hkp w5 _ _ hb5' k0, hkp w5 _ _ hb5' k1⟩) (fun hHeld => ?_)
                    clear hK K
                    try simp only [Act.put, List.setIfInBounds_toArray, List.set_cons_zero, List.set_cons_succ]
                    refine takeH (i := 11) (v := ?_) rfl (by kernel_rfl) (by kernel_rfl) (by kernel_rfl) (fun _ _ _ h => h) rfl ?_ hHeld ?_
                    rotate_left
                    · intro w hS; (try dsimp only at hS); obtain ⟨hS0, hS1⟩ := hS; go_simp; first | done | (with_reducible rfl)
                    try simp only [Act.put, List.setIfInBounds_toArray, List.set_cons_zero, List.set_cons_succ]
                    refine takeH (i := 12) (v := ?_) rfl (by kernel_rfl) (by kernel_rfl) (by kernel_rfl) (fun _ _ _ h => h) rfl ?_ hHeld ?_
                    rotate_left
                    · intro w hS; (try dsimp only at hS); obtain ⟨hS0, hS1⟩ := hS; go_simp; first | done | (with_reducible rfl)
                    try simp only [Act.put, List.setIfInBounds_toArray, List.set_cons_zero, List.set_cons_succ]
                    refine takeH (i := 13) (v := ?_) rfl (by kernel_rfl) (by kernel_rfl) (by kernel_rfl) (fun _ _ _ h => h) rfl ?_ hHeld ?_
                    rotate_left
                    · intro w hS; (try dsimp only at hS); obtain ⟨hS0, hS1⟩ := hS; go_simp; first | done | (with_reducible rfl)
                    try simp only [Act.put, List.setIfInBounds_toArray, List.set_cons_zero, List.set_cons_succ]
                    have m0 := rc (i := 0) zq rfl
                    have m1 := rc (i := 1) zq rfl
                    have m2 := rc (i := 2) zq rfl
                    have m3 := rc (i := 3) zq rfl
                    have f0 := frozen0 (j := 0) zq
                    have f1 := frozen0 (j := 1) zq
                    have f2 := frozen0 (j := 2) zq
                    have f3 := frozen0 (j := 3) zq
                    have zE := heap_set4x (u0 := .string (strB nm)) (u1 := .int .i64 kd) (u2 := .string (strB id)) (u3 := .int .i64 sz) zq
                    have hbX := (((hb5'.setCell (p := ⟨wr.heap.size, 0, none⟩) (Nat.le_refl _) (.string (strB nm))).setCell (p := ⟨wr.heap.size, 1, none⟩) (Nat.le_refl _) (.int .i64 kd)).setCell (p := ⟨wr.heap.size, 2, none⟩) (Nat.le_refl _) (.string (strB id))).setCell (p := ⟨wr.heap.size, 3, none⟩) (Nat.le_refl _) (.int .i64 sz)
                    refine onlyH (i := 15) rfl (by kernel_rfl) rfl (fun K hK => ?_)
                    go_simp
                    refine hK.out _ _ (⟨hkp _ _ _ hbX k0, hkp _ _ _ hbX k1⟩) (fun hHeld => ?_)
                    clear hK K
                    try simp only [Act.put, List.setIfInBounds_toArray, List.set_cons_zero, List.set_cons_succ]
                    refine takeH (i := 16) (v := ?_) rfl (by kernel_rfl) (by kernel_rfl) (by kernel_rfl) (fun _ _ _ h => h) rfl ?_ hHeld ?_
                    rotate_left
                    · intro w hS; (try dsimp only at hS); obtain ⟨hS0, hS1⟩ := hS; go_simp; first | done | (with_reducible rfl)
                    try simp only [Act.put, List.setIfInBounds_toArray, List.set_cons_zero, List.set_cons_succ]
                    refine wpAnyH_done (by kernel_rfl) ?_ _
                    clear hHeld m0 m1 m2 m3 f0 f1 f2 f3 zq hba za hE2
                    generalize hwq : (((w5.setCell ⟨wr.heap.size, 0, none⟩ (.string (strB nm))).setCell ⟨wr.heap.size, 1, none⟩ (.int .i64 kd)).setCell ⟨wr.heap.size, 2, none⟩ (.string (strB id))).setCell ⟨wr.heap.size, 3, none⟩ (.int .i64 sz) = wq at *
                    clear hwq
                    have HO5 := hide (own_below HO.out hbX)
                    have BX := HBR.out.trans (hbX.mono HBR.out.size)
                    clear hform hE1 hkp
                    rcases HCO.out with ⟨hc0, hid⟩ | ⟨hc0, hid⟩
                    · subst hc0
                      have HID := hide hid
                      clear hid
                      have e2 := rc (i := 2) zE rfl
                      have hwi := rwith_any wq w2.heap.size (.slice av A.length cv) A id BX.size HO5.out (by omega)
                      go_wp2_with fail
                      refine hwi.mono ?_
                      rintro e w7 ⟨v7, rfl, own7, hb7⟩
                      have HO7 := hide own7
                      obtain ⟨a7, c7, rfl, -⟩ := own_form own7
                      clear own7 hwi
                      go_wp2
                      go_roundw
                      case rel => exact ⟨k + 1, once1 A id, by omega, by go_num, by rw [HST.out, HID.out, HA.out]; exact (once_snoc1 _ id).symm, HO7.out, BX.trans hb7⟩
                      case measure => simp [intOf]; omega
                    · subst hc0
                      have HID := hide hid
                      clear hid
                      go_wp2
                      go_roundw
                      case rel => exact ⟨k + 1, A, by omega, by go_num, by rw [HST.out, HID.out, HA.out]; simp, HO5.out, BX⟩
                      case measure => simp [intOf]; omega
                · obtain rfl : k = f.length := by omega
                  have hnl : ¬ ((f.length : Int) < (f.length : Int)) := by omega
                  have hAf : A = once [] (f.filterMap entryIdOf) := by rw [HA.out, List.take_length]
                  have HAF := hide hAf
                  clear hAf
                  go_wp2
                  go_ret2
                  refine ⟨refs_yes HKD.out.1 HKD.out.2 rfl ?_, BB.trans (HBR.out.mono BB.size)⟩
                  rw [← HAF.out]
                  exact World.ownsRow.mono HO.out hwlo
        | none =>
          rw [h3] at hK3
          have H3 := hide h3
          clear h3
          cases h4 : takenCommit b with
          | some c =>
            have HKD := hide (kinds_commit HBB.out h4)
            have hfl := (commitB_le ((takenCommit_iff b HBB.out c).1 h4).1).2.1
            rw [h4] at hK4
            clear h4 hEn
            go_enter Tryz.func6, Tryz.ntmps6
            go_wp2_with fail
            refine hK0.mono ?_
            rintro e w1 ⟨rfl, hb1⟩
            clear hK0
            go_wp2_with fail
            refine (hK1 w1).mono ?_
            rintro e wf ⟨rfl, hbf⟩
            clear hK1
            have B0 := (hb1.trans (hbf.mono hb1.size)).alloc (hb1.trans (hbf.mono hb1.size)).size (.cells #[.int .i64 0, .slice none 0 0] 46)
            have zf := heap_last wf (.cells #[.int .i64 0, .slice none 0 0] 46) _ rfl
            have c1f := rc (i := 1) zf rfl
            go_wp2_with fail
            generalize hwf : wf.alloc (.cells #[.int .i64 0, .slice none 0 0] 46) = wg at *
            generalize hpf : wf.heap.size = pf at *
            clear hwf hpf
            go_loopw [4, 8] (fun s t wr => s = .slice none 0 0 ∧ t = .int .i64 0 ∧ wr = wg) (fun _ _ _ => 0)
            case atStart => exact ⟨rfl, rfl, rfl⟩
            case round =>
              obtain ⟨rfl, rfl, rfl⟩ := hrel
              go_wp2_with fail
              refine (hK2 _).mono ?_
              rintro e wb ⟨rfl, hbb⟩
              clear hK2
              replace B0 := (B0.trans (hbb.mono B0.size)).alloc (B0.trans (hbb.mono B0.size)).size (.cells #[.int .i64 0, .slice none 0 0] 54)
              have zb := heap_last wb (.cells #[.int .i64 0, .slice none 0 0] 54) _ rfl
              have c1b := rc (i := 1) zb rfl
              clear c1f zf
              go_wp2_with fail
              generalize hwb : wb.alloc (.cells #[.int .i64 0, .slice none 0 0] 54) = wh at *
              generalize hpb : wb.heap.size = pb at *
              clear hwb hpb
              go_loopw [4, 10] (fun s t wr => s = .slice none 0 0 ∧ t = .int .i64 0 ∧ wr = wh) (fun _ _ _ => 0)
              case atStart => exact ⟨rfl, rfl, rfl⟩
              case round =>
                obtain ⟨rfl, rfl, rfl⟩ := hrel
                go_wp2_with fail
                refine (hK3 _).mono ?_
                rintro e wl ⟨rfl, hbl⟩
                clear hK3
                replace B0 := B0.trans (hbl.mono B0.size)
                clear c1b zb
                go_wp2_with fail
                go_loopw [4, 12] (fun s t wr => s = .slice none 0 0 ∧ t = .int .i64 0 ∧ wr = wl) (fun _ _ _ => 0)
                case atStart => exact ⟨rfl, rfl, rfl⟩
                case round =>
                  obtain ⟨rfl, rfl, rfl⟩ := hrel
                  go_wp2_with fail
                  refine (hK4 _).mono ?_
                  rintro e w2 ⟨⟨v2, rfl, hown2⟩, hb2⟩
                  clear hK4
                  obtain ⟨a2, c2, rfl, -⟩ := own_form hown2
                  have BB := (B0.trans (hb2.mono B0.size)).alloc (B0.trans (hb2.mono B0.size)).size (.cells #[.string (strB c.1), .slice a2 c.2.1.length c2, .string (strB c.2.2.1), .int .i64 c.2.2.2.1, .string (strB c.2.2.2.2)] 64)
                  have hq3 : Below w2.heap.size w2 (w2.alloc (.cells #[.string (strB c.1), .slice a2 c.2.1.length c2, .string (strB c.2.2.1), .int .i64 c.2.2.2.1, .string (strB c.2.2.2.2)] 64)) := (Below.refl _ _).alloc (Nat.le_refl _) _
                  have z3 := heap_last w2 (.cells #[.string (strB c.1), .slice a2 c.2.1.length c2, .string (strB c.2.2.1), .int .i64 c.2.2.2.1, .string (strB c.2.2.2.2)] 64) _ rfl
                  have hls := (ls_of_own idC_length hown2).past hq3
                  generalize hw3 : w2.alloc (.cells #[.string (strB c.1), .slice a2 c.2.1.length c2, .string (strB c.2.2.1), .int .i64 c.2.2.2.1, .string (strB c.2.2.2.2)] 64) = w3 at *
                  generalize hp3 : w2.heap.size = p3 at *
                  have HLS := hide hls
                  have hp3l := lt_of_heap z3
                  have hwlo := BB.size
                  have e0 := rc (i := 0) z3 rfl
                  have hwi0 := rwith_any w3 w3.heap.size (.slice none 0 0) [] c.1 (Nat.le_refl _) (World.ownsRow_nil _ _ _ _) (by simp)
                  clear hown2 hq3 hls hb2
                  go_wp2_with fail
                  try rw [hw3]
                  try rw [hp3]
                  clear hw3 hp3
                  refine hwi0.mono ?_
                  rintro e w4 ⟨v4, rfl, own4, hb4⟩
                  have own4 : w4.ownsRow w3.heap.size 9 1 v4 [c.1].length ([c.1].flatMap idC) := own4
                  have HO4 := hide own4
                  obtain ⟨a4, c4, rfl, -⟩ := own_form own4
                  clear own4 hwi0 e0
                  go_wp2_with fail
                  go_loopw [4, 16] (fun s t wr => ∃ (k : Nat) (A : List Bs), k ≤ c.2.1.length ∧ t = .int .i64 k ∧ A = once [] (c.1 :: c.2.1.take k) ∧ wr.ownsRow w3.heap.size 9 1 s A.length (A.flatMap idC) ∧ Below w3.heap.size w3 wr) (fun _ t _ => c.2.1.length - (intOf t).toNat)
                  case atStart => exact ⟨0, [c.1], by omega, rfl, rfl, HO4.out, hb4⟩
                  case round =>
                    obtain ⟨k, A, hk, rfl, hA, hown, hbr⟩ := hrel
                    have hAl : A.length ≤ k + 1 := by
                      have h1 := once_len (c.1 :: c.2.1.take k)
                      rw [← hA, List.length_cons, List.length_take] at h1
                      omega
                    have HA := hide hA
                    have HO := hide hown
                    have zr := (hbr.block _ hp3l).trans z3
                    have d1 := rc (i := 1) zr rfl
                    have HBR := hide hbr
                    obtain ⟨av, cv, rfl, -⟩ := own_form hown
                    clear hA hown hbr
                    by_cases hlt : k < c.2.1.length
                    · obtain ⟨ao', cap', he, -, -, h4⟩ := HLS.out
                      obtain ⟨b0, off, rfl, hbB, hc⟩ := h4 (by intro e; rw [e] at hlt; simp at hlt)
                      injection he with he _ he2
                      subst he he2
                      have k0 := (HBR.out.cell (p := ⟨b0, off + k * 1 + 0, none⟩) hbB).trans (hc k hlt 0 _ rfl)
                      simp only [Nat.add_zero, Nat.mul_one] at k0
                      have hst : c.1 :: c.2.1.take (k + 1) = (c.1 :: c.2.1.take k) ++ [c.2.1[k]] := by
                        rw [List.take_succ_eq_append_getElem hlt]
                        rfl
                      have HST := hide hst
                      clear hst hc
                      generalize c.2.1[k] = x at *
                      have hwi := rwith_any wr w3.heap.size (.slice av A.length cv) A x HBR.out.size HO.out (by omega)
                      go_wp2_with fail
                      refine hwi.mono ?_
                      rintro e w5 ⟨v5, rfl, own5, hb5⟩
                      have HO5 := hide own5
                      obtain ⟨a5, c5, rfl, -⟩ := own_form own5
                      clear own5 hwi
                      go_wp2
                      go_roundw
                      case rel => exact ⟨k + 1, once1 A x, by omega, by go_num, by rw [HST.out, once_snoc1, ← HA.out], HO5.out, HBR.out.trans hb5⟩
                      case measure => simp [intOf]; omega
                    · obtain rfl : k = c.2.1.length := by omega
                      have hnl : ¬ ((c.2.1.length : Int) < (c.2.1.length : Int)) := by omega
                      have hAf : A = once [] (c.1 :: c.2.1) := by rw [HA.out, List.take_length]
                      have HAF := hide hAf
                      clear hAf
                      go_wp2
                      go_ret2
                      refine ⟨refs_yes HKD.out.1 HKD.out.2 rfl ?_, BB.trans (HBR.out.mono BB.size)⟩
                      rw [← HAF.out]
                      exact World.ownsRow.mono HO.out hwlo
          | none =>
            rw [h4] at hK4
            have HNO := hide (kinds_none H0.out H1.out H3.out H2.out h4)
            clear h4 hEn
            go_enter Tryz.func6, Tryz.ntmps6
            go_wp2_with fail
            refine hK0.mono ?_
            rintro e w1 ⟨rfl, hb1⟩
            clear hK0
            go_wp2_with fail
            refine (hK1 w1).mono ?_
            rintro e wf ⟨rfl, hbf⟩
            clear hK1
            have B0 := (hb1.trans (hbf.mono hb1.size)).alloc (hb1.trans (hbf.mono hb1.size)).size (.cells #[.int .i64 0, .slice none 0 0] 46)
            have zf := heap_last wf (.cells #[.int .i64 0, .slice none 0 0] 46) _ rfl
            have c1f := rc (i := 1) zf rfl
            go_wp2_with fail
            generalize hwf : wf.alloc (.cells #[.int .i64 0, .slice none 0 0] 46) = wg at *
            generalize hpf : wf.heap.size = pf at *
            clear hwf hpf
            go_loopw [4, 8] (fun s t wr => s = .slice none 0 0 ∧ t = .int .i64 0 ∧ wr = wg) (fun _ _ _ => 0)
            case atStart => exact ⟨rfl, rfl, rfl⟩
            case round =>
              obtain ⟨rfl, rfl, rfl⟩ := hrel
              go_wp2_with fail
              refine (hK2 _).mono ?_
              rintro e wb ⟨rfl, hbb⟩
              clear hK2
              replace B0 := (B0.trans (hbb.mono B0.size)).alloc (B0.trans (hbb.mono B0.size)).size (.cells #[.int .i64 0, .slice none 0 0] 54)
              have zb := heap_last wb (.cells #[.int .i64 0, .slice none 0 0] 54) _ rfl
              have c1b := rc (i := 1) zb rfl
              clear c1f zf
              go_wp2_with fail
              generalize hwb : wb.alloc (.cells #[.int .i64 0, .slice none 0 0] 54) = wh at *
              generalize hpb : wb.heap.size = pb at *
              clear hwb hpb
              go_loopw [4, 10] (fun s t wr => s = .slice none 0 0 ∧ t = .int .i64 0 ∧ wr = wh) (fun _ _ _ => 0)
              case atStart => exact ⟨rfl, rfl, rfl⟩
              case round =>
                obtain ⟨rfl, rfl, rfl⟩ := hrel
                go_wp2_with fail
                refine (hK3 _).mono ?_
                rintro e wl ⟨rfl, hbl⟩
                clear hK3
                replace B0 := B0.trans (hbl.mono B0.size)
                clear c1b zb
                go_wp2_with fail
                go_loopw [4, 12] (fun s t wr => s = .slice none 0 0 ∧ t = .int .i64 0 ∧ wr = wl) (fun _ _ _ => 0)
                case atStart => exact ⟨rfl, rfl, rfl⟩
                case round =>
                  obtain ⟨rfl, rfl, rfl⟩ := hrel
                  go_wp2_with fail
                  refine (hK4 _).mono ?_
                  rintro e w2 ⟨rfl, hb2⟩
                  clear hK4
                  have BB := B0.trans (hb2.mono B0.size)
                  go_wp2
                  go_ret2
                  refine ⟨?_, BB.alloc BB.size _⟩
                  unfold refsSaid
                  rw [if_neg (by rw [HNO.out]; decide)]
                  rfl
end Go.Proofs.YtdbmngbinhemeabGreatDoor
