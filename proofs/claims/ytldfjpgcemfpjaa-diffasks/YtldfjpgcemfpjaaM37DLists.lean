/-
  Texts joined: DLists, DRMaps, DShown3, DMapsLaw.
-/
import Derived.Test.YtldfjpgcemfpjaaM36DShownP
import Derived.Deep.CutBlock
import Derived.Deep.CutRange
import Derived.Test.YtldfjpgcemfpjaaM23PRList
/-
  The changes from pairs to others, by the reference. Conditions: the lists lie there; not too many pairs.
-/
namespace Go.Proofs.Ytldfjpgcemfpjaa
open Go.RowKit

theorem lss_strD (t : TypeId) (a b : Bs) : binOp .lss t (.string (strB a)) (.string (strB b)) = pure (.bool (ltB a b)) := by simp [binOp, Op.stringOp, toLr, ltB]
set_option maxRecDepth 40000 in
set_option maxHeartbeats 3200000 in
theorem lists14_any (w : World) (l m : List Pair) (va vb : Value) (hl : Ls w.heap.size w 2 pairC va l) (hm : Ls w.heap.size w 2 pairC vb m) (hn : l.length + m.length ≤ 1000000) :
    Calls Try.prog 26 #[va, vb] w fun e w' => ∃ v, e = .returned v ∧ Rw w.heap.size w' 52 5 ch5C v ((chgs l m).map ch5) ∧ Below w.heap.size w w' := by
  unfold chgs
  obtain ⟨N, hN⟩ : ∃ N, N = (changesM (l.length + m.length) l m).map ch5 := ⟨_, rfl⟩
  rw [← hN]
  obtain ⟨aa, ca, rfl, a1, a2, a4⟩ := hl
  obtain ⟨ab, cb, rfl, b1, b2, b4⟩ := hm
  unfold maxLen at a2 b2
  have HNN := hide hN
  clear hN
  go_enter Try.func26, Try.ntmps26
  go_wp2_with fail
  go_loopw [5, 6, 7] (fun t ti tk wr => ∃ (i k n : Nat) (out : List Ch5), i ≤ l.length ∧ k ≤ m.length ∧ (l.length - i) + (m.length - k) ≤ n ∧ out.length + n ≤ 1000000 ∧ ti = .int .i64 i ∧ tk = .int .i64 k ∧ N = out ++ (changesM n (l.drop i) (m.drop k)).map ch5 ∧ Rw w.heap.size wr 52 5 ch5C t out ∧ Below w.heap.size w wr)
    (fun _ ti tk _ => (l.length - (intOf ti).toNat) + (m.length - (intOf tk).toNat))
  case atStart => exact ⟨0, 0, l.length + m.length, [], by omega, by omega, by omega, by simpa using hn, rfl, rfl, by simpa using HNN.out, World.ownsRow_nil _ _ _ _, Below.refl _ _⟩
  case round =>
    obtain ⟨i, k, n, out, hi, hk, hnn, hon, rfl, rfl, hNe, hrow, hbw⟩ := hrel
    obtain ⟨oa, om, oc, rfl⟩ := row_form hrow
    by_cases hboth : i = l.length ∧ k = m.length
    · obtain ⟨rfl, rfl⟩ := hboth
      rw [List.drop_length, List.drop_length] at hNe
      have hz : changesM n [] [] = [] := by cases n <;> rfl
      rw [hz, List.map_nil, List.append_nil] at hNe
      have HR := hide (And.intro hNe (And.intro hrow hbw))
      clear hrow hbw hNe a4 b4
      go_wp2
      all_goals
        go_ret
        rw [HR.out.1]
        exact ⟨_, rfl, HR.out.2.1, HR.out.2.2⟩
    obtain ⟨n', rfl⟩ : ∃ n', n = n' + 1 := ⟨n - 1, by omega⟩
    have HR := hide (And.intro hon (And.intro hrow hbw))
    clear hrow hbw hon
    by_cases hia : i < l.length
    · obtain ⟨ba, oA, rfl, hbA, hcA⟩ := a4 (by rintro rfl; simp at hia)
      have hda := List.drop_eq_getElem_cons hia
      have kA : ∀ W, Below w.heap.size w W → W.cell? ⟨ba, oA + i * 2, none⟩ = some (.string (strB l[i].1)) ∧ W.cell? ⟨ba, oA + i * 2 + 1, none⟩ = some (.string (strB l[i].2)) := fun W hW =>
        ⟨(hW.cell (p := ⟨ba, oA + i * 2 + 0, none⟩) hbA).trans (hcA i hia 0 _ rfl), (hW.cell (p := ⟨ba, oA + i * 2 + 1, none⟩) hbA).trans (hcA i hia 1 _ rfl)⟩
      generalize l[i] = a at *
      have hdi : decide (i < l.length) = true := decide_eq_true hia
      by_cases hkb : k < m.length
      · obtain ⟨bb, oB, rfl, hbB, hcB⟩ := b4 (by rintro rfl; simp at hkb)
        have hdb := List.drop_eq_getElem_cons hkb
        have kB : ∀ W, Below w.heap.size w W → W.cell? ⟨bb, oB + k * 2, none⟩ = some (.string (strB m[k].1)) ∧ W.cell? ⟨bb, oB + k * 2 + 1, none⟩ = some (.string (strB m[k].2)) := fun W hW =>
          ⟨(hW.cell (p := ⟨bb, oB + k * 2 + 0, none⟩) hbB).trans (hcB k hkb 0 _ rfl), (hW.cell (p := ⟨bb, oB + k * 2 + 1, none⟩) hbB).trans (hcB k hkb 1 _ rfl)⟩
        generalize m[k] = b at *
        have kAB : ∀ W, Below w.heap.size w W → W.cell? ⟨ba, oA + i * 2, none⟩ = some (.string (strB a.1)) ∧ W.cell? ⟨ba, oA + i * 2 + 1, none⟩ = some (.string (strB a.2)) ∧ W.cell? ⟨bb, oB + k * 2, none⟩ = some (.string (strB b.1)) ∧ W.cell? ⟨bb, oB + k * 2 + 1, none⟩ = some (.string (strB b.2)) := fun W hW => ⟨(kA W hW).1, (kA W hW).2, (kB W hW).1, (kB W hW).2⟩
        have hkq : ((k : Int) == (m.length : Int)) = false := by simp; omega
        have hiq : ((i : Int) == (l.length : Int)) = false := by simp; omega
        rw [hda, hdb] at hNe
        have hls := lss_strD 9 a.1 b.1
        have hls2 := lss_strD 9 b.1 a.1
        by_cases hab : ltB a.1 b.1 = true
        · have hst : changesM (n' + 1) (a :: l.drop (i + 1)) (b :: m.drop (k + 1)) = (a.1, (some a.2, none)) :: changesM n' (l.drop (i + 1)) (b :: m.drop (k + 1)) := by rw [changesM, if_pos hab]
          rw [hst, List.map_cons, ← hdb] at hNe
          rw [hab] at hls
          have HN : Hid (N = out ++ ([ch5 (a.1, (some a.2, none))] ++ (changesM n' (l.drop (i + 1)) (m.drop k)).map ch5)) := hNe
          clear hNe hst hda hdb hcA hcB a4 b4 hboth hab
          go_wp2_with fail
          refine wp_region_held_drew (S := fun W => W.cell? ⟨ba, oA + i * 2, none⟩ = some (.string (strB a.1)) ∧ W.cell? ⟨ba, oA + i * 2 + 1, none⟩ = some (.string (strB a.2)) ∧ W.cell? ⟨bb, oB + k * 2, none⟩ = some (.string (strB b.1)) ∧ W.cell? ⟨bb, oB + k * 2 + 1, none⟩ = some (.string (strB b.2))) (by kernel_rfl) (kAB wr HR.out.2.2) (fun hHeld => ?_)
          refine takeK 0 hHeld ?_
          refine takeK 1 hHeld ?_
          refine takeK 2 hHeld ?_
          refine takeK 3 hHeld ?_
          refine takeK 4 hHeld ?_
          refine takeK 5 hHeld ?_
          refine takeK 6 hHeld ?_
          refine takeK 7 hHeld ?_
          refine takeK 8 hHeld ?_
          refine takeK 9 hHeld ?_
          refine takeK 10 hHeld ?_
          refine takeK 11 hHeld ?_
          refine takeK 12 hHeld ?_
          refine takeK 13 hHeld ?_
          refine takeK 14 hHeld ?_
          refine takeK 15 hHeld ?_
          refine takeK 16 hHeld ?_
          refine takeK 17 hHeld ?_
          refine takeK 18 hHeld ?_
          refine takeK 19 hHeld ?_
          refine takeK 20 hHeld ?_
          refine takeK 21 hHeld ?_
          refine takeK 22 hHeld ?_
          refine takeK 23 hHeld ?_
          refine wpAnyH_done (by kernel_rfl) ?_ _
          clear hHeld
          go_upto_region 10 with fail
          have HQ : Hid (Below wr.heap.size wr wr.drew) := hide (Below.refl wr.heap.size wr).drew
          generalize wr.drew = wq at *
          obtain ⟨v', w5, hrun, hrow5, hgr5, -⟩ := app_change wq.drew w.heap.size _ out (ch5 (a.1, (some a.2, none))) (own_below HR.out.2.1 HQ.out.drew) (Nat.le_trans HR.out.2.2.size HQ.out.size) (by have := HR.out.1; omega)
          rw [drew_alloc] at hrun hgr5
          rw [show wq.drew.heap.size = wq.heap.size from rfl] at hrun
          have hBq : w.heap.size ≤ wq.heap.size := Nat.le_trans HR.out.2.2.size HQ.out.size
          have hrowq : Rw w.heap.size wq 52 5 ch5C (.slice oa om oc) out := own_below HR.out.2.1 HQ.out
          have hrowA : Rw w.heap.size (wq.alloc (.cells (ch5C (ch5 (a.1, (some a.2, none)))).toArray 52)).drew 52 5 ch5C (.slice oa om oc) out := World.ownsRow.alloc hrowq (.cells (ch5C (ch5 (a.1, (some a.2, none)))).toArray 52)
          have hbE : Below w.heap.size w (wq.alloc (.cells (ch5C (ch5 (a.1, (some a.2, none)))).toArray 52)).drew := ((HR.out.2.2.trans (HQ.out.mono HR.out.2.2.size)).alloc hBq _).drew
          have hb5 : Below w.heap.size w w5 := hbE.trans ((Below.refl _ _).grown hgr5 hbE.size (fun q hq => (World.ownsRow.lt hrowA q hq).1))
          have hS0 := kA wq (HR.out.2.2.trans (HQ.out.mono HR.out.2.2.size))
          have hSE := kA _ hbE
          have hS5 := kA _ hb5
          have HRUN : Hid ((Builtin.append_ #[24, 24] 24 #[.slice oa om oc, .slice (some ⟨wq.heap.size, 0, none⟩) 1 1]).run Try.prog (wq.alloc (.cells (ch5C (ch5 (a.1, (some a.2, none)))).toArray 52)).drew = .ok v' w5) := hrun
          simp only [ch5C] at HRUN
          have H5 := hide (And.intro hrow5 hb5)
          have HSE := hide (And.intro hSE hS5)
          obtain ⟨va5, vm5, vc5, rfl⟩ := row_form hrow5
          clear hrun hrow5 hgr5 hBq hrowq hrowA hbE hb5 hSE hS5
          refine wp_region_held_drew (S := fun W => W.cell? ⟨ba, oA + i * 2, none⟩ = some (.string (strB a.1)) ∧ W.cell? ⟨ba, oA + i * 2 + 1, none⟩ = some (.string (strB a.2))) (by kernel_rfl) (hS0) (fun hHeld => ?_)
          refine takeK 0 hHeld ?_
          refine takeK 1 hHeld ?_
          refine takeK 2 hHeld ?_
          refine takeK 3 hHeld ?_
          refine takeK 4 hHeld ?_
          refine takeK 5 hHeld ?_
          refine takeK 6 hHeld ?_
          refine takeK 7 hHeld ?_
          refine takeK 8 hHeld ?_
          refine takeK 9 hHeld ?_
          refine takeK 10 hHeld ?_
          refine takeK 11 hHeld ?_
          refine onlyH (i := 12) rfl (by kernel_rfl) rfl (fun K hK => ?_)
          go_simp
          refine hK.out _ _ (HSE.out.1) (fun hHeld => ?_)
          clear hK K
          try simp only [Act.put, List.setIfInBounds_toArray, List.set_cons_zero, List.set_cons_succ]
          refine onlyH (i := 13) rfl (by kernel_rfl) rfl (fun K hK => ?_)
          refine wp_append_run (.tmp 76) (.tmp 88) 24 rfl rfl rfl HRUN.out ?_
          refine hK.out _ _ (HSE.out.2) (fun hHeld => ?_)
          clear hK K
          try simp only [Act.put, List.setIfInBounds_toArray, List.set_cons_zero, List.set_cons_succ]
          refine takeK 14 hHeld ?_
          refine wpAnyH_done (by kernel_rfl) ?_ _
          clear hHeld hS0
          go_wp2
          go_roundw
          case rel =>
            refine ⟨i + 1, k, n', out ++ [ch5 (a.1, (some a.2, none))], by omega, by omega, by omega, by simp; have := HR.out.1; omega, by go_num, by go_num, ?_, H5.out.1, H5.out.2⟩
            rw [HN.out]
            simp
          case measure => simp [intOf]; omega
        · have hab' : ltB a.1 b.1 = false := by simpa using hab
          rw [hab'] at hls
          by_cases hba : ltB b.1 a.1 = true
          · have hst : changesM (n' + 1) (a :: l.drop (i + 1)) (b :: m.drop (k + 1)) = (b.1, (none, some b.2)) :: changesM n' (a :: l.drop (i + 1)) (m.drop (k + 1)) := by rw [changesM, if_neg hab, if_pos hba]
            rw [hst, List.map_cons, ← hda] at hNe
            rw [hba] at hls2
            have HN : Hid (N = out ++ ([ch5 (b.1, (none, some b.2))] ++ (changesM n' (l.drop i) (m.drop (k + 1))).map ch5)) := hNe
            clear hNe hst hda hdb hcA hcB a4 b4 hboth hab hab' hba
            go_wp2_with fail
            refine wp_region_held_drew (S := fun W => W.cell? ⟨ba, oA + i * 2, none⟩ = some (.string (strB a.1)) ∧ W.cell? ⟨ba, oA + i * 2 + 1, none⟩ = some (.string (strB a.2)) ∧ W.cell? ⟨bb, oB + k * 2, none⟩ = some (.string (strB b.1)) ∧ W.cell? ⟨bb, oB + k * 2 + 1, none⟩ = some (.string (strB b.2))) (by kernel_rfl) (kAB wr HR.out.2.2) (fun hHeld => ?_)
            refine takeK 0 hHeld ?_
            refine takeK 1 hHeld ?_
            refine takeK 2 hHeld ?_
            refine takeK 3 hHeld ?_
            refine takeK 4 hHeld ?_
            refine takeK 5 hHeld ?_
            refine takeK 6 hHeld ?_
            refine takeK 7 hHeld ?_
            refine takeK 8 hHeld ?_
            refine takeK 9 hHeld ?_
            refine takeK 10 hHeld ?_
            refine takeK 11 hHeld ?_
            refine takeK 12 hHeld ?_
            refine takeK 13 hHeld ?_
            refine takeK 14 hHeld ?_
            refine takeK 15 hHeld ?_
            refine takeK 16 hHeld ?_
            refine takeK 17 hHeld ?_
            refine takeK 18 hHeld ?_
            refine takeK 19 hHeld ?_
            refine takeK 20 hHeld ?_
            refine takeK 21 hHeld ?_
            refine takeK 22 hHeld ?_
            refine takeK 23 hHeld ?_
            refine wpAnyH_done (by kernel_rfl) ?_ _
            clear hHeld
            go_upto_region 12 with fail
            refine wp_region_held_drew (S := fun W => W.cell? ⟨ba, oA + i * 2, none⟩ = some (.string (strB a.1)) ∧ W.cell? ⟨ba, oA + i * 2 + 1, none⟩ = some (.string (strB a.2)) ∧ W.cell? ⟨bb, oB + k * 2, none⟩ = some (.string (strB b.1)) ∧ W.cell? ⟨bb, oB + k * 2 + 1, none⟩ = some (.string (strB b.2))) (by kernel_rfl) (kAB wr HR.out.2.2) (fun hHeld => ?_)
            refine takeK 0 hHeld ?_
            refine takeK 1 hHeld ?_
            refine takeK 2 hHeld ?_
            refine takeK 3 hHeld ?_
            refine takeK 4 hHeld ?_
            refine takeK 5 hHeld ?_
            refine takeK 6 hHeld ?_
            refine takeK 7 hHeld ?_
            refine takeK 8 hHeld ?_
            refine takeK 9 hHeld ?_
            refine takeK 10 hHeld ?_
            refine takeK 11 hHeld ?_
            refine takeK 12 hHeld ?_
            refine takeK 13 hHeld ?_
            refine takeK 14 hHeld ?_
            refine takeK 15 hHeld ?_
            refine takeK 16 hHeld ?_
            refine takeK 17 hHeld ?_
            refine wpAnyH_done (by kernel_rfl) ?_ _
            clear hHeld
            go_upto_region 13 with fail
            have HQ : Hid (Below wr.heap.size wr wr.drew.drew) := hide (Below.refl wr.heap.size wr).drew.drew
            generalize wr.drew.drew = wq at *
            obtain ⟨v', w5, hrun, hrow5, hgr5, -⟩ := app_change wq.drew w.heap.size _ out (ch5 (b.1, (none, some b.2))) (own_below HR.out.2.1 HQ.out.drew) (Nat.le_trans HR.out.2.2.size HQ.out.size) (by have := HR.out.1; omega)
            rw [drew_alloc] at hrun hgr5
            rw [show wq.drew.heap.size = wq.heap.size from rfl] at hrun
            have hBq : w.heap.size ≤ wq.heap.size := Nat.le_trans HR.out.2.2.size HQ.out.size
            have hrowq : Rw w.heap.size wq 52 5 ch5C (.slice oa om oc) out := own_below HR.out.2.1 HQ.out
            have hrowA : Rw w.heap.size (wq.alloc (.cells (ch5C (ch5 (b.1, (none, some b.2)))).toArray 52)).drew 52 5 ch5C (.slice oa om oc) out := World.ownsRow.alloc hrowq (.cells (ch5C (ch5 (b.1, (none, some b.2)))).toArray 52)
            have hbE : Below w.heap.size w (wq.alloc (.cells (ch5C (ch5 (b.1, (none, some b.2)))).toArray 52)).drew := ((HR.out.2.2.trans (HQ.out.mono HR.out.2.2.size)).alloc hBq _).drew
            have hb5 : Below w.heap.size w w5 := hbE.trans ((Below.refl _ _).grown hgr5 hbE.size (fun q hq => (World.ownsRow.lt hrowA q hq).1))
            have hS0 := kB wq (HR.out.2.2.trans (HQ.out.mono HR.out.2.2.size))
            have hSE := kB _ hbE
            have hS5 := kB _ hb5
            have HRUN : Hid ((Builtin.append_ #[24, 24] 24 #[.slice oa om oc, .slice (some ⟨wq.heap.size, 0, none⟩) 1 1]).run Try.prog (wq.alloc (.cells (ch5C (ch5 (b.1, (none, some b.2)))).toArray 52)).drew = .ok v' w5) := hrun
            simp only [ch5C] at HRUN
            have H5 := hide (And.intro hrow5 hb5)
            have HSE := hide (And.intro hSE hS5)
            obtain ⟨va5, vm5, vc5, rfl⟩ := row_form hrow5
            clear hrun hrow5 hgr5 hBq hrowq hrowA hbE hb5 hSE hS5
            refine wp_region_held_drew (S := fun W => W.cell? ⟨bb, oB + k * 2, none⟩ = some (.string (strB b.1)) ∧ W.cell? ⟨bb, oB + k * 2 + 1, none⟩ = some (.string (strB b.2))) (by kernel_rfl) (hS0) (fun hHeld => ?_)
            refine takeK 0 hHeld ?_
            refine takeK 1 hHeld ?_
            refine takeK 2 hHeld ?_
            refine takeK 3 hHeld ?_
            refine takeK 4 hHeld ?_
            refine takeK 5 hHeld ?_
            refine takeK 6 hHeld ?_
            refine takeK 7 hHeld ?_
            refine takeK 8 hHeld ?_
            refine takeK 9 hHeld ?_
            refine takeK 10 hHeld ?_
            refine takeK 11 hHeld ?_
            refine onlyH (i := 12) rfl (by kernel_rfl) rfl (fun K hK => ?_)
            go_simp
            refine hK.out _ _ (HSE.out.1) (fun hHeld => ?_)
            clear hK K
            try simp only [Act.put, List.setIfInBounds_toArray, List.set_cons_zero, List.set_cons_succ]
            refine onlyH (i := 13) rfl (by kernel_rfl) rfl (fun K hK => ?_)
            refine wp_append_run (.tmp 110) (.tmp 122) 24 rfl rfl rfl HRUN.out ?_
            refine hK.out _ _ (HSE.out.2) (fun hHeld => ?_)
            clear hK K
            try simp only [Act.put, List.setIfInBounds_toArray, List.set_cons_zero, List.set_cons_succ]
            refine takeK 14 hHeld ?_
            refine wpAnyH_done (by kernel_rfl) ?_ _
            clear hHeld hS0
            go_wp2
            go_roundw
            case rel =>
              refine ⟨i, k + 1, n', out ++ [ch5 (b.1, (none, some b.2))], by omega, by omega, by omega, by simp; have := HR.out.1; omega, by go_num, by go_num, ?_, H5.out.1, H5.out.2⟩
              rw [HN.out]
              simp
            case measure => simp [intOf]; omega
          · have hba' : ltB b.1 a.1 = false := by simpa using hba
            rw [hba'] at hls2
            have hta := toL a.2
            have htb := toL b.2
            cases hvq : (a.2 == b.2) with
            | true =>
              have hv : a.2 = b.2 := by simpa using hvq
              have hst : changesM (n' + 1) (a :: l.drop (i + 1)) (b :: m.drop (k + 1)) = changesM n' (l.drop (i + 1)) (m.drop (k + 1)) := by rw [changesM, if_neg hab, if_neg hba, if_pos hv]
              rw [hst] at hNe
              have HN := hide hNe
              clear hNe hst hda hdb hcA hcB a4 b4 hboth hab hab' hba hba' hv
              go_wp2_with fail
              refine wp_region_held_drew (S := fun W => W.cell? ⟨ba, oA + i * 2, none⟩ = some (.string (strB a.1)) ∧ W.cell? ⟨ba, oA + i * 2 + 1, none⟩ = some (.string (strB a.2)) ∧ W.cell? ⟨bb, oB + k * 2, none⟩ = some (.string (strB b.1)) ∧ W.cell? ⟨bb, oB + k * 2 + 1, none⟩ = some (.string (strB b.2))) (by kernel_rfl) (kAB wr HR.out.2.2) (fun hHeld => ?_)
              refine takeK 0 hHeld ?_
              refine takeK 1 hHeld ?_
              refine takeK 2 hHeld ?_
              refine takeK 3 hHeld ?_
              refine takeK 4 hHeld ?_
              refine takeK 5 hHeld ?_
              refine takeK 6 hHeld ?_
              refine takeK 7 hHeld ?_
              refine takeK 8 hHeld ?_
              refine takeK 9 hHeld ?_
              refine takeK 10 hHeld ?_
              refine takeK 11 hHeld ?_
              refine takeK 12 hHeld ?_
              refine takeK 13 hHeld ?_
              refine takeK 14 hHeld ?_
              refine takeK 15 hHeld ?_
              refine takeK 16 hHeld ?_
              refine takeK 17 hHeld ?_
              refine takeK 18 hHeld ?_
              refine takeK 19 hHeld ?_
              refine takeK 20 hHeld ?_
              refine takeK 21 hHeld ?_
              refine takeK 22 hHeld ?_
              refine takeK 23 hHeld ?_
              refine wpAnyH_done (by kernel_rfl) ?_ _
              clear hHeld
              go_upto_region 12 with fail
              refine wp_region_held_drew (S := fun W => W.cell? ⟨ba, oA + i * 2, none⟩ = some (.string (strB a.1)) ∧ W.cell? ⟨ba, oA + i * 2 + 1, none⟩ = some (.string (strB a.2)) ∧ W.cell? ⟨bb, oB + k * 2, none⟩ = some (.string (strB b.1)) ∧ W.cell? ⟨bb, oB + k * 2 + 1, none⟩ = some (.string (strB b.2))) (by kernel_rfl) (kAB wr HR.out.2.2) (fun hHeld => ?_)
              refine takeK 0 hHeld ?_
              refine takeK 1 hHeld ?_
              refine takeK 2 hHeld ?_
              refine takeK 3 hHeld ?_
              refine takeK 4 hHeld ?_
              refine takeK 5 hHeld ?_
              refine takeK 6 hHeld ?_
              refine takeK 7 hHeld ?_
              refine takeK 8 hHeld ?_
              refine takeK 9 hHeld ?_
              refine takeK 10 hHeld ?_
              refine takeK 11 hHeld ?_
              refine takeK 12 hHeld ?_
              refine takeK 13 hHeld ?_
              refine takeK 14 hHeld ?_
              refine takeK 15 hHeld ?_
              refine takeK 16 hHeld ?_
              refine takeK 17 hHeld ?_
              refine wpAnyH_done (by kernel_rfl) ?_ _
              clear hHeld
              go_upto_region 5 with fail
              refine wp_region_held_drew (S := fun W => W.cell? ⟨ba, oA + i * 2, none⟩ = some (.string (strB a.1)) ∧ W.cell? ⟨ba, oA + i * 2 + 1, none⟩ = some (.string (strB a.2)) ∧ W.cell? ⟨bb, oB + k * 2, none⟩ = some (.string (strB b.1)) ∧ W.cell? ⟨bb, oB + k * 2 + 1, none⟩ = some (.string (strB b.2))) (by kernel_rfl) (kAB wr HR.out.2.2) (fun hHeld => ?_)
              refine takeK 0 hHeld ?_
              refine takeK 1 hHeld ?_
              refine takeK 2 hHeld ?_
              refine takeK 3 hHeld ?_
              refine takeK 4 hHeld ?_
              refine takeK 5 hHeld ?_
              refine takeK 6 hHeld ?_
              refine takeK 7 hHeld ?_
              refine takeK 8 hHeld ?_
              refine takeK 9 hHeld ?_
              refine takeK 10 hHeld ?_
              refine wpAnyH_done (by kernel_rfl) ?_ _
              clear hHeld
              go_wp2
              go_roundw
              case rel => exact ⟨i + 1, k + 1, n', out, by omega, by omega, by omega, by have := HR.out.1; omega, by go_num, by go_num, HN.out, own_below HR.out.2.1 (Below.refl wr.heap.size wr).drew.drew.drew, HR.out.2.2.drew.drew.drew⟩
              case measure => simp [intOf]; omega
            | false =>
              have hv : ¬ a.2 = b.2 := by simpa using hvq
              have hst : changesM (n' + 1) (a :: l.drop (i + 1)) (b :: m.drop (k + 1)) = (a.1, (some a.2, some b.2)) :: changesM n' (l.drop (i + 1)) (m.drop (k + 1)) := by rw [changesM, if_neg hab, if_neg hba, if_neg hv]
              rw [hst, List.map_cons] at hNe
              have HN : Hid (N = out ++ ([ch5 (a.1, (some a.2, some b.2))] ++ (changesM n' (l.drop (i + 1)) (m.drop (k + 1))).map ch5)) := hNe
              clear hNe hst hda hdb hcA hcB a4 b4 hboth hab hab' hba hba' hv
              go_wp2_with fail
              refine wp_region_held_drew (S := fun W => W.cell? ⟨ba, oA + i * 2, none⟩ = some (.string (strB a.1)) ∧ W.cell? ⟨ba, oA + i * 2 + 1, none⟩ = some (.string (strB a.2)) ∧ W.cell? ⟨bb, oB + k * 2, none⟩ = some (.string (strB b.1)) ∧ W.cell? ⟨bb, oB + k * 2 + 1, none⟩ = some (.string (strB b.2))) (by kernel_rfl) (kAB wr HR.out.2.2) (fun hHeld => ?_)
              refine takeK 0 hHeld ?_
              refine takeK 1 hHeld ?_
              refine takeK 2 hHeld ?_
              refine takeK 3 hHeld ?_
              refine takeK 4 hHeld ?_
              refine takeK 5 hHeld ?_
              refine takeK 6 hHeld ?_
              refine takeK 7 hHeld ?_
              refine takeK 8 hHeld ?_
              refine takeK 9 hHeld ?_
              refine takeK 10 hHeld ?_
              refine takeK 11 hHeld ?_
              refine takeK 12 hHeld ?_
              refine takeK 13 hHeld ?_
              refine takeK 14 hHeld ?_
              refine takeK 15 hHeld ?_
              refine takeK 16 hHeld ?_
              refine takeK 17 hHeld ?_
              refine takeK 18 hHeld ?_
              refine takeK 19 hHeld ?_
              refine takeK 20 hHeld ?_
              refine takeK 21 hHeld ?_
              refine takeK 22 hHeld ?_
              refine takeK 23 hHeld ?_
              refine wpAnyH_done (by kernel_rfl) ?_ _
              clear hHeld
              go_upto_region 12 with fail
              refine wp_region_held_drew (S := fun W => W.cell? ⟨ba, oA + i * 2, none⟩ = some (.string (strB a.1)) ∧ W.cell? ⟨ba, oA + i * 2 + 1, none⟩ = some (.string (strB a.2)) ∧ W.cell? ⟨bb, oB + k * 2, none⟩ = some (.string (strB b.1)) ∧ W.cell? ⟨bb, oB + k * 2 + 1, none⟩ = some (.string (strB b.2))) (by kernel_rfl) (kAB wr HR.out.2.2) (fun hHeld => ?_)
              refine takeK 0 hHeld ?_
              refine takeK 1 hHeld ?_
              refine takeK 2 hHeld ?_
              refine takeK 3 hHeld ?_
              refine takeK 4 hHeld ?_
              refine takeK 5 hHeld ?_
              refine takeK 6 hHeld ?_
              refine takeK 7 hHeld ?_
              refine takeK 8 hHeld ?_
              refine takeK 9 hHeld ?_
              refine takeK 10 hHeld ?_
              refine takeK 11 hHeld ?_
              refine takeK 12 hHeld ?_
              refine takeK 13 hHeld ?_
              refine takeK 14 hHeld ?_
              refine takeK 15 hHeld ?_
              refine takeK 16 hHeld ?_
              refine takeK 17 hHeld ?_
              refine wpAnyH_done (by kernel_rfl) ?_ _
              clear hHeld
              go_upto_region 5 with fail
              refine wp_region_held_drew (S := fun W => W.cell? ⟨ba, oA + i * 2, none⟩ = some (.string (strB a.1)) ∧ W.cell? ⟨ba, oA + i * 2 + 1, none⟩ = some (.string (strB a.2)) ∧ W.cell? ⟨bb, oB + k * 2, none⟩ = some (.string (strB b.1)) ∧ W.cell? ⟨bb, oB + k * 2 + 1, none⟩ = some (.string (strB b.2))) (by kernel_rfl) (kAB wr HR.out.2.2) (fun hHeld => ?_)
              refine takeK 0 hHeld ?_
              refine takeK 1 hHeld ?_
              refine takeK 2 hHeld ?_
              refine takeK 3 hHeld ?_
              refine takeK 4 hHeld ?_
              refine takeK 5 hHeld ?_
              refine takeK 6 hHeld ?_
              refine takeK 7 hHeld ?_
              refine takeK 8 hHeld ?_
              refine takeK 9 hHeld ?_
              refine takeK 10 hHeld ?_
              refine wpAnyH_done (by kernel_rfl) ?_ _
              clear hHeld
              go_upto_region 6 with fail
              have HQ : Hid (Below wr.heap.size wr wr.drew.drew.drew) := hide (Below.refl wr.heap.size wr).drew.drew.drew
              generalize wr.drew.drew.drew = wq at *
              obtain ⟨v', w5, hrun, hrow5, hgr5, -⟩ := app_change wq.drew w.heap.size _ out (ch5 (a.1, (some a.2, some b.2))) (own_below HR.out.2.1 HQ.out.drew) (Nat.le_trans HR.out.2.2.size HQ.out.size) (by have := HR.out.1; omega)
              rw [drew_alloc] at hrun hgr5
              rw [show wq.drew.heap.size = wq.heap.size from rfl] at hrun
              have hBq : w.heap.size ≤ wq.heap.size := Nat.le_trans HR.out.2.2.size HQ.out.size
              have hrowq : Rw w.heap.size wq 52 5 ch5C (.slice oa om oc) out := own_below HR.out.2.1 HQ.out
              have hrowA : Rw w.heap.size (wq.alloc (.cells (ch5C (ch5 (a.1, (some a.2, some b.2)))).toArray 52)).drew 52 5 ch5C (.slice oa om oc) out := World.ownsRow.alloc hrowq (.cells (ch5C (ch5 (a.1, (some a.2, some b.2)))).toArray 52)
              have hbE : Below w.heap.size w (wq.alloc (.cells (ch5C (ch5 (a.1, (some a.2, some b.2)))).toArray 52)).drew := ((HR.out.2.2.trans (HQ.out.mono HR.out.2.2.size)).alloc hBq _).drew
              have hb5 : Below w.heap.size w w5 := hbE.trans ((Below.refl _ _).grown hgr5 hbE.size (fun q hq => (World.ownsRow.lt hrowA q hq).1))
              have hS0 := kAB wq (HR.out.2.2.trans (HQ.out.mono HR.out.2.2.size))
              have hSE := kAB _ hbE
              have hS5 := kAB _ hb5
              have HRUN : Hid ((Builtin.append_ #[24, 24] 24 #[.slice oa om oc, .slice (some ⟨wq.heap.size, 0, none⟩) 1 1]).run Try.prog (wq.alloc (.cells (ch5C (ch5 (a.1, (some a.2, some b.2)))).toArray 52)).drew = .ok v' w5) := hrun
              simp only [ch5C] at HRUN
              have H5 := hide (And.intro hrow5 hb5)
              have HSE := hide (And.intro hSE hS5)
              obtain ⟨va5, vm5, vc5, rfl⟩ := row_form hrow5
              clear hrun hrow5 hgr5 hBq hrowq hrowA hbE hb5 hSE hS5
              refine wp_region_held_drew (S := fun W => W.cell? ⟨ba, oA + i * 2, none⟩ = some (.string (strB a.1)) ∧ W.cell? ⟨ba, oA + i * 2 + 1, none⟩ = some (.string (strB a.2)) ∧ W.cell? ⟨bb, oB + k * 2, none⟩ = some (.string (strB b.1)) ∧ W.cell? ⟨bb, oB + k * 2 + 1, none⟩ = some (.string (strB b.2))) (by kernel_rfl) (hS0) (fun hHeld => ?_)
              refine takeK 0 hHeld ?_
              refine takeK 1 hHeld ?_
              refine takeK 2 hHeld ?_
              refine takeK 3 hHeld ?_
              refine takeK 4 hHeld ?_
              refine takeK 5 hHeld ?_
              refine takeK 6 hHeld ?_
              refine takeK 7 hHeld ?_
              refine takeK 8 hHeld ?_
              refine takeK 9 hHeld ?_
              refine takeK 10 hHeld ?_
              refine takeK 11 hHeld ?_
              refine takeK 12 hHeld ?_
              refine takeK 13 hHeld ?_
              refine takeK 14 hHeld ?_
              refine takeK 15 hHeld ?_
              refine takeK 16 hHeld ?_
              refine onlyH (i := 17) rfl (by kernel_rfl) rfl (fun K hK => ?_)
              go_simp
              refine hK.out _ _ (HSE.out.1) (fun hHeld => ?_)
              clear hK K
              try simp only [Act.put, List.setIfInBounds_toArray, List.set_cons_zero, List.set_cons_succ]
              refine onlyH (i := 18) rfl (by kernel_rfl) rfl (fun K hK => ?_)
              refine wp_append_run (.tmp 29) (.tmp 46) 24 rfl rfl rfl HRUN.out ?_
              refine hK.out _ _ (HSE.out.2) (fun hHeld => ?_)
              clear hK K
              try simp only [Act.put, List.setIfInBounds_toArray, List.set_cons_zero, List.set_cons_succ]
              refine takeK 19 hHeld ?_
              refine wpAnyH_done (by kernel_rfl) ?_ _
              clear hHeld hS0
              go_wp2
              go_roundw
              case rel =>
                refine ⟨i + 1, k + 1, n', out ++ [ch5 (a.1, (some a.2, some b.2))], by omega, by omega, by omega, by simp; have := HR.out.1; omega, by go_num, by go_num, ?_, H5.out.1, H5.out.2⟩
                rw [HN.out]
                simp
              case measure => simp [intOf]; omega
      · obtain rfl : k = m.length := by omega
        have hkq : ((m.length : Int) == (m.length : Int)) = true := by simp
        have hst : changesM (n' + 1) (a :: l.drop (i + 1)) [] = (a.1, (some a.2, none)) :: changesM n' (l.drop (i + 1)) [] := rfl
        rw [hda, List.drop_length, hst, List.map_cons] at hNe
        have HN : Hid (N = out ++ ([ch5 (a.1, (some a.2, none))] ++ (changesM n' (l.drop (i + 1)) (m.drop m.length)).map ch5)) := by rw [List.drop_length]; exact hNe
        clear hNe hst hda hcA a4 b4 hboth
        go_wp2_with fail
        refine wp_region_held_drew (S := fun _ => True) (by kernel_rfl) (trivial) (fun hHeld => ?_)
        refine takeK 0 hHeld ?_
        refine takeK 1 hHeld ?_
        refine takeK 2 hHeld ?_
        refine takeK 3 hHeld ?_
        refine takeK 4 hHeld ?_
        refine skipK 5 hHeld ?_
        refine skipK 6 hHeld ?_
        refine skipK 7 hHeld ?_
        refine skipK 8 hHeld ?_
        refine skipK 9 hHeld ?_
        refine skipK 10 hHeld ?_
        refine skipK 11 hHeld ?_
        refine skipK 12 hHeld ?_
        refine skipK 13 hHeld ?_
        refine skipK 14 hHeld ?_
        refine skipK 15 hHeld ?_
        refine skipK 16 hHeld ?_
        refine skipK 17 hHeld ?_
        refine skipK 18 hHeld ?_
        refine skipK 19 hHeld ?_
        refine skipK 20 hHeld ?_
        refine skipK 21 hHeld ?_
        refine takeK 22 hHeld ?_
        refine takeK 23 hHeld ?_
        refine wpAnyH_done (by kernel_rfl) ?_ _
        clear hHeld
        go_upto_region 10 with fail
        have HQ : Hid (Below wr.heap.size wr wr.drew) := hide (Below.refl wr.heap.size wr).drew
        generalize wr.drew = wq at *
        obtain ⟨v', w5, hrun, hrow5, hgr5, -⟩ := app_change wq.drew w.heap.size _ out (ch5 (a.1, (some a.2, none))) (own_below HR.out.2.1 HQ.out.drew) (Nat.le_trans HR.out.2.2.size HQ.out.size) (by have := HR.out.1; omega)
        rw [drew_alloc] at hrun hgr5
        rw [show wq.drew.heap.size = wq.heap.size from rfl] at hrun
        have hBq : w.heap.size ≤ wq.heap.size := Nat.le_trans HR.out.2.2.size HQ.out.size
        have hrowq : Rw w.heap.size wq 52 5 ch5C (.slice oa om oc) out := own_below HR.out.2.1 HQ.out
        have hrowA : Rw w.heap.size (wq.alloc (.cells (ch5C (ch5 (a.1, (some a.2, none)))).toArray 52)).drew 52 5 ch5C (.slice oa om oc) out := World.ownsRow.alloc hrowq (.cells (ch5C (ch5 (a.1, (some a.2, none)))).toArray 52)
        have hbE : Below w.heap.size w (wq.alloc (.cells (ch5C (ch5 (a.1, (some a.2, none)))).toArray 52)).drew := ((HR.out.2.2.trans (HQ.out.mono HR.out.2.2.size)).alloc hBq _).drew
        have hb5 : Below w.heap.size w w5 := hbE.trans ((Below.refl _ _).grown hgr5 hbE.size (fun q hq => (World.ownsRow.lt hrowA q hq).1))
        have hS0 := kA wq (HR.out.2.2.trans (HQ.out.mono HR.out.2.2.size))
        have hSE := kA _ hbE
        have hS5 := kA _ hb5
        have HRUN : Hid ((Builtin.append_ #[24, 24] 24 #[.slice oa om oc, .slice (some ⟨wq.heap.size, 0, none⟩) 1 1]).run Try.prog (wq.alloc (.cells (ch5C (ch5 (a.1, (some a.2, none)))).toArray 52)).drew = .ok v' w5) := hrun
        simp only [ch5C] at HRUN
        have H5 := hide (And.intro hrow5 hb5)
        have HSE := hide (And.intro hSE hS5)
        obtain ⟨va5, vm5, vc5, rfl⟩ := row_form hrow5
        clear hrun hrow5 hgr5 hBq hrowq hrowA hbE hb5 hSE hS5
        refine wp_region_held_drew (S := fun W => W.cell? ⟨ba, oA + i * 2, none⟩ = some (.string (strB a.1)) ∧ W.cell? ⟨ba, oA + i * 2 + 1, none⟩ = some (.string (strB a.2))) (by kernel_rfl) (hS0) (fun hHeld => ?_)
        refine takeK 0 hHeld ?_
        refine takeK 1 hHeld ?_
        refine takeK 2 hHeld ?_
        refine takeK 3 hHeld ?_
        refine takeK 4 hHeld ?_
        refine takeK 5 hHeld ?_
        refine takeK 6 hHeld ?_
        refine takeK 7 hHeld ?_
        refine takeK 8 hHeld ?_
        refine takeK 9 hHeld ?_
        refine takeK 10 hHeld ?_
        refine takeK 11 hHeld ?_
        refine onlyH (i := 12) rfl (by kernel_rfl) rfl (fun K hK => ?_)
        go_simp
        refine hK.out _ _ (HSE.out.1) (fun hHeld => ?_)
        clear hK K
        try simp only [Act.put, List.setIfInBounds_toArray, List.set_cons_zero, List.set_cons_succ]
        refine onlyH (i := 13) rfl (by kernel_rfl) rfl (fun K hK => ?_)
        refine wp_append_run (.tmp 76) (.tmp 88) 24 rfl rfl rfl HRUN.out ?_
        refine hK.out _ _ (HSE.out.2) (fun hHeld => ?_)
        clear hK K
        try simp only [Act.put, List.setIfInBounds_toArray, List.set_cons_zero, List.set_cons_succ]
        refine takeK 14 hHeld ?_
        refine wpAnyH_done (by kernel_rfl) ?_ _
        clear hHeld hS0
        go_wp2
        go_roundw
        case rel =>
          refine ⟨i + 1, m.length, n', out ++ [ch5 (a.1, (some a.2, none))], by omega, by omega, by omega, by simp; have := HR.out.1; omega, by go_num, by go_num, ?_, H5.out.1, H5.out.2⟩
          rw [HN.out]
          simp
        case measure => simp [intOf]; omega
    · obtain rfl : i = l.length := by omega
      have hkb : k < m.length := by omega
      obtain ⟨bb, oB, rfl, hbB, hcB⟩ := b4 (by rintro rfl; simp at hkb)
      have hdb := List.drop_eq_getElem_cons hkb
      have kB : ∀ W, Below w.heap.size w W → W.cell? ⟨bb, oB + k * 2, none⟩ = some (.string (strB m[k].1)) ∧ W.cell? ⟨bb, oB + k * 2 + 1, none⟩ = some (.string (strB m[k].2)) := fun W hW =>
        ⟨(hW.cell (p := ⟨bb, oB + k * 2 + 0, none⟩) hbB).trans (hcB k hkb 0 _ rfl), (hW.cell (p := ⟨bb, oB + k * 2 + 1, none⟩) hbB).trans (hcB k hkb 1 _ rfl)⟩
      generalize m[k] = b at *
      have hkq : ((k : Int) == (m.length : Int)) = false := by simp; omega
      have hst : changesM (n' + 1) [] (b :: m.drop (k + 1)) = (b.1, (none, some b.2)) :: changesM n' [] (m.drop (k + 1)) := rfl
      rw [hdb, List.drop_length, hst, List.map_cons] at hNe
      have HN : Hid (N = out ++ ([ch5 (b.1, (none, some b.2))] ++ (changesM n' (l.drop l.length) (m.drop (k + 1))).map ch5)) := by rw [List.drop_length]; exact hNe
      clear hNe hst hdb hcB a4 b4 hboth hia
      go_wp2_with fail
      refine wp_region_held_drew (S := fun _ => True) (by kernel_rfl) (trivial) (fun hHeld => ?_)
      refine takeK 0 hHeld ?_
      refine takeK 1 hHeld ?_
      refine takeK 2 hHeld ?_
      refine takeK 3 hHeld ?_
      refine takeK 4 hHeld ?_
      refine takeK 5 hHeld ?_
      refine takeK 6 hHeld ?_
      refine takeK 7 hHeld ?_
      refine takeK 8 hHeld ?_
      refine takeK 9 hHeld ?_
      refine skipK 10 hHeld ?_
      refine skipK 11 hHeld ?_
      refine skipK 12 hHeld ?_
      refine skipK 13 hHeld ?_
      refine skipK 14 hHeld ?_
      refine skipK 15 hHeld ?_
      refine skipK 16 hHeld ?_
      refine skipK 17 hHeld ?_
      refine skipK 18 hHeld ?_
      refine skipK 19 hHeld ?_
      refine skipK 20 hHeld ?_
      refine takeK 21 hHeld ?_
      refine takeK 22 hHeld ?_
      refine takeK 23 hHeld ?_
      refine wpAnyH_done (by kernel_rfl) ?_ _
      clear hHeld
      go_upto_region 12 with fail
      refine wp_region_held_drew (S := fun _ => True) (by kernel_rfl) (trivial) (fun hHeld => ?_)
      refine takeK 0 hHeld ?_
      refine takeK 1 hHeld ?_
      refine takeK 2 hHeld ?_
      refine takeK 3 hHeld ?_
      refine takeK 4 hHeld ?_
      refine skipK 5 hHeld ?_
      refine skipK 6 hHeld ?_
      refine skipK 7 hHeld ?_
      refine skipK 8 hHeld ?_
      refine skipK 9 hHeld ?_
      refine skipK 10 hHeld ?_
      refine skipK 11 hHeld ?_
      refine skipK 12 hHeld ?_
      refine skipK 13 hHeld ?_
      refine skipK 14 hHeld ?_
      refine skipK 15 hHeld ?_
      refine takeK 16 hHeld ?_
      refine takeK 17 hHeld ?_
      refine wpAnyH_done (by kernel_rfl) ?_ _
      clear hHeld
      go_upto_region 13 with fail
      have HQ : Hid (Below wr.heap.size wr wr.drew.drew) := hide (Below.refl wr.heap.size wr).drew.drew
      generalize wr.drew.drew = wq at *
      obtain ⟨v', w5, hrun, hrow5, hgr5, -⟩ := app_change wq.drew w.heap.size _ out (ch5 (b.1, (none, some b.2))) (own_below HR.out.2.1 HQ.out.drew) (Nat.le_trans HR.out.2.2.size HQ.out.size) (by have := HR.out.1; omega)
      rw [drew_alloc] at hrun hgr5
      rw [show wq.drew.heap.size = wq.heap.size from rfl] at hrun
      have hBq : w.heap.size ≤ wq.heap.size := Nat.le_trans HR.out.2.2.size HQ.out.size
      have hrowq : Rw w.heap.size wq 52 5 ch5C (.slice oa om oc) out := own_below HR.out.2.1 HQ.out
      have hrowA : Rw w.heap.size (wq.alloc (.cells (ch5C (ch5 (b.1, (none, some b.2)))).toArray 52)).drew 52 5 ch5C (.slice oa om oc) out := World.ownsRow.alloc hrowq (.cells (ch5C (ch5 (b.1, (none, some b.2)))).toArray 52)
      have hbE : Below w.heap.size w (wq.alloc (.cells (ch5C (ch5 (b.1, (none, some b.2)))).toArray 52)).drew := ((HR.out.2.2.trans (HQ.out.mono HR.out.2.2.size)).alloc hBq _).drew
      have hb5 : Below w.heap.size w w5 := hbE.trans ((Below.refl _ _).grown hgr5 hbE.size (fun q hq => (World.ownsRow.lt hrowA q hq).1))
      have hS0 := kB wq (HR.out.2.2.trans (HQ.out.mono HR.out.2.2.size))
      have hSE := kB _ hbE
      have hS5 := kB _ hb5
      have HRUN : Hid ((Builtin.append_ #[24, 24] 24 #[.slice oa om oc, .slice (some ⟨wq.heap.size, 0, none⟩) 1 1]).run Try.prog (wq.alloc (.cells (ch5C (ch5 (b.1, (none, some b.2)))).toArray 52)).drew = .ok v' w5) := hrun
      simp only [ch5C] at HRUN
      have H5 := hide (And.intro hrow5 hb5)
      have HSE := hide (And.intro hSE hS5)
      obtain ⟨va5, vm5, vc5, rfl⟩ := row_form hrow5
      clear hrun hrow5 hgr5 hBq hrowq hrowA hbE hb5 hSE hS5
      refine wp_region_held_drew (S := fun W => W.cell? ⟨bb, oB + k * 2, none⟩ = some (.string (strB b.1)) ∧ W.cell? ⟨bb, oB + k * 2 + 1, none⟩ = some (.string (strB b.2))) (by kernel_rfl) (hS0) (fun hHeld => ?_)
      refine takeK 0 hHeld ?_
      refine takeK 1 hHeld ?_
      refine takeK 2 hHeld ?_
      refine takeK 3 hHeld ?_
      refine takeK 4 hHeld ?_
      refine takeK 5 hHeld ?_
      refine takeK 6 hHeld ?_
      refine takeK 7 hHeld ?_
      refine takeK 8 hHeld ?_
      refine takeK 9 hHeld ?_
      refine takeK 10 hHeld ?_
      refine takeK 11 hHeld ?_
      refine onlyH (i := 12) rfl (by kernel_rfl) rfl (fun K hK => ?_)
      go_simp
      refine hK.out _ _ (HSE.out.1) (fun hHeld => ?_)
      clear hK K
      try simp only [Act.put, List.setIfInBounds_toArray, List.set_cons_zero, List.set_cons_succ]
      refine onlyH (i := 13) rfl (by kernel_rfl) rfl (fun K hK => ?_)
      refine wp_append_run (.tmp 110) (.tmp 122) 24 rfl rfl rfl HRUN.out ?_
      refine hK.out _ _ (HSE.out.2) (fun hHeld => ?_)
      clear hK K
      try simp only [Act.put, List.setIfInBounds_toArray, List.set_cons_zero, List.set_cons_succ]
      refine takeK 14 hHeld ?_
      refine wpAnyH_done (by kernel_rfl) ?_ _
      clear hHeld hS0
      go_wp2
      go_roundw
      case rel =>
        refine ⟨l.length, k + 1, n', out ++ [ch5 (b.1, (none, some b.2))], by omega, by omega, by omega, by simp; have := HR.out.1; omega, by go_num, by go_num, ?_, H5.out.1, H5.out.2⟩
        rw [HN.out]
        simp
      case measure => simp [intOf]; omega
end Go.Proofs.Ytldfjpgcemfpjaa

/-
  What two maps do not have in common, by the reference. Conditions: the objects lie there; texts within reach.
-/
namespace Go.Proofs.Ytldfjpgcemfpjaa
open Go.RowKit

/-- Are both there whole? -/
def wholeB (fd : Bs → Option Bs) (a b : Bs) : Bool := (listM fd a [] []).bad == 0 && (listM fd b [] []).bad == 0 && rise ltB ((outOf (listM fd a [] [])).map (·.1)) && rise ltB ((outOf (listM fd b [] [])).map (·.1))
theorem outOf_few (fd : Bs → Option Bs) (hs : ∀ id b, fd id = some b → b.length ≤ 140737488355328) (a : Bs) : (outOf (listM fd a [] [])).length ≤ 4160 := by
  unfold outOf
  split
  · exact (listM_few fd hs a [] []).2
  · simp
set_option maxRecDepth 40000 in
set_option maxHeartbeats 1600000 in
theorem rmaps_any (w : World) (vo : Value) (objs : List Pair) (hv : Ls w.heap.size w 2 pairC vo objs) (hob : ∀ o ∈ objs, o.2.length ≤ 140737488351232) (a b : Bs) :
    Calls Try.prog 10 #[vo, .string (strB a), .string (strB b)] w fun e w' => ∃ v, e = .returned (.tuple #[v, .bool (wholeB (findO objs) a b)]) ∧ (wholeB (findO objs) a b = true → Rw w.heap.size w' 52 5 ch5C v ((chgs (outOf (listM (findO objs) a [] [])) (outOf (listM (findO objs) b [] []))).map ch5)) ∧ Below w.heap.size w w' := by
  have hsO : ∀ id b, findO objs id = some b → b.length ≤ 140737488355328 := fun id b h => findO_short hob id b h
  have hfa := outOf_few (findO objs) hsO a
  have hfb := outOf_few (findO objs) hsO b
  have hl1 := list12_any w vo objs hv hob a [] []
  rw [show strB ([] : Bs) = ⟨#[]⟩ from rfl] at hl1
  unfold wholeB
  have HV := hide (And.intro hv hob)
  obtain ⟨ao, cap, hvv, -⟩ := hv
  obtain ⟨mo, hmo⟩ : ∃ mo, mo = objs.length := ⟨_, rfl⟩
  rw [← hmo] at hvv
  subst hvv
  clear hmo hob hsO
  obtain ⟨A, hA⟩ : ∃ A, A = listM (findO objs) a [] [] := ⟨_, rfl⟩
  obtain ⟨Bm, hBm⟩ : ∃ Bm, Bm = listM (findO objs) b [] [] := ⟨_, rfl⟩
  rw [← hA] at hl1 hfa ⊢
  rw [← hBm] at hfb ⊢
  have HBm := hide hBm
  clear hA hBm
  generalize hra : rise ltB ((outOf A).map (·.1)) = ra at *
  generalize hrb : rise ltB ((outOf Bm).map (·.1)) = rb at *
  obtain ⟨WB, hWB⟩ : ∃ WB, WB = ((A.bad == 0) && (Bm.bad == 0) && ra && rb) := ⟨_, rfl⟩
  rw [← hWB]
  have HWB := hide hWB
  clear hWB
  go_enter Try.func10, Try.ntmps10
  go_wp2_with fail
  refine hl1.mono ?_
  rintro e w1 ⟨p1, s1, rfl, hp1, hs1, hb1⟩
  have hl2 := list12_any w1 _ objs ((HV.out.1.keep hb1).up hb1.size) HV.out.2 b [] []
  rw [show strB ([] : Bs) = ⟨#[]⟩ from rfl, ← HBm.out] at hl2
  obtain ⟨x1, x2, x3, rfl⟩ := row_form hp1
  obtain ⟨z1, z2, z3, rfl⟩ := row_form hs1
  have H1 := hide (And.intro hp1 hb1)
  clear hl1 hp1 hs1 hb1
  go_wp2_with fail
  refine hl2.mono ?_
  rintro e w2 ⟨p2, s2, rfl, hp2, hs2, hb2⟩
  have hB2 := H1.out.2.trans (hb2.mono H1.out.2.size)
  have hpa2 := own_below H1.out.1 hb2
  have hri1 := rising14_any w2 _ (outOf A) (ls_of_own pairC_length hpa2)
  rw [hra] at hri1
  obtain ⟨y1, y2, y3, rfl⟩ := row_form hp2
  obtain ⟨u1, u2, u3, rfl⟩ := row_form hs2
  have H2 := hide (And.intro hpa2 (And.intro hp2 hB2))
  clear hl2 hp2 hs2 hb2 hB2 hpa2
  go_wp2_with fail
  refine hri1.mono ?_
  rintro e w3 ⟨rfl, hb3⟩
  have hB3 := H2.out.2.2.trans (hb3.mono H2.out.2.2.size)
  have hpa3 := own_below H2.out.1 hb3
  have hpb3 := own_below H2.out.2.1 hb3
  have hri2 := rising14_any w3 _ (outOf Bm) (ls_of_own pairC_length hpb3)
  rw [hrb] at hri2
  have H3 := hide (And.intro hpa3 (And.intro hpb3 hB3))
  clear hri1 hb3 hB3 hpa3 hpb3
  go_wp2_with fail
  refine hri2.mono ?_
  rintro e w4 ⟨rfl, hb4⟩
  have hB4 := H3.out.2.2.trans (hb4.mono H3.out.2.2.size)
  have hpa4 := own_below H3.out.1 hb4
  have hpb4 := own_below H3.out.2.1 hb4
  have hli := lists14_any w4 (outOf A) (outOf Bm) _ _ (ls_of_own pairC_length hpa4) (ls_of_own pairC_length hpb4) (by omega)
  have H4 := hide hB4
  clear hri2 hb4 hB4 hpa4 hpb4 hra hrb
  obtain ⟨ea, hea⟩ : ∃ ea, ea = (A.bad == 0) := ⟨_, rfl⟩
  obtain ⟨eb, heb⟩ : ∃ eb, eb = (Bm.bad == 0) := ⟨_, rfl⟩
  have hea' : (A.bad == 0) = ea := hea.symm
  have heb' : (Bm.bad == 0) = eb := heb.symm
  have hna : (A.bad != 0) = !ea := by rw [hea]; rfl
  have hnb : (Bm.bad != 0) = !eb := by rw [heb]; rfl
  have HWQ := hide (HWB.out.trans (by rw [hea', heb']))
  clear hea heb hea' heb'
  cases ea with
  | false =>
    go_wp2
    go_ret2
    rw [show WB = false from HWQ.out.trans (by simp)]
    exact ⟨_, rfl, fun h => by simp at h, H4.out⟩
  | true =>
    cases eb with
    | false =>
      go_wp2
      go_ret2
      rw [show WB = false from HWQ.out.trans (by simp)]
      exact ⟨_, rfl, fun h => by simp at h, H4.out⟩
    | true =>
      cases ra with
      | false =>
        go_wp2
        go_ret2
        rw [show WB = false from HWQ.out.trans (by simp)]
        exact ⟨_, rfl, fun h => by simp at h, H4.out⟩
      | true =>
        cases rb with
        | false =>
          go_wp2
          go_ret2
          rw [show WB = false from HWQ.out.trans (by simp)]
          exact ⟨_, rfl, fun h => by simp at h, H4.out⟩
        | true =>
          go_wp2_with fail
          refine hli.mono ?_
          rintro e w5 ⟨v5, rfl, hr5, hb5⟩
          have H5 := hide (And.intro (own_down hr5 H4.out.size) (H4.out.trans (hb5.mono H4.out.size)))
          obtain ⟨t1, t2, t3, rfl⟩ := row_form hr5
          clear hli hr5 hb5
          go_wp2
          go_ret2
          rw [show WB = true from HWQ.out.trans (by simp)]
          exact ⟨_, rfl, fun _ => H5.out.1, H5.out.2⟩
end Go.Proofs.Ytldfjpgcemfpjaa

/-
  What the statements show first is as it should be. No condition.
-/
namespace Go.Proofs.Ytldfjpgcemfpjaa
open Go.RowKit

set_option maxRecDepth 40000 in
set_option maxHeartbeats 3200000 in
theorem dshown_any (w : World) : Calls Try.prog 7 #[] w fun e w' => e = .returned (.bool true) ∧ Below w.heap.size w w' := by
  have hbA : Below w.heap.size w (w.alloc (.cells #[.string ⟨#[97]⟩, .string ⟨#[49]⟩, .string ⟨#[98]⟩, .string ⟨#[50]⟩] 48)) := (Below.refl _ _).alloc (Nat.le_refl _) _
  have hbd1 := build12_any (w.alloc (.cells #[.string ⟨#[97]⟩, .string ⟨#[49]⟩, .string ⟨#[98]⟩, .string ⟨#[50]⟩] 48)) (twoV 50) _ (ls_twoV w 50)
  rw [twoV_build 50 (by decide)] at hbd1
  have hne := ids_ne
  obtain ⟨asks, hsm⟩ := shown_maps
  obtain ⟨hs1, -⟩ := two_ok 50 (by decide) (by decide +kernel)
  obtain ⟨hs2, -⟩ := two_ok 53 (by decide) (by decide +kernel)
  have hbl2 := twoV_build 53 (by decide)
  obtain ⟨o, ho⟩ : ∃ o, o = leafO (twoV 50) := ⟨_, rfl⟩
  obtain ⟨q, hq⟩ : ∃ q, q = leafO (twoV 53) := ⟨_, rfl⟩
  rw [← ho] at hbd1 hne hsm hs1
  rw [← hq] at hbl2 hne hsm hs2
  simp only at hbd1
  have hkp : keptP [o] [q] = [o, q] := by
    have hb : (o.1 == q.1) = false := by simpa using hne
    simp [keptP, layP, hb]
  have HH := hide (And.intro hbA (And.intro hsm (And.intro hs1 (And.intro hs2 (And.intro hkp hbl2)))))
  clear hbA hne hsm hs1 hs2 hkp hbl2 ho hq
  go_enter Try.func7, Try.ntmps7
  go_wp2_with fail
  refine hbd1.mono ?_
  rintro e w1 ⟨u1, rfl, hr1, hb1⟩
  have hB1 := HH.out.1.trans (hb1.mono HH.out.1.size)
  have hbB : Below w1.heap.size w1 (w1.alloc (.cells #[.string ⟨#[97]⟩, .string ⟨#[49]⟩, .string ⟨#[98]⟩, .string ⟨#[53]⟩] 48)) := (Below.refl _ _).alloc (Nat.le_refl _) _
  have hbd2 := build12_any (w1.alloc (.cells #[.string ⟨#[97]⟩, .string ⟨#[49]⟩, .string ⟨#[98]⟩, .string ⟨#[53]⟩] 48)) (twoV 53) _ (ls_twoV w1 53)
  rw [HH.out.2.2.2.2.2] at hbd2
  simp only at hbd2
  obtain ⟨ua, um, uc', rfl⟩ := row_form hr1
  have H1 := hide (And.intro hr1 (And.intro hB1 hbB))
  clear hbd1 hr1 hb1 hB1 hbB
  go_wp2_with fail
  refine hbd2.mono ?_
  rintro e w2 ⟨u2, rfl, hr2, hb2⟩
  have hB12 : Below w1.heap.size w1 w2 := H1.out.2.2.trans (hb2.mono H1.out.2.2.size)
  have hB2 := H1.out.2.1.trans (hB12.mono H1.out.2.1.size)
  have hr12 : Rw _ w2 73 2 pairC _ [o] := own_below H1.out.1 hB12
  have hkt := kept2_any w2 [o] [q] _ _ _ hr12 (by simp) (ls_of_own pairC_length hr2) (by simp)
  rw [HH.out.2.2.2.2.1] at hkt
  obtain ⟨ua2, um2, uc2, rfl⟩ := row_form hr2
  have H2 := hide hB2
  clear hbd2 hr2 hb2 hB12 hB2 hr12
  go_wp2_with fail
  refine hkt.mono ?_
  rintro e w3 ⟨u3, rfl, hr3, hb3⟩
  have hB3 := H2.out.trans (hb3.mono H2.out.size)
  obtain ⟨ua3, um3, uc3, rfl⟩ := row_form hr3
  have hfr := fromD_any w3 ua3 um3 uc3
  have hb4 : Below w3.heap.size w3 (w3.alloc (.cells #[.slice ua3 um3 uc3] 22)) := (Below.refl _ _).alloc (Nat.le_refl _) _
  have hc4 := heap_last w3 (.cells #[.slice ua3 um3 uc3] 22) _ rfl
  have hr4 := own_below hr3 hb4
  have hG := get_fromD (w2 := w3.alloc (.cells #[.slice ua3 um3 uc3] 22)) hc4 (ls_of_own (cs := pairC) (xs := [o, q]) pairC_length hr4) (by
    intro p hp
    rcases List.mem_cons.1 hp with rfl | hp
    · exact HH.out.2.2.1
    · rw [List.mem_singleton.1 hp]; exact HH.out.2.2.2.1)
  have hmp := maps_any hG (Nat.le_refl _) o.1 q.1 (Below.refl _ _) (fun σ hσ => room_all hG.short hσ) (fun σ hσ => by
    have hbn := goDownM_bnd hG.short hσ
    have h1 := hbn.wt 0
    have h2 := hbn.wt 1
    omega)
  rw [HH.out.2.1] at hmp
  simp only [List.map_cons, List.map_nil] at hmp
  have H4 := hide (hB3.trans (hb4.mono hB3.size))
  clear hkt hr3 hb3 hB3 hb4 hc4 hr4 hG
  go_wp2_with fail
  refine hfr.mono ?_
  rintro e w4 ⟨rfl, rfl⟩
  go_wp2_with fail
  refine hmp.mono ?_
  rintro e w5 ⟨⟨v5, rfl, hr5⟩, -, hb5⟩
  have H5 := hide (H4.out.trans (hb5.mono H4.out.size))
  obtain ⟨a5, c5, hv5, -, -, h5⟩ := ls_of_own (cs := ch5C) (k := 5) (fun _ => rfl) hr5
  obtain ⟨b5, off5, rfl, -, hc5⟩ := h5 (by simp)
  subst hv5
  have y0 := hc5 0 (by simp) 0 _ rfl
  have y1 := hc5 0 (by simp) 1 _ rfl
  have y2 := hc5 0 (by simp) 2 _ rfl
  have y3 := hc5 0 (by simp) 3 _ rfl
  have y4 := hc5 0 (by simp) 4 _ rfl
  simp only [Nat.add_zero, Nat.zero_mul, List.getElem_cons_zero, ch5, Option.getD_some, Option.isSome_some] at y0 y1 y2 y3 y4
  have heq := equal_Change w5 ([98], ([50], ([53], (true, true)))) ([98], ([50], ([53], (true, true))))
  have e98 : strB [98] = ⟨#[98]⟩ := rfl
  have e50 : strB [50] = ⟨#[50]⟩ := rfl
  have e53 : strB [53] = ⟨#[53]⟩ := rfl
  simp only [ch5C, e98, e50, e53, decide_true] at heq y0 y1 y2
  simp only [List.length_singleton]
  clear hmp hfr hr5 hb5 h5 hc5
  go_wp2
  go_ret
  exact ⟨rfl, H5.out⟩
end Go.Proofs.Ytldfjpgcemfpjaa

/-
  DiffMaps, walked. Conditions: the objects lie there.
-/
namespace Go.Proofs.Ytldfjpgcemfpjaa
open Go.RowKit

/-- No error, or one of the two. -/
def Er2 (e : Int) : Prop := e = 0 ∨ e = 3 ∨ e = 122
section
variable {fd : Bs → Option Bs} {σ : Cm}
theorem askM_er (k : Link) (level : Int) : Er2 (askM fd k level).1 := by
  unfold askM
  split
  · exact .inr (.inl rfl)
  · split
    · exact .inr (.inr rfl)
    · split
      · exact .inl rfl
      · exact .inr (.inr rfl)
theorem meetM_er (i : Nat) (k : Link) (level : Int) (body : Option NodeM) : Er2 (meetM σ i k level body).1 := by
  unfold meetM
  split
  · exact .inr (.inr rfl)
  · exact .inl rfl
theorem kidsM_er (i : Nat) (level : Int) : ∀ (ks : List Link) (σ : Cm), Er2 (kidsM i level ks σ).1
  | [], _ => .inl rfl
  | k :: r, σ => by
    rw [kidsM]
    split
    · exact meetM_er i k level none
    · exact kidsM_er i level r _
theorem intoM_er (i : Nat) (id : Bs) : Er2 (intoM fd σ i id).1 := by
  unfold intoM
  split
  · unfold readM
    split
    · exact .inl rfl
    · split
      · exact askM_er _ _
      · split
        · exact .inr (.inr rfl)
        · exact .inl rfl
  · unfold tellM
    split
    · exact .inr (.inr rfl)
    · exact kidsM_er _ _ _ _
theorem throughM_er (i : Nat) : ∀ (ks : List Bs) (σ : Cm), Er2 (throughM fd i ks σ).1
  | [], _ => .inl rfl
  | x :: r, σ => by
    rw [throughM]
    split
    · exact throughM_er i r σ
    · split
      · exact intoM_er i x
      · exact throughM_er i r _
theorem downM_er : ∀ (l : Nat) (σ : Cm), Er2 (downM fd l σ).1
  | 0, _ => .inl rfl
  | l + 1, σ => by
    rw [downM]
    split
    · unfold bothM
      split
      · exact throughM_er _ _ _
      · exact throughM_er _ _ _
    · exact downM_er l _
theorem beginM_er (i : Nat) (root : Bs) : Er2 (beginM fd σ i root).1 := by
  unfold beginM
  split
  · exact askM_er _ _
  · exact meetM_er _ _ _ _
theorem mapsM_er (a b : Bs) : Er2 (mapsM fd a b).1 ∧ ((mapsM fd a b).1 ≠ 0 → (mapsM fd a b).2.1 = []) := by
  have h : Er2 (goDownM fd a b).1 := by
    unfold goDownM
    split
    · unfold rootsM
      split
      · exact beginM_er _ _
      · exact beginM_er _ _
    · exact downM_er _ _
  unfold mapsM
  split
  · exact ⟨.inl rfl, fun h => absurd rfl h⟩
  · split
    · exact ⟨h, fun _ => rfl⟩
    · exact ⟨.inl rfl, fun h => absurd rfl h⟩
theorem mapsM_same_whole (hs : ∀ id b, fd id = some b → b.length ≤ 140737488355328) {a b : Bs} (h : wholeB fd a b = true) : (mapsM fd a b).1 = 0 ∧ (mapsM fd a b).2.1 = chgs (outOf (listM fd a [] [])) (outOf (listM fd b [] [])) := by
  unfold wholeB at h
  simp only [Bool.and_eq_true, beq_iff_eq] at h
  obtain ⟨⟨⟨h1, h2⟩, h3⟩, h4⟩ := h
  have e1 : outOf (listM fd a [] []) = (listM fd a [] []).out := if_pos h1
  have e2 : outOf (listM fd b [] []) = (listM fd b [] []).out := if_pos h2
  rw [e1] at h3 ⊢
  rw [e2] at h4 ⊢
  exact mapsM_whole hs h1 h2 h3 h4
end
set_option maxRecDepth 40000 in
set_option maxHeartbeats 1600000 in
theorem diffMaps_any (w : World) (vo : Value) (objs : List Pair) (hv : Ls w.heap.size w 2 pairC vo objs) (hob : ∀ o ∈ objs, o.2.length ≤ 140737488351232) (a b : Bs) :
    Calls Try.prog 3 #[vo, .string (strB a), .string (strB b)] w fun e w' => e = .returned (.bool true) ∧ Below w.heap.size w w' := by
  have hvf := hv
  obtain ⟨ao, cap, hvv, -⟩ := hvf
  obtain ⟨m, hm⟩ : ∃ m, m = objs.length := ⟨_, rfl⟩
  rw [← hm] at hvv
  subst hvv
  clear hm
  have HV := hide (And.intro hv hob)
  have hsh := dshown_any w
  have hsO : ∀ id b, findO objs id = some b → b.length ≤ 140737488355328 := fun id b h => findO_short hob id b h
  have hM := hide (And.intro (mapsM_er (fd := findO objs) a b) (fun h : wholeB (findO objs) a b = true => mapsM_same_whole hsO h))
  clear hv hob hsO
  go_enter Try.func3, Try.ntmps3
  go_wp2_with fail
  refine hsh.mono ?_
  rintro e w1 ⟨rfl, hb1⟩
  have hfr := fromD_any w1 ao m cap
  have hb2 : Below w1.heap.size w1 (w1.alloc (.cells #[.slice ao m cap] 22)) := (Below.refl _ _).alloc (Nat.le_refl _) _
  have hc2 := heap_last w1 (.cells #[.slice ao m cap] 22) _ rfl
  have hB2 := hb1.trans (hb2.mono hb1.size)
  have hG := get_fromD hc2 ((HV.out.1.keep hB2).up hB2.size) HV.out.2
  have hmp := maps_any hG (Nat.le_refl _) a b (Below.refl _ _) (fun σ hσ => room_all hG.short hσ) (fun σ hσ => by
    have hbn := goDownM_bnd hG.short hσ
    have h1 := hbn.wt 0
    have h2 := hbn.wt 1
    omega)
  have H2 := hide hB2
  clear hsh hb1 hb2 hc2 hB2 hG
  generalize mapsM (findO objs) a b = M at *
  obtain ⟨me, ml, mk⟩ := M
  simp only at hmp
  go_wp2_with fail
  refine hfr.mono ?_
  rintro e w2 ⟨rfl, rfl⟩
  go_wp2_with fail
  refine hmp.mono ?_
  rintro e w3 ⟨⟨v3, rfl, hr3⟩, -, hb3⟩
  have hB3 := H2.out.trans (hb3.mono H2.out.size)
  have hrm := rmaps_any w3 _ objs ((HV.out.1.keep hB3).up hB3.size) HV.out.2 a b
  obtain ⟨ra, rm, rc, rfl⟩ := row_form hr3
  have hrm0 : ml = [] → rm = 0 := fun h => by
    obtain ⟨q1, q2, q3, -⟩ := own_form hr3
    injection q3 with _ q3
    rw [q3, h]
    rfl
  have H3 := hide (And.intro hr3 hB3)
  have H0 := hide hrm0
  clear hfr hmp hr3 hb3 hB3 hrm0
  generalize chgs (outOf (listM (findO objs) a [] [])) (outOf (listM (findO objs) b [] [])) = C at *
  generalize wholeB (findO objs) a b = wh at *
  go_wp2_with fail
  refine hrm.mono ?_
  rintro e w4 ⟨v4, rfl, hr4, hb4⟩
  have H4 := hide (H3.out.2.trans (hb4.mono H3.out.2.size))
  have hr34 := own_below H3.out.1 hb4
  clear hrm hb4
  cases wh with
  | false =>
    clear hr4 hr34
    obtain ⟨⟨h1, h2⟩, -⟩ := hM.out
    try simp only at h1 h2
    rcases h1 with rfl | rfl | rfl
    · clear h2
      go_wp2
      go_ret
      exact ⟨rfl, H4.out⟩
    · obtain rfl := H0.out (h2 (by decide))
      clear h2
      go_wp2
      go_ret
      exact ⟨rfl, H4.out⟩
    · obtain rfl := H0.out (h2 (by decide))
      clear h2
      go_wp2
      go_ret
      exact ⟨rfl, H4.out⟩
  | true =>
    obtain ⟨h1, h2⟩ := hM.out.2 rfl
    try simp only at h1 h2
    subst h1
    subst h2
    have hr4 := hr4 rfl
    have hsa := sameChanges_any w4 (ml.map ch5) _ _ (ls_of_own (cs := ch5C) (k := 5) (fun _ => rfl) hr34) (ls_of_own (cs := ch5C) (k := 5) (fun _ => rfl) hr4)
    obtain ⟨t1, t2, t3, rfl⟩ := row_form hr4
    clear hr4 hr34
    go_wp2_with fail
    refine hsa.mono ?_
    rintro e w5 ⟨rfl, hb5⟩
    have H5 := hide (H4.out.trans (hb5.mono H4.out.size))
    clear hsa hb5
    go_wp2
    go_ret
    exact ⟨rfl, H5.out⟩
end Go.Proofs.Ytldfjpgcemfpjaa
