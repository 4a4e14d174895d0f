/-
  A key found by the reference. Conditions: the objects lie there; texts within reach.
-/
import Derived.Test.YtimbleaafoiidaaGreatDoorF38PFind
namespace Go.Proofs.YtimbleaafoiidaaGreatDoor
open Go.RowKit

theorem lss_strF (t : TypeId) (a b : Bs) : binOp .lss t (.string (strB a)) (.string (strB b)) = pure (.bool (ltB a b)) := by simp [binOp, Op.stringOp, toLr, ltB]
theorem results_tmp4 {fn : Func} {t u v x : Tmp} (h : fn.results = #[.tmp t, .tmp u, .tmp v, .tmp x]) (tmps : Array Value) (P : Program) (w : World) :
    (results fn tmps).run P w = .ok (.tuple #[tmps.getD t undef, tmps.getD u undef, tmps.getD v undef, tmps.getD x undef]) w := by
  simp [results, h]
set_option maxRecDepth 40000 in
theorem rfind_no (w : World) (vo : Value) (root key : Bs) (hk : isKeyB key = false) :
    Calls Tryz.prog 15 #[vo, .string (strB root), .string (strB key)] w fun e w' => e = .returned (.tuple #[.string (strB []), .bool false, .slice none 0 0, .int .i64 2]) ∧ w' = w := by
  have hs := strB_size key
  unfold isKeyB at hk
  by_cases h1 : key.length < 1
  · have t1 : decide ((key.length : Int) < 1) = true := decide_eq_true (by omega)
    clear hk
    go_enter Tryz.func15, Tryz.ntmps15
    go_wp2
    (try simp only [Exit.inBlock, Exit.then]); refine bodyPost_ret (results_tmp4 rfl _ _ _) rfl ?_
    exact ⟨rfl, rfl⟩
  · have t1 : decide ((key.length : Int) < 1) = false := decide_eq_false (by omega)
    have t2 : decide ((64 : Int) < (key.length : Int)) = true := by simp at hk; exact decide_eq_true (by omega)
    clear hk
    go_enter Tryz.func15, Tryz.ntmps15
    go_wp2
    (try simp only [Exit.inBlock, Exit.then]); refine bodyPost_ret (results_tmp4 rfl _ _ _) rfl ?_
    exact ⟨rfl, rfl⟩
/-- How far a level is from the end. -/
def lvMore (v : Value) : Nat := if intOf v < 0 then 100 else (intOf v).toNat
set_option maxRecDepth 40000 in
set_option maxHeartbeats 3200000 in
theorem rfind_any (w : World) (vo : Value) (objs : List Pair) (hv : Ls w.heap.size w 2 pairC vo objs) (hob : ∀ o ∈ objs, o.2.length ≤ 140737488351232) (root key : Bs) (hkey : isKeyB key = true) :
    Calls Tryz.prog 15 #[vo, .string (strB root), .string (strB key)] w fun e w' => ∃ va, e = .returned (.tuple #[.string (strB (findF (findO objs) root key []).1), .bool (findF (findO objs) root key []).2.1, va, .int .i64 (findF (findO objs) root key []).2.2.2]) ∧ Rw w.heap.size w' 9 1 idC va (findF (findO objs) root key []).2.2.1 ∧ Below w.heap.size w w' := by
  have hs := strB_size key
  have hkl : 1 ≤ key.length ∧ key.length ≤ 64 := by unfold isKeyB at hkey; simpa using hkey
  have t1 : decide ((key.length : Int) < 1) = false := decide_eq_false (by omega)
  have t2 : decide ((64 : Int) < (key.length : Int)) = false := decide_eq_false (by omega)
  obtain ⟨R, hR⟩ : ∃ R, R = findF (findO objs) root key [] := ⟨_, rfl⟩
  rw [← hR]
  have hR2 : R = restM (findO objs) key 22 (askM (findO objs) (rootK root) (-1)) ([] ++ [root]) := by rw [hR]; unfold findF; rw [if_neg (by rw [hkey]; simp)]
  have HV := hide hv
  have HOB := hide hob
  have HR := hide hR2
  have hsh := fun id b h => findO_short hob id b h
  have HSH := hide hsh
  obtain ⟨oa, oc, rfl, -⟩ := ls_none hv
  have hb0 : Below w.heap.size w (w.alloc (.cells #[.string ⟨#[]⟩, .string (strB root), .int .i64 0] 66)) := (Below.refl _ _).alloc (Nat.le_refl _) _
  have hx0 := heap_last w (.cells #[.string ⟨#[]⟩, .string (strB root), .int .i64 0] 66) _ rfl
  have H0 := hide (And.intro hb0 hx0)
  have tk := toL key
  clear hb0 hx0 hv hob hR hR2 hkey hkl hsh
  go_enter Tryz.func15, Tryz.ntmps15
  go_wp2_with fail
  go_loopw [10, 12] (fun t u wr => ∃ (k : Link) (level : Int) (a : List Bs) (d : Nat), u = .int .i64 level ∧ Rw w.heap.size wr 9 1 idC t a ∧ wr.heap[w.heap.size]? = some (.cells #[.string (strB k.1), .string (strB k.2.1), .int .i64 k.2.2] 66) ∧ R = restM (findO objs) key d (askM (findO objs) k level) (a ++ [k.2.1]) ∧ (level = -1 ∧ d = 22 ∨ 0 ≤ level ∧ level ≤ 20 ∧ level < d) ∧ (0 ≤ level → rlinkOk k = true) ∧ In64 k.2.2 ∧ 1 ≤ d ∧ a.length + d ≤ 30 ∧ Below w.heap.size w wr)
    (fun _ u _ => lvMore u)
  case atStart => exact ⟨rootK root, -1, [], 22, rfl, World.ownsRow_nil _ _ _ _, H0.out.2, HR.out, .inl ⟨rfl, rfl⟩, fun h => absurd h (by omega), by unfold In64; simp, by omega, by simp, H0.out.1⟩
  case round =>
    clear HR H0
    obtain ⟨k, level, a, d, rfl, hrow, hx, hRd, hlv, hrl, h64, hd1, hal, hb⟩ := hrel
    obtain ⟨va', w1, hrun, hrow1, hgr, -⟩ := app_id wr w.heap.size _ a k.2.1 hrow hb.size (by omega)
    have hrowA := World.ownsRow.alloc hrow (.cells #[.string (strB k.2.1)] 9)
    have hxA := (heap_past wr (.cells #[.string (strB k.2.1)] 9) _ (lt_of_heap hx)).trans hx
    have hx1 := grow_keep hrowA hgr hxA (by decide)
    have hb1 : Below w.heap.size w w1 := (hb.alloc hb.size _).trans ((Below.refl _ _).grown hgr (by simp; have := hb.size; omega) (fun q hq => (hrowA.lt q hq).1))
    have hs1 := hb1.size
    have c1 := cell_of_row wr w.heap.size 1 _ _ _ hx
    have e0 := cell_of_row w1 w.heap.size 0 _ _ _ hx1
    have e1 := cell_of_row w1 w.heap.size 1 _ _ _ hx1
    have e2 := cell_of_row w1 w.heap.size 2 _ _ _ hx1
    simp only [List.getElem?_toArray, List.getElem?_cons_zero, List.getElem?_cons_succ] at c1 e0 e1 e2
    have hnode := node_any w1 (.slice oa objs.length oc) objs ((HV.out.keep hb1).up hs1) HOB.out k h64 level (by omega) (by omega)
    have hok := fun h => askM_ok (fd := findO objs) (k := k) (level := level) HSH.out h
    obtain ⟨er, n, hern⟩ : ∃ er n, askM (findO objs) k level = (er, n) := ⟨_, _, rfl⟩
    rw [hern] at hnode hRd hok
    unfold nodeSaid at hnode
    simp only at hnode hok
    have HRUN := hide hrun
    have H1 := hide (And.intro hrow1 (And.intro hx1 hb1))
    have HRD := hide (And.intro hRd hok)
    obtain ⟨ra, rm, rc, rfl⟩ := row_form hrow
    obtain ⟨ra', rm', rc', rfl⟩ := row_form hrow1
    clear hrow hx hRd hb hrun hrow1 hgr hrowA hxA hx1 hb1 hok hern
    go_wp2_with (at_builtin; refine wpList_plain rfl (fun K hK => wp_append_run (.tmp 27) (.tmp 30) 32 rfl rfl rfl HRUN.out (hK _ _ ?_)))
    go_wp2_with fail
    refine hnode.mono ?_
    rintro e w2 ⟨⟨vp, vk, rfl, hrp, hrk⟩, hb2⟩
    have hx2 := (hb2.block _ (lt_of_heap H1.out.2.1)).trans H1.out.2.1
    have hlw2 := hide (Nat.ne_of_gt (lt_of_heap hx2))
    have hrow2 := own_below H1.out.1 hb2
    have hB2 := H1.out.2.2.trans (hb2.mono H1.out.2.2.size)
    have hs2 := hb2.size
    obtain ⟨pa, pm, pc, rfl⟩ := row_form hrp
    obtain ⟨ka, km, kc, rfl⟩ := row_form hrk
    have hb3 : Below w2.heap.size w2 (w2.alloc (.cells #[.slice pa pm pc, .int .i64 n.1, .slice ka km kc] 94)) := (Below.refl _ _).alloc (Nat.le_refl _) _
    have hy3 := heap_last w2 (.cells #[.slice pa pm pc, .int .i64 n.1, .slice ka km kc] 94) _ rfl
    have hx3 := (hb3.block _ (lt_of_heap hx2)).trans hx2
    have hrow3 := own_below hrow2 hb3
    have hB3 := hB2.trans (hb3.mono hB2.size)
    have hLk := ls_of_own linkC_length (own_below hrk hb3)
    have hLp := ls_of_own pairC_length (own_below hrp hb3)
    generalize hw3 : w2.alloc (.cells #[.slice pa pm pc, .int .i64 n.1, .slice ka km kc] 94) = w3 at *
    have n0 := cell_of_row w3 w2.heap.size 0 _ _ _ hy3
    have n1 := cell_of_row w3 w2.heap.size 1 _ _ _ hy3
    have n2 := cell_of_row w3 w2.heap.size 2 _ _ _ hy3
    simp only [List.getElem?_toArray, List.getElem?_cons_zero, List.getElem?_cons_succ] at n0 n1 n2
    have H3 := hide (And.intro hrow3 (And.intro hx3 hB3))
    obtain ⟨la, lc, hlp1, p1, p2, p4⟩ := hLp
    obtain ⟨ja, jc, hlk1, k1, k2, k4⟩ := hLk
    injection hlp1 with x1 x2 x3
    injection hlk1 with x4 x5 x6
    subst x1 x2 x3 x4 x5 x6
    unfold maxLen at p2 k2
    clear hnode hb2 hx2 hrow2 hB2 hb3 hy3 hx3 hrow3 hB3 hrp hrk c1 e0 e1 e2 H1 HRUN
    by_cases he : er = 0
    · have q0 : (er != 0) = false := by rw [he]; rfl
      obtain ⟨hN, hfit⟩ := HRD.out.2 he
      by_cases hl0 : n.1 = 0
      · have l0 : (n.1 == 0) = true := by rw [hl0]; rfl
        have hRv := HRD.out.1.trans (restM_leaf (a := (er, n)) hd1 he hl0)
        have HRV := hide hRv
        clear hRv he hl0 hN hfit HRD k4
        go_wp2_with fail
        go_loopw [15] (fun t wr' => ∃ j : Nat, j ≤ n.2.1.length ∧ t = .int .i64 j ∧ (∀ o ∈ n.2.1.take j, (fun q : Pair => q.1 == key) o = false) ∧ w3 = wr')
          (fun t _ => n.2.1.length - (intOf t).toNat)
        case atStart => exact ⟨0, by omega, rfl, by simp, rfl⟩
        case round =>
          obtain ⟨j, hj, rfl, hno, rfl⟩ := hrel
          by_cases hlt : j < n.2.1.length
          · obtain ⟨b, off, rfl, hbB, hc⟩ := p4 (by intro e; rw [e] at hlt; simp at hlt)
            have d0 := hc j hlt 0 _ rfl
            have d1 := hc j hlt 1 _ rfl
            simp only [Nat.add_zero] at d0
            have hit := fun h => find_at (f := fun q : Pair => q.1 == key) hlt h hno
            have miss := fun h => take_no (f := fun q : Pair => q.1 == key) hlt h hno
            generalize n.2.1[j] = x at *
            have tx := toL x.1
            have HHM := hide (And.intro hit miss)
            clear hit miss hno hc p4
            cases hlb : (x.1 == key) with
            | true =>
              have hE := HHM.out.1 hlb
              have HE := hide (HRV.out.trans (by show leafF (n.2.1.find? (fun q : Pair => q.1 == key)) _ = (x.2, true, a ++ [k.2.1], 0); rw [hE]; rfl))
              clear hE
              go_wp2
              (try simp only [Exit.inBlock, Exit.then]); refine bodyPost_ret (results_tmp4 rfl _ _ _) rfl ?_
              rw [HE.out]
              exact ⟨_, rfl, H3.out.1, H3.out.2.2⟩
            | false =>
              have HE := hide (HHM.out.2 hlb)
              go_wp2
              go_roundw
              case rel => exact ⟨j + 1, by omega, by go_num, HE.out, trivial⟩
              case measure => simp [intOf]; omega
          · obtain rfl : j = n.2.1.length := by omega
            rw [List.take_length] at hno
            have hE := find_no (f := fun q : Pair => q.1 == key) hno
            have HE := hide (HRV.out.trans (by show leafF (n.2.1.find? (fun q : Pair => q.1 == key)) _ = ([], false, a ++ [k.2.1], 0); rw [hE]; rfl))
            clear hE hno p4
            go_wp2
            (try simp only [Exit.inBlock, Exit.then]); refine bodyPost_ret (results_tmp4 rfl _ _ _) rfl ?_
            rw [HE.out]
            exact ⟨_, rfl, H3.out.1, H3.out.2.2⟩
      · have l0 : (n.1 == 0) = false := by simpa using hl0
        have hlo := hN.lo
        have hhi := hN.hi
        have hnl : n.1 = level ∨ level = -1 := by
          rcases hfit with h | h
          · right; omega
          · left; exact (fitsM_count h).1
        have HN := hide (And.intro hN (And.intro he hl0))
        clear hN he hl0 hfit p4
        go_wp2_with fail
        go_loopw [16] (fun t wr' => ∃ j : Nat, j ≤ n.2.2.length ∧ t = .int .i64 j ∧ (∀ o ∈ n.2.2.take j, (fun q : Link => !ltB q.1 key) o = false) ∧ w3 = wr')
          (fun t _ => n.2.2.length - (intOf t).toNat)
        case atStart => exact ⟨0, by omega, rfl, by simp, rfl⟩
        case round =>
          obtain ⟨j, hj, rfl, hno, rfl⟩ := hrel
          by_cases hlt : j < n.2.2.length
          · obtain ⟨b, off, rfl, hbB, hc⟩ := k4 (by intro e; rw [e] at hlt; simp at hlt)
            have d0 := hc j hlt 0 _ rfl
            have d1 := hc j hlt 1 _ rfl
            have d2 := hc j hlt 2 _ rfl
            simp only [Nat.add_zero] at d0
            have hit := fun h => find_at (f := fun q : Link => !ltB q.1 key) hlt h hno
            have miss := fun h => take_no (f := fun q : Link => !ltB q.1 key) hlt h hno
            have hxl := HN.out.1.links.2.1 n.2.2[j] (by simp)
            generalize n.2.2[j] = x at *
            have hls := lss_strF 9 x.1 key
            have HHM := hide (And.intro hit miss)
            have hj2 : ((j : Int) == (n.2.2.length : Int)) = false := by rw [beq_eq_false_iff_ne]; omega
            clear hit miss hno hc k4
            cases hlb : ltB x.1 key with
            | true =>
              rw [hlb] at hls
              have HE := hide (HHM.out.2 (by simp only [hlb]; rfl))
              clear hj2
              go_wp2
              go_roundw
              case rel => exact ⟨j + 1, by omega, by go_num, HE.out, trivial⟩
              case measure => simp [intOf]; omega
            | false =>
              rw [hlb] at hls
              have hE := HHM.out.1 (by simp only [hlb]; rfl)
              obtain ⟨d', rfl⟩ : ∃ e, d = e + 1 := ⟨d - 1, by omega⟩
              have hRs := HRD.out.1.trans (restM_step (a := (er, n)) HN.out.2.1 HN.out.2.2 hE)
              have hm := ((rlinkOk_iff x).1 hxl).2.2
              have h64' : In64 x.2.2 := by unfold In64; omega
              have HRS := hide hRs
              have HXL := hide hxl
              have hn1 : 1 ≤ n.1 := by have := HN.out.2.2; omega
              have hlv2 : 0 ≤ n.1 - 1 ∧ n.1 - 1 ≤ 20 ∧ n.1 - 1 < (d' : Int) := by omega
              have hme : lvMore (.int .i64 (n.1 - 1)) < lvMore (.int .i64 level) := by
                show (if n.1 - 1 < 0 then 100 else (n.1 - 1).toNat) < (if level < 0 then 100 else level.toNat)
                split <;> split <;> omega
              have HME := hide hme
              have hx3 := H3.out.2.1
              have y0 := cell_of_row w3 w.heap.size 0 _ _ _ hx3
              have y1 := cell_of_row w3 w.heap.size 1 _ _ _ hx3
              have y2 := cell_of_row w3 w.heap.size 2 _ _ _ hx3
              simp only [List.getElem?_toArray, List.getElem?_cons_zero, List.getElem?_cons_succ] at y0 y1 y2
              have f0 := frozen0 (j := 0) hx3
              have f1 := frozen0 (j := 1) hx3
              have f2 := frozen0 (j := 2) hx3
              have hx4 := heap_set3all (u0 := .string (strB x.1)) (u1 := .string (strB x.2.1)) (u2 := .int .i64 x.2.2) hx3
              have hr4 := own_setCell (j := 2) (own_setCell (j := 1) (own_setCell (j := 0) H3.out.1 hx3 (by decide) (.string (strB x.1))) (heap_set3a hx3) (by decide) (.string (strB x.2.1))) (heap_set3 (heap_set3a hx3)) (by decide) (.int .i64 x.2.2)
              have hb4 := ((H3.out.2.2.setCell (p := ⟨w.heap.size, 0, none⟩) (Nat.le_refl _) (.string (strB x.1))).setCell (p := ⟨w.heap.size, 1, none⟩) (Nat.le_refl _) (.string (strB x.2.1))).setCell (p := ⟨w.heap.size, 2, none⟩) (Nat.le_refl _) (.int .i64 x.2.2)
              have hy4 : (((w3.setCell ⟨w.heap.size, 0, none⟩ (.string (strB x.1))).setCell ⟨w.heap.size, 1, none⟩ (.string (strB x.2.1))).setCell ⟨w.heap.size, 2, none⟩ (.int .i64 x.2.2)).cell? ⟨w2.heap.size, 1, none⟩ = some (.int .i64 n.1) := by
                have hne : w2.heap.size ≠ w.heap.size := hlw2.out
                rw [cell_setOther hne, cell_setOther hne, cell_setOther hne]
                exact n1
              have H4 := hide (And.intro hx4 (And.intro hr4 hb4))
              have hwi : IntKind.i64.wrap (n.1 - 1) = n.1 - 1 := by rw [IntKind.wrap_i64]; omega
              clear hE hRs hxl hm hme hx3 hx4 hr4 hb4
              go_wp2
              go_roundw
              case rel => exact ⟨x, n.1 - 1, a ++ [k.2.1], d', rfl, H4.out.2.1, H4.out.1, HRS.out, .inr hlv2, fun _ => HXL.out, h64', by omega, by simp; omega, H4.out.2.2⟩
              case measure => exact HME.out
          · obtain rfl : j = n.2.2.length := by omega
            rw [List.take_length] at hno
            have hE := find_no (f := fun q : Link => !ltB q.1 key) hno
            have HE := hide (HRD.out.1.trans (restM_none (a := (er, n)) hd1 HN.out.2.1 HN.out.2.2 hE))
            have hj2 : ((n.2.2.length : Int) == (n.2.2.length : Int)) = true := by simp
            clear hE hno k4
            go_wp2
            (try simp only [Exit.inBlock, Exit.then]); refine bodyPost_ret (results_tmp4 rfl _ _ _) rfl ?_
            rw [HE.out]
            exact ⟨_, rfl, H3.out.1, H3.out.2.2⟩
    · have q0 : (er != 0) = true := by simpa using he
      have HE := hide (HRD.out.1.trans (restM_err (a := (er, n)) hd1 he))
      clear he p4 k4
      go_wp2
      (try simp only [Exit.inBlock, Exit.then]); refine bodyPost_ret (results_tmp4 rfl _ _ _) rfl ?_
      rw [HE.out]
      exact ⟨_, rfl, H3.out.1, H3.out.2.2⟩
end Go.Proofs.YtimbleaafoiidaaGreatDoor
