/-
  Texts joined: PShown, PSame, PAsked, PFinds.
-/
import Derived.Test.YtimbleaafoiidaaGreatDoorF38PFind
import Derived.Test.YtimbleaafoiidaaGreatDoorF42PBuild
import Derived.Test.YtimbleaafoiidaaGreatDoorF23PRow
import Derived.Test.YtimbleaafoiidaaGreatDoorF29PLay0
import Derived.Test.YtimbleaafoiidaaGreatDoorF21PPlain
import Derived.Test.YtimbleaafoiidaaGreatDoorF39PRFind
/-
  What the statements show first. Condition: the table holds its numbers.
-/
namespace Go.Proofs.YtimbleaafoiidaaGreatDoor
open Go.RowKit

theorem enters_own {P : Program} {f : FuncId} {fn : Func} {c : Code} (h1 : P.funcs[f]? = some fn) (h2 : (fn.name == "runtime.NumGoroutine") = false) (h3 : fn.body = some c) (args : Array Value) (w : World) : (callFunc f args).run P w = .ok (.enter f args) w := by
  have h4 : fn.name ≠ "runtime.NumGoroutine" := by simpa using h2
  simp [callFunc, h1, h4, h3, mark]
/-- The get of a list that lies there. -/
theorem get_from {w2 : World} {c : Nat} {v : Value} {objs : List Pair} (ts : List TypeId) (hn : 83 ∈ ts) (hc : w2.heap[c]? = some (.cells #[v] 25)) (hv : Ls w2.heap.size w2 2 pairC v objs) (hs : ∀ o ∈ objs, o.2.length ≤ 140737488351232) :
    GetOk 44 #[.pointer (some ⟨c, 0, none⟩)] (findO objs) w2.heap.size ts (fun W _ => Below w2.heap.size w2 W) where
  eg := enters_own Tryz.func44 (by kernel_rfl) rfl
  le W a h := h.size
  mv h hm := h.trans hm.b
  call W a id h _ := (from1_any W c v objs id ((h.block c (lt_of_heap hc)).trans hc) ((hv.keep h).up h.size)).mono fun e w' hq => ⟨hq.1, hq.2 ▸ h, hq.2 ▸ Mv.refl _ _ _ _, hq.2 ▸ KO.refl _⟩
  node := hn
  short id b h := findO_short hs id b h
set_option maxRecDepth 20000 in
theorem from_any (w : World) (ao : Option Addr) (m c : Nat) : Calls Tryz.prog 20 #[.slice ao m c] w fun e w' => e = .returned (.func (.func 44) #[] #[.pointer (some ⟨w.heap.size, 0, none⟩)]) ∧ w' = w.alloc (.cells #[.slice ao m c] 25) := by
  have hmf : ∀ (fn : Fn) (first cap : Array Value) (w : World), (Instr.makeFunc fn first cap).run Tryz.prog w = .ok (.func fn first cap) w := fun _ _ _ _ => rfl
  go_enter Tryz.func20, Tryz.ntmps20
  go_wp2
  go_ret
  exact ⟨rfl, rfl⟩
/-- The two pairs that are shown. -/
def twoP : List Pair := [([97], [49]), ([98], [50])]
theorem two_ends : ends12 1 [97] 0 = false := by kernel_rfl
theorem two_leaf : leafG twoP = [twoP] := by
  unfold leafG twoP
  rw [gath, if_neg (by rw [show ([] : List Pair).length + 1 = 1 from rfl, two_ends]; simp), gath]
  split
  · rfl
  · rfl
theorem two_build : buildM twoP = ((leafO twoP).1, [leafO twoP], 0) := by
  rw [buildM_root (by decide) (by decide), rootM_some (by decide), two_leaf, riseL_one (by simp)]
  rfl
theorem two_find : findF (findO [leafO twoP]) (leafO twoP).1 [98] [] = ([50], true, [(leafO twoP).1], 0) := by
  have hfd : findO [leafO twoP] (leafO twoP).1 = some (76 :: leafB twoP) := by unfold findO leafO; simp
  have hok : leafOk ltB twoP = true := by decide
  have hlen := leafB_le hok
  have hta : takenLeaf (76 :: leafB twoP) = some twoP := (takenLeaf_iff (76 :: leafB twoP) (by simp; omega) twoP).2 ⟨hok, rfl⟩
  have hask := askM_root_ok hfd (nodeM_leaf hta)
  unfold findF
  rw [if_neg (by decide), hask, restM_leaf (by omega) rfl rfl]
  rfl
theorem ls_twoP (w : World) : Ls (w.alloc (.cells #[.string ⟨#[97]⟩, .string ⟨#[49]⟩, .string ⟨#[98]⟩, .string ⟨#[50]⟩] 60)).heap.size (w.alloc (.cells #[.string ⟨#[97]⟩, .string ⟨#[49]⟩, .string ⟨#[98]⟩, .string ⟨#[50]⟩] 60)) 2 pairC (.slice (some ⟨w.heap.size, 0, none⟩) 2 2) twoP := by
  have hx := heap_last w (.cells #[.string ⟨#[97]⟩, .string ⟨#[49]⟩, .string ⟨#[98]⟩, .string ⟨#[50]⟩] 60) _ rfl
  refine ⟨_, 2, rfl, Nat.le_refl _, by unfold maxLen; omega, fun _ => ⟨w.heap.size, 0, rfl, by simp, fun j hj i u hu => ?_⟩⟩
  rw [cell_of_row _ _ _ _ _ _ hx]
  match j, hj with
  | 0, _ =>
    match i with
    | 0 => exact hu
    | 1 => exact hu
    | _ + 2 => simp [pairC] at hu
  | 1, _ =>
    match i with
    | 0 => exact hu
    | 1 => exact hu
    | _ + 2 => simp [pairC] at hu
set_option maxRecDepth 40000 in
set_option maxHeartbeats 1600000 in
theorem shown_any (w : World) (hT : TabW w) : Calls Tryz.prog 8 #[] w fun e w' => e = .returned (.bool true) ∧ Below w.heap.size w w' := by
  have hb0 : Below w.heap.size w (w.alloc (.cells #[.string ⟨#[97]⟩, .string ⟨#[49]⟩, .string ⟨#[98]⟩, .string ⟨#[50]⟩] 60)) := (Below.refl _ _).alloc (Nat.le_refl _) _
  have hbd := build_any (w.alloc (.cells #[.string ⟨#[97]⟩, .string ⟨#[49]⟩, .string ⟨#[98]⟩, .string ⟨#[50]⟩] 60)) twoP _ (ls_twoP w) (hT.keep hb0 hT.1)
  rw [two_build] at hbd
  simp only at hbd
  have hfi := two_find
  have ho2 : (leafO twoP).2.length ≤ 140737488351232 := by
    have := leafB_le (show leafOk ltB twoP = true by decide)
    show (76 :: leafB twoP).length ≤ _
    simp
    omega
  obtain ⟨o, ho⟩ : ∃ o, o = leafO twoP := ⟨_, rfl⟩
  rw [← ho] at hbd hfi ho2
  have H0 := hide hb0
  have HFI := hide hfi
  have HO2 := hide ho2
  clear hb0 hfi ho2 ho hT
  go_enter Tryz.func8, Tryz.ntmps8
  go_wp2_with fail
  refine hbd.mono ?_
  rintro e w1 ⟨v, rfl, hrow, hb1⟩
  have hB1 := H0.out.trans (hb1.mono H0.out.size)
  obtain ⟨ao, c, rfl, -⟩ := own_form hrow
  have hfr := from_any w1 ao ([o] : List Pair).length c
  have hb3 : Below w1.heap.size w1 (w1.alloc (.cells #[.slice ao ([o] : List Pair).length c] 25)) := (Below.refl _ _).alloc (Nat.le_refl _) _
  have hc3 := heap_last w1 (.cells #[.slice ao ([o] : List Pair).length c] 25) _ rfl
  have hrow3 := own_below hrow hb3
  have hls := ls_of_own (cs := pairC) (xs := [o]) pairC_length hrow3
  have hG := get_from (w2 := w1.alloc (.cells #[.slice ao ([o] : List Pair).length c] 25)) [83] (by decide) hc3 hls (by simpa using HO2.out)
  have hre := find_prog (w1.alloc (.cells #[.slice ao ([o] : List Pair).length c] 25)) _ _ _ _ _ _ hG o.1 [98] (by decide) [] (Below.refl _ _) (by simp)
  rw [HFI.out] at hre
  simp only [List.length_singleton] at hre hfr
  have htl : (strB [50]).toList = [50] := toL [50]
  have htl2 : (⟨#[50]⟩ : ByteArray).toList = [50] := toL [50]
  have hs98 : strB [98] = ⟨#[98]⟩ := rfl
  rw [hs98] at hre
  have H3 := hide (hB1.trans (hb3.mono hB1.size))
  clear hbd hrow hb1 hB1 hb3 hc3 hrow3 hls hG
  simp only [List.length_singleton]
  go_wp2_with fail
  refine hfr.mono ?_
  rintro e w3 ⟨rfl, rfl⟩
  go_wp2_with fail
  refine hre.mono ?_
  rintro e w4 ⟨rfl, -, hM4⟩
  have H4 := hide (H3.out.trans (hM4.b.mono H3.out.size))
  clear hM4 hre hfr
  go_wp2
  go_ret
  exact ⟨rfl, H4.out⟩
end Go.Proofs.YtimbleaafoiidaaGreatDoor

/-
  Are two lists of texts the same? Conditions: they lie there.
-/
namespace Go.Proofs.YtimbleaafoiidaaGreatDoor
open Go.RowKit

set_option maxRecDepth 20000 in
theorem same_ids (w : World) (v u : Value) (xs ys : List Bs) (h : Ls w.heap.size w 1 idC v xs) (k : Ls w.heap.size w 1 idC u ys) :
    Calls Tryz.prog 16 #[v, u] w fun e w' => e = .returned (.bool (decide (xs = ys))) ∧ Below w.heap.size w w' := by
  obtain ⟨ao, ca, rfl, h1, h2, h4⟩ := h
  obtain ⟨bo, cb, rfl, k1, k2, k4⟩ := k
  unfold maxLen at h2 k2
  by_cases hl : xs.length = ys.length
  · go_enter Tryz.func16, Tryz.ntmps16
    go_wp2
    go_loopw [5] (fun t wr => ∃ j : Nat, t = .int .i64 (j : Int) ∧ j ≤ xs.length ∧ (∀ i, i < j → xs[i]? = ys[i]?) ∧ Below w.heap.size w wr)
      (fun t _ => xs.length - (intOf t).toNat)
    case atStart => exact ⟨0, rfl, by omega, (fun i hi => by omega), Below.refl _ _⟩
    case round =>
      obtain ⟨j, rfl, hj, he, hb⟩ := hrel
      by_cases hlt : j < xs.length
      · have hlt2 : j < ys.length := by omega
        obtain ⟨b1, o1, rfl, hb1, hc1⟩ := h4 (by rintro rfl; simp at hlt)
        obtain ⟨b2, o2, rfl, hb2, hc2⟩ := k4 (by rintro rfl; simp at hlt2)
        have c1 := (hb.cell (p := ⟨b1, o1 + j * 1 + 0, none⟩) hb1).trans (hc1 j hlt 0 _ rfl)
        have c2 := (hb.cell (p := ⟨b2, o2 + j * 1 + 0, none⟩) hb2).trans (hc2 j hlt2 0 _ rfl)
        simp only [Nat.mul_one, Nat.add_zero] at c1 c2
        have n1 : xs[j]? = some xs[j] := by simp [hlt]
        have n2 : ys[j]? = some ys[j] := by simp [hlt2]
        clear hc1 hc2 h4 k4
        generalize xs[j] = x at *
        generalize ys[j] = y at *
        have t1 := toL x
        have t2 := toL y
        by_cases hxy : x = y
        · subst hxy
          go_wp2_with fail
          go_region
          go_wp2_with fail
          refine ⟨⟨j + 1, by go_num, by omega, (fun i hi => ?_), hb.drew⟩, by simp [intOf]; omega⟩
          by_cases hij : i = j
          · subst hij; rw [n1, n2]
          · exact he i (by omega)
        · have bxy : (x == y) = false := by simp [hxy]
          go_wp2_with fail
          go_region
          go_wp2_with fail
          go_ret
          refine ⟨?_, hb.drew⟩
          rw [decide_eq_false]
          · rfl
          rintro rfl
          rw [n1] at n2
          exact hxy (Option.some.inj n2)
      · have hjl : j = xs.length := by omega
        subst hjl
        go_wp2_with fail
        go_ret
        refine ⟨?_, hb⟩
        rw [decide_eq_true]
        · rfl
        refine List.ext_getElem? fun i => ?_
        by_cases hi : i < xs.length
        · exact he i hi
        · rw [List.getElem?_eq_none (by omega), List.getElem?_eq_none (by omega)]
  · have hne : ((xs.length : Int) != (ys.length : Int)) = true := by simp; omega
    go_enter Tryz.func16, Tryz.ntmps16
    go_wp2
    go_ret
    refine ⟨?_, Below.refl _ _⟩
    rw [decide_eq_false (fun h => hl (by rw [h]))]
    rfl
end Go.Proofs.YtimbleaafoiidaaGreatDoor

/-
  The get that notes what is asked, and what of records stays. Conditions: what it holds lies there; not too much was asked.
-/
namespace Go.Proofs.YtimbleaafoiidaaGreatDoor
open Go.RowKit

set_option maxRecDepth 20000 in
theorem asked1_ko (B : Nat) (w : World) (ci cl ga : Nat) (objs : List Pair) (asked : List Bs) (id : Bs) (h : AskW B w ci cl ga objs asked) (hn : asked.length ≤ 4294967296) :
    Calls Tryz.prog 38 #[.string (strB id), .pointer (some ⟨ci, 0, none⟩), .pointer (some ⟨cl, 0, none⟩)] w fun e w' => e = .returned (foundV (findO objs id)) ∧ AskW B w' ci cl ga objs (asked ++ [id]) ∧ Mv B ats none w w' ∧ KO w w' := by
  have hB := h.le
  have hgaB := h.base
  obtain ⟨vl, hl, hv⟩ := h.list
  obtain ⟨va, ha, hw⟩ := h.row
  have hi := h.ids
  obtain ⟨v', w1, hrun, hrow1, hgr, -⟩ := app_id w.drew B va asked id hw hB hn
  rw [drew_alloc] at hrun hgr
  rw [show w.drew.heap.size = w.heap.size from rfl] at hrun
  have hb0 : Below w.heap.size w (w.alloc (.cells #[.string (strB id)] 9)) := (Below.refl _ _).alloc (Nat.le_refl _) _
  have hw0 : Rw B (w.alloc (.cells #[.string (strB id)] 9)).drew 9 1 idC va asked := World.ownsRow.alloc hw _
  have hi0 := heap_past w (.cells #[.string (strB id)] 9) _ (lt_of_heap hi) |>.trans hi
  have hl0 := heap_past w (.cells #[.string (strB id)] 9) _ (lt_of_heap hl) |>.trans hl
  have ha0 := heap_past w (.cells #[.string (strB id)] 9) _ (lt_of_heap ha) |>.trans ha
  have hi1 := grow_keep hw0 hgr (show (w.alloc _).drew.heap[ci]? = _ from hi0) (by decide)
  have hl1 := grow_keep hw0 hgr (show (w.alloc _).drew.heap[cl]? = _ from hl0) (by decide)
  have ha1 := grow_keep hw0 hgr (show (w.alloc _).drew.heap[ga]? = _ from ha0) (by decide)
  have hne : ci ≠ ga := ne_type hi1 ha1 (by decide)
  have hne2 : cl ≠ ga := ne_type hl1 ha1 (by decide)
  have hm1 : Mv B ats none w w1 := ((Mv.refl B ats none w).alloc hB _).drew.grown hw0 hgr (by decide) (by simp; omega)
  have hm2 : Mv B ats none w (w1.setCell ⟨ga, 0, none⟩ v') := hm1.set ha1 (by decide) hgaB _
  have hi2 : (w1.setCell ⟨ga, 0, none⟩ v').heap[ci]? = some (.cells #[.pointer (some ⟨ga, 0, none⟩)] 37) := (heap_setOther hne).trans hi1
  have hl2 : (w1.setCell ⟨ga, 0, none⟩ v').heap[cl]? = some (.cells #[vl] 25) := (heap_setOther hne2).trans hl1
  have hv2 : Ls B (w1.setCell ⟨ga, 0, none⟩ v') 2 pairC vl objs := hv.keep hm2.b
  have hA : AskW B (w1.setCell ⟨ga, 0, none⟩ v') ci cl ga objs (asked ++ [id]) := ⟨hi2, ⟨vl, hl2, hv2⟩, ⟨v', heap_set0 ha1, own_setCell hrow1 ha1 (by decide) _⟩, hgaB⟩
  have hf := find_any (w1.setCell ⟨ga, 0, none⟩ v') vl objs id (hv2.up (Nat.le_trans hB hm2.size))
  have c0 := cell_of_row w ci 0 _ _ _ hi
  have c1 := cell_of_row w ga 0 _ _ _ ha
  have d0 := cell_of_row _ ci 0 _ _ _ hi0
  have d1 := cell_of_row _ ga 0 _ _ _ ha0
  have e0 := cell_of_row _ ci 0 _ _ _ hi1
  have g0 := cell_of_row _ ci 0 _ _ _ hi2
  have g1 := cell_of_row _ cl 0 _ _ _ hl2
  have c2 := cell_of_row w1 ga 0 _ _ _ ha1
  simp only [List.getElem?_toArray, List.getElem?_cons_zero] at c0 c1 c2 d0 d1 e0 g0 g1
  have f2 := frozen0 (j := 0) ha1
  have hko : KO w (w1.setCell ⟨ga, 0, none⟩ v') := ((((KO.refl w).more hb0).drew).grown hw0 hgr).set ha1 _
  have HA := hide (And.intro hA (And.intro hm2 hko))
  obtain ⟨ao', m', ca', rfl⟩ := row_form hrow1
  obtain ⟨al, cap, rfl, -⟩ := hv
  obtain ⟨s, k, hfv⟩ := foundV_form (findO objs id)
  rw [hfv] at hf ⊢
  clear hko hm1 hi hl ha hw hgr hrow1 hb0 hw0 hi0 hl0 ha0 hi1 hl1 ha1 hi2 hl2 hv2 h hfv hA hm2
  go_enter Tryz.func38, Tryz.ntmps38
  go_wp2_with fail
  refine wp_region_held_drew (S := fun W => W.cell? ⟨ci, 0, none⟩ = some (.pointer (some ⟨ga, 0, none⟩))) (by kernel_rfl) (c0) (fun hHeld => ?_)
  refine takeK 0 hHeld ?_
  refine takeK 1 hHeld ?_
  refine takeK 2 hHeld ?_
  refine takeK 4 hHeld ?_
  refine twoH (i := 3) (j := 5) rfl rfl (by kernel_rfl) rfl rfl (fun K hK => ?_) (fun K hK => ?_)
  · go_simp
    refine hK.out _ _ (c0) (fun hHeld => ?_)
    clear hK K
    try simp only [Act.put, List.setIfInBounds_toArray, List.set_cons_zero, List.set_cons_succ]
    refine onlyH (i := 5) rfl (by kernel_rfl) rfl (fun K hK => ?_)
    go_simp
    refine hK.out _ _ (d0) (fun hHeld => ?_)
    clear hK K
    try simp only [Act.put, List.setIfInBounds_toArray, List.set_cons_zero, List.set_cons_succ]
    refine onlyH (i := 6) rfl (by kernel_rfl) rfl (fun K hK => ?_)
    refine wp_append_run (.tmp 9) (.tmp 11) 32 rfl rfl rfl hrun ?_
    refine hK.out _ _ (e0) (fun hHeld => ?_)
    clear hK K
    try simp only [Act.put, List.setIfInBounds_toArray, List.set_cons_zero, List.set_cons_succ]
    refine takeK 7 hHeld ?_
    refine onlyH (i := 8) rfl (by kernel_rfl) rfl (fun K hK => ?_)
    go_simp
    refine hK.out _ _ (g0) (fun hHeld => ?_)
    clear hK K
    try simp only [Act.put, List.setIfInBounds_toArray, List.set_cons_zero, List.set_cons_succ]
    refine wpAnyH_done (by kernel_rfl) ?_ _
    clear hHeld
    go_wp2_with fail
    refine hf.mono ?_
    rintro e w1 ⟨rfl, rfl⟩
    go_wp2
    go_ret2
    exact ⟨rfl, HA.out.1, HA.out.2.1, HA.out.2.2⟩
  · go_simp
    refine hK.out _ _ (d0) (fun hHeld => ?_)
    clear hK K
    try simp only [Act.put, List.setIfInBounds_toArray, List.set_cons_zero, List.set_cons_succ]
    refine onlyH (i := 3) rfl (by kernel_rfl) rfl (fun K hK => ?_)
    go_simp
    refine hK.out _ _ (d0) (fun hHeld => ?_)
    clear hK K
    try simp only [Act.put, List.setIfInBounds_toArray, List.set_cons_zero, List.set_cons_succ]
    refine onlyH (i := 6) rfl (by kernel_rfl) rfl (fun K hK => ?_)
    refine wp_append_run (.tmp 9) (.tmp 11) 32 rfl rfl rfl hrun ?_
    refine hK.out _ _ (e0) (fun hHeld => ?_)
    clear hK K
    try simp only [Act.put, List.setIfInBounds_toArray, List.set_cons_zero, List.set_cons_succ]
    refine takeK 7 hHeld ?_
    refine onlyH (i := 8) rfl (by kernel_rfl) rfl (fun K hK => ?_)
    go_simp
    refine hK.out _ _ (g0) (fun hHeld => ?_)
    clear hK K
    try simp only [Act.put, List.setIfInBounds_toArray, List.set_cons_zero, List.set_cons_succ]
    refine wpAnyH_done (by kernel_rfl) ?_ _
    clear hHeld
    go_wp2_with fail
    refine hf.mono ?_
    rintro e w1 ⟨rfl, rfl⟩
    go_wp2
    go_ret2
    exact ⟨rfl, HA.out.1, HA.out.2.1, HA.out.2.2⟩
end Go.Proofs.YtimbleaafoiidaaGreatDoor

/-
  ProllyFinds, walked. Conditions: the objects lie there; texts within reach; the table holds its numbers.
-/
namespace Go.Proofs.YtimbleaafoiidaaGreatDoor
open Go.RowKit

theorem get_asked (ts : List TypeId) (hn : 83 ∈ ts) (h1 : 37 ∉ ts) (h2 : 25 ∉ ts) (h3 : 32 ∉ ts) (h4 : 9 ∉ ts) (B ci cl ga : Nat) (objs : List Pair) (hs : ∀ o ∈ objs, o.2.length ≤ 140737488351232) :
    GetOk 38 #[.pointer (some ⟨ci, 0, none⟩), .pointer (some ⟨cl, 0, none⟩)] (findO objs) B ts (fun W a => AskW B W ci cl ga objs a) where
  eg := enters_own Tryz.func38 (by kernel_rfl) rfl
  le W a h := h.le
  mv h hm := h.keep hm (Nat.le_refl _) h1 h2 h3 h4 (by simp)
  call W a id h hn' := asked1_ko B W ci cl ga objs a id h hn'
  node := hn
  short id b h := findO_short hs id b h
set_option maxRecDepth 20000 in
theorem asked_any (w : World) (ao : Option Addr) (m c ga : Nat) : Calls Tryz.prog 14 #[.slice ao m c, .pointer (some ⟨ga, 0, none⟩)] w fun e w' => e = .returned (.func (.func 38) #[] #[.pointer (some ⟨w.heap.size + 1, 0, none⟩), .pointer (some ⟨w.heap.size, 0, none⟩)]) ∧ w' = (w.alloc (.cells #[.slice ao m c] 25)).alloc (.cells #[.pointer (some ⟨ga, 0, none⟩)] 37) := by
  have hmf : ∀ (fn : Fn) (first cap : Array Value) (w : World), (Instr.makeFunc fn first cap).run Tryz.prog w = .ok (.func fn first cap) w := fun _ _ _ _ => rfl
  go_enter Tryz.func14, Tryz.ntmps14
  go_wp2
  go_ret
  exact ⟨rfl, rfl⟩
set_option maxRecDepth 40000 in
set_option maxHeartbeats 1600000 in
theorem finds_any (w : World) (vo : Value) (objs : List Pair) (hv : Ls w.heap.size w 2 pairC vo objs) (hob : ∀ o ∈ objs, o.2.length ≤ 140737488351232) (root key : Bs) (hT : TabW w) :
    Calls Tryz.prog 4 #[vo, .string (strB root), .string (strB key)] w fun e w' => e = .returned (.bool true) ∧ Below w.heap.size w w' := by
  have hvf := hv
  obtain ⟨ao, cap, hvv, -⟩ := hvf
  obtain ⟨m, hm⟩ : ∃ m, m = objs.length := ⟨_, rfl⟩
  rw [← hm] at hvv
  subst hvv
  clear hm
  have HV := hide hv
  have hsh := shown_any w hT
  clear hv hT
  go_enter Tryz.func4, Tryz.ntmps4
  go_wp2_with fail
  refine hsh.mono ?_
  rintro e w1 ⟨rfl, hb1⟩
  have hb2 : Below w1.heap.size w1 (w1.alloc (.cells #[.slice none 0 0] 32)) := (Below.refl _ _).alloc (Nat.le_refl _) _
  have hg2 := heap_last w1 (.cells #[.slice none 0 0] 32) _ rfl
  have hB2 := hb1.trans (hb2.mono hb1.size)
  have hs1 : w.heap.size ≤ w1.heap.size := hb1.size
  generalize hw2 : w1.alloc (.cells #[.slice none 0 0] 32) = w2 at *
  have hak := asked_any w2 ao m cap w1.heap.size
  have hb3 : Below w2.heap.size w2 ((w2.alloc (.cells #[.slice ao m cap] 25)).alloc (.cells #[.pointer (some ⟨w1.heap.size, 0, none⟩)] 37)) := ((Below.refl _ _).alloc (Nat.le_refl _) _).alloc (by simp) _
  have hg3 := (hb3.block _ (lt_of_heap hg2)).trans hg2
  have hB3 := hB2.trans (hb3.mono hB2.size)
  have hA3 : AskW w.heap.size ((w2.alloc (.cells #[.slice ao m cap] 25)).alloc (.cells #[.pointer (some ⟨w1.heap.size, 0, none⟩)] 37)) (w2.heap.size + 1) w2.heap.size w1.heap.size objs [] :=
    ⟨heap_last (w2.alloc (.cells #[.slice ao m cap] 25)) _ _ (by simp), ⟨_, (heap_past (w2.alloc (.cells #[.slice ao m cap] 25)) _ _ (by simp)).trans (heap_last w2 _ _ rfl), HV.out.keep hB3⟩, ⟨_, hg3, World.ownsRow_nil _ _ _ _⟩, hs1⟩
  have H3 := hide (And.intro hB3 hA3)
  clear hsh hb1 hb2 hg2 hB2 hb3 hg3 hB3 hA3
  -- what both answer
  obtain ⟨t, is, ids, eno, hprog, hrefs⟩ : ∃ (t : Bs) (is : Bool) (ids : List Bs) (eno : Int),
      (Calls Tryz.prog 13 #[.func (.func 38) #[] #[.pointer (some ⟨w2.heap.size + 1, 0, none⟩), .pointer (some ⟨w2.heap.size, 0, none⟩)], .string (strB root), .string (strB key)] ((w2.alloc (.cells #[.slice ao m cap] 25)).alloc (.cells #[.pointer (some ⟨w1.heap.size, 0, none⟩)] 37)) fun e w' => e = .returned (.tuple #[.string (strB t), .bool is, .int .i64 eno]) ∧ AskW w.heap.size w' (w2.heap.size + 1) w2.heap.size w1.heap.size objs ids ∧ Mv w.heap.size ats none ((w2.alloc (.cells #[.slice ao m cap] 25)).alloc (.cells #[.pointer (some ⟨w1.heap.size, 0, none⟩)] 37)) w') ∧
      (∀ W : World, Below w.heap.size w W → Calls Tryz.prog 15 #[.slice ao m cap, .string (strB root), .string (strB key)] W fun e w' => ∃ va, e = .returned (.tuple #[.string (strB t), .bool is, va, .int .i64 eno]) ∧ Rw W.heap.size w' 9 1 idC va ids ∧ Below W.heap.size W w') := by
    cases hk : isKeyB key with
    | true =>
      have hG := get_asked [83] (by decide) (by decide) (by decide) (by decide) (by decide) w.heap.size (w2.heap.size + 1) w2.heap.size w1.heap.size objs hob
      exact ⟨_, _, _, _, find_prog _ _ _ _ _ _ _ hG root key hk [] H3.out.2 (by simp), fun W hW => rfind_any W _ objs ((HV.out.keep hW).up hW.size) hob root key hk⟩
    | false =>
      refine ⟨[], false, [], 2, (findKey_no _ _ root key hk).mono fun e w' h => ⟨h.1, h.2 ▸ H3.out.2, h.2 ▸ Mv.refl _ _ _ _⟩, fun W hW => (rfind_no W _ root key hk).mono fun e w' h => ⟨_, h.1, World.ownsRow_nil _ _ _ _, h.2 ▸ Below.refl _ _⟩⟩
  go_wp2_with fail
  refine hak.mono ?_
  rintro e w3 ⟨rfl, rfl⟩
  go_wp2_with fail
  refine hprog.mono ?_
  rintro e w4 ⟨rfl, hA4, hM4⟩
  have hB4 : Below w.heap.size w w4 := H3.out.1.trans hM4.b
  have hrr := hrefs w4 hB4
  have H4 := hide (And.intro hA4 hB4)
  clear hprog hrefs hak hA4 hM4 hB4
  go_wp2_with fail
  refine hrr.mono ?_
  rintro e w5 ⟨va, rfl, hra, hb5⟩
  have hA5 := H4.out.1.below hb5
  have hB5 := H4.out.2.trans (hb5.mono H4.out.2.size)
  obtain ⟨-, -, ⟨vk, hk5, hkr⟩, -⟩ := hA5
  have hsm := same_ids w5 vk va ids ids (ls_of_own idC_length hkr) (ls_of_own idC_length hra)
  rw [decide_eq_true (rfl : ids = ids)] at hsm
  have k0 := cell_of_row w5 w1.heap.size 0 _ _ _ hk5
  simp only [List.getElem?_toArray, List.getElem?_cons_zero] at k0
  have htl := toL t
  have hbq : (t == t) = true := by simp
  have hiq : (is == is) = true := by simp
  have heq : (eno == eno) = true := by simp
  have HB := hide hB5
  obtain ⟨vaA, vaM, vaC, rfl⟩ := row_form hra
  obtain ⟨vkA, vkM, vkC, rfl⟩ := row_form hkr
  clear hrr hb5 hB5 hra hkr hk5
  go_wp2_with fail
  refine hsm.mono ?_
  rintro e w6 ⟨rfl, hb6⟩
  have HB6 := hide (HB.out.trans (hb6.mono HB.out.size))
  clear hsm hb6
  go_wp2
  go_ret
  exact ⟨rfl, HB6.out⟩
theorem finds_bytes (w : World) (vo : Value) (objs : List Pair) (hv : Ls w.heap.size w 2 pairC vo objs) (hob : ∀ o ∈ objs, o.2.length ≤ 140737488351232) (r k : ByteArray) (hT : TabW w) :
    Calls Tryz.prog 4 #[vo, .string r, .string k] w fun e w' => e = .returned (.bool true) ∧ Below w.heap.size w w' := by
  have := finds_any w vo objs hv hob r.data.toList k.data.toList hT
  rw [strB_of, strB_of] at this
  exact this
end Go.Proofs.YtimbleaafoiidaaGreatDoor
