/-
  Texts joined: PShown, PSame, PAsked, PFinds, PAskK, PSameO, PStop, PSameP, PRGo0.
-/
import Derived.Test.YtimbleaafoiidaaGreatDoorA39PFind
import Derived.Test.YtimbleaafoiidaaGreatDoorA45PBuild
import Derived.Test.YtimbleaafoiidaaGreatDoorA23PRow
import Derived.Test.YtimbleaafoiidaaGreatDoorA29PLay0
import Derived.Test.YtimbleaafoiidaaGreatDoorA21PPlain
import Derived.Test.YtimbleaafoiidaaGreatDoorA42PRFind
import Derived.Laws.StructEq
import Derived.Test.YtimbleaafoiidaaGreatDoorA25PRMany
/-
  What the statements show first. Condition: the table holds its numbers.
-/
namespace Go.Proofs.YtimbleaafoiidaaGreatDoor
open Go.RowKit

theorem enters_own {P : Program} {f : FuncId} {fn : Func} {c : Code} (h1 : P.funcs[f]? = some fn) (h2 : (fn.name == "runtime.NumGoroutine") = false) (h3 : fn.body = some c) (args : Array Value) (w : World) : (callFunc f args).run P w = .ok (.enter f args) w := by
  have h4 : fn.name ≠ "runtime.NumGoroutine" := by simpa using h2
  simp [callFunc, h1, h4, h3, mark]
/-- The get of a list that lies there. -/
theorem get_from {w2 : World} {c : Nat} {v : Value} {objs : List Pair} (ts : List TypeId) (hn : 83 ∈ ts) (hc : w2.heap[c]? = some (.cells #[v] 25)) (hv : Ls w2.heap.size w2 2 pairC v objs) (hs : ∀ o ∈ objs, o.2.length ≤ 140737488351232) :
    GetOk 44 #[.pointer (some ⟨c, 0, none⟩)] (findO objs) w2.heap.size ts (fun W _ => Below w2.heap.size w2 W) where
  eg := enters_own Tryz.func44 (by kernel_rfl) rfl
  le W a h := h.size
  mv h hm := h.trans hm.b
  call W a id h _ := (from1_any W c v objs id ((h.block c (lt_of_heap hc)).trans hc) ((hv.keep h).up h.size)).mono fun e w' hq => ⟨hq.1, hq.2 ▸ h, hq.2 ▸ Mv.refl _ _ _ _, hq.2 ▸ KO.refl _⟩
  node := hn
  short id b h := findO_short hs id b h
set_option maxRecDepth 20000 in
theorem from_any (w : World) (ao : Option Addr) (m c : Nat) : Calls Tryz.prog 20 #[.slice ao m c] w fun e w' => e = .returned (.func (.func 44) #[] #[.pointer (some ⟨w.heap.size, 0, none⟩)]) ∧ w' = w.alloc (.cells #[.slice ao m c] 25) := by
  have hmf : ∀ (fn : Fn) (first cap : Array Value) (w : World), (Instr.makeFunc fn first cap).run Tryz.prog w = .ok (.func fn first cap) w := fun _ _ _ _ => rfl
  go_enter Tryz.func20, Tryz.ntmps20
  go_wp2
  go_ret
  exact ⟨rfl, rfl⟩
/-- The two pairs that are shown. -/
def twoP : List Pair := [([97], [49]), ([98], [50])]
theorem two_ends : ends12 1 [97] 0 = false := by kernel_rfl
theorem two_leaf : leafG twoP = [twoP] := by
  unfold leafG twoP
  rw [gath, if_neg (by rw [show ([] : List Pair).length + 1 = 1 from rfl, two_ends]; simp), gath]
  split
  · rfl
  · rfl
theorem two_build : buildM twoP = ((leafO twoP).1, [leafO twoP], 0) := by
  rw [buildM_root (by decide) (by decide), rootM_some (by decide), two_leaf, riseL_one (by simp)]
  rfl
theorem two_find : findF (findO [leafO twoP]) (leafO twoP).1 [98] [] = ([50], true, [(leafO twoP).1], 0) := by
  have hfd : findO [leafO twoP] (leafO twoP).1 = some (76 :: leafB twoP) := by unfold findO leafO; simp
  have hok : leafOk ltB twoP = true := by decide
  have hlen := leafB_le hok
  have hta : takenLeaf (76 :: leafB twoP) = some twoP := (takenLeaf_iff (76 :: leafB twoP) (by simp; omega) twoP).2 ⟨hok, rfl⟩
  have hask := askM_root_ok hfd (nodeM_leaf hta)
  unfold findF
  rw [if_neg (by decide), hask, restM_leaf (by omega) rfl rfl]
  rfl
theorem ls_twoP (w : World) : Ls (w.alloc (.cells #[.string ⟨#[97]⟩, .string ⟨#[49]⟩, .string ⟨#[98]⟩, .string ⟨#[50]⟩] 60)).heap.size (w.alloc (.cells #[.string ⟨#[97]⟩, .string ⟨#[49]⟩, .string ⟨#[98]⟩, .string ⟨#[50]⟩] 60)) 2 pairC (.slice (some ⟨w.heap.size, 0, none⟩) 2 2) twoP := by
  have hx := heap_last w (.cells #[.string ⟨#[97]⟩, .string ⟨#[49]⟩, .string ⟨#[98]⟩, .string ⟨#[50]⟩] 60) _ rfl
  refine ⟨_, 2, rfl, Nat.le_refl _, by unfold maxLen; omega, fun _ => ⟨w.heap.size, 0, rfl, by simp, fun j hj i u hu => ?_⟩⟩
  rw [cell_of_row _ _ _ _ _ _ hx]
  match j, hj with
  | 0, _ =>
    match i with
    | 0 => exact hu
    | 1 => exact hu
    | _ + 2 => simp [pairC] at hu
  | 1, _ =>
    match i with
    | 0 => exact hu
    | 1 => exact hu
    | _ + 2 => simp [pairC] at hu
set_option maxRecDepth 40000 in
set_option maxHeartbeats 1600000 in
theorem shown_any (w : World) (hT : TabW w) : Calls Tryz.prog 8 #[] w fun e w' => e = .returned (.bool true) ∧ Below w.heap.size w w' := by
  have hb0 : Below w.heap.size w (w.alloc (.cells #[.string ⟨#[97]⟩, .string ⟨#[49]⟩, .string ⟨#[98]⟩, .string ⟨#[50]⟩] 60)) := (Below.refl _ _).alloc (Nat.le_refl _) _
  have hbd := build_any (w.alloc (.cells #[.string ⟨#[97]⟩, .string ⟨#[49]⟩, .string ⟨#[98]⟩, .string ⟨#[50]⟩] 60)) twoP _ (ls_twoP w) (hT.keep hb0 hT.1)
  rw [two_build] at hbd
  simp only at hbd
  have hfi := two_find
  have ho2 : (leafO twoP).2.length ≤ 140737488351232 := by
    have := leafB_le (show leafOk ltB twoP = true by decide)
    show (76 :: leafB twoP).length ≤ _
    simp
    omega
  obtain ⟨o, ho⟩ : ∃ o, o = leafO twoP := ⟨_, rfl⟩
  rw [← ho] at hbd hfi ho2
  have H0 := hide hb0
  have HFI := hide hfi
  have HO2 := hide ho2
  clear hb0 hfi ho2 ho hT
  go_enter Tryz.func8, Tryz.ntmps8
  go_wp2_with fail
  refine hbd.mono ?_
  rintro e w1 ⟨v, rfl, hrow, hb1⟩
  have hB1 := H0.out.trans (hb1.mono H0.out.size)
  obtain ⟨ao, c, rfl, -⟩ := own_form hrow
  have hfr := from_any w1 ao ([o] : List Pair).length c
  have hb3 : Below w1.heap.size w1 (w1.alloc (.cells #[.slice ao ([o] : List Pair).length c] 25)) := (Below.refl _ _).alloc (Nat.le_refl _) _
  have hc3 := heap_last w1 (.cells #[.slice ao ([o] : List Pair).length c] 25) _ rfl
  have hrow3 := own_below hrow hb3
  have hls := ls_of_own (cs := pairC) (xs := [o]) pairC_length hrow3
  have hG := get_from (w2 := w1.alloc (.cells #[.slice ao ([o] : List Pair).length c] 25)) [83] (by decide) hc3 hls (by simpa using HO2.out)
  have hre := find_prog (w1.alloc (.cells #[.slice ao ([o] : List Pair).length c] 25)) _ _ _ _ _ _ hG o.1 [98] (by decide) [] (Below.refl _ _) (by simp)
  rw [HFI.out] at hre
  simp only [List.length_singleton] at hre hfr
  have htl : (strB [50]).toList = [50] := toL [50]
  have htl2 : (⟨#[50]⟩ : ByteArray).toList = [50] := toL [50]
  have hs98 : strB [98] = ⟨#[98]⟩ := rfl
  rw [hs98] at hre
  have H3 := hide (hB1.trans (hb3.mono hB1.size))
  clear hbd hrow hb1 hB1 hb3 hc3 hrow3 hls hG
  simp only [List.length_singleton]
  go_wp2_with fail
  refine hfr.mono ?_
  rintro e w3 ⟨rfl, rfl⟩
  go_wp2_with fail
  refine hre.mono ?_
  rintro e w4 ⟨rfl, -, hM4⟩
  have H4 := hide (H3.out.trans (hM4.b.mono H3.out.size))
  clear hM4 hre hfr
  go_wp2
  go_ret
  exact ⟨rfl, H4.out⟩
end Go.Proofs.YtimbleaafoiidaaGreatDoor

/-
  Are two lists of texts the same? Conditions: they lie there.
-/
namespace Go.Proofs.YtimbleaafoiidaaGreatDoor
open Go.RowKit

set_option maxRecDepth 20000 in
theorem same_ids (w : World) (v u : Value) (xs ys : List Bs) (h : Ls w.heap.size w 1 idC v xs) (k : Ls w.heap.size w 1 idC u ys) :
    Calls Tryz.prog 16 #[v, u] w fun e w' => e = .returned (.bool (decide (xs = ys))) ∧ Below w.heap.size w w' := by
  obtain ⟨ao, ca, rfl, h1, h2, h4⟩ := h
  obtain ⟨bo, cb, rfl, k1, k2, k4⟩ := k
  unfold maxLen at h2 k2
  by_cases hl : xs.length = ys.length
  · go_enter Tryz.func16, Tryz.ntmps16
    go_wp2
    go_loopw [5] (fun t wr => ∃ j : Nat, t = .int .i64 (j : Int) ∧ j ≤ xs.length ∧ (∀ i, i < j → xs[i]? = ys[i]?) ∧ Below w.heap.size w wr)
      (fun t _ => xs.length - (intOf t).toNat)
    case atStart => exact ⟨0, rfl, by omega, (fun i hi => by omega), Below.refl _ _⟩
    case round =>
      obtain ⟨j, rfl, hj, he, hb⟩ := hrel
      by_cases hlt : j < xs.length
      · have hlt2 : j < ys.length := by omega
        obtain ⟨b1, o1, rfl, hb1, hc1⟩ := h4 (by rintro rfl; simp at hlt)
        obtain ⟨b2, o2, rfl, hb2, hc2⟩ := k4 (by rintro rfl; simp at hlt2)
        have c1 := (hb.cell (p := ⟨b1, o1 + j * 1 + 0, none⟩) hb1).trans (hc1 j hlt 0 _ rfl)
        have c2 := (hb.cell (p := ⟨b2, o2 + j * 1 + 0, none⟩) hb2).trans (hc2 j hlt2 0 _ rfl)
        simp only [Nat.mul_one, Nat.add_zero] at c1 c2
        have n1 : xs[j]? = some xs[j] := by simp [hlt]
        have n2 : ys[j]? = some ys[j] := by simp [hlt2]
        clear hc1 hc2 h4 k4
        generalize xs[j] = x at *
        generalize ys[j] = y at *
        have t1 := toL x
        have t2 := toL y
        by_cases hxy : x = y
        · subst hxy
          go_wp2_with fail
          go_region
          go_wp2_with fail
          refine ⟨⟨j + 1, by go_num, by omega, (fun i hi => ?_), hb.drew⟩, by simp [intOf]; omega⟩
          by_cases hij : i = j
          · subst hij; rw [n1, n2]
          · exact he i (by omega)
        · have bxy : (x == y) = false := by simp [hxy]
          go_wp2_with fail
          go_region
          go_wp2_with fail
          go_ret
          refine ⟨?_, hb.drew⟩
          rw [decide_eq_false]
          · rfl
          rintro rfl
          rw [n1] at n2
          exact hxy (Option.some.inj n2)
      · have hjl : j = xs.length := by omega
        subst hjl
        go_wp2_with fail
        go_ret
        refine ⟨?_, hb⟩
        rw [decide_eq_true]
        · rfl
        refine List.ext_getElem? fun i => ?_
        by_cases hi : i < xs.length
        · exact he i hi
        · rw [List.getElem?_eq_none (by omega), List.getElem?_eq_none (by omega)]
  · have hne : ((xs.length : Int) != (ys.length : Int)) = true := by simp; omega
    go_enter Tryz.func16, Tryz.ntmps16
    go_wp2
    go_ret
    refine ⟨?_, Below.refl _ _⟩
    rw [decide_eq_false (fun h => hl (by rw [h]))]
    rfl
end Go.Proofs.YtimbleaafoiidaaGreatDoor

/-
  The get that notes what is asked, and what of records stays. Conditions: what it holds lies there; not too much was asked.
-/
namespace Go.Proofs.YtimbleaafoiidaaGreatDoor
open Go.RowKit

end Go.Proofs.YtimbleaafoiidaaGreatDoor

/-
  ProllyFinds, walked. Conditions: the objects lie there; texts within reach; the table holds its numbers.
-/
namespace Go.Proofs.YtimbleaafoiidaaGreatDoor
open Go.RowKit

set_option maxRecDepth 20000 in
theorem asked_any (w : World) (ao : Option Addr) (m c ga : Nat) : Calls Tryz.prog 14 #[.slice ao m c, .pointer (some ⟨ga, 0, none⟩)] w fun e w' => e = .returned (.func (.func 38) #[] #[.pointer (some ⟨w.heap.size + 1, 0, none⟩), .pointer (some ⟨w.heap.size, 0, none⟩)]) ∧ w' = (w.alloc (.cells #[.slice ao m c] 25)).alloc (.cells #[.pointer (some ⟨ga, 0, none⟩)] 37) := by
  have hmf : ∀ (fn : Fn) (first cap : Array Value) (w : World), (Instr.makeFunc fn first cap).run Tryz.prog w = .ok (.func fn first cap) w := fun _ _ _ _ => rfl
  go_enter Tryz.func14, Tryz.ntmps14
  go_wp2
  go_ret
  exact ⟨rfl, rfl⟩
end Go.Proofs.YtimbleaafoiidaaGreatDoor

/-
  The get that notes what is asked, and texts that lie there and stay. Conditions: what it holds lies there; not too much was asked.
-/
namespace Go.Proofs.YtimbleaafoiidaaGreatDoor
open Go.RowKit

/-- Blocks of texts that stay: where, what, what of it is frozen. -/
abbrev Kept := List (Nat × Array Value × (Nat × Nat))
/-- What is asked is noted; these stay. -/
structure AskK (ks : Kept) (B : Nat) (w : World) (ci cl ga : Nat) (objs : List Pair) (asked : List Bs) : Prop where
  ids : w.heap[ci]? = some (.cells #[.pointer (some ⟨ga, 0, none⟩)] 37)
  list : ∃ vl, w.heap[cl]? = some (.cells #[vl] 25) ∧ Ls B w 2 pairC vl objs
  row : ∃ va, w.heap[ga]? = some (.cells #[va] 32) ∧ Rw B w 9 1 idC va asked ∧ ∀ p ∈ ks, w.heap[p.1]? = some (.cells p.2.1 9 p.2.2) ∧ some p.1 ≠ va.ownBlock
  base : B ≤ ga
theorem AskK.w {ks : Kept} {B : Nat} {w : World} {ci cl ga : Nat} {objs : List Pair} {asked : List Bs} (h : AskK ks B w ci cl ga objs asked) : AskW B w ci cl ga objs asked := by
  obtain ⟨va, h1, h2, -⟩ := h.row
  exact ⟨h.ids, h.list, ⟨va, h1, h2⟩, h.base⟩
theorem AskK.mv {ks : Kept} {B : Nat} {w w' : World} {ci cl ga : Nat} {objs : List Pair} {asked : List Bs} {ts : List TypeId} (h : AskK ks B w ci cl ga objs asked) (hm : Mv B ts none w w') (h1 : 37 ∉ ts) (h2 : 25 ∉ ts) (h3 : 32 ∉ ts) (h4 : 9 ∉ ts) : AskK ks B w' ci cl ga objs asked := by
  obtain ⟨va, g1, g2, g3⟩ := h.row
  obtain ⟨vl, l1, l2⟩ := h.list
  exact ⟨hm.k _ _ _ _ h.ids h1 (by simp), ⟨vl, hm.k _ _ _ _ l1 h2 (by simp), l2.keep hm.b⟩, ⟨va, hm.k _ _ _ _ g1 h3 (by simp), hm.own0 g2 h4, fun p hp => ⟨hm.k _ _ _ _ (g3 p hp).1 h4 (by simp), (g3 p hp).2⟩⟩, h.base⟩
set_option maxRecDepth 20000 in
theorem asked1_k (ks : Kept) (B : Nat) (w : World) (ci cl ga : Nat) (objs : List Pair) (asked : List Bs) (id : Bs) (h : AskK ks B w ci cl ga objs asked) (hn : asked.length ≤ 4294967296) :
    Calls Tryz.prog 38 #[.string (strB id), .pointer (some ⟨ci, 0, none⟩), .pointer (some ⟨cl, 0, none⟩)] w fun e w' => e = .returned (foundV (findO objs id)) ∧ AskK ks B w' ci cl ga objs (asked ++ [id]) ∧ Mv B ats none w w' ∧ KO w w' := by
  have hB := h.w.le
  have hgaB := h.base
  obtain ⟨vl, hl, hv⟩ := h.list
  obtain ⟨va, ha, hw, hks⟩ := h.row
  have hi := h.ids
  obtain ⟨v', w1, hrun, hrow1, hgr, hnx⟩ := app_id w.drew B va asked id hw hB hn
  rw [drew_alloc] at hrun hgr
  rw [show w.drew.heap.size = w.heap.size from rfl] at hrun
  have hb0 : Below w.heap.size w (w.alloc (.cells #[.string (strB id)] 9)) := (Below.refl _ _).alloc (Nat.le_refl _) _
  have hw0 : Rw B (w.alloc (.cells #[.string (strB id)] 9)).drew 9 1 idC va asked := World.ownsRow.alloc hw _
  have hi0 := heap_past w (.cells #[.string (strB id)] 9) _ (lt_of_heap hi) |>.trans hi
  have hl0 := heap_past w (.cells #[.string (strB id)] 9) _ (lt_of_heap hl) |>.trans hl
  have ha0 := heap_past w (.cells #[.string (strB id)] 9) _ (lt_of_heap ha) |>.trans ha
  have hi1 := grow_keep hw0 hgr (show (w.alloc _).drew.heap[ci]? = _ from hi0) (by decide)
  have hl1 := grow_keep hw0 hgr (show (w.alloc _).drew.heap[cl]? = _ from hl0) (by decide)
  have ha1 := grow_keep hw0 hgr (show (w.alloc _).drew.heap[ga]? = _ from ha0) (by decide)
  have hne : ci ≠ ga := ne_type hi1 ha1 (by decide)
  have hne2 : cl ≠ ga := ne_type hl1 ha1 (by decide)
  have hm1 : Mv B ats none w w1 := ((Mv.refl B ats none w).alloc hB _).drew.grown hw0 hgr (by decide) (by simp; omega)
  have hm2 : Mv B ats none w (w1.setCell ⟨ga, 0, none⟩ v') := hm1.set ha1 (by decide) hgaB _
  have hi2 : (w1.setCell ⟨ga, 0, none⟩ v').heap[ci]? = some (.cells #[.pointer (some ⟨ga, 0, none⟩)] 37) := (heap_setOther hne).trans hi1
  have hl2 : (w1.setCell ⟨ga, 0, none⟩ v').heap[cl]? = some (.cells #[vl] 25) := (heap_setOther hne2).trans hl1
  have hv2 : Ls B (w1.setCell ⟨ga, 0, none⟩ v') 2 pairC vl objs := hv.keep hm2.b
  have hA : AskK ks B (w1.setCell ⟨ga, 0, none⟩ v') ci cl ga objs (asked ++ [id]) := ⟨hi2, ⟨vl, hl2, hv2⟩, ⟨v', heap_set0 ha1, own_setCell hrow1 ha1 (by decide) _, fun p hp => by
    obtain ⟨k1, k2⟩ := hks p hp
    have hlt := lt_of_heap k1
    have k3 : (w.alloc (.cells #[.string (strB id)] 9)).drew.heap[p.1]? = _ := (heap_past w (.cells #[.string (strB id)] 9) _ hlt).trans k1
    have k4 := (hgr.block p.1 (lt_of_heap k3) k2).trans k3
    refine ⟨(heap_setOther (ne_type k4 ha1 (by decide))).trans k4, fun hq => ?_⟩
    rcases hnx with hx | hx
    · exact k2 (hq.trans hx)
    · rw [hx] at hq
      injection hq with hq
      rw [show w.drew.heap.size = w.heap.size from rfl] at hq
      omega⟩, hgaB⟩
  have hf := find_any (w1.setCell ⟨ga, 0, none⟩ v') vl objs id (hv2.up (Nat.le_trans hB hm2.size))
  have c0 := cell_of_row w ci 0 _ _ _ hi
  have c1 := cell_of_row w ga 0 _ _ _ ha
  have d0 := cell_of_row _ ci 0 _ _ _ hi0
  have d1 := cell_of_row _ ga 0 _ _ _ ha0
  have e0 := cell_of_row _ ci 0 _ _ _ hi1
  have g0 := cell_of_row _ ci 0 _ _ _ hi2
  have g1 := cell_of_row _ cl 0 _ _ _ hl2
  have c2 := cell_of_row w1 ga 0 _ _ _ ha1
  simp only [List.getElem?_toArray, List.getElem?_cons_zero] at c0 c1 c2 d0 d1 e0 g0 g1
  have f2 := frozen0 (j := 0) ha1
  have hko : KO w (w1.setCell ⟨ga, 0, none⟩ v') := ((((KO.refl w).more hb0).drew).grown hw0 hgr).set ha1 _
  have HA := hide (And.intro hA (And.intro hm2 hko))
  obtain ⟨ao', m', ca', rfl⟩ := row_form hrow1
  obtain ⟨al, cap, rfl, -⟩ := hv
  obtain ⟨s, k, hfv⟩ := foundV_form (findO objs id)
  rw [hfv] at hf ⊢
  clear hks hnx hko hm1 hi hl ha hw hgr hrow1 hb0 hw0 hi0 hl0 ha0 hi1 hl1 ha1 hi2 hl2 hv2 h hfv hA hm2
  go_enter Tryz.func38, Tryz.ntmps38
  go_wp2_with fail
  refine wp_region_held_drew (S := fun W => W.cell? ⟨ci, 0, none⟩ = some (.pointer (some ⟨ga, 0, none⟩))) (by kernel_rfl) (c0) (fun hHeld => ?_)
  refine takeJ 0 (v := ?_) ?_ hHeld ?_
  rotate_left
  · intro w hS; (try dsimp only at hS); go_simp; try with_reducible rfl
  refine takeJ 1 (v := ?_) ?_ hHeld ?_
  rotate_left
  · intro w hS; (try dsimp only at hS); go_simp; try with_reducible rfl
  refine takeJ 2 (v := ?_) ?_ hHeld ?_
  rotate_left
  · intro w hS; (try dsimp only at hS); go_simp; try with_reducible rfl
  refine takeJ 4 (v := ?_) ?_ hHeld ?_
  rotate_left
  · intro w hS; (try dsimp only at hS); go_simp; try with_reducible rfl
  refine twoH (i := 3) (j := 5) rfl rfl (by kernel_rfl) rfl rfl (fun K hK => ?_) (fun K hK => ?_)
  · go_simp
    refine hK.out _ _ (c0) (fun hHeld => ?_)
    clear hK K
    try simp only [Act.put, List.setIfInBounds_toArray, List.set_cons_zero, List.set_cons_succ]
    refine onlyH (i := 5) rfl (by kernel_rfl) rfl (fun K hK => ?_)
    go_simp
    refine hK.out _ _ (d0) (fun hHeld => ?_)
    clear hK K
    try simp only [Act.put, List.setIfInBounds_toArray, List.set_cons_zero, List.set_cons_succ]
    refine onlyH (i := 6) rfl (by kernel_rfl) rfl (fun K hK => ?_)
    refine wp_append_run (.tmp 9) (.tmp 11) 32 rfl rfl rfl hrun ?_
    refine hK.out _ _ (e0) (fun hHeld => ?_)
    clear hK K
    try simp only [Act.put, List.setIfInBounds_toArray, List.set_cons_zero, List.set_cons_succ]
    refine takeJ 7 (v := ?_) ?_ hHeld ?_
    rotate_left
    · intro w hS; (try dsimp only at hS); go_simp; try with_reducible rfl
    refine onlyH (i := 8) rfl (by kernel_rfl) rfl (fun K hK => ?_)
    go_simp
    refine hK.out _ _ (g0) (fun hHeld => ?_)
    clear hK K
    try simp only [Act.put, List.setIfInBounds_toArray, List.set_cons_zero, List.set_cons_succ]
    refine wpAnyH_done (by kernel_rfl) ?_ _
    clear hHeld
    go_wp2_with fail
    refine hf.mono ?_
    rintro e w1 ⟨rfl, rfl⟩
    go_wp2
    go_ret2
    exact ⟨rfl, HA.out.1, HA.out.2.1, HA.out.2.2⟩
  · go_simp
    refine hK.out _ _ (d0) (fun hHeld => ?_)
    clear hK K
    try simp only [Act.put, List.setIfInBounds_toArray, List.set_cons_zero, List.set_cons_succ]
    refine onlyH (i := 3) rfl (by kernel_rfl) rfl (fun K hK => ?_)
    go_simp
    refine hK.out _ _ (d0) (fun hHeld => ?_)
    clear hK K
    try simp only [Act.put, List.setIfInBounds_toArray, List.set_cons_zero, List.set_cons_succ]
    refine onlyH (i := 6) rfl (by kernel_rfl) rfl (fun K hK => ?_)
    refine wp_append_run (.tmp 9) (.tmp 11) 32 rfl rfl rfl hrun ?_
    refine hK.out _ _ (e0) (fun hHeld => ?_)
    clear hK K
    try simp only [Act.put, List.setIfInBounds_toArray, List.set_cons_zero, List.set_cons_succ]
    refine takeJ 7 (v := ?_) ?_ hHeld ?_
    rotate_left
    · intro w hS; (try dsimp only at hS); go_simp; try with_reducible rfl
    refine onlyH (i := 8) rfl (by kernel_rfl) rfl (fun K hK => ?_)
    go_simp
    refine hK.out _ _ (g0) (fun hHeld => ?_)
    clear hK K
    try simp only [Act.put, List.setIfInBounds_toArray, List.set_cons_zero, List.set_cons_succ]
    refine wpAnyH_done (by kernel_rfl) ?_ _
    clear hHeld
    go_wp2_with fail
    refine hf.mono ?_
    rintro e w1 ⟨rfl, rfl⟩
    go_wp2
    go_ret2
    exact ⟨rfl, HA.out.1, HA.out.2.1, HA.out.2.2⟩
theorem get_askK (ks : Kept) (ts : List TypeId) (hn : 83 ∈ ts) (h1 : 37 ∉ ts) (h2 : 25 ∉ ts) (h3 : 32 ∉ ts) (h4 : 9 ∉ ts) (B ci cl ga : Nat) (objs : List Pair) (hs : ∀ o ∈ objs, o.2.length ≤ 140737488351232) :
    GetOk 38 #[.pointer (some ⟨ci, 0, none⟩), .pointer (some ⟨cl, 0, none⟩)] (findO objs) B ts (fun W a => AskK ks B W ci cl ga objs a) where
  eg := enters_own Tryz.func38 (by kernel_rfl) rfl
  le W a h := h.w.le
  mv h hm := h.mv hm h1 h2 h3 h4
  call W a id h hn' := asked1_k ks B W ci cl ga objs a id h hn'
  node := hn
  short id b h := findO_short hs id b h
end Go.Proofs.YtimbleaafoiidaaGreatDoor

/-
  Are two lists of objects the same? Conditions: they lie there.
-/
namespace Go.Proofs.YtimbleaafoiidaaGreatDoor
open Go.RowKit

def same1 {α : Type} [DecidableEq α] (x y : α) : Bool := decide (x = y)
theorem same1_true {α : Type} [DecidableEq α] {x y : α} (h : x = y) : same1 x y = true := decide_eq_true h
theorem same1_false {α : Type} [DecidableEq α] {x y : α} (h : ¬ x = y) : same1 x y = false := decide_eq_false h
theorem take_step {α : Type} {xs ys : List α} {k : Nat} (h1 : k < xs.length) (h2 : k < ys.length) (h : xs.take k = ys.take k) (he : xs[k] = ys[k]) : xs.take (k + 1) = ys.take (k + 1) := by
  rw [List.take_succ_eq_append_getElem h1, List.take_succ_eq_append_getElem h2, h, he]
end Go.Proofs.YtimbleaafoiidaaGreatDoor

/-
  Whoever stops early was told the same pairs, and no more was asked. No program here.
-/
namespace Go.Proofs.YtimbleaafoiidaaGreatDoor
open Go.RowKit

/-- Is a pair another than the one that was got at its place? -/
def wrong (got : List Pair) (n : Nat) (x : Pair) : Bool := match got[n]? with
  | some y => !(same1 x y)
  | none => false
/-- Whoever counts, holds each pair against what was got, and stops at a number. -/
def stopSink (got : List Pair) (most : Int) : Sink (Nat × Bool) where
  st s x := if wrong got s.1 x then ((s.1, true), false) else ((s.1 + 1, false), decide ((s.1 : Int) + 1 < most))
  er s _ := (s.1, wrong got s.1 ([], []))
  cap s := s.1
  grows s x := by split <;> simp
  stays s e := by simp
theorem right_here {got out : List Pair} {x : Pair} (h : out ++ [x] <+: got) : wrong got out.length x = false := by
  obtain ⟨r, rfl⟩ := h
  unfold wrong
  simp [same1]
theorem right_end {got : List Pair} (x : Pair) : wrong got got.length x = false := by
  unfold wrong
  simp
/-- More was told, more was asked. -/
def MoreT (t : Tst (List Pair × Int)) (u : Tst (List Pair × Int)) : Prop := t.s.1 <+: u.s.1 ∧ t.asked <+: u.asked
theorem MoreT.refl (t : Tst (List Pair × Int)) : MoreT t t := ⟨List.prefix_refl _, List.prefix_refl _⟩
theorem MoreT.trans {t u v : Tst (List Pair × Int)} (h : MoreT t u) (g : MoreT u v) : MoreT t v := ⟨h.1.trans g.1, h.2.trans g.2⟩
theorem tellT_more (lo hi : Bs) : ∀ (ps : List Pair) (t : Tst (List Pair × Int)), MoreT t (tellT listSink lo hi ps t).1
  | [], t => MoreT.refl t
  | x :: r, t => by
    rw [tellT]
    split
    · split
      · split
        · have := tellT_more lo hi r ⟨t.asked, x.1, (listSink.st t.s x).1⟩
          exact ⟨(List.prefix_append _ _).trans this.1, this.2⟩
        · exact ⟨List.prefix_append _ _, List.prefix_refl _⟩
      · exact MoreT.refl _
    · exact tellT_more lo hi r t
theorem eachT_more {f : Link → Tst (List Pair × Int) → Tst (List Pair × Int) × Bool} {lo hi : Bs} (hf : ∀ k t, MoreT t (f k t).1) : ∀ (ks : List Link) (t : Tst (List Pair × Int)), MoreT t (eachT f lo hi ks t).1
  | [], t => MoreT.refl t
  | k :: r, t => by
    rw [eachT]
    split
    · split
      · exact MoreT.refl _
      · exact eachT_more hf r t
    · split
      · split
        · exact hf k t
        · exact (hf k t).trans (eachT_more hf r _)
      · exact hf k t
theorem intoT_more {f : Link → Int → Tst (List Pair × Int) → Tst (List Pair × Int) × Bool} {lo hi : Bs} (hf : ∀ k l t, MoreT t (f k l t).1) (a : Int × NodeM) (t : Tst (List Pair × Int)) : MoreT t (intoT listSink f lo hi a t).1 := by
  unfold intoT
  split
  · exact ⟨List.prefix_refl _, List.prefix_refl _⟩
  · split
    · exact (tellT_more lo hi _ t).trans (eachT_more (fun k t => hf k _ t) _ _)
    · exact tellT_more lo hi _ t
theorem goT_more (fd : Bs → Option Bs) (lo hi : Bs) : ∀ (d : Nat) (k : Link) (l : Int) (t : Tst (List Pair × Int)), MoreT t (goT listSink fd lo hi d k l t).1
  | 0, _, _, t => MoreT.refl t
  | d + 1, k, l, t => by
    rw [goT]
    have := intoT_more (lo := lo) (hi := hi) (goT_more fd lo hi d) (askM fd k l) ⟨t.asked ++ [k.2.1], t.told, t.s⟩
    exact ⟨this.1, (List.prefix_append _ _).trans this.2⟩
/-- So far both were told the same. -/
def AlikeT (u : Tst (Nat × Bool)) (t : Tst (List Pair × Int)) : Prop := u.asked = t.asked ∧ u.told = t.told ∧ u.s.1 = t.s.1.length ∧ u.s.2 = false
/-- What was got is what the one who never stops is told. -/
def GotT (got : List Pair) (t : Tst (List Pair × Int) × Bool) : Prop := t.1.s.1 <+: got ∧ (t.2 = false → t.1.s.1 = got)
/-- Beside one who never stops. -/
def BesideT (u : Tst (Nat × Bool) × Bool) (t : Tst (List Pair × Int) × Bool) : Prop := (u.2 = true → t.2 = true ∧ AlikeT u.1 t.1) ∧ (u.2 = false → u.1.s.2 = false ∧ u.1.asked <+: t.1.asked)
theorem tellT_beside (got : List Pair) (most : Int) (lo hi : Bs) : ∀ (ps : List Pair) (u : Tst (Nat × Bool)) (t : Tst (List Pair × Int)), AlikeT u t → GotT got (tellT listSink lo hi ps t) → BesideT (tellT (stopSink got most) lo hi ps u) (tellT listSink lo hi ps t)
  | [], u, t, h, _ => ⟨fun _ => ⟨rfl, h⟩, fun h => by simp [tellT] at h⟩
  | x :: r, u, t, h, hg => by
    rw [tellT] at hg ⊢
    rw [tellT]
    by_cases h1 : inM lo hi x.1 = true
    rotate_left
    · rw [if_neg h1] at hg ⊢
      rw [if_neg h1]
      exact tellT_beside got most lo hi r u t h hg
    rw [if_pos h1] at hg ⊢
    rw [if_pos h1, h.2.1]
    by_cases h2 : ltB t.told x.1 = true
    · rw [if_pos h2] at hg ⊢
      rw [if_pos h2]
      rw [if_pos (show (listSink.st t.s x).2 = true from rfl)] at hg ⊢
      have hm := tellT_more lo hi r ⟨t.asked, x.1, (listSink.st t.s x).1⟩
      have hw : wrong got u.s.1 x = false := by
        rw [h.2.2.1]
        exact right_here (hm.1.trans hg.1)
      have hst : (stopSink got most).st u.s x = ((u.s.1 + 1, false), decide ((u.s.1 : Int) + 1 < most)) := by
        show (if wrong got u.s.1 x then _ else _) = _
        rw [hw]
        rfl
      rw [hst]
      by_cases h3 : (u.s.1 : Int) + 1 < most
      · rw [if_pos (by simpa using h3)]
        exact tellT_beside got most lo hi r _ _ ⟨h.1, rfl, by show u.s.1 + 1 = (t.s.1 ++ [x]).length; simp [h.2.2.1], rfl⟩ hg
      · rw [if_neg (by simpa using h3)]
        exact ⟨(fun h => by cases h), fun _ => ⟨rfl, by show u.asked <+: _; rw [h.1]; exact hm.2⟩⟩
    · rw [if_neg h2] at hg ⊢
      rw [if_neg h2]
      have hgo : t.s.1 = got := hg.2 rfl
      refine ⟨(fun h => by cases h), fun _ => ⟨?_, by show u.asked <+: _; rw [h.1]; exact List.prefix_refl _⟩⟩
      show wrong got u.s.1 ([], []) = false
      rw [h.2.2.1, hgo]
      exact right_end _
theorem eachT_beside {got : List Pair} {f2 : Link → Tst (Nat × Bool) → Tst (Nat × Bool) × Bool} {f1 : Link → Tst (List Pair × Int) → Tst (List Pair × Int) × Bool} {lo hi : Bs} (hm : ∀ k t, MoreT t (f1 k t).1) (hf : ∀ k u t, AlikeT u t → GotT got (f1 k t) → BesideT (f2 k u) (f1 k t)) :
    ∀ (ks : List Link) (u : Tst (Nat × Bool)) (t : Tst (List Pair × Int)), AlikeT u t → GotT got (eachT f1 lo hi ks t) → BesideT (eachT f2 lo hi ks u) (eachT f1 lo hi ks t)
  | [], u, t, h, _ => ⟨fun _ => ⟨rfl, h⟩, fun h => by simp [eachT] at h⟩
  | k :: r, u, t, h, hg => by
    rw [eachT] at hg ⊢
    rw [eachT]
    by_cases h1 : ltB k.1 lo = true
    · rw [if_pos h1] at hg ⊢
      rw [if_pos h1]
      by_cases h2 : endM hi k.1 = true
      · rw [if_pos h2] at hg ⊢
        rw [if_pos h2]
        exact ⟨fun _ => ⟨rfl, h⟩, fun h => by cases h⟩
      · rw [if_neg h2] at hg ⊢
        rw [if_neg h2]
        exact eachT_beside hm hf r u t h hg
    rw [if_neg h1] at hg ⊢
    rw [if_neg h1]
    by_cases h3 : (f1 k t).2 = true
    rotate_left
    · rw [if_neg h3] at hg ⊢
      have hb := hf k u t h ⟨hg.1, fun _ => hg.2 rfl⟩
      by_cases h4 : (f2 k u).2 = true
      · exact absurd (hb.1 h4).1 h3
      · rw [if_neg h4]
        exact ⟨(fun h => by cases h), fun _ => hb.2 (by simpa using h4)⟩
    rw [if_pos h3] at hg ⊢
    have hgk : GotT got (f1 k t) := ⟨by
      by_cases h2 : endM hi k.1 = true
      · rw [if_pos h2] at hg
        exact hg.1
      · rw [if_neg h2] at hg
        exact (eachT_more hm r _).1.trans hg.1, fun h => by rw [h3] at h; cases h⟩
    have hb := hf k u t h hgk
    by_cases h4 : (f2 k u).2 = true
    · rw [if_pos h4]
      obtain ⟨-, ha⟩ := hb.1 h4
      by_cases h2 : endM hi k.1 = true
      · rw [if_pos h2] at hg ⊢
        rw [if_pos h2]
        exact ⟨fun _ => ⟨rfl, ha⟩, fun h => by cases h⟩
      · rw [if_neg h2] at hg ⊢
        rw [if_neg h2]
        exact eachT_beside hm hf r _ _ ha hg
    · rw [if_neg h4]
      obtain ⟨h5, h6⟩ := hb.2 (by simpa using h4)
      refine ⟨(fun h => by cases h), fun _ => ⟨h5, ?_⟩⟩
      by_cases h2 : endM hi k.1 = true
      · rw [if_pos h2]
        exact h6
      · rw [if_neg h2]
        exact h6.trans (eachT_more hm r _).2
theorem intoT_beside {got : List Pair} {most : Int} {f2 : Link → Int → Tst (Nat × Bool) → Tst (Nat × Bool) × Bool} {f1 : Link → Int → Tst (List Pair × Int) → Tst (List Pair × Int) × Bool} {lo hi : Bs} (hm : ∀ k l t, MoreT t (f1 k l t).1) (hf : ∀ k l u t, AlikeT u t → GotT got (f1 k l t) → BesideT (f2 k l u) (f1 k l t))
    (a : Int × NodeM) (u : Tst (Nat × Bool)) (t : Tst (List Pair × Int)) (h : AlikeT u t) (hg : GotT got (intoT listSink f1 lo hi a t)) : BesideT (intoT (stopSink got most) f2 lo hi a u) (intoT listSink f1 lo hi a t) := by
  unfold intoT at hg ⊢
  by_cases h1 : a.1 ≠ 0
  · rw [if_pos h1] at hg ⊢
    rw [if_pos h1]
    have hgo : t.s.1 = got := hg.2 rfl
    refine ⟨(fun h => by cases h), fun _ => ⟨?_, by show u.asked <+: _; rw [h.1]; exact List.prefix_refl _⟩⟩
    show wrong got u.s.1 ([], []) = false
    rw [h.2.2.1, hgo]
    exact right_end _
  rw [if_neg h1] at hg ⊢
  rw [if_neg h1]
  by_cases h3 : (tellT listSink lo hi a.2.2.1 t).2 = true
  rotate_left
  · rw [if_neg h3] at hg ⊢
    have hb := tellT_beside got most lo hi _ u t h ⟨hg.1, fun _ => hg.2 rfl⟩
    by_cases h4 : (tellT (stopSink got most) lo hi a.2.2.1 u).2 = true
    · exact absurd (hb.1 h4).1 h3
    · rw [if_neg h4]
      exact ⟨(fun h => by cases h), fun _ => hb.2 (by simpa using h4)⟩
  rw [if_pos h3] at hg ⊢
  have hb := tellT_beside got most lo hi a.2.2.1 u t h ⟨(eachT_more (fun k t => hm k _ t) _ _).1.trans hg.1, fun h => by rw [h3] at h; cases h⟩
  by_cases h4 : (tellT (stopSink got most) lo hi a.2.2.1 u).2 = true
  · rw [if_pos h4]
    exact eachT_beside (fun k t => hm k _ t) (fun k u t => hf k _ u t) _ _ _ (hb.1 h4).2 hg
  · rw [if_neg h4]
    obtain ⟨h5, h6⟩ := hb.2 (by simpa using h4)
    exact ⟨(fun h => by cases h), fun _ => ⟨h5, h6.trans (eachT_more (fun k t => hm k _ t) _ _).2⟩⟩
theorem goT_beside (got : List Pair) (most : Int) (fd : Bs → Option Bs) (lo hi : Bs) : ∀ (d : Nat) (k : Link) (l : Int) (u : Tst (Nat × Bool)) (t : Tst (List Pair × Int)), AlikeT u t → GotT got (goT listSink fd lo hi d k l t) → BesideT (goT (stopSink got most) fd lo hi d k l u) (goT listSink fd lo hi d k l t)
  | 0, _, _, u, t, h, _ => ⟨fun h => (by cases h), fun _ => ⟨h.2.2.2, by show u.asked <+: t.asked; rw [h.1]; exact List.prefix_refl _⟩⟩
  | d + 1, k, l, u, t, h, hg => by
    rw [goT] at hg ⊢
    rw [goT]
    exact intoT_beside (goT_more fd lo hi d) (goT_beside got most fd lo hi d) _ _ _ ⟨by show u.asked ++ _ = t.asked ++ _; rw [h.1], h.2.1, h.2.2.1, h.2.2.2⟩ hg
/-- Who stops early, behind a whole run. -/
theorem goT_stops (most : Int) (fd : Bs → Option Bs) (lo hi : Bs) (d : Nat) (k : Link) (l : Int) : (goT (stopSink (goT listSink fd lo hi d k l ⟨[], [], ([], 0)⟩).1.s.1 most) fd lo hi d k l ⟨[], [], (0, false)⟩).1.s.2 = false ∧ (goT (stopSink (goT listSink fd lo hi d k l ⟨[], [], ([], 0)⟩).1.s.1 most) fd lo hi d k l ⟨[], [], (0, false)⟩).1.asked <+: (goT listSink fd lo hi d k l ⟨[], [], ([], 0)⟩).1.asked := by
  have := goT_beside (goT listSink fd lo hi d k l ⟨[], [], ([], 0)⟩).1.s.1 most fd lo hi d k l ⟨[], [], (0, false)⟩ ⟨[], [], ([], 0)⟩ ⟨rfl, rfl, rfl, rfl⟩ ⟨List.prefix_refl _, fun _ => rfl⟩
  cases hb : (goT (stopSink (goT listSink fd lo hi d k l ⟨[], [], ([], 0)⟩).1.s.1 most) fd lo hi d k l ⟨[], [], (0, false)⟩).2 with
  | true =>
    obtain ⟨-, ha⟩ := this.1 hb
    exact ⟨ha.2.2.2, by rw [ha.1]; exact List.prefix_refl _⟩
  | false => exact this.2 hb
end Go.Proofs.YtimbleaafoiidaaGreatDoor

/-
  Are two lists of pairs the same? Conditions: they lie there.
-/
namespace Go.Proofs.YtimbleaafoiidaaGreatDoor
open Go.RowKit

theorem Tryz.eqPair : Tryz.prog.underlying 60 = some (.struct (Tryz.prog.fieldsOf 60)) ∧ Tryz.prog.stoodInHeld 60 = false ∧ Tryz.prog.eqGuardType Tryz.prog.depth 60 = false := ⟨by kernel_rfl, by kernel_rfl, by kernel_rfl⟩
theorem neq_Pair (W : World) (a0 b0 a1 b1 : Bs) : (binOp .neq 60 (.agg #[.string (strB a0), .string (strB a1)]) (.agg #[.string (strB b0), .string (strB b1)])).run Tryz.prog W = .ok (.bool (!(a0 == b0 && a1 == b1))) W := by
  obtain ⟨h1, h2, h3⟩ := Tryz.eqPair
  rw [run_neq_struct, run_equalIn_agg _ _ _ _ _ h1 h2]
  simp only [Program.fieldsOf, Tryz.underlying60]
  by_cases q0 : a0 = b0 <;> by_cases q1 : a1 = b1 <;> simp [Op.eqFields, go_sem, Tryz.underlying9, toL, q0, q1]
theorem neqPair (W : World) (x y : Pair) : (binOp .neq 60 (.agg #[.string (strB x.1), .string (strB x.2)]) (.agg #[.string (strB y.1), .string (strB y.2)])).run Tryz.prog W = .ok (.bool (!(same1 x y))) W := by
  rw [neq_Pair, show (x.1 == y.1 && x.2 == y.2) = same1 x y from by unfold same1; rw [Bool.eq_iff_iff]; simp [Prod.ext_iff]]
set_option maxRecDepth 20000 in
set_option maxHeartbeats 800000 in
theorem same_pairs (w : World) (xs ys : List Pair) (vx vy : Value) (hvx : Ls w.heap.size w 2 pairC vx xs) (hvy : Ls w.heap.size w 2 pairC vy ys) :
    Calls Tryz.prog 22 #[vx, vy] w fun e w' => e = .returned (.bool (decide (xs = ys))) ∧ Below w.heap.size w w' := by
  obtain ⟨ax, capx, rfl, gx1, gx2, hx⟩ := hvx
  obtain ⟨ay, capy, rfl, gy1, gy2, hy⟩ := hvy
  unfold maxLen at gx2 gy2
  by_cases hle : xs.length = ys.length
  rotate_left
  · have hle' : ((xs.length : Int) == (ys.length : Int)) = false := by simp; omega
    go_enter Tryz.func22, Tryz.ntmps22
    go_wp2_with fail
    skip
    try go_wp2
    go_ret
    exact ⟨ret_bool (Eq.symm (decide_eq_false (fun e => hle (congrArg List.length e)))), Below.refl _ _⟩
  rw [hle] at gx1 ⊢
  have HLE := hide hle
  clear hle
  go_enter Tryz.func22, Tryz.ntmps22
  go_wp2_with fail
  skip
  go_loopw [5] (fun t wr => ∃ k : Nat, k ≤ ys.length ∧ t = .int .i64 k ∧ xs.take k = ys.take k ∧ Below w.heap.size w wr)
    (fun t _ => ys.length - (intOf t).toNat)
  case atStart => exact ⟨0, by omega, rfl, by simp, Below.refl _ _⟩
  case round =>
    obtain ⟨k, hk, rfl, htk, hbr⟩ := hrel
    have hbw : Below w.heap.size w wr := hbr
    have HB := hide hbr
    have HBW := hide hbw
    have HTK := hide htk
    clear hbr hbw htk
    by_cases hlt2 : k < ys.length
    · have hlt : k < xs.length := by rw [HLE.out]; exact hlt2
      obtain ⟨bx, offx, rfl, hbX, hcx⟩ := hx (by intro e; rw [e] at hlt; simp at hlt)
      obtain ⟨bY, offy, rfl, hbYl, hcy⟩ := hy (by intro e; rw [e] at hlt2; simp at hlt2)
      have c0 := (HBW.out.cell (p := ⟨bx, offx + k * 2 + 0, none⟩) hbX).trans (hcx k hlt 0 _ rfl)
      have d0 := (HBW.out.cell (p := ⟨bY, offy + k * 2 + 0, none⟩) hbYl).trans (hcy k hlt2 0 _ rfl)
      have c1 := (HBW.out.cell (p := ⟨bx, offx + k * 2 + 1, none⟩) hbX).trans (hcx k hlt 1 _ rfl)
      have d1 := (HBW.out.cell (p := ⟨bY, offy + k * 2 + 1, none⟩) hbYl).trans (hcy k hlt2 1 _ rfl)
      have hst := fun he => take_step hlt hlt2 HTK.out he
      have hno : xs[k] ≠ ys[k] → xs ≠ ys := fun hne e => hne (by simp only [e])
      generalize xs[k] = x at *
      generalize ys[k] = y at *
      try simp only [Nat.add_zero] at c0 d0 c1 d1
      have HST := hide hst
      have HNO := hide hno
      have hnq : ∀ W, _ := fun W => neqPair W x y
      clear hst hno hcx hcy hx hy hlt
      go_wp2_with fail
      refine wp_region_held_drew (S := fun W => W.cell? ⟨bx, offx + k * 2, none⟩ = some (.string (strB x.1)) ∧ W.cell? ⟨bx, offx + k * 2 + 1, none⟩ = some (.string (strB x.2)) ∧ W.cell? ⟨bY, offy + k * 2, none⟩ = some (.string (strB y.1)) ∧ W.cell? ⟨bY, offy + k * 2 + 1, none⟩ = some (.string (strB y.2))) (by kernel_rfl) (⟨c0, c1, d0, d1⟩) (fun hHeld => ?_)
      refine takeJ 0 (v := ?_) ?_ hHeld ?_
      rotate_left
      · rintro w ⟨_, _, _, _⟩; go_simp; try with_reducible rfl
      refine takeJ 1 (v := ?_) ?_ hHeld ?_
      rotate_left
      · rintro w ⟨_, _, _, _⟩; go_simp; try with_reducible rfl
      refine takeJ 2 (v := ?_) ?_ hHeld ?_
      rotate_left
      · rintro w ⟨_, _, _, _⟩; go_simp; try with_reducible rfl
      refine takeJ 3 (v := ?_) ?_ hHeld ?_
      rotate_left
      · rintro w ⟨_, _, _, _⟩; go_simp; try with_reducible rfl
      refine takeJ 4 (v := ?_) ?_ hHeld ?_
      rotate_left
      · rintro w ⟨_, _, _, _⟩; go_simp; try with_reducible rfl
      refine takeJ 5 (v := ?_) ?_ hHeld ?_
      rotate_left
      · rintro w ⟨_, _, _, _⟩; go_simp; try with_reducible rfl
      refine takeJ 6 (v := ?_) ?_ hHeld ?_
      rotate_left
      · rintro w ⟨_, _, _, _⟩; go_simp; try with_reducible rfl
      refine takeJ 7 (v := ?_) ?_ hHeld ?_
      rotate_left
      · rintro w ⟨_, _, _, _⟩; go_simp; try with_reducible rfl
      refine takeJ 8 (v := ?_) ?_ hHeld ?_
      rotate_left
      · rintro w ⟨_, _, _, _⟩; go_simp; try with_reducible rfl
      refine wpAnyH_done (by kernel_rfl) ?_ _
      clear hHeld hnq
      have hbD : Below w.heap.size w wr.drew := HB.out.drew
      have HBD := hide hbD
      clear hbD
      by_cases he : x = y
      · have hbe := same1_true he
        rw [hbe]
        go_wp2
        go_roundw
        case rel => exact ⟨k + 1, by omega, by go_num, HST.out he, HBD.out⟩
        case measure => simp [intOf]; omega
      · have hbe := same1_false he
        rw [hbe]
        go_wp2
        go_ret
        exact ⟨ret_bool (Eq.symm (decide_eq_false (fun e => HNO.out he (e)))), HBD.out⟩
    · have hall : xs = ys := by
        have := HTK.out
        have hL := HLE.out
        rwa [List.take_of_length_le (by omega), List.take_of_length_le (by omega)] at this
      go_wp2
      go_ret
      exact ⟨ret_bool (Eq.symm (decide_eq_true (hall))), HBW.out⟩
end Go.Proofs.YtimbleaafoiidaaGreatDoor

/-
  The reference's list under way. Conditions: not too many.
-/
namespace Go.Proofs.YtimbleaafoiidaaGreatDoor
open Go.RowKit

/-- The reference's list g: the objects, what was asked, told (the row vp), the first error. -/
def RlW (B : Nat) (w : World) (g : Nat) (vo : Value) (objs : List Pair) (vp : Value) (s : LsS) : Prop :=
  B ≤ g ∧ Ls B w 2 pairC vo objs ∧ ∃ va, w.heap[g]? = some (.cells #[vo, va, vp, .int .i64 s.bad] 102) ∧ Rw B w 9 1 idC va s.asked ∧ Rw B w 60 2 pairC vp s.out
/-- What it moves. -/
abbrev lts : List TypeId := [9, 102]
theorem RlW.le {B : Nat} {w : World} {g : Nat} {vo : Value} {objs : List Pair} {vp : Value} {s : LsS} (h : RlW B w g vo objs vp s) : B ≤ w.heap.size := by
  obtain ⟨hg, -, va, hh, -⟩ := h
  have := lt_of_heap hh
  omega
theorem RlW.below {B : Nat} {w w' : World} {g : Nat} {vo : Value} {objs : List Pair} {vp : Value} {s : LsS} (h : RlW B w g vo objs vp s) (hb : Below w.heap.size w w') : RlW B w' g vo objs vp s := by
  have hB := h.le
  obtain ⟨hg, hl, va, hh, h1, h3⟩ := h
  exact ⟨hg, hl.keep (hb.mono hB), va, (hb.block _ (lt_of_heap hh)).trans hh, own_same h1 (fun q hq => hb.block q (h1.lt q hq).2), own_same h3 (fun q hq => hb.block q (h3.lt q hq).2)⟩
theorem RlW.lt {B : Nat} {w : World} {g : Nat} {vo : Value} {objs : List Pair} {vp : Value} {s : LsS} (h : RlW B w g vo objs vp s) {q : Nat} (hq : vp.ownBlock = some q) : q < w.heap.size := by
  obtain ⟨-, -, va, -, -, h3⟩ := h
  exact (h3.lt q hq).2
theorem set4 {w : World} {g : Nat} {v0 v1 v2 v3 : Value} {t : TypeId} (h : w.heap[g]? = some (.cells #[v0, v1, v2, v3] t)) (u : Value) :
    (w.setCell ⟨g, 1, none⟩ u).heap[g]? = some (.cells #[v0, u, v2, v3] t) ∧ (w.setCell ⟨g, 2, none⟩ u).heap[g]? = some (.cells #[v0, v1, u, v3] t) ∧ (w.setCell ⟨g, 3, none⟩ u).heap[g]? = some (.cells #[v0, v1, v2, u] t) := by
  refine ⟨?_, ?_, ?_⟩ <;> (rw [heap_setCell _ _ _ _ _ _ _ h]; simp)
/-- One more is asked. -/
theorem RlW.ask {B : Nat} {w : World} {g : Nat} {vo : Value} {objs : List Pair} {vp : Value} {s : LsS} (h : RlW B w g vo objs vp s) (id : Bs) (hn : s.asked.length ≤ 4294967296) :
    ∃ va va' w1, w.heap[g]? = some (.cells #[vo, va, vp, .int .i64 s.bad] 102) ∧ (∃ a m c, va' = .slice a m c) ∧
      (Builtin.append_ #[32, 32] 32 #[va, .slice (some ⟨w.heap.size, 0, none⟩) 1 1]).run Tryz.prog (w.alloc (.cells #[.string (strB id)] 9)).drew = .ok va' w1 ∧
      w1.heap[g]? = some (.cells #[vo, va, vp, .int .i64 s.bad] 102) ∧ RlW B (w1.setCell ⟨g, 1, none⟩ va') g vo objs vp ⟨s.asked ++ [id], s.out, s.bad⟩ ∧ Mv B lts none w w1 ∧ Mv B lts none w (w1.setCell ⟨g, 1, none⟩ va') := by
  have hB := h.le
  obtain ⟨hg, hl, va, hh, h1, h3⟩ := h
  obtain ⟨va', w1, hrun, hrow, hgr, -⟩ := app_id w.drew B va s.asked id h1 hB hn
  rw [drew_alloc] at hrun hgr
  rw [show w.drew.heap.size = w.heap.size from rfl] at hrun
  have h1' : Rw B (w.alloc (.cells #[.string (strB id)] 9)).drew 9 1 idC va s.asked := World.ownsRow.alloc h1 _
  have h3' : Rw B (w.alloc (.cells #[.string (strB id)] 9)).drew 60 2 pairC vp s.out := World.ownsRow.alloc h3 _
  have hh' := (heap_past w (.cells #[.string (strB id)] 9) _ (lt_of_heap hh)).trans hh
  have hh1 := grow_keep h1' hgr (show (w.alloc _).drew.heap[g]? = _ from hh') (by decide)
  have hm1 : Mv B lts none w w1 := ((Mv.refl B lts none w).alloc hB _).drew.grown h1' hgr (by decide) (by simp; omega)
  have hm2 := hm1.set (j := 1) hh1 (by decide) hg va'
  refine ⟨va, va', w1, hh, row_form hrow, hrun, hh1, ⟨hg, hl.keep hm2.b, va', (set4 hh1 _).1, own_setCell hrow hh1 (by decide) _, own_setCell (grow_other h3' h1' hgr (own_ne h3' h1' (by decide))) hh1 (by decide) _⟩, hm1, hm2⟩
/-- One more pair is told. -/
theorem RlW.tell {B : Nat} {w : World} {g : Nat} {vo : Value} {objs : List Pair} {vp : Value} {s : LsS} (h : RlW B w g vo objs vp s) (p : Pair) (hn : s.out.length ≤ 4294967296) :
    ∃ va vp' w1, w.heap[g]? = some (.cells #[vo, va, vp, .int .i64 s.bad] 102) ∧ (∃ a m c, vp' = .slice a m c) ∧
      (Builtin.append_ #[22, 22] 22 #[vp, .slice (some ⟨w.heap.size, 0, none⟩) 1 1]).run Tryz.prog (w.alloc (.cells #[.string (strB p.1), .string (strB p.2)] 60)).drew = .ok vp' w1 ∧
      w1.heap[g]? = some (.cells #[vo, va, vp, .int .i64 s.bad] 102) ∧ RlW B (w1.setCell ⟨g, 2, none⟩ vp') g vo objs vp' ⟨s.asked, s.out ++ [p], s.bad⟩ ∧ Mv B lts vp.ownBlock w w1 ∧ Mv B lts vp.ownBlock w (w1.setCell ⟨g, 2, none⟩ vp') ∧ Nx w vp.ownBlock vp'.ownBlock := by
  have hB := h.le
  obtain ⟨hg, hl, va, hh, h1, h3⟩ := h
  obtain ⟨vp', w1, hrun, hrow, hgr, hloc⟩ := app_pair w.drew B vp s.out p h3 hB hn
  rw [drew_alloc] at hrun hgr
  rw [show w.drew.heap.size = w.heap.size from rfl] at hrun hloc
  have h1' : Rw B (w.alloc (.cells #[.string (strB p.1), .string (strB p.2)] 60)).drew 9 1 idC va s.asked := World.ownsRow.alloc h1 _
  have h3' : Rw B (w.alloc (.cells #[.string (strB p.1), .string (strB p.2)] 60)).drew 60 2 pairC vp s.out := World.ownsRow.alloc h3 _
  have hh' := (heap_past w (.cells #[.string (strB p.1), .string (strB p.2)] 60) _ (lt_of_heap hh)).trans hh
  have hh1 := grow_keep h3' hgr (show (w.alloc _).drew.heap[g]? = _ from hh') (by decide)
  have hm1 : Mv B lts vp.ownBlock w w1 := ((Mv.refl B lts vp.ownBlock w).alloc hB _).drew.grownRow h3' hgr (Nx.refl _ _) (by simp; omega)
  have hm2 := hm1.set (j := 2) hh1 (by decide) hg vp'
  refine ⟨va, vp', w1, hh, row_form hrow, hrun, hh1, ⟨hg, hl.keep hm2.b, va, (set4 hh1 _).2.1, own_setCell (grow_other h1' h3' hgr (own_ne h1' h3' (by decide))) hh1 (by decide) _, own_setCell hrow hh1 (by decide) _⟩, hm1, hm2, ?_⟩
  rcases hloc with h | h
  · exact .inl h
  · exact .inr ⟨_, h, by omega⟩
/-- The error is laid. -/
theorem RlW.err {B : Nat} {w : World} {g : Nat} {vo : Value} {objs : List Pair} {vp : Value} {s : LsS} (h : RlW B w g vo objs vp s) (e : Int) : RlW B (w.setCell ⟨g, 3, none⟩ (.int .i64 e)) g vo objs vp ⟨s.asked, s.out, e⟩ ∧ Mv B lts none w (w.setCell ⟨g, 3, none⟩ (.int .i64 e)) := by
  obtain ⟨hg, hl, va, hh, h1, h3⟩ := h
  have hm : Mv B lts none w (w.setCell ⟨g, 3, none⟩ (.int .i64 e)) := (Mv.refl B lts none w).set (j := 3) hh (by decide) hg _
  exact ⟨⟨hg, hl.keep hm.b, va, (set4 hh _).2.2, own_setCell h1 hh (by decide) _, own_setCell h3 hh (by decide) _⟩, hm⟩
/-- The first ones of what is gone to. -/
theorem takeM_skip {lo hi : Bs} {x : Pair} {r : List Pair} {s : LsS} (h : inM lo hi x.1 = false) : takeM lo hi (x :: r) s = takeM lo hi r s := by rw [takeM, if_neg (by rw [h]; simp)]
theorem takeM_stop {lo hi : Bs} {x : Pair} {r : List Pair} {s : LsS} (h : inM lo hi x.1 = true) (h2 : backM s x.1 = true) : takeM lo hi (x :: r) s = ⟨s.asked, s.out, 122⟩ := by rw [takeM, if_pos h, if_pos h2]
theorem takeM_more {lo hi : Bs} {x : Pair} {r : List Pair} {s : LsS} (h : inM lo hi x.1 = true) (h2 : backM s x.1 = false) : takeM lo hi (x :: r) s = takeM lo hi r ⟨s.asked, s.out ++ [x], s.bad⟩ := by rw [takeM, if_pos h, if_neg (by rw [h2]; simp)]
end Go.Proofs.YtimbleaafoiidaaGreatDoor
