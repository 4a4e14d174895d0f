/-
  Texts joined: PSame, PAsked, PFinds, PLists.
-/
import Derived.Test.YtimbleaafoiidaaGreatDoorL23PRow
import Derived.Test.YtimbleaafoiidaaGreatDoorL29PLay0
import Derived.Test.YtimbleaafoiidaaGreatDoorL21PPlain
import Derived.Test.YtimbleaafoiidaaGreatDoorL47PRFind
import Derived.Test.YtimbleaafoiidaaGreatDoorL46PShown
/-
  Are two lists of texts the same? Conditions: they lie there.
-/
namespace Go.Proofs.YtimbleaafoiidaaGreatDoor
open Go.RowKit

set_option maxRecDepth 20000 in
theorem same_ids (w : World) (v u : Value) (xs ys : List Bs) (h : Ls w.heap.size w 1 idC v xs) (k : Ls w.heap.size w 1 idC u ys) :
    Calls Tryz.prog 16 #[v, u] w fun e w' => e = .returned (.bool (decide (xs = ys))) ∧ Below w.heap.size w w' := by
  obtain ⟨ao, ca, rfl, h1, h2, h4⟩ := h
  obtain ⟨bo, cb, rfl, k1, k2, k4⟩ := k
  unfold maxLen at h2 k2
  by_cases hl : xs.length = ys.length
  · go_enter Tryz.func16, Tryz.ntmps16
    go_wp2
    go_loopw [5] (fun t wr => ∃ j : Nat, t = .int .i64 (j : Int) ∧ j ≤ xs.length ∧ (∀ i, i < j → xs[i]? = ys[i]?) ∧ Below w.heap.size w wr)
      (fun t _ => xs.length - (intOf t).toNat)
    case atStart => exact ⟨0, rfl, by omega, (fun i hi => by omega), Below.refl _ _⟩
    case round =>
      obtain ⟨j, rfl, hj, he, hb⟩ := hrel
      by_cases hlt : j < xs.length
      · have hlt2 : j < ys.length := by omega
        obtain ⟨b1, o1, rfl, hb1, hc1⟩ := h4 (by rintro rfl; simp at hlt)
        obtain ⟨b2, o2, rfl, hb2, hc2⟩ := k4 (by rintro rfl; simp at hlt2)
        have c1 := (hb.cell (p := ⟨b1, o1 + j * 1 + 0, none⟩) hb1).trans (hc1 j hlt 0 _ rfl)
        have c2 := (hb.cell (p := ⟨b2, o2 + j * 1 + 0, none⟩) hb2).trans (hc2 j hlt2 0 _ rfl)
        simp only [Nat.mul_one, Nat.add_zero] at c1 c2
        have n1 : xs[j]? = some xs[j] := by simp [hlt]
        have n2 : ys[j]? = some ys[j] := by simp [hlt2]
        clear hc1 hc2 h4 k4
        generalize xs[j] = x at *
        generalize ys[j] = y at *
        have t1 := toL x
        have t2 := toL y
        by_cases hxy : x = y
        · subst hxy
          go_wp2_with fail
          go_region
          go_wp2_with fail
          refine ⟨⟨j + 1, by go_num, by omega, (fun i hi => ?_), hb.drew⟩, by simp [intOf]; omega⟩
          by_cases hij : i = j
          · subst hij; rw [n1, n2]
          · exact he i (by omega)
        · have bxy : (x == y) = false := by simp [hxy]
          go_wp2_with fail
          go_region
          go_wp2_with fail
          go_ret
          refine ⟨?_, hb.drew⟩
          rw [decide_eq_false]
          · rfl
          rintro rfl
          rw [n1] at n2
          exact hxy (Option.some.inj n2)
      · have hjl : j = xs.length := by omega
        subst hjl
        go_wp2_with fail
        go_ret
        refine ⟨?_, hb⟩
        rw [decide_eq_true]
        · rfl
        refine List.ext_getElem? fun i => ?_
        by_cases hi : i < xs.length
        · exact he i hi
        · rw [List.getElem?_eq_none (by omega), List.getElem?_eq_none (by omega)]
  · have hne : ((xs.length : Int) != (ys.length : Int)) = true := by simp; omega
    go_enter Tryz.func16, Tryz.ntmps16
    go_wp2
    go_ret
    refine ⟨?_, Below.refl _ _⟩
    rw [decide_eq_false (fun h => hl (by rw [h]))]
    rfl
end Go.Proofs.YtimbleaafoiidaaGreatDoor

/-
  The get that notes what is asked, and what of records stays. Conditions: what it holds lies there; not too much was asked.
-/
namespace Go.Proofs.YtimbleaafoiidaaGreatDoor
open Go.RowKit

set_option maxRecDepth 20000 in
theorem asked1_ko (B : Nat) (w : World) (ci cl ga : Nat) (objs : List Pair) (asked : List Bs) (id : Bs) (h : AskW B w ci cl ga objs asked) (hn : asked.length ≤ 4294967296) :
    Calls Tryz.prog 38 #[.string (strB id), .pointer (some ⟨ci, 0, none⟩), .pointer (some ⟨cl, 0, none⟩)] w fun e w' => e = .returned (foundV (findO objs id)) ∧ AskW B w' ci cl ga objs (asked ++ [id]) ∧ Mv B ats none w w' ∧ KO w w' := by
  have hB := h.le
  have hgaB := h.base
  obtain ⟨vl, hl, hv⟩ := h.list
  obtain ⟨va, ha, hw⟩ := h.row
  have hi := h.ids
  obtain ⟨v', w1, hrun, hrow1, hgr, -⟩ := app_id w.drew B va asked id hw hB hn
  rw [drew_alloc] at hrun hgr
  rw [show w.drew.heap.size = w.heap.size from rfl] at hrun
  have hb0 : Below w.heap.size w (w.alloc (.cells #[.string (strB id)] 9)) := (Below.refl _ _).alloc (Nat.le_refl _) _
  have hw0 : Rw B (w.alloc (.cells #[.string (strB id)] 9)).drew 9 1 idC va asked := World.ownsRow.alloc hw _
  have hi0 := heap_past w (.cells #[.string (strB id)] 9) _ (lt_of_heap hi) |>.trans hi
  have hl0 := heap_past w (.cells #[.string (strB id)] 9) _ (lt_of_heap hl) |>.trans hl
  have ha0 := heap_past w (.cells #[.string (strB id)] 9) _ (lt_of_heap ha) |>.trans ha
  have hi1 := grow_keep hw0 hgr (show (w.alloc _).drew.heap[ci]? = _ from hi0) (by decide)
  have hl1 := grow_keep hw0 hgr (show (w.alloc _).drew.heap[cl]? = _ from hl0) (by decide)
  have ha1 := grow_keep hw0 hgr (show (w.alloc _).drew.heap[ga]? = _ from ha0) (by decide)
  have hne : ci ≠ ga := ne_type hi1 ha1 (by decide)
  have hne2 : cl ≠ ga := ne_type hl1 ha1 (by decide)
  have hm1 : Mv B ats none w w1 := ((Mv.refl B ats none w).alloc hB _).drew.grown hw0 hgr (by decide) (by simp; omega)
  have hm2 : Mv B ats none w (w1.setCell ⟨ga, 0, none⟩ v') := hm1.set ha1 (by decide) hgaB _
  have hi2 : (w1.setCell ⟨ga, 0, none⟩ v').heap[ci]? = some (.cells #[.pointer (some ⟨ga, 0, none⟩)] 37) := (heap_setOther hne).trans hi1
  have hl2 : (w1.setCell ⟨ga, 0, none⟩ v').heap[cl]? = some (.cells #[vl] 25) := (heap_setOther hne2).trans hl1
  have hv2 : Ls B (w1.setCell ⟨ga, 0, none⟩ v') 2 pairC vl objs := hv.keep hm2.b
  have hA : AskW B (w1.setCell ⟨ga, 0, none⟩ v') ci cl ga objs (asked ++ [id]) := ⟨hi2, ⟨vl, hl2, hv2⟩, ⟨v', heap_set0 ha1, own_setCell hrow1 ha1 (by decide) _⟩, hgaB⟩
  have hf := find_any (w1.setCell ⟨ga, 0, none⟩ v') vl objs id (hv2.up (Nat.le_trans hB hm2.size))
  have c0 := cell_of_row w ci 0 _ _ _ hi
  have c1 := cell_of_row w ga 0 _ _ _ ha
  have d0 := cell_of_row _ ci 0 _ _ _ hi0
  have d1 := cell_of_row _ ga 0 _ _ _ ha0
  have e0 := cell_of_row _ ci 0 _ _ _ hi1
  have g0 := cell_of_row _ ci 0 _ _ _ hi2
  have g1 := cell_of_row _ cl 0 _ _ _ hl2
  have c2 := cell_of_row w1 ga 0 _ _ _ ha1
  simp only [List.getElem?_toArray, List.getElem?_cons_zero] at c0 c1 c2 d0 d1 e0 g0 g1
  have f2 := frozen0 (j := 0) ha1
  have hko : KO w (w1.setCell ⟨ga, 0, none⟩ v') := ((((KO.refl w).more hb0).drew).grown hw0 hgr).set ha1 _
  have HA := hide (And.intro hA (And.intro hm2 hko))
  obtain ⟨ao', m', ca', rfl⟩ := row_form hrow1
  obtain ⟨al, cap, rfl, -⟩ := hv
  obtain ⟨s, k, hfv⟩ := foundV_form (findO objs id)
  rw [hfv] at hf ⊢
  clear hko hm1 hi hl ha hw hgr hrow1 hb0 hw0 hi0 hl0 ha0 hi1 hl1 ha1 hi2 hl2 hv2 h hfv hA hm2
  go_enter Tryz.func38, Tryz.ntmps38
  go_wp2_with fail
  refine wp_region_held_drew (S := fun W => W.cell? ⟨ci, 0, none⟩ = some (.pointer (some ⟨ga, 0, none⟩))) (by kernel_rfl) (c0) (fun hHeld => ?_)
  refine takeJ 0 (v := ?_) ?_ hHeld ?_
  rotate_left
  · intro w hS; (try dsimp only at hS); go_simp; try with_reducible rfl
  refine takeJ 1 (v := ?_) ?_ hHeld ?_
  rotate_left
  · intro w hS; (try dsimp only at hS); go_simp; try with_reducible rfl
  refine takeJ 2 (v := ?_) ?_ hHeld ?_
  rotate_left
  · intro w hS; (try dsimp only at hS); go_simp; try with_reducible rfl
  refine takeJ 4 (v := ?_) ?_ hHeld ?_
  rotate_left
  · intro w hS; (try dsimp only at hS); go_simp; try with_reducible rfl
  refine twoH (i := 3) (j := 5) rfl rfl (by kernel_rfl) rfl rfl (fun K hK => ?_) (fun K hK => ?_)
  · go_simp
    refine hK.out _ _ (c0) (fun hHeld => ?_)
    clear hK K
    try simp only [Act.put, List.setIfInBounds_toArray, List.set_cons_zero, List.set_cons_succ]
    refine onlyH (i := 5) rfl (by kernel_rfl) rfl (fun K hK => ?_)
    go_simp
    refine hK.out _ _ (d0) (fun hHeld => ?_)
    clear hK K
    try simp only [Act.put, List.setIfInBounds_toArray, List.set_cons_zero, List.set_cons_succ]
    refine onlyH (i := 6) rfl (by kernel_rfl) rfl (fun K hK => ?_)
    refine wp_append_run (.tmp 9) (.tmp 11) 32 rfl rfl rfl hrun ?_
    refine hK.out _ _ (e0) (fun hHeld => ?_)
    clear hK K
    try simp only [Act.put, List.setIfInBounds_toArray, List.set_cons_zero, List.set_cons_succ]
    refine takeJ 7 (v := ?_) ?_ hHeld ?_
    rotate_left
    · intro w hS; (try dsimp only at hS); go_simp; try with_reducible rfl
    refine onlyH (i := 8) rfl (by kernel_rfl) rfl (fun K hK => ?_)
    go_simp
    refine hK.out _ _ (g0) (fun hHeld => ?_)
    clear hK K
    try simp only [Act.put, List.setIfInBounds_toArray, List.set_cons_zero, List.set_cons_succ]
    refine wpAnyH_done (by kernel_rfl) ?_ _
    clear hHeld
    go_wp2_with fail
    refine hf.mono ?_
    rintro e w1 ⟨rfl, rfl⟩
    go_wp2
    go_ret2
    exact ⟨rfl, HA.out.1, HA.out.2.1, HA.out.2.2⟩
  · go_simp
    refine hK.out _ _ (d0) (fun hHeld => ?_)
    clear hK K
    try simp only [Act.put, List.setIfInBounds_toArray, List.set_cons_zero, List.set_cons_succ]
    refine onlyH (i := 3) rfl (by kernel_rfl) rfl (fun K hK => ?_)
    go_simp
    refine hK.out _ _ (d0) (fun hHeld => ?_)
    clear hK K
    try simp only [Act.put, List.setIfInBounds_toArray, List.set_cons_zero, List.set_cons_succ]
    refine onlyH (i := 6) rfl (by kernel_rfl) rfl (fun K hK => ?_)
    refine wp_append_run (.tmp 9) (.tmp 11) 32 rfl rfl rfl hrun ?_
    refine hK.out _ _ (e0) (fun hHeld => ?_)
    clear hK K
    try simp only [Act.put, List.setIfInBounds_toArray, List.set_cons_zero, List.set_cons_succ]
    refine takeJ 7 (v := ?_) ?_ hHeld ?_
    rotate_left
    · intro w hS; (try dsimp only at hS); go_simp; try with_reducible rfl
    refine onlyH (i := 8) rfl (by kernel_rfl) rfl (fun K hK => ?_)
    go_simp
    refine hK.out _ _ (g0) (fun hHeld => ?_)
    clear hK K
    try simp only [Act.put, List.setIfInBounds_toArray, List.set_cons_zero, List.set_cons_succ]
    refine wpAnyH_done (by kernel_rfl) ?_ _
    clear hHeld
    go_wp2_with fail
    refine hf.mono ?_
    rintro e w1 ⟨rfl, rfl⟩
    go_wp2
    go_ret2
    exact ⟨rfl, HA.out.1, HA.out.2.1, HA.out.2.2⟩
end Go.Proofs.YtimbleaafoiidaaGreatDoor

/-
  ProllyFinds, walked. Conditions: the objects lie there; texts within reach; the table holds its numbers.
-/
namespace Go.Proofs.YtimbleaafoiidaaGreatDoor
open Go.RowKit

theorem get_asked (ts : List TypeId) (hn : 83 ∈ ts) (h1 : 37 ∉ ts) (h2 : 25 ∉ ts) (h3 : 32 ∉ ts) (h4 : 9 ∉ ts) (B ci cl ga : Nat) (objs : List Pair) (hs : ∀ o ∈ objs, o.2.length ≤ 140737488351232) :
    GetOk 38 #[.pointer (some ⟨ci, 0, none⟩), .pointer (some ⟨cl, 0, none⟩)] (findO objs) B ts (fun W a => AskW B W ci cl ga objs a) where
  eg := enters_own Tryz.func38 (by kernel_rfl) rfl
  le W a h := h.le
  mv h hm := h.keep hm (Nat.le_refl _) h1 h2 h3 h4 (by simp)
  call W a id h hn' := asked1_ko B W ci cl ga objs a id h hn'
  node := hn
  short id b h := findO_short hs id b h
set_option maxRecDepth 20000 in
theorem asked_any (w : World) (ao : Option Addr) (m c ga : Nat) : Calls Tryz.prog 14 #[.slice ao m c, .pointer (some ⟨ga, 0, none⟩)] w fun e w' => e = .returned (.func (.func 38) #[] #[.pointer (some ⟨w.heap.size + 1, 0, none⟩), .pointer (some ⟨w.heap.size, 0, none⟩)]) ∧ w' = (w.alloc (.cells #[.slice ao m c] 25)).alloc (.cells #[.pointer (some ⟨ga, 0, none⟩)] 37) := by
  have hmf : ∀ (fn : Fn) (first cap : Array Value) (w : World), (Instr.makeFunc fn first cap).run Tryz.prog w = .ok (.func fn first cap) w := fun _ _ _ _ => rfl
  go_enter Tryz.func14, Tryz.ntmps14
  go_wp2
  go_ret
  exact ⟨rfl, rfl⟩
end Go.Proofs.YtimbleaafoiidaaGreatDoor

/-
  ProllyLists, walked. Conditions: the objects lie there; texts within reach; the table holds its numbers.
-/
namespace Go.Proofs.YtimbleaafoiidaaGreatDoor
open Go.RowKit

set_option maxRecDepth 40000 in
set_option maxHeartbeats 1600000 in
theorem lists_any (w : World) (vo : Value) (objs : List Pair) (hv : Ls w.heap.size w 2 pairC vo objs) (hob : ∀ o ∈ objs, o.2.length ≤ 140737488351232) (root lo hi : Bs) (hT : TabW w) :
    Calls Tryz.prog 5 #[vo, .string (strB root), .string (strB lo), .string (strB hi)] w fun e w' => e = .returned (.bool true) ∧ Below w.heap.size w w' := by
  have hvf := hv
  obtain ⟨ao, cap, hvv, -⟩ := hvf
  obtain ⟨m, hm⟩ : ∃ m, m = objs.length := ⟨_, rfl⟩
  rw [← hm] at hvv
  subst hvv
  clear hm
  have HV := hide hv
  have HO := hide hob
  have hsh := shown_any w hT
  clear hv hT hob
  go_enter Tryz.func5, Tryz.ntmps5
  go_wp2_with fail
  refine hsh.mono ?_
  rintro e w1 ⟨rfl, hb1⟩
  have hb2 : Below w1.heap.size w1 (w1.alloc (.cells #[.slice none 0 0] 32)) := (Below.refl _ _).alloc (Nat.le_refl _) _
  have hg2 := heap_last w1 (.cells #[.slice none 0 0] 32) _ rfl
  have hB2 := hb1.trans (hb2.mono hb1.size)
  have hs1 : w.heap.size ≤ w1.heap.size := hb1.size
  generalize hw2 : w1.alloc (.cells #[.slice none 0 0] 32) = w2 at *
  have hak := asked_any w2 ao m cap w1.heap.size
  have hb3 : Below w2.heap.size w2 ((w2.alloc (.cells #[.slice ao m cap] 25)).alloc (.cells #[.pointer (some ⟨w1.heap.size, 0, none⟩)] 37)) := ((Below.refl _ _).alloc (Nat.le_refl _) _).alloc (by simp) _
  have hg3 := (hb3.block _ (lt_of_heap hg2)).trans hg2
  have hB3 := hB2.trans (hb3.mono hB2.size)
  have hA3 : AskW w.heap.size ((w2.alloc (.cells #[.slice ao m cap] 25)).alloc (.cells #[.pointer (some ⟨w1.heap.size, 0, none⟩)] 37)) (w2.heap.size + 1) w2.heap.size w1.heap.size objs [] :=
    ⟨heap_last (w2.alloc (.cells #[.slice ao m cap] 25)) _ _ (by simp), ⟨_, (heap_past (w2.alloc (.cells #[.slice ao m cap] 25)) _ _ (by simp)).trans (heap_last w2 _ _ rfl), HV.out.keep hB3⟩, ⟨_, hg3, World.ownsRow_nil _ _ _ _⟩, hs1⟩
  have hG := get_asked kts1 (by decide) (by decide) (by decide) (by decide) (by decide) w.heap.size (w2.heap.size + 1) w2.heap.size w1.heap.size objs HO.out
  have hprog := list_prog _ _ _ _ _ _ hG root lo hi [] hA3 (by simp)
  obtain ⟨L, hL⟩ : ∃ L, L = goM (findO objs) lo hi 21 (rootK root) (-1) ⟨[], [], 0⟩ := ⟨_, rfl⟩
  rw [← hL] at hprog
  have hL' : listM (findO objs) root lo hi = L := hL.symm
  have H3 := hide (And.intro hB3 hA3)
  have HL := hide hL'
  clear hsh hb1 hb2 hg2 hB2 hb3 hg3 hB3 hA3 hG hL hL'
  go_wp2_with fail
  refine hak.mono ?_
  rintro e w3 ⟨rfl, rfl⟩
  go_wp2_with fail
  refine hprog.mono ?_
  rintro e w4 ⟨vl, rfl, hrl, hA4, hM4⟩
  have hB4 : Below w.heap.size w w4 := H3.out.1.trans hM4.b
  have hrr := list12_any w4 _ objs ((HV.out.keep hB4).up hB4.size) HO.out root lo hi
  rw [HL.out] at hrr
  have H4 := hide (And.intro hA4 (And.intro hB4 hrl))
  obtain ⟨laA, laM, laC, rfl⟩ := row_form hrl
  clear hprog hak hA4 hM4 hB4 hrl
  go_wp2_with fail
  refine hrr.mono ?_
  rintro e w5 ⟨vm, va, rfl, hrm, hra, hb5⟩
  have hA5 := H4.out.1.below hb5
  have hB5 := H4.out.2.1.trans (hb5.mono H4.out.2.1.size)
  have hrl5 := own_below H4.out.2.2 hb5
  have hfr := from_any w5 ao m cap
  have hb6 : Below w5.heap.size w5 (w5.alloc (.cells #[.slice ao m cap] 25)) := (Below.refl _ _).alloc (Nat.le_refl _) _
  have hc6 := heap_last w5 (.cells #[.slice ao m cap] 25) _ rfl
  have hB6 := hB5.trans (hb6.mono hB5.size)
  have hmp := many_prog _ _ _ _ _ _ _ (get_from [83] (by decide) hc6 ((HV.out.keep hB6).up hB6.size) HO.out) root [] (Below.refl _ _) (by simp)
  have H5 := hide (And.intro hA5 (And.intro hB5 (And.intro hrl5 (And.intro hrm (And.intro hra (And.intro hb6 hB6))))))
  obtain ⟨maA, maM, maC, rfl⟩ := row_form hrm
  obtain ⟨vaA, vaM, vaC, rfl⟩ := row_form hra
  clear hrr hb5 hA5 hB5 hrl5 hrm hra hb6 hc6 hB6
  go_wp2_with fail
  refine hfr.mono ?_
  rintro e w6 ⟨rfl, rfl⟩
  go_wp2_with fail
  refine hmp.mono ?_
  rintro e w7 ⟨rfl, hb7⟩
  have hB7 := H5.out.2.2.2.2.2.2.trans (hb7.mono H5.out.2.2.2.2.2.2.size)
  have hmr := many12_any w7 _ objs ((HV.out.keep hB7).up hB7.size) HO.out root
  rw [show ((([], (root, 0)) : Link)) = rootK root from rfl] at hmr
  have H7 := hide (And.intro hb7 hB7)
  clear hmp hfr hb7 hB7
  generalize manyM (askM (findO objs) (rootK root) (-1)) = y at *
  go_wp2_with fail
  refine hmr.mono ?_
  rintro e w8 ⟨rfl, hb8⟩
  have h58 : Below w5.heap.size w5 w8 := H5.out.2.2.2.2.2.1.trans ((H7.out.1.trans (hb8.mono H7.out.1.size)).mono H5.out.2.2.2.2.2.1.size)
  have hA8 := H5.out.1.below h58
  have hB8 := H5.out.2.1.trans (h58.mono H5.out.2.1.size)
  obtain ⟨-, -, ⟨vk, hk8, hkr⟩, -⟩ := hA8
  have hrl8 := own_below H5.out.2.2.1 h58
  have hrm8 := own_below H5.out.2.2.2.1 h58
  have hra8 := own_below H5.out.2.2.2.2.1 h58
  have hsl := same_pairs w8 _ _ _ _ (ls_of_own pairC_length hrl8) (ls_of_own pairC_length hrm8)
  rw [decide_eq_true (rfl : outOf L = outOf L)] at hsl
  have HB := hide (And.intro hB8 (And.intro hk8 (And.intro hkr hra8)))
  have heq : (L.bad == L.bad) = true := by simp
  have hy1 : (y.1 == y.1) = true := by simp
  have hy2 : (y.2 == y.2) = true := by simp
  obtain ⟨vkA, vkM, vkC, rfl⟩ := row_form hkr
  clear hmr hb8 h58 hB8 hk8 hkr hrl8 hrm8 hra8
  go_wp2_with fail
  refine hsl.mono ?_
  rintro e w9 ⟨rfl, hb9⟩
  have hB9 := HB.out.1.trans (hb9.mono HB.out.1.size)
  have hk9 := (hb9.block _ (lt_of_heap HB.out.2.1)).trans HB.out.2.1
  have hsm := same_ids w9 _ _ L.asked L.asked (ls_of_own idC_length (own_below HB.out.2.2.1 hb9)) (ls_of_own idC_length (own_below HB.out.2.2.2 hb9))
  rw [decide_eq_true (rfl : L.asked = L.asked)] at hsm
  have k0 := cell_of_row w9 w1.heap.size 0 _ _ _ hk9
  simp only [List.getElem?_toArray, List.getElem?_cons_zero] at k0
  have H9 := hide hB9
  clear hsl hb9 hB9 hk9
  go_wp2_with fail
  refine hsm.mono ?_
  rintro e w10 ⟨rfl, hb10⟩
  have HB10 := hide (H9.out.trans (hb10.mono H9.out.size))
  clear hsm hb10
  go_wp2
  go_ret
  exact ⟨rfl, HB10.out⟩
theorem lists_bytes (w : World) (vo : Value) (objs : List Pair) (hv : Ls w.heap.size w 2 pairC vo objs) (hob : ∀ o ∈ objs, o.2.length ≤ 140737488351232) (r l h : ByteArray) (hT : TabW w) :
    Calls Tryz.prog 5 #[vo, .string r, .string l, .string h] w fun e w' => e = .returned (.bool true) ∧ Below w.heap.size w w' := by
  have := lists_any w vo objs hv hob r.data.toList l.data.toList h.data.toList hT
  rw [strB_of, strB_of, strB_of] at this
  exact this
end Go.Proofs.YtimbleaafoiidaaGreatDoor
