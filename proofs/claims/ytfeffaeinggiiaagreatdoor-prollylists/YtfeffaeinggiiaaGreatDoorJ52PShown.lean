/-
  What the statements show first. Condition: the table holds its numbers.
-/
import Derived.Test.YtfeffaeinggiiaaGreatDoorJ41PFind
import Derived.Test.YtfeffaeinggiiaaGreatDoorJ51PBuild
namespace Go.Proofs.YtfeffaeinggiiaaGreatDoor
open Go.RowKit

theorem enters_own {P : Program} {f : FuncId} {fn : Func} {c : Code} (h1 : P.funcs[f]? = some fn) (h2 : (fn.name == "runtime.NumGoroutine") = false) (h3 : fn.body = some c) (args : Array Value) (w : World) : (callFunc f args).run P w = .ok (.enter f args) w := by
  have h4 : fn.name ≠ "runtime.NumGoroutine" := by simpa using h2
  simp [callFunc, h1, h4, h3, mark]
/-- The get of a list that lies there. -/
theorem get_from {w2 : World} {c : Nat} {v : Value} {objs : List Pair} (ts : List TypeId) (hn : 83 ∈ ts) (hc : w2.heap[c]? = some (.cells #[v] 25)) (hv : Ls w2.heap.size w2 2 pairC v objs) (hs : ∀ o ∈ objs, o.2.length ≤ 140737488351232) :
    GetOk 44 #[.pointer (some ⟨c, 0, none⟩)] (findO objs) w2.heap.size ts (fun W _ => Below w2.heap.size w2 W) where
  eg := enters_own Tryz.func44 (by kernel_rfl) rfl
  le W a h := h.size
  mv h hm := h.trans hm.b
  call W a id h _ := (from1_any W c v objs id ((h.block c (lt_of_heap hc)).trans hc) ((hv.keep h).up h.size)).mono fun e w' hq => ⟨hq.1, hq.2 ▸ h, hq.2 ▸ Mv.refl _ _ _ _, hq.2 ▸ KO.refl _⟩
  node := hn
  short id b h := findO_short hs id b h
set_option maxRecDepth 20000 in
theorem from_any (w : World) (ao : Option Addr) (m c : Nat) : Calls Tryz.prog 20 #[.slice ao m c] w fun e w' => e = .returned (.func (.func 44) #[] #[.pointer (some ⟨w.heap.size, 0, none⟩)]) ∧ w' = w.alloc (.cells #[.slice ao m c] 25) := by
  have hmf : ∀ (fn : Fn) (first cap : Array Value) (w : World), (Instr.makeFunc fn first cap).run Tryz.prog w = .ok (.func fn first cap) w := fun _ _ _ _ => rfl
  go_enter Tryz.func20, Tryz.ntmps20
  go_wp2
  go_ret
  exact ⟨rfl, rfl⟩
/-- The two pairs that are shown. -/
def twoP : List Pair := [([97], [49]), ([98], [50])]
theorem two_ends : ends12 1 [97] 0 = false := by kernel_rfl
theorem two_leaf : leafG twoP = [twoP] := by
  unfold leafG twoP
  rw [gath, if_neg (by rw [show ([] : List Pair).length + 1 = 1 from rfl, two_ends]; simp), gath]
  split
  · rfl
  · rfl
theorem two_build : buildM twoP = ((leafO twoP).1, [leafO twoP], 0) := by
  rw [buildM_root (by decide) (by decide), rootM_some (by decide), two_leaf, riseL_one (by simp)]
  rfl
theorem two_find : findF (findO [leafO twoP]) (leafO twoP).1 [98] [] = ([50], true, [(leafO twoP).1], 0) := by
  have hfd : findO [leafO twoP] (leafO twoP).1 = some (76 :: leafB twoP) := by unfold findO leafO; simp
  have hok : leafOk ltB twoP = true := by decide
  have hlen := leafB_le hok
  have hta : takenLeaf (76 :: leafB twoP) = some twoP := (takenLeaf_iff (76 :: leafB twoP) (by simp; omega) twoP).2 ⟨hok, rfl⟩
  have hask := askM_root_ok hfd (nodeM_leaf hta)
  unfold findF
  rw [if_neg (by decide), hask, restM_leaf (by omega) rfl rfl]
  rfl
theorem ls_twoP (w : World) : Ls (w.alloc (.cells #[.string ⟨#[97]⟩, .string ⟨#[49]⟩, .string ⟨#[98]⟩, .string ⟨#[50]⟩] 60)).heap.size (w.alloc (.cells #[.string ⟨#[97]⟩, .string ⟨#[49]⟩, .string ⟨#[98]⟩, .string ⟨#[50]⟩] 60)) 2 pairC (.slice (some ⟨w.heap.size, 0, none⟩) 2 2) twoP := by
  have hx := heap_last w (.cells #[.string ⟨#[97]⟩, .string ⟨#[49]⟩, .string ⟨#[98]⟩, .string ⟨#[50]⟩] 60) _ rfl
  refine ⟨_, 2, rfl, Nat.le_refl _, by unfold maxLen; omega, fun _ => ⟨w.heap.size, 0, rfl, by simp, fun j hj i u hu => ?_⟩⟩
  rw [cell_of_row _ _ _ _ _ _ hx]
  match j, hj with
  | 0, _ =>
    match i with
    | 0 => exact hu
    | 1 => exact hu
    | _ + 2 => simp [pairC] at hu
  | 1, _ =>
    match i with
    | 0 => exact hu
    | 1 => exact hu
    | _ + 2 => simp [pairC] at hu
set_option maxRecDepth 40000 in
set_option maxHeartbeats 1600000 in
theorem shown_any (w : World) (hT : TabW w) : Calls Tryz.prog 8 #[] w fun e w' => e = .returned (.bool true) ∧ Below w.heap.size w w' := by
  have hb0 : Below w.heap.size w (w.alloc (.cells #[.string ⟨#[97]⟩, .string ⟨#[49]⟩, .string ⟨#[98]⟩, .string ⟨#[50]⟩] 60)) := (Below.refl _ _).alloc (Nat.le_refl _) _
  have hbd := build_any (w.alloc (.cells #[.string ⟨#[97]⟩, .string ⟨#[49]⟩, .string ⟨#[98]⟩, .string ⟨#[50]⟩] 60)) twoP _ (ls_twoP w) (hT.keep hb0 hT.1)
  rw [two_build] at hbd
  simp only at hbd
  have hfi := two_find
  have ho2 : (leafO twoP).2.length ≤ 140737488351232 := by
    have := leafB_le (show leafOk ltB twoP = true by decide)
    show (76 :: leafB twoP).length ≤ _
    simp
    omega
  obtain ⟨o, ho⟩ : ∃ o, o = leafO twoP := ⟨_, rfl⟩
  rw [← ho] at hbd hfi ho2
  have H0 := hide hb0
  have HFI := hide hfi
  have HO2 := hide ho2
  clear hb0 hfi ho2 ho hT
  go_enter Tryz.func8, Tryz.ntmps8
  go_wp2_with fail
  refine hbd.mono ?_
  rintro e w1 ⟨v, rfl, hrow, hb1⟩
  have hB1 := H0.out.trans (hb1.mono H0.out.size)
  obtain ⟨ao, c, rfl, -⟩ := own_form hrow
  have hfr := from_any w1 ao ([o] : List Pair).length c
  have hb3 : Below w1.heap.size w1 (w1.alloc (.cells #[.slice ao ([o] : List Pair).length c] 25)) := (Below.refl _ _).alloc (Nat.le_refl _) _
  have hc3 := heap_last w1 (.cells #[.slice ao ([o] : List Pair).length c] 25) _ rfl
  have hrow3 := own_below hrow hb3
  have hls := ls_of_own (cs := pairC) (xs := [o]) pairC_length hrow3
  have hG := get_from (w2 := w1.alloc (.cells #[.slice ao ([o] : List Pair).length c] 25)) [83] (by decide) hc3 hls (by simpa using HO2.out)
  have hre := find_prog (w1.alloc (.cells #[.slice ao ([o] : List Pair).length c] 25)) _ _ _ _ _ _ hG o.1 [98] (by decide) [] (Below.refl _ _) (by simp)
  rw [HFI.out] at hre
  simp only [List.length_singleton] at hre hfr
  have htl : (strB [50]).toList = [50] := toL [50]
  have htl2 : (⟨#[50]⟩ : ByteArray).toList = [50] := toL [50]
  have hs98 : strB [98] = ⟨#[98]⟩ := rfl
  rw [hs98] at hre
  have H3 := hide (hB1.trans (hb3.mono hB1.size))
  clear hbd hrow hb1 hB1 hb3 hc3 hrow3 hls hG
  simp only [List.length_singleton]
  go_wp2_with fail
  refine hfr.mono ?_
  rintro e w3 ⟨rfl, rfl⟩
  go_wp2_with fail
  refine hre.mono ?_
  rintro e w4 ⟨rfl, -, hM4⟩
  have H4 := hide (H3.out.trans (hM4.b.mono H3.out.size))
  clear hM4 hre hfr
  go_wp2
  go_ret
  exact ⟨rfl, H4.out⟩
end Go.Proofs.YtfeffaeinggiiaaGreatDoor
