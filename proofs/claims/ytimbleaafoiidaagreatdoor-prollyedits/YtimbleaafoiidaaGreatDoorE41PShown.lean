/-
  Texts joined: PShown, PListP, PCollect, PRDone, PEdit.
-/
import Derived.Test.YtimbleaafoiidaaGreatDoorE35PFind
import Derived.Test.YtimbleaafoiidaaGreatDoorE40PBuild
import Derived.Test.YtimbleaafoiidaaGreatDoorE36PGoing
import Derived.Test.YtimbleaafoiidaaGreatDoorE38PRList
import Derived.Test.YtimbleaafoiidaaGreatDoorE19PRow
import Derived.Laws.MakeOwn
import Derived.Deep.CutBlock
import Derived.Deep.CutRange
/-
  What the statements show first. Condition: the table holds its numbers.
-/
namespace Go.Proofs.YtimbleaafoiidaaGreatDoor
open Go.RowKit

theorem enters_own {P : Program} {f : FuncId} {fn : Func} {c : Code} (h1 : P.funcs[f]? = some fn) (h2 : (fn.name == "runtime.NumGoroutine") = false) (h3 : fn.body = some c) (args : Array Value) (w : World) : (callFunc f args).run P w = .ok (.enter f args) w := by
  have h4 : fn.name ≠ "runtime.NumGoroutine" := by simpa using h2
  simp [callFunc, h1, h4, h3, mark]
/-- The get of a list that lies there. -/
theorem get_from {w2 : World} {c : Nat} {v : Value} {objs : List Pair} (ts : List TypeId) (hn : 83 ∈ ts) (hc : w2.heap[c]? = some (.cells #[v] 25)) (hv : Ls w2.heap.size w2 2 pairC v objs) (hs : ∀ o ∈ objs, o.2.length ≤ 140737488351232) :
    GetOk 44 #[.pointer (some ⟨c, 0, none⟩)] (findO objs) w2.heap.size ts (fun W _ => Below w2.heap.size w2 W) where
  eg := enters_own Tryz.func44 (by kernel_rfl) rfl
  le W a h := h.size
  mv h hm := h.trans hm.b
  call W a id h _ := (from1_any W c v objs id ((h.block c (lt_of_heap hc)).trans hc) ((hv.keep h).up h.size)).mono fun e w' hq => ⟨hq.1, hq.2 ▸ h, hq.2 ▸ Mv.refl _ _ _ _, hq.2 ▸ KO.refl _⟩
  node := hn
  short id b h := findO_short hs id b h
set_option maxRecDepth 20000 in
theorem from_any (w : World) (ao : Option Addr) (m c : Nat) : Calls Tryz.prog 20 #[.slice ao m c] w fun e w' => e = .returned (.func (.func 44) #[] #[.pointer (some ⟨w.heap.size, 0, none⟩)]) ∧ w' = w.alloc (.cells #[.slice ao m c] 25) := by
  have hmf : ∀ (fn : Fn) (first cap : Array Value) (w : World), (Instr.makeFunc fn first cap).run Tryz.prog w = .ok (.func fn first cap) w := fun _ _ _ _ => rfl
  go_enter Tryz.func20, Tryz.ntmps20
  go_wp2
  go_ret
  exact ⟨rfl, rfl⟩
/-- The two pairs that are shown. -/
def twoP : List Pair := [([97], [49]), ([98], [50])]
theorem two_ends : ends12 1 [97] 0 = false := by kernel_rfl
theorem two_leaf : leafG twoP = [twoP] := by
  unfold leafG twoP
  rw [gath, if_neg (by rw [show ([] : List Pair).length + 1 = 1 from rfl, two_ends]; simp), gath]
  split
  · rfl
  · rfl
theorem two_build : buildM twoP = ((leafO twoP).1, [leafO twoP], 0) := by
  rw [buildM_root (by decide) (by decide), rootM_some (by decide), two_leaf, riseL_one (by simp)]
  rfl
theorem two_find : findF (findO [leafO twoP]) (leafO twoP).1 [98] [] = ([50], true, [(leafO twoP).1], 0) := by
  have hfd : findO [leafO twoP] (leafO twoP).1 = some (76 :: leafB twoP) := by unfold findO leafO; simp
  have hok : leafOk ltB twoP = true := by decide
  have hlen := leafB_le hok
  have hta : takenLeaf (76 :: leafB twoP) = some twoP := (takenLeaf_iff (76 :: leafB twoP) (by simp; omega) twoP).2 ⟨hok, rfl⟩
  have hask := askM_root_ok hfd (nodeM_leaf hta)
  unfold findF
  rw [if_neg (by decide), hask, restM_leaf (by omega) rfl rfl]
  rfl
theorem ls_twoP (w : World) : Ls (w.alloc (.cells #[.string ⟨#[97]⟩, .string ⟨#[49]⟩, .string ⟨#[98]⟩, .string ⟨#[50]⟩] 60)).heap.size (w.alloc (.cells #[.string ⟨#[97]⟩, .string ⟨#[49]⟩, .string ⟨#[98]⟩, .string ⟨#[50]⟩] 60)) 2 pairC (.slice (some ⟨w.heap.size, 0, none⟩) 2 2) twoP := by
  have hx := heap_last w (.cells #[.string ⟨#[97]⟩, .string ⟨#[49]⟩, .string ⟨#[98]⟩, .string ⟨#[50]⟩] 60) _ rfl
  refine ⟨_, 2, rfl, Nat.le_refl _, by unfold maxLen; omega, fun _ => ⟨w.heap.size, 0, rfl, by simp, fun j hj i u hu => ?_⟩⟩
  rw [cell_of_row _ _ _ _ _ _ hx]
  match j, hj with
  | 0, _ =>
    match i with
    | 0 => exact hu
    | 1 => exact hu
    | _ + 2 => simp [pairC] at hu
  | 1, _ =>
    match i with
    | 0 => exact hu
    | 1 => exact hu
    | _ + 2 => simp [pairC] at hu
set_option maxRecDepth 40000 in
set_option maxHeartbeats 1600000 in
theorem shown_any (w : World) (hT : TabW w) : Calls Tryz.prog 8 #[] w fun e w' => e = .returned (.bool true) ∧ Below w.heap.size w w' := by
  have hb0 : Below w.heap.size w (w.alloc (.cells #[.string ⟨#[97]⟩, .string ⟨#[49]⟩, .string ⟨#[98]⟩, .string ⟨#[50]⟩] 60)) := (Below.refl _ _).alloc (Nat.le_refl _) _
  have hbd := build_any (w.alloc (.cells #[.string ⟨#[97]⟩, .string ⟨#[49]⟩, .string ⟨#[98]⟩, .string ⟨#[50]⟩] 60)) twoP _ (ls_twoP w) (hT.keep hb0 hT.1)
  rw [two_build] at hbd
  simp only at hbd
  have hfi := two_find
  have ho2 : (leafO twoP).2.length ≤ 140737488351232 := by
    have := leafB_le (show leafOk ltB twoP = true by decide)
    show (76 :: leafB twoP).length ≤ _
    simp
    omega
  obtain ⟨o, ho⟩ : ∃ o, o = leafO twoP := ⟨_, rfl⟩
  rw [← ho] at hbd hfi ho2
  have H0 := hide hb0
  have HFI := hide hfi
  have HO2 := hide ho2
  clear hb0 hfi ho2 ho hT
  go_enter Tryz.func8, Tryz.ntmps8
  go_wp2_with fail
  refine hbd.mono ?_
  rintro e w1 ⟨v, rfl, hrow, hb1⟩
  have hB1 := H0.out.trans (hb1.mono H0.out.size)
  obtain ⟨ao, c, rfl, -⟩ := own_form hrow
  have hfr := from_any w1 ao ([o] : List Pair).length c
  have hb3 : Below w1.heap.size w1 (w1.alloc (.cells #[.slice ao ([o] : List Pair).length c] 25)) := (Below.refl _ _).alloc (Nat.le_refl _) _
  have hc3 := heap_last w1 (.cells #[.slice ao ([o] : List Pair).length c] 25) _ rfl
  have hrow3 := own_below hrow hb3
  have hls := ls_of_own (cs := pairC) (xs := [o]) pairC_length hrow3
  have hG := get_from (w2 := w1.alloc (.cells #[.slice ao ([o] : List Pair).length c] 25)) [83] (by decide) hc3 hls (by simpa using HO2.out)
  have hre := find_prog (w1.alloc (.cells #[.slice ao ([o] : List Pair).length c] 25)) _ _ _ _ _ _ hG o.1 [98] (by decide) [] (Below.refl _ _) (by simp)
  rw [HFI.out] at hre
  simp only [List.length_singleton] at hre hfr
  have htl : (strB [50]).toList = [50] := toL [50]
  have htl2 : (⟨#[50]⟩ : ByteArray).toList = [50] := toL [50]
  have hs98 : strB [98] = ⟨#[98]⟩ := rfl
  rw [hs98] at hre
  have H3 := hide (hB1.trans (hb3.mono hB1.size))
  clear hbd hrow hb1 hB1 hb3 hc3 hrow3 hls hG
  simp only [List.length_singleton]
  go_wp2_with fail
  refine hfr.mono ?_
  rintro e w3 ⟨rfl, rfl⟩
  go_wp2_with fail
  refine hre.mono ?_
  rintro e w4 ⟨rfl, -, hM4⟩
  have H4 := hide (H3.out.trans (hM4.b.mono H3.out.size))
  clear hM4 hre hfr
  go_wp2
  go_ret
  exact ⟨rfl, H4.out⟩
end Go.Proofs.YtimbleaafoiidaaGreatDoor

/-
  The pairs of a map listed by the program, by any get. Conditions: the get keeps its word; not too much was asked.
-/
namespace Go.Proofs.YtimbleaafoiidaaGreatDoor
open Go.RowKit Go.Shelf
attribute [local go_sem] Oper.semAt_some

theorem wpListIn_append_run {F : Fence} {n : Nat} {P : Program} {ops : Array Oper} {Q : Exit → Act → World → Prop} {rest : List Oper} {o : Oper} {a : Act} {w : World} (hg : o.guard = none) (s x : Operand) (t : TypeId)
    (ho : o.op = .call { callee := .builtin .append, args := #[s, x], argTypes := #[t, t] }) {v1 v2 v' : Value} {w' : World} (hs : a.eval s = v1) (hx : a.eval x = v2)
    (hrun : (Builtin.append_ #[t, t] o.type #[v1, v2]).run P w = .ok v' w') (hK : wpListIn F n P ops Q rest (a.put o.dst v') w') : wpListIn F n P ops Q (o :: rest) a w := by
  refine wpListIn_plain hg fun K hK' => ?_
  unfold Oper.wpIn
  refine ⟨?_, ?_⟩
  · simp [Oper.about, ho, resolve, Target.leads, Sem.run_pure]
  · rw [Oper.semAt_plain F _ _ (by rw [ho]; intro c hc'; cases hc')]
    simp [execOp, ho, resolve, invoke, builtin, hs, hx, hrun, Result.andThen, Oper.uponIn]
    exact hK' _ _ hK
/-- What whoever lists moves; what gets must bear. -/
abbrev sts1 : List TypeId := [22, 26]
abbrev kts1 : List TypeId := [83, 60, 128, 22, 26]
/-- While it lists: the answer's cells at r, the list's own at r + 2. -/
def ListJ (r : Nat) (v : Value) (s : List Pair × Int) (W : World) : Prop :=
  W.heap[r]? = some (.cells #[.slice none 0 0] 22) ∧ W.heap[r + 1]? = some (.cells #[.int .i64 0] 26) ∧ W.heap[r + 1 + 1]? = some (.cells #[v] 22) ∧ Rw r W 60 2 pairC v s.1 ∧ s.2 = 0
/-- An error was told. -/
def ListX (r : Nat) (_ : Value) (s : List Pair × Int) (W : World) : Prop :=
  W.heap[r]? = some (.cells #[.slice none 0 0] 22) ∧ W.heap[r + 1]? = some (.cells #[.int .i64 s.2] 26) ∧ s.2 ≠ 0
theorem ListJ.mv {B r : Nat} {ts : List TypeId} {v : Value} {s : List Pair × Int} {W W' : World} (h : ListJ r v s W) (hm : Mv B ts Option.none W W') (h1 : 22 ∉ ts) (h2 : 26 ∉ ts) (h3 : 60 ∉ ts) : ListJ r v s W' :=
  ⟨hm.k _ _ _ _ h.1 h1 (by simp), hm.k _ _ _ _ h.2.1 h2 (by simp), hm.k _ _ _ _ h.2.2.1 h1 (by simp), hm.own0 h.2.2.2.1 h3, h.2.2.2.2⟩
theorem ListX.mv {B r : Nat} {v : Value} {s : List Pair × Int} {W W' : World} (h : ListX r v s W) (hm : Mv B [] Option.none W W') : ListX r v s W' :=
  ⟨hm.k _ _ _ _ h.1 (by simp) (by simp), hm.k _ _ _ _ h.2.1 (by simp) (by simp), h.2.2⟩
set_option maxRecDepth 100000 in
set_option maxHeartbeats 3200000 in
theorem list_prog (w : World) (g : Nat) (caps : Array Value) (fd : Bs → Option Bs) (B : Nat) (I : World → List Bs → Prop) (hG : GetOk g caps fd B kts1 I) (root lo hi : Bs) (asked : List Bs) (hI : I w asked) (hal : asked.length ≤ 1000) :
    Calls Tryz.prog 17 #[.func (.func g) #[] caps, .string (strB root), .string (strB lo), .string (strB hi)] w fun e w' => ∃ vp, e = .returned (.tuple #[vp, .int .i64 (goM fd lo hi 21 (rootK root) (-1) ⟨asked, [], 0⟩).bad]) ∧ Rw w.heap.size w' 60 2 pairC vp (outOf (goM fd lo hi 21 (rootK root) (-1) ⟨asked, [], 0⟩)) ∧ I w' (goM fd lo hi 21 (rootK root) (-1) ⟨asked, [], 0⟩).asked ∧ Mv B (gts sts1) none w w' := by
  have hB := hG.le _ _ hI
  have hsame := goT_same fd hG.short lo hi 21 (rootK root) (-1) asked [] [] (.inl ⟨rfl, by omega⟩) rfl
  obtain ⟨L, hL⟩ : ∃ L, L = goM fd lo hi 21 (rootK root) (-1) ⟨asked, [], 0⟩ := ⟨_, rfl⟩
  rw [← hL] at hsame ⊢
  have HSA := hide hsame
  have HG := hide hG
  have HI := hide hI
  clear hL hsame
  have hthr := fun W => through_any W (.func (.func g) #[] caps) rfl root lo hi
  refine (callsIn_wide (n := 0)).1 ?_
  refine callsIn_of_wp_marks Tryz.func17 rfl trivial ?_ rfl
  simp only [Tryz.ntmps17, List.size_toArray, List.length_cons, List.length_nil, Nat.reduceAdd, Nat.reduceSub, Array.replicate_succ, Array.replicate_zero, List.push_toArray, List.append_toArray, List.nil_append, List.cons_append]
  gi_wp2_with fail
  refine ⟨trivial, rfl, ?_⟩
  refine (callsIn_wide.2 (hthr _)).mono ?_
  rintro e w1 ⟨rfl, rfl⟩
  gi_wp2
  obtain ⟨a1, ha1⟩ : ∃ a1, w.alloc (.cells #[.slice none 0 0] 22) = a1 := ⟨_, rfl⟩
  rw [ha1]
  have hba1 : Below w.heap.size w a1 := by rw [← ha1]; exact (Below.refl _ _).alloc (Nat.le_refl _) _
  have hsa1 : a1.heap.size = w.heap.size + 1 := by rw [← ha1, World.size_alloc]
  have hla1 : a1.heap[w.heap.size]? = some (.cells #[.slice none 0 0] 22) := by rw [← ha1]; exact heap_last _ _ _ rfl
  obtain ⟨a2, ha2⟩ : ∃ a2, a1.alloc (.cells #[.int .i64 0] 26) = a2 := ⟨_, rfl⟩
  rw [ha2]
  have hba2 : Below a1.heap.size a1 a2 := by rw [← ha2]; exact (Below.refl _ _).alloc (Nat.le_refl _) _
  have hsa2 : a2.heap.size = w.heap.size + 1 + 1 := by rw [← ha2, World.size_alloc]; rw [hsa1]
  have hla2 : a2.heap[a1.heap.size]? = some (.cells #[.int .i64 0] 26) := by rw [← ha2]; exact heap_last _ _ _ rfl
  rw [hsa1] at hla2
  obtain ⟨a3, ha3⟩ : ∃ a3, a2.alloc (.cells #[.slice none 0 0] 22) = a3 := ⟨_, rfl⟩
  rw [ha3]
  have hba3 : Below a2.heap.size a2 a3 := by rw [← ha3]; exact (Below.refl _ _).alloc (Nat.le_refl _) _
  have hsa3 : a3.heap.size = w.heap.size + 1 + 1 + 1 := by rw [← ha3, World.size_alloc]; rw [hsa2]
  have hla3 : a3.heap[a2.heap.size]? = some (.cells #[.slice none 0 0] 22) := by rw [← ha3]; exact heap_last _ _ _ rfl
  rw [hsa2] at hla3
  obtain ⟨a4, ha4⟩ : ∃ a4, a3.alloc (.cells #[.func (.func g) #[] caps] 35) = a4 := ⟨_, rfl⟩
  rw [ha4]
  have hba4 : Below a3.heap.size a3 a4 := by rw [← ha4]; exact (Below.refl _ _).alloc (Nat.le_refl _) _
  have hsa4 : a4.heap.size = w.heap.size + 1 + 1 + 1 + 1 := by rw [← ha4, World.size_alloc]; rw [hsa3]
  have hla4 : a4.heap[a3.heap.size]? = some (.cells #[.func (.func g) #[] caps] 35) := by rw [← ha4]; exact heap_last _ _ _ rfl
  rw [hsa3] at hla4
  obtain ⟨a5, ha5⟩ : ∃ a5, a4.alloc (.cells #[.string (strB root)] 9) = a5 := ⟨_, rfl⟩
  rw [ha5]
  have hba5 : Below a4.heap.size a4 a5 := by rw [← ha5]; exact (Below.refl _ _).alloc (Nat.le_refl _) _
  have hsa5 : a5.heap.size = w.heap.size + 1 + 1 + 1 + 1 + 1 := by rw [← ha5, World.size_alloc]; rw [hsa4]
  have hla5 : a5.heap[a4.heap.size]? = some (.cells #[.string (strB root)] 9) := by rw [← ha5]; exact heap_last _ _ _ rfl
  rw [hsa4] at hla5
  obtain ⟨a6, ha6⟩ : ∃ a6, a5.alloc (.cells #[.string (strB lo), .string (strB hi)] 99) = a6 := ⟨_, rfl⟩
  rw [ha6]
  have hba6 : Below a5.heap.size a5 a6 := by rw [← ha6]; exact (Below.refl _ _).alloc (Nat.le_refl _) _
  have hsa6 : a6.heap.size = w.heap.size + 1 + 1 + 1 + 1 + 1 + 1 := by rw [← ha6, World.size_alloc]; rw [hsa5]
  have hla6 : a6.heap[a5.heap.size]? = some (.cells #[.string (strB lo), .string (strB hi)] 99) := by rw [← ha6]; exact heap_last _ _ _ rfl
  rw [hsa5] at hla6
  have hbw : Below w.heap.size w a6 := hba1.trans ((hba2.trans ((hba3.trans ((hba4.trans ((hba5.trans (hba6.mono (by omega))).mono (by omega))).mono (by omega))).mono (by omega))).mono (by omega))
  have f1 := ((hba6.block _ (lt_of_heap ((hba5.block _ (lt_of_heap ((hba4.block _ (lt_of_heap ((hba3.block _ (lt_of_heap ((hba2.block _ (lt_of_heap hla1)).trans hla1))).trans ((hba2.block _ (lt_of_heap hla1)).trans hla1)))).trans ((hba3.block _ (lt_of_heap ((hba2.block _ (lt_of_heap hla1)).trans hla1))).trans ((hba2.block _ (lt_of_heap hla1)).trans hla1))))).trans ((hba4.block _ (lt_of_heap ((hba3.block _ (lt_of_heap ((hba2.block _ (lt_of_heap hla1)).trans hla1))).trans ((hba2.block _ (lt_of_heap hla1)).trans hla1)))).trans ((hba3.block _ (lt_of_heap ((hba2.block _ (lt_of_heap hla1)).trans hla1))).trans ((hba2.block _ (lt_of_heap hla1)).trans hla1)))))).trans ((hba5.block _ (lt_of_heap ((hba4.block _ (lt_of_heap ((hba3.block _ (lt_of_heap ((hba2.block _ (lt_of_heap hla1)).trans hla1))).trans ((hba2.block _ (lt_of_heap hla1)).trans hla1)))).trans ((hba3.block _ (lt_of_heap ((hba2.block _ (lt_of_heap hla1)).trans hla1))).trans ((hba2.block _ (lt_of_heap hla1)).trans hla1))))).trans ((hba4.block _ (lt_of_heap ((hba3.block _ (lt_of_heap ((hba2.block _ (lt_of_heap hla1)).trans hla1))).trans ((hba2.block _ (lt_of_heap hla1)).trans hla1)))).trans ((hba3.block _ (lt_of_heap ((hba2.block _ (lt_of_heap hla1)).trans hla1))).trans ((hba2.block _ (lt_of_heap hla1)).trans hla1)))))
  have f2 := ((hba6.block _ (lt_of_heap ((hba5.block _ (lt_of_heap ((hba4.block _ (lt_of_heap ((hba3.block _ (lt_of_heap hla2)).trans hla2))).trans ((hba3.block _ (lt_of_heap hla2)).trans hla2)))).trans ((hba4.block _ (lt_of_heap ((hba3.block _ (lt_of_heap hla2)).trans hla2))).trans ((hba3.block _ (lt_of_heap hla2)).trans hla2))))).trans ((hba5.block _ (lt_of_heap ((hba4.block _ (lt_of_heap ((hba3.block _ (lt_of_heap hla2)).trans hla2))).trans ((hba3.block _ (lt_of_heap hla2)).trans hla2)))).trans ((hba4.block _ (lt_of_heap ((hba3.block _ (lt_of_heap hla2)).trans hla2))).trans ((hba3.block _ (lt_of_heap hla2)).trans hla2))))
  have f3 := ((hba6.block _ (lt_of_heap ((hba5.block _ (lt_of_heap ((hba4.block _ (lt_of_heap hla3)).trans hla3))).trans ((hba4.block _ (lt_of_heap hla3)).trans hla3)))).trans ((hba5.block _ (lt_of_heap ((hba4.block _ (lt_of_heap hla3)).trans hla3))).trans ((hba4.block _ (lt_of_heap hla3)).trans hla3)))
  have f4 := ((hba6.block _ (lt_of_heap ((hba5.block _ (lt_of_heap hla4)).trans hla4))).trans ((hba5.block _ (lt_of_heap hla4)).trans hla4))
  have f5 := ((hba6.block _ (lt_of_heap hla5)).trans hla5)
  have f6 := hla6
  have h0 : ListJ w.heap.size (.slice none 0 0) ([], 0) a6 := ⟨f1, f2, f3, World.ownsRow_nil _ _ _ _, rfl⟩
  have hI6 := HG.out.below HI.out hbw
  have hs6 : w.heap.size ≤ a6.heap.size := hbw.size
  have HF := hide (And.intro f4 (And.intro f5 (And.intro f6 (And.intro hI6 hbw))))
  clear f1 f2 f3 f4 f5 f6 hla1 hla2 hla3 hla4 hla5 hla6 hba1 hba2 hba3 hba4 hba5 hba6 hsa1 hsa2 hsa3 hsa4 hsa5 hsa6 ha1 ha2 ha3 ha4 ha5 ha6 a1 a2 a3 a4 a5 hthr hI6 hbw
  refine wp_told (σ := List Pair × Int) rfl rfl (enters_own Tryz.func61 (by kernel_rfl) rfl) listSink B sts1 (by omega) (ListJ w.heap.size) (fun _ _ _ => False) (ListX w.heap.size) (fun _ => none)
    (fun h hm => h.mv hm (by decide) (by decide) (by decide)) (fun h _ => h.elim) (fun h hm => h.mv hm)
    (fun h hb => by obtain ⟨cs, fr, h1⟩ := Lib.ownsRow_kind h.2.2.2.1 _ hb; exact ⟨cs, fr, h1⟩) (by decide) [] (by simp)
    (fun b x er => { tmps := #[.func (.func g) #[] caps, .string (strB root), .string (strB lo), .string (strB hi), undef, undef, undef, undef, .pointer (some ⟨w.heap.size, 0, none⟩), .pointer (some ⟨w.heap.size + 1, 0, none⟩), .pointer (some ⟨w.heap.size + 1 + 1, 0, none⟩), .pointer (some ⟨b, 0, none⟩), .int .i64 er, .func (.func g) #[] caps, .string (strB root), .string (strB lo), .string (strB hi), .agg #[.string (strB lo), .string (strB hi)],
      .func (.func 61) #[] #[.pointer (some ⟨w.heap.size + 1 + 1 + 1, 0, none⟩), .pointer (some ⟨w.heap.size + 1 + 1 + 1 + 2, 0, none⟩), .pointer (some ⟨w.heap.size + 1 + 1 + 1 + 1, 0, none⟩)], .agg #[.string (strB x.1), .string (strB x.2)], .int .i64 er, undef, undef, undef, undef, undef, undef, undef, undef], defers := [] })
    ?assign ?body (.slice none 0 0) ([], 0) h0 (goT listSink fd lo hi 21 (rootK root) (-1) ⟨asked, [], ([], 0)⟩) (fun W => I W L.asked ∧ Mv B (gts sts1) none w W) (fun hX hm => ⟨HG.out.mv hX.1 (hm.types (by simp)), hX.2.trans (hm.types (by simp)) (Nx.refl _ _)⟩) ?iter ?all ?left
  case assign =>
    intro l x er W K hK
    gi_wp2
    exact hK
  case body =>
    intro l b v s x er W hJ hx hbv hcap hxe
    obtain ⟨hr0, hr1, hr2, hrow, hs0⟩ := hJ
    have hsW : w.heap.size + 1 + 1 < W.heap.size := lt_of_heap hr2
    by_cases he : er = 0
    · have q0 : (er != 0) = false := by rw [he]; rfl
      have hc := hcap he
      obtain ⟨v', w1, hrun, hrow1, hgr, hnx⟩ := app_pair W w.heap.size v s.1 x hrow (by omega) (by simp only [listSink] at hc; omega)
      have hbA : Below W.heap.size W (W.alloc (pairO x)) := (Below.refl _ _).alloc (Nat.le_refl _) _
      have hrowA : Rw w.heap.size (W.alloc (pairO x)) 60 2 pairC v s.1 := World.ownsRow.alloc hrow _
      have h01 := grow_keep hrowA hgr ((heap_past W (pairO x) _ (lt_of_heap hr0)).trans hr0) (by decide)
      have h11 := grow_keep hrowA hgr ((heap_past W (pairO x) _ (lt_of_heap hr1)).trans hr1) (by decide)
      have h21 := grow_keep hrowA hgr ((heap_past W (pairO x) _ (lt_of_heap hr2)).trans hr2) (by decide)
      have hk1 : KO W w1 := ((KO.refl W).more hbA).grown hrowA hgr
      have hm1 : Mv B sts1 v.ownBlock W w1 := (Mv.of hbA (by omega)).grownRow (own_low hrowA hB) hgr (Nx.refl _ _) (by simp; omega)
      have hN : Nx W v.ownBlock v'.ownBlock := by
        rcases hnx with h | h
        · exact .inl h
        · exact .inr ⟨_, h, by omega⟩
      have c2 := cell_of_row W (w.heap.size + 1 + 1) 0 _ _ _ hr2
      have x0 := cell_of_row W b 0 _ _ _ hx
      have x1 := cell_of_row W b 1 _ _ _ hx
      have e2 := cell_of_row w1 (w.heap.size + 1 + 1) 0 _ _ _ h21
      simp only [List.getElem?_toArray, List.getElem?_cons_zero, List.getElem?_cons_succ] at c2 x0 x1 e2
      have g2 := frozen0 (j := 0) h21
      have hfin : KO W (w1.setCell ⟨w.heap.size + 1 + 1, 0, none⟩ v') ∧ Mv B sts1 v.ownBlock W (w1.setCell ⟨w.heap.size + 1 + 1, 0, none⟩ v') ∧ ListJ w.heap.size v' (s.1 ++ [x], s.2) (w1.setCell ⟨w.heap.size + 1 + 1, 0, none⟩ v') := by
        refine ⟨hk1.set h21 _, hm1.set h21 (by decide) (by omega) _, (heap_setOther (by omega)).trans h01, (heap_setOther (by omega)).trans h11, ?_, own_setCell hrow1 h21 (by decide) _, hs0⟩
        rw [heap_setCell _ _ _ _ _ _ _ h21]
        simp
      obtain ⟨va, vm, vc, rfl⟩ := row_form hrow
      obtain ⟨va', vm', vc', rfl⟩ := row_form hrow1
      have HFI := hide (And.intro hfin hN)
      have HRUN := hide hrun
      clear hfin hN hrun hr0 hr1 hr2 hrow hrow1 hgr hnx hbA hrowA h01 h11 h21 hk1 hm1 hx hc hs0
      gi_wp2_with (gi_at_builtin; refine wpListIn_append_run rfl (.tmp 24) (.tmp 26) 22 rfl rfl rfl HRUN.out ?_)
      gi_wp2
      exact ⟨HFI.out.1.1, HFI.out.1.2.1, _, HFI.out.2, .inl ⟨rfl, HFI.out.1.2.2⟩⟩
    · have q0 : (er != 0) = true := by simpa using he
      have c0 := cell_of_row W w.heap.size 0 _ _ _ hr0
      have c1 := cell_of_row W (w.heap.size + 1) 0 _ _ _ hr1
      simp only [List.getElem?_toArray, List.getElem?_cons_zero] at c0 c1
      have g0 := frozen0 (j := 0) hr0
      have g1 := frozen0 (j := 0) hr1
      have h0' : (W.setCell ⟨w.heap.size, 0, none⟩ (.slice none 0 0)).heap[w.heap.size]? = some (.cells #[.slice none 0 0] 22) := by rw [heap_setCell _ _ _ _ _ _ _ hr0]; simp
      have h1' : (W.setCell ⟨w.heap.size, 0, none⟩ (.slice none 0 0)).heap[w.heap.size + 1]? = some (.cells #[.int .i64 0] 26) := (heap_setOther (by omega)).trans hr1
      have hfin : KO W ((W.setCell ⟨w.heap.size, 0, none⟩ (.slice none 0 0)).setCell ⟨w.heap.size + 1, 0, none⟩ (.int .i64 er)) ∧ Mv B sts1 v.ownBlock W ((W.setCell ⟨w.heap.size, 0, none⟩ (.slice none 0 0)).setCell ⟨w.heap.size + 1, 0, none⟩ (.int .i64 er)) ∧ ListX w.heap.size v (s.1, er) ((W.setCell ⟨w.heap.size, 0, none⟩ (.slice none 0 0)).setCell ⟨w.heap.size + 1, 0, none⟩ (.int .i64 er)) := by
        refine ⟨((KO.refl W).set hr0 _).set h1' _, ((Mv.refl B sts1 v.ownBlock W).set hr0 (by decide) hB _).set h1' (by decide) (by omega) _, (heap_setOther (by omega)).trans h0', ?_, he⟩
        rw [heap_setCell _ _ _ _ _ _ _ h1']
        simp
      have HFI := hide hfin
      clear hfin hr0 hr1 hr2 hrow hx h0' h1' hs0
      gi_wp2
      exact ⟨HFI.out.1, _, HFI.out.2.1, Nx.refl _ _, .inr ⟨_, rfl, .inr ⟨he, rfl⟩, HFI.out.2.2⟩⟩
  case iter =>
    intro l J Jx W hY hJ hbW
    have hbW' : Below w.heap.size w W := HF.out.2.2.2.2.trans (hbW.mono (by omega))
    have hit := through1_any W l listSink g caps fd B sts1 kts1 J Jx hY I HG.out (by decide) (w.heap.size + 1 + 1 + 1) (w.heap.size + 1 + 1 + 1 + 2) (w.heap.size + 1 + 1 + 1 + 1) root lo hi asked (.slice none 0 0) ([], 0) ((hbW.block _ (lt_of_heap HF.out.1)).trans HF.out.1) ((hbW.block _ (lt_of_heap HF.out.2.2.1)).trans HF.out.2.2.1) ((hbW.block _ (lt_of_heap HF.out.2.1)).trans HF.out.2.1) (Nat.le_trans hB hbW'.size) hJ (HG.out.below HF.out.2.2.2.1 hbW) (by omega) (by simp [listSink])
    refine hit.mono ?_
    rintro e W' ⟨hx, v', h1, h2, h3, h4, h5⟩
    exact ⟨hx, v', h1, h2, by rw [HSA.out.1]; exact h3, (Mv.of hbW' hB).trans h4 (Nx.refl _ _)⟩
  case all =>
    rintro D W v' hD hc hX hK -
    obtain ⟨hT, hJ⟩ : (goT listSink fd lo hi 21 (rootK root) (-1) ⟨asked, [], ([], 0)⟩).2 = true ∧ ListJ w.heap.size v' (goT listSink fd lo hi 21 (rootK root) (-1) ⟨asked, [], ([], 0)⟩).1.s W := by
      rcases hc with h | h
      · exact h
      · exact h.2.elim
    obtain ⟨hr0, hr1, hr2, hrow, hs0⟩ := hJ
    have hbad : L.bad = 0 := HSA.out.2.2.2.1.1 hT
    have hout : outOf L = (goT listSink fd lo hi 21 (rootK root) (-1) ⟨asked, [], ([], 0)⟩).1.s.1 := by unfold outOf; rw [if_pos hbad]; exact HSA.out.2.1
    rw [← hout] at hrow
    have c2 := cell_of_row W (w.heap.size + 1 + 1) 0 _ _ _ hr2
    have c0 := cell_of_row W w.heap.size 0 _ _ _ hr0
    simp only [List.getElem?_toArray, List.getElem?_cons_zero] at c0 c2
    have g0 := frozen0 (j := 0) hr0
    have h0' : (W.setCell ⟨w.heap.size, 0, none⟩ v').heap[w.heap.size]? = some (.cells #[v'] 22) := by rw [heap_setCell _ _ _ _ _ _ _ hr0]; simp
    have h1' : (W.setCell ⟨w.heap.size, 0, none⟩ v').heap[w.heap.size + 1]? = some (.cells #[.int .i64 0] 26) := (heap_setOther (by omega)).trans hr1
    have e1 := cell_of_row _ (w.heap.size + 1) 0 _ _ _ h1'
    simp only [List.getElem?_toArray, List.getElem?_cons_zero] at e1
    have g1 := frozen0 (j := 0) h1'
    have h0f : ((W.setCell ⟨w.heap.size, 0, none⟩ v').setCell ⟨w.heap.size + 1, 0, none⟩ (.int .i64 0)).heap[w.heap.size]? = some (.cells #[v'] 22) := (heap_setOther (by omega)).trans h0'
    have h1f : ((W.setCell ⟨w.heap.size, 0, none⟩ v').setCell ⟨w.heap.size + 1, 0, none⟩ (.int .i64 0)).heap[w.heap.size + 1]? = some (.cells #[.int .i64 0] 26) := by rw [heap_setCell _ _ _ _ _ _ _ h1']; simp
    have hkf : KO W ((W.setCell ⟨w.heap.size, 0, none⟩ v').setCell ⟨w.heap.size + 1, 0, none⟩ (.int .i64 0)) := ((KO.refl W).set hr0 _).set h1' _
    have hmf : Mv B sts1 none W ((W.setCell ⟨w.heap.size, 0, none⟩ v').setCell ⟨w.heap.size + 1, 0, none⟩ (.int .i64 0)) := ((Mv.refl B sts1 none W).set hr0 (by decide) hB _).set h1' (by decide) (by omega) _
    have hof := own_setCell (j := 0) (own_setCell (j := 0) hrow hr0 (by decide) v') h1' (by decide) (.int .i64 0)
    obtain ⟨va', vm', vc', rfl⟩ := row_form hrow
    gi_wp2
    have hK' := hkf D _ hK rfl
    have hmp := Mv.put (B := B) (ts := []) (r := none) (o' := .deferred none) hK' rfl (by omega)
    refine ⟨by simp, .inl ⟨_, _, rfl, run_takeDeferred hK', ?_⟩⟩
    have z0 := cell_of_row _ w.heap.size 0 _ _ _ (hmp.k _ _ _ _ h0f (by simp) (by simp))
    have z1 := cell_of_row _ (w.heap.size + 1) 0 _ _ _ (hmp.k _ _ _ _ h1f (by simp) (by simp))
    simp only [List.getElem?_toArray, List.getElem?_cons_zero] at z0 z1
    refine ⟨.tuple #[.slice va' vm' vc', .int .i64 0], ?_, ⟨_, by rw [hbad], hmp.own0 hof (by simp), HG.out.mv hX.1 ((hmf.types (by decide)).trans (hmp.types (by simp)) (Nx.refl _ _)), hX.2.trans ((hmf.types (by decide)).trans (hmp.types (by simp)) (Nx.refl _ _)) (Nx.refl _ _)⟩⟩
    simp [results, Tryz.f17, go_sem, z0, z1]
  case left =>
    rintro D W v' hD hT hJ hX hK -
    obtain ⟨hr0, hr1, hs0⟩ := hJ
    have hbad : L.bad = (goT listSink fd lo hi 21 (rootK root) (-1) ⟨asked, [], ([], 0)⟩).1.s.2 := HSA.out.2.2.1
    have hout : outOf L = [] := by unfold outOf; rw [if_neg (by rw [hbad]; exact hs0)]
    change Code.ret.wpIn _ _ _ _ _ _
    gi_wp2
    have hmp := Mv.put (B := B) (ts := []) (r := none) (o' := .deferred none) hK rfl (by omega)
    refine ⟨by simp, .inl ⟨_, _, rfl, run_takeDeferred hK, ?_⟩⟩
    have z0 := cell_of_row _ w.heap.size 0 _ _ _ (hmp.k _ _ _ _ hr0 (by simp) (by simp))
    have z1 := cell_of_row _ (w.heap.size + 1) 0 _ _ _ (hmp.k _ _ _ _ hr1 (by simp) (by simp))
    simp only [List.getElem?_toArray, List.getElem?_cons_zero] at z0 z1
    refine ⟨.tuple #[.slice none 0 0, .int .i64 (goT listSink fd lo hi 21 (rootK root) (-1) ⟨asked, [], ([], 0)⟩).1.s.2], ?_, ⟨_, by rw [hbad], by rw [hout]; exact World.ownsRow_nil _ _ _ _, HG.out.mv hX.1 (hmp.types (by simp)), hX.2.trans (hmp.types (by simp)) (Nx.refl _ _)⟩⟩
    simp [results, Tryz.f17, go_sem, z0, z1]
end Go.Proofs.YtimbleaafoiidaaGreatDoor

/-
  A range over what maps.Values tells; slices.Collect of it. Conditions: what each round owes; not too many pairs.
-/
namespace Go.Proofs.YtimbleaafoiidaaGreatDoor
open Go.RowKit
attribute [local go_sem] Oper.semAt_some

theorem KW.mv {B : Nat} {W W' : World} (h : KW B W W') : Mv B [] Option.none W W' := ⟨h.b, fun k _cs _t _fr hk _ _ => h.k k _ hk rfl⟩
set_option maxHeartbeats 1600000 in
theorem wp_vals {P : Program} {g : Operand} {p : Tmp} {assign body : Code} {Q : Exit → Act → World → Prop} {a : Act} {w : World} {box b B : Nat} {l : List Pair}
    (hPP : P = Tryz.prog) (hg : a.eval g = .func (.func 92) #[] #[.pointer (some ⟨box, 0, none⟩)])
    (hxB : box < B) (hB : B ≤ w.heap.size) (hbox : w.heap[box]? = some (.cells #[.map (some b)] 130)) (hm : Mp.MapW w b (pv l))
    (I : List Pair → World → Prop) (kI : ∀ {out : List Pair} {W W' : World}, I out W → Mv B [] Option.none W W' → I out W') (h0 : I [] w) (start : Nat → Pair → Act)
    (hassign : ∀ (l : Nat) (x : Pair) (W : World) (K : Act → World → Prop), K (start W.heap.size x) (W.alloc (pairO x)) →
      assign.wpIn (Fence.wide.inRound l) 0 P (Exit.then K (fun _ _ _ => False)) { tmps := a.tmps.setIfInBounds p (.agg #[.string (strB x.1), .string (strB x.2)]), defers := [] } W)
    (hbody : ∀ (l' k : Nat) (out : List Pair) (x : Pair) (W : World), I out W → out.length < l.length → W.heap[k]? = some (pairO x) → B ≤ W.heap.size →
      body.wpIn (Fence.wide.inRound l') 0 P (fun e _ W' => e = .normal ∧ I (out ++ [x]) W' ∧ KeepsOthers W W' ∧ Below B W W') (start k x) W)
    (hall : ∀ (D : Nat) (W : World) (out : List Pair), w.heap.size ≤ D → out.Perm l → I out W → W.heap[D]? = some (.deferred (some [])) → Q .normal { a with defers := { target := .collected D, args := #[] } :: a.defers } W) :
    (Code.rangeFunc g #[p] assign body).wpIn Fence.wide 0 P Q a w := by
  subst hPP
  refine wpIn_rangeFunc fun fn hfn => ?_
  let D := w.heap.size
  let R : LoopState → Option Code → Obj := fun st pe => .loop { state := st, pending := pe, fn, tmps := a.tmps, params := #[p], assign, body, defers := D }
  let wl := (w.alloc (.deferred (some []))).alloc (R .ready none)
  have hD : wl.heap[D]? = some (.deferred (some [])) := (Below.heap_alloc _ _ _ (by simp [D])).trans (World.alloc_heap_new w _)
  have hL : wl.heap[D + 1]? = some (R .ready none) := by
    have := World.alloc_heap_new (w.alloc (.deferred (some []))) (R .ready none)
    rwa [World.size_alloc] at this
  have hbl : Below w.heap.size w wl := ((Below.refl _ w).alloc (Nat.le_refl _) _).alloc (by simp) _
  have turn : ∀ (W : World) st pe st' pe', W.heap[D + 1]? = some (R st pe) → Mv B [] Option.none W (W.putObj (D + 1) (R st' pe')) :=
    fun W st pe st' pe' h => Mv.put h rfl (Nat.le_trans hB (Nat.le_succ _))
  refine ⟨D + 1, [{ target := .collected D, args := #[] }], wl, { target := .fn (.func 92) #[.pointer (some ⟨box, 0, none⟩)], args := #[] ++ #[.func (.yield (D + 1)) #[] #[]] }, wl, 92,
    #[.func (.yield (D + 1)) #[] #[], .pointer (some ⟨box, 0, none⟩)], wl, run_enterLoop_outer _ _ _ _ _, ?_, fun _ _ => trivial, ?_, (fun h => by cases h), ?_⟩
  · simp only [resolve, hg]
    simp [Deferred.ofValue, go_sem]
  · simp [invoke, enters_own Tryz.func92 (by kernel_rfl) rfl]
  refine (values1_any wl box b B l hxB (Nat.le_trans hB hbl.size) ((hbl.block _ (lt_of_heap hbox)).trans hbox) (hm.same (hbl.block _ hm.lt)) (D + 1)
    (fun out W => I out W ∧ W.heap[D + 1]? = some (R .ready none) ∧ W.heap[D]? = some (.deferred (some [])) ∧ B ≤ W.heap.size)
    (fun h hk => ⟨kI h.1 hk.mv, hk.k _ _ h.2.1 rfl, hk.k _ _ h.2.2.1 rfl, Nat.le_trans h.2.2.2 hk.b.size⟩) ?_ ⟨kI h0 (Mv.of hbl hB), hL, hD, Nat.le_trans hB hbl.size⟩).mono ?_
  · rintro out x V ⟨hi, hl, hd, hBV⟩ hlt
    have hltV : D + 1 < V.heap.size := (Array.getElem?_eq_some_iff.1 hl).1
    refine ⟨fn, a.tmps.setIfInBounds p (.agg #[.string (strB x.1), .string (strB x.2)]), assign, body, (run_yield (args := #[.agg #[.string (strB x.1), .string (strB x.2)]]) hl rfl).trans (by simp), roundIn_of_wpIn hfn ?_⟩
    refine hassign (D + 1) x V (fun a1 w1 => ∃ w2, (Instr.beginRound (D + 1)).run Tryz.prog w1 = .ok () w2 ∧ body.wpIn (Fence.wide.inRound (D + 1)) 0 Tryz.prog _ a1 w2) ?_
    have hlA : (V.alloc (pairO x)).heap[D + 1]? = some (R .ready none) := (heap_past _ _ _ hltV).trans hl
    have hdA : (V.alloc (pairO x)).heap[D]? = some (.deferred (some [])) := (heap_past _ _ _ (lt_of_heap hd)).trans hd
    have hbA : Below V.heap.size V (V.alloc (pairO x)) := (Below.refl _ _).alloc (Nat.le_refl _) _
    have hiA := kI hi (Mv.of hbA hBV)
    have hxA := heap_last V (pairO x) _ rfl
    have hkA := KeepsOthers.alloc V (pairO x)
    have hsA : (V.alloc (pairO x)).heap.size = V.heap.size + 1 := by simp
    have hbAB := hbA.mono hBV
    generalize V.alloc (pairO x) = va at *
    refine ⟨_, run_beginRound hlA rfl, ?_⟩
    have hl1 : (va.putObj (D + 1) (R .busy none)).heap[D + 1]? = some (R .busy none) := World.putObj_heap_same (by omega)
    have hd1 : (va.putObj (D + 1) (R .busy none)).heap[D]? = some (.deferred (some [])) := (World.putObj_heap_other (by omega)).trans hdA
    have hx1 : (va.putObj (D + 1) (R .busy none)).heap[V.heap.size]? = some (pairO x) := (World.putObj_heap_other (by omega)).trans hxA
    have hs1 : (va.putObj (D + 1) (R .busy none)).heap.size = va.heap.size := by simp [World.putObj]
    have hi1 := kI hiA (turn va _ _ .busy Option.none hlA)
    refine wpIn_mono (hbody (D + 1) V.heap.size out x _ hi1 hlt hx1 (by rw [hs1, hsA]; omega)) fun e c V2 hp => ?_
    obtain ⟨rfl, hi2, hk2, hb2⟩ := hp
    have hl2 := hk2.same _ _ hl1 rfl
    have hd2 := hk2.same _ _ hd1 rfl
    have hs2 := hk2.size
    rw [hs1, hsA] at hs2
    have hs3 : ∀ o, (V2.putObj (D + 1) o).heap.size = V2.heap.size := fun o => by simp [World.putObj]
    refine ⟨_, _, run_endRound none hl2, rfl, ⟨kI hi2 (turn V2 _ _ _ _ hl2), World.putObj_heap_same (Array.getElem?_eq_some_iff.1 hl2).1, (World.putObj_heap_other (by omega)).trans hd2, by rw [hs3]; omega⟩, ⟨by rw [hs3]; omega, fun k o hk ho => ?_⟩, ?_⟩
    · by_cases hkD : k = D + 1
      · subst hkD
        rw [hl] at hk
        injection hk with hk
        subst hk
        exact World.putObj_heap_same (Array.getElem?_eq_some_iff.1 hl2).1
      · have hkl := lt_of_heap hk
        exact (World.putObj_heap_other hkD).trans (hk2.same _ _ ((World.putObj_heap_other hkD).trans (hkA.same _ _ hk ho)) ho)
    · exact ((hbAB.trans (turn va _ _ _ _ hlA).b).trans hb2).trans (turn V2 _ _ _ _ hl2).b
  · rintro e V ⟨⟨v, rfl⟩, out, hp, hi, hl, hd, hBV⟩
    exact ⟨none, _, run_endLoop hl (by simp), hall D _ out (Nat.le_refl _) hp (kI hi (turn V _ _ _ _ hl)) ((World.putObj_heap_other (by omega)).trans hd)⟩
set_option maxRecDepth 100000 in
set_option maxHeartbeats 1000000 in
theorem appendSeq_vals (w : World) (box b : Nat) (l : List Pair) (hbox : w.heap[box]? = some (.cells #[.map (some b)] 130)) (hm : Mp.MapW w b (pv l)) (hl : l.length ≤ 1000000) :
    Calls Tryz.prog 115 #[.slice none 0 0, .func (.func 92) #[] #[.pointer (some ⟨box, 0, none⟩)]] w fun e w' => ∃ v out, e = .returned v ∧ out.Perm l ∧ Rw w.heap.size w' 60 2 pairC v out ∧ Below w.heap.size w w' := by
  have hb0 : Below w.heap.size w (w.alloc (.cells #[.slice none 0 0] 22)) := (Below.refl _ w).alloc (Nat.le_refl _) _
  have hx0 := heap_last w (.cells #[.slice none 0 0] 22) _ rfl
  have hs0 : (w.alloc (.cells #[.slice none 0 0] 22)).heap.size = w.heap.size + 1 := by simp
  have hbox0 := (hb0.block _ (lt_of_heap hbox)).trans hbox
  have hm0 := hm.same (hb0.block _ hm.lt)
  have hxl := lt_of_heap hbox
  have HM := hide (And.intro hbox0 (And.intro hm0 (And.intro hb0 hx0)))
  obtain ⟨w0, hw0⟩ : ∃ w0, w.alloc (.cells #[.slice none 0 0] 22) = w0 := ⟨_, rfl⟩
  rw [hw0] at HM hs0
  clear hbox0 hm0 hb0 hx0 hbox hm
  refine (callsIn_wide (n := 0)).1 ?_
  refine callsIn_of_wp_marks Tryz.func115 rfl trivial ?_ rfl
  simp only [Tryz.ntmps115, List.size_toArray, List.length_cons, List.length_nil, Nat.reduceAdd, Nat.reduceSub, Array.replicate_succ, Array.replicate_zero, List.push_toArray, List.append_toArray, List.nil_append, List.cons_append]
  gi_wp2
  try rw [hw0]
  refine wp_vals (B := w.heap.size) (l := l) rfl rfl hxl (by omega) HM.out.1 HM.out.2.1
    (fun out W => ∃ v, W.heap[w.heap.size]? = some (.cells #[v] 22) ∧ Rw (w.heap.size + 1) W 60 2 pairC v out ∧ Below w.heap.size w W)
    (fun h hm => by
      obtain ⟨v, h1, h2, h3⟩ := h
      exact ⟨v, hm.k _ _ _ _ h1 (by simp) (by simp), hm.own0 h2 (by simp), h3.trans hm.b⟩)
    ⟨_, HM.out.2.2.2, World.ownsRow_nil _ _ _ _, HM.out.2.2.1⟩
    (fun k x => { tmps := #[.slice none 0 0, .func (.func 92) #[] #[.pointer (some ⟨box, 0, none⟩)], .pointer (some ⟨w.heap.size, 0, none⟩), undef, .slice none 0 0, .pointer (some ⟨k, 0, none⟩), .func (.func 92) #[] #[.pointer (some ⟨box, 0, none⟩)], .agg #[.string (strB x.1), .string (strB x.2)], undef, undef, undef, undef, undef], defers := [] }) ?assign ?body ?all
  case assign =>
    intro l x W K hK
    gi_wp2
    exact hK
  case body =>
    rintro l' k out x W ⟨v, hv, hrow, hB⟩ hlt hx hBW
    have hsW := lt_of_heap hv
    obtain ⟨v', w1, hrun, hrow1, hgr, hnx⟩ := app_pair W (w.heap.size + 1) v out x hrow (by omega) (by omega)
    have hbA : Below W.heap.size W (W.alloc (pairO x)) := (Below.refl _ _).alloc (Nat.le_refl _) _
    have hrowA : Rw (w.heap.size + 1) (W.alloc (pairO x)) 60 2 pairC v out := World.ownsRow.alloc hrow _
    have h01 := grow_keep hrowA hgr ((heap_past W (pairO x) _ (lt_of_heap hv)).trans hv) (by decide)
    have hm1 : Mv w.heap.size [22] v.ownBlock W w1 := (Mv.of hbA (by omega)).grownRow (own_low hrowA (by omega)) hgr (Nx.refl _ _) (by simp; omega)
    have hk1 : KeepsOthers W w1 := by
      refine ⟨hm1.size, fun i o hi ho => ?_⟩
      refine (hgr.block i (by simp; have := lt_of_heap hi; omega) fun hq => ?_).trans ((heap_past W _ _ (lt_of_heap hi)).trans hi)
      obtain ⟨cs, fz, h2⟩ := Lib.ownsRow_kind hrowA i hq.symm
      rw [(heap_past W (pairO x) _ (lt_of_heap hi)).trans hi] at h2
      injection h2 with h2
      subst h2
      cases ho
    have c0 := cell_of_row W w.heap.size 0 _ _ _ hv
    have x0 := cell_of_row W k 0 _ _ _ hx
    have x1 := cell_of_row W k 1 _ _ _ hx
    have e0 := cell_of_row w1 w.heap.size 0 _ _ _ h01
    simp only [List.getElem?_toArray, List.getElem?_cons_zero, List.getElem?_cons_succ] at c0 x0 x1 e0
    have g0 := frozen0 (j := 0) h01
    have hk2 : KeepsOthers W (w1.setCell ⟨w.heap.size, 0, none⟩ v') := by
      refine ⟨by simp [World.setCell]; exact hm1.size, fun i o hi ho => ?_⟩
      have h2 := hk1.same i o hi ho
      refine (heap_setOther ?_).trans h2
      rintro rfl
      rw [h01] at h2
      injection h2 with h2
      subst h2
      cases ho
    have hfin : Below w.heap.size W (w1.setCell ⟨w.heap.size, 0, none⟩ v') := (hm1.set h01 (by decide) (Nat.le_refl _) _).b
    have hJ : (w1.setCell ⟨w.heap.size, 0, none⟩ v').heap[w.heap.size]? = some (.cells #[v'] 22) ∧ Rw (w.heap.size + 1) (w1.setCell ⟨w.heap.size, 0, none⟩ v') 60 2 pairC v' (out ++ [x]) := by
      refine ⟨?_, own_setCell hrow1 h01 (by decide) _⟩
      rw [heap_setCell _ _ _ _ _ _ _ h01]
      simp
    have HJ := hide (And.intro hk2 (And.intro hfin hJ))
    have HRUN := hide hrun
    have HB := hide hB
    obtain ⟨va, vm, vc, rfl⟩ := row_form hrow
    obtain ⟨va', vm', vc', rfl⟩ := row_form hrow1
    clear hk2 hfin hJ hk1 hm1 hrun hrowA hbA hgr hnx hrow1 hrow h01 hv hx hB
    gi_wp2_with (gi_at_builtin; refine wpListIn_append_run rfl (.tmp 8) (.tmp 10) 22 rfl rfl rfl HRUN.out ?_)
    gi_wp2
    exact ⟨⟨_, HJ.out.2.2.1, HJ.out.2.2.2, HB.out.trans HJ.out.2.1⟩, HJ.out.1, HJ.out.2.1⟩
  case all =>
    rintro D W out hD hp ⟨v, hv, hrow, hB⟩ hK
    have hc := cell_of_row W w.heap.size 0 _ _ _ hv
    simp only [List.getElem?_toArray, List.getElem?_cons_zero] at hc
    gi_wp2
    refine ⟨by simp, .inl ⟨_, _, rfl, run_takeDeferred hK, ?_⟩⟩
    have hmp := Mv.put (B := w.heap.size) (ts := []) (r := none) (o' := .deferred none) hK rfl (by omega)
    exact ⟨_, results_tmp rfl _ _ _, v, out, rfl, hp, own_low (hmp.own0 hrow (by simp)) (by omega), hB.trans hmp.b⟩
end Go.Proofs.YtimbleaafoiidaaGreatDoor

/-
  Pairs with a put, by the reference. Conditions: the pairs lie there, not too many.
-/
namespace Go.Proofs.YtimbleaafoiidaaGreatDoor
open Go.RowKit

/-- A put: its key, its value, is it taken away? -/
abbrev PutM := Bs × (Bs × Bool)
def putC (p : PutM) : List Value := [.string (strB p.1), .string (strB p.2.1), .bool p.2.2]
/-- How many keys stand ahead of this one? -/
def posM (l : List Pair) (key : Bs) : Nat := (l.takeWhile (fun x => ltB x.1 key)).length
/-- Does a pair with this key stand there? -/
def thereM (l : List Pair) (key : Bs) : Bool := (l[posM l key]?.map (fun x => x.1 == key)).getD false
def doneM (l : List Pair) (p : PutM) : List Pair := l.take (posM l p.1) ++ (if p.2.2 then [] else [(p.1, p.2.1)]) ++ l.drop (posM l p.1 + if thereM l p.1 then 1 else 0)
theorem posM_at (l : List Pair) (key : Bs) : ∀ (i : Nat), i ≤ l.length → (∀ x ∈ l.take i, ltB x.1 key = true) → (∀ h : i < l.length, ltB l[i].1 key = false) → posM l key = i := by
  unfold posM
  induction l with
  | nil => intro i hi _ _; simp at hi; simp [hi]
  | cons a r ih =>
    intro i hi h1 h2
    cases i with
    | zero =>
      have := h2 (by simp)
      simp only [List.getElem_cons_zero] at this
      rw [List.takeWhile_cons, this]
      rfl
    | succ k =>
      have ha := h1 a (by simp)
      rw [List.takeWhile_cons, ha, if_pos rfl, List.length_cons]
      congr 1
      refine ih k (by simpa using hi) (fun x hx => h1 x (by simp [hx])) (fun h => ?_)
      have := h2 (by simpa using h)
      simpa using this
theorem wp_make_run {P : Program} {o : Oper} {a : Act} {w : World} {K : Act → World → Prop} {Q : Exit → Act → World → Prop} (l c : Operand) (t : TypeId)
    (ho : o.op = .makeSlice t l c) {v1 v2 v' : Value} {w' : World} (hl : a.eval l = v1) (hc : a.eval c = v2)
    (hrun : (Instr.makeSlice t v1 v2).run P w = .ok v' w') (hK : K (a.put o.dst v') w') : o.wp P a w K Q := by
  unfold Oper.wp
  simp [execOp, ho, hl, hc, hrun, Result.andThen]
  exact hK
theorem app_none_pair (W : World) (a : Addr) (n c c2 : Nat) (hnc : n ≤ c) : (Builtin.append_ #[22, 22] 22 #[.slice (some a) n c, .slice none 0 c2]).run Tryz.prog W = .ok (.slice (some a) n c) W := by
  obtain ⟨i0, hi0, hz0, hz1, hz2⟩ := info_parts Tryz.zPair
  simp [Builtin.append_, run_underlying Tryz.underlying22, sizeOf, typeInfo, zeroValue, hi0, Builtin.lenOf, run_firstCells_none, hnc, storeCells, Result.andThen]
theorem flat_at : ∀ (ys : List Pair) (j : Nat) (h : j < ys.length * 2), (ys.flatMap pairC)[j]? = (pairC (ys[j / 2]'(by omega)))[j % 2]?
  | [], j, h => by simp at h
  | y :: ys, j, h => by
    rw [List.flatMap_cons]
    rcases Nat.lt_or_ge j 2 with hlt | hge
    · rw [List.getElem?_append_left (by simp [pairC]; omega)]
      have : j / 2 = 0 := by omega
      simp only [this, List.getElem_cons_zero]
      rw [Nat.mod_eq_of_lt hlt]
    · rw [List.getElem?_append_right (by simp [pairC]; omega)]
      have e1 : j - (pairC y).length = j - 2 := by simp [pairC]
      have hj : j - 2 < ys.length * 2 := by simp at h; omega
      rw [e1, flat_at ys (j - 2) hj]
      have e2 : j / 2 = (j - 2) / 2 + 1 := by omega
      have e3 : (j - 2) % 2 = j % 2 := by omega
      simp only [e2, e3, List.getElem_cons_succ]
/-- Pairs that lie there, behind a row of pairs that is not nil. -/
theorem app_pairsL (w : World) (B : Nat) (a : Addr) (n c : Nat) (v : Value) (xs ys : List Pair) (h : Rw B w 60 2 pairC (.slice (some a) n c) xs) (hv : Ls w.heap.size w 2 pairC v ys) (hB : B ≤ w.heap.size) (hn : xs.length + ys.length ≤ 4294967296) :
    ∃ a' n' c' w', (Builtin.append_ #[22, 22] 22 #[.slice (some a) n c, v]).run Tryz.prog w = .ok (.slice (some a') n' c') w' ∧ Rw B w' 60 2 pairC (.slice (some a') n' c') (xs ++ ys) ∧ Below B w w' := by
  obtain ⟨i0, hi, hz0, hz1, hz2⟩ := info_parts Tryz.zPair
  obtain ⟨ao, cap, rfl, hc1, -, hcc⟩ := hv
  have hfl : ∀ zs : List Pair, (zs.flatMap pairC).length = zs.length * 2 := fun zs => by
    induction zs with
    | nil => rfl
    | cons z zs ih => rw [List.flatMap_cons, List.length_append, ih, List.length_cons]; simp [pairC]; omega
  cases ao with
  | none =>
    have hy : ys = [] := by
      by_cases hq : ys = []
      · exact hq
      · obtain ⟨b, off, e, -⟩ := hcc hq
        cases e
    subst hy
    obtain ⟨a', c', e, hle, -⟩ := own_form h
    injection e with e1 e2 e3
    subst e2 e3
    exact ⟨a, _, c, w, app_none_pair w a _ c cap hle, by simpa using h, Below.refl _ _⟩
  | some q =>
    have hnews : ∀ j u, (ys.flatMap pairC)[j]? = some u → w.cell? (q.add j) = some u := fun j u hu => by
      have hj : j < ys.length * 2 := by
        have := (List.getElem?_eq_some_iff.1 hu).1
        rwa [hfl] at this
      obtain ⟨b, off, e, -, hcel⟩ := hcc (by rintro rfl; simp at hj)
      obtain rfl : q = ⟨b, off, none⟩ := Option.some.inj e
      have h1 : j / 2 < ys.length := by omega
      have h2 := flat_at ys j hj
      rw [h2] at hu
      have := hcel (j / 2) h1 (j % 2) u hu
      rw [Addr.add_lit]
      have e4 : off + j / 2 * 2 + j % 2 = off + j := by omega
      rwa [e4] at this
    obtain ⟨v5, w5, hrun5, own5, hgr5, hnil⟩ := run_append_own (P := Tryz.prog) w B 22 22 60 i0 (.agg #[.string ⟨#[]⟩, .string ⟨#[]⟩]) 2 32 Tryz.underlying22 hi hz0 hz1 hz2 rfl (by decide) _ xs.length (xs.flatMap pairC) h q ys.length cap (ys.flatMap pairC) (hfl ys) hnews (by intro x hx; obtain ⟨y, -, hy⟩ := List.mem_flatMap.1 hx; simp [pairC] at hy; rcases hy with rfl | rfl <;> simp [Value.oneCell']) (by unfold maxLen; omega) (by omega) hB
    rw [← List.flatMap_append, ← List.length_append] at own5
    obtain ⟨a5, c5, rfl, -⟩ := own_form own5
    cases a5 with
    | none =>
      exfalso
      have h6 := own5.2
      rcases h6 with ⟨e, h0⟩ | ⟨g6, c6, cur6, e, -⟩
      · have := (hnil.1 e).1
        cases this
      · injection e with e
        cases e
    | some a6 => exact ⟨a6, _, c5, w5, hrun5, own5, (Below.refl _ _).grown hgr5 hB (fun q hq => (World.ownsRow.lt h q hq).1)⟩
end Go.Proofs.YtimbleaafoiidaaGreatDoor

/-
  Puts done to pairs by rising keys, plainly. No program here.
-/
namespace Go.Proofs.YtimbleaafoiidaaGreatDoor
open Go.RowKit

theorem ltB_total : ∀ (a b : Bs), ltB a b = false → ltB b a = false → a = b
  | [], [], _, _ => rfl
  | [], b :: m, h, _ => by rw [ltB_nil_cons] at h; cases h
  | a :: l, [], _, h => by rw [ltB_nil_cons] at h; cases h
  | a :: l, b :: m, h1, h2 => by
    rw [ltB_cons, Bool.or_eq_false_iff] at h1 h2
    have hab : a = b := by
      have h3 := of_decide_eq_false h1.1
      have h4 := of_decide_eq_false h2.1
      exact UInt8.le_antisymm (UInt8.not_lt.1 h4) (UInt8.not_lt.1 h3)
    subst hab
    have h3 := h1.2
    have h4 := h2.2
    simp only [beq_self_eq_true, Bool.true_and] at h3 h4
    rw [ltB_total l m h3 h4]
/-- By strictly rising keys. -/
def Rises (l : List Pair) : Prop := l.Pairwise (fun x y => ltB x.1 y.1 = true)
theorem lastP_snoc (l : List Pair) (x : Pair) : lastP (l ++ [x]) = x.1 := by simp [lastP]
theorem rises_snoc {l : List Pair} {x : Pair} (h : Rises l) (hb : l = [] ∨ ltB (lastP l) x.1 = true) : Rises (l ++ [x]) := by
  refine List.pairwise_append.2 ⟨h, List.pairwise_singleton _ _, fun a ha b hb' => ?_⟩
  rw [List.mem_singleton.1 hb']
  rcases List.eq_nil_or_concat l with rfl | ⟨l', z, rfl⟩
  · cases ha
  · rw [List.concat_eq_append] at *
    rcases hb with hb | hb
    · simp at hb
    · rw [lastP_snoc] at hb
      rcases List.mem_append.1 ha with ha | ha
      · exact ltB_trans _ _ _ ((List.pairwise_append.1 h).2.2 a ha z (by simp)) hb
      · rw [List.mem_singleton.1 ha]
        exact hb
theorem takeM_rises (lo hi : Bs) : ∀ (ps : List Pair) (s : LsS), Rises s.out → Rises (takeM lo hi ps s).out
  | [], _, h => h
  | x :: r, s, h => by
    rw [takeM]
    split
    · split
      · exact h
      · rename_i hb
        refine takeM_rises lo hi r _ (rises_snoc h ?_)
        unfold backM at hb
        cases hl : s.out with
        | nil => exact .inl rfl
        | cons a t =>
          rw [hl] at hb
          simp only [List.isEmpty_cons, Bool.not_false, Bool.true_and, Bool.not_eq_true', Bool.not_eq_false] at hb
          exact .inr hb
    · exact takeM_rises lo hi r s h
/-- The place of a key in pairs that rise: those ahead of it, perhaps its own, those behind it. -/
theorem rises_split {l : List Pair} (h : Rises l) (key : Bs) : ∃ a b : List Pair, (∀ x ∈ a, ltB x.1 key = true) ∧ (∀ x ∈ b, ltB key x.1 = true) ∧
    ((thereM l key = false ∧ l = a ++ b ∧ posM l key = a.length) ∨ ∃ v, thereM l key = true ∧ l = a ++ (key, v) :: b ∧ posM l key = a.length) := by
  have e : l = l.takeWhile (fun x => ltB x.1 key) ++ l.dropWhile (fun x => ltB x.1 key) := (List.takeWhile_append_dropWhile).symm
  have ha : ∀ x ∈ l.takeWhile (fun x => ltB x.1 key), ltB x.1 key = true := fun x hx => by
    have := List.all_takeWhile (p := fun x : Pair => ltB x.1 key) (l := l)
    rw [List.all_eq_true] at this
    exact this x hx
  have hp : posM l key = (l.takeWhile (fun x => ltB x.1 key)).length := rfl
  have hat : l[posM l key]? = (l.dropWhile (fun x => ltB x.1 key))[0]? := by
    rw [hp]
    conv => lhs; rw [e]
    rw [List.getElem?_append_right (by simp)]
    simp
  have hh : Rises (l.takeWhile (fun x => ltB x.1 key) ++ l.dropWhile (fun x => ltB x.1 key)) := by rw [← e]; exact h
  cases hd : l.dropWhile (fun x => ltB x.1 key) with
  | nil =>
    refine ⟨_, [], ha, by simp, .inl ⟨?_, by rw [hd] at e; exact e, hp⟩⟩
    unfold thereM
    rw [hat, hd]
    rfl
  | cons x r =>
    have hx : ltB x.1 key = false := by
      have := List.head_dropWhile_not (fun x : Pair => ltB x.1 key) (l := l) (by rw [hd]; simp)
      simp only [hd, List.head_cons] at this
      exact this
    have ht : thereM l key = (x.1 == key) := by
      unfold thereM
      rw [hat, hd]
      rfl
    rw [hd] at hh e
    have hr := List.pairwise_append.1 hh
    have hxr := (List.pairwise_cons.1 hr.2.1).1
    by_cases hk : x.1 = key
    · refine ⟨_, r, ha, fun y hy => by rw [← hk]; exact hxr y hy, .inr ⟨x.2, by rw [ht, hk]; simp, ?_, hp⟩⟩
      rw [show ((key, x.2) : Pair) = x by rw [← hk]]
      exact e
    · have hkx : ltB key x.1 = true := by
        cases hq : ltB key x.1 with
        | true => rfl
        | false => exact absurd (ltB_total _ _ hx hq) hk
      refine ⟨_, x :: r, ha, fun y hy => ?_, .inl ⟨by rw [ht]; simpa using hk, e, hp⟩⟩
      rcases List.mem_cons.1 hy with rfl | hy
      · exact hkx
      · exact ltB_trans _ _ _ hkx (hxr y hy)
/-- A put done: those ahead, the pair laid, those behind. -/
theorem done_split {l : List Pair} (h : Rises l) (p : PutM) : ∃ a b : List Pair, (∀ x ∈ a, ltB x.1 p.1 = true) ∧ (∀ x ∈ b, ltB p.1 x.1 = true) ∧
    (l = a ++ b ∨ ∃ v, l = a ++ (p.1, v) :: b) ∧ doneM l p = a ++ ((if p.2.2 then [] else [(p.1, p.2.1)]) ++ b) := by
  obtain ⟨a, b, ha, hb, ⟨ht, e, hp⟩ | ⟨v, ht, e, hp⟩⟩ := rises_split h p.1
  · refine ⟨a, b, ha, hb, .inl e, ?_⟩
    unfold doneM
    rw [ht, hp, e]
    simp
  · refine ⟨a, b, ha, hb, .inr ⟨v, e⟩, ?_⟩
    unfold doneM
    rw [ht, hp, e]
    simp
theorem done_rises {l : List Pair} (h : Rises l) (p : PutM) : Rises (doneM l p) := by
  obtain ⟨a, b, ha, hb, hl, e⟩ := done_split h p
  have hab : Rises (a ++ b) := by
    rcases hl with rfl | ⟨v, rfl⟩
    · exact h
    · exact h.sublist (List.Sublist.append (List.Sublist.refl _) (List.sublist_cons_self _ _))
  rw [e]
  have hr := List.pairwise_append.1 hab
  refine List.pairwise_append.2 ⟨hr.1, ?_, fun x hx y hy => ?_⟩
  · refine List.pairwise_append.2 ⟨?_, hr.2.1, fun x hx y hy => ?_⟩
    · split <;> simp
    · split at hx
      · cases hx
      · rw [List.mem_singleton.1 hx]
        exact hb y hy
  · rcases List.mem_append.1 hy with hy | hy
    · split at hy
      · cases hy
      · rw [List.mem_singleton.1 hy]
        exact ha x hx
    · exact hr.2.2 x hx y hy
theorem done_length (l : List Pair) (p : PutM) : (doneM l p).length ≤ l.length + 1 := by
  unfold doneM
  have : posM l p.1 ≤ l.length := (List.takeWhile_sublist _).length_le
  simp only [List.length_append, List.length_take, List.length_drop]
  split <;> split <;> simp <;> omega
theorem rises_keys {l : List Pair} (h : Rises l) : (l.map (·.1)).Nodup := by
  rw [List.Nodup, List.pairwise_map]
  exact h.imp fun {a b} hab e => by rw [e, ltB_irrefl] at hab; cases hab
/-- Pairs that rise are told by which there are. -/
theorem rises_unique : ∀ {l m : List Pair}, Rises l → Rises m → l.Perm m → l = m
  | [], m, _, _, hp => (List.nil_perm.1 hp).symm
  | x :: l, [], _, _, hp => by cases List.perm_nil.1 hp
  | x :: l, y :: m, hl, hm, hp => by
    have h1 := List.pairwise_cons.1 hl
    have h2 := List.pairwise_cons.1 hm
    have hxy : x = y := by
      rcases List.mem_cons.1 (hp.mem_iff.1 (List.mem_cons_self (a := x) (l := l))) with e | hx
      · exact e
      · rcases List.mem_cons.1 (hp.mem_iff.2 (List.mem_cons_self (a := y) (l := m))) with e | hy
        · exact e.symm
        · have := ltB_trans _ _ _ (h1.1 y hy) (h2.1 x hx)
          rw [ltB_irrefl] at this
          cases this
    subst hxy
    rw [rises_unique h1.2 h2.2 hp.cons_inv]
/-- All puts, one behind the other. -/
def doneA (l : List Pair) (ps : List PutM) : List Pair := ps.foldl doneM l
theorem doneA_rises {l : List Pair} (h : Rises l) : ∀ (ps : List PutM), Rises (doneA l ps) := by
  intro ps
  induction ps generalizing l with
  | nil => exact h
  | cons p r ih => exact ih (done_rises h p)
theorem doneA_length (ps : List PutM) (l : List Pair) : (doneA l ps).length ≤ l.length + ps.length := by
  induction ps generalizing l with
  | nil => simp [doneA]
  | cons p r ih =>
    have h1 := ih (doneM l p)
    have h2 := done_length l p
    rw [List.length_cons]
    exact Nat.le_trans h1 (by omega)
theorem eachM_rises {f : Link → LsS → LsS} {lo hi : Bs} (hf : ∀ k s, Rises s.out → Rises (f k s).out) : ∀ (ks : List Link) (s : LsS), Rises s.out → Rises (eachM f lo hi ks s).out
  | [], _, h => h
  | k :: r, s, h => by
    have h1 : Rises (if s.bad = 0 ∧ ltB k.1 lo = false then f k s else s).out := by
      split
      · exact hf k s h
      · exact h
    rw [eachM]
    split
    · exact h1
    · exact eachM_rises hf r _ h1
theorem goM_rises (fd : Bs → Option Bs) (lo hi : Bs) : ∀ (d : Nat) (k : Link) (level : Int) (s : LsS), Rises s.out → Rises (goM fd lo hi d k level s).out
  | 0, _, _, _, h => h
  | d + 1, k, level, s, h => by
    rw [goM]
    split
    · exact h
    · exact eachM_rises (fun q t ht => goM_rises fd lo hi d q _ t ht) _ _ (takeM_rises lo hi _ _ h)
end Go.Proofs.YtimbleaafoiidaaGreatDoor
