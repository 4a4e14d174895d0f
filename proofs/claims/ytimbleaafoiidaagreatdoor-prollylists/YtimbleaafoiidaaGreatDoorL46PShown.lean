/-
  Texts joined: PShown, PListP, PMany, PSameO, PSameP.
-/
import Derived.Test.YtimbleaafoiidaaGreatDoorL39PFind
import Derived.Test.YtimbleaafoiidaaGreatDoorL45PBuild
import Derived.Test.YtimbleaafoiidaaGreatDoorL41PGoing3
import Derived.Test.YtimbleaafoiidaaGreatDoorL43PRList
import Derived.Test.YtimbleaafoiidaaGreatDoorL27PNodeP
import Derived.Test.YtimbleaafoiidaaGreatDoorL25PRMany
import Derived.Test.YtimbleaafoiidaaGreatDoorL23PRow
import Derived.Laws.StructEq
/-
  What the statements show first. Condition: the table holds its numbers.
-/
namespace Go.Proofs.YtimbleaafoiidaaGreatDoor
open Go.RowKit

theorem enters_own {P : Program} {f : FuncId} {fn : Func} {c : Code} (h1 : P.funcs[f]? = some fn) (h2 : (fn.name == "runtime.NumGoroutine") = false) (h3 : fn.body = some c) (args : Array Value) (w : World) : (callFunc f args).run P w = .ok (.enter f args) w := by
  have h4 : fn.name ≠ "runtime.NumGoroutine" := by simpa using h2
  simp [callFunc, h1, h4, h3, mark]
/-- The get of a list that lies there. -/
theorem get_from {w2 : World} {c : Nat} {v : Value} {objs : List Pair} (ts : List TypeId) (hn : 83 ∈ ts) (hc : w2.heap[c]? = some (.cells #[v] 25)) (hv : Ls w2.heap.size w2 2 pairC v objs) (hs : ∀ o ∈ objs, o.2.length ≤ 140737488351232) :
    GetOk 44 #[.pointer (some ⟨c, 0, none⟩)] (findO objs) w2.heap.size ts (fun W _ => Below w2.heap.size w2 W) where
  eg := enters_own Tryz.func44 (by kernel_rfl) rfl
  le W a h := h.size
  mv h hm := h.trans hm.b
  call W a id h _ := (from1_any W c v objs id ((h.block c (lt_of_heap hc)).trans hc) ((hv.keep h).up h.size)).mono fun e w' hq => ⟨hq.1, hq.2 ▸ h, hq.2 ▸ Mv.refl _ _ _ _, hq.2 ▸ KO.refl _⟩
  node := hn
  short id b h := findO_short hs id b h
set_option maxRecDepth 20000 in
theorem from_any (w : World) (ao : Option Addr) (m c : Nat) : Calls Tryz.prog 20 #[.slice ao m c] w fun e w' => e = .returned (.func (.func 44) #[] #[.pointer (some ⟨w.heap.size, 0, none⟩)]) ∧ w' = w.alloc (.cells #[.slice ao m c] 25) := by
  have hmf : ∀ (fn : Fn) (first cap : Array Value) (w : World), (Instr.makeFunc fn first cap).run Tryz.prog w = .ok (.func fn first cap) w := fun _ _ _ _ => rfl
  go_enter Tryz.func20, Tryz.ntmps20
  go_wp2
  go_ret
  exact ⟨rfl, rfl⟩
/-- The two pairs that are shown. -/
def twoP : List Pair := [([97], [49]), ([98], [50])]
theorem two_ends : ends12 1 [97] 0 = false := by kernel_rfl
theorem two_leaf : leafG twoP = [twoP] := by
  unfold leafG twoP
  rw [gath, if_neg (by rw [show ([] : List Pair).length + 1 = 1 from rfl, two_ends]; simp), gath]
  split
  · rfl
  · rfl
theorem two_build : buildM twoP = ((leafO twoP).1, [leafO twoP], 0) := by
  rw [buildM_root (by decide) (by decide), rootM_some (by decide), two_leaf, riseL_one (by simp)]
  rfl
theorem two_find : findF (findO [leafO twoP]) (leafO twoP).1 [98] [] = ([50], true, [(leafO twoP).1], 0) := by
  have hfd : findO [leafO twoP] (leafO twoP).1 = some (76 :: leafB twoP) := by unfold findO leafO; simp
  have hok : leafOk ltB twoP = true := by decide
  have hlen := leafB_le hok
  have hta : takenLeaf (76 :: leafB twoP) = some twoP := (takenLeaf_iff (76 :: leafB twoP) (by simp; omega) twoP).2 ⟨hok, rfl⟩
  have hask := askM_root_ok hfd (nodeM_leaf hta)
  unfold findF
  rw [if_neg (by decide), hask, restM_leaf (by omega) rfl rfl]
  rfl
theorem ls_twoP (w : World) : Ls (w.alloc (.cells #[.string ⟨#[97]⟩, .string ⟨#[49]⟩, .string ⟨#[98]⟩, .string ⟨#[50]⟩] 60)).heap.size (w.alloc (.cells #[.string ⟨#[97]⟩, .string ⟨#[49]⟩, .string ⟨#[98]⟩, .string ⟨#[50]⟩] 60)) 2 pairC (.slice (some ⟨w.heap.size, 0, none⟩) 2 2) twoP := by
  have hx := heap_last w (.cells #[.string ⟨#[97]⟩, .string ⟨#[49]⟩, .string ⟨#[98]⟩, .string ⟨#[50]⟩] 60) _ rfl
  refine ⟨_, 2, rfl, Nat.le_refl _, by unfold maxLen; omega, fun _ => ⟨w.heap.size, 0, rfl, by simp, fun j hj i u hu => ?_⟩⟩
  rw [cell_of_row _ _ _ _ _ _ hx]
  match j, hj with
  | 0, _ =>
    match i with
    | 0 => exact hu
    | 1 => exact hu
    | _ + 2 => simp [pairC] at hu
  | 1, _ =>
    match i with
    | 0 => exact hu
    | 1 => exact hu
    | _ + 2 => simp [pairC] at hu
set_option maxRecDepth 40000 in
set_option maxHeartbeats 1600000 in
theorem shown_any (w : World) (hT : TabW w) : Calls Tryz.prog 8 #[] w fun e w' => e = .returned (.bool true) ∧ Below w.heap.size w w' := by
  have hb0 : Below w.heap.size w (w.alloc (.cells #[.string ⟨#[97]⟩, .string ⟨#[49]⟩, .string ⟨#[98]⟩, .string ⟨#[50]⟩] 60)) := (Below.refl _ _).alloc (Nat.le_refl _) _
  have hbd := build_any (w.alloc (.cells #[.string ⟨#[97]⟩, .string ⟨#[49]⟩, .string ⟨#[98]⟩, .string ⟨#[50]⟩] 60)) twoP _ (ls_twoP w) (hT.keep hb0 hT.1)
  rw [two_build] at hbd
  simp only at hbd
  have hfi := two_find
  have ho2 : (leafO twoP).2.length ≤ 140737488351232 := by
    have := leafB_le (show leafOk ltB twoP = true by decide)
    show (76 :: leafB twoP).length ≤ _
    simp
    omega
  obtain ⟨o, ho⟩ : ∃ o, o = leafO twoP := ⟨_, rfl⟩
  rw [← ho] at hbd hfi ho2
  have H0 := hide hb0
  have HFI := hide hfi
  have HO2 := hide ho2
  clear hb0 hfi ho2 ho hT
  go_enter Tryz.func8, Tryz.ntmps8
  go_wp2_with fail
  refine hbd.mono ?_
  rintro e w1 ⟨v, rfl, hrow, hb1⟩
  have hB1 := H0.out.trans (hb1.mono H0.out.size)
  obtain ⟨ao, c, rfl, -⟩ := own_form hrow
  have hfr := from_any w1 ao ([o] : List Pair).length c
  have hb3 : Below w1.heap.size w1 (w1.alloc (.cells #[.slice ao ([o] : List Pair).length c] 25)) := (Below.refl _ _).alloc (Nat.le_refl _) _
  have hc3 := heap_last w1 (.cells #[.slice ao ([o] : List Pair).length c] 25) _ rfl
  have hrow3 := own_below hrow hb3
  have hls := ls_of_own (cs := pairC) (xs := [o]) pairC_length hrow3
  have hG := get_from (w2 := w1.alloc (.cells #[.slice ao ([o] : List Pair).length c] 25)) [83] (by decide) hc3 hls (by simpa using HO2.out)
  have hre := find_prog (w1.alloc (.cells #[.slice ao ([o] : List Pair).length c] 25)) _ _ _ _ _ _ hG o.1 [98] (by decide) [] (Below.refl _ _) (by simp)
  rw [HFI.out] at hre
  simp only [List.length_singleton] at hre hfr
  have htl : (strB [50]).toList = [50] := toL [50]
  have htl2 : (⟨#[50]⟩ : ByteArray).toList = [50] := toL [50]
  have hs98 : strB [98] = ⟨#[98]⟩ := rfl
  rw [hs98] at hre
  have H3 := hide (hB1.trans (hb3.mono hB1.size))
  clear hbd hrow hb1 hB1 hb3 hc3 hrow3 hls hG
  simp only [List.length_singleton]
  go_wp2_with fail
  refine hfr.mono ?_
  rintro e w3 ⟨rfl, rfl⟩
  go_wp2_with fail
  refine hre.mono ?_
  rintro e w4 ⟨rfl, -, hM4⟩
  have H4 := hide (H3.out.trans (hM4.b.mono H3.out.size))
  clear hM4 hre hfr
  go_wp2
  go_ret
  exact ⟨rfl, H4.out⟩
end Go.Proofs.YtimbleaafoiidaaGreatDoor

/-
  The pairs of a map listed by the program, by any get. Conditions: the get keeps its word; not too much was asked.
-/
namespace Go.Proofs.YtimbleaafoiidaaGreatDoor
open Go.RowKit Go.Shelf
attribute [local go_sem] Oper.semAt_some

theorem wpListIn_append_run {F : Fence} {n : Nat} {P : Program} {ops : Array Oper} {Q : Exit → Act → World → Prop} {rest : List Oper} {o : Oper} {a : Act} {w : World} (hg : o.guard = none) (s x : Operand) (t : TypeId)
    (ho : o.op = .call { callee := .builtin .append, args := #[s, x], argTypes := #[t, t] }) {v1 v2 v' : Value} {w' : World} (hs : a.eval s = v1) (hx : a.eval x = v2)
    (hrun : (Builtin.append_ #[t, t] o.type #[v1, v2]).run P w = .ok v' w') (hK : wpListIn F n P ops Q rest (a.put o.dst v') w') : wpListIn F n P ops Q (o :: rest) a w := by
  refine wpListIn_plain hg fun K hK' => ?_
  unfold Oper.wpIn
  refine ⟨?_, ?_⟩
  · simp [Oper.about, ho, resolve, Target.leads, Sem.run_pure]
  · rw [Oper.semAt_plain F _ _ (by rw [ho]; intro c hc'; cases hc')]
    simp [execOp, ho, resolve, invoke, builtin, hs, hx, hrun, Result.andThen, Oper.uponIn]
    exact hK' _ _ hK
/-- What whoever lists moves; what gets must bear. -/
abbrev sts1 : List TypeId := [22, 26]
abbrev kts1 : List TypeId := [83, 60, 128, 22, 26]
/-- While it lists: the answer's cells at r, the list's own at r + 2. -/
def ListJ (r : Nat) (v : Value) (s : List Pair × Int) (W : World) : Prop :=
  W.heap[r]? = some (.cells #[.slice none 0 0] 22) ∧ W.heap[r + 1]? = some (.cells #[.int .i64 0] 26) ∧ W.heap[r + 1 + 1]? = some (.cells #[v] 22) ∧ Rw r W 60 2 pairC v s.1 ∧ s.2 = 0
/-- An error was told. -/
def ListX (r : Nat) (_ : Value) (s : List Pair × Int) (W : World) : Prop :=
  W.heap[r]? = some (.cells #[.slice none 0 0] 22) ∧ W.heap[r + 1]? = some (.cells #[.int .i64 s.2] 26) ∧ s.2 ≠ 0
theorem ListJ.mv {B r : Nat} {ts : List TypeId} {v : Value} {s : List Pair × Int} {W W' : World} (h : ListJ r v s W) (hm : Mv B ts Option.none W W') (h1 : 22 ∉ ts) (h2 : 26 ∉ ts) (h3 : 60 ∉ ts) : ListJ r v s W' :=
  ⟨hm.k _ _ _ _ h.1 h1 (by simp), hm.k _ _ _ _ h.2.1 h2 (by simp), hm.k _ _ _ _ h.2.2.1 h1 (by simp), hm.own0 h.2.2.2.1 h3, h.2.2.2.2⟩
theorem ListX.mv {B r : Nat} {v : Value} {s : List Pair × Int} {W W' : World} (h : ListX r v s W) (hm : Mv B [] Option.none W W') : ListX r v s W' :=
  ⟨hm.k _ _ _ _ h.1 (by simp) (by simp), hm.k _ _ _ _ h.2.1 (by simp) (by simp), h.2.2⟩
set_option maxRecDepth 100000 in
set_option maxHeartbeats 3200000 in
theorem list_prog (w : World) (g : Nat) (caps : Array Value) (fd : Bs → Option Bs) (B : Nat) (I : World → List Bs → Prop) (hG : GetOk g caps fd B kts1 I) (root lo hi : Bs) (asked : List Bs) (hI : I w asked) (hal : asked.length ≤ 1000) :
    Calls Tryz.prog 17 #[.func (.func g) #[] caps, .string (strB root), .string (strB lo), .string (strB hi)] w fun e w' => ∃ vp, e = .returned (.tuple #[vp, .int .i64 (goM fd lo hi 21 (rootK root) (-1) ⟨asked, [], 0⟩).bad]) ∧ Rw w.heap.size w' 60 2 pairC vp (outOf (goM fd lo hi 21 (rootK root) (-1) ⟨asked, [], 0⟩)) ∧ I w' (goM fd lo hi 21 (rootK root) (-1) ⟨asked, [], 0⟩).asked ∧ Mv B (gts sts1) none w w' := by
  have hB := hG.le _ _ hI
  have hsame := goT_same fd hG.short lo hi 21 (rootK root) (-1) asked [] [] (.inl ⟨rfl, by omega⟩) rfl
  obtain ⟨L, hL⟩ : ∃ L, L = goM fd lo hi 21 (rootK root) (-1) ⟨asked, [], 0⟩ := ⟨_, rfl⟩
  rw [← hL] at hsame ⊢
  have HSA := hide hsame
  have HG := hide hG
  have HI := hide hI
  clear hL hsame
  have hthr := fun W => through_any W (.func (.func g) #[] caps) rfl root lo hi
  refine (callsIn_wide (n := 0)).1 ?_
  refine callsIn_of_wp_marks Tryz.func17 rfl trivial ?_ rfl
  simp only [Tryz.ntmps17, List.size_toArray, List.length_cons, List.length_nil, Nat.reduceAdd, Nat.reduceSub, Array.replicate_succ, Array.replicate_zero, List.push_toArray, List.append_toArray, List.nil_append, List.cons_append]
  gi_wp2_with fail
  refine ⟨trivial, rfl, ?_⟩
  refine (callsIn_wide.2 (hthr _)).mono ?_
  rintro e w1 ⟨rfl, rfl⟩
  gi_wp2
  obtain ⟨a1, ha1⟩ : ∃ a1, w.alloc (.cells #[.slice none 0 0] 22) = a1 := ⟨_, rfl⟩
  rw [ha1]
  have hba1 : Below w.heap.size w a1 := by rw [← ha1]; exact (Below.refl _ _).alloc (Nat.le_refl _) _
  have hsa1 : a1.heap.size = w.heap.size + 1 := by rw [← ha1, World.size_alloc]
  have hla1 : a1.heap[w.heap.size]? = some (.cells #[.slice none 0 0] 22) := by rw [← ha1]; exact heap_last _ _ _ rfl
  obtain ⟨a2, ha2⟩ : ∃ a2, a1.alloc (.cells #[.int .i64 0] 26) = a2 := ⟨_, rfl⟩
  rw [ha2]
  have hba2 : Below a1.heap.size a1 a2 := by rw [← ha2]; exact (Below.refl _ _).alloc (Nat.le_refl _) _
  have hsa2 : a2.heap.size = w.heap.size + 1 + 1 := by rw [← ha2, World.size_alloc]; rw [hsa1]
  have hla2 : a2.heap[a1.heap.size]? = some (.cells #[.int .i64 0] 26) := by rw [← ha2]; exact heap_last _ _ _ rfl
  rw [hsa1] at hla2
  obtain ⟨a3, ha3⟩ : ∃ a3, a2.alloc (.cells #[.slice none 0 0] 22) = a3 := ⟨_, rfl⟩
  rw [ha3]
  have hba3 : Below a2.heap.size a2 a3 := by rw [← ha3]; exact (Below.refl _ _).alloc (Nat.le_refl _) _
  have hsa3 : a3.heap.size = w.heap.size + 1 + 1 + 1 := by rw [← ha3, World.size_alloc]; rw [hsa2]
  have hla3 : a3.heap[a2.heap.size]? = some (.cells #[.slice none 0 0] 22) := by rw [← ha3]; exact heap_last _ _ _ rfl
  rw [hsa2] at hla3
  obtain ⟨a4, ha4⟩ : ∃ a4, a3.alloc (.cells #[.func (.func g) #[] caps] 35) = a4 := ⟨_, rfl⟩
  rw [ha4]
  have hba4 : Below a3.heap.size a3 a4 := by rw [← ha4]; exact (Below.refl _ _).alloc (Nat.le_refl _) _
  have hsa4 : a4.heap.size = w.heap.size + 1 + 1 + 1 + 1 := by rw [← ha4, World.size_alloc]; rw [hsa3]
  have hla4 : a4.heap[a3.heap.size]? = some (.cells #[.func (.func g) #[] caps] 35) := by rw [← ha4]; exact heap_last _ _ _ rfl
  rw [hsa3] at hla4
  obtain ⟨a5, ha5⟩ : ∃ a5, a4.alloc (.cells #[.string (strB root)] 9) = a5 := ⟨_, rfl⟩
  rw [ha5]
  have hba5 : Below a4.heap.size a4 a5 := by rw [← ha5]; exact (Below.refl _ _).alloc (Nat.le_refl _) _
  have hsa5 : a5.heap.size = w.heap.size + 1 + 1 + 1 + 1 + 1 := by rw [← ha5, World.size_alloc]; rw [hsa4]
  have hla5 : a5.heap[a4.heap.size]? = some (.cells #[.string (strB root)] 9) := by rw [← ha5]; exact heap_last _ _ _ rfl
  rw [hsa4] at hla5
  obtain ⟨a6, ha6⟩ : ∃ a6, a5.alloc (.cells #[.string (strB lo), .string (strB hi)] 99) = a6 := ⟨_, rfl⟩
  rw [ha6]
  have hba6 : Below a5.heap.size a5 a6 := by rw [← ha6]; exact (Below.refl _ _).alloc (Nat.le_refl _) _
  have hsa6 : a6.heap.size = w.heap.size + 1 + 1 + 1 + 1 + 1 + 1 := by rw [← ha6, World.size_alloc]; rw [hsa5]
  have hla6 : a6.heap[a5.heap.size]? = some (.cells #[.string (strB lo), .string (strB hi)] 99) := by rw [← ha6]; exact heap_last _ _ _ rfl
  rw [hsa5] at hla6
  have hbw : Below w.heap.size w a6 := hba1.trans ((hba2.trans ((hba3.trans ((hba4.trans ((hba5.trans (hba6.mono (by omega))).mono (by omega))).mono (by omega))).mono (by omega))).mono (by omega))
  have f1 := ((hba6.block _ (lt_of_heap ((hba5.block _ (lt_of_heap ((hba4.block _ (lt_of_heap ((hba3.block _ (lt_of_heap ((hba2.block _ (lt_of_heap hla1)).trans hla1))).trans ((hba2.block _ (lt_of_heap hla1)).trans hla1)))).trans ((hba3.block _ (lt_of_heap ((hba2.block _ (lt_of_heap hla1)).trans hla1))).trans ((hba2.block _ (lt_of_heap hla1)).trans hla1))))).trans ((hba4.block _ (lt_of_heap ((hba3.block _ (lt_of_heap ((hba2.block _ (lt_of_heap hla1)).trans hla1))).trans ((hba2.block _ (lt_of_heap hla1)).trans hla1)))).trans ((hba3.block _ (lt_of_heap ((hba2.block _ (lt_of_heap hla1)).trans hla1))).trans ((hba2.block _ (lt_of_heap hla1)).trans hla1)))))).trans ((hba5.block _ (lt_of_heap ((hba4.block _ (lt_of_heap ((hba3.block _ (lt_of_heap ((hba2.block _ (lt_of_heap hla1)).trans hla1))).trans ((hba2.block _ (lt_of_heap hla1)).trans hla1)))).trans ((hba3.block _ (lt_of_heap ((hba2.block _ (lt_of_heap hla1)).trans hla1))).trans ((hba2.block _ (lt_of_heap hla1)).trans hla1))))).trans ((hba4.block _ (lt_of_heap ((hba3.block _ (lt_of_heap ((hba2.block _ (lt_of_heap hla1)).trans hla1))).trans ((hba2.block _ (lt_of_heap hla1)).trans hla1)))).trans ((hba3.block _ (lt_of_heap ((hba2.block _ (lt_of_heap hla1)).trans hla1))).trans ((hba2.block _ (lt_of_heap hla1)).trans hla1)))))
  have f2 := ((hba6.block _ (lt_of_heap ((hba5.block _ (lt_of_heap ((hba4.block _ (lt_of_heap ((hba3.block _ (lt_of_heap hla2)).trans hla2))).trans ((hba3.block _ (lt_of_heap hla2)).trans hla2)))).trans ((hba4.block _ (lt_of_heap ((hba3.block _ (lt_of_heap hla2)).trans hla2))).trans ((hba3.block _ (lt_of_heap hla2)).trans hla2))))).trans ((hba5.block _ (lt_of_heap ((hba4.block _ (lt_of_heap ((hba3.block _ (lt_of_heap hla2)).trans hla2))).trans ((hba3.block _ (lt_of_heap hla2)).trans hla2)))).trans ((hba4.block _ (lt_of_heap ((hba3.block _ (lt_of_heap hla2)).trans hla2))).trans ((hba3.block _ (lt_of_heap hla2)).trans hla2))))
  have f3 := ((hba6.block _ (lt_of_heap ((hba5.block _ (lt_of_heap ((hba4.block _ (lt_of_heap hla3)).trans hla3))).trans ((hba4.block _ (lt_of_heap hla3)).trans hla3)))).trans ((hba5.block _ (lt_of_heap ((hba4.block _ (lt_of_heap hla3)).trans hla3))).trans ((hba4.block _ (lt_of_heap hla3)).trans hla3)))
  have f4 := ((hba6.block _ (lt_of_heap ((hba5.block _ (lt_of_heap hla4)).trans hla4))).trans ((hba5.block _ (lt_of_heap hla4)).trans hla4))
  have f5 := ((hba6.block _ (lt_of_heap hla5)).trans hla5)
  have f6 := hla6
  have h0 : ListJ w.heap.size (.slice none 0 0) ([], 0) a6 := ⟨f1, f2, f3, World.ownsRow_nil _ _ _ _, rfl⟩
  have hI6 := HG.out.below HI.out hbw
  have hs6 : w.heap.size ≤ a6.heap.size := hbw.size
  have HF := hide (And.intro f4 (And.intro f5 (And.intro f6 (And.intro hI6 hbw))))
  clear f1 f2 f3 f4 f5 f6 hla1 hla2 hla3 hla4 hla5 hla6 hba1 hba2 hba3 hba4 hba5 hba6 hsa1 hsa2 hsa3 hsa4 hsa5 hsa6 ha1 ha2 ha3 ha4 ha5 ha6 a1 a2 a3 a4 a5 hthr hI6 hbw
  refine wp_told (σ := List Pair × Int) rfl rfl (enters_own Tryz.func61 (by kernel_rfl) rfl) listSink B sts1 (by omega) (ListJ w.heap.size) (fun _ _ _ => False) (ListX w.heap.size) (fun _ => none)
    (fun h hm => h.mv hm (by decide) (by decide) (by decide)) (fun h _ => h.elim) (fun h hm => h.mv hm)
    (fun h hb => by obtain ⟨cs, fr, h1⟩ := Lib.ownsRow_kind h.2.2.2.1 _ hb; exact ⟨cs, fr, h1⟩) (by decide) [] (by simp)
    (fun b x er => { tmps := #[.func (.func g) #[] caps, .string (strB root), .string (strB lo), .string (strB hi), undef, undef, undef, undef, .pointer (some ⟨w.heap.size, 0, none⟩), .pointer (some ⟨w.heap.size + 1, 0, none⟩), .pointer (some ⟨w.heap.size + 1 + 1, 0, none⟩), .pointer (some ⟨b, 0, none⟩), .int .i64 er, .func (.func g) #[] caps, .string (strB root), .string (strB lo), .string (strB hi), .agg #[.string (strB lo), .string (strB hi)],
      .func (.func 61) #[] #[.pointer (some ⟨w.heap.size + 1 + 1 + 1, 0, none⟩), .pointer (some ⟨w.heap.size + 1 + 1 + 1 + 2, 0, none⟩), .pointer (some ⟨w.heap.size + 1 + 1 + 1 + 1, 0, none⟩)], .agg #[.string (strB x.1), .string (strB x.2)], .int .i64 er, undef, undef, undef, undef, undef, undef, undef, undef], defers := [] })
    ?assign ?body (.slice none 0 0) ([], 0) h0 (goT listSink fd lo hi 21 (rootK root) (-1) ⟨asked, [], ([], 0)⟩) (fun W => I W L.asked ∧ Mv B (gts sts1) none w W) (fun hX hm => ⟨HG.out.mv hX.1 (hm.types (by simp)), hX.2.trans (hm.types (by simp)) (Nx.refl _ _)⟩) ?iter ?all ?left
  case assign =>
    intro l x er W K hK
    gi_wp2
    exact hK
  case body =>
    intro l b v s x er W hJ hx hbv hcap hxe
    obtain ⟨hr0, hr1, hr2, hrow, hs0⟩ := hJ
    have hsW : w.heap.size + 1 + 1 < W.heap.size := lt_of_heap hr2
    by_cases he : er = 0
    · have q0 : (er != 0) = false := by rw [he]; rfl
      have hc := hcap he
      obtain ⟨v', w1, hrun, hrow1, hgr, hnx⟩ := app_pair W w.heap.size v s.1 x hrow (by omega) (by simp only [listSink] at hc; omega)
      have hbA : Below W.heap.size W (W.alloc (pairO x)) := (Below.refl _ _).alloc (Nat.le_refl _) _
      have hrowA : Rw w.heap.size (W.alloc (pairO x)) 60 2 pairC v s.1 := World.ownsRow.alloc hrow _
      have h01 := grow_keep hrowA hgr ((heap_past W (pairO x) _ (lt_of_heap hr0)).trans hr0) (by decide)
      have h11 := grow_keep hrowA hgr ((heap_past W (pairO x) _ (lt_of_heap hr1)).trans hr1) (by decide)
      have h21 := grow_keep hrowA hgr ((heap_past W (pairO x) _ (lt_of_heap hr2)).trans hr2) (by decide)
      have hk1 : KO W w1 := ((KO.refl W).more hbA).grown hrowA hgr
      have hm1 : Mv B sts1 v.ownBlock W w1 := (Mv.of hbA (by omega)).grownRow (own_low hrowA hB) hgr (Nx.refl _ _) (by simp; omega)
      have hN : Nx W v.ownBlock v'.ownBlock := by
        rcases hnx with h | h
        · exact .inl h
        · exact .inr ⟨_, h, by omega⟩
      have c2 := cell_of_row W (w.heap.size + 1 + 1) 0 _ _ _ hr2
      have x0 := cell_of_row W b 0 _ _ _ hx
      have x1 := cell_of_row W b 1 _ _ _ hx
      have e2 := cell_of_row w1 (w.heap.size + 1 + 1) 0 _ _ _ h21
      simp only [List.getElem?_toArray, List.getElem?_cons_zero, List.getElem?_cons_succ] at c2 x0 x1 e2
      have g2 := frozen0 (j := 0) h21
      have hfin : KO W (w1.setCell ⟨w.heap.size + 1 + 1, 0, none⟩ v') ∧ Mv B sts1 v.ownBlock W (w1.setCell ⟨w.heap.size + 1 + 1, 0, none⟩ v') ∧ ListJ w.heap.size v' (s.1 ++ [x], s.2) (w1.setCell ⟨w.heap.size + 1 + 1, 0, none⟩ v') := by
        refine ⟨hk1.set h21 _, hm1.set h21 (by decide) (by omega) _, (heap_setOther (by omega)).trans h01, (heap_setOther (by omega)).trans h11, ?_, own_setCell hrow1 h21 (by decide) _, hs0⟩
        rw [heap_setCell _ _ _ _ _ _ _ h21]
        simp
      obtain ⟨va, vm, vc, rfl⟩ := row_form hrow
      obtain ⟨va', vm', vc', rfl⟩ := row_form hrow1
      have HFI := hide (And.intro hfin hN)
      have HRUN := hide hrun
      clear hfin hN hrun hr0 hr1 hr2 hrow hrow1 hgr hnx hbA hrowA h01 h11 h21 hk1 hm1 hx hc hs0
      gi_wp2_with (gi_at_builtin; refine wpListIn_append_run rfl (.tmp 24) (.tmp 26) 22 rfl rfl rfl HRUN.out ?_)
      gi_wp2
      exact ⟨HFI.out.1.1, HFI.out.1.2.1, _, HFI.out.2, .inl ⟨rfl, HFI.out.1.2.2⟩⟩
    · have q0 : (er != 0) = true := by simpa using he
      have c0 := cell_of_row W w.heap.size 0 _ _ _ hr0
      have c1 := cell_of_row W (w.heap.size + 1) 0 _ _ _ hr1
      simp only [List.getElem?_toArray, List.getElem?_cons_zero] at c0 c1
      have g0 := frozen0 (j := 0) hr0
      have g1 := frozen0 (j := 0) hr1
      have h0' : (W.setCell ⟨w.heap.size, 0, none⟩ (.slice none 0 0)).heap[w.heap.size]? = some (.cells #[.slice none 0 0] 22) := by rw [heap_setCell _ _ _ _ _ _ _ hr0]; simp
      have h1' : (W.setCell ⟨w.heap.size, 0, none⟩ (.slice none 0 0)).heap[w.heap.size + 1]? = some (.cells #[.int .i64 0] 26) := (heap_setOther (by omega)).trans hr1
      have hfin : KO W ((W.setCell ⟨w.heap.size, 0, none⟩ (.slice none 0 0)).setCell ⟨w.heap.size + 1, 0, none⟩ (.int .i64 er)) ∧ Mv B sts1 v.ownBlock W ((W.setCell ⟨w.heap.size, 0, none⟩ (.slice none 0 0)).setCell ⟨w.heap.size + 1, 0, none⟩ (.int .i64 er)) ∧ ListX w.heap.size v (s.1, er) ((W.setCell ⟨w.heap.size, 0, none⟩ (.slice none 0 0)).setCell ⟨w.heap.size + 1, 0, none⟩ (.int .i64 er)) := by
        refine ⟨((KO.refl W).set hr0 _).set h1' _, ((Mv.refl B sts1 v.ownBlock W).set hr0 (by decide) hB _).set h1' (by decide) (by omega) _, (heap_setOther (by omega)).trans h0', ?_, he⟩
        rw [heap_setCell _ _ _ _ _ _ _ h1']
        simp
      have HFI := hide hfin
      clear hfin hr0 hr1 hr2 hrow hx h0' h1' hs0
      gi_wp2
      exact ⟨HFI.out.1, _, HFI.out.2.1, Nx.refl _ _, .inr ⟨_, rfl, .inr ⟨he, rfl⟩, HFI.out.2.2⟩⟩
  case iter =>
    intro l J Jx W hY hJ hbW
    have hbW' : Below w.heap.size w W := HF.out.2.2.2.2.trans (hbW.mono (by omega))
    have hit := through1_any W l listSink g caps fd B sts1 kts1 J Jx hY I HG.out (by decide) (w.heap.size + 1 + 1 + 1) (w.heap.size + 1 + 1 + 1 + 2) (w.heap.size + 1 + 1 + 1 + 1) root lo hi asked (.slice none 0 0) ([], 0) ((hbW.block _ (lt_of_heap HF.out.1)).trans HF.out.1) ((hbW.block _ (lt_of_heap HF.out.2.2.1)).trans HF.out.2.2.1) ((hbW.block _ (lt_of_heap HF.out.2.1)).trans HF.out.2.1) (Nat.le_trans hB hbW'.size) hJ (HG.out.below HF.out.2.2.2.1 hbW) (by omega) (by simp [listSink])
    refine hit.mono ?_
    rintro e W' ⟨hx, v', h1, h2, h3, h4, h5⟩
    exact ⟨hx, v', h1, h2, by rw [HSA.out.1]; exact h3, (Mv.of hbW' hB).trans h4 (Nx.refl _ _)⟩
  case all =>
    rintro D W v' hD hc hX hK -
    obtain ⟨hT, hJ⟩ : (goT listSink fd lo hi 21 (rootK root) (-1) ⟨asked, [], ([], 0)⟩).2 = true ∧ ListJ w.heap.size v' (goT listSink fd lo hi 21 (rootK root) (-1) ⟨asked, [], ([], 0)⟩).1.s W := by
      rcases hc with h | h
      · exact h
      · exact h.2.elim
    obtain ⟨hr0, hr1, hr2, hrow, hs0⟩ := hJ
    have hbad : L.bad = 0 := HSA.out.2.2.2.1.1 hT
    have hout : outOf L = (goT listSink fd lo hi 21 (rootK root) (-1) ⟨asked, [], ([], 0)⟩).1.s.1 := by unfold outOf; rw [if_pos hbad]; exact HSA.out.2.1
    rw [← hout] at hrow
    have c2 := cell_of_row W (w.heap.size + 1 + 1) 0 _ _ _ hr2
    have c0 := cell_of_row W w.heap.size 0 _ _ _ hr0
    simp only [List.getElem?_toArray, List.getElem?_cons_zero] at c0 c2
    have g0 := frozen0 (j := 0) hr0
    have h0' : (W.setCell ⟨w.heap.size, 0, none⟩ v').heap[w.heap.size]? = some (.cells #[v'] 22) := by rw [heap_setCell _ _ _ _ _ _ _ hr0]; simp
    have h1' : (W.setCell ⟨w.heap.size, 0, none⟩ v').heap[w.heap.size + 1]? = some (.cells #[.int .i64 0] 26) := (heap_setOther (by omega)).trans hr1
    have e1 := cell_of_row _ (w.heap.size + 1) 0 _ _ _ h1'
    simp only [List.getElem?_toArray, List.getElem?_cons_zero] at e1
    have g1 := frozen0 (j := 0) h1'
    have h0f : ((W.setCell ⟨w.heap.size, 0, none⟩ v').setCell ⟨w.heap.size + 1, 0, none⟩ (.int .i64 0)).heap[w.heap.size]? = some (.cells #[v'] 22) := (heap_setOther (by omega)).trans h0'
    have h1f : ((W.setCell ⟨w.heap.size, 0, none⟩ v').setCell ⟨w.heap.size + 1, 0, none⟩ (.int .i64 0)).heap[w.heap.size + 1]? = some (.cells #[.int .i64 0] 26) := by rw [heap_setCell _ _ _ _ _ _ _ h1']; simp
    have hkf : KO W ((W.setCell ⟨w.heap.size, 0, none⟩ v').setCell ⟨w.heap.size + 1, 0, none⟩ (.int .i64 0)) := ((KO.refl W).set hr0 _).set h1' _
    have hmf : Mv B sts1 none W ((W.setCell ⟨w.heap.size, 0, none⟩ v').setCell ⟨w.heap.size + 1, 0, none⟩ (.int .i64 0)) := ((Mv.refl B sts1 none W).set hr0 (by decide) hB _).set h1' (by decide) (by omega) _
    have hof := own_setCell (j := 0) (own_setCell (j := 0) hrow hr0 (by decide) v') h1' (by decide) (.int .i64 0)
    obtain ⟨va', vm', vc', rfl⟩ := row_form hrow
    gi_wp2
    have hK' := hkf D _ hK rfl
    have hmp := Mv.put (B := B) (ts := []) (r := none) (o' := .deferred none) hK' rfl (by omega)
    refine ⟨by simp, .inl ⟨_, _, rfl, run_takeDeferred hK', ?_⟩⟩
    have z0 := cell_of_row _ w.heap.size 0 _ _ _ (hmp.k _ _ _ _ h0f (by simp) (by simp))
    have z1 := cell_of_row _ (w.heap.size + 1) 0 _ _ _ (hmp.k _ _ _ _ h1f (by simp) (by simp))
    simp only [List.getElem?_toArray, List.getElem?_cons_zero] at z0 z1
    refine ⟨.tuple #[.slice va' vm' vc', .int .i64 0], ?_, ⟨_, by rw [hbad], hmp.own0 hof (by simp), HG.out.mv hX.1 ((hmf.types (by decide)).trans (hmp.types (by simp)) (Nx.refl _ _)), hX.2.trans ((hmf.types (by decide)).trans (hmp.types (by simp)) (Nx.refl _ _)) (Nx.refl _ _)⟩⟩
    simp [results, Tryz.f17, go_sem, z0, z1]
  case left =>
    rintro D W v' hD hT hJ hX hK -
    obtain ⟨hr0, hr1, hs0⟩ := hJ
    have hbad : L.bad = (goT listSink fd lo hi 21 (rootK root) (-1) ⟨asked, [], ([], 0)⟩).1.s.2 := HSA.out.2.2.1
    have hout : outOf L = [] := by unfold outOf; rw [if_neg (by rw [hbad]; exact hs0)]
    change Code.ret.wpIn _ _ _ _ _ _
    gi_wp2
    have hmp := Mv.put (B := B) (ts := []) (r := none) (o' := .deferred none) hK rfl (by omega)
    refine ⟨by simp, .inl ⟨_, _, rfl, run_takeDeferred hK, ?_⟩⟩
    have z0 := cell_of_row _ w.heap.size 0 _ _ _ (hmp.k _ _ _ _ hr0 (by simp) (by simp))
    have z1 := cell_of_row _ (w.heap.size + 1) 0 _ _ _ (hmp.k _ _ _ _ hr1 (by simp) (by simp))
    simp only [List.getElem?_toArray, List.getElem?_cons_zero] at z0 z1
    refine ⟨.tuple #[.slice none 0 0, .int .i64 (goT listSink fd lo hi 21 (rootK root) (-1) ⟨asked, [], ([], 0)⟩).1.s.2], ?_, ⟨_, by rw [hbad], by rw [hout]; exact World.ownsRow_nil _ _ _ _, HG.out.mv hX.1 (hmp.types (by simp)), hX.2.trans (hmp.types (by simp)) (Nx.refl _ _)⟩⟩
    simp [results, Tryz.f17, go_sem, z0, z1]
end Go.Proofs.YtimbleaafoiidaaGreatDoor

/-
  The pairs of a map counted by the program, by any get. Conditions: the get keeps its word; not too much was asked.
-/
namespace Go.Proofs.YtimbleaafoiidaaGreatDoor
open Go.RowKit

set_option maxRecDepth 40000 in
set_option maxHeartbeats 1600000 in
theorem many_prog (w : World) (g : Nat) (caps : Array Value) (fd : Bs → Option Bs) (B : Nat) (ts : List TypeId) (I : World → List Bs → Prop) (hG : GetOk g caps fd B ts I) (root : Bs) (asked : List Bs) (hI : I w asked) (hn : asked.length ≤ 1000) :
    Calls Tryz.prog 19 #[.func (.func g) #[] caps, .string (strB root)] w fun e w' => e = .returned (.tuple #[.int .i64 (manyM (askM fd (rootK root) (-1))).1, .int .i64 (manyM (askM fd (rootK root) (-1))).2]) ∧ I w' (asked ++ [root]) := by
  have hok := fun h => (askM_ok (fd := fd) (k := rootK root) (level := -1) hG.short h).1
  have hze := fun h => askM_zero (fd := fd) (k := rootK root) (level := -1) h
  have hask := fun W (h : I W asked) => ask_any W g caps fd B ts I hG root asked h (by omega)
  obtain ⟨R, hR⟩ : ∃ R, R = manyM (askM fd (rootK root) (-1)) := ⟨_, rfl⟩
  rw [← hR]
  obtain ⟨er, n, hern⟩ : ∃ er n, askM fd (rootK root) (-1) = (er, n) := ⟨_, _, rfl⟩
  rw [hern] at hR hok hze
  simp only [hern] at hask
  simp only at hok hze
  have hcn : R = (countM n, er) := by
    rw [hR]
    unfold manyM
    by_cases h : er = 0
    · rw [if_pos h, h]
    · rw [if_neg h, hze h]
      rfl
  have hlk : n.2.1.length ≤ 64 ∧ (∀ k ∈ n.2.2, rlinkOk k = true) ∧ manyL n.2.2 ≤ 4096 ∧ n.2.2.length ≤ 64 := by
    by_cases h : er = 0
    · exact (hok h).links
    · rw [hze h]
      exact ⟨by simp, by simp, by simp [manyL], by simp⟩
  rw [hcn]
  have HL := hide hlk
  have HI := hide hI
  have HG := hide hG
  unfold nodeIs at hask
  clear hok hze hR hern hcn hlk hI hG
  go_enter Tryz.func19, Tryz.ntmps19
  go_wp2_with fail
  refine (hask w HI.out).mono ?_
  rintro e w1 ⟨⟨vk, vp, rfl, hrk, hrp⟩, hI1, hm1, -⟩
  have hb2 : Below w1.heap.size w1 (w1.alloc (.cells #[.int .i64 n.1, vk, vp] 83)) := (Below.refl _ _).alloc (Nat.le_refl _) _
  have hy2 := heap_last w1 (.cells #[.int .i64 n.1, vk, vp] 83) _ rfl
  have hws := hm1.size
  have hI2 := HG.out.below hI1 hb2
  have hnm := nmany_any (w1.alloc (.cells #[.int .i64 n.1, vk, vp] 83)) n vk vp (ls_of_own linkC_length (own_below hrk hb2)) (ls_of_own pairC_length (own_below hrp hb2)) HL.out.2.1 HL.out.2.2.1 (by have := HL.out.1; omega)
  have y0 := cell_of_row _ w1.heap.size 0 _ _ _ hy2
  have y1 := cell_of_row _ w1.heap.size 1 _ _ _ hy2
  have y2 := cell_of_row _ w1.heap.size 2 _ _ _ hy2
  simp only [List.getElem?_toArray, List.getElem?_cons_zero, List.getElem?_cons_succ] at y0 y1 y2
  have H2 := hide hI2
  obtain ⟨ka, km, kc, rfl⟩ := row_form hrk
  obtain ⟨pa, pm, pc, rfl⟩ := row_form hrp
  clear hask hrk hrp hI1 hm1 hb2 hy2 hI2 hws
  go_wp2_with fail
  refine hnm.mono ?_
  rintro e w3 ⟨rfl, hb3⟩
  have H3 := hide (HG.out.below H2.out hb3)
  clear hnm hb3 y0 y1 y2
  go_wp2
  go_ret2
  exact ⟨rfl, H3.out⟩
end Go.Proofs.YtimbleaafoiidaaGreatDoor

/-
  Are two lists of objects the same? Conditions: they lie there.
-/
namespace Go.Proofs.YtimbleaafoiidaaGreatDoor
open Go.RowKit

def same1 {α : Type} [DecidableEq α] (x y : α) : Bool := decide (x = y)
theorem same1_true {α : Type} [DecidableEq α] {x y : α} (h : x = y) : same1 x y = true := decide_eq_true h
theorem same1_false {α : Type} [DecidableEq α] {x y : α} (h : ¬ x = y) : same1 x y = false := decide_eq_false h
theorem take_step {α : Type} {xs ys : List α} {k : Nat} (h1 : k < xs.length) (h2 : k < ys.length) (h : xs.take k = ys.take k) (he : xs[k] = ys[k]) : xs.take (k + 1) = ys.take (k + 1) := by
  rw [List.take_succ_eq_append_getElem h1, List.take_succ_eq_append_getElem h2, h, he]
end Go.Proofs.YtimbleaafoiidaaGreatDoor

/-
  Are two lists of pairs the same? Conditions: they lie there.
-/
namespace Go.Proofs.YtimbleaafoiidaaGreatDoor
open Go.RowKit

theorem Tryz.eqPair : Tryz.prog.underlying 60 = some (.struct (Tryz.prog.fieldsOf 60)) ∧ Tryz.prog.stoodInHeld 60 = false ∧ Tryz.prog.eqGuardType Tryz.prog.depth 60 = false := ⟨by kernel_rfl, by kernel_rfl, by kernel_rfl⟩
theorem neq_Pair (W : World) (a0 b0 a1 b1 : Bs) : (binOp .neq 60 (.agg #[.string (strB a0), .string (strB a1)]) (.agg #[.string (strB b0), .string (strB b1)])).run Tryz.prog W = .ok (.bool (!(a0 == b0 && a1 == b1))) W := by
  obtain ⟨h1, h2, h3⟩ := Tryz.eqPair
  rw [run_neq_struct, run_equalIn_agg _ _ _ _ _ h1 h2]
  simp only [Program.fieldsOf, Tryz.underlying60]
  by_cases q0 : a0 = b0 <;> by_cases q1 : a1 = b1 <;> simp [Op.eqFields, go_sem, Tryz.underlying9, toL, q0, q1]
theorem neqPair (W : World) (x y : Pair) : (binOp .neq 60 (.agg #[.string (strB x.1), .string (strB x.2)]) (.agg #[.string (strB y.1), .string (strB y.2)])).run Tryz.prog W = .ok (.bool (!(same1 x y))) W := by
  rw [neq_Pair, show (x.1 == y.1 && x.2 == y.2) = same1 x y from by unfold same1; rw [Bool.eq_iff_iff]; simp [Prod.ext_iff]]
set_option maxRecDepth 20000 in
set_option maxHeartbeats 800000 in
theorem same_pairs (w : World) (xs ys : List Pair) (vx vy : Value) (hvx : Ls w.heap.size w 2 pairC vx xs) (hvy : Ls w.heap.size w 2 pairC vy ys) :
    Calls Tryz.prog 22 #[vx, vy] w fun e w' => e = .returned (.bool (decide (xs = ys))) ∧ Below w.heap.size w w' := by
  obtain ⟨ax, capx, rfl, gx1, gx2, hx⟩ := hvx
  obtain ⟨ay, capy, rfl, gy1, gy2, hy⟩ := hvy
  unfold maxLen at gx2 gy2
  by_cases hle : xs.length = ys.length
  rotate_left
  · have hle' : ((xs.length : Int) == (ys.length : Int)) = false := by simp; omega
    go_enter Tryz.func22, Tryz.ntmps22
    go_wp2_with fail
    skip
    try go_wp2
    go_ret
    exact ⟨ret_bool (Eq.symm (decide_eq_false (fun e => hle (congrArg List.length e)))), Below.refl _ _⟩
  rw [hle] at gx1 ⊢
  have HLE := hide hle
  clear hle
  go_enter Tryz.func22, Tryz.ntmps22
  go_wp2_with fail
  skip
  go_loopw [5] (fun t wr => ∃ k : Nat, k ≤ ys.length ∧ t = .int .i64 k ∧ xs.take k = ys.take k ∧ Below w.heap.size w wr)
    (fun t _ => ys.length - (intOf t).toNat)
  case atStart => exact ⟨0, by omega, rfl, by simp, Below.refl _ _⟩
  case round =>
    obtain ⟨k, hk, rfl, htk, hbr⟩ := hrel
    have hbw : Below w.heap.size w wr := hbr
    have HB := hide hbr
    have HBW := hide hbw
    have HTK := hide htk
    clear hbr hbw htk
    by_cases hlt2 : k < ys.length
    · have hlt : k < xs.length := by rw [HLE.out]; exact hlt2
      obtain ⟨bx, offx, rfl, hbX, hcx⟩ := hx (by intro e; rw [e] at hlt; simp at hlt)
      obtain ⟨bY, offy, rfl, hbYl, hcy⟩ := hy (by intro e; rw [e] at hlt2; simp at hlt2)
      have c0 := (HBW.out.cell (p := ⟨bx, offx + k * 2 + 0, none⟩) hbX).trans (hcx k hlt 0 _ rfl)
      have d0 := (HBW.out.cell (p := ⟨bY, offy + k * 2 + 0, none⟩) hbYl).trans (hcy k hlt2 0 _ rfl)
      have c1 := (HBW.out.cell (p := ⟨bx, offx + k * 2 + 1, none⟩) hbX).trans (hcx k hlt 1 _ rfl)
      have d1 := (HBW.out.cell (p := ⟨bY, offy + k * 2 + 1, none⟩) hbYl).trans (hcy k hlt2 1 _ rfl)
      have hst := fun he => take_step hlt hlt2 HTK.out he
      have hno : xs[k] ≠ ys[k] → xs ≠ ys := fun hne e => hne (by simp only [e])
      generalize xs[k] = x at *
      generalize ys[k] = y at *
      try simp only [Nat.add_zero] at c0 d0 c1 d1
      have HST := hide hst
      have HNO := hide hno
      have hnq : ∀ W, _ := fun W => neqPair W x y
      clear hst hno hcx hcy hx hy hlt
      go_wp2_with fail
      refine wp_region_held_drew (S := fun W => W.cell? ⟨bx, offx + k * 2, none⟩ = some (.string (strB x.1)) ∧ W.cell? ⟨bx, offx + k * 2 + 1, none⟩ = some (.string (strB x.2)) ∧ W.cell? ⟨bY, offy + k * 2, none⟩ = some (.string (strB y.1)) ∧ W.cell? ⟨bY, offy + k * 2 + 1, none⟩ = some (.string (strB y.2))) (by kernel_rfl) (⟨c0, c1, d0, d1⟩) (fun hHeld => ?_)
      refine takeJ 0 (v := ?_) ?_ hHeld ?_
      rotate_left
      · rintro w ⟨_, _, _, _⟩; go_simp; try with_reducible rfl
      refine takeJ 1 (v := ?_) ?_ hHeld ?_
      rotate_left
      · rintro w ⟨_, _, _, _⟩; go_simp; try with_reducible rfl
      refine takeJ 2 (v := ?_) ?_ hHeld ?_
      rotate_left
      · rintro w ⟨_, _, _, _⟩; go_simp; try with_reducible rfl
      refine takeJ 3 (v := ?_) ?_ hHeld ?_
      rotate_left
      · rintro w ⟨_, _, _, _⟩; go_simp; try with_reducible rfl
      refine takeJ 4 (v := ?_) ?_ hHeld ?_
      rotate_left
      · rintro w ⟨_, _, _, _⟩; go_simp; try with_reducible rfl
      refine takeJ 5 (v := ?_) ?_ hHeld ?_
      rotate_left
      · rintro w ⟨_, _, _, _⟩; go_simp; try with_reducible rfl
      refine takeJ 6 (v := ?_) ?_ hHeld ?_
      rotate_left
      · rintro w ⟨_, _, _, _⟩; go_simp; try with_reducible rfl
      refine takeJ 7 (v := ?_) ?_ hHeld ?_
      rotate_left
      · rintro w ⟨_, _, _, _⟩; go_simp; try with_reducible rfl
      refine takeJ 8 (v := ?_) ?_ hHeld ?_
      rotate_left
      · rintro w ⟨_, _, _, _⟩; go_simp; try with_reducible rfl
      refine wpAnyH_done (by kernel_rfl) ?_ _
      clear hHeld hnq
      have hbD : Below w.heap.size w wr.drew := HB.out.drew
      have HBD := hide hbD
      clear hbD
      by_cases he : x = y
      · have hbe := same1_true he
        rw [hbe]
        go_wp2
        go_roundw
        case rel => exact ⟨k + 1, by omega, by go_num, HST.out he, HBD.out⟩
        case measure => simp [intOf]; omega
      · have hbe := same1_false he
        rw [hbe]
        go_wp2
        go_ret
        exact ⟨ret_bool (Eq.symm (decide_eq_false (fun e => HNO.out he (e)))), HBD.out⟩
    · have hall : xs = ys := by
        have := HTK.out
        have hL := HLE.out
        rwa [List.take_of_length_le (by omega), List.take_of_length_le (by omega)] at this
      go_wp2
      go_ret
      exact ⟨ret_bool (Eq.symm (decide_eq_true (hall))), HBW.out⟩
end Go.Proofs.YtimbleaafoiidaaGreatDoor
