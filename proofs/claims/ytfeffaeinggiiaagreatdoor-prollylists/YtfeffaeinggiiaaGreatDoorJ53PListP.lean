/-
  The pairs of a map listed by the program, by any get. Conditions: the get keeps its word; not too much was asked.
-/
import Derived.Test.YtfeffaeinggiiaaGreatDoorJ46PRange
import Derived.Test.YtfeffaeinggiiaaGreatDoorJ49PRList
import Derived.Test.YtfeffaeinggiiaaGreatDoorJ52PShown
namespace Go.Proofs.YtfeffaeinggiiaaGreatDoor
open Go.RowKit Go.Shelf
attribute [local go_sem] Oper.semAt_some

theorem wpListIn_append_run {F : Fence} {n : Nat} {P : Program} {ops : Array Oper} {Q : Exit → Act → World → Prop} {rest : List Oper} {o : Oper} {a : Act} {w : World} (hg : o.guard = none) (s x : Operand) (t : TypeId)
    (ho : o.op = .call { callee := .builtin .append, args := #[s, x], argTypes := #[t, t] }) {v1 v2 v' : Value} {w' : World} (hs : a.eval s = v1) (hx : a.eval x = v2)
    (hrun : (Builtin.append_ #[t, t] o.type #[v1, v2]).run P w = .ok v' w') (hK : wpListIn F n P ops Q rest (a.put o.dst v') w') : wpListIn F n P ops Q (o :: rest) a w := by
  refine wpListIn_plain hg fun K hK' => ?_
  unfold Oper.wpIn
  refine ⟨?_, ?_⟩
  · simp [Oper.about, ho, resolve, Target.leads, Sem.run_pure]
  · rw [Oper.semAt_plain F _ _ (by rw [ho]; intro c hc'; cases hc')]
    simp [execOp, ho, resolve, invoke, builtin, hs, hx, hrun, Result.andThen, Oper.uponIn]
    exact hK' _ _ hK
/-- What whoever lists moves; what gets must bear. -/
abbrev sts1 : List TypeId := [22, 26]
abbrev kts1 : List TypeId := [83, 60, 128, 22, 26]
/-- While it lists: the answer's cells at r, the list's own at r + 2. -/
def ListJ (r : Nat) (v : Value) (s : List Pair × Int) (W : World) : Prop :=
  W.heap[r]? = some (.cells #[.slice none 0 0] 22) ∧ W.heap[r + 1]? = some (.cells #[.int .i64 0] 26) ∧ W.heap[r + 1 + 1]? = some (.cells #[v] 22) ∧ Rw r W 60 2 pairC v s.1 ∧ s.2 = 0
/-- An error was told. -/
def ListX (r : Nat) (_ : Value) (s : List Pair × Int) (W : World) : Prop :=
  W.heap[r]? = some (.cells #[.slice none 0 0] 22) ∧ W.heap[r + 1]? = some (.cells #[.int .i64 s.2] 26) ∧ s.2 ≠ 0
theorem ListJ.mv {B r : Nat} {ts : List TypeId} {v : Value} {s : List Pair × Int} {W W' : World} (h : ListJ r v s W) (hm : Mv B ts Option.none W W') (h1 : 22 ∉ ts) (h2 : 26 ∉ ts) (h3 : 60 ∉ ts) : ListJ r v s W' :=
  ⟨hm.k _ _ _ _ h.1 h1 (by simp), hm.k _ _ _ _ h.2.1 h2 (by simp), hm.k _ _ _ _ h.2.2.1 h1 (by simp), hm.own0 h.2.2.2.1 h3, h.2.2.2.2⟩
theorem ListX.mv {B r : Nat} {v : Value} {s : List Pair × Int} {W W' : World} (h : ListX r v s W) (hm : Mv B [] Option.none W W') : ListX r v s W' :=
  ⟨hm.k _ _ _ _ h.1 (by simp) (by simp), hm.k _ _ _ _ h.2.1 (by simp) (by simp), h.2.2⟩
set_option maxRecDepth 100000 in
set_option maxHeartbeats 3200000 in
theorem list_prog (w : World) (g : Nat) (caps : Array Value) (fd : Bs → Option Bs) (B : Nat) (I : World → List Bs → Prop) (hG : GetOk g caps fd B kts1 I) (root lo hi : Bs) (asked : List Bs) (hI : I w asked) (hal : asked.length ≤ 1000) :
    Calls Tryz.prog 17 #[.func (.func g) #[] caps, .string (strB root), .string (strB lo), .string (strB hi)] w fun e w' => ∃ vp, e = .returned (.tuple #[vp, .int .i64 (goM fd lo hi 21 (rootK root) (-1) ⟨asked, [], 0⟩).bad]) ∧ Rw w.heap.size w' 60 2 pairC vp (outOf (goM fd lo hi 21 (rootK root) (-1) ⟨asked, [], 0⟩)) ∧ I w' (goM fd lo hi 21 (rootK root) (-1) ⟨asked, [], 0⟩).asked ∧ Mv B (gts sts1) none w w' := by
  have hB := hG.le _ _ hI
  have hsame := goT_same fd hG.short lo hi 21 (rootK root) (-1) asked [] [] (.inl ⟨rfl, by omega⟩) rfl
  obtain ⟨L, hL⟩ : ∃ L, L = goM fd lo hi 21 (rootK root) (-1) ⟨asked, [], 0⟩ := ⟨_, rfl⟩
  rw [← hL] at hsame ⊢
  have HSA := hide hsame
  have HG := hide hG
  have HI := hide hI
  clear hL hsame
  have hthr := fun W => through_any W (.func (.func g) #[] caps) rfl root lo hi
  refine (callsIn_wide (n := 0)).1 ?_
  refine callsIn_of_wp_marks Tryz.func17 rfl trivial ?_ rfl
  simp only [Tryz.ntmps17, List.size_toArray, List.length_cons, List.length_nil, Nat.reduceAdd, Nat.reduceSub, Array.replicate_succ, Array.replicate_zero, List.push_toArray, List.append_toArray, List.nil_append, List.cons_append]
  gi_wp2_with fail
  refine ⟨trivial, rfl, ?_⟩
  refine (callsIn_wide.2 (hthr _)).mono ?_
  rintro e w1 ⟨rfl, rfl⟩
  gi_wp2
  obtain ⟨a1, ha1⟩ : ∃ a1, w.alloc (.cells #[.slice none 0 0] 22) = a1 := ⟨_, rfl⟩
  rw [ha1]
  have hba1 : Below w.heap.size w a1 := by rw [← ha1]; exact (Below.refl _ _).alloc (Nat.le_refl _) _
  have hsa1 : a1.heap.size = w.heap.size + 1 := by rw [← ha1, World.size_alloc]
  have hla1 : a1.heap[w.heap.size]? = some (.cells #[.slice none 0 0] 22) := by rw [← ha1]; exact heap_last _ _ _ rfl
  obtain ⟨a2, ha2⟩ : ∃ a2, a1.alloc (.cells #[.int .i64 0] 26) = a2 := ⟨_, rfl⟩
  rw [ha2]
  have hba2 : Below a1.heap.size a1 a2 := by rw [← ha2]; exact (Below.refl _ _).alloc (Nat.le_refl _) _
  have hsa2 : a2.heap.size = w.heap.size + 1 + 1 := by rw [← ha2, World.size_alloc]; rw [hsa1]
  have hla2 : a2.heap[a1.heap.size]? = some (.cells #[.int .i64 0] 26) := by rw [← ha2]; exact heap_last _ _ _ rfl
  rw [hsa1] at hla2
  obtain ⟨a3, ha3⟩ : ∃ a3, a2.alloc (.cells #[.slice none 0 0] 22) = a3 := ⟨_, rfl⟩
  rw [ha3]
  have hba3 : Below a2.heap.size a2 a3 := by rw [← ha3]; exact (Below.refl _ _).alloc (Nat.le_refl _) _
  have hsa3 : a3.heap.size = w.heap.size + 1 + 1 + 1 := by rw [← ha3, World.size_alloc]; rw [hsa2]
  have hla3 : a3.heap[a2.heap.size]? = some (.cells #[.slice none 0 0] 22) := by rw [← ha3]; exact heap_last _ _ _ rfl
  rw [hsa2] at hla3
  obtain ⟨a4, ha4⟩ : ∃ a4, a3.alloc (.cells #[.func (.func g) #[] caps] 35) = a4 := ⟨_, rfl⟩
  rw [ha4]
  have hba4 : Below a3.heap.size a3 a4 := by rw [← ha4]; exact (Below.refl _ _).alloc (Nat.le_refl _) _
  have hsa4 : a4.heap.size = w.heap.size + 1 + 1 + 1 + 1 := by rw [← ha4, World.size_alloc]; rw [hsa3]
  have hla4 : a4.heap[a3.heap.size]? = some (.cells #[.func (.func g) #[] caps] 35) := by rw [← ha4]; exact heap_last _ _ _ rfl
  rw [hsa3] at hla4
  obtain ⟨a5, ha5⟩ : ∃ a5, a4.alloc (.cells #[.string (strB root)] 9) = a5 := ⟨_, rfl⟩
  rw [ha5]
  have hba5 : Below a4.heap.size a4 a5 := by rw [← ha5]; exact (Below.refl _ _).alloc (Nat.le_refl _) _
  have hsa5 : a5.heap.size = w.heap.size + 1 + 1 + 1 + 1 + 1 := by rw [← ha5, World.size_alloc]; rw [hsa4]
  have hla5 : a5.heap[a4.heap.size]? = some (.cells #[.string (strB root)] 9) := by rw [← ha5]; exact heap_last _ _ _ rfl
  rw [hsa4] at hla5
  obtain ⟨a6, ha6⟩ : ∃ a6, a5.alloc (.cells #[.string (strB lo), .string (strB hi)] 99) = a6 := ⟨_, rfl⟩
  rw [ha6]
  have hba6 : Below a5.heap.size a5 a6 := by rw [← ha6]; exact (Below.refl _ _).alloc (Nat.le_refl _) _
  have hsa6 : a6.heap.size = w.heap.size + 1 + 1 + 1 + 1 + 1 + 1 := by rw [← ha6, World.size_alloc]; rw [hsa5]
  have hla6 : a6.heap[a5.heap.size]? = some (.cells #[.string (strB lo), .string (strB hi)] 99) := by rw [← ha6]; exact heap_last _ _ _ rfl
  rw [hsa5] at hla6
  have hbw : Below w.heap.size w a6 := hba1.trans ((hba2.trans ((hba3.trans ((hba4.trans ((hba5.trans (hba6.mono (by omega))).mono (by omega))).mono (by omega))).mono (by omega))).mono (by omega))
  have f1 := ((hba6.block _ (lt_of_heap ((hba5.block _ (lt_of_heap ((hba4.block _ (lt_of_heap ((hba3.block _ (lt_of_heap ((hba2.block _ (lt_of_heap hla1)).trans hla1))).trans ((hba2.block _ (lt_of_heap hla1)).trans hla1)))).trans ((hba3.block _ (lt_of_heap ((hba2.block _ (lt_of_heap hla1)).trans hla1))).trans ((hba2.block _ (lt_of_heap hla1)).trans hla1))))).trans ((hba4.block _ (lt_of_heap ((hba3.block _ (lt_of_heap ((hba2.block _ (lt_of_heap hla1)).trans hla1))).trans ((hba2.block _ (lt_of_heap hla1)).trans hla1)))).trans ((hba3.block _ (lt_of_heap ((hba2.block _ (lt_of_heap hla1)).trans hla1))).trans ((hba2.block _ (lt_of_heap hla1)).trans hla1)))))).trans ((hba5.block _ (lt_of_heap ((hba4.block _ (lt_of_heap ((hba3.block _ (lt_of_heap ((hba2.block _ (lt_of_heap hla1)).trans hla1))).trans ((hba2.block _ (lt_of_heap hla1)).trans hla1)))).trans ((hba3.block _ (lt_of_heap ((hba2.block _ (lt_of_heap hla1)).trans hla1))).trans ((hba2.block _ (lt_of_heap hla1)).trans hla1))))).trans ((hba4.block _ (lt_of_heap ((hba3.block _ (lt_of_heap ((hba2.block _ (lt_of_heap hla1)).trans hla1))).trans ((hba2.block _ (lt_of_heap hla1)).trans hla1)))).trans ((hba3.block _ (lt_of_heap ((hba2.block _ (lt_of_heap hla1)).trans hla1))).trans ((hba2.block _ (lt_of_heap hla1)).trans hla1)))))
  have f2 := ((hba6.block _ (lt_of_heap ((hba5.block _ (lt_of_heap ((hba4.block _ (lt_of_heap ((hba3.block _ (lt_of_heap hla2)).trans hla2))).trans ((hba3.block _ (lt_of_heap hla2)).trans hla2)))).trans ((hba4.block _ (lt_of_heap ((hba3.block _ (lt_of_heap hla2)).trans hla2))).trans ((hba3.block _ (lt_of_heap hla2)).trans hla2))))).trans ((hba5.block _ (lt_of_heap ((hba4.block _ (lt_of_heap ((hba3.block _ (lt_of_heap hla2)).trans hla2))).trans ((hba3.block _ (lt_of_heap hla2)).trans hla2)))).trans ((hba4.block _ (lt_of_heap ((hba3.block _ (lt_of_heap hla2)).trans hla2))).trans ((hba3.block _ (lt_of_heap hla2)).trans hla2))))
  have f3 := ((hba6.block _ (lt_of_heap ((hba5.block _ (lt_of_heap ((hba4.block _ (lt_of_heap hla3)).trans hla3))).trans ((hba4.block _ (lt_of_heap hla3)).trans hla3)))).trans ((hba5.block _ (lt_of_heap ((hba4.block _ (lt_of_heap hla3)).trans hla3))).trans ((hba4.block _ (lt_of_heap hla3)).trans hla3)))
  have f4 := ((hba6.block _ (lt_of_heap ((hba5.block _ (lt_of_heap hla4)).trans hla4))).trans ((hba5.block _ (lt_of_heap hla4)).trans hla4))
  have f5 := ((hba6.block _ (lt_of_heap hla5)).trans hla5)
  have f6 := hla6
  have h0 : ListJ w.heap.size (.slice none 0 0) ([], 0) a6 := ⟨f1, f2, f3, World.ownsRow_nil _ _ _ _, rfl⟩
  have hI6 := HG.out.below HI.out hbw
  have hs6 : w.heap.size ≤ a6.heap.size := hbw.size
  have HF := hide (And.intro f4 (And.intro f5 (And.intro f6 (And.intro hI6 hbw))))
  clear f1 f2 f3 f4 f5 f6 hla1 hla2 hla3 hla4 hla5 hla6 hba1 hba2 hba3 hba4 hba5 hba6 hsa1 hsa2 hsa3 hsa4 hsa5 hsa6 ha1 ha2 ha3 ha4 ha5 ha6 a1 a2 a3 a4 a5 hthr hI6 hbw
  refine wp_told (σ := List Pair × Int) rfl rfl (enters_own Tryz.func61 (by kernel_rfl) rfl) listSink B sts1 (by omega) (ListJ w.heap.size) (fun _ _ _ => False) (ListX w.heap.size) none
    (fun h hm => h.mv hm (by decide) (by decide) (by decide)) (fun h _ => h.elim) (fun h hm => h.mv hm)
    (fun h hb => by obtain ⟨cs, fr, h1⟩ := Lib.ownsRow_kind h.2.2.2.1 _ hb; exact ⟨cs, fr, h1⟩) (by decide)
    (fun b x er => { tmps := #[.func (.func g) #[] caps, .string (strB root), .string (strB lo), .string (strB hi), undef, undef, undef, undef, .pointer (some ⟨w.heap.size, 0, none⟩), .pointer (some ⟨w.heap.size + 1, 0, none⟩), .pointer (some ⟨w.heap.size + 1 + 1, 0, none⟩), .pointer (some ⟨b, 0, none⟩), .int .i64 er, .func (.func g) #[] caps, .string (strB root), .string (strB lo), .string (strB hi), .agg #[.string (strB lo), .string (strB hi)],
      .func (.func 61) #[] #[.pointer (some ⟨w.heap.size + 1 + 1 + 1, 0, none⟩), .pointer (some ⟨w.heap.size + 1 + 1 + 1 + 2, 0, none⟩), .pointer (some ⟨w.heap.size + 1 + 1 + 1 + 1, 0, none⟩)], .agg #[.string (strB x.1), .string (strB x.2)], .int .i64 er, undef, undef, undef, undef, undef, undef, undef, undef], defers := [] })
    ?assign ?body (.slice none 0 0) ([], 0) h0 (goT listSink fd lo hi 21 (rootK root) (-1) ⟨asked, [], ([], 0)⟩) (fun W => I W L.asked ∧ Mv B (gts sts1) none w W) (fun hX hm => ⟨HG.out.mv hX.1 (hm.types (by simp)), hX.2.trans (hm.types (by simp)) (Nx.refl _ _)⟩) ?iter ?all ?left
  case assign =>
    intro l x er W K hK
    gi_wp2
    exact hK
  case body =>
    intro l b v s x er W hJ hx hbv hcap hxe
    obtain ⟨hr0, hr1, hr2, hrow, hs0⟩ := hJ
    have hsW : w.heap.size + 1 + 1 < W.heap.size := lt_of_heap hr2
    by_cases he : er = 0
    · have q0 : (er != 0) = false := by rw [he]; rfl
      have hc := hcap he
      obtain ⟨v', w1, hrun, hrow1, hgr, hnx⟩ := app_pair W w.heap.size v s.1 x hrow (by omega) (by simp only [listSink] at hc; omega)
      have hbA : Below W.heap.size W (W.alloc (pairO x)) := (Below.refl _ _).alloc (Nat.le_refl _) _
      have hrowA : Rw w.heap.size (W.alloc (pairO x)) 60 2 pairC v s.1 := World.ownsRow.alloc hrow _
      have h01 := grow_keep hrowA hgr ((heap_past W (pairO x) _ (lt_of_heap hr0)).trans hr0) (by decide)
      have h11 := grow_keep hrowA hgr ((heap_past W (pairO x) _ (lt_of_heap hr1)).trans hr1) (by decide)
      have h21 := grow_keep hrowA hgr ((heap_past W (pairO x) _ (lt_of_heap hr2)).trans hr2) (by decide)
      have hk1 : KO W w1 := ((KO.refl W).more hbA).grown hrowA hgr
      have hm1 : Mv B sts1 v.ownBlock W w1 := (Mv.of hbA (by omega)).grownRow (own_low hrowA hB) hgr (Nx.refl _ _) (by simp; omega)
      have hN : Nx W v.ownBlock v'.ownBlock := by
        rcases hnx with h | h
        · exact .inl h
        · exact .inr ⟨_, h, by omega⟩
      have c2 := cell_of_row W (w.heap.size + 1 + 1) 0 _ _ _ hr2
      have x0 := cell_of_row W b 0 _ _ _ hx
      have x1 := cell_of_row W b 1 _ _ _ hx
      have e2 := cell_of_row w1 (w.heap.size + 1 + 1) 0 _ _ _ h21
      simp only [List.getElem?_toArray, List.getElem?_cons_zero, List.getElem?_cons_succ] at c2 x0 x1 e2
      have g2 := frozen0 (j := 0) h21
      have hfin : KO W (w1.setCell ⟨w.heap.size + 1 + 1, 0, none⟩ v') ∧ Mv B sts1 v.ownBlock W (w1.setCell ⟨w.heap.size + 1 + 1, 0, none⟩ v') ∧ ListJ w.heap.size v' (s.1 ++ [x], s.2) (w1.setCell ⟨w.heap.size + 1 + 1, 0, none⟩ v') := by
        refine ⟨hk1.set h21 _, hm1.set h21 (by decide) (by omega) _, (heap_setOther (by omega)).trans h01, (heap_setOther (by omega)).trans h11, ?_, own_setCell hrow1 h21 (by decide) _, hs0⟩
        rw [heap_setCell _ _ _ _ _ _ _ h21]
        simp
      obtain ⟨va, vm, vc, rfl⟩ := row_form hrow
      obtain ⟨va', vm', vc', rfl⟩ := row_form hrow1
      have HFI := hide (And.intro hfin hN)
      have HRUN := hide hrun
      clear hfin hN hrun hr0 hr1 hr2 hrow hrow1 hgr hnx hbA hrowA h01 h11 h21 hk1 hm1 hx hc hs0
      gi_wp2_with (gi_at_builtin; refine wpListIn_append_run rfl (.tmp 24) (.tmp 26) 22 rfl rfl rfl HRUN.out ?_)
      gi_wp2
      exact ⟨HFI.out.1.1, HFI.out.1.2.1, _, HFI.out.2, .inl ⟨rfl, HFI.out.1.2.2⟩⟩
    · have q0 : (er != 0) = true := by simpa using he
      have c0 := cell_of_row W w.heap.size 0 _ _ _ hr0
      have c1 := cell_of_row W (w.heap.size + 1) 0 _ _ _ hr1
      simp only [List.getElem?_toArray, List.getElem?_cons_zero] at c0 c1
      have g0 := frozen0 (j := 0) hr0
      have g1 := frozen0 (j := 0) hr1
      have h0' : (W.setCell ⟨w.heap.size, 0, none⟩ (.slice none 0 0)).heap[w.heap.size]? = some (.cells #[.slice none 0 0] 22) := by rw [heap_setCell _ _ _ _ _ _ _ hr0]; simp
      have h1' : (W.setCell ⟨w.heap.size, 0, none⟩ (.slice none 0 0)).heap[w.heap.size + 1]? = some (.cells #[.int .i64 0] 26) := (heap_setOther (by omega)).trans hr1
      have hfin : KO W ((W.setCell ⟨w.heap.size, 0, none⟩ (.slice none 0 0)).setCell ⟨w.heap.size + 1, 0, none⟩ (.int .i64 er)) ∧ Mv B sts1 v.ownBlock W ((W.setCell ⟨w.heap.size, 0, none⟩ (.slice none 0 0)).setCell ⟨w.heap.size + 1, 0, none⟩ (.int .i64 er)) ∧ ListX w.heap.size v (s.1, er) ((W.setCell ⟨w.heap.size, 0, none⟩ (.slice none 0 0)).setCell ⟨w.heap.size + 1, 0, none⟩ (.int .i64 er)) := by
        refine ⟨((KO.refl W).set hr0 _).set h1' _, ((Mv.refl B sts1 v.ownBlock W).set hr0 (by decide) hB _).set h1' (by decide) (by omega) _, (heap_setOther (by omega)).trans h0', ?_, he⟩
        rw [heap_setCell _ _ _ _ _ _ _ h1']
        simp
      have HFI := hide hfin
      clear hfin hr0 hr1 hr2 hrow hx h0' h1' hs0
      gi_wp2
      exact ⟨HFI.out.1, _, HFI.out.2.1, Nx.refl _ _, .inr ⟨rfl, .inr ⟨he, HFI.out.2.2⟩⟩⟩
  case iter =>
    intro l J Jx W hY hJ hbW
    have hbW' : Below w.heap.size w W := HF.out.2.2.2.2.trans (hbW.mono (by omega))
    have hit := through1_any W l listSink g caps fd B sts1 kts1 J Jx hY I HG.out (by decide) (w.heap.size + 1 + 1 + 1) (w.heap.size + 1 + 1 + 1 + 2) (w.heap.size + 1 + 1 + 1 + 1) root lo hi asked (.slice none 0 0) ([], 0) ((hbW.block _ (lt_of_heap HF.out.1)).trans HF.out.1) ((hbW.block _ (lt_of_heap HF.out.2.2.1)).trans HF.out.2.2.1) ((hbW.block _ (lt_of_heap HF.out.2.1)).trans HF.out.2.1) (Nat.le_trans hB hbW'.size) hJ (HG.out.below HF.out.2.2.2.1 hbW) (by omega) (by simp [listSink])
    refine hit.mono ?_
    rintro e W' ⟨hx, v', h1, h2, h3, h4, h5⟩
    exact ⟨hx, v', h1, h2, by rw [HSA.out.1]; exact h3, (Mv.of hbW' hB).trans h4 (Nx.refl _ _)⟩
  case all =>
    rintro D W v' hD hc hX hK
    obtain ⟨hT, hJ⟩ : (goT listSink fd lo hi 21 (rootK root) (-1) ⟨asked, [], ([], 0)⟩).2 = true ∧ ListJ w.heap.size v' (goT listSink fd lo hi 21 (rootK root) (-1) ⟨asked, [], ([], 0)⟩).1.s W := by
      rcases hc with h | h
      · exact h
      · exact h.2.elim
    obtain ⟨hr0, hr1, hr2, hrow, hs0⟩ := hJ
    have hbad : L.bad = 0 := HSA.out.2.2.2.1.1 hT
    have hout : outOf L = (goT listSink fd lo hi 21 (rootK root) (-1) ⟨asked, [], ([], 0)⟩).1.s.1 := by unfold outOf; rw [if_pos hbad]; exact HSA.out.2.1
    rw [← hout] at hrow
    have c2 := cell_of_row W (w.heap.size + 1 + 1) 0 _ _ _ hr2
    have c0 := cell_of_row W w.heap.size 0 _ _ _ hr0
    simp only [List.getElem?_toArray, List.getElem?_cons_zero] at c0 c2
    have g0 := frozen0 (j := 0) hr0
    have h0' : (W.setCell ⟨w.heap.size, 0, none⟩ v').heap[w.heap.size]? = some (.cells #[v'] 22) := by rw [heap_setCell _ _ _ _ _ _ _ hr0]; simp
    have h1' : (W.setCell ⟨w.heap.size, 0, none⟩ v').heap[w.heap.size + 1]? = some (.cells #[.int .i64 0] 26) := (heap_setOther (by omega)).trans hr1
    have e1 := cell_of_row _ (w.heap.size + 1) 0 _ _ _ h1'
    simp only [List.getElem?_toArray, List.getElem?_cons_zero] at e1
    have g1 := frozen0 (j := 0) h1'
    have h0f : ((W.setCell ⟨w.heap.size, 0, none⟩ v').setCell ⟨w.heap.size + 1, 0, none⟩ (.int .i64 0)).heap[w.heap.size]? = some (.cells #[v'] 22) := (heap_setOther (by omega)).trans h0'
    have h1f : ((W.setCell ⟨w.heap.size, 0, none⟩ v').setCell ⟨w.heap.size + 1, 0, none⟩ (.int .i64 0)).heap[w.heap.size + 1]? = some (.cells #[.int .i64 0] 26) := by rw [heap_setCell _ _ _ _ _ _ _ h1']; simp
    have hkf : KO W ((W.setCell ⟨w.heap.size, 0, none⟩ v').setCell ⟨w.heap.size + 1, 0, none⟩ (.int .i64 0)) := ((KO.refl W).set hr0 _).set h1' _
    have hmf : Mv B sts1 none W ((W.setCell ⟨w.heap.size, 0, none⟩ v').setCell ⟨w.heap.size + 1, 0, none⟩ (.int .i64 0)) := ((Mv.refl B sts1 none W).set hr0 (by decide) hB _).set h1' (by decide) (by omega) _
    have hof := own_setCell (j := 0) (own_setCell (j := 0) hrow hr0 (by decide) v') h1' (by decide) (.int .i64 0)
    obtain ⟨va', vm', vc', rfl⟩ := row_form hrow
    gi_wp2
    have hK' := hkf D _ hK rfl
    have hmp := Mv.put (B := B) (ts := []) (r := none) (o' := .deferred none) hK' rfl (by omega)
    refine ⟨by simp, .inl ⟨_, _, rfl, run_takeDeferred hK', ?_⟩⟩
    have z0 := cell_of_row _ w.heap.size 0 _ _ _ (hmp.k _ _ _ _ h0f (by simp) (by simp))
    have z1 := cell_of_row _ (w.heap.size + 1) 0 _ _ _ (hmp.k _ _ _ _ h1f (by simp) (by simp))
    simp only [List.getElem?_toArray, List.getElem?_cons_zero] at z0 z1
    refine ⟨.tuple #[.slice va' vm' vc', .int .i64 0], ?_, ⟨_, by rw [hbad], hmp.own0 hof (by simp), HG.out.mv hX.1 ((hmf.types (by decide)).trans (hmp.types (by simp)) (Nx.refl _ _)), hX.2.trans ((hmf.types (by decide)).trans (hmp.types (by simp)) (Nx.refl _ _)) (Nx.refl _ _)⟩⟩
    simp [results, Tryz.f17, go_sem, z0, z1]
  case left =>
    rintro D W v' hD hT hJ hX hK
    obtain ⟨hr0, hr1, hs0⟩ := hJ
    have hbad : L.bad = (goT listSink fd lo hi 21 (rootK root) (-1) ⟨asked, [], ([], 0)⟩).1.s.2 := HSA.out.2.2.1
    have hout : outOf L = [] := by unfold outOf; rw [if_neg (by rw [hbad]; exact hs0)]
    change Code.ret.wpIn _ _ _ _ _ _
    gi_wp2
    have hmp := Mv.put (B := B) (ts := []) (r := none) (o' := .deferred none) hK rfl (by omega)
    refine ⟨by simp, .inl ⟨_, _, rfl, run_takeDeferred hK, ?_⟩⟩
    have z0 := cell_of_row _ w.heap.size 0 _ _ _ (hmp.k _ _ _ _ hr0 (by simp) (by simp))
    have z1 := cell_of_row _ (w.heap.size + 1) 0 _ _ _ (hmp.k _ _ _ _ hr1 (by simp) (by simp))
    simp only [List.getElem?_toArray, List.getElem?_cons_zero] at z0 z1
    refine ⟨.tuple #[.slice none 0 0, .int .i64 (goT listSink fd lo hi 21 (rootK root) (-1) ⟨asked, [], ([], 0)⟩).1.s.2], ?_, ⟨_, by rw [hbad], by rw [hout]; exact World.ownsRow_nil _ _ _ _, HG.out.mv hX.1 (hmp.types (by simp)), hX.2.trans (hmp.types (by simp)) (Nx.refl _ _)⟩⟩
    simp [results, Tryz.f17, go_sem, z0, z1]
end Go.Proofs.YtfeffaeinggiiaaGreatDoor
