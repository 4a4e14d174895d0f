/-
  ProllyAll, walked. Conditions: the objects lie there; texts within reach; the table holds its numbers.
-/
import Derived.Test.YtimbleaafoiidaaGreatDoorA48PRList
namespace Go.Proofs.YtimbleaafoiidaaGreatDoor
open Go.RowKit Go.Shelf
attribute [local go_sem] Oper.semAt_some

set_option pp.maxSteps 1000000 in
set_option pp.deepTerms true in
set_option maxRecDepth 100000 in
set_option maxHeartbeats 1600000 in
theorem alls_any (w : World) (vo : Value) (objs : List Pair) (hv : Ls w.heap.size w 2 pairC vo objs) (hob : ∀ o ∈ objs, o.2.length ≤ 140737488351232) (root lo : Bs) (hrl : root.length ≤ 140737488351232) (hll : lo.length ≤ 140737488351232) (most : Int) (_hmost : In64 most) (hT : TabW w) :
    Calls Tryz.prog 7 #[vo, .string (strB root), .string (strB lo), .int .i64 most] w fun e w' => e = .returned (.bool true) ∧ Below w.heap.size w w' := by
  have hvf := hv
  obtain ⟨ao, cap, hvv, -⟩ := hvf
  obtain ⟨m, hm⟩ : ∃ m, m = objs.length := ⟨_, rfl⟩
  rw [← hm] at hvv
  subst hvv
  clear hm
  have HV := hide hv
  have HO := hide hob
  obtain ⟨a1, ha1⟩ : ∃ a1, w.alloc (.cells #[.int .i64 most] 3) = a1 := ⟨_, rfl⟩
  have hba1 : Below w.heap.size w a1 := by rw [← ha1]; exact (Below.refl _ _).alloc (Nat.le_refl _) _
  have hsa1 : a1.heap.size = w.heap.size + 1 := by rw [← ha1, World.size_alloc]
  have hla1 : a1.heap[w.heap.size]? = some (.cells #[.int .i64 most] 3) := by rw [← ha1]; exact heap_last _ _ _ rfl
  obtain ⟨a2, ha2⟩ : ∃ a2, a1.alloc (.cells #[.bool false] 4) = a2 := ⟨_, rfl⟩
  have hba2 : Below a1.heap.size a1 a2 := by rw [← ha2]; exact (Below.refl _ _).alloc (Nat.le_refl _) _
  have hsa2 : a2.heap.size = w.heap.size + 1 + 1 := by rw [← ha2, World.size_alloc]; rw [hsa1]
  have hla2 : a2.heap[a1.heap.size]? = some (.cells #[.bool false] 4) := by rw [← ha2]; exact heap_last _ _ _ rfl
  rw [hsa1] at hla2
  have hla12 := (hba2.block _ (lt_of_heap hla1)).trans hla1
  have hB0 := hba1.trans (hba2.mono (by omega))
  have hsh := shown_any a2 (hT.keep hB0 hT.1)
  have H0 := hide (And.intro hB0 (And.intro hla12 hla2))
  clear hv hT hob hba1 hba2 hla1 hla2 hla12 hB0
  refine (callsIn_wide (n := 0)).1 ?_
  refine callsIn_of_wp_marks Tryz.func7 rfl trivial ?_ rfl
  simp only [Tryz.ntmps7, List.size_toArray, List.length_cons, List.length_nil, Nat.reduceAdd, Nat.reduceSub, Array.replicate_succ, Array.replicate_zero, List.push_toArray, List.append_toArray, List.nil_append, List.cons_append]
  gi_wp2_with fail
  refine ⟨trivial, rfl, ?_⟩
  refine (callsIn_wide.2 hsh).mono ?_
  rintro e w1 ⟨rfl, hb1⟩
  have hb2 : Below w1.heap.size w1 (w1.alloc (.cells #[.slice none 0 0] 32)) := (Below.refl _ _).alloc (Nat.le_refl _) _
  have hg2 := heap_last w1 (.cells #[.slice none 0 0] 32) _ rfl
  have hm1 := (hb1.block _ (lt_of_heap H0.out.2.1)).trans H0.out.2.1
  have hr1 := (hb1.block _ (lt_of_heap H0.out.2.2)).trans H0.out.2.2
  have hm2 := (hb2.block _ (lt_of_heap hm1)).trans hm1
  have hr2 := (hb2.block _ (lt_of_heap hr1)).trans hr1
  have hB1 := H0.out.1.trans (hb1.mono H0.out.1.size)
  have hB2 := hB1.trans (hb2.mono hB1.size)
  have hs1 : w.heap.size + 1 + 1 ≤ w1.heap.size := by have := hb1.size; omega
  obtain ⟨w2, hw2⟩ : ∃ w2, w1.alloc (.cells #[.slice none 0 0] 32) = w2 := ⟨_, rfl⟩
  rw [hw2] at hg2 hm2 hr2 hB2
  have hs2 : w2.heap.size = w1.heap.size + 1 := by rw [← hw2, World.size_alloc]
  have hak := asked_any w2 ao m cap w1.heap.size
  have hb3 : Below w2.heap.size w2 ((w2.alloc (.cells #[.slice ao m cap] 25)).alloc (.cells #[.pointer (some ⟨w1.heap.size, 0, none⟩)] 37)) := ((Below.refl _ _).alloc (Nat.le_refl _) _).alloc (by simp) _
  have hci := heap_last (w2.alloc (.cells #[.slice ao m cap] 25)) (.cells #[.pointer (some ⟨w1.heap.size, 0, none⟩)] 37) (w2.heap.size + 1) (by simp)
  have hcl := (heap_past (w2.alloc (.cells #[.slice ao m cap] 25)) (.cells #[.pointer (some ⟨w1.heap.size, 0, none⟩)] 37) _ (by simp)).trans (heap_last w2 (.cells #[.slice ao m cap] 25) _ rfl)
  obtain ⟨w3, hw3⟩ : ∃ w3, (w2.alloc (.cells #[.slice ao m cap] 25)).alloc (.cells #[.pointer (some ⟨w1.heap.size, 0, none⟩)] 37) = w3 := ⟨_, rfl⟩
  rw [hw3] at hci hcl hb3 hak
  rw [hs2] at hci hcl hak
  have hg3 := (hb3.block _ (lt_of_heap hg2)).trans hg2
  have hm3 := (hb3.block _ (lt_of_heap hm2)).trans hm2
  have hr3 := (hb3.block _ (lt_of_heap hr2)).trans hr2
  have hB3 := hB2.trans (hb3.mono hB2.size)
  have hall := all_prog w3 (.func (.func 38) #[] #[.pointer (some ⟨w1.heap.size + 1 + 1, 0, none⟩), .pointer (some ⟨w1.heap.size + 1, 0, none⟩)]) rfl _ _ rfl root lo (by omega) (by omega)
  have H3 := hide (And.intro hB3 (And.intro hm3 (And.intro hr3 (And.intro hg3 (And.intro hci hcl)))))
  have hs3 : w2.heap.size ≤ w3.heap.size := hb3.size
  clear hsh hb1 hb2 hg2 hm1 hr1 hm2 hr2 hB1 hB2 hci hcl hb3 hg3 hm3 hr3 hB3 H0 hsa1 hsa2 ha1 ha2 a1
  gi_wp2_with fail
  refine ⟨trivial, rfl, ?_⟩
  refine (callsIn_wide.2 hak).mono ?_
  rintro e w3 ⟨rfl, rfl⟩
  gi_wp2_with fail
  refine ⟨trivial, rfl, ?_⟩
  refine (callsIn_wide.2 hall).mono ?_
  rintro e w4 ⟨c, hc, rfl, hb4, hq1, hq2, hq3⟩
  have hB4 := H3.out.1.trans (hb4.mono H3.out.1.size)
  have hm4 := (hb4.block _ (lt_of_heap H3.out.2.1)).trans H3.out.2.1
  have hr4 := (hb4.block _ (lt_of_heap H3.out.2.2.1)).trans H3.out.2.2.1
  have hg4 := (hb4.block _ (lt_of_heap H3.out.2.2.2.1)).trans H3.out.2.2.2.1
  have hi4 := (hb4.block _ (lt_of_heap H3.out.2.2.2.2.1)).trans H3.out.2.2.2.2.1
  have hl4 := (hb4.block _ (lt_of_heap H3.out.2.2.2.2.2)).trans H3.out.2.2.2.2.2
  have c0 := cell_of_row w4 w1.heap.size 0 _ _ _ hg4
  simp only [List.getElem?_toArray, List.getElem?_cons_zero] at c0
  have hnf := eql_nilS w4 61 #[.pointer (some ⟨c, 0, none⟩), .pointer (some ⟨c + 2, 0, none⟩), .pointer (some ⟨c + 1, 0, none⟩)]
  have hrr := list12_any w4 _ objs ((HV.out.keep hB4).up hB4.size) HO.out root lo []
  rw [show strB ([] : Bs) = ⟨#[]⟩ from rfl] at hrr
  have hs4 := hb4.size
  have H4 := hide (And.intro hB4 (And.intro hm4 (And.intro hr4 (And.intro hg4 (And.intro hi4 (And.intro hl4 (And.intro hq1 (And.intro hq2 hq3))))))))
  clear hak hall hb4 hB4 hm4 hr4 hg4 hi4 hl4 hq1 hq2 hq3 H3
  gi_wp2_with fail
  refine ⟨trivial, rfl, ?_⟩
  refine (callsIn_wide.2 hrr).mono ?_
  rintro e w5 ⟨vw, vi, rfl, hrw, hri, hb5⟩
  obtain ⟨L, hL⟩ : ∃ L, listM (findO objs) root lo [] = L := ⟨_, rfl⟩
  rw [hL] at hrw hri ⊢
  obtain ⟨wa, wm, wc, rfl⟩ := row_form hrw
  obtain ⟨ia, im, ic, rfl⟩ := row_form hri
  have hs5 := hb5.size
  have hB5 := H4.out.1.trans (hb5.mono H4.out.1.size)
  obtain ⟨ks, hks, hkr⟩ := ids_kept hri
  have hb7 : Below w5.heap.size w5 ((w5.alloc (.cells #[.slice none 0 0] 22)).alloc (.cells #[.int .i64 0] 26)) := ((Below.refl _ _).alloc (Nat.le_refl _) _).alloc (by simp) _
  have f1 := (heap_past (w5.alloc (.cells #[.slice none 0 0] 22)) (.cells #[.int .i64 0] 26) _ (by simp)).trans (heap_last w5 (.cells #[.slice none 0 0] 22) _ rfl)
  have f2 := heap_last (w5.alloc (.cells #[.slice none 0 0] 22)) (.cells #[.int .i64 0] 26) (w5.heap.size + 1) (by simp)
  obtain ⟨w7, hw7⟩ : ∃ w7, (w5.alloc (.cells #[.slice none 0 0] 22)).alloc (.cells #[.int .i64 0] 26) = w7 := ⟨_, rfl⟩
  rw [hw7] at hb7 f1 f2
  have hB7 := hB5.trans (hb7.mono hB5.size)
  have up := fun {k : Nat} {o : Obj} (h : w4.heap[k]? = some o) => (hb7.block k (by have := lt_of_heap h; omega)).trans ((hb5.block k (lt_of_heap h)).trans h)
  have hA7 : AskK ((c + 1, #[.string (strB root)], (0, 0)) :: ks) w.heap.size w7 (w1.heap.size + 1 + 1) (w1.heap.size + 1) w1.heap.size objs [] :=
    ⟨up H4.out.2.2.2.2.1, ⟨_, up H4.out.2.2.2.2.2.1, HV.out.keep hB7⟩, ⟨_, up H4.out.2.2.2.1, World.ownsRow_nil _ _ _ _, fun p hp => by
      rcases List.mem_cons.1 hp with rfl | hp
      · exact ⟨up H4.out.2.2.2.2.2.2.2.1, by simp [Value.ownBlock]⟩
      · exact ⟨(hb7.block _ (lt_of_heap (hks p hp))).trans (hks p hp), by simp [Value.ownBlock]⟩⟩, by omega⟩
  have hG := get_askK ((c + 1, #[.string (strB root)], (0, 0)) :: ks) kts1 (by decide) (by decide) (by decide) (by decide) (by decide) w.heap.size (w1.heap.size + 1 + 1) (w1.heap.size + 1) w1.heap.size objs HO.out
  have hsame := goT_same (findO objs) hG.short lo [] 21 (rootK root) (-1) [] [] [] (.inl ⟨rfl, by omega⟩) rfl
  rw [show goM (findO objs) lo [] 21 (rootK root) (-1) ⟨[], [], 0⟩ = L from hL] at hsame
  have hstop := goT_stops most (findO objs) lo [] 21 (rootK root) (-1)
  obtain ⟨T, hTT⟩ : ∃ T, goT listSink (findO objs) lo [] 21 (rootK root) (-1) ⟨[], [], ([], 0)⟩ = T := ⟨_, rfl⟩
  rw [hTT] at hsame hstop
  have hs7 := hb7.size
  have h0 : AllJ w5.heap.size (.slice none 0 0) ([], 0) w7 := ⟨f1, f2, World.ownsRow_nil _ _ _ _, rfl⟩
  have hrw7 := own_below hrw hb7
  have H7 := hide (And.intro hB7 (And.intro hA7 (And.intro (up H4.out.2.1) (And.intro (up H4.out.2.2.1) (And.intro (up H4.out.2.2.2.2.2.2.1) (And.intro (up H4.out.2.2.2.2.2.2.2.1) (And.intro (up H4.out.2.2.2.2.2.2.2.2) hrw7)))))))
  have HG := hide hG
  have HS := hide (And.intro hsame hstop)
  have HK := hide hkr
  have HTT := hide hTT
  have HW7 := hide hw7
  have HN := hide h0
  clear hrr hnf c0 hB5 hks hkr hb7 f1 f2 hB7 up hA7 hG hsame hstop hrw hri hb5 hL hrw7 H4 hTT h0 hw7
  gi_wp2
  rw [HW7.out]
  refine wp_told (σ := List Pair × Int) rfl rfl (enters_own Tryz.func61 (by kernel_rfl) rfl) listSink w.heap.size sts1 (by omega) (AllJ w5.heap.size) (AllN w5.heap.size) (fun _ _ _ => False) (fun _ => none)
    (fun h hm => h.mv hm (by decide) (by decide) (by decide)) (fun h hm => h.mv hm (by decide) (by decide) (by decide)) (fun h _ => h.elim)
    (fun h hb => by obtain ⟨cs, fr, h1⟩ := Lib.ownsRow_kind h.2.2.1 _ hb; exact ⟨cs, fr, h1⟩) (by decide) [] (by simp)
    (fun b x er => { tmps := #[Value.slice ao m cap, Value.string (strB root), Value.string (strB lo), Value.int IntKind.i64 most, undef, undef, undef, Value.pointer (some ⟨w.heap.size, 0, none⟩), Value.pointer (some ⟨w.heap.size + 1, 0, none⟩), Value.bool true, Value.pointer (some ⟨w1.heap.size, 0, none⟩), Value.func (Fn.func 61) #[] #[Value.pointer (some { block := c, off := 0 }), Value.pointer (some { block := c + 2, off := 0 }), Value.pointer (some { block := c + 1, off := 0 })], Value.slice wa wm wc, Value.slice ia im ic, Value.int IntKind.i64 L.bad, Value.pointer (some ⟨w5.heap.size, 0, none⟩), Value.pointer (some ⟨w5.heap.size + 1, 0, none⟩), Value.pointer (some ⟨b, 0, none⟩), Value.int IntKind.i64 er, undef, undef, Value.bool true, Value.slice ao m cap, Value.func (Fn.func 38) #[] #[Value.pointer (some { block := w1.heap.size + 1 + 1, off := 0 }), Value.pointer (some { block := w1.heap.size + 1, off := 0 })], Value.string (strB root), Value.string (strB lo), Value.func (Fn.func 61) #[] #[Value.pointer (some { block := c, off := 0 }), Value.pointer (some { block := c + 2, off := 0 }), Value.pointer (some { block := c + 1, off := 0 })], Value.func (Fn.func 61) #[] #[Value.pointer (some { block := c, off := 0 }), Value.pointer (some { block := c + 2, off := 0 }), Value.pointer (some { block := c + 1, off := 0 })], Value.bool false, Value.bool false, Value.slice none 0 0, Value.int IntKind.i64 0, Value.bool false, Value.bool false, Value.tuple #[Value.slice wa wm wc, Value.slice ia im ic, Value.int IntKind.i64 L.bad], Value.slice ao m cap, Value.string (strB root), Value.string (strB lo), Value.tuple #[Value.slice wa wm wc, Value.slice ia im ic, Value.int IntKind.i64 L.bad], Value.slice wa wm wc, Value.slice ia im ic, Value.int IntKind.i64 L.bad, Value.func (Fn.func 61) #[] #[Value.pointer (some { block := c, off := 0 }), Value.pointer (some { block := c + 2, off := 0 }), Value.pointer (some { block := c + 1, off := 0 })], Value.agg #[Value.string (strB x.1), Value.string (strB x.2)], Value.int IntKind.i64 er, undef, undef, undef, undef, undef, undef, undef, undef, undef, undef, undef, undef, undef, undef, undef, undef, undef, undef, undef, undef, undef, undef, undef, undef, undef, undef, undef, undef, undef, undef, undef, undef, undef, undef, undef, undef, undef, undef, undef, undef, undef, undef, undef, undef, undef, undef, undef, undef, undef, undef, undef, undef, undef, undef, undef, undef, undef, undef, undef, undef, undef, undef, undef, undef, undef, undef, undef, undef, undef, undef, undef, undef, undef], defers := [] })
    ?assign ?body (.slice none 0 0) ([], 0) HN.out T (fun W => AskK ((c + 1, #[.string (strB root)], (0, 0)) :: ks) w.heap.size W (w1.heap.size + 1 + 1) (w1.heap.size + 1) w1.heap.size objs T.1.asked ∧ Mv w.heap.size (gts sts1) none w7 W) (fun hX hm => ⟨hX.1.mv hm (by simp) (by simp) (by simp) (by simp), hX.2.trans (hm.types (by simp)) (Nx.refl _ _)⟩) ?iter ?all ?left
  case assign =>
    intro l x er W K hK
    gi_wp2
    exact hK
  case iter =>
    intro l J Jx W hY hJ hbW
    have hit := through1_any W l listSink _ _ (findO objs) w.heap.size sts1 kts1 J Jx hY _ HG.out (by decide) c (c + 2) (c + 1) root lo [] [] (.slice none 0 0) ([], 0) ((hbW.block _ (lt_of_heap H7.out.2.2.2.2.1)).trans H7.out.2.2.2.2.1) ((hbW.block _ (lt_of_heap H7.out.2.2.2.2.2.2.1)).trans H7.out.2.2.2.2.2.2.1) ((hbW.block _ (lt_of_heap H7.out.2.2.2.2.2.1)).trans H7.out.2.2.2.2.2.1) (by have := hbW.size; omega) hJ (HG.out.below H7.out.2.1 hbW) (by simp) (by simp [listSink])
    rw [HTT.out] at hit
    refine hit.mono ?_
    rintro e W' ⟨hx, v', h1, h2, h3, h4, h5⟩
    exact ⟨hx, v', h1, h2, h3, (Mv.of hbW (by omega)).trans h4 (Nx.refl _ _)⟩
  case left =>
    intro D W v' _ _ hf
    exact hf.elim
  case body =>
    intro l b v s x er W hJ hx hbv hcap hxe
    obtain ⟨hr0, hr1, hrow, hs0⟩ := hJ
    have hsW : w5.heap.size + 1 < W.heap.size := lt_of_heap hr1
    have c0 := cell_of_row W w5.heap.size 0 _ _ _ hr0
    have c1 := cell_of_row W (w5.heap.size + 1) 0 _ _ _ hr1
    have x0 := cell_of_row W b 0 _ _ _ hx
    have x1 := cell_of_row W b 1 _ _ _ hx
    simp only [List.getElem?_toArray, List.getElem?_cons_zero, List.getElem?_cons_succ] at c0 c1 x0 x1
    by_cases he : er = 0
    · have q0 : (er != 0) = false := by rw [he]; rfl
      have hc := hcap he
      obtain ⟨v', w1', hrun, hrow1, hgr, hnx⟩ := app_pair W w5.heap.size v s.1 x hrow (by omega) (by simp only [listSink] at hc; omega)
      have hbA : Below W.heap.size W (W.alloc (pairO x)) := (Below.refl _ _).alloc (Nat.le_refl _) _
      have hrowA : Rw w5.heap.size (W.alloc (pairO x)) 60 2 pairC v s.1 := World.ownsRow.alloc hrow _
      have h01 := grow_keep hrowA hgr ((heap_past W (pairO x) _ (lt_of_heap hr0)).trans hr0) (by decide)
      have h11 := grow_keep hrowA hgr ((heap_past W (pairO x) _ (lt_of_heap hr1)).trans hr1) (by decide)
      have hk1 : KO W w1' := ((KO.refl W).more hbA).grown hrowA hgr
      have hm1 : Mv w.heap.size sts1 v.ownBlock W w1' := (Mv.of hbA (by omega)).grownRow (own_low hrowA (by omega)) hgr (Nx.refl _ _) (by simp; omega)
      have hN : Nx W v.ownBlock v'.ownBlock := by
        rcases hnx with h | h
        · exact .inl h
        · exact .inr ⟨_, h, by omega⟩
      have e2 := cell_of_row w1' w5.heap.size 0 _ _ _ h01
      simp only [List.getElem?_toArray, List.getElem?_cons_zero] at e2
      have g2 := frozen0 (j := 0) h01
      have hfin : KO W (w1'.setCell ⟨w5.heap.size, 0, none⟩ v') ∧ Mv w.heap.size sts1 v.ownBlock W (w1'.setCell ⟨w5.heap.size, 0, none⟩ v') ∧ AllJ w5.heap.size v' (s.1 ++ [x], s.2) (w1'.setCell ⟨w5.heap.size, 0, none⟩ v') := by
        refine ⟨hk1.set h01 _, hm1.set h01 (by decide) (by omega) _, ?_, (heap_setOther (by omega)).trans h11, own_setCell hrow1 h01 (by decide) _, hs0⟩
        rw [heap_setCell _ _ _ _ _ _ _ h01]
        simp
      obtain ⟨va, vm, vc, rfl⟩ := row_form hrow
      obtain ⟨va', vm', vc', rfl⟩ := row_form hrow1
      have HFI := hide (And.intro hfin hN)
      have HRUN := hide hrun
      clear hfin hN hrun hr0 hr1 hrow hrow1 hgr hnx hbA hrowA h01 h11 hk1 hm1 hx hc hs0
      gi_wp2_with (gi_at_builtin; refine wpListIn_append_run rfl (.tmp 59) (.tmp 61) 22 rfl rfl rfl HRUN.out ?_)
      gi_wp2
      exact ⟨HFI.out.1.1, HFI.out.1.2.1, _, HFI.out.2, rfl, HFI.out.1.2.2⟩
    · have q0 : (er != 0) = true := by simpa using he
      obtain rfl := hxe he
      have hnq : (binOp .neq 60 (.agg #[.string ⟨#[]⟩, .string ⟨#[]⟩]) (.agg #[.string ⟨#[]⟩, .string ⟨#[]⟩])).run Tryz.prog W = .ok (.bool false) W := (neqPair W ([], []) ([], [])).trans (by rw [same1_true rfl]; rfl)
      rw [show strB ([] : Bs) = ⟨#[]⟩ from rfl] at x0 x1
      have g1 := frozen0 (j := 0) hr1
      have hfin : KO W (W.setCell ⟨w5.heap.size + 1, 0, none⟩ (.int .i64 er)) ∧ Mv w.heap.size sts1 v.ownBlock W (W.setCell ⟨w5.heap.size + 1, 0, none⟩ (.int .i64 er)) ∧ AllN w5.heap.size v (s.1, er) (W.setCell ⟨w5.heap.size + 1, 0, none⟩ (.int .i64 er)) := by
        refine ⟨(KO.refl W).set hr1 _, (Mv.refl w.heap.size sts1 v.ownBlock W).set hr1 (by decide) (by omega) _, (heap_setOther (by omega)).trans hr0, ?_, own_setCell hrow hr1 (by decide) _⟩
        rw [heap_setCell _ _ _ _ _ _ _ hr1]
        simp
      have HFI := hide hfin
      clear hfin hr0 hr1 hrow hx hs0
      gi_wp2
      exact ⟨HFI.out.1, HFI.out.2.1, _, Nx.refl _ _, HFI.out.2.2⟩
  case all =>
    rintro D W vg hD hc hX hK -
    have hN : AllN w5.heap.size vg T.1.s W := by
      rcases hc with ⟨-, h⟩ | ⟨-, h⟩
      · exact h.n
      · exact h
    obtain ⟨hg0, hb0, hgot⟩ := hN
    obtain ⟨hA, hM⟩ := hX
    rw [← HS.out.1.2.2.1] at hb0
    obtain ⟨va, hva, hvr, hvk⟩ := hA.row
    have hids := HK.out W fun p hp => (hvk p (List.mem_cons_of_mem _ hp)).1
    rw [← HS.out.1.1] at hvr
    have hwant := hM.own0 H7.out.2.2.2.2.2.2.2 (by decide)
    have hsm := same_ids W _ _ L.asked L.asked (ls_of_own idC_length hvr) (ls_of_own idC_length hids)
    rw [decide_eq_true (rfl : L.asked = L.asked)] at hsm
    have c0 := cell_of_row W w5.heap.size 0 _ _ _ hg0
    have c1 := cell_of_row W (w5.heap.size + 1) 0 _ _ _ hb0
    have c2 := cell_of_row W w1.heap.size 0 _ _ _ hva
    simp only [List.getElem?_toArray, List.getElem?_cons_zero] at c0 c1 c2
    obtain ⟨aa, am, ac, rfl⟩ := row_form hvr
    obtain ⟨ga, gm, gc, rfl⟩ := row_form hgot
    have HW := hide (And.intro hg0 (And.intro hb0 (And.intro hgot (And.intro hA (And.intro hM (And.intro hva (And.intro hids (And.intro hwant hK))))))))
    have q1 : (L.bad != L.bad) = false := by simp
    clear hc hg0 hb0 hgot hA hM hva hvr hvk hids hwant hK
    gi_wp2_with fail
    refine ⟨trivial, rfl, ?_⟩
    refine (callsIn_wide.2 hsm).mono ?_
    rintro e W1 ⟨rfl, hb1⟩
    clear hsm
    by_cases hz : L.bad = 0
    · have q2 : (L.bad == 0) = true := by simpa using hz
      have hout : outOf L = T.1.s.1 := by unfold outOf; rw [if_pos hz]; exact HS.out.1.2.1
      clear hz
      have hsl := same_pairs W1 T.1.s.1 (outOf L) _ _ (ls_of_own pairC_length (own_below HW.out.2.2.1 hb1)) (ls_of_own pairC_length (own_below HW.out.2.2.2.2.2.2.2.1 hb1))
      rw [decide_eq_true hout.symm] at hsl
      have e0 := cell_of_row W1 w5.heap.size 0 _ _ _ ((hb1.block _ (lt_of_heap HW.out.1)).trans HW.out.1)
      simp only [List.getElem?_toArray, List.getElem?_cons_zero] at e0
      gi_wp2_with fail
      refine ⟨trivial, rfl, ?_⟩
      refine (callsIn_wide.2 hsl).mono ?_
      rintro e W2 ⟨rfl, hb2⟩
      have hb12 := hb1.trans (hb2.mono hb1.size)
      have hh2 := (hb12.block _ (lt_of_heap HW.out.2.2.2.2.2.1)).trans HW.out.2.2.2.2.2.1
      have e3 := frozen0 (j := 0) hh2
      have e2 := cell_of_row W2 w1.heap.size 0 _ _ _ hh2
      simp only [List.getElem?_toArray, List.getElem?_cons_zero] at e2
      clear hsl e0 c0 c1 c2 hout
      gi_wp2
      have hAk := (HW.out.2.2.2.1.below hb12).renew
      have hmk := (hb12.block _ (lt_of_heap (HW.out.2.2.2.2.1.k _ _ _ _ H7.out.2.2.1 (by decide) (by simp)))).trans (HW.out.2.2.2.2.1.k _ _ _ _ H7.out.2.2.1 (by decide) (by simp))
      have hrk := (hb12.block _ (lt_of_heap (HW.out.2.2.2.2.1.k _ _ _ _ H7.out.2.2.2.1 (by decide) (by simp)))).trans (HW.out.2.2.2.2.1.k _ _ _ _ H7.out.2.2.2.1 (by decide) (by simp))
      have hck := (hb12.block _ (lt_of_heap (HW.out.2.2.2.2.1.k _ _ _ _ H7.out.2.2.2.2.1 (by decide) (by simp)))).trans (HW.out.2.2.2.2.1.k _ _ _ _ H7.out.2.2.2.2.1 (by decide) (by simp))
      have hpk := (hb12.block _ (lt_of_heap (HW.out.2.2.2.2.1.k _ _ _ _ H7.out.2.2.2.2.2.2.1 (by decide) (by simp)))).trans (HW.out.2.2.2.2.1.k _ _ _ _ H7.out.2.2.2.2.2.2.1 (by decide) (by simp))
      have hgk := (hb12.block _ (lt_of_heap HW.out.1)).trans HW.out.1
      have hDk := (hb12.block _ (lt_of_heap HW.out.2.2.2.2.2.2.2.2)).trans HW.out.2.2.2.2.2.2.2.2
      have hok := own_below HW.out.2.2.1 hb12
      have hMk : Mv w.heap.size [32] none W2 (W2.setCell ⟨w1.heap.size, 0, none⟩ (.slice none 0 0)) := (Mv.refl _ _ none W2).set hh2 (by simp) (by omega) _
      have hsk : (W2.setCell ⟨w1.heap.size, 0, none⟩ (.slice none 0 0)).heap.size = W2.heap.size := by simp
      have hDs := (KO.refl W2).set (j := 0) hh2 (.slice none 0 0) D _ hDk rfl
      obtain ⟨V, hV⟩ : ∃ V, W2.setCell ⟨w1.heap.size, 0, none⟩ (.slice none 0 0) = V := ⟨_, rfl⟩
      rw [hV] at hAk hMk hsk hDs ⊢
      have hbV : Below V.heap.size V (V.alloc (.cells #[.int .i64 0] 3)) := (Below.refl _ _).alloc (Nat.le_refl _) _
      have hnV := heap_last V (.cells #[.int .i64 0] 3) _ rfl
      have upk := fun {k : Nat} {cs : Array Value} {tt : TypeId} {fr : Nat × Nat} (h : W2.heap[k]? = some (.cells cs tt fr)) (ht : tt ∉ [32]) => (hbV.block k (lt_of_heap (hMk.k _ _ _ _ h ht (by simp)))).trans (hMk.k _ _ _ _ h ht (by simp))
      have hA8 := hAk.below hbV
      have hG2 := get_askK ((c + 1, #[.string (strB root)], (0, 0)) :: ks) kts2 (by decide) (by decide) (by decide) (by decide) (by decide) w.heap.size (w1.heap.size + 1 + 1) (w1.heap.size + 1) w1.heap.size objs HO.out
      have hro8 := own_below (hMk.own0 hok (by decide)) hbV
      obtain ⟨v8, h81, -, h83⟩ := hA8.row
      have hB8 : Below w.heap.size w (V.alloc (.cells #[.int .i64 0] 3)) := (((H7.out.1.trans HW.out.2.2.2.2.1.b).trans (hb12.mono (by have := HW.out.2.2.2.2.1.size; omega))).trans hMk.b).trans (hbV.mono (by have := hb12.size; have := HW.out.2.2.2.2.1.size; omega))
      have J8 : CntJ0 w5.heap.size W2.heap.size w.heap.size (w.heap.size + 1) (.slice ga gm gc) T.1.s.1 most (.slice none 0 0) (0, false) (V.alloc (.cells #[.int .i64 0] 3)) := ⟨rfl, rfl, by simp, ⟨upk hgk (by decide), hro8, by rw [← hsk]; exact hnV, upk hmk (by decide)⟩, upk hrk (by decide)⟩
      have H8 := hide (And.intro hB8 (And.intro hA8 (And.intro (upk hck (by decide)) (And.intro (upk hpk (by decide)) (And.intro (h83 _ (List.mem_cons_self ..)).1 (And.intro ((hbV.block _ (lt_of_heap hDs)).trans hDs) J8))))))
      have HG2 := hide hG2
      have hNB : w.heap.size + 1 < W2.heap.size ∧ w5.heap.size < W2.heap.size := by have := hb12.size; have := HW.out.2.2.2.2.1.size; have := lt_of_heap HW.out.1; omega
      have hs8 : w.heap.size ≤ V.heap.size := by have := hb12.size; have := HW.out.2.2.2.2.1.size; omega
      generalize V.alloc (.cells #[.int .i64 0] 3) = w8 at *
      obtain ⟨T2, hT2⟩ : ∃ T2, goT (stopSink T.1.s.1 most) (findO objs) lo [] 21 (rootK root) (-1) ⟨[], [], (0, false)⟩ = T2 := ⟨_, rfl⟩
      have HT2 := hide hT2
      have hst := HS.out.2
      rw [hT2] at hst
      have HST := hide hst
      have hsz8 := hB8.size
      clear hAk hmk hrk hck hpk hgk hDk hok hMk hDs hV hbV hnV upk hA8 hG2 hro8 h81 h83 hB8 J8 hT2 hst hh2 e2 e3
      refine wp_told (σ := Nat × Bool) rfl rfl (enters_own Tryz.func61 (by kernel_rfl) rfl) (stopSink T.1.s.1 most) w.heap.size sts2 (by omega) (CntJ0 w5.heap.size W2.heap.size w.heap.size (w.heap.size + 1) (.slice ga gm gc) T.1.s.1 most) (CntN (w.heap.size + 1)) (CntC (w.heap.size + 1)) (fun s => if s.2 then none else some 2)
        (fun h hm => h.mv hm (by decide) (by decide) (by decide) (by decide)) (fun h hm => hm.k _ _ _ _ h (by simp) (by simp)) (fun h hm e => hm.k _ _ _ _ (h e) (by simp) (by simp))
        (fun h hb => by rw [h.1] at hb; cases hb) (by decide) [(D, .deferred (some []))] (by simpa using ⟨H8.out.2.2.2.2.2.1, rfl⟩)
        (fun b x er => { tmps := #[Value.slice ao m cap, Value.string (strB root), Value.string (strB lo), Value.int IntKind.i64 most, undef, undef, undef, Value.pointer (some ⟨w.heap.size, 0, none⟩), Value.pointer (some ⟨w.heap.size + 1, 0, none⟩), Value.bool true, Value.pointer (some ⟨w1.heap.size, 0, none⟩), Value.func (Fn.func 61) #[] #[Value.pointer (some { block := c, off := 0 }), Value.pointer (some { block := c + 2, off := 0 }), Value.pointer (some { block := c + 1, off := 0 })], Value.slice wa wm wc, Value.slice ia im ic, Value.int IntKind.i64 L.bad, Value.pointer (some ⟨w5.heap.size, 0, none⟩), Value.pointer (some ⟨w5.heap.size + 1, 0, none⟩), undef, undef, Value.pointer (some ⟨W2.heap.size, 0, none⟩), Value.pointer (some ⟨b, 0, none⟩), Value.bool true, Value.slice ao m cap, Value.func (Fn.func 38) #[] #[Value.pointer (some { block := w1.heap.size + 1 + 1, off := 0 }), Value.pointer (some { block := w1.heap.size + 1, off := 0 })], Value.string (strB root), Value.string (strB lo), Value.func (Fn.func 61) #[] #[Value.pointer (some { block := c, off := 0 }), Value.pointer (some { block := c + 2, off := 0 }), Value.pointer (some { block := c + 1, off := 0 })], Value.func (Fn.func 61) #[] #[Value.pointer (some { block := c, off := 0 }), Value.pointer (some { block := c + 2, off := 0 }), Value.pointer (some { block := c + 1, off := 0 })], Value.bool false, Value.bool false, Value.slice none 0 0, Value.int IntKind.i64 0, Value.bool false, Value.bool false, Value.tuple #[Value.slice wa wm wc, Value.slice ia im ic, Value.int IntKind.i64 L.bad], Value.slice ao m cap, Value.string (strB root), Value.string (strB lo), Value.tuple #[Value.slice wa wm wc, Value.slice ia im ic, Value.int IntKind.i64 L.bad], Value.slice wa wm wc, Value.slice ia im ic, Value.int IntKind.i64 L.bad, Value.func (Fn.func 61) #[] #[Value.pointer (some { block := c, off := 0 }), Value.pointer (some { block := c + 2, off := 0 }), Value.pointer (some { block := c + 1, off := 0 })], undef, undef, undef, undef, undef, undef, undef, undef, undef, undef, undef, undef, undef, undef, undef, undef, undef, undef, undef, undef, Value.int IntKind.i64 L.bad, Value.int IntKind.i64 L.bad, Value.bool false, Value.bool false, Value.slice aa am ac, Value.slice ia im ic, Value.bool true, Value.bool false, Value.bool false, Value.bool false, Value.int IntKind.i64 L.bad, Value.bool true, Value.bool true, Value.slice ga gm gc, Value.slice wa wm wc, Value.bool true, Value.bool false, Value.bool false, Value.bool false, Value.func (Fn.func 61) #[] #[Value.pointer (some { block := c, off := 0 }), Value.pointer (some { block := c + 2, off := 0 }), Value.pointer (some { block := c + 1, off := 0 })], Value.agg #[Value.string (strB x.1), Value.string (strB x.2)], Value.int IntKind.i64 er, undef, undef, undef, undef, undef, undef, undef, undef, undef, undef, undef, undef, undef, undef, undef, undef, undef, undef, undef, undef, undef, undef, undef, undef, undef, undef, undef, undef, undef, undef, undef, undef, undef], defers := [] })
        ?assign ?body (.slice none 0 0) (0, false) H8.out.2.2.2.2.2.2 T2 (fun W => AskK ((c + 1, #[.string (strB root)], (0, 0)) :: ks) w.heap.size W (w1.heap.size + 1 + 1) (w1.heap.size + 1) w1.heap.size objs T2.1.asked ∧ Mv w.heap.size (gts sts2) none w8 W) (fun hX hm => ⟨hX.1.mv hm (by simp) (by simp) (by simp) (by simp), hX.2.trans (hm.types (by simp)) (Nx.refl _ _)⟩) ?iter ?all ?left
      case assign =>
        intro l x er W K hK
        gi_wp2
        exact hK
      case iter =>
        intro l J Jx W hY hJ hbW
        have hit := through1_any W l (stopSink T.1.s.1 most) _ _ (findO objs) w.heap.size sts2 kts2 J Jx hY _ HG2.out (by decide) c (c + 2) (c + 1) root lo [] [] (.slice none 0 0) (0, false) ((hbW.block _ (lt_of_heap H8.out.2.2.1)).trans H8.out.2.2.1) ((hbW.block _ (lt_of_heap H8.out.2.2.2.1)).trans H8.out.2.2.2.1) ((hbW.block _ (lt_of_heap H8.out.2.2.2.2.1)).trans H8.out.2.2.2.2.1) (by have := hbW.size; omega) hJ (HG2.out.below H8.out.2.1 hbW) (by simp) (by simp [stopSink])
        rw [HT2.out] at hit
        refine hit.mono ?_
        rintro e W' ⟨hx, v', h1, h2, h3, h4, h5⟩
        exact ⟨hx, v', h1, h2, h3, (Mv.of hbW (by omega)).trans h4 (Nx.refl _ _)⟩
      case body =>
        intro l b v s x er W hJ hx hbv hcap hxe
        obtain ⟨rfl, hs2, hsb, ⟨hg0, hgr, hn0, hm0⟩, hr0⟩ := hJ
        refine wpIn_mono (Q := fun e _ W' => CntP w5.heap.size W2.heap.size w.heap.size (w.heap.size + 1) (.slice ga gm gc) T.1.s.1 most w.heap.size W (.slice none 0 0) s x er e W') ?_ (fun _ _ _ h => h)
        have c0 := cell_of_row W w5.heap.size 0 _ _ _ hg0
        have c1 := cell_of_row W W2.heap.size 0 _ _ _ hn0
        have c2 := cell_of_row W w.heap.size 0 _ _ _ hm0
        have c3 := cell_of_row W (w.heap.size + 1) 0 _ _ _ hr0
        have x0 := cell_of_row W b 0 _ _ _ hx
        have x1 := cell_of_row W b 1 _ _ _ hx
        simp only [List.getElem?_toArray, List.getElem?_cons_zero, List.getElem?_cons_succ] at c0 c1 c2 c3 x0 x1
        have f1 := frozen0 (j := 0) hn0
        have f2 := frozen0 (j := 0) hr0
        obtain ⟨ga', gc', hgg, -, -, hcc⟩ := ls_of_own pairC_length hgr
        injection hgg with e1 e2 e3
        have hnb1 : W2.heap.size ≠ w.heap.size := by omega
        have hj1 : CntJ w5.heap.size W2.heap.size w.heap.size (.slice ga gm gc) T.1.s.1 most ((s.1 + 1 : Nat) : Int) ((W.setCell ⟨W2.heap.size, 0, none⟩ (.int .i64 ((s.1 : Int) + 1))).drew) := by
          refine ⟨(heap_setOther (by omega)).trans hg0, own_setCell hgr hn0 (by decide) _, ?_, (heap_setOther (by omega)).trans hm0⟩
          show (W.setCell ⟨W2.heap.size, 0, none⟩ (.int .i64 ((s.1 : Int) + 1))).heap[W2.heap.size]? = _
          rw [heap_setCell _ _ _ _ _ _ _ hn0]
          simp
        have hr1 : ((W.setCell ⟨W2.heap.size, 0, none⟩ (.int .i64 ((s.1 : Int) + 1))).drew).heap[w.heap.size + 1]? = some (.cells #[.bool false] 4) := (heap_setOther (by omega)).trans hr0
        have HS1 := hide (And.intro ((KO.refl W).set (j := 0) hn0 (.int .i64 ((s.1 : Int) + 1))).drew (And.intro ((Mv.refl w.heap.size sts2 (Value.slice none 0 0).ownBlock W).set (j := 0) hn0 (by decide) (by omega) (.int .i64 ((s.1 : Int) + 1))).drew (And.intro hj1 hr1)))
        have HS2 := hide (And.intro ((KO.refl W).set (j := 0) hr0 (.bool false)).drew ((Mv.refl w.heap.size sts2 (Value.slice none 0 0).ownBlock W).set (j := 0) hr0 (by decide) (by omega) (.bool false)).drew)
        have HX : Hid ((er = 0 → s.1 ≤ 1000000) ∧ (er ≠ 0 → x = ([], []))) := hide (And.intro hcap hxe)
        have hwrap : IntKind.i64.wrap ((s.1 : Int) + 1) = (s.1 : Int) + 1 := by simp [IntKind.wrap, IntKind.bits, IntKind.signed]; omega
        clear hs2 hsb hg0 hgr hn0 hm0 hr0 hcap hxe hx hbv hj1 hr1
        by_cases hn : s.1 < T.1.s.1.length
        · obtain ⟨bg, og, rfl, hbg, hcells⟩ := hcc (by intro e; rw [e] at hn; simp at hn)
          have d0 := hcells s.1 hn 0 _ rfl
          have d1 := hcells s.1 hn 1 _ rfl
          have hwr : wrong T.1.s.1 s.1 x = !(same1 x (T.1.s.1[s.1])) := by unfold wrong; rw [List.getElem?_eq_getElem hn]
          generalize T.1.s.1[s.1] = y at d0 d1 hwr
          subst e1 e3
          have hn' : s.1 < gm := by rw [e2]; exact hn
          have q1 : decide ((s.1 : Int) < (gm : Int)) = true := by simpa using hn'
          have hnq : ∀ W, _ := fun W => neqPair W x y
          have HWR := hide hwr
          try simp only [Nat.add_zero] at d0 d1
          clear hcells hcc hwr e2 hn hbg
          gi_wp2_with fail
          refine wp_region_round (S := fun W' => W'.cell? ⟨W2.heap.size, 0, none⟩ = some (.int .i64 s.1) ∧ W'.cell? ⟨w5.heap.size, 0, none⟩ = some (.slice (some ⟨bg, og, none⟩) gm gc) ∧ W'.cell? ⟨b, 0, none⟩ = some (.string (strB x.1)) ∧ W'.cell? ⟨b, 1, none⟩ = some (.string (strB x.2)) ∧ W'.cell? ⟨bg, og + s.1 * 2, none⟩ = some (.string (strB y.1)) ∧ W'.cell? ⟨bg, og + s.1 * 2 + 1, none⟩ = some (.string (strB y.2))) (by kernel_rfl) (by kernel_rfl) (by rintro ⟨a9, w9, h9⟩; exact cnt_no h9) (⟨c1, c0, x0, x1, d0, d1⟩) (fun hHeld => ?_)
          refine takeJ 0 (v := ?_) ?_ hHeld ?_
          rotate_left
          · rintro w ⟨_, _, _, _, _, _⟩; go_simp; try with_reducible rfl
          refine takeJ 1 (v := ?_) ?_ hHeld ?_
          rotate_left
          · rintro w ⟨_, _, _, _, _, _⟩; go_simp; try with_reducible rfl
          refine takeJ 2 (v := ?_) ?_ hHeld ?_
          rotate_left
          · rintro w ⟨_, _, _, _, _, _⟩; go_simp; try with_reducible rfl
          refine takeJ 3 (v := ?_) ?_ hHeld ?_
          rotate_left
          · rintro w ⟨_, _, _, _, _, _⟩; go_simp; try with_reducible rfl
          refine takeJ 4 (v := ?_) ?_ hHeld ?_
          rotate_left
          · rintro w ⟨_, _, _, _, _, _⟩; go_simp; try with_reducible rfl
          refine takeJ 5 (v := ?_) ?_ hHeld ?_
          rotate_left
          · rintro w ⟨_, _, _, _, _, _⟩; go_simp; try with_reducible rfl
          refine takeJ 6 (v := ?_) ?_ hHeld ?_
          rotate_left
          · rintro w ⟨_, _, _, _, _, _⟩; go_simp; try with_reducible rfl
          refine takeJ 7 (v := ?_) ?_ hHeld ?_
          rotate_left
          · rintro w ⟨_, _, _, _, _, _⟩; go_simp; try with_reducible rfl
          refine takeJ 8 (v := ?_) ?_ hHeld ?_
          rotate_left
          · rintro w ⟨_, _, _, _, _, _⟩; go_simp; try with_reducible rfl
          refine takeJ 9 (v := ?_) ?_ hHeld ?_
          rotate_left
          · rintro w ⟨_, _, _, _, _, _⟩; go_simp; try with_reducible rfl
          refine takeJ 10 (v := ?_) ?_ hHeld ?_
          rotate_left
          · rintro w ⟨_, _, _, _, _, _⟩; go_simp; try with_reducible rfl
          refine takeJ 11 (v := ?_) ?_ hHeld ?_
          rotate_left
          · rintro w ⟨_, _, _, _, _, _⟩; go_simp; try with_reducible rfl
          refine wpAnyH_done (by kernel_rfl) ?_ _
          clear hHeld hnq
          by_cases hsm : same1 x y = true
          · rw [hsm]
            have HWF : Hid (wrong T.1.s.1 s.1 x = false) := hide (by rw [HWR.out, hsm]; rfl)
            by_cases hmost : (s.1 : Int) + 1 < most
            · have q3 : decide (most ≤ (s.1 : Int) + 1) = false := by simp; omega
              gi_wp2
              exact cnt_normal HS1.out.1 HS1.out.2.1 HWF.out (by omega) HX.out.1 HS1.out.2.2.1 HS1.out.2.2.2
            · have q3 : decide (most ≤ (s.1 : Int) + 1) = true := by simp; omega
              gi_wp2
              exact cnt_exit HS1.out.1 HS1.out.2.1 HWF.out HX.out.2 (by omega) HS1.out.2.2.2
          · have hsm' : same1 x y = false := by simpa using hsm
            rw [hsm']
            have HWF : Hid (wrong T.1.s.1 s.1 x = true) := hide (by rw [HWR.out, hsm']; rfl)
            gi_wp2
            exact cnt_ret HS2.out.1 HS2.out.2 HWF.out HX.out.2
        · have q1 : decide ((s.1 : Int) < (gm : Int)) = false := by rw [e2]; simpa using hn
          have q2 : decide (s.1 < gm) = false := by rw [e2]; simpa using hn
          have HWF : Hid (wrong T.1.s.1 s.1 x = false) := hide (by unfold wrong; rw [List.getElem?_eq_none (by omega)])
          clear hcc e1 e2 e3 hn
          gi_wp2_with fail
          refine wp_region_round (S := fun W' => W'.cell? ⟨W2.heap.size, 0, none⟩ = some (.int .i64 s.1) ∧ W'.cell? ⟨w5.heap.size, 0, none⟩ = some (.slice ga gm gc)) (by kernel_rfl) (by kernel_rfl) (by rintro ⟨a9, w9, h9⟩; exact cnt_no h9) (⟨c1, c0⟩) (fun hHeld => ?_)
          refine takeJ 0 (v := ?_) ?_ hHeld ?_
          rotate_left
          · rintro w ⟨_, _⟩; go_simp; try with_reducible rfl
          refine takeJ 1 (v := ?_) ?_ hHeld ?_
          rotate_left
          · rintro w ⟨_, _⟩; go_simp; try with_reducible rfl
          refine takeJ 2 (v := ?_) ?_ hHeld ?_
          rotate_left
          · rintro w ⟨_, _⟩; go_simp; try with_reducible rfl
          refine takeJ 3 (v := ?_) ?_ hHeld ?_
          rotate_left
          · rintro w ⟨_, _⟩; go_simp; try with_reducible rfl
          refine takeJ 4 (v := ?_) ?_ hHeld ?_
          rotate_left
          · rintro w ⟨_, _⟩; go_simp; try with_reducible rfl
          refine skipH (i := 5) rfl (by kernel_rfl) (by kernel_rfl) (by kernel_rfl) (fun _ _ _ h => h) rfl hHeld ?_
          try simp only [Act.put, List.setIfInBounds_toArray, List.set_cons_zero, List.set_cons_succ]
          refine skipH (i := 6) rfl (by kernel_rfl) (by kernel_rfl) (by kernel_rfl) (fun _ _ _ h => h) rfl hHeld ?_
          try simp only [Act.put, List.setIfInBounds_toArray, List.set_cons_zero, List.set_cons_succ]
          refine skipH (i := 7) rfl (by kernel_rfl) (by kernel_rfl) (by kernel_rfl) (fun _ _ _ h => h) rfl hHeld ?_
          try simp only [Act.put, List.setIfInBounds_toArray, List.set_cons_zero, List.set_cons_succ]
          refine skipH (i := 8) rfl (by kernel_rfl) (by kernel_rfl) (by kernel_rfl) (fun _ _ _ h => h) rfl hHeld ?_
          try simp only [Act.put, List.setIfInBounds_toArray, List.set_cons_zero, List.set_cons_succ]
          refine skipH (i := 9) rfl (by kernel_rfl) (by kernel_rfl) (by kernel_rfl) (fun _ _ _ h => h) rfl hHeld ?_
          try simp only [Act.put, List.setIfInBounds_toArray, List.set_cons_zero, List.set_cons_succ]
          refine skipH (i := 10) rfl (by kernel_rfl) (by kernel_rfl) (by kernel_rfl) (fun _ _ _ h => h) rfl hHeld ?_
          try simp only [Act.put, List.setIfInBounds_toArray, List.set_cons_zero, List.set_cons_succ]
          refine takeJ 11 (v := ?_) ?_ hHeld ?_
          rotate_left
          · rintro w ⟨_, _⟩; go_simp; try with_reducible rfl
          refine wpAnyH_done (by kernel_rfl) ?_ _
          clear hHeld
          by_cases hmost : (s.1 : Int) + 1 < most
          · have q3 : decide (most ≤ (s.1 : Int) + 1) = false := by simp; omega
            gi_wp2
            exact cnt_normal HS1.out.1 HS1.out.2.1 HWF.out (by omega) HX.out.1 HS1.out.2.2.1 HS1.out.2.2.2
          · have q3 : decide (most ≤ (s.1 : Int) + 1) = true := by simp; omega
            gi_wp2
            exact cnt_exit HS1.out.1 HS1.out.2.1 HWF.out HX.out.2 (by omega) HS1.out.2.2.2
      case all =>
        rintro D2 W3 v3 hD2 hc3 hX3 hK3 hold
        have hr3 : W3.heap[w.heap.size + 1]? = some (.cells #[.bool false] 4) := by
          rcases hc3 with ⟨-, h⟩ | ⟨-, h⟩
          · exact h.2.2.2.2
          · exact h
        clear hc3
        have hl3 : w.heap.size + 1 ≠ w1.heap.size := by omega
        obtain ⟨vq, hvq, hvr, hvk⟩ := hX3.1.row
        have hids := HK.out W3 fun p hp => (hvk p (List.mem_cons_of_mem _ hp)).1
        obtain ⟨aq, mq, cq, rfl⟩ := row_form hvr
        have hl1 := ls_of_own idC_length hvr
        have hmq : mq = T2.1.asked.length := by obtain ⟨_, _, e, -⟩ := hl1; injection e
        have hpre : L.asked.take mq = T2.1.asked := by rw [hmq, HS.out.1.1]; exact (List.prefix_iff_eq_take.1 HST.out.2).symm
        have hml : mq ≤ L.asked.length := by rw [hmq, HS.out.1.1]; exact HST.out.2.length_le
        have hl2 := (ls_of_own idC_length hids).takeL hml
        rw [hpre] at hl2
        have him : mq ≤ im ∧ im ≤ ic := by
          obtain ⟨_, _, e, h1, -⟩ := ls_of_own idC_length hids
          injection e with e1 e2 e3
          subst e1 e3
          omega
        have hsm := same_ids W3.drew _ _ T2.1.asked T2.1.asked hl1 hl2
        rw [decide_eq_true (rfl : T2.1.asked = T2.1.asked)] at hsm
        have c0 := cell_of_row W3 w1.heap.size 0 _ _ _ hvq
        simp only [List.getElem?_toArray, List.getElem?_cons_zero] at c0
        have HE := hide (And.intro hX3.2 (And.intro hK3 (And.intro (hold (D, .deferred (some [])) (by simp)) (And.intro hr3 hvq))))
        have hq1 : decide ((mq : Int) ≤ (im : Int)) = true := by simpa using him.1
        have hq2 : mq ≤ ic := by omega
        have hq3 := him.1
        clear hX3 hK3 hold hr3 hvq hvr hvk hids hl1 hl2 hpre hml hmq him
        gi_wp2_with fail
        refine wpIn_wide.2 (wp_calm ?_)
        refine wp_region_held_drew (S := fun W' => W'.cell? ⟨w1.heap.size, 0, none⟩ = some (.slice aq mq cq)) (by kernel_rfl) (c0) (fun hHeld => ?_)
        refine takeJ 0 (v := ?_) ?_ hHeld ?_
        rotate_left
        · intro w hS; (try dsimp only at hS); go_simp; try with_reducible rfl
        refine takeJ 1 (v := ?_) ?_ hHeld ?_
        rotate_left
        · intro w hS; (try dsimp only at hS); go_simp; try with_reducible rfl
        refine takeJ 2 (v := ?_) ?_ hHeld ?_
        rotate_left
        · intro w hS; (try dsimp only at hS); go_simp; try with_reducible rfl
        refine takeJ 3 (v := ?_) ?_ hHeld ?_
        rotate_left
        · intro w hS; (try dsimp only at hS); go_simp; try with_reducible rfl
        refine takeJ 4 (v := ?_) ?_ hHeld ?_
        rotate_left
        · intro w hS; (try dsimp only at hS); go_simp; try with_reducible rfl
        refine takeJ 5 (v := ?_) ?_ hHeld ?_
        rotate_left
        · intro w hS; (try dsimp only at hS); go_simp; try with_reducible rfl
        refine takeJ 6 (v := ?_) ?_ hHeld ?_
        rotate_left
        · intro w hS; (try dsimp only at hS); go_simp; try with_reducible rfl
        refine takeJ 7 (v := ?_) ?_ hHeld ?_
        rotate_left
        · intro w hS; (try dsimp only at hS); go_simp; try with_reducible rfl
        refine takeJ 8 (v := ?_) ?_ hHeld ?_
        rotate_left
        · intro w hS; (try dsimp only at hS); go_simp; try with_reducible rfl
        refine takeJ 9 (v := ?_) ?_ hHeld ?_
        rotate_left
        · intro w hS; (try dsimp only at hS); go_simp; try with_reducible rfl
        refine takeJ 10 (v := ?_) ?_ hHeld ?_
        rotate_left
        · intro w hS; (try dsimp only at hS); go_simp; try with_reducible rfl
        refine takeJ 11 (v := ?_) ?_ hHeld ?_
        rotate_left
        · intro w hS; (try dsimp only at hS); go_simp; try with_reducible rfl
        refine takeJ 12 (v := ?_) ?_ hHeld ?_
        rotate_left
        · intro w hS; (try dsimp only at hS); go_simp; try with_reducible rfl
        refine takeJ 13 (v := ?_) ?_ hHeld ?_
        rotate_left
        · intro w hS; (try dsimp only at hS); go_simp; try with_reducible rfl
        refine onlyH (i := 14) rfl (by kernel_rfl) rfl (fun K hK => ?_)
        go_simp
        refine hsm.mono ?_
        rintro e W4 ⟨rfl, hb4⟩
        have hq4 := (hb4.block _ (lt_of_heap HE.out.2.2.2.2)).trans HE.out.2.2.2.2
        have hr4 := (hb4.block _ (lt_of_heap HE.out.2.2.2.1)).trans HE.out.2.2.2.1
        have k0 := cell_of_row W4 w1.heap.size 0 _ _ _ hq4
        have r0 := cell_of_row W4 (w.heap.size + 1) 0 _ _ _ hr4
        simp only [List.getElem?_toArray, List.getElem?_cons_zero] at k0 r0
        have r1 := frozen0 (j := 0) hr4
        have k1 : (W4.setCell ⟨w.heap.size + 1, 0, none⟩ (.bool true)).cell? ⟨w1.heap.size, 0, none⟩ = some (.slice aq mq cq) := (World.cell?_setCell_far _ _ _ _ hl3).trans k0
        clear hsm
        refine hK.out _ _ (k0) (fun hHeld => ?_)
        clear hK K
        try simp only [Act.put, List.setIfInBounds_toArray, List.set_cons_zero, List.set_cons_succ]
        refine takeJ 15 (v := ?_) ?_ hHeld ?_
        rotate_left
        · intro w hS; (try dsimp only at hS); go_simp; try with_reducible rfl
        refine onlyH (i := 16) rfl (by kernel_rfl) rfl (fun K hK => ?_)
        go_simp
        refine hK.out _ _ (k1) (fun hHeld => ?_)
        clear hK K
        try simp only [Act.put, List.setIfInBounds_toArray, List.set_cons_zero, List.set_cons_succ]
        refine wpAnyH_done (by kernel_rfl) ?_ _
        clear hHeld
        gi_wp2
        have hk4 := (hb4.block _ (lt_of_heap HE.out.2.1)).trans HE.out.2.1
        have hd4 := (hb4.block _ (lt_of_heap HE.out.2.2.1)).trans HE.out.2.2.1
        have hKO : KO W4 (W4.setCell ⟨w.heap.size + 1, 0, none⟩ (.bool true)) := (KO.refl W4).set (j := 0) hr4 (.bool true)
        have hk5 := hKO _ _ hk4 rfl
        have hd5 := hKO _ _ hd4 rfl
        have hD8 := lt_of_heap H8.out.2.2.2.2.2.1
        have hm5 : Mv w.heap.size sts2 none W4 (W4.setCell ⟨w.heap.size + 1, 0, none⟩ (.bool true)) := (Mv.refl _ _ _ W4).set (j := 0) hr4 (by decide) (by omega) _
        have hr5 : (W4.setCell ⟨w.heap.size + 1, 0, none⟩ (.bool true)).heap[w.heap.size + 1]? = some (.cells #[.bool true] 4) := by
          rw [heap_setCell _ _ _ _ _ _ _ hr4]
          simp
        have hp1 := Mv.put (B := w.heap.size) (ts := []) (r := none) (o' := .deferred none) hk5 rfl (by omega)
        have hd6 := (World.putObj_heap_other (o := .deferred none) (show D ≠ D2 by omega)).trans hd5
        have hp2 := Mv.put (B := w.heap.size) (ts := []) (r := none) (o' := .deferred none) hd6 rfl (by omega)
        have z0 := cell_of_row _ (w.heap.size + 1) 0 _ _ _ (hp2.k _ _ _ _ (hp1.k _ _ _ _ hr5 (by simp) (by simp)) (by simp) (by simp))
        simp only [List.getElem?_toArray, List.getElem?_cons_zero] at z0
        refine ⟨by simp, .inl ⟨_, _, rfl, run_takeDeferred hk5, by simp, .inl ⟨_, _, rfl, run_takeDeferred hd6, ?_⟩⟩⟩
        refine ⟨.bool true, ?_, rfl, ((((H8.out.1.trans HE.out.1.b).drew.trans (hb4.mono (Nat.le_trans H8.out.1.size HE.out.1.size))).trans hm5.b).trans hp1.b).trans hp2.b⟩
        simp [results, Tryz.f7, go_sem, z0]
      case left =>
        rintro D2 W3 v3 hD2 hTf hc3 hX3 hK3 hold
        have hr3 : W3.heap[w.heap.size + 1]? = some (.cells #[.bool false] 4) := hc3 HST.out.1
        have hlv : leaveC ((fun s : Nat × Bool => if s.2 then none else some 2) T2.1.s) = Code.exit 2 := by
          show leaveC (if T2.1.s.2 then none else some 2) = _
          rw [HST.out.1]
          rfl
        rw [hlv]
        clear hc3 hTf hlv
        have hl3 : w.heap.size + 1 ≠ w1.heap.size := by omega
        obtain ⟨vq, hvq, hvr, hvk⟩ := hX3.1.row
        have hids := HK.out W3 fun p hp => (hvk p (List.mem_cons_of_mem _ hp)).1
        obtain ⟨aq, mq, cq, rfl⟩ := row_form hvr
        have hl1 := ls_of_own idC_length hvr
        have hmq : mq = T2.1.asked.length := by obtain ⟨_, _, e, -⟩ := hl1; injection e
        have hpre : L.asked.take mq = T2.1.asked := by rw [hmq, HS.out.1.1]; exact (List.prefix_iff_eq_take.1 HST.out.2).symm
        have hml : mq ≤ L.asked.length := by rw [hmq, HS.out.1.1]; exact HST.out.2.length_le
        have hl2 := (ls_of_own idC_length hids).takeL hml
        rw [hpre] at hl2
        have him : mq ≤ im ∧ im ≤ ic := by
          obtain ⟨_, _, e, h1, -⟩ := ls_of_own idC_length hids
          injection e with e1 e2 e3
          subst e1 e3
          omega
        have hsm := same_ids W3.drew _ _ T2.1.asked T2.1.asked hl1 hl2
        rw [decide_eq_true (rfl : T2.1.asked = T2.1.asked)] at hsm
        have c0 := cell_of_row W3 w1.heap.size 0 _ _ _ hvq
        simp only [List.getElem?_toArray, List.getElem?_cons_zero] at c0
        have HE := hide (And.intro hX3.2 (And.intro hK3 (And.intro (hold (D, .deferred (some [])) (by simp)) (And.intro hr3 hvq))))
        have hq1 : decide ((mq : Int) ≤ (im : Int)) = true := by simpa using him.1
        have hq2 : mq ≤ ic := by omega
        have hq3 := him.1
        clear hX3 hK3 hold hr3 hvq hvr hvk hids hl1 hl2 hpre hml hmq him
        gi_wp2_with fail
        refine wpIn_wide.2 (wp_calm ?_)
        refine wp_region_held_drew (S := fun W' => W'.cell? ⟨w1.heap.size, 0, none⟩ = some (.slice aq mq cq)) (by kernel_rfl) (c0) (fun hHeld => ?_)
        refine takeJ 0 (v := ?_) ?_ hHeld ?_
        rotate_left
        · intro w hS; (try dsimp only at hS); go_simp; try with_reducible rfl
        refine takeJ 1 (v := ?_) ?_ hHeld ?_
        rotate_left
        · intro w hS; (try dsimp only at hS); go_simp; try with_reducible rfl
        refine takeJ 2 (v := ?_) ?_ hHeld ?_
        rotate_left
        · intro w hS; (try dsimp only at hS); go_simp; try with_reducible rfl
        refine takeJ 3 (v := ?_) ?_ hHeld ?_
        rotate_left
        · intro w hS; (try dsimp only at hS); go_simp; try with_reducible rfl
        refine takeJ 4 (v := ?_) ?_ hHeld ?_
        rotate_left
        · intro w hS; (try dsimp only at hS); go_simp; try with_reducible rfl
        refine takeJ 5 (v := ?_) ?_ hHeld ?_
        rotate_left
        · intro w hS; (try dsimp only at hS); go_simp; try with_reducible rfl
        refine takeJ 6 (v := ?_) ?_ hHeld ?_
        rotate_left
        · intro w hS; (try dsimp only at hS); go_simp; try with_reducible rfl
        refine takeJ 7 (v := ?_) ?_ hHeld ?_
        rotate_left
        · intro w hS; (try dsimp only at hS); go_simp; try with_reducible rfl
        refine takeJ 8 (v := ?_) ?_ hHeld ?_
        rotate_left
        · intro w hS; (try dsimp only at hS); go_simp; try with_reducible rfl
        refine takeJ 9 (v := ?_) ?_ hHeld ?_
        rotate_left
        · intro w hS; (try dsimp only at hS); go_simp; try with_reducible rfl
        refine takeJ 10 (v := ?_) ?_ hHeld ?_
        rotate_left
        · intro w hS; (try dsimp only at hS); go_simp; try with_reducible rfl
        refine takeJ 11 (v := ?_) ?_ hHeld ?_
        rotate_left
        · intro w hS; (try dsimp only at hS); go_simp; try with_reducible rfl
        refine takeJ 12 (v := ?_) ?_ hHeld ?_
        rotate_left
        · intro w hS; (try dsimp only at hS); go_simp; try with_reducible rfl
        refine takeJ 13 (v := ?_) ?_ hHeld ?_
        rotate_left
        · intro w hS; (try dsimp only at hS); go_simp; try with_reducible rfl
        refine onlyH (i := 14) rfl (by kernel_rfl) rfl (fun K hK => ?_)
        go_simp
        refine hsm.mono ?_
        rintro e W4 ⟨rfl, hb4⟩
        have hq4 := (hb4.block _ (lt_of_heap HE.out.2.2.2.2)).trans HE.out.2.2.2.2
        have hr4 := (hb4.block _ (lt_of_heap HE.out.2.2.2.1)).trans HE.out.2.2.2.1
        have k0 := cell_of_row W4 w1.heap.size 0 _ _ _ hq4
        have r0 := cell_of_row W4 (w.heap.size + 1) 0 _ _ _ hr4
        simp only [List.getElem?_toArray, List.getElem?_cons_zero] at k0 r0
        have r1 := frozen0 (j := 0) hr4
        have k1 : (W4.setCell ⟨w.heap.size + 1, 0, none⟩ (.bool true)).cell? ⟨w1.heap.size, 0, none⟩ = some (.slice aq mq cq) := (World.cell?_setCell_far _ _ _ _ hl3).trans k0
        clear hsm
        refine hK.out _ _ (k0) (fun hHeld => ?_)
        clear hK K
        try simp only [Act.put, List.setIfInBounds_toArray, List.set_cons_zero, List.set_cons_succ]
        refine takeJ 15 (v := ?_) ?_ hHeld ?_
        rotate_left
        · intro w hS; (try dsimp only at hS); go_simp; try with_reducible rfl
        refine onlyH (i := 16) rfl (by kernel_rfl) rfl (fun K hK => ?_)
        go_simp
        refine hK.out _ _ (k1) (fun hHeld => ?_)
        clear hK K
        try simp only [Act.put, List.setIfInBounds_toArray, List.set_cons_zero, List.set_cons_succ]
        refine wpAnyH_done (by kernel_rfl) ?_ _
        clear hHeld
        gi_wp2
        have hk4 := (hb4.block _ (lt_of_heap HE.out.2.1)).trans HE.out.2.1
        have hd4 := (hb4.block _ (lt_of_heap HE.out.2.2.1)).trans HE.out.2.2.1
        have hKO : KO W4 (W4.setCell ⟨w.heap.size + 1, 0, none⟩ (.bool true)) := (KO.refl W4).set (j := 0) hr4 (.bool true)
        have hk5 := hKO _ _ hk4 rfl
        have hd5 := hKO _ _ hd4 rfl
        have hD8 := lt_of_heap H8.out.2.2.2.2.2.1
        have hm5 : Mv w.heap.size sts2 none W4 (W4.setCell ⟨w.heap.size + 1, 0, none⟩ (.bool true)) := (Mv.refl _ _ _ W4).set (j := 0) hr4 (by decide) (by omega) _
        have hr5 : (W4.setCell ⟨w.heap.size + 1, 0, none⟩ (.bool true)).heap[w.heap.size + 1]? = some (.cells #[.bool true] 4) := by
          rw [heap_setCell _ _ _ _ _ _ _ hr4]
          simp
        have hp1 := Mv.put (B := w.heap.size) (ts := []) (r := none) (o' := .deferred none) hk5 rfl (by omega)
        have hd6 := (World.putObj_heap_other (o := .deferred none) (show D ≠ D2 by omega)).trans hd5
        have hp2 := Mv.put (B := w.heap.size) (ts := []) (r := none) (o' := .deferred none) hd6 rfl (by omega)
        have z0 := cell_of_row _ (w.heap.size + 1) 0 _ _ _ (hp2.k _ _ _ _ (hp1.k _ _ _ _ hr5 (by simp) (by simp)) (by simp) (by simp))
        simp only [List.getElem?_toArray, List.getElem?_cons_zero] at z0
        refine ⟨by simp, .inl ⟨_, _, rfl, run_takeDeferred hk5, by simp, .inl ⟨_, _, rfl, run_takeDeferred hd6, ?_⟩⟩⟩
        refine ⟨.bool true, ?_, rfl, ((((H8.out.1.trans HE.out.1.b).drew.trans (hb4.mono (Nat.le_trans H8.out.1.size HE.out.1.size))).trans hm5.b).trans hp1.b).trans hp2.b⟩
        simp [results, Tryz.f7, go_sem, z0]
    · have q2 : (L.bad == 0) = false := by simpa using hz
      have hh2 := (hb1.block _ (lt_of_heap HW.out.2.2.2.2.2.1)).trans HW.out.2.2.2.2.2.1
      have e3 := frozen0 (j := 0) hh2
      have e2 := cell_of_row W1 w1.heap.size 0 _ _ _ hh2
      simp only [List.getElem?_toArray, List.getElem?_cons_zero] at e2
      clear c0 c1 c2
      gi_wp2
      refine ⟨trivial, ?_⟩
      gi_wp2
      have hAk := (HW.out.2.2.2.1.below hb1).renew
      have hmk := (hb1.block _ (lt_of_heap (HW.out.2.2.2.2.1.k _ _ _ _ H7.out.2.2.1 (by decide) (by simp)))).trans (HW.out.2.2.2.2.1.k _ _ _ _ H7.out.2.2.1 (by decide) (by simp))
      have hrk := (hb1.block _ (lt_of_heap (HW.out.2.2.2.2.1.k _ _ _ _ H7.out.2.2.2.1 (by decide) (by simp)))).trans (HW.out.2.2.2.2.1.k _ _ _ _ H7.out.2.2.2.1 (by decide) (by simp))
      have hck := (hb1.block _ (lt_of_heap (HW.out.2.2.2.2.1.k _ _ _ _ H7.out.2.2.2.2.1 (by decide) (by simp)))).trans (HW.out.2.2.2.2.1.k _ _ _ _ H7.out.2.2.2.2.1 (by decide) (by simp))
      have hpk := (hb1.block _ (lt_of_heap (HW.out.2.2.2.2.1.k _ _ _ _ H7.out.2.2.2.2.2.2.1 (by decide) (by simp)))).trans (HW.out.2.2.2.2.1.k _ _ _ _ H7.out.2.2.2.2.2.2.1 (by decide) (by simp))
      have hgk := (hb1.block _ (lt_of_heap HW.out.1)).trans HW.out.1
      have hDk := (hb1.block _ (lt_of_heap HW.out.2.2.2.2.2.2.2.2)).trans HW.out.2.2.2.2.2.2.2.2
      have hok := own_below HW.out.2.2.1 hb1
      have hMk : Mv w.heap.size [32] none W1 (W1.setCell ⟨w1.heap.size, 0, none⟩ (.slice none 0 0)) := (Mv.refl _ _ none W1).set hh2 (by simp) (by omega) _
      have hsk : (W1.setCell ⟨w1.heap.size, 0, none⟩ (.slice none 0 0)).heap.size = W1.heap.size := by simp
      have hDs := (KO.refl W1).set (j := 0) hh2 (.slice none 0 0) D _ hDk rfl
      obtain ⟨V, hV⟩ : ∃ V, W1.setCell ⟨w1.heap.size, 0, none⟩ (.slice none 0 0) = V := ⟨_, rfl⟩
      rw [hV] at hAk hMk hsk hDs ⊢
      have hbV : Below V.heap.size V (V.alloc (.cells #[.int .i64 0] 3)) := (Below.refl _ _).alloc (Nat.le_refl _) _
      have hnV := heap_last V (.cells #[.int .i64 0] 3) _ rfl
      have upk := fun {k : Nat} {cs : Array Value} {tt : TypeId} {fr : Nat × Nat} (h : W1.heap[k]? = some (.cells cs tt fr)) (ht : tt ∉ [32]) => (hbV.block k (lt_of_heap (hMk.k _ _ _ _ h ht (by simp)))).trans (hMk.k _ _ _ _ h ht (by simp))
      have hA8 := hAk.below hbV
      have hG2 := get_askK ((c + 1, #[.string (strB root)], (0, 0)) :: ks) kts2 (by decide) (by decide) (by decide) (by decide) (by decide) w.heap.size (w1.heap.size + 1 + 1) (w1.heap.size + 1) w1.heap.size objs HO.out
      have hro8 := own_below (hMk.own0 hok (by decide)) hbV
      obtain ⟨v8, h81, -, h83⟩ := hA8.row
      have hB8 : Below w.heap.size w (V.alloc (.cells #[.int .i64 0] 3)) := (((H7.out.1.trans HW.out.2.2.2.2.1.b).trans (hb1.mono (by have := HW.out.2.2.2.2.1.size; omega))).trans hMk.b).trans (hbV.mono (by have := hb1.size; have := HW.out.2.2.2.2.1.size; omega))
      have J8 : CntJ0 w5.heap.size W1.heap.size w.heap.size (w.heap.size + 1) (.slice ga gm gc) T.1.s.1 most (.slice none 0 0) (0, false) (V.alloc (.cells #[.int .i64 0] 3)) := ⟨rfl, rfl, by simp, ⟨upk hgk (by decide), hro8, by rw [← hsk]; exact hnV, upk hmk (by decide)⟩, upk hrk (by decide)⟩
      have H8 := hide (And.intro hB8 (And.intro hA8 (And.intro (upk hck (by decide)) (And.intro (upk hpk (by decide)) (And.intro (h83 _ (List.mem_cons_self ..)).1 (And.intro ((hbV.block _ (lt_of_heap hDs)).trans hDs) J8))))))
      have HG2 := hide hG2
      have hNB : w.heap.size + 1 < W1.heap.size ∧ w5.heap.size < W1.heap.size := by have := hb1.size; have := HW.out.2.2.2.2.1.size; have := lt_of_heap HW.out.1; omega
      have hs8 : w.heap.size ≤ V.heap.size := by have := hb1.size; have := HW.out.2.2.2.2.1.size; omega
      generalize V.alloc (.cells #[.int .i64 0] 3) = w8 at *
      obtain ⟨T2, hT2⟩ : ∃ T2, goT (stopSink T.1.s.1 most) (findO objs) lo [] 21 (rootK root) (-1) ⟨[], [], (0, false)⟩ = T2 := ⟨_, rfl⟩
      have HT2 := hide hT2
      have hst := HS.out.2
      rw [hT2] at hst
      have HST := hide hst
      have hsz8 := hB8.size
      clear hAk hmk hrk hck hpk hgk hDk hok hMk hDs hV hbV hnV upk hA8 hG2 hro8 h81 h83 hB8 J8 hT2 hst hh2 e2 e3
      refine wp_told (σ := Nat × Bool) rfl rfl (enters_own Tryz.func61 (by kernel_rfl) rfl) (stopSink T.1.s.1 most) w.heap.size sts2 (by omega) (CntJ0 w5.heap.size W1.heap.size w.heap.size (w.heap.size + 1) (.slice ga gm gc) T.1.s.1 most) (CntN (w.heap.size + 1)) (CntC (w.heap.size + 1)) (fun s => if s.2 then none else some 2)
        (fun h hm => h.mv hm (by decide) (by decide) (by decide) (by decide)) (fun h hm => hm.k _ _ _ _ h (by simp) (by simp)) (fun h hm e => hm.k _ _ _ _ (h e) (by simp) (by simp))
        (fun h hb => by rw [h.1] at hb; cases hb) (by decide) [(D, .deferred (some []))] (by simpa using ⟨H8.out.2.2.2.2.2.1, rfl⟩)
        (fun b x er => { tmps := #[Value.slice ao m cap, Value.string (strB root), Value.string (strB lo), Value.int IntKind.i64 most, undef, undef, undef, Value.pointer (some ⟨w.heap.size, 0, none⟩), Value.pointer (some ⟨w.heap.size + 1, 0, none⟩), Value.bool true, Value.pointer (some ⟨w1.heap.size, 0, none⟩), Value.func (Fn.func 61) #[] #[Value.pointer (some { block := c, off := 0 }), Value.pointer (some { block := c + 2, off := 0 }), Value.pointer (some { block := c + 1, off := 0 })], Value.slice wa wm wc, Value.slice ia im ic, Value.int IntKind.i64 L.bad, Value.pointer (some ⟨w5.heap.size, 0, none⟩), Value.pointer (some ⟨w5.heap.size + 1, 0, none⟩), undef, undef, Value.pointer (some ⟨W1.heap.size, 0, none⟩), Value.pointer (some ⟨b, 0, none⟩), Value.bool true, Value.slice ao m cap, Value.func (Fn.func 38) #[] #[Value.pointer (some { block := w1.heap.size + 1 + 1, off := 0 }), Value.pointer (some { block := w1.heap.size + 1, off := 0 })], Value.string (strB root), Value.string (strB lo), Value.func (Fn.func 61) #[] #[Value.pointer (some { block := c, off := 0 }), Value.pointer (some { block := c + 2, off := 0 }), Value.pointer (some { block := c + 1, off := 0 })], Value.func (Fn.func 61) #[] #[Value.pointer (some { block := c, off := 0 }), Value.pointer (some { block := c + 2, off := 0 }), Value.pointer (some { block := c + 1, off := 0 })], Value.bool false, Value.bool false, Value.slice none 0 0, Value.int IntKind.i64 0, Value.bool false, Value.bool false, Value.tuple #[Value.slice wa wm wc, Value.slice ia im ic, Value.int IntKind.i64 L.bad], Value.slice ao m cap, Value.string (strB root), Value.string (strB lo), Value.tuple #[Value.slice wa wm wc, Value.slice ia im ic, Value.int IntKind.i64 L.bad], Value.slice wa wm wc, Value.slice ia im ic, Value.int IntKind.i64 L.bad, Value.func (Fn.func 61) #[] #[Value.pointer (some { block := c, off := 0 }), Value.pointer (some { block := c + 2, off := 0 }), Value.pointer (some { block := c + 1, off := 0 })], undef, undef, undef, undef, undef, undef, undef, undef, undef, undef, undef, undef, undef, undef, undef, undef, undef, undef, undef, undef, Value.int IntKind.i64 L.bad, Value.int IntKind.i64 L.bad, Value.bool false, Value.bool false, Value.slice aa am ac, Value.slice ia im ic, Value.bool true, Value.bool false, Value.bool false, Value.bool false, Value.int IntKind.i64 L.bad, Value.bool false, Value.bool false, undef, undef, undef, undef, Value.bool false, Value.bool false, Value.func (Fn.func 61) #[] #[Value.pointer (some { block := c, off := 0 }), Value.pointer (some { block := c + 2, off := 0 }), Value.pointer (some { block := c + 1, off := 0 })], Value.agg #[Value.string (strB x.1), Value.string (strB x.2)], Value.int IntKind.i64 er, undef, undef, undef, undef, undef, undef, undef, undef, undef, undef, undef, undef, undef, undef, undef, undef, undef, undef, undef, undef, undef, undef, undef, undef, undef, undef, undef, undef, undef, undef, undef, undef, undef], defers := [] })
        ?assign ?body (.slice none 0 0) (0, false) H8.out.2.2.2.2.2.2 T2 (fun W => AskK ((c + 1, #[.string (strB root)], (0, 0)) :: ks) w.heap.size W (w1.heap.size + 1 + 1) (w1.heap.size + 1) w1.heap.size objs T2.1.asked ∧ Mv w.heap.size (gts sts2) none w8 W) (fun hX hm => ⟨hX.1.mv hm (by simp) (by simp) (by simp) (by simp), hX.2.trans (hm.types (by simp)) (Nx.refl _ _)⟩) ?iter ?all ?left
      case assign =>
        intro l x er W K hK
        gi_wp2
        exact hK
      case iter =>
        intro l J Jx W hY hJ hbW
        have hit := through1_any W l (stopSink T.1.s.1 most) _ _ (findO objs) w.heap.size sts2 kts2 J Jx hY _ HG2.out (by decide) c (c + 2) (c + 1) root lo [] [] (.slice none 0 0) (0, false) ((hbW.block _ (lt_of_heap H8.out.2.2.1)).trans H8.out.2.2.1) ((hbW.block _ (lt_of_heap H8.out.2.2.2.1)).trans H8.out.2.2.2.1) ((hbW.block _ (lt_of_heap H8.out.2.2.2.2.1)).trans H8.out.2.2.2.2.1) (by have := hbW.size; omega) hJ (HG2.out.below H8.out.2.1 hbW) (by simp) (by simp [stopSink])
        rw [HT2.out] at hit
        refine hit.mono ?_
        rintro e W' ⟨hx, v', h1, h2, h3, h4, h5⟩
        exact ⟨hx, v', h1, h2, h3, (Mv.of hbW (by omega)).trans h4 (Nx.refl _ _)⟩
      case body =>
        intro l b v s x er W hJ hx hbv hcap hxe
        obtain ⟨rfl, hs2, hsb, ⟨hg0, hgr, hn0, hm0⟩, hr0⟩ := hJ
        refine wpIn_mono (Q := fun e _ W' => CntP w5.heap.size W1.heap.size w.heap.size (w.heap.size + 1) (.slice ga gm gc) T.1.s.1 most w.heap.size W (.slice none 0 0) s x er e W') ?_ (fun _ _ _ h => h)
        have c0 := cell_of_row W w5.heap.size 0 _ _ _ hg0
        have c1 := cell_of_row W W1.heap.size 0 _ _ _ hn0
        have c2 := cell_of_row W w.heap.size 0 _ _ _ hm0
        have c3 := cell_of_row W (w.heap.size + 1) 0 _ _ _ hr0
        have x0 := cell_of_row W b 0 _ _ _ hx
        have x1 := cell_of_row W b 1 _ _ _ hx
        simp only [List.getElem?_toArray, List.getElem?_cons_zero, List.getElem?_cons_succ] at c0 c1 c2 c3 x0 x1
        have f1 := frozen0 (j := 0) hn0
        have f2 := frozen0 (j := 0) hr0
        obtain ⟨ga', gc', hgg, -, -, hcc⟩ := ls_of_own pairC_length hgr
        injection hgg with e1 e2 e3
        have hnb1 : W1.heap.size ≠ w.heap.size := by omega
        have hj1 : CntJ w5.heap.size W1.heap.size w.heap.size (.slice ga gm gc) T.1.s.1 most ((s.1 + 1 : Nat) : Int) ((W.setCell ⟨W1.heap.size, 0, none⟩ (.int .i64 ((s.1 : Int) + 1))).drew) := by
          refine ⟨(heap_setOther (by omega)).trans hg0, own_setCell hgr hn0 (by decide) _, ?_, (heap_setOther (by omega)).trans hm0⟩
          show (W.setCell ⟨W1.heap.size, 0, none⟩ (.int .i64 ((s.1 : Int) + 1))).heap[W1.heap.size]? = _
          rw [heap_setCell _ _ _ _ _ _ _ hn0]
          simp
        have hr1 : ((W.setCell ⟨W1.heap.size, 0, none⟩ (.int .i64 ((s.1 : Int) + 1))).drew).heap[w.heap.size + 1]? = some (.cells #[.bool false] 4) := (heap_setOther (by omega)).trans hr0
        have HS1 := hide (And.intro ((KO.refl W).set (j := 0) hn0 (.int .i64 ((s.1 : Int) + 1))).drew (And.intro ((Mv.refl w.heap.size sts2 (Value.slice none 0 0).ownBlock W).set (j := 0) hn0 (by decide) (by omega) (.int .i64 ((s.1 : Int) + 1))).drew (And.intro hj1 hr1)))
        have HS2 := hide (And.intro ((KO.refl W).set (j := 0) hr0 (.bool false)).drew ((Mv.refl w.heap.size sts2 (Value.slice none 0 0).ownBlock W).set (j := 0) hr0 (by decide) (by omega) (.bool false)).drew)
        have HX : Hid ((er = 0 → s.1 ≤ 1000000) ∧ (er ≠ 0 → x = ([], []))) := hide (And.intro hcap hxe)
        have hwrap : IntKind.i64.wrap ((s.1 : Int) + 1) = (s.1 : Int) + 1 := by simp [IntKind.wrap, IntKind.bits, IntKind.signed]; omega
        clear hs2 hsb hg0 hgr hn0 hm0 hr0 hcap hxe hx hbv hj1 hr1
        by_cases hn : s.1 < T.1.s.1.length
        · obtain ⟨bg, og, rfl, hbg, hcells⟩ := hcc (by intro e; rw [e] at hn; simp at hn)
          have d0 := hcells s.1 hn 0 _ rfl
          have d1 := hcells s.1 hn 1 _ rfl
          have hwr : wrong T.1.s.1 s.1 x = !(same1 x (T.1.s.1[s.1])) := by unfold wrong; rw [List.getElem?_eq_getElem hn]
          generalize T.1.s.1[s.1] = y at d0 d1 hwr
          subst e1 e3
          have hn' : s.1 < gm := by rw [e2]; exact hn
          have q1 : decide ((s.1 : Int) < (gm : Int)) = true := by simpa using hn'
          have hnq : ∀ W, _ := fun W => neqPair W x y
          have HWR := hide hwr
          try simp only [Nat.add_zero] at d0 d1
          clear hcells hcc hwr e2 hn hbg
          gi_wp2_with fail
          refine wp_region_round (S := fun W' => W'.cell? ⟨W1.heap.size, 0, none⟩ = some (.int .i64 s.1) ∧ W'.cell? ⟨w5.heap.size, 0, none⟩ = some (.slice (some ⟨bg, og, none⟩) gm gc) ∧ W'.cell? ⟨b, 0, none⟩ = some (.string (strB x.1)) ∧ W'.cell? ⟨b, 1, none⟩ = some (.string (strB x.2)) ∧ W'.cell? ⟨bg, og + s.1 * 2, none⟩ = some (.string (strB y.1)) ∧ W'.cell? ⟨bg, og + s.1 * 2 + 1, none⟩ = some (.string (strB y.2))) (by kernel_rfl) (by kernel_rfl) (by rintro ⟨a9, w9, h9⟩; exact cnt_no h9) (⟨c1, c0, x0, x1, d0, d1⟩) (fun hHeld => ?_)
          refine takeJ 0 (v := ?_) ?_ hHeld ?_
          rotate_left
          · rintro w ⟨_, _, _, _, _, _⟩; go_simp; try with_reducible rfl
          refine takeJ 1 (v := ?_) ?_ hHeld ?_
          rotate_left
          · rintro w ⟨_, _, _, _, _, _⟩; go_simp; try with_reducible rfl
          refine takeJ 2 (v := ?_) ?_ hHeld ?_
          rotate_left
          · rintro w ⟨_, _, _, _, _, _⟩; go_simp; try with_reducible rfl
          refine takeJ 3 (v := ?_) ?_ hHeld ?_
          rotate_left
          · rintro w ⟨_, _, _, _, _, _⟩; go_simp; try with_reducible rfl
          refine takeJ 4 (v := ?_) ?_ hHeld ?_
          rotate_left
          · rintro w ⟨_, _, _, _, _, _⟩; go_simp; try with_reducible rfl
          refine takeJ 5 (v := ?_) ?_ hHeld ?_
          rotate_left
          · rintro w ⟨_, _, _, _, _, _⟩; go_simp; try with_reducible rfl
          refine takeJ 6 (v := ?_) ?_ hHeld ?_
          rotate_left
          · rintro w ⟨_, _, _, _, _, _⟩; go_simp; try with_reducible rfl
          refine takeJ 7 (v := ?_) ?_ hHeld ?_
          rotate_left
          · rintro w ⟨_, _, _, _, _, _⟩; go_simp; try with_reducible rfl
          refine takeJ 8 (v := ?_) ?_ hHeld ?_
          rotate_left
          · rintro w ⟨_, _, _, _, _, _⟩; go_simp; try with_reducible rfl
          refine takeJ 9 (v := ?_) ?_ hHeld ?_
          rotate_left
          · rintro w ⟨_, _, _, _, _, _⟩; go_simp; try with_reducible rfl
          refine takeJ 10 (v := ?_) ?_ hHeld ?_
          rotate_left
          · rintro w ⟨_, _, _, _, _, _⟩; go_simp; try with_reducible rfl
          refine takeJ 11 (v := ?_) ?_ hHeld ?_
          rotate_left
          · rintro w ⟨_, _, _, _, _, _⟩; go_simp; try with_reducible rfl
          refine wpAnyH_done (by kernel_rfl) ?_ _
          clear hHeld hnq
          by_cases hsm : same1 x y = true
          · rw [hsm]
            have HWF : Hid (wrong T.1.s.1 s.1 x = false) := hide (by rw [HWR.out, hsm]; rfl)
            by_cases hmost : (s.1 : Int) + 1 < most
            · have q3 : decide (most ≤ (s.1 : Int) + 1) = false := by simp; omega
              gi_wp2
              exact cnt_normal HS1.out.1 HS1.out.2.1 HWF.out (by omega) HX.out.1 HS1.out.2.2.1 HS1.out.2.2.2
            · have q3 : decide (most ≤ (s.1 : Int) + 1) = true := by simp; omega
              gi_wp2
              exact cnt_exit HS1.out.1 HS1.out.2.1 HWF.out HX.out.2 (by omega) HS1.out.2.2.2
          · have hsm' : same1 x y = false := by simpa using hsm
            rw [hsm']
            have HWF : Hid (wrong T.1.s.1 s.1 x = true) := hide (by rw [HWR.out, hsm']; rfl)
            gi_wp2
            exact cnt_ret HS2.out.1 HS2.out.2 HWF.out HX.out.2
        · have q1 : decide ((s.1 : Int) < (gm : Int)) = false := by rw [e2]; simpa using hn
          have q2 : decide (s.1 < gm) = false := by rw [e2]; simpa using hn
          have HWF : Hid (wrong T.1.s.1 s.1 x = false) := hide (by unfold wrong; rw [List.getElem?_eq_none (by omega)])
          clear hcc e1 e2 e3 hn
          gi_wp2_with fail
          refine wp_region_round (S := fun W' => W'.cell? ⟨W1.heap.size, 0, none⟩ = some (.int .i64 s.1) ∧ W'.cell? ⟨w5.heap.size, 0, none⟩ = some (.slice ga gm gc)) (by kernel_rfl) (by kernel_rfl) (by rintro ⟨a9, w9, h9⟩; exact cnt_no h9) (⟨c1, c0⟩) (fun hHeld => ?_)
          refine takeJ 0 (v := ?_) ?_ hHeld ?_
          rotate_left
          · rintro w ⟨_, _⟩; go_simp; try with_reducible rfl
          refine takeJ 1 (v := ?_) ?_ hHeld ?_
          rotate_left
          · rintro w ⟨_, _⟩; go_simp; try with_reducible rfl
          refine takeJ 2 (v := ?_) ?_ hHeld ?_
          rotate_left
          · rintro w ⟨_, _⟩; go_simp; try with_reducible rfl
          refine takeJ 3 (v := ?_) ?_ hHeld ?_
          rotate_left
          · rintro w ⟨_, _⟩; go_simp; try with_reducible rfl
          refine takeJ 4 (v := ?_) ?_ hHeld ?_
          rotate_left
          · rintro w ⟨_, _⟩; go_simp; try with_reducible rfl
          refine skipH (i := 5) rfl (by kernel_rfl) (by kernel_rfl) (by kernel_rfl) (fun _ _ _ h => h) rfl hHeld ?_
          try simp only [Act.put, List.setIfInBounds_toArray, List.set_cons_zero, List.set_cons_succ]
          refine skipH (i := 6) rfl (by kernel_rfl) (by kernel_rfl) (by kernel_rfl) (fun _ _ _ h => h) rfl hHeld ?_
          try simp only [Act.put, List.setIfInBounds_toArray, List.set_cons_zero, List.set_cons_succ]
          refine skipH (i := 7) rfl (by kernel_rfl) (by kernel_rfl) (by kernel_rfl) (fun _ _ _ h => h) rfl hHeld ?_
          try simp only [Act.put, List.setIfInBounds_toArray, List.set_cons_zero, List.set_cons_succ]
          refine skipH (i := 8) rfl (by kernel_rfl) (by kernel_rfl) (by kernel_rfl) (fun _ _ _ h => h) rfl hHeld ?_
          try simp only [Act.put, List.setIfInBounds_toArray, List.set_cons_zero, List.set_cons_succ]
          refine skipH (i := 9) rfl (by kernel_rfl) (by kernel_rfl) (by kernel_rfl) (fun _ _ _ h => h) rfl hHeld ?_
          try simp only [Act.put, List.setIfInBounds_toArray, List.set_cons_zero, List.set_cons_succ]
          refine skipH (i := 10) rfl (by kernel_rfl) (by kernel_rfl) (by kernel_rfl) (fun _ _ _ h => h) rfl hHeld ?_
          try simp only [Act.put, List.setIfInBounds_toArray, List.set_cons_zero, List.set_cons_succ]
          refine takeJ 11 (v := ?_) ?_ hHeld ?_
          rotate_left
          · rintro w ⟨_, _⟩; go_simp; try with_reducible rfl
          refine wpAnyH_done (by kernel_rfl) ?_ _
          clear hHeld
          by_cases hmost : (s.1 : Int) + 1 < most
          · have q3 : decide (most ≤ (s.1 : Int) + 1) = false := by simp; omega
            gi_wp2
            exact cnt_normal HS1.out.1 HS1.out.2.1 HWF.out (by omega) HX.out.1 HS1.out.2.2.1 HS1.out.2.2.2
          · have q3 : decide (most ≤ (s.1 : Int) + 1) = true := by simp; omega
            gi_wp2
            exact cnt_exit HS1.out.1 HS1.out.2.1 HWF.out HX.out.2 (by omega) HS1.out.2.2.2
      case all =>
        rintro D2 W3 v3 hD2 hc3 hX3 hK3 hold
        have hr3 : W3.heap[w.heap.size + 1]? = some (.cells #[.bool false] 4) := by
          rcases hc3 with ⟨-, h⟩ | ⟨-, h⟩
          · exact h.2.2.2.2
          · exact h
        clear hc3
        have hl3 : w.heap.size + 1 ≠ w1.heap.size := by omega
        obtain ⟨vq, hvq, hvr, hvk⟩ := hX3.1.row
        have hids := HK.out W3 fun p hp => (hvk p (List.mem_cons_of_mem _ hp)).1
        obtain ⟨aq, mq, cq, rfl⟩ := row_form hvr
        have hl1 := ls_of_own idC_length hvr
        have hmq : mq = T2.1.asked.length := by obtain ⟨_, _, e, -⟩ := hl1; injection e
        have hpre : L.asked.take mq = T2.1.asked := by rw [hmq, HS.out.1.1]; exact (List.prefix_iff_eq_take.1 HST.out.2).symm
        have hml : mq ≤ L.asked.length := by rw [hmq, HS.out.1.1]; exact HST.out.2.length_le
        have hl2 := (ls_of_own idC_length hids).takeL hml
        rw [hpre] at hl2
        have him : mq ≤ im ∧ im ≤ ic := by
          obtain ⟨_, _, e, h1, -⟩ := ls_of_own idC_length hids
          injection e with e1 e2 e3
          subst e1 e3
          omega
        have hsm := same_ids W3.drew _ _ T2.1.asked T2.1.asked hl1 hl2
        rw [decide_eq_true (rfl : T2.1.asked = T2.1.asked)] at hsm
        have c0 := cell_of_row W3 w1.heap.size 0 _ _ _ hvq
        simp only [List.getElem?_toArray, List.getElem?_cons_zero] at c0
        have HE := hide (And.intro hX3.2 (And.intro hK3 (And.intro (hold (D, .deferred (some [])) (by simp)) (And.intro hr3 hvq))))
        have hq1 : decide ((mq : Int) ≤ (im : Int)) = true := by simpa using him.1
        have hq2 : mq ≤ ic := by omega
        have hq3 := him.1
        clear hX3 hK3 hold hr3 hvq hvr hvk hids hl1 hl2 hpre hml hmq him
        gi_wp2_with fail
        refine wpIn_wide.2 (wp_calm ?_)
        refine wp_region_held_drew (S := fun W' => W'.cell? ⟨w1.heap.size, 0, none⟩ = some (.slice aq mq cq)) (by kernel_rfl) (c0) (fun hHeld => ?_)
        refine takeJ 0 (v := ?_) ?_ hHeld ?_
        rotate_left
        · intro w hS; (try dsimp only at hS); go_simp; try with_reducible rfl
        refine takeJ 1 (v := ?_) ?_ hHeld ?_
        rotate_left
        · intro w hS; (try dsimp only at hS); go_simp; try with_reducible rfl
        refine takeJ 2 (v := ?_) ?_ hHeld ?_
        rotate_left
        · intro w hS; (try dsimp only at hS); go_simp; try with_reducible rfl
        refine takeJ 3 (v := ?_) ?_ hHeld ?_
        rotate_left
        · intro w hS; (try dsimp only at hS); go_simp; try with_reducible rfl
        refine takeJ 4 (v := ?_) ?_ hHeld ?_
        rotate_left
        · intro w hS; (try dsimp only at hS); go_simp; try with_reducible rfl
        refine takeJ 5 (v := ?_) ?_ hHeld ?_
        rotate_left
        · intro w hS; (try dsimp only at hS); go_simp; try with_reducible rfl
        refine takeJ 6 (v := ?_) ?_ hHeld ?_
        rotate_left
        · intro w hS; (try dsimp only at hS); go_simp; try with_reducible rfl
        refine takeJ 7 (v := ?_) ?_ hHeld ?_
        rotate_left
        · intro w hS; (try dsimp only at hS); go_simp; try with_reducible rfl
        refine takeJ 8 (v := ?_) ?_ hHeld ?_
        rotate_left
        · intro w hS; (try dsimp only at hS); go_simp; try with_reducible rfl
        refine takeJ 9 (v := ?_) ?_ hHeld ?_
        rotate_left
        · intro w hS; (try dsimp only at hS); go_simp; try with_reducible rfl
        refine takeJ 10 (v := ?_) ?_ hHeld ?_
        rotate_left
        · intro w hS; (try dsimp only at hS); go_simp; try with_reducible rfl
        refine takeJ 11 (v := ?_) ?_ hHeld ?_
        rotate_left
        · intro w hS; (try dsimp only at hS); go_simp; try with_reducible rfl
        refine takeJ 12 (v := ?_) ?_ hHeld ?_
        rotate_left
        · intro w hS; (try dsimp only at hS); go_simp; try with_reducible rfl
        refine takeJ 13 (v := ?_) ?_ hHeld ?_
        rotate_left
        · intro w hS; (try dsimp only at hS); go_simp; try with_reducible rfl
        refine onlyH (i := 14) rfl (by kernel_rfl) rfl (fun K hK => ?_)
        go_simp
        refine hsm.mono ?_
        rintro e W4 ⟨rfl, hb4⟩
        have hq4 := (hb4.block _ (lt_of_heap HE.out.2.2.2.2)).trans HE.out.2.2.2.2
        have hr4 := (hb4.block _ (lt_of_heap HE.out.2.2.2.1)).trans HE.out.2.2.2.1
        have k0 := cell_of_row W4 w1.heap.size 0 _ _ _ hq4
        have r0 := cell_of_row W4 (w.heap.size + 1) 0 _ _ _ hr4
        simp only [List.getElem?_toArray, List.getElem?_cons_zero] at k0 r0
        have r1 := frozen0 (j := 0) hr4
        have k1 : (W4.setCell ⟨w.heap.size + 1, 0, none⟩ (.bool true)).cell? ⟨w1.heap.size, 0, none⟩ = some (.slice aq mq cq) := (World.cell?_setCell_far _ _ _ _ hl3).trans k0
        clear hsm
        refine hK.out _ _ (k0) (fun hHeld => ?_)
        clear hK K
        try simp only [Act.put, List.setIfInBounds_toArray, List.set_cons_zero, List.set_cons_succ]
        refine takeJ 15 (v := ?_) ?_ hHeld ?_
        rotate_left
        · intro w hS; (try dsimp only at hS); go_simp; try with_reducible rfl
        refine onlyH (i := 16) rfl (by kernel_rfl) rfl (fun K hK => ?_)
        go_simp
        refine hK.out _ _ (k1) (fun hHeld => ?_)
        clear hK K
        try simp only [Act.put, List.setIfInBounds_toArray, List.set_cons_zero, List.set_cons_succ]
        refine wpAnyH_done (by kernel_rfl) ?_ _
        clear hHeld
        gi_wp2
        have hk4 := (hb4.block _ (lt_of_heap HE.out.2.1)).trans HE.out.2.1
        have hd4 := (hb4.block _ (lt_of_heap HE.out.2.2.1)).trans HE.out.2.2.1
        have hKO : KO W4 (W4.setCell ⟨w.heap.size + 1, 0, none⟩ (.bool true)) := (KO.refl W4).set (j := 0) hr4 (.bool true)
        have hk5 := hKO _ _ hk4 rfl
        have hd5 := hKO _ _ hd4 rfl
        have hD8 := lt_of_heap H8.out.2.2.2.2.2.1
        have hm5 : Mv w.heap.size sts2 none W4 (W4.setCell ⟨w.heap.size + 1, 0, none⟩ (.bool true)) := (Mv.refl _ _ _ W4).set (j := 0) hr4 (by decide) (by omega) _
        have hr5 : (W4.setCell ⟨w.heap.size + 1, 0, none⟩ (.bool true)).heap[w.heap.size + 1]? = some (.cells #[.bool true] 4) := by
          rw [heap_setCell _ _ _ _ _ _ _ hr4]
          simp
        have hp1 := Mv.put (B := w.heap.size) (ts := []) (r := none) (o' := .deferred none) hk5 rfl (by omega)
        have hd6 := (World.putObj_heap_other (o := .deferred none) (show D ≠ D2 by omega)).trans hd5
        have hp2 := Mv.put (B := w.heap.size) (ts := []) (r := none) (o' := .deferred none) hd6 rfl (by omega)
        have z0 := cell_of_row _ (w.heap.size + 1) 0 _ _ _ (hp2.k _ _ _ _ (hp1.k _ _ _ _ hr5 (by simp) (by simp)) (by simp) (by simp))
        simp only [List.getElem?_toArray, List.getElem?_cons_zero] at z0
        refine ⟨by simp, .inl ⟨_, _, rfl, run_takeDeferred hk5, by simp, .inl ⟨_, _, rfl, run_takeDeferred hd6, ?_⟩⟩⟩
        refine ⟨.bool true, ?_, rfl, ((((H8.out.1.trans HE.out.1.b).drew.trans (hb4.mono (Nat.le_trans H8.out.1.size HE.out.1.size))).trans hm5.b).trans hp1.b).trans hp2.b⟩
        simp [results, Tryz.f7, go_sem, z0]
      case left =>
        rintro D2 W3 v3 hD2 hTf hc3 hX3 hK3 hold
        have hr3 : W3.heap[w.heap.size + 1]? = some (.cells #[.bool false] 4) := hc3 HST.out.1
        have hlv : leaveC ((fun s : Nat × Bool => if s.2 then none else some 2) T2.1.s) = Code.exit 2 := by
          show leaveC (if T2.1.s.2 then none else some 2) = _
          rw [HST.out.1]
          rfl
        rw [hlv]
        clear hc3 hTf hlv
        have hl3 : w.heap.size + 1 ≠ w1.heap.size := by omega
        obtain ⟨vq, hvq, hvr, hvk⟩ := hX3.1.row
        have hids := HK.out W3 fun p hp => (hvk p (List.mem_cons_of_mem _ hp)).1
        obtain ⟨aq, mq, cq, rfl⟩ := row_form hvr
        have hl1 := ls_of_own idC_length hvr
        have hmq : mq = T2.1.asked.length := by obtain ⟨_, _, e, -⟩ := hl1; injection e
        have hpre : L.asked.take mq = T2.1.asked := by rw [hmq, HS.out.1.1]; exact (List.prefix_iff_eq_take.1 HST.out.2).symm
        have hml : mq ≤ L.asked.length := by rw [hmq, HS.out.1.1]; exact HST.out.2.length_le
        have hl2 := (ls_of_own idC_length hids).takeL hml
        rw [hpre] at hl2
        have him : mq ≤ im ∧ im ≤ ic := by
          obtain ⟨_, _, e, h1, -⟩ := ls_of_own idC_length hids
          injection e with e1 e2 e3
          subst e1 e3
          omega
        have hsm := same_ids W3.drew _ _ T2.1.asked T2.1.asked hl1 hl2
        rw [decide_eq_true (rfl : T2.1.asked = T2.1.asked)] at hsm
        have c0 := cell_of_row W3 w1.heap.size 0 _ _ _ hvq
        simp only [List.getElem?_toArray, List.getElem?_cons_zero] at c0
        have HE := hide (And.intro hX3.2 (And.intro hK3 (And.intro (hold (D, .deferred (some [])) (by simp)) (And.intro hr3 hvq))))
        have hq1 : decide ((mq : Int) ≤ (im : Int)) = true := by simpa using him.1
        have hq2 : mq ≤ ic := by omega
        have hq3 := him.1
        clear hX3 hK3 hold hr3 hvq hvr hvk hids hl1 hl2 hpre hml hmq him
        gi_wp2_with fail
        refine wpIn_wide.2 (wp_calm ?_)
        refine wp_region_held_drew (S := fun W' => W'.cell? ⟨w1.heap.size, 0, none⟩ = some (.slice aq mq cq)) (by kernel_rfl) (c0) (fun hHeld => ?_)
        refine takeJ 0 (v := ?_) ?_ hHeld ?_
        rotate_left
        · intro w hS; (try dsimp only at hS); go_simp; try with_reducible rfl
        refine takeJ 1 (v := ?_) ?_ hHeld ?_
        rotate_left
        · intro w hS; (try dsimp only at hS); go_simp; try with_reducible rfl
        refine takeJ 2 (v := ?_) ?_ hHeld ?_
        rotate_left
        · intro w hS; (try dsimp only at hS); go_simp; try with_reducible rfl
        refine takeJ 3 (v := ?_) ?_ hHeld ?_
        rotate_left
        · intro w hS; (try dsimp only at hS); go_simp; try with_reducible rfl
        refine takeJ 4 (v := ?_) ?_ hHeld ?_
        rotate_left
        · intro w hS; (try dsimp only at hS); go_simp; try with_reducible rfl
        refine takeJ 5 (v := ?_) ?_ hHeld ?_
        rotate_left
        · intro w hS; (try dsimp only at hS); go_simp; try with_reducible rfl
        refine takeJ 6 (v := ?_) ?_ hHeld ?_
        rotate_left
        · intro w hS; (try dsimp only at hS); go_simp; try with_reducible rfl
        refine takeJ 7 (v := ?_) ?_ hHeld ?_
        rotate_left
        · intro w hS; (try dsimp only at hS); go_simp; try with_reducible rfl
        refine takeJ 8 (v := ?_) ?_ hHeld ?_
        rotate_left
        · intro w hS; (try dsimp only at hS); go_simp; try with_reducible rfl
        refine takeJ 9 (v := ?_) ?_ hHeld ?_
        rotate_left
        · intro w hS; (try dsimp only at hS); go_simp; try with_reducible rfl
        refine takeJ 10 (v := ?_) ?_ hHeld ?_
        rotate_left
        · intro w hS; (try dsimp only at hS); go_simp; try with_reducible rfl
        refine takeJ 11 (v := ?_) ?_ hHeld ?_
        rotate_left
        · intro w hS; (try dsimp only at hS); go_simp; try with_reducible rfl
        refine takeJ 12 (v := ?_) ?_ hHeld ?_
        rotate_left
        · intro w hS; (try dsimp only at hS); go_simp; try with_reducible rfl
        refine takeJ 13 (v := ?_) ?_ hHeld ?_
        rotate_left
        · intro w hS; (try dsimp only at hS); go_simp; try with_reducible rfl
        refine onlyH (i := 14) rfl (by kernel_rfl) rfl (fun K hK => ?_)
        go_simp
        refine hsm.mono ?_
        rintro e W4 ⟨rfl, hb4⟩
        have hq4 := (hb4.block _ (lt_of_heap HE.out.2.2.2.2)).trans HE.out.2.2.2.2
        have hr4 := (hb4.block _ (lt_of_heap HE.out.2.2.2.1)).trans HE.out.2.2.2.1
        have k0 := cell_of_row W4 w1.heap.size 0 _ _ _ hq4
        have r0 := cell_of_row W4 (w.heap.size + 1) 0 _ _ _ hr4
        simp only [List.getElem?_toArray, List.getElem?_cons_zero] at k0 r0
        have r1 := frozen0 (j := 0) hr4
        have k1 : (W4.setCell ⟨w.heap.size + 1, 0, none⟩ (.bool true)).cell? ⟨w1.heap.size, 0, none⟩ = some (.slice aq mq cq) := (World.cell?_setCell_far _ _ _ _ hl3).trans k0
        clear hsm
        refine hK.out _ _ (k0) (fun hHeld => ?_)
        clear hK K
        try simp only [Act.put, List.setIfInBounds_toArray, List.set_cons_zero, List.set_cons_succ]
        refine takeJ 15 (v := ?_) ?_ hHeld ?_
        rotate_left
        · intro w hS; (try dsimp only at hS); go_simp; try with_reducible rfl
        refine onlyH (i := 16) rfl (by kernel_rfl) rfl (fun K hK => ?_)
        go_simp
        refine hK.out _ _ (k1) (fun hHeld => ?_)
        clear hK K
        try simp only [Act.put, List.setIfInBounds_toArray, List.set_cons_zero, List.set_cons_succ]
        refine wpAnyH_done (by kernel_rfl) ?_ _
        clear hHeld
        gi_wp2
        have hk4 := (hb4.block _ (lt_of_heap HE.out.2.1)).trans HE.out.2.1
        have hd4 := (hb4.block _ (lt_of_heap HE.out.2.2.1)).trans HE.out.2.2.1
        have hKO : KO W4 (W4.setCell ⟨w.heap.size + 1, 0, none⟩ (.bool true)) := (KO.refl W4).set (j := 0) hr4 (.bool true)
        have hk5 := hKO _ _ hk4 rfl
        have hd5 := hKO _ _ hd4 rfl
        have hD8 := lt_of_heap H8.out.2.2.2.2.2.1
        have hm5 : Mv w.heap.size sts2 none W4 (W4.setCell ⟨w.heap.size + 1, 0, none⟩ (.bool true)) := (Mv.refl _ _ _ W4).set (j := 0) hr4 (by decide) (by omega) _
        have hr5 : (W4.setCell ⟨w.heap.size + 1, 0, none⟩ (.bool true)).heap[w.heap.size + 1]? = some (.cells #[.bool true] 4) := by
          rw [heap_setCell _ _ _ _ _ _ _ hr4]
          simp
        have hp1 := Mv.put (B := w.heap.size) (ts := []) (r := none) (o' := .deferred none) hk5 rfl (by omega)
        have hd6 := (World.putObj_heap_other (o := .deferred none) (show D ≠ D2 by omega)).trans hd5
        have hp2 := Mv.put (B := w.heap.size) (ts := []) (r := none) (o' := .deferred none) hd6 rfl (by omega)
        have z0 := cell_of_row _ (w.heap.size + 1) 0 _ _ _ (hp2.k _ _ _ _ (hp1.k _ _ _ _ hr5 (by simp) (by simp)) (by simp) (by simp))
        simp only [List.getElem?_toArray, List.getElem?_cons_zero] at z0
        refine ⟨by simp, .inl ⟨_, _, rfl, run_takeDeferred hk5, by simp, .inl ⟨_, _, rfl, run_takeDeferred hd6, ?_⟩⟩⟩
        refine ⟨.bool true, ?_, rfl, ((((H8.out.1.trans HE.out.1.b).drew.trans (hb4.mono (Nat.le_trans H8.out.1.size HE.out.1.size))).trans hm5.b).trans hp1.b).trans hp2.b⟩
        simp [results, Tryz.f7, go_sem, z0]
theorem alls_bytes (w : World) (vo : Value) (objs : List Pair) (hv : Ls w.heap.size w 2 pairC vo objs) (hob : ∀ o ∈ objs, o.2.length ≤ 140737488351232) (r l : ByteArray) (hr : r.size ≤ 140737488351232) (hl : l.size ≤ 140737488351232) (most : Int) (hmost : In64 most) (hT : TabW w) :
    Calls Tryz.prog 7 #[vo, .string r, .string l, .int .i64 most] w fun e w' => e = .returned (.bool true) ∧ Below w.heap.size w w' := by
  have := alls_any w vo objs hv hob r.data.toList l.data.toList (by simpa using hr) (by simpa using hl) most hmost hT
  rw [strB_of, strB_of] at this
  exact this
end Go.Proofs.YtimbleaafoiidaaGreatDoor
