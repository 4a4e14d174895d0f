/-
  rows: new ones, others with puts done, do they fit. Conditions: what lies there is told by hypotheses; weights within reach.
-/
import Derived.Test.YtblniomnhpedjaaGreatDoorP10UndoDir
import Derived.Test.YtblniomnhpedjaaGreatDoorP9Rename
namespace Go.Proofs.YtblniomnhpedjaaGreatDoor
open Go.RowKit
theorem eqMP (w : World) (p : Option Nat) : (binOp .eql 95 (.map p) (.map none)).run Tryz.prog w = .ok (.bool p.isNone) w:=run_eql_map_nil_sl w _ _ _ p Tryz.underlying95
set_option maxRecDepth 20000 in
theorem N4 (w : World) (b : Nat) (l : List (Value × Value)) (h : Ak w b l) :
  Calls Tryz.prog 67 #[.map (some b)] w fun e w'=>e = .returned (.map (some w.heap.size))∧Ak w' w.heap.size l∧Chg (fun _=>False) w w'∧w'.heap.size=w.heap.size+1:=by
 obtain ⟨es,clock,h1,h2,h3⟩:=h
 have hq:=fun w=>eqMP w (some b)
 have HE:=Ab h3
 clear h3
 go_enter Tryz.func67,Tryz.ntmps67
 go_wp2
 rw [run_callFunc_extern Tryz.func82 (by kernel_rfl) (by kernel_rfl) (by kernel_rfl) (e:=Extern.MapsClone.clone) (by kernel_rfl),run_maps_clone_sl w 95 h1]
 simp only [Result.andThen]
 rw [Oper.upon_value]
 go_wp2
 rw [run_typeAssert_map_sl _ 95 20 _ _ _ Tryz.underlying95]
 simp only [Result.andThen]
 rw [Oper.upon_value]
 go_wp2
 go_ret
 exact ⟨rfl,⟨es,clock,Au w _,h2,HE.out⟩,(Chg.refl _ w).alloc _,by simp⟩
def RowsV (w : World) (base : Nat) (v : Value) (l : List Af) : Prop:=∃ b,base≤b∧v = .agg #[.map (some b), .int .i64 (Ag l)]∧Ak w b (rv l)∧Bn l
theorem Tryz.infoRows : (Tryz.prog.info? 97).map (·.size)=some 2:=by kernel_rfl
theorem newRows_any (w : World) : Calls Tryz.prog 58 #[] w fun e w'=>∃ v,e = .returned v∧RowsV w' w.heap.size v []∧Chg (fun _=>False) w w':=by
 have hq : ∀ W : World,(Instr.makeMap 95 none).run Tryz.prog W = .ok (.map (some W.heap.size)) (W.alloc (.map #[] 0)):=fun W=>by kernel_rfl
 go_enter Tryz.func58,Tryz.ntmps58
 go_wp2
 have h0:=Bh (.map #[] 0) (Au w (.cells #[.map (some (w.heap.size+1)), .int .i64 0] 97))
 have hm:=Ak.made (w.alloc (.cells #[.map (some (w.heap.size+1)), .int .i64 0] 97))
 rw [World.size_alloc] at hm
 refine bodyPost_ret (results_cell_row rfl _ _ _ _ _ _ _ rfl h0 Tryz.underlying97 rfl Tryz.infoRows) rfl ?_
 exact ⟨_,rfl,⟨_,by omega,rfl,hm,List.Pairwise.nil⟩,((Chg.refl _ w).alloc _).alloc _⟩
theorem len_map {w : World} {b : Nat} {l : List (Value × Value)} (h : Ak w b l) (ty : TypeId) : (Builtin.len_ #[95] ty #[.map (some b)]).run Tryz.prog w = .ok (.int .i64 l.length) w:=by
 obtain ⟨es,ck,h1,h2,h3⟩:=h
 have hl : es.size=l.length:=by have:=h3.length_eq; simpa using this
 simp [Builtin.len_,run_underlying Tryz.underlying95,MapKept.run_getObj_map h1,Result.andThen,hl]
 rfl
set_option maxRecDepth 20000 in
theorem fit_any (w : World) (b : Nat) (l : List Af) (hm : Ak w b (rv l)) : Calls Tryz.prog 51 #[.agg #[.map (some b), .int .i64 (Ag l)]] w fun e w'=>e = .returned (.bool (decide (l.length≤2000) && decide (Ag l≤1048576)))∧Chg (fun _=>False) w w':=by
 have hA:=Cl w (.cells #[.map (some b), .int .i64 (Ag l)] 97)
 have hlen:=len_map (hm.keep hA (fun h=>h))
 rw [show (rv l).length=l.length by simp [rv]] at hlen
 have HA:=Ab hA
 clear hA hm
 generalize Ag l=wt at *
 generalize l.length=n at *
 by_cases h1 : n≤2000
 ·have q1 : decide ((n : Int)≤2000)=true:=decide_eq_true (by omega)
  by_cases h2 : wt≤1048576
  ·have q2 : decide ((wt : Int)≤1048576)=true:=decide_eq_true (by omega)
   go_enter Tryz.func51,Tryz.ntmps51
   go_wp2
   go_ret
   exact ⟨by simp [h1,h2],HA.out⟩
  ·have q2 : decide ((wt : Int)≤1048576)=false:=decide_eq_false (by omega)
   go_enter Tryz.func51,Tryz.ntmps51
   go_wp2
   go_ret
   exact ⟨by simp [h1,h2],HA.out⟩
 ·have q1 : decide ((n : Int)≤2000)=false:=decide_eq_false (by omega)
  go_enter Tryz.func51,Tryz.ntmps51
  go_wp2
  go_ret
  exact ⟨by simp [h1],HA.out⟩
set_option maxRecDepth 20000 in
set_option maxHeartbeats 1600000 in
theorem with_any (w : World) (b : Nat) (l : List Af) (hm : Ak w b (rv l)) (hri : Bn l) (v : Value) (ps : List An) (hv : PsT w v ps) (hw : Ag l+Da ps≤70368744177664) :
  Calls Tryz.prog 50 #[.agg #[.map (some b), .int .i64 (Ag l)],v] w fun e w'=>∃ u,e = .returned u∧RowsV w' w.heap.size u (Ai l ps)∧Chg (fun _=>False) w w':=by
 have hA1:=(Cl w (.cells #[.map (some b), .int .i64 (Ag l)] 97)).alloc (.cells #[.map none, .int .i64 0] 97)
 have hAr:=Bh (.cells #[.map none, .int .i64 0] 97) (Au w (.cells #[.map (some b), .int .i64 (Ag l)] 97))
 have hAn:=Au (w.alloc (.cells #[.map (some b), .int .i64 (Ag l)] 97)) (.cells #[.map none, .int .i64 0] 97)
 have hAs : ((w.alloc (.cells #[.map (some b), .int .i64 (Ag l)] 97)).alloc (.cells #[.map none, .int .i64 0] 97)).heap.size=w.heap.size+1+1:=by simp
 rw [World.size_alloc] at hAn
 obtain ⟨A,hA⟩ : ∃ A,(w.alloc (.cells #[.map (some b), .int .i64 (Ag l)] 97)).alloc (.cells #[.map none, .int .i64 0] 97)=A:=⟨_,rfl⟩
 rw [hA] at hA1 hAr hAn hAs
 have hAm:=hm.keep hA1 (fun h=>h)
 have hAp:=hv.quiet hA1
 have r0:=Ad hAr 0
 have r1:=Ad hAr 1
 simp only [List.getElem?_toArray,List.getElem?_cons_zero,List.getElem?_cons_succ] at r0 r1
 obtain ⟨ao,cap,rfl,-⟩:=id hv
 -- the map is cloned first
 have hc1:=N4 A.drew b _ (hAm.same rfl)
 rw [show A.drew.heap.size=w.heap.size+1+1 from hAs] at hc1
 -- or the variable is made first
 have hB1:=Cl A.drew (.cells #[.map none, .int .i64 0] 97)
 have hBs : (A.drew.alloc (.cells #[.map none, .int .i64 0] 97)).heap.size=w.heap.size+1+1+1:=by simp [hAs]
 have hc2:=N4 (A.drew.alloc (.cells #[.map none, .int .i64 0] 97)) b _ ((hAm.same (show A.drew.heap[b]? = A.heap[b]? from rfl)).keep hB1 (fun h=>h))
 rw [hBs] at hc2
 have HA:=Ab (And.intro hA1 (And.intro hAr (And.intro hAn (And.intro hAp (And.intro hB1 hBs)))))
 have hsz:=hAs
 have HP:=Ab hv
 clear hA1 hAr hAn hAm hAp hB1 hBs hm hv hAs
 go_enter Tryz.func50,Tryz.ntmps50
 go_wp2_with fail
 refine wp_region_held_drew (S:=fun W=>W.cell? ⟨w.heap.size,0,none⟩=some (.map (some b))∧W.cell? ⟨w.heap.size,1,none⟩=some (.int .i64 (Ag l))) (by kernel_rfl) (⟨r0,r1⟩) (fun hHeld=>?_)
 refine Aa 0 hHeld ?_
 refine Aa 1 hHeld ?_
 refine Aa 3 hHeld ?_
 refine Aa 4 hHeld ?_
 refine twoH (i:=2) (j:=6) rfl rfl (by kernel_rfl) rfl rfl (fun K hK=>?_) (fun K hK=>?_)
 ·go_simp
  refine hc1.mono ?_
  rintro e C ⟨rfl,hCm,hCc,hCs⟩
  have hCr:=hCc.keep (show A.drew.heap[w.heap.size]? = _ from HA.out.2.1) (fun h=>h)
  have s0:=Ad hCr 0
  have s1:=Ad hCr 1
  have hZr:=Bh (.cells #[.map none, .int .i64 0] 97) hCr
  have t0:=Ad hZr 0
  have t1:=Ad hZr 1
  have hXr0:=Bh (.cells #[.map (some (w.heap.size+1+1)), .int .i64 (Ag l)] 97) hCr
  have v0:=Ad hXr0 0
  have v1:=Ad hXr0 1
  simp only [List.getElem?_toArray,List.getElem?_cons_zero,List.getElem?_cons_succ] at s0 s1 t0 t1 v0 v1
  refine hK.out _ _ (⟨s0,s1⟩) (fun hHeld=>?_)
  clear hK K
  try simp only [Act.put,List.setIfInBounds_toArray,List.set_cons_zero,List.set_cons_succ]
  refine Aa 5 hHeld ?_
  refine Al (i:=6) rfl (by kernel_rfl) rfl (fun K hK=>?_)
  go_simp
  refine hK.out _ _ (⟨t0,t1⟩) (fun hHeld=>?_)
  clear hK K
  try simp only [Act.put,List.setIfInBounds_toArray,List.set_cons_zero,List.set_cons_succ]
  refine Al (i:=7) rfl (by kernel_rfl) rfl (fun K hK=>?_)
  go_simp
  refine hK.out _ _ (⟨v0,v1⟩) (fun hHeld=>?_)
  clear hK K
  try simp only [Act.put,List.setIfInBounds_toArray,List.set_cons_zero,List.set_cons_succ]
  refine wpAnyH_done (by kernel_rfl) ?_ _
  have hXr : (C.alloc (.cells #[.map (some (w.heap.size+1+1)), .int .i64 (Ag l)] 97)).heap[w.heap.size+1+1+1]? = some (.cells #[.map (some (w.heap.size+1+1)), .int .i64 (Ag l)] 97):=by rw [← hCs]; exact Au C _
  have hXq:=Cl C (.cells #[.map (some (w.heap.size+1+1)), .int .i64 (Ag l)] 97)
  have hXm:=hCm.keep hXq (fun h=>h)
  have hCw:=HA.out.1.trans hCc.undrew (fun _ _ h=>h)
  have hXc:=hCw.trans hXq (fun _ _ h=>h)
  have hXp:=(HA.out.2.2.2.1.quiet hCc.undrew).quiet hXq
  have hX1:=hXq.keep (hCc.keep (show A.drew.heap[w.heap.size+1]? = _ from HA.out.2.2.1) (fun h=>h)) (fun h=>h)
  generalize C.alloc (.cells #[.map (some (w.heap.size+1+1)), .int .i64 (Ag l)] 97)=X at *
  clear hCr s0 s1 hZr t0 t1 hXr0 v0 v1 hXq hCm hCc hCw hc1 hc2
  have hdo:=do_any X (w.heap.size+1+1+1) (w.heap.size+1+1) l ⟨hXr,hXm,hri⟩ _ ps hXp hw
  have HX:=Ab (And.intro hXc hX1)
  clear hXr hXm hXp hXc hX1 hHeld
  go_wp2_with fail
  refine hdo.mono ?_
  rintro e Y ⟨rfl,hrY,hcY⟩
  have k0:=Ad hrY.cells 0
  have k1:=Ad hrY.cells 1
  have hr1:=hcY.keep HX.out.2 (by omega)
  have n0:=Ad hr1 0
  have n1:=Ad hr1 1
  have f0:=Av hr1 0
  have f1:=Av hr1 1
  simp only [List.getElem?_toArray,List.getElem?_cons_zero,List.getElem?_cons_succ] at k0 k1 n0 n1
  have hcYw : Chg (fun _=>False) w Y:=HX.out.1.trans hcY (fun i hi h=>by omega)
  have HY:=Ab (And.intro hrY (And.intro hr1 hcYw))
  clear hrY hcY hr1 hcYw hdo
  go_wp2
  have hfin:=A0 (A0 HY.out.2.1 0 (.map (some (w.heap.size+1+1)))) 1 (.int .i64 (Ag (Ai l ps)))
  simp only [List.setIfInBounds_toArray,List.set_cons_zero,List.set_cons_succ] at hfin
  have hmz : Ak ((Y.setCell ⟨w.heap.size+1,0,none⟩ (.map (some (w.heap.size+1+1)))).setCell ⟨w.heap.size+1,1,none⟩ (.int .i64 (Ag (Ai l ps)))) (w.heap.size+1+1) (rv (Ai l ps)):=HY.out.1.map.same ((Below.heap_setCell _ _ _ _ (by simp <;> omega)).trans (Below.heap_setCell _ _ _ _ (by simp <;> omega)))
  refine bodyPost_ret (results_cell_row rfl _ _ _ _ _ _ _ rfl hfin Tryz.underlying97 rfl Tryz.infoRows) rfl ?_
  exact ⟨_,rfl,⟨_,by omega,rfl,hmz,HY.out.1.rises⟩,(HY.out.2.2.setCell (.inr (by simp)) _).setCell (.inr (by simp)) _⟩
 ·go_simp
  have hBr:=HA.out.2.2.2.2.1.keep (show A.drew.heap[w.heap.size]? = _ from HA.out.2.1) (fun h=>h)
  have s0:=Ad hBr 0
  have s1:=Ad hBr 1
  simp only [List.getElem?_toArray,List.getElem?_cons_zero,List.getElem?_cons_succ] at s0 s1
  refine hK.out _ _ (⟨s0,s1⟩) (fun hHeld=>?_)
  clear hK K
  try simp only [Act.put,List.setIfInBounds_toArray,List.set_cons_zero,List.set_cons_succ]
  refine Al (i:=2) rfl (by kernel_rfl) rfl (fun K hK=>?_)
  go_simp
  refine hc2.mono ?_
  rintro e C ⟨rfl,hCm,hCc,hCs⟩
  have hCr:=hCc.keep hBr (fun h=>h)
  have hCz:=hCc.keep (show (A.drew.alloc (.cells #[.map none, .int .i64 0] 97)).heap[w.heap.size+1+1]? = some (.cells #[.map none, .int .i64 0] 97) by rw [← hsz]; exact Au A.drew _) (fun h=>h)
  have hCn:=hCc.keep (HA.out.2.2.2.2.1.keep (show A.drew.heap[w.heap.size+1]? = _ from HA.out.2.2.1) (fun h=>h)) (fun h=>h)
  have hXr:=A0 (A0 hCz 0 (.map (some (w.heap.size+1+1+1)))) 1 (.int .i64 (Ag l))
  simp only [List.setIfInBounds_toArray,List.set_cons_zero,List.set_cons_succ] at hXr
  have hXr0:=Cy (p:=⟨w.heap.size+1+1,1,none⟩) (u:=.int .i64 (Ag l)) (Cy (p:=⟨w.heap.size+1+1,0,none⟩) (u:=.map (some (w.heap.size+1+1+1))) hCr (by simp; omega)) (by simp; omega)
  have hX1:=Cy (p:=⟨w.heap.size+1+1,1,none⟩) (u:=.int .i64 (Ag l)) (Cy (p:=⟨w.heap.size+1+1,0,none⟩) (u:=.map (some (w.heap.size+1+1+1))) hCn (by simp)) (by simp)
  have hXm : Ak ((C.setCell ⟨w.heap.size+1+1,0,none⟩ (.map (some (w.heap.size+1+1+1)))).setCell ⟨w.heap.size+1+1,1,none⟩ (.int .i64 (Ag l))) (w.heap.size+1+1+1) (rv l):=hCm.same ((Below.heap_setCell _ _ _ _ (by simp)).trans (Below.heap_setCell _ _ _ _ (by simp)))
  have hCw : Chg (fun _=>False) w C:=(HA.out.1.trans HA.out.2.2.2.2.1.undrew (fun _ _ h=>h)).trans hCc (fun _ _ h=>h)
  have hXc : Chg (fun _=>False) w ((C.setCell ⟨w.heap.size+1+1,0,none⟩ (.map (some (w.heap.size+1+1+1)))).setCell ⟨w.heap.size+1+1,1,none⟩ (.int .i64 (Ag l))):=(hCw.setCell (.inr (by simp; omega)) _).setCell (.inr (by simp; omega)) _
  have q0:=Ad hCz 0
  have q1:=Ad hCz 1
  have g0:=Av hCz 0
  have g1:=Av hCz 1
  have c0:=Ad hCr 0
  have c1:=Ad hCr 1
  have v0:=Ad hXr0 0
  have v1:=Ad hXr0 1
  simp only [List.getElem?_toArray,List.getElem?_cons_zero,List.getElem?_cons_succ] at q0 q1 c0 c1 v0 v1
  refine hK.out _ _ (⟨c0,c1⟩) (fun hHeld=>?_)
  clear hK K
  try simp only [Act.put,List.setIfInBounds_toArray,List.set_cons_zero,List.set_cons_succ]
  refine Aa 5 hHeld ?_
  refine Al (i:=7) rfl (by kernel_rfl) rfl (fun K hK=>?_)
  go_simp
  refine hK.out _ _ (⟨v0,v1⟩) (fun hHeld=>?_)
  clear hK K
  try simp only [Act.put,List.setIfInBounds_toArray,List.set_cons_zero,List.set_cons_succ]
  refine wpAnyH_done (by kernel_rfl) ?_ _
  have hXp : PsT ((C.setCell ⟨w.heap.size+1+1,0,none⟩ (.map (some (w.heap.size+1+1+1)))).setCell ⟨w.heap.size+1+1,1,none⟩ (.int .i64 (Ag l))) (.slice ao ps.length cap) ps:=HP.out.quiet hXc
  generalize (C.setCell ⟨w.heap.size+1+1,0,none⟩ (.map (some (w.heap.size+1+1+1)))).setCell ⟨w.heap.size+1+1,1,none⟩ (.int .i64 (Ag l))=X at *
  clear hBr s0 s1 hCr hCz hCn hXr0 hCw q0 q1 g0 g1 c0 c1 v0 v1 hCm hCc hc1 hc2
  have hdo:=do_any X (w.heap.size+1+1) (w.heap.size+1+1+1) l ⟨hXr,hXm,hri⟩ _ ps hXp hw
  have HX:=Ab (And.intro hXc hX1)
  clear hXr hXm hXp hXc hX1 hHeld
  go_wp2_with fail
  refine hdo.mono ?_
  rintro e Y ⟨rfl,hrY,hcY⟩
  have k0:=Ad hrY.cells 0
  have k1:=Ad hrY.cells 1
  have hr1:=hcY.keep HX.out.2 (by omega)
  have n0:=Ad hr1 0
  have n1:=Ad hr1 1
  have f0:=Av hr1 0
  have f1:=Av hr1 1
  simp only [List.getElem?_toArray,List.getElem?_cons_zero,List.getElem?_cons_succ] at k0 k1 n0 n1
  have hcYw : Chg (fun _=>False) w Y:=HX.out.1.trans hcY (fun i hi h=>by omega)
  have HY:=Ab (And.intro hrY (And.intro hr1 hcYw))
  clear hrY hcY hr1 hcYw hdo
  go_wp2
  have hfin:=A0 (A0 HY.out.2.1 0 (.map (some (w.heap.size+1+1+1)))) 1 (.int .i64 (Ag (Ai l ps)))
  simp only [List.setIfInBounds_toArray,List.set_cons_zero,List.set_cons_succ] at hfin
  have hmz : Ak ((Y.setCell ⟨w.heap.size+1,0,none⟩ (.map (some (w.heap.size+1+1+1)))).setCell ⟨w.heap.size+1,1,none⟩ (.int .i64 (Ag (Ai l ps)))) (w.heap.size+1+1+1) (rv (Ai l ps)):=HY.out.1.map.same ((Below.heap_setCell _ _ _ _ (by simp <;> omega)).trans (Below.heap_setCell _ _ _ _ (by simp <;> omega)))
  refine bodyPost_ret (results_cell_row rfl _ _ _ _ _ _ _ rfl hfin Tryz.underlying97 rfl Tryz.infoRows) rfl ?_
  exact ⟨_,rfl,⟨_,by omega,rfl,hmz,HY.out.1.rises⟩,(HY.out.2.2.setCell (.inr (by simp)) _).setCell (.inr (by simp)) _⟩
end Go.Proofs.YtblniomnhpedjaaGreatDoor
