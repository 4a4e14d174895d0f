/-
  Texts joined: PSteps, PTell2, PGoing.
-/
import Derived.Test.YtckejblkppllaaaGreatDoorT3HSpread
import Derived.RangeFuncNested
import Derived.RangeFuncBound
import Derived.RangeFuncCalls
import Derived.RangeFuncLeaves
import Derived.RangeFuncBox
import Derived.Shelf.Abstract
import Derived.Shelf.RegionOpen
import Derived.WalkKit
import Derived.OwnWalkIn
import Derived.TacticsInMore
import Derived.LoopNIn
import Derived.LoopIn
import Derived.Test.YtckejblkppllaaaGreatDoorT35APlain
import Derived.Test.YtckejblkppllaaaGreatDoorT30PFind
namespace Go.Proofs.YtckejblkppllaaaGreatDoor
open Go.RowKit
variable {P : Program} {l : List Oper} {Q : Exit→Act→World→Prop} {md : Region.Mode}
theorem semW (o : Oper) (a : Act) : o.semAt Fence.wide.round a.eval=execOp a.eval o:=Oper.semAt_none _ _
theorem Gk {i : Nat} {oi : Oper} {v : Value} {fuel : Nat} {listed : Array Bool} {a : Act} {w : World} (hi : l[i]? = some oi)
  (hs : Region.noSelect l.toArray=true) (hf : Region.free md l.toArray listed i=true) (hr : (Region.ready md l.toArray listed).contains i=true)
  (hQ : ∀ c a w,Q (.panic c) (a.put oi.dst v) w→Q (.panic c) a w) (hg : Region.wanted oi (yielded l.toArray a.tmps)=true) (hab : ∀ w,oi.about P w a.eval=none) (hy : ∀ w,(execOp a.eval oi).run P w = .ok (.value v) w)
  (h : wpAnyIn Fence.wide 0 P md l.toArray Q fuel (listed.setIfInBounds i true) (a.put oi.dst v) w) : wpAnyIn Fence.wide 0 P md l.toArray Q (fuel+1) listed a w:=
 wpAnyIn_take rfl (by simpa using hi) hs hf hr hQ ⟨Or.inl ⟨hg,hy⟩,hab⟩ h
theorem valW {o : Oper} {a : Act} {w : World} {v : Value} {K : Act→World→Prop} (hy : (execOp a.eval o).run P w = .ok (.value v) w) (h : K (a.put o.dst v) w) : Oper.wpIn Fence.wide 0 P o a w K Q:=
 ⟨fun _ _=>trivial,by rw [semW,hy]; exact h⟩
theorem roundW {o : Oper} {a : Act} {w : World} {k f : Nat} {tmps : Array Value} {assign body : Code} {R : Ending→World→Prop} {K : Act→World→Prop} (hy : (execOp a.eval o).run P w = .ok (.round k f tmps assign body) w)
  (hR : RoundIn Fence.wide 0 P k f tmps assign body w R) (h : ∀ e w',R e w'→∃ v,e = .returned v∧K (a.put o.dst v) w') : Oper.wpIn Fence.wide 0 P o a w K Q:=
 ⟨fun _ _=>trivial,by
  rw [semW,hy]
  refine ⟨(fun h=>by cases h),hR.mono fun e w' he=>?_⟩
  obtain ⟨v,rfl,hK⟩:=h e w' he
  exact hK⟩
theorem onlyIn {i : Nat} {oi : Oper} {fuel : Nat} {listed : Array Bool} {a : Act} {w : World} (hi : l[i]? = some oi) (hr : Region.ready md l.toArray listed = [i]) (hg : Region.wanted oi (yielded l.toArray a.tmps)=true)
  (h : Oper.wpIn Fence.wide 0 P oi a w (wpAnyIn Fence.wide 0 P md l.toArray Q fuel (listed.setIfInBounds i true)) Q) : wpAnyIn Fence.wide 0 P md l.toArray Q (fuel+1) listed a w:=
 wpAnyIn_ready hr (by simp) (AllReadyIn.cons (o:=oi) (by simpa using hi) (fun K hK=>by rw [if_pos hg]; exact Oper.wpIn_mono hK h) AllReadyIn.nil)
theorem twoIn {i j : Nat} {oi oj : Oper} {fuel : Nat} {listed : Array Bool} {a : Act} {w : World} (hi : l[i]? = some oi) (hj : l[j]? = some oj) (hr : Region.ready md l.toArray listed = [i,j])
  (hgi : Region.wanted oi (yielded l.toArray a.tmps)=true) (hgj : Region.wanted oj (yielded l.toArray a.tmps)=true)
  (h1 : Oper.wpIn Fence.wide 0 P oi a w (wpAnyIn Fence.wide 0 P md l.toArray Q fuel (listed.setIfInBounds i true)) Q)
  (h2 : Oper.wpIn Fence.wide 0 P oj a w (wpAnyIn Fence.wide 0 P md l.toArray Q fuel (listed.setIfInBounds j true)) Q) : wpAnyIn Fence.wide 0 P md l.toArray Q (fuel+1) listed a w:=
 wpAnyIn_ready hr (by simp) (AllReadyIn.cons (o:=oi) (by simpa using hi) (fun K hK=>by rw [if_pos hgi]; exact Oper.wpIn_mono hK h1) (AllReadyIn.cons (o:=oj) (by simpa using hj) (fun K hK=>by rw [if_pos hgj]; exact Oper.wpIn_mono hK h2) AllReadyIn.nil))
theorem startIn {id : Nat} {a : Act} {w : World} (hm : P.follows .mixedOrders=true)
  (h : wpAnyIn Fence.wide 0 P .any l.toArray Q l.length (Array.replicate l.length false) a w.drew) : (Code.region id l.toArray true).wp P Q a w:=
 (wpIn_wide (n:=0)).1 (wpIn_region_any hm (by simpa using h))
end Go.Proofs.YtckejblkppllaaaGreatDoor
namespace Go.Proofs.YtckejblkppllaaaGreatDoor
open Go.RowKit
attribute [local go_sem] Oper.semAt_some
theorem GoW.mv {B : Nat} {W W' : World} {gb : Nat} {gv yv : Value} {lo hi told : Bs} {ts : List TypeId} {r : Option Nat} (h : GoW B W gb gv yv lo hi told) (hm : Mv B ts r W W') (h1 : 255 ∉ ts) (h2 : some gb≠r) : GoW B W' gb gv yv lo hi told:=⟨h.le,hm.k _ _ _ _ h.cell h1 h2⟩
theorem GoW.below {B : Nat} {W W' : World} {gb : Nat} {gv yv : Value} {lo hi told : Bs} (h : GoW B W gb gv yv lo hi told) (hb : Below W.heap.size W W') : GoW B W' gb gv yv lo hi told:=⟨h.le,(hb.block _ (Ad h.cell)).trans h.cell⟩
theorem heap_setTold {w : World} {g : Nat} {v0 v1 v2 v3 v4 u : Value} {t : TypeId} (h : w.heap[g]? = some (.cells #[v0,v1,v2,v3,v4] t)) : (w.setCell ⟨g,4,none⟩ u).heap[g]? = some (.cells #[v0,v1,v2,v3,u] t):=by
 rw [heap_setCell _ _ _ _ _ _ _ h]
 simp
theorem YieldOk.ne {σ : Type} {l : Nat} {k : Sink σ} {B : Nat} {sts : List TypeId} {J Jx : Value→σ→World→Prop} (hY : YieldOk l k B sts J Jx) {v : Value} {s : σ} {W : World} (hJ : J v s W) {gb : Nat} {gv yv : Value} {lo hi told : Bs} (h : GoW B W gb gv yv lo hi told) : some gb≠v.ownBlock:=by
 intro e
 obtain ⟨cs,fr,hq⟩:=hY.row hJ e.symm
 rw [h.cell] at hq
 injection hq with hq
 injection hq with _ hq
 exact absurd hq (by decide)
theorem tellT_nil {σ : Type} (k : Sink σ) (lo hi : Bs) (t : Tst σ) : Bu k lo hi [] t=(t,true):=rfl
theorem tellT_out {σ : Type} {k : Sink σ} {lo hi : Bs} {x : Ag} {r : List Ag} {t : Tst σ} (h : inM lo hi x.1=false) : Bu k lo hi (x :: r) t=Bu k lo hi r t:=by rw [Bu,h]; rfl
theorem tellT_back {σ : Type} {k : Sink σ} {lo hi : Bs} {x : Ag} {r : List Ag} {t : Tst σ} (h : inM lo hi x.1=true) (h2 : ltB t.told x.1=false) : Bu k lo hi (x :: r) t=(⟨t.asked,t.told,k.er t.s 122⟩,false):=by rw [Bu,h,h2]; rfl
theorem tellT_on {σ : Type} {k : Sink σ} {lo hi : Bs} {x : Ag} {r : List Ag} {t : Tst σ} (h : inM lo hi x.1=true) (h2 : ltB t.told x.1=true) (h3 : (k.st t.s x).2=true) : Bu k lo hi (x :: r) t=Bu k lo hi r ⟨t.asked,x.1,(k.st t.s x).1⟩:=by rw [Bu,h,h2,h3]; rfl
theorem Mg {σ : Type} {k : Sink σ} {lo hi : Bs} {x : Ag} {r : List Ag} {t : Tst σ} (h : inM lo hi x.1=true) (h2 : ltB t.told x.1=true) (h3 : (k.st t.s x).2=false) : Bu k lo hi (x :: r) t=(⟨t.asked,x.1,(k.st t.s x).1⟩,false):=by rw [Bu,h,h2,h3]; rfl
set_option maxRecDepth 40000 in
set_option maxHeartbeats 3200000 in
theorem Pe {σ : Type} (W : World) (l : Nat) (k : Sink σ) (B : Nat) (sts kts : List TypeId) (J Jx : Value→σ→World→Prop) (hY : YieldOk l k B sts J Jx) (I : World→List Bs→Prop) (hIm : ∀ {W W' : World} {a : List Bs},I W a→Mv B kts none W W'→I W' a) (hkt : 135∈kts∧255∈kts∧∀ t∈sts,t∈kts)
  (gb : Nat) (gv : Value) (lo hi : Bs) (v : Value) (t : Tst σ) (hJ : J v t.s W) (hg : GoW B W gb gv (.func (.yield l) #[] #[]) lo hi t.told) (hI : I W t.asked) (vp : Value) (ps : List Ag) (hsure : ∀ W',Mv B (gts sts) v.ownBlock W W'→Ls W'.heap.size W' 2 Ak vp ps) (hcap : k.cap t.s+ps.length≤1000000) :
  Calls Tryz.prog 185 #[.pointer (some ⟨gb,0,none⟩),vp] W fun e W'=>Fr B sts J Jx I gb gv (.func (.yield l) #[] #[]) lo hi v W (Bu k lo hi ps t) e W':=by
 have hB : B≤W.heap.size:=by have:=Ad hg.cell; have:=hg.le; omega
 obtain ⟨R,hR⟩ : ∃ R,R=Bu k lo hi ps t:=⟨_,rfl⟩
 rw [← hR]
 obtain ⟨pa,pc,rfl,-,hpc⟩:=Dp (hsure W (Mv.refl _ _ _ _))
 unfold maxLen at hpc
 have HS:=Ac hsure
 have H0:=Ac (And.intro hR (And.intro hJ (And.intro hg (And.intro hI hcap))))
 have hlen : ps.length≤1000000:=by omega
 clear hR hJ hg hI hsure hcap
 go_enter Tryz.func185,Tryz.ntmps185
 go_wp2_with fail
 go_loopw [9] (fun q wr=>∃ (j : Nat) (v' : Value) (u : Tst σ),j≤ps.length∧q = .int .i64 j∧R=Bu k lo hi (ps.drop j) u∧J v' u.s wr∧GoW B wr gb gv (.func (.yield l) #[] #[]) lo hi u.told∧I wr u.asked∧Mv B (gts sts) v.ownBlock W wr∧Nx W v.ownBlock v'.ownBlock∧k.cap u.s+(ps.length - j)≤1000000)
  (fun q _=>ps.length - (intOf q).toNat)
 case atStart=>exact ⟨0,v,t,by omega,rfl,by simpa using H0.out.1,H0.out.2.1,H0.out.2.2.1,H0.out.2.2.2.1,Mv.refl _ _ _ _,Nx.refl _ _,by simpa using H0.out.2.2.2.2⟩
 case round=>
  clear H0
  obtain ⟨j,v',u,hj,rfl,hRj,hJr,hgr,hIr,hMr,hNr,hcr⟩:=hrel
  have hBr : B≤wr.heap.size:=Nat.le_trans hB hMr.size
  by_cases hlt : j<ps.length
  ·obtain ⟨ao',cap',hvv,-,-,hc4⟩:=HS.out wr hMr
   obtain ⟨b,off,hao,hbB,hc⟩:=hc4 (by rintro rfl; simp at hlt)
   injection hvv with e1 _ e3
   subst e3
   rw [hao] at e1
   subst e1
   have d0:=hc j hlt 0 _ rfl
   have d1:=hc j hlt 1 _ rfl
   simp only [Nat.add_zero] at d0
   rw [List.drop_eq_getElem_cons hlt] at hRj
   generalize ps[j]=x at *
   have hb1 : Below wr.heap.size wr (wr.alloc (.cells #[.string (Ab x.1), .string (Ab x.2)] 135)):=(Below.refl _ _).alloc (Nat.le_refl _) _
   have hx1:=heap_last wr (.cells #[.string (Ab x.1), .string (Ab x.2)] 135) _ rfl
   have hg1:=hgr.below hb1
   have hJ1:=hY.keep hJr (Mv.of hb1 hBr) (KO.of hb1)
   have hI1:=hIm hIr (Mv.of hb1 hBr)
   have hM1:=hMr.more hb1 hBr
   have hs1 : B≤(wr.alloc (.cells #[.string (Ab x.1), .string (Ab x.2)] 135)).heap.size:=Nat.le_trans hBr hb1.size
   generalize hw1 : wr.alloc (.cells #[.string (Ab x.1), .string (Ab x.2)] 135)=w1 at *
   have g1:=cell_of_row w1 gb 1 _ _ _ hg1.cell
   have g2:=cell_of_row w1 gb 2 _ _ _ hg1.cell
   have p0:=cell_of_row w1 wr.heap.size 0 _ _ _ hx1
   simp only [List.getElem?_toArray,List.getElem?_cons_zero,List.getElem?_cons_succ] at g1 g2 p0
   have H1:=Ac (And.intro hx1 (And.intro hg1 (And.intro hJ1 (And.intro hI1 hM1))))
   have HRJ:=Ac hRj
   clear hJr hgr hIr hMr hc hc4 hb1 hx1 hg1 hJ1 hI1 hM1 hRj hao
   have hnext : ∀ (v2 : Value) (u2 : Tst σ) (W2 : World),R=Bu k lo hi (ps.drop (j+1)) u2→J v2 u2.s W2→GoW B W2 gb gv (.func (.yield l) #[] #[]) lo hi u2.told→I W2 u2.asked→Mv B (gts sts) v.ownBlock W W2→Nx W v.ownBlock v2.ownBlock→k.cap u2.s≤k.cap u.s+1→∃ (j' : Nat) (v3 : Value) (u3 : Tst σ),j'≤ps.length∧(Value.int .i64 ((j : Int)+1)) = .int .i64 j'∧R=Bu k lo hi (ps.drop j') u3∧J v3 u3.s W2∧GoW B W2 gb gv (.func (.yield l) #[] #[]) lo hi u3.told∧I W2 u3.asked∧Mv B (gts sts) v.ownBlock W W2∧Nx W v.ownBlock v3.ownBlock∧k.cap u3.s+(ps.length - j')≤1000000:=fun v2 u2 W2 h1 h2 h3 h4 h5 h6 h7=>⟨j+1,v2,u2,by omega,by simp,h1,h2,h3,h4,h5,h6,by omega⟩
   have HNX:=Ac hnext
   clear hnext
   have hbg:=Mj w1.drew lo hi x.1
   cases hlo : ltB x.1 lo with
   | true=>
    rw [hlo] at hbg
    simp only [Bool.not_true] at hbg
    have HR2:=Ac (HRJ.out.trans (tellT_out (by rw [Kf,hlo]; rfl)))
    go_wp2_with fail
    refine wp_region_held_drew (S:=fun Z=>Z.cell? ⟨gb,1,none⟩=some (.string (Ab lo))∧Z.cell? ⟨gb,2,none⟩=some (.string (Ab hi))∧Z.cell? ⟨wr.heap.size,0,none⟩=some (.string (Ab x.1))) (by kernel_rfl) (⟨g1,g2,p0⟩) (fun hHeld=>?_)
    refine Aa 0 hHeld ?_
    refine Aa 1 hHeld ?_
    refine Aa 2 hHeld ?_
    refine Aa 3 hHeld ?_
    refine Aa 4 hHeld ?_
    refine Aa 5 hHeld ?_
    refine Ai (i:=6) rfl (by kernel_rfl) rfl (fun K hK=>?_)
    go_simp
    refine hbg.mono ?_
    rintro e w2 ⟨rfl,hb2⟩
    have hb2' : Below w1.heap.size w1 w2:=(Below.refl _ _).drew.trans hb2
    have hx2:=(hb2'.block _ (Ad H1.out.1)).trans H1.out.1
    have hg2:=H1.out.2.1.below hb2'
    have k1:=cell_of_row w2 gb 1 _ _ _ hg2.cell
    have k2:=cell_of_row w2 gb 2 _ _ _ hg2.cell
    have q0:=cell_of_row w2 wr.heap.size 0 _ _ _ hx2
    simp only [List.getElem?_toArray,List.getElem?_cons_zero,List.getElem?_cons_succ] at k1 k2 q0
    have H2:=Ac (And.intro hg2 (And.intro (hY.keep H1.out.2.2.1 (Mv.of hb2' hs1) (KO.of hb2')) (And.intro (hIm H1.out.2.2.2.1 (Mv.of hb2' hs1)) (H1.out.2.2.2.2.more hb2' hs1))))
    clear hb2 hb2' hx2 hg2 hbg
    refine hK.out _ _ (⟨k1,k2,q0⟩) (fun hHeld=>?_)
    clear hK K
    try simp only [Act.put,List.setIfInBounds_toArray,List.set_cons_zero,List.set_cons_succ]
    refine Aa 7 hHeld ?_
    refine Aa 8 hHeld ?_
    refine Ae 9 hHeld ?_
    refine Ae 10 hHeld ?_
    refine Ae 11 hHeld ?_
    refine Ae 12 hHeld ?_
    refine Ae 13 hHeld ?_
    refine Ae 14 hHeld ?_
    refine Ae 15 hHeld ?_
    refine Aa 16 hHeld ?_
    refine wpAnyH_done (by kernel_rfl) ?_ _
    clear hHeld
    have HREL:=Ac (HNX.out v' u w2 HR2.out H2.out.2.1 H2.out.1 H2.out.2.2.1 H2.out.2.2.2 hNr (by omega))
    go_wp2
    go_roundw
    case rel=>exact HREL.out
    case measure=>simp [intOf]; omega
   | false=>
    rw [hlo] at hbg
    simp only [Bool.not_false] at hbg
    go_wp2_with fail
    refine wp_region_held_drew (S:=fun Z=>Z.cell? ⟨gb,1,none⟩=some (.string (Ab lo))∧Z.cell? ⟨gb,2,none⟩=some (.string (Ab hi))∧Z.cell? ⟨wr.heap.size,0,none⟩=some (.string (Ab x.1))) (by kernel_rfl) (⟨g1,g2,p0⟩) (fun hHeld=>?_)
    refine Aa 0 hHeld ?_
    refine Aa 1 hHeld ?_
    refine Aa 2 hHeld ?_
    refine Aa 3 hHeld ?_
    refine Aa 4 hHeld ?_
    refine Aa 5 hHeld ?_
    refine Ai (i:=6) rfl (by kernel_rfl) rfl (fun K hK=>?_)
    go_simp
    refine hbg.mono ?_
    rintro e w2 ⟨rfl,hb2⟩
    have hb2' : Below w1.heap.size w1 w2:=(Below.refl _ _).drew.trans hb2
    have hx2:=(hb2'.block _ (Ad H1.out.1)).trans H1.out.1
    have hg2:=H1.out.2.1.below hb2'
    have k1:=cell_of_row w2 gb 1 _ _ _ hg2.cell
    have k2:=cell_of_row w2 gb 2 _ _ _ hg2.cell
    have q0:=cell_of_row w2 wr.heap.size 0 _ _ _ hx2
    simp only [List.getElem?_toArray,List.getElem?_cons_zero,List.getElem?_cons_succ] at k1 k2 q0
    have hen:=Kx w2 lo hi x.1
    have HB2:=Ac hb2'
    clear hb2 hb2' hx2 hg2 hbg g1 g2 p0
    refine hK.out _ _ (⟨k1,k2,q0⟩) (fun hHeld=>?_)
    clear hK K
    try simp only [Act.put,List.setIfInBounds_toArray,List.set_cons_zero,List.set_cons_succ]
    refine Aa 7 hHeld ?_
    refine Aa 8 hHeld ?_
    refine Aa 9 hHeld ?_
    refine Aa 10 hHeld ?_
    refine Aa 11 hHeld ?_
    refine Aa 12 hHeld ?_
    refine Aa 13 hHeld ?_
    refine Aa 14 hHeld ?_
    refine Ai (i:=15) rfl (by kernel_rfl) rfl (fun K hK=>?_)
    go_simp
    refine hen.mono ?_
    rintro e w3 ⟨rfl,hb3⟩
    have hb3' : Below w1.heap.size w1 w3:=HB2.out.trans (hb3.mono HB2.out.size)
    have hx3:=(hb3'.block _ (Ad H1.out.1)).trans H1.out.1
    have hg3:=H1.out.2.1.below hb3'
    have hJ3:=hY.keep H1.out.2.2.1 (Mv.of hb3' hs1) (KO.of hb3')
    have hI3:=hIm H1.out.2.2.2.1 (Mv.of hb3' hs1)
    have hM3:=H1.out.2.2.2.2.more hb3' hs1
    have hs3 : B≤w3.heap.size:=Nat.le_trans hs1 hb3'.size
    have k1:=cell_of_row w3 gb 1 _ _ _ hg3.cell
    have k2:=cell_of_row w3 gb 2 _ _ _ hg3.cell
    have k4:=cell_of_row w3 gb 4 _ _ _ hg3.cell
    have q0:=cell_of_row w3 wr.heap.size 0 _ _ _ hx3
    have q1:=cell_of_row w3 wr.heap.size 1 _ _ _ hx3
    simp only [List.getElem?_toArray,List.getElem?_cons_zero,List.getElem?_cons_succ] at k1 k2 k4 q0 q1
    have H3:=Ac (And.intro hx3 (And.intro hg3 (And.intro hJ3 (And.intro hI3 hM3))))
    clear hb3 hb3' hx3 hg3 hJ3 hI3 hM3 hen HB2 H1
    cases hed : Bl hi x.1 with
    | true=>
     have HR2:=Ac (HRJ.out.trans (tellT_out (by rw [Kf,hlo,hed]; rfl)))
     refine hK.out _ _ (⟨k1,k2,q0⟩) (fun hHeld=>?_)
     clear hK K
     try simp only [Act.put,List.setIfInBounds_toArray,List.set_cons_zero,List.set_cons_succ]
     refine Aa 16 hHeld ?_
     refine wpAnyH_done (by kernel_rfl) ?_ _
     clear hHeld
     have HREL:=Ac (HNX.out v' u w3 HR2.out H3.out.2.2.1 H3.out.2.1 H3.out.2.2.2.1 H3.out.2.2.2.2 hNr (by omega))
     go_wp2
     go_roundw
     case rel=>exact HREL.out
     case measure=>simp [intOf]; omega
    | false=>
     have hin : inM lo hi x.1=true:=by rw [Kf,hlo,hed]; rfl
     refine hK.out _ _ (⟨k1,k2,q0⟩) (fun hHeld=>?_)
     clear hK K
     try simp only [Act.put,List.setIfInBounds_toArray,List.set_cons_zero,List.set_cons_succ]
     refine Aa 16 hHeld ?_
     refine wpAnyH_done (by kernel_rfl) ?_ _
     clear hHeld k1 k2
     have hleq:=leq_str 9 x.1 u.told
     have HIN:=Ac hin
     clear hin
     go_wp2_with fail
     refine wp_region_held_drew (S:=fun Z=>Z.cell? ⟨wr.heap.size,0,none⟩=some (.string (Ab x.1))∧Z.cell? ⟨gb,4,none⟩=some (.string (Ab u.told))) (by kernel_rfl) (⟨q0,k4⟩) (fun hHeld=>?_)
     refine Aa 0 hHeld ?_
     refine Aa 1 hHeld ?_
     refine Aa 2 hHeld ?_
     refine Aa 3 hHeld ?_
     refine Aa 4 hHeld ?_
     refine Aa 5 hHeld ?_
     refine Aa 6 hHeld ?_
     refine wpAnyH_done (by kernel_rfl) ?_ _
     clear hHeld
     cases htb : ltB u.told x.1 with
     | false=>
      rw [htb] at hleq
      have HRB:=Ac (HRJ.out.trans (tellT_back HIN.out htb))
      have hgd : GoW B w3.drew gb gv (.func (.yield l) #[] #[]) lo hi u.told:=⟨H3.out.2.1.le,H3.out.2.1.cell⟩
      have hfa:=fail_any w3.drew l k B sts J Jx hY gb gv lo hi u.told v' u.s 122 (by decide) (hY.keep H3.out.2.2.1 ((Mv.refl _ _ _ _).drew) ((KO.refl _).drew)) hgd
      clear hgd
      go_wp2_with fail
      refine hfa.mono ?_
      rintro e w4 ⟨rfl,v4,hJx,hM4,hN4⟩
      have hI4:=hIm H3.out.2.2.2.1 ((Mv.refl B kts none w3).drew.trans (hM4.absorb (fun q hq=>hY.row (hY.keep H3.out.2.2.1 ((Mv.refl _ _ _ _).drew) ((KO.refl _).drew)) hq) hkt.1 hkt.2.2) (Nx.refl _ _))
      have hMM : Mv B (gts sts) v.ownBlock W w4:=(H3.out.2.2.2.2.drew).trans (hM4.types (Iw sts)) hNr
      have hNN : Nx W v.ownBlock v4.ownBlock:=hNr.trans hN4 (by have:=H3.out.2.2.2.2.size; exact this)
      have hG4:=(show GoW B w3.drew gb gv (.func (.yield l) #[] #[]) lo hi u.told from ⟨H3.out.2.1.le,H3.out.2.1.cell⟩).mv hM4 hY.apart.1 (hY.ne H3.out.2.2.1 H3.out.2.1)
      have HF:=Ac (And.intro hJx (And.intro hI4 (And.intro hMM (And.intro hNN hG4))))
      clear hfa hJx hM4 hN4 hI4 hMM hNN hG4
      go_wp2
      go_ret
      rw [HRB.out]
      exact ⟨rfl,v4,fun h=>(by cases h),fun _=>HF.out.1,HF.out.2.2.2.2,HF.out.2.1,HF.out.2.2.1,HF.out.2.2.2.1⟩
     | true=>
      rw [htb] at hleq
      have f4:=Af (j:=4) H3.out.2.1.cell
      have hg4:=heap_setTold (u:=.string (Ab x.1)) H3.out.2.1.cell
      have hne : wr.heap.size≠gb:=Fk H3.out.1 H3.out.2.1.cell (by decide)
      have hx4 : (w3.setCell ⟨gb,4,none⟩ (.string (Ab x.1))).heap[wr.heap.size]? = _:=(Bc hne).trans H3.out.1
      have hmJ : Mv B jts none w3 (w3.setCell ⟨gb,4,none⟩ (.string (Ab x.1))):=(Mv.refl _ _ _ _).set H3.out.2.1.cell (by decide) H3.out.2.1.le _
      have hmK : Mv B kts none w3 (w3.setCell ⟨gb,4,none⟩ (.string (Ab x.1))):=(Mv.refl _ _ _ _).set H3.out.2.1.cell hkt.2.1 H3.out.2.1.le _
      have hJ4:=hY.keep H3.out.2.2.1 hmJ ((KO.refl _).set H3.out.2.1.cell _)
      have hI4:=hIm H3.out.2.2.2.1 hmK
      have hM4 : Mv B (gts sts) v.ownBlock W (w3.setCell ⟨gb,4,none⟩ (.string (Ab x.1))):=H3.out.2.2.2.2.set H3.out.2.1.cell (by simp) H3.out.2.1.le _
      have hG4 : GoW B (w3.setCell ⟨gb,4,none⟩ (.string (Ab x.1))) gb gv (.func (.yield l) #[] #[]) lo hi x.1:=⟨H3.out.2.1.le,hg4⟩
      have H4:=Ac (And.intro hx4 (And.intro hG4 (And.intro hJ4 (And.intro hI4 hM4))))
      clear hg4 hne hx4 hmJ hmK hJ4 hI4 hM4 hG4
      generalize hw4 : w3.setCell ⟨gb,4,none⟩ (.string (Ab x.1))=w4 at *
      have y3:=cell_of_row w4 gb 3 _ _ _ H4.out.2.1.cell
      have x0:=cell_of_row w4 wr.heap.size 0 _ _ _ H4.out.1
      have x1:=cell_of_row w4 wr.heap.size 1 _ _ _ H4.out.1
      simp only [List.getElem?_toArray,List.getElem?_cons_zero,List.getElem?_cons_succ] at y3 x0 x1
      have hJd:=hY.keep H4.out.2.2.1 ((Mv.refl B jts none w4).drew.drew) ((KO.refl _).drew.drew)
      obtain ⟨fn,tmps,assign,body,hy,hRd⟩:=hY.tell v' u.s x w4.drew.drew hJd (by omega)
      have HRD:=Ac hRd
      have HJD:=Ac hJd
      clear hRd hJd
      go_wp2_with fail
      refine startIn (by kernel_rfl) ?_
      refine Gk (i:=0) (v:=?_) rfl (by kernel_rfl) (by kernel_rfl) (by kernel_rfl) (fun _ _ _ h=>h) rfl (fun _=>rfl) ?_ ?_
      rotate_left
      ·intro w; go_simp; first | done | (with_reducible rfl)
      try simp only [Act.put,List.setIfInBounds_toArray,List.set_cons_zero,List.set_cons_succ]
      refine Gk (i:=1) (v:=?_) rfl (by kernel_rfl) (by kernel_rfl) (by kernel_rfl) (fun _ _ _ h=>h) rfl (fun _=>rfl) ?_ ?_
      rotate_left
      ·intro w; go_simp; first | done | (with_reducible rfl)
      try simp only [Act.put,List.setIfInBounds_toArray,List.set_cons_zero,List.set_cons_succ]
      refine Gk (i:=2) (v:=?_) rfl (by kernel_rfl) (by kernel_rfl) (by kernel_rfl) (fun _ _ _ h=>h) rfl (fun _=>rfl) ?_ ?_
      rotate_left
      ·intro w; go_simp; first | done | (with_reducible rfl)
      try simp only [Act.put,List.setIfInBounds_toArray,List.set_cons_zero,List.set_cons_succ]
      refine twoIn (i:=3) (j:=4) rfl rfl (by kernel_rfl) rfl rfl ?_ ?_
      ·skip
       refine valW (v:=?_) ?_ ?_
       rotate_left
       ·go_simp; first | done | (with_reducible rfl)
       try simp only [Act.put,List.setIfInBounds_toArray,List.set_cons_zero,List.set_cons_succ]
       refine onlyIn (i:=4) rfl (by kernel_rfl) rfl ?_
       refine valW (v:=?_) ?_ ?_
       rotate_left
       ·go_simp; first | done | (with_reducible rfl)
       try simp only [Act.put,List.setIfInBounds_toArray,List.set_cons_zero,List.set_cons_succ]
       refine onlyIn (i:=5) rfl (by kernel_rfl) rfl ?_
       refine roundW (k:=l) (f:=fn) (tmps:=tmps) (assign:=assign) (body:=body) ?_ HRD.out ?_
       ·go_simp; first | done | (with_reducible rfl)
       rintro e w5 ⟨v5,rfl,hM5,hN5,hJ5,hJx5⟩
       refine ⟨_,rfl,?_⟩
       try simp only [Act.put,List.setIfInBounds_toArray,List.set_cons_zero,List.set_cons_succ]
       obtain ⟨fl,hfl⟩ : ∃ fl,fl=(k.st u.s x).2:=⟨_,rfl⟩
       rw [← hfl] at hJ5 hJx5 ⊢
       have hI5:=hIm H4.out.2.2.2.1 ((Mv.refl B kts none w4).drew.drew.trans (hM5.absorb (fun q hq=>hY.row HJD.out hq) hkt.1 hkt.2.2) (Nx.refl _ _))
       have hMM : Mv B (gts sts) v.ownBlock W w5:=(H4.out.2.2.2.2.drew.drew).trans (hM5.types (Iw sts)) hNr
       have hNN : Nx W v.ownBlock v5.ownBlock:=hNr.trans hN5 (by have:=H4.out.2.2.2.2.size; exact this)
       have hG5:=(show GoW B w4.drew.drew gb gv (.func (.yield l) #[] #[]) lo hi x.1 from ⟨H4.out.2.1.le,H4.out.2.1.cell⟩).mv hM5 hY.apart.1 (hY.ne HJD.out (show GoW B w4.drew.drew gb gv (.func (.yield l) #[] #[]) lo hi x.1 from ⟨H4.out.2.1.le,H4.out.2.1.cell⟩))
       have HF:=Ac (And.intro hJ5 (And.intro hJx5 (And.intro hI5 (And.intro hMM (And.intro hNN hG5)))))
       have HFL:=Ac hfl
       clear hM5 hN5 hJ5 hJx5 hI5 hMM hNN hG5 hfl y3 x0 x1 hy q0 q1 k4
       cases fl with
       | true=>
        refine Gk (i:=6) (v:=?_) rfl (by kernel_rfl) (by kernel_rfl) (by kernel_rfl) (fun _ _ _ h=>h) rfl (fun _=>rfl) ?_ ?_
        rotate_left
        ·intro w; go_simp; first | done | (with_reducible rfl)
        try simp only [Act.put,List.setIfInBounds_toArray,List.set_cons_zero,List.set_cons_succ]
        refine wpAnyIn_done (by kernel_rfl) ?_ _
        have HREL:=Ac (HNX.out v5 ⟨u.asked,x.1,(k.st u.s x).1⟩ w5 (HRJ.out.trans (tellT_on HIN.out htb HFL.out.symm)) (HF.out.1 rfl) HF.out.2.2.2.2.2 HF.out.2.2.1 HF.out.2.2.2.1 HF.out.2.2.2.2.1 (k.grows _ _))
        go_wp2
        go_roundw
        case rel=>exact HREL.out
        case measure=>simp [intOf]; omega
       | false=>
        refine Gk (i:=6) (v:=?_) rfl (by kernel_rfl) (by kernel_rfl) (by kernel_rfl) (fun _ _ _ h=>h) rfl (fun _=>rfl) ?_ ?_
        rotate_left
        ·intro w; go_simp; first | done | (with_reducible rfl)
        try simp only [Act.put,List.setIfInBounds_toArray,List.set_cons_zero,List.set_cons_succ]
        refine wpAnyIn_done (by kernel_rfl) ?_ _
        have HRB:=Ac (HRJ.out.trans (Mg HIN.out htb HFL.out.symm))
        go_wp2
        go_ret
        rw [HRB.out]
        exact ⟨rfl,v5,fun h=>(by cases h),fun _=>HF.out.2.1 trivial,HF.out.2.2.2.2.2,HF.out.2.2.1,HF.out.2.2.2.1,HF.out.2.2.2.2.1⟩
      ·skip
       refine valW (v:=?_) ?_ ?_
       rotate_left
       ·go_simp; first | done | (with_reducible rfl)
       try simp only [Act.put,List.setIfInBounds_toArray,List.set_cons_zero,List.set_cons_succ]
       refine onlyIn (i:=3) rfl (by kernel_rfl) rfl ?_
       refine valW (v:=?_) ?_ ?_
       rotate_left
       ·go_simp; first | done | (with_reducible rfl)
       try simp only [Act.put,List.setIfInBounds_toArray,List.set_cons_zero,List.set_cons_succ]
       refine onlyIn (i:=5) rfl (by kernel_rfl) rfl ?_
       refine roundW (k:=l) (f:=fn) (tmps:=tmps) (assign:=assign) (body:=body) ?_ HRD.out ?_
       ·go_simp; first | done | (with_reducible rfl)
       rintro e w5 ⟨v5,rfl,hM5,hN5,hJ5,hJx5⟩
       refine ⟨_,rfl,?_⟩
       try simp only [Act.put,List.setIfInBounds_toArray,List.set_cons_zero,List.set_cons_succ]
       obtain ⟨fl,hfl⟩ : ∃ fl,fl=(k.st u.s x).2:=⟨_,rfl⟩
       rw [← hfl] at hJ5 hJx5 ⊢
       have hI5:=hIm H4.out.2.2.2.1 ((Mv.refl B kts none w4).drew.drew.trans (hM5.absorb (fun q hq=>hY.row HJD.out hq) hkt.1 hkt.2.2) (Nx.refl _ _))
       have hMM : Mv B (gts sts) v.ownBlock W w5:=(H4.out.2.2.2.2.drew.drew).trans (hM5.types (Iw sts)) hNr
       have hNN : Nx W v.ownBlock v5.ownBlock:=hNr.trans hN5 (by have:=H4.out.2.2.2.2.size; exact this)
       have hG5:=(show GoW B w4.drew.drew gb gv (.func (.yield l) #[] #[]) lo hi x.1 from ⟨H4.out.2.1.le,H4.out.2.1.cell⟩).mv hM5 hY.apart.1 (hY.ne HJD.out (show GoW B w4.drew.drew gb gv (.func (.yield l) #[] #[]) lo hi x.1 from ⟨H4.out.2.1.le,H4.out.2.1.cell⟩))
       have HF:=Ac (And.intro hJ5 (And.intro hJx5 (And.intro hI5 (And.intro hMM (And.intro hNN hG5)))))
       have HFL:=Ac hfl
       clear hM5 hN5 hJ5 hJx5 hI5 hMM hNN hG5 hfl y3 x0 x1 hy q0 q1 k4
       cases fl with
       | true=>
        refine Gk (i:=6) (v:=?_) rfl (by kernel_rfl) (by kernel_rfl) (by kernel_rfl) (fun _ _ _ h=>h) rfl (fun _=>rfl) ?_ ?_
        rotate_left
        ·intro w; go_simp; first | done | (with_reducible rfl)
        try simp only [Act.put,List.setIfInBounds_toArray,List.set_cons_zero,List.set_cons_succ]
        refine wpAnyIn_done (by kernel_rfl) ?_ _
        have HREL:=Ac (HNX.out v5 ⟨u.asked,x.1,(k.st u.s x).1⟩ w5 (HRJ.out.trans (tellT_on HIN.out htb HFL.out.symm)) (HF.out.1 rfl) HF.out.2.2.2.2.2 HF.out.2.2.1 HF.out.2.2.2.1 HF.out.2.2.2.2.1 (k.grows _ _))
        go_wp2
        go_roundw
        case rel=>exact HREL.out
        case measure=>simp [intOf]; omega
       | false=>
        refine Gk (i:=6) (v:=?_) rfl (by kernel_rfl) (by kernel_rfl) (by kernel_rfl) (fun _ _ _ h=>h) rfl (fun _=>rfl) ?_ ?_
        rotate_left
        ·intro w; go_simp; first | done | (with_reducible rfl)
        try simp only [Act.put,List.setIfInBounds_toArray,List.set_cons_zero,List.set_cons_succ]
        refine wpAnyIn_done (by kernel_rfl) ?_ _
        have HRB:=Ac (HRJ.out.trans (Mg HIN.out htb HFL.out.symm))
        go_wp2
        go_ret
        rw [HRB.out]
        exact ⟨rfl,v5,fun h=>(by cases h),fun _=>HF.out.2.1 trivial,HF.out.2.2.2.2.2,HF.out.2.2.1,HF.out.2.2.2.1,HF.out.2.2.2.2.1⟩
  ·obtain rfl : j=ps.length:=by omega
   rw [List.drop_length,tellT_nil] at hRj
   have HF:=Ac (And.intro hRj (And.intro hJr (And.intro hgr (And.intro hIr (And.intro hMr hNr)))))
   clear hRj hJr hgr hIr hMr hNr
   go_wp2
   go_ret
   rw [HF.out.1]
   exact ⟨rfl,v',fun _=>HF.out.2.1,fun h=>(by cases h),HF.out.2.2.1,HF.out.2.2.2.1,HF.out.2.2.2.2.1,HF.out.2.2.2.2.2⟩
end Go.Proofs.YtckejblkppllaaaGreatDoor
namespace Go.Proofs.YtckejblkppllaaaGreatDoor
open Go.RowKit
theorem YieldOk.neq {σ : Type} {l : Nat} {k : Sink σ} {B : Nat} {sts : List TypeId} {J Jx : Value→σ→World→Prop} (hY : YieldOk l k B sts J Jx) {v : Value} {s : σ} {W : World} (hJ : J v s W) {b : Nat} {cs : Array Value} {t : TypeId} {fr : Nat × Nat} (h : W.heap[b]? = some (.cells cs t fr)) (ht : t≠135) : some b≠v.ownBlock:=by
 intro e
 obtain ⟨cs',fr',hq⟩:=hY.row hJ e.symm
 rw [h] at hq
 injection hq with hq
 injection hq with _ hq
 exact ht hq
theorem Is {w : World} {B n k : Nat} {e : TypeId} {v u : Value} {xs : List Value} (h : w.ownsRow B e k v n xs) (hu : ∀ q,u.ownBlock=some q→q<B) : v.ownBlock=none∨v.ownBlock≠u.ownBlock:=by
 cases hv : v.ownBlock with
 | none=>exact .inl rfl
 | some q=>
  refine .inr fun hq=>?_
  have h1:=(h.lt q hv).1
  have h2:=hu q hq.symm
  omega
def IntoOk {σ : Type} (l : Nat) (k : Sink σ) (fd : Bs→Option Bs) (B : Nat) (sts : List TypeId) (J Jx : Value→σ→World→Prop) (I : World→List Bs→Prop) (gb : Nat) (gv : Value) (lo hi : Bs) (d : Nat) : Prop:=
 ∀ (W : World) (v : Value) (t : Tst σ) (er : Int) (n : A2) (vk vp : Value),J v t.s W→GoW B W gb gv (.func (.yield l) #[] #[]) lo hi t.told→I W t.asked→(er=0→RightM n∧n.1≤d) →
  (∀ W',Mv B (gts sts) v.ownBlock W W'→Ls W'.heap.size W' 3 Au vk n.2.2)→(∀ W',Mv B (gts sts) v.ownBlock W W'→Ls W'.heap.size W' 2 Ak vp n.2.1) →
  t.asked.length+d * (Am n.2.2).toNat≤1000000000→k.cap t.s+(n.2.1.length+(Am n.2.2).toNat)≤1000000 →
  Calls Tryz.prog 151 #[.pointer (some ⟨gb,0,none⟩), .agg #[.int .i64 n.1,vk,vp], .int .i64 er] W fun e W'=>Fr B sts J Jx I gb gv (.func (.yield l) #[] #[]) lo hi v W (D2 k (goT k fd lo hi d) lo hi (er,n) t) e W'
theorem eachT_nil {σ : Type} (f : Ah→Tst σ→Tst σ × Bool) (lo hi : Bs) (t : Tst σ) : Bx f lo hi [] t=(t,true):=rfl
theorem eachT_skip {σ : Type} {f : Ah→Tst σ→Tst σ × Bool} {lo hi : Bs} {q : Ah} {r : List Ah} {t : Tst σ} (h : ltB q.1 lo=true) (h2 : Bl hi q.1=false) : Bx f lo hi (q :: r) t=Bx f lo hi r t:=by rw [Bx,h,h2]; rfl
theorem eachT_last {σ : Type} {f : Ah→Tst σ→Tst σ × Bool} {lo hi : Bs} {q : Ah} {r : List Ah} {t : Tst σ} (h : ltB q.1 lo=true) (h2 : Bl hi q.1=true) : Bx f lo hi (q :: r) t=(t,true):=by rw [Bx,h,h2]; rfl
theorem eachT_stop {σ : Type} {f : Ah→Tst σ→Tst σ × Bool} {lo hi : Bs} {q : Ah} {r : List Ah} {t : Tst σ} (h : ltB q.1 lo=false) (h3 : (f q t).2=false) : Bx f lo hi (q :: r) t=((f q t).1,false):=by rw [Bx,h,h3]; rfl
theorem eachT_on {σ : Type} {f : Ah→Tst σ→Tst σ × Bool} {lo hi : Bs} {q : Ah} {r : List Ah} {t : Tst σ} (h : ltB q.1 lo=false) (h3 : (f q t).2=true) (h2 : Bl hi q.1=false) : Bx f lo hi (q :: r) t=Bx f lo hi r (f q t).1:=by rw [Bx,h,h3,h2]; rfl
theorem eachT_end {σ : Type} {f : Ah→Tst σ→Tst σ × Bool} {lo hi : Bs} {q : Ah} {r : List Ah} {t : Tst σ} (h : ltB q.1 lo=false) (h3 : (f q t).2=true) (h2 : Bl hi q.1=true) : Bx f lo hi (q :: r) t=((f q t).1,true):=by rw [Bx,h,h3,h2]; rfl
set_option maxRecDepth 20000 in
theorem O1 (W : World) (gb : Nat) (lv : Int) (pa : Option Addr) (pm pc : Nat) (ka : Option Addr) (kc : Nat) :
  Calls Tryz.prog 186 #[.pointer (some ⟨gb,0,none⟩), .agg #[.int .i64 lv, .slice ka 0 kc, .slice pa pm pc]] W fun e W'=>e = .returned (.bool true)∧Below W.heap.size W W':=by
 have hb0 : Below W.heap.size W (W.alloc (.cells #[.int .i64 lv, .slice ka 0 kc, .slice pa pm pc] 240)):=(Below.refl _ _).alloc (Nat.le_refl _) _
 have HB:=Ac hb0
 clear hb0
 go_enter Tryz.func186,Tryz.ntmps186
 go_wp2_with fail
 go_loopw [11] (fun q wr=>q = .int .i64 0∧wr=W.alloc (.cells #[.int .i64 lv, .slice ka 0 kc, .slice pa pm pc] 240)) (fun _ _=>0)
 case atStart=>exact ⟨rfl,rfl⟩
 case round=>
  obtain ⟨rfl,rfl⟩:=hrel
  go_wp2
  go_ret
  exact ⟨rfl,HB.out⟩
end Go.Proofs.YtckejblkppllaaaGreatDoor
