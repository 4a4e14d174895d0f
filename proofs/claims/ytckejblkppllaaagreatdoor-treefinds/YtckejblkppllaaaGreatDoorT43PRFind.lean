/-
  A key found by the reference. Conditions: the objects lie there; texts within reach.
-/
import Derived.Test.YtckejblkppllaaaGreatDoorT30PFind
namespace Go.Proofs.YtckejblkppllaaaGreatDoor
open Go.RowKit
theorem lss_strF (t : TypeId) (a b : Bs) : binOp .lss t (.string (Ab a)) (.string (Ab b))=pure (.bool (ltB a b)):=by simp [binOp,Op.stringOp,toLr,ltB]
theorem Jj {fn : Func} {t u v x : Tmp} (h : fn.results = #[.tmp t, .tmp u, .tmp v, .tmp x]) (tmps : Array Value) (P : Program) (w : World) :
  (results fn tmps).run P w = .ok (.tuple #[tmps.getD t undef,tmps.getD u undef,tmps.getD v undef,tmps.getD x undef]) w:=by
 simp [results,h]
def lvMore (v : Value) : Nat:=if intOf v<0 then 100 else (intOf v).toNat
set_option maxRecDepth 40000 in
set_option maxHeartbeats 3200000 in
theorem rfind_any (w : World) (vo : Value) (objs : List Ag) (hv : Ls w.heap.size w 2 Ak vo objs) (hob : ∀ o∈objs,o.2.length≤140737488351232) (root key : Bs) (hkey : As key=true) :
  Calls Tryz.prog 32 #[vo, .string (Ab root), .string (Ab key)] w fun e w'=>∃ va,e = .returned (.tuple #[.string (Ab (Cq (Aj objs) root key []).1), .bool (Cq (Aj objs) root key []).2.1,va, .int .i64 (Cq (Aj objs) root key []).2.2.2])∧Rw w.heap.size w' 9 1 idC va (Cq (Aj objs) root key []).2.2.1∧Below w.heap.size w w':=by
 have hs:=A1 key
 have hkl : 1≤key.length∧key.length≤64:=by unfold As at hkey; simpa using hkey
 have t1 : decide ((key.length : Int)<1)=false:=decide_eq_false (by omega)
 have t2 : decide ((64 : Int)<(key.length : Int))=false:=decide_eq_false (by omega)
 obtain ⟨R,hR⟩ : ∃ R,R=Cq (Aj objs) root key []:=⟨_,rfl⟩
 rw [← hR]
 have hR2 : R=Du (Aj objs) key 22 (Ao (Aj objs) (A8 root) (-1)) ([] ++ [root]):=by rw [hR]; unfold Cq; rw [if_neg (by rw [hkey]; simp)]
 have HV:=Ac hv
 have HOB:=Ac hob
 have HR:=Ac hR2
 have hsh:=fun id b h=>Ji hob id b h
 have HSH:=Ac hsh
 obtain ⟨oa,oc,rfl,-⟩:=Dp hv
 have hb0 : Below w.heap.size w (w.alloc (.cells #[.string ⟨#[]⟩, .string (Ab root), .int .i64 0] 125)):=(Below.refl _ _).alloc (Nat.le_refl _) _
 have hx0:=heap_last w (.cells #[.string ⟨#[]⟩, .string (Ab root), .int .i64 0] 125) _ rfl
 have H0:=Ac (And.intro hb0 hx0)
 have tk:=toL key
 clear hb0 hx0 hv hob hR hR2 hkey hkl hsh
 go_enter Tryz.func32,Tryz.ntmps32
 go_wp2_with fail
 go_loopw [10,12] (fun t u wr=>∃ (k : Ah) (level : Int) (a : List Bs) (d : Nat),u = .int .i64 level∧Rw w.heap.size wr 9 1 idC t a∧wr.heap[w.heap.size]? = some (.cells #[.string (Ab k.1), .string (Ab k.2.1), .int .i64 k.2.2] 125)∧R=Du (Aj objs) key d (Ao (Aj objs) k level) (a ++ [k.2.1])∧(level = -1∧d=22∨0≤level∧level≤20∧level<d)∧(0≤level→A6 k=true)∧Cg k.2.2∧1≤d∧a.length+d≤30∧Below w.heap.size w wr)
  (fun _ u _=>lvMore u)
 case atStart=>exact ⟨A8 root,-1,[],22,rfl,World.ownsRow_nil _ _ _ _,H0.out.2,HR.out, .inl ⟨rfl,rfl⟩,fun h=>absurd h (by omega),by unfold Cg; simp,by omega,by simp,H0.out.1⟩
 case round=>
  clear HR H0
  obtain ⟨k,level,a,d,rfl,hrow,hx,hRd,hlv,hrl,h64,hd1,hal,hb⟩:=hrel
  obtain ⟨va',w1,hrun,hrow1,hgr,-⟩:=app_id wr w.heap.size _ a k.2.1 hrow hb.size (by omega)
  have hrowA:=World.ownsRow.alloc hrow (.cells #[.string (Ab k.2.1)] 9)
  have hxA:=(heap_past wr (.cells #[.string (Ab k.2.1)] 9) _ (Ad hx)).trans hx
  have hx1:=Ej hrowA hgr hxA (by decide)
  have hb1 : Below w.heap.size w w1:=(hb.alloc hb.size _).trans ((Below.refl _ _).grown hgr (by simp; have:=hb.size; omega) (fun q hq=>(hrowA.lt q hq).1))
  have hs1:=hb1.size
  have c1:=cell_of_row wr w.heap.size 1 _ _ _ hx
  have e0:=cell_of_row w1 w.heap.size 0 _ _ _ hx1
  have e1:=cell_of_row w1 w.heap.size 1 _ _ _ hx1
  have e2:=cell_of_row w1 w.heap.size 2 _ _ _ hx1
  simp only [List.getElem?_toArray,List.getElem?_cons_zero,List.getElem?_cons_succ] at c1 e0 e1 e2
  have hnode:=node_any w1 (.slice oa objs.length oc) objs ((HV.out.keep hb1).up hs1) HOB.out k h64 level (by omega) (by omega)
  have hok:=fun h=>Eg (fd:=Aj objs) (k:=k) (level:=level) HSH.out h
  obtain ⟨er,n,hern⟩ : ∃ er n,Ao (Aj objs) k level=(er,n):=⟨_,_,rfl⟩
  rw [hern] at hnode hRd hok
  unfold nodeSaid at hnode
  simp only at hnode hok
  have HRUN:=Ac hrun
  have H1:=Ac (And.intro hrow1 (And.intro hx1 hb1))
  have HRD:=Ac (And.intro hRd hok)
  obtain ⟨ra,rm,rc,rfl⟩:=Av hrow
  obtain ⟨ra',rm',rc',rfl⟩:=Av hrow1
  clear hrow hx hRd hb hrun hrow1 hgr hrowA hxA hx1 hb1 hok hern
  go_wp2_with (at_builtin; refine wpList_plain rfl (fun K hK=>Cz (.tmp 27) (.tmp 30) 76 rfl rfl rfl HRUN.out (hK _ _ ?_)))
  go_wp2_with fail
  refine hnode.mono ?_
  rintro e w2 ⟨⟨vp,vk,rfl,hrp,hrk⟩,hb2⟩
  have hx2:=(hb2.block _ (Ad H1.out.2.1)).trans H1.out.2.1
  have hlw2:=Ac (Nat.ne_of_gt (Ad hx2))
  have hrow2:=A0 H1.out.1 hb2
  have hB2:=H1.out.2.2.trans (hb2.mono H1.out.2.2.size)
  have hs2:=hb2.size
  obtain ⟨pa,pm,pc,rfl⟩:=Av hrp
  obtain ⟨ka,km,kc,rfl⟩:=Av hrk
  have hb3 : Below w2.heap.size w2 (w2.alloc (.cells #[.slice pa pm pc, .int .i64 n.1, .slice ka km kc] 131)):=(Below.refl _ _).alloc (Nat.le_refl _) _
  have hy3:=heap_last w2 (.cells #[.slice pa pm pc, .int .i64 n.1, .slice ka km kc] 131) _ rfl
  have hx3:=(hb3.block _ (Ad hx2)).trans hx2
  have hrow3:=A0 hrow2 hb3
  have hB3:=hB2.trans (hb3.mono hB2.size)
  have hLk:=Bi Ev (A0 hrk hb3)
  have hLp:=Bi Dr (A0 hrp hb3)
  generalize hw3 : w2.alloc (.cells #[.slice pa pm pc, .int .i64 n.1, .slice ka km kc] 131)=w3 at *
  have n0:=cell_of_row w3 w2.heap.size 0 _ _ _ hy3
  have n1:=cell_of_row w3 w2.heap.size 1 _ _ _ hy3
  have n2:=cell_of_row w3 w2.heap.size 2 _ _ _ hy3
  simp only [List.getElem?_toArray,List.getElem?_cons_zero,List.getElem?_cons_succ] at n0 n1 n2
  have H3:=Ac (And.intro hrow3 (And.intro hx3 hB3))
  obtain ⟨la,lc,hlp1,p1,p2,p4⟩:=hLp
  obtain ⟨ja,jc,hlk1,k1,k2,k4⟩:=hLk
  injection hlp1 with x1 x2 x3
  injection hlk1 with x4 x5 x6
  subst x1 x2 x3 x4 x5 x6
  unfold maxLen at p2 k2
  clear hnode hb2 hx2 hrow2 hB2 hb3 hy3 hx3 hrow3 hB3 hrp hrk c1 e0 e1 e2 H1 HRUN
  by_cases he : er=0
  ·have q0 : (er != 0)=false:=by rw [he]; rfl
   obtain ⟨hN,hfit⟩:=HRD.out.2 he
   by_cases hl0 : n.1=0
   ·have l0 : (n.1 == 0)=true:=by rw [hl0]; rfl
    have hRv:=HRD.out.1.trans (Lh (a:=(er,n)) hd1 he hl0)
    have HRV:=Ac hRv
    clear hRv he hl0 hN hfit HRD k4
    go_wp2_with fail
    go_loopw [15] (fun t wr'=>∃ j : Nat,j≤n.2.1.length∧t = .int .i64 j∧(∀ o∈n.2.1.take j,(fun q : Ag=>q.1 == key) o=false)∧w3=wr')
     (fun t _=>n.2.1.length - (intOf t).toNat)
    case atStart=>exact ⟨0,by omega,rfl,by simp,rfl⟩
    case round=>
     obtain ⟨j,hj,rfl,hno,rfl⟩:=hrel
     by_cases hlt : j<n.2.1.length
     ·obtain ⟨b,off,rfl,hbB,hc⟩:=p4 (by intro e; rw [e] at hlt; simp at hlt)
      have d0:=hc j hlt 0 _ rfl
      have d1:=hc j hlt 1 _ rfl
      simp only [Nat.add_zero] at d0
      have hit:=fun h=>Ja (f:=fun q : Ag=>q.1 == key) hlt h hno
      have miss:=fun h=>Hv (f:=fun q : Ag=>q.1 == key) hlt h hno
      generalize n.2.1[j]=x at *
      have tx:=toL x.1
      have HHM:=Ac (And.intro hit miss)
      clear hit miss hno hc p4
      cases hlb : (x.1 == key) with
      | true=>
       have hE:=HHM.out.1 hlb
       have HE:=Ac (HRV.out.trans (by show leafF (n.2.1.find? (fun q : Ag=>q.1 == key)) _=(x.2,true,a ++ [k.2.1],0); rw [hE]; rfl))
       clear hE
       go_wp2
       (try simp only [Exit.inBlock,Exit.then]); refine bodyPost_ret (Jj rfl _ _ _) rfl ?_
       rw [HE.out]
       exact ⟨_,rfl,H3.out.1,H3.out.2.2⟩
      | false=>
       have HE:=Ac (HHM.out.2 hlb)
       go_wp2
       go_roundw
       case rel=>exact ⟨j+1,by omega,by go_num,HE.out,trivial⟩
       case measure=>simp [intOf]; omega
     ·obtain rfl : j=n.2.1.length:=by omega
      rw [List.take_length] at hno
      have hE:=I3 (f:=fun q : Ag=>q.1 == key) hno
      have HE:=Ac (HRV.out.trans (by show leafF (n.2.1.find? (fun q : Ag=>q.1 == key)) _=([],false,a ++ [k.2.1],0); rw [hE]; rfl))
      clear hE hno p4
      go_wp2
      (try simp only [Exit.inBlock,Exit.then]); refine bodyPost_ret (Jj rfl _ _ _) rfl ?_
      rw [HE.out]
      exact ⟨_,rfl,H3.out.1,H3.out.2.2⟩
   ·have l0 : (n.1 == 0)=false:=by simpa using hl0
    have hlo:=hN.lo
    have hhi:=hN.hi
    have hnl : n.1=level∨level = -1:=by
     rcases hfit with h | h
     ·right; omega
     ·left; exact (Fw h).1
    have HN:=Ac (And.intro hN (And.intro he hl0))
    clear hN he hl0 hfit p4
    go_wp2_with fail
    go_loopw [16] (fun t wr'=>∃ j : Nat,j≤n.2.2.length∧t = .int .i64 j∧(∀ o∈n.2.2.take j,(fun q : Ah=>!ltB q.1 key) o=false)∧w3=wr')
     (fun t _=>n.2.2.length - (intOf t).toNat)
    case atStart=>exact ⟨0,by omega,rfl,by simp,rfl⟩
    case round=>
     obtain ⟨j,hj,rfl,hno,rfl⟩:=hrel
     by_cases hlt : j<n.2.2.length
     ·obtain ⟨b,off,rfl,hbB,hc⟩:=k4 (by intro e; rw [e] at hlt; simp at hlt)
      have d0:=hc j hlt 0 _ rfl
      have d1:=hc j hlt 1 _ rfl
      have d2:=hc j hlt 2 _ rfl
      simp only [Nat.add_zero] at d0
      have hit:=fun h=>Ja (f:=fun q : Ah=>!ltB q.1 key) hlt h hno
      have miss:=fun h=>Hv (f:=fun q : Ah=>!ltB q.1 key) hlt h hno
      have hxl:=HN.out.1.links.2.1 n.2.2[j] (by simp)
      generalize n.2.2[j]=x at *
      have hls:=lss_strF 9 x.1 key
      have HHM:=Ac (And.intro hit miss)
      have hj2 : ((j : Int) == (n.2.2.length : Int))=false:=by rw [beq_eq_false_iff_ne]; omega
      clear hit miss hno hc k4
      cases hlb : ltB x.1 key with
      | true=>
       rw [hlb] at hls
       have HE:=Ac (HHM.out.2 (by simp only [hlb]; rfl))
       clear hj2
       go_wp2
       go_roundw
       case rel=>exact ⟨j+1,by omega,by go_num,HE.out,trivial⟩
       case measure=>simp [intOf]; omega
      | false=>
       rw [hlb] at hls
       have hE:=HHM.out.1 (by simp only [hlb]; rfl)
       obtain ⟨d',rfl⟩ : ∃ e,d=e+1:=⟨d - 1,by omega⟩
       have hRs:=HRD.out.1.trans (Ng (a:=(er,n)) HN.out.2.1 HN.out.2.2 hE)
       have hm:=((Ee x).1 hxl).2.2
       have h64' : Cg x.2.2:=by unfold Cg; omega
       have HRS:=Ac hRs
       have HXL:=Ac hxl
       have hn1 : 1≤n.1:=by have:=HN.out.2.2; omega
       have hlv2 : 0≤n.1 - 1∧n.1 - 1≤20∧n.1 - 1<(d' : Int):=by omega
       have hme : lvMore (.int .i64 (n.1 - 1))<lvMore (.int .i64 level):=by
        show (if n.1 - 1<0 then 100 else (n.1 - 1).toNat)<(if level<0 then 100 else level.toNat)
        split <;> split <;> omega
       have HME:=Ac hme
       have hx3:=H3.out.2.1
       have y0:=cell_of_row w3 w.heap.size 0 _ _ _ hx3
       have y1:=cell_of_row w3 w.heap.size 1 _ _ _ hx3
       have y2:=cell_of_row w3 w.heap.size 2 _ _ _ hx3
       simp only [List.getElem?_toArray,List.getElem?_cons_zero,List.getElem?_cons_succ] at y0 y1 y2
       have f0:=Af (j:=0) hx3
       have f1:=Af (j:=1) hx3
       have f2:=Af (j:=2) hx3
       have hx4:=Bm (u0:=.string (Ab x.1)) (u1:=.string (Ab x.2.1)) (u2:=.int .i64 x.2.2) hx3
       have hr4:=Ap (j:=2) (Ap (j:=1) (Ap (j:=0) H3.out.1 hx3 (by decide) (.string (Ab x.1))) (An hx3) (by decide) (.string (Ab x.2.1))) (Az (An hx3)) (by decide) (.int .i64 x.2.2)
       have hb4:=((H3.out.2.2.setCell (p:=⟨w.heap.size,0,none⟩) (Nat.le_refl _) (.string (Ab x.1))).setCell (p:=⟨w.heap.size,1,none⟩) (Nat.le_refl _) (.string (Ab x.2.1))).setCell (p:=⟨w.heap.size,2,none⟩) (Nat.le_refl _) (.int .i64 x.2.2)
       have hy4 : (((w3.setCell ⟨w.heap.size,0,none⟩ (.string (Ab x.1))).setCell ⟨w.heap.size,1,none⟩ (.string (Ab x.2.1))).setCell ⟨w.heap.size,2,none⟩ (.int .i64 x.2.2)).cell? ⟨w2.heap.size,1,none⟩=some (.int .i64 n.1):=by
        have hne : w2.heap.size≠w.heap.size:=hlw2.out
        rw [Lm hne,Lm hne,Lm hne]
        exact n1
       have H4:=Ac (And.intro hx4 (And.intro hr4 hb4))
       have hwi : IntKind.i64.wrap (n.1 - 1)=n.1 - 1:=by rw [IntKind.wrap_i64]; omega
       clear hE hRs hxl hm hme hx3 hx4 hr4 hb4
       go_wp2
       go_roundw
       case rel=>exact ⟨x,n.1 - 1,a ++ [k.2.1],d',rfl,H4.out.2.1,H4.out.1,HRS.out, .inr hlv2,fun _=>HXL.out,h64',by omega,by simp; omega,H4.out.2.2⟩
       case measure=>exact HME.out
     ·obtain rfl : j=n.2.2.length:=by omega
      rw [List.take_length] at hno
      have hE:=I3 (f:=fun q : Ah=>!ltB q.1 key) hno
      have HE:=Ac (HRD.out.1.trans (Oc (a:=(er,n)) hd1 HN.out.2.1 HN.out.2.2 hE))
      have hj2 : ((n.2.2.length : Int) == (n.2.2.length : Int))=true:=by simp
      clear hE hno k4
      go_wp2
      (try simp only [Exit.inBlock,Exit.then]); refine bodyPost_ret (Jj rfl _ _ _) rfl ?_
      rw [HE.out]
      exact ⟨_,rfl,H3.out.1,H3.out.2.2⟩
  ·have q0 : (er != 0)=true:=by simpa using he
   have HE:=Ac (HRD.out.1.trans (restM_err (a:=(er,n)) hd1 he))
   clear he p4 k4
   go_wp2
   (try simp only [Exit.inBlock,Exit.then]); refine bodyPost_ret (Jj rfl _ _ _) rfl ?_
   rw [HE.out]
   exact ⟨_,rfl,H3.out.1,H3.out.2.2⟩
end Go.Proofs.YtckejblkppllaaaGreatDoor
