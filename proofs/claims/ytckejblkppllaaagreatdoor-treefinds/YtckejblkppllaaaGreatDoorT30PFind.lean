/-
  A key found by the program, by any get. Conditions: the get keeps its word; not too much was asked.
-/
import Derived.Test.YtckejblkppllaaaGreatDoorT29PKid
import Derived.Test.YtckejblkppllaaaGreatDoorT19PRMany
namespace Go.Proofs.YtckejblkppllaaaGreatDoor
open Go.RowKit
abbrev Fnd:=Bs × Bool × List Bs × Int
def leafF (o : Option Ag) (asked : List Bs) : Fnd:=match o with | some p=>(p.2,true,asked,0) | none=>([],false,asked,0)
def Du (fd : Bs→Option Bs) (key : Bs) : Nat→Int × A2→List Bs→Fnd
 | 0,_,asked=>([],false,asked,0)
 | d+1,a,asked=>
  if a.1≠0 then ([],false,asked,a.1)
  else if a.2.1=0 then leafF (valM a.2 key) asked
  else match kidM a.2 key with
   | none=>([],false,asked,0)
   | some q=>Du fd key d (Ao fd q (a.2.1 - 1)) (asked ++ [q.2.1])
def Cq (fd : Bs→Option Bs) (root key : Bs) (asked : List Bs) : Fnd:=if As key=false then ([],false,asked,2) else Du fd key 22 (Ao fd (A8 root) (-1)) (asked ++ [root])
theorem restM_err {fd : Bs→Option Bs} {key : Bs} {d : Nat} {a : Int × A2} {asked : List Bs} (hd : 1≤d) (h : a.1≠0) : Du fd key d a asked=([],false,asked,a.1):=by
 obtain ⟨d,rfl⟩ : ∃ e,d=e+1:=⟨d - 1,by omega⟩
 rw [Du,if_pos h]
theorem Lh {fd : Bs→Option Bs} {key : Bs} {d : Nat} {a : Int × A2} {asked : List Bs} (hd : 1≤d) (h : a.1=0) (h0 : a.2.1=0) : Du fd key d a asked=leafF (valM a.2 key) asked:=by
 obtain ⟨d,rfl⟩ : ∃ e,d=e+1:=⟨d - 1,by omega⟩
 rw [Du,if_neg (by rw [h]; simp),if_pos h0]
theorem Oc {fd : Bs→Option Bs} {key : Bs} {d : Nat} {a : Int × A2} {asked : List Bs} (hd : 1≤d) (h : a.1=0) (h0 : a.2.1≠0) (hk : kidM a.2 key=none) : Du fd key d a asked=([],false,asked,0):=by
 obtain ⟨d,rfl⟩ : ∃ e,d=e+1:=⟨d - 1,by omega⟩
 rw [Du,if_neg (by rw [h]; simp),if_neg h0,hk]
theorem Ng {fd : Bs→Option Bs} {key : Bs} {d : Nat} {a : Int × A2} {asked : List Bs} {q : Ah} (h : a.1=0) (h0 : a.2.1≠0) (hk : kidM a.2 key=some q) : Du fd key (d+1) a asked=Du fd key d (Ao fd q (a.2.1 - 1)) (asked ++ [q.2.1]):=by
 rw [Du,if_neg (by rw [h]; simp),if_neg h0,hk]
def lvAt (q : Nat) (w : World) : Nat:=match w.cell? ⟨q,0,none⟩ with | some (.int _ z)=>z.toNat | _=>0
theorem lvAt_of {q : Nat} {w : World} {z : Int} {v1 v2 : Value} {t : TypeId} (h : w.heap[q]? = some (.cells #[.int .i64 z,v1,v2] t)) : lvAt q w=z.toNat:=by
 have:=cell_of_row w q 0 _ _ _ h
 simp only [List.getElem?_toArray,List.getElem?_cons_zero] at this
 unfold lvAt
 rw [this]
theorem Ik {fd : Bs→Option Bs} {k : Ah} {level : Int} (h : (Ao fd k level).1≠0) : (Ao fd k level).2=(0,[],[]):=by
 unfold Ao at h ⊢
 cases hf : fd k.2.1 with
 | none=>rfl
 | some b=>
  rw [hf] at h
  cases hn : Dd b with
  | none=>simp only [hn]
  | some n=>
   simp only [hn] at h ⊢
   by_cases hc : level<0∨D8 n k level=true
   ·rw [if_pos hc] at h; exact absurd rfl h
   ·rw [if_neg hc]
set_option maxRecDepth 40000 in
set_option maxHeartbeats 3200000 in
theorem find_prog (w : World) (g : Nat) (caps : Array Value) (fd : Bs→Option Bs) (B : Nat) (ts : List TypeId) (I : World→List Bs→Prop) (hG : GetOk g caps fd B ts I) (root key : Bs) (hkey : As key=true) (asked : List Bs) (hI : I w asked) (hn : asked.length≤1000) :
  Calls Tryz.prog 100 #[.func (.func g) #[] caps, .string (Ab root), .string (Ab key)] w fun e w'=>e = .returned (.tuple #[.string (Ab (Cq fd root key asked).1), .bool (Cq fd root key asked).2.1, .int .i64 (Cq fd root key asked).2.2.2])∧I w' (Cq fd root key asked).2.2.1∧Mv B ats none w w':=by
 have hB:=hG.le _ _ hI
 obtain ⟨R,hR⟩ : ∃ R,R=Cq fd root key asked:=⟨_,rfl⟩
 rw [← hR]
 have hR2 : R=Du fd key 22 (Ao fd (A8 root) (-1)) (asked ++ [root]):=by rw [hR]; unfold Cq; rw [if_neg (by rw [hkey]; simp)]
 have hb0 : Below w.heap.size w (w.alloc (.cells #[.func (.func g) #[] caps] 238)):=(Below.refl _ _).alloc (Nat.le_refl _) _
 have ha0:=heap_last w (.cells #[.func (.func g) #[] caps] 238) _ rfl
 have hs0 : (w.alloc (.cells #[.func (.func g) #[] caps] 238)).heap.size=w.heap.size+1:=by simp
 generalize hw0 : w.alloc (.cells #[.func (.func g) #[] caps] 238)=w0 at *
 have k0:=cell_of_row w0 w.heap.size 0 _ _ _ ha0
 simp only [List.getElem?_toArray,List.getElem?_cons_zero] at k0
 have hask:=ask_any w0 g caps fd B ts I hG root asked (hG.below hI hb0) (by omega)
 have hok:=fun h=>(Eg (fd:=fd) (k:=A8 root) (level:=-1) hG.short h).1
 have hze:=fun h=>Ik (fd:=fd) (k:=A8 root) (level:=-1) h
 obtain ⟨er,n,hern⟩ : ∃ er n,Ao fd (A8 root) (-1)=(er,n):=⟨_,_,rfl⟩
 rw [hern] at hask hR2 hok hze
 simp only at hask hok hze
 unfold En at hask
 have H0:=Ac (And.intro hb0 ha0)
 have HG:=Ac hG
 have HR:=Ac (And.intro hR2 (And.intro hok hze))
 have HK:=Ac hkey
 clear hb0 ha0 hG hI hR hR2 hern hok hkey hze
 go_enter Tryz.func100,Tryz.ntmps100
 go_wp2_with fail
 refine (G3 _ key).mono ?_
 rintro e w ⟨rfl,rfl⟩
 rw [HK.out]
 go_wp2_with fail
 try rw [hw0]
 refine hask.mono ?_
 rintro e w1 ⟨⟨vk,vp,rfl,hrk,hrp⟩,hI1,hm1,-⟩
 have hM1 : Mv B ats none w w1:=(Mv.of H0.out.1 hB).trans hm1 (Nx.refl _ _)
 have ha1:=hm1.k _ _ _ _ H0.out.2 (by decide) (by simp)
 have hs1 : w.heap.size+1≤w1.heap.size:=by have:=hm1.size; omega
 have hrk1:=Dh hrk (show w.heap.size≤w0.heap.size by omega)
 have hrp1:=Dh hrp (show w.heap.size≤w0.heap.size by omega)
 obtain ⟨ka,km,kc,rfl⟩:=Av hrk
 obtain ⟨pa,pm,pc,rfl⟩:=Av hrp
 have hb2 : Below w1.heap.size w1 (w1.alloc (.cells #[.int .i64 n.1, .slice ka km kc, .slice pa pm pc] 240)):=(Below.refl _ _).alloc (Nat.le_refl _) _
 have hy2:=heap_last w1 (.cells #[.int .i64 n.1, .slice ka km kc, .slice pa pm pc] 240) _ rfl
 have ha2:=(hb2.block _ (Ad ha1)).trans ha1
 have hI2:=HG.out.below hI1 hb2
 have hM2:=hM1.more hb2 (by omega)
 have hrk2:=A0 hrk1 hb2
 have hrp2:=A0 hrp1 hb2
 obtain ⟨q,hq⟩ : ∃ q,q=w1.heap.size:=⟨_,rfl⟩
 rw [← hq] at hy2
 generalize hw2 : w1.alloc (.cells #[.int .i64 n.1, .slice ka km kc, .slice pa pm pc] 240)=w2 at *
 have hqr : w1.heap.size=q:=hq.symm
 have hqw : w.heap.size+1≤q:=by omega
 have H2:=Ac (And.intro ha2 (And.intro hy2 (And.intro hI2 (And.intro hM2 (And.intro hrk2 hrp2)))))
 clear hask hrk hrp hI1 hm1 hM1 ha1 hrk1 hrp1 hb2 hy2 ha2 hI2 hM2 hrk2 hrp2 hq k0 H0
 go_wp2_with fail
 go_loopw [11] (fun t wr=>∃ (er : Int) (n : A2) (a : List Bs) (d : Nat) (vk vp : Value),t = .int .i64 er∧1≤d∧d≤22∧R=Du fd key d (er,n) a∧(er=0→RightM n∧n.1<d)∧(er≠0→n=(0,[],[]))∧a.length+d≤2000∧wr.heap[w.heap.size]? = some (.cells #[.func (.func g) #[] caps] 238)∧wr.heap[q]? = some (.cells #[.int .i64 n.1,vk,vp] 240)∧I wr a∧Mv B ats none w wr∧Rw w.heap.size wr 125 3 Au vk n.2.2∧Rw w.heap.size wr 135 2 Ak vp n.2.1)
  (fun _ wr=>lvAt q wr)
 case atStart=>exact ⟨er,n,asked ++ [root],22,_,_,rfl,by omega,by omega,HR.out.1,fun h=>⟨HR.out.2.1 h,by have:=(HR.out.2.1 h).hi; omega⟩,HR.out.2.2,by simp; omega,H2.out.1,H2.out.2.1,H2.out.2.2.1,H2.out.2.2.2.1,H2.out.2.2.2.2.1,H2.out.2.2.2.2.2⟩
 case round=>
  clear HR H2 hw0 hw2 hqr
  obtain ⟨er,n,a,d,vk,vp,rfl,hd1,hd2,hRd,hri,hze,hal,har,hyr,hIr,hMr,hrk,hrp⟩:=hrel
  have hlev:=lvAt_of hyr
  have hLk : Ls wr.heap.size wr 3 Au vk n.2.2:=Bi Ev hrk
  have hLp : Ls wr.heap.size wr 2 Ak vp n.2.1:=Bi Dr hrp
  have hsr : w.heap.size≤wr.heap.size:=hMr.size
  have HL:=Ac (And.intro hLk hLp)
  have HW:=Ac (And.intro har (And.intro hyr (And.intro hIr (And.intro hMr (And.intro hrk hrp)))))
  have HLEV:=Ac hlev
  have y0:=cell_of_row wr q 0 _ _ _ hyr
  have y1:=cell_of_row wr q 1 _ _ _ hyr
  have y2:=cell_of_row wr q 2 _ _ _ hyr
  have a0:=cell_of_row wr w.heap.size 0 _ _ _ har
  simp only [List.getElem?_toArray,List.getElem?_cons_zero,List.getElem?_cons_succ] at y0 y1 y2 a0
  obtain ⟨ka,km,kc,rfl⟩:=Av hrk
  obtain ⟨pa,pm,pc,rfl⟩:=Av hrp
  clear har hyr hIr hMr hrk hrp hLk hLp hlev
  by_cases he : er=0
  ·obtain ⟨hN,hnd⟩:=hri he
   have e0 : (er == 0)=true:=by rw [he]; rfl
   have e1 : (er != 0)=false:=by rw [he]; rfl
   by_cases hl0 : n.1=0
   ·have l0 : (n.1 != 0)=false:=by rw [hl0]; rfl
    have hRv:=hRd.trans (Lh (a:=(er,n)) hd1 he hl0)
    have hval:=valueOf_any wr n _ _ key HL.out.1 HL.out.2
    cases hv : valM n key with
    | none=>
     rw [hv] at hval hRv
     unfold valV at hval
     simp only at hval
     have HF:=Ac hRv
     clear hRd hri hze hN he hl0 hRv hv
     go_wp2_with fail
     refine hval.mono ?_
     rintro e w3 ⟨rfl,hb3⟩
     have HZ:=Ac (And.intro (HG.out.below HW.out.2.2.1 hb3) (HW.out.2.2.2.1.more hb3 (Nat.le_trans hB hsr)))
     clear hval hb3
     go_wp2
     go_ret3
     rw [HF.out]
     exact ⟨rfl,HZ.out.1,HZ.out.2⟩
    | some p=>
     rw [hv] at hval hRv
     unfold valV at hval
     simp only at hval
     have HF:=Ac hRv
     clear hRd hri hze hN he hl0 hRv hv
     go_wp2_with fail
     refine hval.mono ?_
     rintro e w3 ⟨rfl,hb3⟩
     have HZ:=Ac (And.intro (HG.out.below HW.out.2.2.1 hb3) (HW.out.2.2.2.1.more hb3 (Nat.le_trans hB hsr)))
     clear hval hb3
     go_wp2
     go_ret3
     rw [HF.out]
     exact ⟨rfl,HZ.out.1,HZ.out.2⟩
   ·have l0 : (n.1 != 0)=true:=by simpa using hl0
    have hkid:=kidOf_any wr n _ _ key HL.out.1 HL.out.2
    cases hv : kidM n key with
    | none=>
     have hRv:=hRd.trans (Oc (a:=(er,n)) hd1 he hl0 hv)
     rw [hv] at hkid
     unfold kidV at hkid
     simp only at hkid
     have HF:=Ac hRv
     clear hRd hri hze hN he hl0 hRv hv
     go_wp2_with fail
     refine hkid.mono ?_
     rintro e w3 ⟨rfl,hb3⟩
     have hb4 : Below wr.heap.size wr (w3.alloc (.cells #[.string (Ab []), .string (Ab []), .int .i64 0] 125)):=hb3.alloc hb3.size _
     have HZ:=Ac (And.intro (HG.out.below HW.out.2.2.1 hb4) (HW.out.2.2.2.1.more hb4 (Nat.le_trans hB hsr)))
     clear hkid hb3 hb4
     go_wp2
     go_ret3
     rw [HF.out]
     exact ⟨rfl,HZ.out.1,HZ.out.2⟩
    | some kq=>
     obtain ⟨d',rfl⟩ : ∃ e,d=e+1:=⟨d - 1,by omega⟩
     have hRv:=hRd.trans (Ng (a:=(er,n)) he hl0 hv)
     have hlo:=hN.lo
     have hhi:=hN.hi
     have hl1 : 1≤n.1∧n.1≤20:=⟨by omega,hhi⟩
     have HL1:=Ac hl1
     have hd' : 1≤d':=by omega
     clear hl1
     have hkq : A6 kq=true:=hN.links.2.1 kq (by unfold kidM at hv; exact List.mem_of_find?_eq_some hv)
     rw [hv] at hkid
     unfold kidV at hkid
     simp only at hkid
     obtain ⟨er',n',hern⟩ : ∃ er' n',Ao fd kq (n.1 - 1)=(er',n'):=⟨_,_,rfl⟩
     have hok':=fun h=>Eg (fd:=fd) (k:=kq) (level:=n.1 - 1) HG.out.short h
     have hze':=fun h=>Ik (fd:=fd) (k:=kq) (level:=n.1 - 1) h
     simp only at hRv
     rw [hern] at hRv hok' hze'
     simp only at hok' hze'
     have hnl : er'=0→RightM n'∧n'.1<(d' : Int)∧n'.1.toNat<n.1.toNat:=fun h=>by
      obtain ⟨q1,q2⟩:=hok' h
      rcases q2 with q2 | q2
      ·omega
      ·have:=(Fw q2).1
       exact ⟨q1,by omega,by omega⟩
     have hzl : n'.1.toNat<n.1.toNat:=by
      by_cases h : er'=0
      ·exact (hnl h).2.2
      ·rw [hze' h]; simp only; omega
     have HF:=Ac (And.intro hRv (And.intro hnl (And.intro hze' (And.intro hzl hern))))
     have HKQ:=Ac hkq
     clear hRd hri hze hN he hl0 hRv hv hok' hze' hnl hzl hern hkq
     go_wp2_with fail
     refine hkid.mono ?_
     rintro e w3 ⟨rfl,hb3⟩
     have hb4 : Below wr.heap.size wr (w3.alloc (.cells #[.string (Ab kq.1), .string (Ab kq.2.1), .int .i64 kq.2.2] 125)):=hb3.alloc hb3.size _
     have hl4:=heap_last w3 (.cells #[.string (Ab kq.1), .string (Ab kq.2.1), .int .i64 kq.2.2] 125) _ rfl
     generalize hw4 : w3.alloc (.cells #[.string (Ab kq.1), .string (Ab kq.2.1), .int .i64 kq.2.2] 125)=w4 at *
     obtain ⟨har,hyr,hIr,hMr,hrk,hrp⟩:=HW.out
     have ha4:=(hb4.block _ (Ad har)).trans har
     have hy4:=(hb4.block _ (Ad hyr)).trans hyr
     have hI4:=HG.out.below hIr hb4
     have hM4:=hMr.more hb4 (Nat.le_trans hB hsr)
     have hs4 : wr.heap.size≤w4.heap.size:=hb4.size
     have z0:=cell_of_row w4 q 0 _ _ _ hy4
     have b0:=cell_of_row w4 w.heap.size 0 _ _ _ ha4
     have m0:=cell_of_row w4 w3.heap.size 0 _ _ _ hl4
     have m1:=cell_of_row w4 w3.heap.size 1 _ _ _ hl4
     have m2:=cell_of_row w4 w3.heap.size 2 _ _ _ hl4
     simp only [List.getElem?_toArray,List.getElem?_cons_zero,List.getElem?_cons_succ] at z0 b0 m0 m1 m2
     have hcl:=Ny w4 g caps fd B ts I HG.out kq (n.1 - 1) HKQ.out (by have:=HL1.out; omega) (by have:=HL1.out; omega) a hI4 (by omega)
     rw [HF.out.2.2.2.2] at hcl
     unfold En at hcl
     simp only at hcl
     have H4:=Ac (And.intro ha4 (And.intro hy4 hM4))
     have hsub : IntKind.i64.wrap (n.1 - 1)=n.1 - 1:=by rw [IntKind.wrap_i64]; omega
     clear hkid hb3 hb4 hl4 har hyr hIr hMr hrk hrp ha4 hy4 hI4 hM4 y0 y1 y2 a0
     go_wp2_with fail
     refine hcl.mono ?_
     rintro e w5 ⟨⟨vk',vp',rfl,hrk5,hrp5⟩,hI5,hm5,-⟩
     have ha5:=hm5.k _ _ _ _ H4.out.1 (by decide) (by simp)
     have hy5:=hm5.k _ _ _ _ H4.out.2.1 (by decide) (by simp)
     have hM5:=H4.out.2.2.trans hm5 (Nx.refl _ _)
     have hrk5':=Dh hrk5 (show w.heap.size≤w4.heap.size by omega)
     have hrp5':=Dh hrp5 (show w.heap.size≤w4.heap.size by omega)
     obtain ⟨ka',km',kc',rfl⟩:=Av hrk5
     obtain ⟨pa',pm',pc',rfl⟩:=Av hrp5
     have c0:=cell_of_row w5 q 0 _ _ _ hy5
     have c1:=cell_of_row w5 q 1 _ _ _ hy5
     have c2:=cell_of_row w5 q 2 _ _ _ hy5
     simp only [List.getElem?_toArray,List.getElem?_cons_zero,List.getElem?_cons_succ] at c0 c1 c2
     have f0:=Af (j:=0) hy5
     have f1:=Af (j:=1) hy5
     have f2:=Af (j:=2) hy5
     have hne : w.heap.size≠q:=by omega
     have ha6 : (((w5.setCell ⟨q,0,none⟩ (.int .i64 n'.1)).setCell ⟨q,1,none⟩ (.slice ka' km' kc')).setCell ⟨q,2,none⟩ (.slice pa' pm' pc')).heap[w.heap.size]? = _:=(Bc hne).trans ((Bc hne).trans ((Bc hne).trans ha5))
     have hy6:=Bm (u0:=.int .i64 n'.1) (u1:=.slice ka' km' kc') (u2:=.slice pa' pm' pc') hy5
     have hmv : Mv B ts none w5 (((w5.setCell ⟨q,0,none⟩ (.int .i64 n'.1)).setCell ⟨q,1,none⟩ (.slice ka' km' kc')).setCell ⟨q,2,none⟩ (.slice pa' pm' pc')):=(((Mv.refl B ts none w5).set (j:=0) hy5 HG.out.node (by omega) _).set (j:=1) (An hy5) HG.out.node (by omega) _).set (j:=2) (Az (An hy5)) HG.out.node (by omega) _
     have hI6:=HG.out.mv hI5 hmv
     have hM6:=((hM5.setNew (g:=q) (j:=0) (by omega) hB (.int .i64 n'.1)).setNew (g:=q) (j:=1) (by omega) hB (.slice ka' km' kc')).setNew (g:=q) (j:=2) (by omega) hB (.slice pa' pm' pc')
     have hk6:=Ap (j:=2) (Ap (j:=1) (Ap (j:=0) hrk5' hy5 (by decide) (.int .i64 n'.1)) (An hy5) (by decide) (.slice ka' km' kc')) (Az (An hy5)) (by decide) (.slice pa' pm' pc')
     have hp6:=Ap (j:=2) (Ap (j:=1) (Ap (j:=0) hrp5' hy5 (by decide) (.int .i64 n'.1)) (An hy5) (by decide) (.slice ka' km' kc')) (Az (An hy5)) (by decide) (.slice pa' pm' pc')
     have hlv6:=lvAt_of hy6
     have H6:=Ac (And.intro ha6 (And.intro hy6 (And.intro hI6 (And.intro hM6 (And.intro hk6 (And.intro hp6 hlv6))))))
     clear hcl hrk5 hrp5 hI5 hm5 ha5 hy5 hM5 hrk5' hrp5' hne ha6 hy6 hmv hI6 hM6 hk6 hp6 hlv6
     go_wp2
     go_roundw
     case rel=>
      refine ⟨er',n',a ++ [kq.2.1],d',_,_,rfl,by omega,by omega,HF.out.1,fun h=>⟨(HF.out.2.1 h).1,(HF.out.2.1 h).2.1⟩,HF.out.2.2.1,by simp; omega,H6.out.1,H6.out.2.1,H6.out.2.2.1,H6.out.2.2.2.1,H6.out.2.2.2.2.1,H6.out.2.2.2.2.2.1⟩
     case measure=>
      rw [H6.out.2.2.2.2.2.2,HLEV.out]
      exact HF.out.2.2.2.1
  ·have e0 : (er == 0)=false:=by simpa using he
   have e1 : (er != 0)=true:=by simpa using he
   have hRv:=hRd.trans (restM_err (a:=(er,n)) hd1 he)
   have HF:=Ac hRv
   clear hRd hri hze he hRv
   go_wp2
   go_ret3
   rw [HF.out]
   exact ⟨rfl,HW.out.2.2.1,HW.out.2.2.2.1⟩
end Go.Proofs.YtckejblkppllaaaGreatDoor
