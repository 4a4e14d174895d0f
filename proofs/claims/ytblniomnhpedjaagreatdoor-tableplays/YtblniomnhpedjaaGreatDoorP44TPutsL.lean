/-
  The law's puts: at most twelve, cut short, and again with other keys. Conditions: the puts lie there, lengths within reach.
-/
import Derived.Test.YtblniomnhpedjaaGreatDoorP41MildPure
import Derived.Test.YtblniomnhpedjaaGreatDoorP43TNames
import Derived.Deep.CutBlock
import Derived.Deep.CutRange
import Derived.Deep.LoopGhost
namespace Go.Proofs.YtblniomnhpedjaaGreatDoor
open Go.RowKit
def Gb (tm : Int) : Nat:=(pk tm 60 - 50).toNat
theorem againT_le (tm : Int) : Gb tm≤9:=by
 have:=Lr (c:=tm) (n:=60) (by omega)
 unfold Gb
 omega
theorem cut_text (r : Bs) : (Ae r).extract 0 (min (r.length : Int) 9000).toNat=Ae (r.take 9000):=by
 rw [show (min (r.length : Int) 9000).toNat=min r.length 9000 by omega,ext_take,show r.take (min r.length 9000)=r.take 9000 by
  by_cases h : r.length≤9000
  ·rw [Nat.min_eq_left h,List.take_length,List.take_of_length_le h]
  ·rw [Nat.min_eq_right (by omega)]]
theorem more_putL (w0 wr : World) (u : Value) (xs : List An) (x : An) (ho : Cf w0.heap.size wr u xs) (hb : Below w0.heap.size w0 wr) (hn : xs.length≤4294967296) :
  ∃ u' w',(Builtin.append_ #[27,27] 27 #[u, .slice (some ⟨wr.heap.size,0,none⟩) 1 1]).run Tryz.prog (wr.alloc (Bd x)) = .ok u' w'∧Cf w0.heap.size w' u' (xs ++ [x])∧Below w0.heap.size w0 w':=by
 obtain ⟨u',w',hrun,hrow,hgr⟩:=app_put wr w0.heap.size u xs x ho hb.size hn
 exact ⟨u',w',hrun,hrow,(hb.alloc hb.size _).grown hgr (by have:=hb.size; simp only [World.size_alloc] at this ⊢; omega) (fun k hk=>(ho.lt k hk).1)⟩
theorem dgT_len {n : Nat} (h : n≤99999) : (dgT n).length≤6:=by
 unfold dgT
 rw [List.length_append]
 have:=dgs_len 5 (n / 10) (by omega)
 simp
 omega
theorem Gy {B : Nat} {w : World} {ao : Option Addr} {n m cap : Nat} {l : List An} (h : Cf B w (.slice ao n cap) l) (e : n=m) : Cf B w (.slice ao m cap) l:=e ▸ h
set_option maxRecDepth 40000 in
set_option maxHeartbeats 3200000 in
theorem lputs_any (w : World) (kd nn tt tm : Int) (v : Value) (os : List An) (hv : PsT w v os) (htm : -9223372036854775808≤tm∧tm≤9223372036854775807) (hos : ∀ o∈os,o.1.length≤140737488351232∧o.2.1.length≤140737488351232) :
  Calls Tryz.prog 19 #[.agg #[.int .i64 kd,v, .int .i64 tm, .int .i64 nn, .int .i64 tt]] w fun e w'=>∃ u ps,e = .returned u∧PsT w' u ps∧ps.length≤120∧(∀ p∈ps,p.1.length≤9010∧p.2.1.length≤9000)∧(∀ q,u.ownBlock=some q→w.heap.size≤q∧q<w'.heap.size)∧Below w.heap.size w w':=by
 have hx0:=Au w (.cells #[.int .i64 kd,v, .int .i64 tm, .int .i64 nn, .int .i64 tt] 29)
 have hb0 : Below w.heap.size w (w.alloc (.cells #[.int .i64 kd,v, .int .i64 tm, .int .i64 nn, .int .i64 tt] 29)):=(Below.refl _ w).alloc (Nat.le_refl _) _
 have hz0 : (w.alloc (.cells #[.int .i64 kd,v, .int .i64 tm, .int .i64 nn, .int .i64 tt] 29)).heap.size=w.heap.size+1:=by simp
 generalize hw0 : w.alloc (.cells #[.int .i64 kd,v, .int .i64 tm, .int .i64 nn, .int .i64 tt] 29)=w0 at *
 have HV:=Ab (hv.keepB hb0)
 have HX:=Ab (And.intro hx0 (And.intro hb0 hz0))
 obtain ⟨va,vc,rfl⟩:=hv.form
 have hOx : ∀ W,Below w0.heap.size w0 W→W.cell? ⟨w.heap.size,1,none⟩=some (.slice va os.length vc)∧W.cell? ⟨w.heap.size,2,none⟩=some (.int .i64 tm):=fun W hW=>
  ⟨(hW.cell (p:=⟨w.heap.size,1,none⟩) (show w.heap.size<w0.heap.size by omega)).trans (by rw [Ad hx0]; rfl),(hW.cell (p:=⟨w.heap.size,2,none⟩) (show w.heap.size<w0.heap.size by omega)).trans (by rw [Ad hx0]; rfl)⟩
 have HO:=Ab hOx
 clear hx0 hb0 hz0 hv hOx
 go_enter Tryz.func19,Tryz.ntmps19
 go_upto_block 0 with fail
 try rw [hw0]
 clear hw0
 go_cut [3,4] from 10 to 45 (fun u t wx=>∃ ps,Cf w0.heap.size wx u ps∧ps.length≤12∧(∀ p∈ps,p.1.length≤9000∧p.2.1.length≤9000)∧Below w0.heap.size w0 wx)
 case first=>
  go_wp2_with fail
  go_loopw [4,3] (fun t u wr=>∃ (k : Nat) (ps : List An),k≤os.length∧k≤12∧t = .int .i64 k∧ps.length=k∧Cf w0.heap.size wr u ps∧(∀ p∈ps,p.1.length≤9000∧p.2.1.length≤9000)∧Below w0.heap.size w0 wr)
   (fun t _ _=>12 - (intOf t).toNat)
  case atStart=>exact ⟨0,[],by omega,by omega,rfl,rfl,World.ownsRow_nil _ _ _ _,by simp,Below.refl _ _⟩
  case round=>
   obtain ⟨k,ps,hk,hk12,rfl,hpl,hrow,hps,hbr⟩:=hrel
   obtain ⟨o1,o2⟩:=HO.out wr hbr
   obtain ⟨ua,uc,rfl,-⟩:=Ay hrow
   have HR:=Ab (And.intro hrow (And.intro hps (And.intro hbr hpl)))
   by_cases hlt : k<os.length
   ·by_cases h12 : k<12
    ·have hq1 : decide ((k : Int)<(os.length : Int))=true:=decide_eq_true (by omega)
     have hq2 : decide ((k : Int)<12)=true:=decide_eq_true (by omega)
     obtain ⟨b,off,rfl,hbl,c0,c1,c2⟩:=(HV.out.keepB hbr).at hlt
     have hox:=hos os[k] (List.getElem_mem hlt)
     generalize os[k]=x at *
     have hs1:=B1 x.1
     have hs2:=B1 x.2.1
     have x1:=cut_text x.1
     have x2:=cut_text x.2.1
     clear hrow hps hbr hpl
     go_upto_region 8 with fail
     try simp only [x1,x2]
     have hx1:=Au wr (Bd (x.1.take 9000,(x.2.1.take 9000,x.2.2)))
     have hbA : Below w0.heap.size w0 (wr.alloc (Bd (x.1.take 9000,(x.2.1.take 9000,x.2.2)))):=HR.out.2.2.1.alloc HR.out.2.2.1.size _
     have hrA : Cf w0.heap.size (wr.alloc (Bd (x.1.take 9000,(x.2.1.take 9000,x.2.2)))) (.slice ua ps.length uc) ps:=HR.out.1.alloc _
     have hwA : wr.alloc (.cells #[.string (Ae (x.1.take 9000)), .string (Ae (x.2.1.take 9000)), .bool x.2.2] 73)=wr.alloc (Bd (x.1.take 9000,(x.2.1.take 9000,x.2.2))):=rfl
     rw [hwA]
     have hy1 : (x.1.take 9000).length≤9000:=by rw [List.length_take]; omega
     have hy2 : (x.2.1.take 9000).length≤9000:=by rw [List.length_take]; omega
     clear x1 x2 hwA c0 c1 c2 hs1 hs2 hox
     generalize x.1.take 9000=y1 at *
     generalize x.2.1.take 9000=y2 at *
     generalize x.2.2=y3 at *
     obtain ⟨u',w',hrun,hrow',hb'⟩:=more_putL w0 (wr.alloc (Bd (y1,(y2,y3)))) _ ps (y1,(y2,y3)) hrA hbA (by have:=HR.out.2.2.2; omega)
     obtain ⟨ub,ucb,rfl,-⟩:=Ay hrow'
     have d0:=Ad hx1 0
     have d1:=Ad hx1 1
     have d2:=Ad hx1 2
     simp only [List.getElem?_toArray,List.getElem?_cons_zero,List.getElem?_cons_succ] at d0 d1 d2
     have HF:=Ab (And.intro hrow' (And.intro hb' (show ∀ p∈ps ++ [(y1,(y2,y3))],p.1.length≤9000∧p.2.1.length≤9000 from fun p hp=>by
      rcases List.mem_append.1 hp with hp | hp
      ·exact HR.out.2.1 p hp
      ·rw [List.mem_singleton.1 hp]
       exact ⟨hy1,hy2⟩)))
     have e9 : (ps ++ [(y1,(y2,y3))]).length=ps.length+1:=by simp
     rw [e9] at hrun
     generalize hwB : wr.alloc (Bd (y1,(y2,y3)))=wB at *
     have HRUN:=Ab hrun
     clear hrun hrow' hb' hbA hrA hx1 e9
     go_wp2_with (at_builtin; refine wpList_plain rfl (fun K hK=>Cg (.tmp 42) (.tmp 44) 27 rfl rfl rfl HRUN.out (hK _ _ ?_)))
     go_roundw
     case rel=>exact ⟨k+1,ps ++ [(y1,(y2,y3))],by omega,by omega,by go_num,by have:=HR.out.2.2.2; simp; omega,Gy HF.out.1 (by simp),HF.out.2.2,HF.out.2.1⟩
     case measure=>simp [intOf]; omega
    ·have hq1 : decide ((k : Int)<(os.length : Int))=true:=decide_eq_true (by omega)
     have hq2 : decide ((k : Int)<12)=false:=decide_eq_false (by omega)
     clear hrow hps hbr hpl
     go_wp2_with fail
     go_meet
     exact ⟨ps,HR.out.1,by have:=HR.out.2.2.2; omega,HR.out.2.1,HR.out.2.2.1⟩
   ·have hq1 : decide ((k : Int)<(os.length : Int))=false:=decide_eq_false (by omega)
    clear hrow hps hbr hpl
    go_wp2_with fail
    go_meet
    exact ⟨ps,HR.out.1,by have:=HR.out.2.2.2; omega,HR.out.2.1,HR.out.2.2.1⟩
 case rest=>
  obtain ⟨ps,hrow,hpl,hps,hbr⟩:=hcut
  obtain ⟨ua,uc,rfl,-⟩:=Ay hrow
  have HR:=Ab (And.intro hrow (And.intro hps hbr))
  have hr60:=Lr (c:=tm) (n:=60) (by omega)
  have hsub : IntKind.i64.wrap (pk tm 60 - 50)=pk tm 60 - 50:=by rw [IntKind.wrap_i64]; omega
  have hag:=againT_le tm
  clear hrow hps hbr
  go_wp2_with fail
  go_loopw [7,3] (fun t u wr=>∃ (k : Nat) (qs : List An),t = .int .i64 k∧k≤Gb tm∧Cf w0.heap.size wr u (ps++qs)∧qs.length=k * ps.length∧(∀ q∈qs,q.1.length≤9010∧q.2.1.length≤9000)∧Below w0.heap.size w0 wr) (fun t _ _=>Gb tm - (intOf t).toNat)
  case atStart=>exact ⟨0,[],rfl,by omega,by rw [List.append_nil]; exact HR.out.1,by simp,by simp,HR.out.2.2⟩
  case round=>
   obtain ⟨k,qs,rfl,hk,hrow,hql,hqs,hbr⟩:=hrel
   have o2:=(HO.out wr hbr).2
   have hpk:=pick_any wr tm 60 htm ⟨by omega,by omega⟩
   have HQ:=Ab (And.intro hrow (And.intro hql (And.intro hqs hbr)))
   obtain ⟨vb,vc2,rfl,-⟩:=Ay hrow
   by_cases hlt : k<Gb tm
   ·have hd : decide ((k : Int)<pk tm 60 - 50)=true:=decide_eq_true (by unfold Gb at hlt; omega)
    clear hrow hql hqs hbr
    go_wp2_with fail
    refine hpk.mono ?_
    rintro e w' ⟨rfl,rfl⟩
    go_wp2_with fail
    clear o2 hpk
    go_loopw [8,3] (fun t u wx=>∃ (i : Nat) (rs : List An),t = .int .i64 i∧i≤ps.length∧Cf w0.heap.size wx u (ps++rs)∧rs.length=k * ps.length+i∧(∀ q∈rs,q.1.length≤9010∧q.2.1.length≤9000)∧Below w0.heap.size w0 wx) (fun t _ _=>ps.length - (intOf t).toNat)
    case atStart=>exact ⟨0,qs,rfl,by omega,by first | exact HQ.out.1 | exact Gy HQ.out.1 (by simp),by have:=HQ.out.2.1; omega,HQ.out.2.2.1,HQ.out.2.2.2⟩
    case round=>
     obtain ⟨i,rs,rfl,hi,hrow,hql,hqs,hbr⟩:=hrel
     obtain ⟨N,hN⟩ : ∃ N,N=(ps++rs).length:=⟨_,rfl⟩
     obtain ⟨ub,uc2,hu,-⟩:=Ay hrow
     rw [← hN] at hu
     subst hu
     have HQ2:=Ab (And.intro hrow (And.intro hql (And.intro hqs hbr)))
     have HN:=Ab hN
     by_cases hlt2 : i<ps.length
     ·have hiN : i<N:=by rw [hN,List.length_append]; omega
      obtain ⟨b,off,rfl,hbl,c0,c1,c2⟩:=((Gy hrow hN).ps).at (j:=i) (by rw [List.length_append]; omega)
      rw [List.getElem_append_left hlt2] at c0 c1 c2
      have hx:=HR.out.2.1 ps[i] (List.getElem_mem hlt2)
      generalize ps[i]=x at *
      have hd2 : decide ((i : Int)<(ps.length : Int))=true:=decide_eq_true (by omega)
      clear hrow hql hqs hbr hN
      go_upto_region 17 with fail
      have hx1:=Au wr (Bd x)
      have hbV : Below w0.heap.size w0 (wr.alloc (Bd x)):=HQ2.out.2.2.2.alloc HQ2.out.2.2.2.size _
      have hrV : Cf w0.heap.size (wr.alloc (Bd x)) (.slice (some ⟨b,off,none⟩) N uc2) (ps++rs):=(Gy HQ2.out.1 rfl).alloc _
      have hzV : (wr.alloc (Bd x)).heap.size=wr.heap.size+1:=by simp
      have hwV : wr.alloc (.cells #[.string (Ae x.1), .string (Ae x.2.1), .bool x.2.2] 73)=wr.alloc (Bd x):=rfl
      rw [hwV]
      clear hwV c0 c1 c2
      have hqB:=HQ2.out.2.2.2.size
      generalize wr.alloc (Bd x)=V at *
      have hfin : ∀ W,Below V.heap.size V W→W.cell? ⟨wr.heap.size,0,none⟩=some (.string (Ae x.1))∧W.frozen? ⟨wr.heap.size,0,none⟩=false∧(W.setCell ⟨wr.heap.size,0,none⟩ (.string (Ae (x.1++dgT k)))).heap[wr.heap.size]? = some (Bd (x.1++dgT k,x.2))∧Cf w0.heap.size (W.setCell ⟨wr.heap.size,0,none⟩ (.string (Ae (x.1++dgT k)))) (.slice (some ⟨b,off,none⟩) N uc2) (ps++rs)∧Below w0.heap.size w0 (W.setCell ⟨wr.heap.size,0,none⟩ (.string (Ae (x.1++dgT k)))):=fun W hW=>by
       have hxW:=(hW.block _ (At hx1)).trans hx1
       have hrW:=Ck hrV hW
       have hbW:=hbV.trans (hW.mono hbV.size)
       refine ⟨by rw [Ad hxW]; rfl,Av hxW 0,A0 hxW 0 _,ownsRow_setCell_other hrW (fun e=>?_) _,hbW.setCell hqB _⟩
       exact Nat.lt_irrefl _ (HQ2.out.1.lt _ e).2
      have HFin:=Ab hfin
      have HV1:=Ab (And.intro hx1 hzV)
      clear hbV hrV hfin hqB
      go_cut [9] from 65 to 70 (fun v9 wx=>v9 = .pointer (some ⟨wr.heap.size,0,none⟩)∧wx.heap[wr.heap.size]? = some (Bd (x.1++dgT k,x.2))∧Cf w0.heap.size wx (.slice (some ⟨b,off,none⟩) N uc2) (ps++rs)∧Below w0.heap.size w0 wx)
      case first=>
       have hadd:=fun W=>add_str W x.1 (dgT k) (by have:=dgT_len (n:=k) (by omega); omega)
       have hv0:=(HFin.out V (Below.refl _ _)).1
       clear hx1
       refine wp_region_held_drew (S:=fun _=>True) (by kernel_rfl) (trivial) (fun hHeld=>?_)
       refine Aa 0 hHeld ?_
       refine Aa 2 hHeld ?_
       refine twoH (i:=1) (j:=3) rfl rfl (by kernel_rfl) rfl rfl (fun K hK=>?_) (fun K hK=>?_)
       ·go_simp
        refine hK.out _ _ (trivial) (fun hHeld=>?_)
        clear hK K
        try simp only [Act.put,List.setIfInBounds_toArray,List.set_cons_zero,List.set_cons_succ]
        refine Al (i:=3) rfl (by kernel_rfl) rfl (fun K hK=>?_)
        go_simp
        refine (Np V.drew k (by omega)).mono ?_
        rintro e w4 ⟨rfl,hb4⟩
        have hF:=HFin.out w4 ((Below.refl _ V).drew.trans hb4)
        obtain ⟨f1,f2,f3,f4,f5⟩:=hF
        have HF4:=Ab (And.intro f3 (And.intro f4 f5))
        clear f3 f4 f5
        refine hK.out _ _ (trivial) (fun hHeld=>?_)
        clear hK K
        try simp only [Act.put,List.setIfInBounds_toArray,List.set_cons_zero,List.set_cons_succ]
        refine Aa 4 hHeld ?_
        refine Aa 5 hHeld ?_
        refine Al (i:=6) rfl (by kernel_rfl) rfl (fun K hK=>?_)
        go_simp
        refine hK.out _ _ (trivial) (fun hHeld=>?_)
        clear hK K
        try simp only [Act.put,List.setIfInBounds_toArray,List.set_cons_zero,List.set_cons_succ]
        refine wpAnyH_done (by kernel_rfl) ?_ _
        clear hHeld
        go_wp2_with fail
        go_meet
        exact ⟨rfl,HF4.out.1,HF4.out.2.1,HF4.out.2.2⟩
       ·go_simp
        refine (Np V.drew k (by omega)).mono ?_
        rintro e w4 ⟨rfl,hb4⟩
        have hF:=HFin.out w4 ((Below.refl _ V).drew.trans hb4)
        obtain ⟨f1,f2,f3,f4,f5⟩:=hF
        have HF4:=Ab (And.intro f3 (And.intro f4 f5))
        clear f3 f4 f5
        refine hK.out _ _ (trivial) (fun hHeld=>?_)
        clear hK K
        try simp only [Act.put,List.setIfInBounds_toArray,List.set_cons_zero,List.set_cons_succ]
        refine Al (i:=1) rfl (by kernel_rfl) rfl (fun K hK=>?_)
        go_simp
        refine hK.out _ _ (trivial) (fun hHeld=>?_)
        clear hK K
        try simp only [Act.put,List.setIfInBounds_toArray,List.set_cons_zero,List.set_cons_succ]
        refine Aa 4 hHeld ?_
        refine Aa 5 hHeld ?_
        refine Al (i:=6) rfl (by kernel_rfl) rfl (fun K hK=>?_)
        go_simp
        refine hK.out _ _ (trivial) (fun hHeld=>?_)
        clear hK K
        try simp only [Act.put,List.setIfInBounds_toArray,List.set_cons_zero,List.set_cons_succ]
        refine wpAnyH_done (by kernel_rfl) ?_ _
        clear hHeld
        go_wp2_with fail
        go_meet
        exact ⟨rfl,HF4.out.1,HF4.out.2.1,HF4.out.2.2⟩
      case rest=>
       obtain ⟨rfl,hxc,hrc,hbc⟩:=hcut
       obtain ⟨y,hy⟩ : ∃ y : An,y=(x.1++dgT k,x.2):=⟨_,rfl⟩
       rw [← hy] at hxc
       have hyb : y.1.length≤9010∧y.2.1.length≤9000:=by
        rw [hy]
        have:=dgT_len (n:=k) (by omega)
        refine ⟨?_,hx.2⟩
        show (x.1++dgT k).length≤9010
        rw [List.length_append]
        omega
       clear hy
       obtain ⟨u',w',hrun,hrow',hb'⟩:=more_putL w0 wc _ (ps++rs) y hrc hbc (by
        rw [List.length_append,HQ2.out.2.1]
        have:=Nat.mul_le_mul (show k≤9 by omega) hpl
        omega)
       obtain ⟨uc3,um3,rfl,-⟩:=Ay hrow'
       have d0:=Ad hxc 0
       have d1:=Ad hxc 1
       have d2:=Ad hxc 2
       simp only [List.getElem?_toArray,List.getElem?_cons_zero,List.getElem?_cons_succ] at d0 d1 d2
       have e9 : (ps++rs ++ [y]).length=N+1:=by rw [List.length_append,HN.out]; rfl
       rw [e9] at hrun
       have hrow9:=Gy hrow' e9
       rw [List.append_assoc] at hrow9
       have HF:=Ab (And.intro hrow9 (And.intro hb' (show ∀ q∈rs ++ [y],q.1.length≤9010∧q.2.1.length≤9000 from fun q hq=>by
        rcases List.mem_append.1 hq with hq | hq
        ·exact HQ2.out.2.2.1 q hq
        ·rw [List.mem_singleton.1 hq]
         exact hyb)))
       have HRUN:=Ab hrun
       have HE9:=Ab e9
       clear hrun hrow' hrow9 hb' hrc hbc hxc e9 hyb hx hx1
       go_wp2_with (at_builtin; refine wpList_plain rfl (fun K hK=>Cg (.tmp 71) (.tmp 73) 27 rfl rfl rfl HRUN.out (hK _ _ ?_)))
       go_roundw
       case rel=>exact ⟨i+1,rs ++ [y],by go_num,by omega,HF.out.1,by rw [List.length_append,HQ2.out.2.1]; rfl,HF.out.2.2,HF.out.2.1⟩
       case measure=>simp [intOf]; omega
     ·have hd2 : decide ((i : Int)<(ps.length : Int))=false:=decide_eq_false (by omega)
      clear hrow hql hqs hbr hN
      go_wp2_with fail
      go_roundw
      case rel=>exact ⟨k+1,rs,by go_num,by omega,Gy HQ2.out.1 (by rw [HN.out]),by have:=HQ2.out.2.1; rw [Nat.succ_mul]; omega,HQ2.out.2.2.1,HQ2.out.2.2.2⟩
      case measure=>simp [intOf]; omega
   ·have hd : decide ((k : Int)<pk tm 60 - 50)=false:=decide_eq_false (by unfold Gb at hlt; omega)
    have hlen : (ps++qs).length≤120:=by
     rw [List.length_append,hql]
     have:=Nat.mul_le_mul (show k≤9 by omega) hpl
     omega
    have HF:=Ab (show PsT wr (.slice vb (ps++qs).length vc2) (ps++qs)∧(ps++qs).length≤120∧(∀ p∈ps++qs,p.1.length≤9010∧p.2.1.length≤9000)∧(∀ q,(Value.slice vb (ps++qs).length vc2).ownBlock=some q→w.heap.size≤q∧q<wr.heap.size)∧Below w.heap.size w wr from ⟨Cf.ps hrow,hlen,fun p hp=>by
     rcases List.mem_append.1 hp with hp | hp
     ·have:=HR.out.2.1 p hp
      omega
     ·exact hqs p hp,fun q hq=>⟨by have h1:=(hrow.lt q hq).1; have h2:=HX.out.2.2; omega,(hrow.lt q hq).2⟩,HX.out.2.1.trans (hbr.mono (by have:=HX.out.2.2; omega))⟩)
    clear hrow hql hqs hbr hlen
    go_wp2_with fail
    refine hpk.mono ?_
    rintro e w' ⟨rfl,rfl⟩
    go_wp2
    go_ret
    first
     | exact ⟨_,ps++qs,rfl,HF.out.1,HF.out.2.1,HF.out.2.2.1,HF.out.2.2.2.1,HF.out.2.2.2.2⟩
     | (have e9 : (ps++qs).length=ps.length+qs.length:=List.length_append; have h9:=HF.out.1; have h8:=HF.out.2.2.2.1; rw [e9] at h9 h8; exact ⟨_,ps++qs,rfl,h9,HF.out.2.1,HF.out.2.2.1,h8,HF.out.2.2.2.2⟩)
end Go.Proofs.YtblniomnhpedjaaGreatDoor
