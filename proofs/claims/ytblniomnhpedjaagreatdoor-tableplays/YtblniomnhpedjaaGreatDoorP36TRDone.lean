/-
  The reference's done. Conditions: the pairs lie there, and rise.
-/
import Derived.Test.YtblniomnhpedjaaGreatDoorP34TRRight
import Derived.Test.YtblniomnhpedjaaGreatDoorP35TRDoneP
import Derived.Deep.CutBlock
import Derived.Deep.CutRange
import Derived.Deep.LoopGhost
namespace Go.Proofs.YtblniomnhpedjaaGreatDoor
open Go.RowKit
theorem geq_text (t : TypeId) (a b : Bs) : binOp .geq t (.string (Ae a)) (.string (Ae b))=pure (.bool (!ltB a b)):=by
 simp [binOp,Op.stringOp,Ae,ltB]
theorem neq_text (t : TypeId) (a b : Bs) : binOp .neq t (.string (Ae a)) (.string (Ae b))=pure (.bool (!decide (a=b))):=by
 by_cases h : a=b
 ·simp [binOp,Op.stringOp,Ae,h]
 ·have h2 : (a == b)=false:=by simpa using h
  simp [binOp,Op.stringOp,Ae,h,h2]
theorem Df (w : World) (n : Nat) : Below w.heap.size w (w.drewN n):=((Chg.refl (fun _=>False) w).drewN n).below (fun _ h=>h.elim) (Nat.le_refl _)
theorem Es {B : Nat} {w : World} {ao : Option Addr} {n m cap : Nat} {l : List Af} (h : Cq B w (.slice ao n cap) l) (e : n=m) : Cq B w (.slice ao m cap) l:=e ▸ h
theorem Gq (w0 wr : World) (u : Value) (xs : List Af) (x : Af) (ho : Cq w0.heap.size wr u xs) (hb : Below w0.heap.size w0 wr) (hn : xs.length≤4294967296) :
  ∃ u' w',(Builtin.append_ #[65,65] 65 #[u, .slice (some ⟨wr.heap.size,0,none⟩) 1 1]).run Tryz.prog (wr.alloc (.cells #[.string (Ae x.1), .string (Ae x.2)] 75)) = .ok u' w' ∧
   Cq w0.heap.size w' u' (xs ++ [x])∧Below w0.heap.size w0 w':=by
 obtain ⟨u',w',hrun,hrow,hgr⟩:=app_pairT wr w0.heap.size u xs x ho hb.size hn
 exact ⟨u',w',hrun,hrow,(hb.alloc hb.size _).grown hgr (by have:=hb.size; simp only [World.size_alloc] at this ⊢; omega) (fun k hk=>(ho.lt k hk).1)⟩
set_option maxRecDepth 40000 in
set_option maxHeartbeats 1600000 in
theorem rdone_any (w : World) (v : Value) (l : List Af) (p : An) (hv : PrT w v l) (hr : Bn l) (hl : l.length≤1000000) :
  Calls Tryz.prog 41 #[v, .agg #[.string (Ae p.1), .string (Ae p.2.1), .bool p.2.2]] w fun e w'=>∃ u,e = .returned u∧PrT w' u (Bu l p)∧(∀ q,u.ownBlock=some q→w.heap.size≤q∧q<w'.heap.size)∧Below w.heap.size w w':=by
 obtain ⟨ao,cap,rfl,h1,h2,h4⟩:=hv
 unfold maxLen at h2
 have hD:=goD_done hr p
 have hx0:=Au w (Bd p)
 have hb0 : Below w.heap.size w (w.alloc (Bd p)):=(Below.refl _ w).alloc (Nat.le_refl _) _
 have hz0 : (w.alloc (Bd p)).heap.size=w.heap.size+1:=by simp
 generalize hw0 : w.alloc (Bd p)=w0 at *
 have HZ:=Ab hz0
 have HD:=Ab hD
 have HX:=Ab (And.intro hx0 hb0)
 obtain ⟨pk,pv,pg⟩:=p
 simp only [Bd] at hw0
 have q2 : w0.cell? ⟨w.heap.size,2,none⟩=some (.bool pg):=by rw [Ad HX.out.1]; rfl
 clear hz0 hD hx0 hb0
 go_enter Tryz.func41,Tryz.ntmps41
 go_wp2_with fail
 try rw [hw0]
 go_wp2_with fail
 skip
 go_loopw [7,5,6] (fun t u m wr=>∃ (k : Nat) (out : List Af) (met : Bool),k≤l.length∧t = .int .i64 k∧m = .bool met∧Cq w0.heap.size wr u out∧out++goD (pk,pv,pg) met (l.drop k)=Bu l (pk,pv,pg)∧out.length≤2 * k∧Below w0.heap.size w0 wr)
  (fun t _ _ _=>l.length - (intOf t).toNat)
 case atStart=>exact ⟨0,[],pg,by omega,rfl,rfl,World.ownsRow_nil _ _ _ _,by rw [List.drop_zero]; exact HD.out,by simp,Below.refl _ _⟩
 case round=>
  obtain ⟨k,out,met,hk,rfl,rfl,hrow,hD,hol,hbr⟩:=hrel
  by_cases hlt : k<l.length
  ·obtain ⟨b,off,rfl,hbl,hc⟩:=h4 (by intro e; rw [e] at hlt; simp at hlt)
   have hcx : ∀ W,Below w0.heap.size w0 W→W.cell? ⟨b,off+k * 2,none⟩=some (.string (Ae l[k].1))∧W.cell? ⟨b,off+k * 2+1,none⟩=some (.string (Ae l[k].2)):=fun W hW=>
    ⟨(hW.cell (p:=⟨b,off+k * 2,none⟩) (show b<w0.heap.size by have:=HZ.out; omega)).trans ((HX.out.2.cell (p:=⟨b,off+k * 2,none⟩) hbl).trans (hc k hlt).1),
     (hW.cell (p:=⟨b,off+k * 2+1,none⟩) (show b<w0.heap.size by have:=HZ.out; omega)).trans ((HX.out.2.cell (p:=⟨b,off+k * 2+1,none⟩) hbl).trans (hc k hlt).2)⟩
   have hpx : ∀ W,Below w0.heap.size w0 W→W.cell? ⟨w.heap.size,0,none⟩=some (.string (Ae pk))∧W.cell? ⟨w.heap.size,1,none⟩=some (.string (Ae pv)):=fun W hW=>
    ⟨(hW.cell (p:=⟨w.heap.size,0,none⟩) (show w.heap.size<w0.heap.size by have:=HZ.out; omega)).trans (by rw [Ad HX.out.1]; rfl),
     (hW.cell (p:=⟨w.heap.size,1,none⟩) (show w.heap.size<w0.heap.size by have:=HZ.out; omega)).trans (by rw [Ad HX.out.1]; rfl)⟩
   rw [List.drop_eq_getElem_cons hlt,goD_step] at hD
   generalize l[k]=x at *
   obtain ⟨c0,c1⟩:=hcx wr hbr
   obtain ⟨p0,p1⟩:=hpx wr hbr
   have hge:=geq_text 9 x.1 pk
   have hne:=neq_text 9 x.1 pk
   have HH:=Ab (And.intro hrow (And.intro hD (And.intro hol hbr)))
   have HC:=Ab (And.intro hcx hpx)
   obtain ⟨ua,uc,rfl,-⟩:=Ay hrow
   clear hrow hD hol hbr hc hcx hpx h4
   cases met with
   | true=>
    go_wp2_with fail
    go_quiet (fail)
    have HO2:=Ab (Ck HH.out.1 (Df wr nq))
    have HB2:=Ab (HH.out.2.2.2.trans ((Df wr nq).mono HH.out.2.2.2.size))
    clear c0 c1 p0 p1
    generalize wr.drewN nq=W2 at *
    go_wp2_with fail
    by_cases he : x.1=pk
    ·obtain ⟨c0,c1⟩:=HC.out.1 W2 HB2.out
     obtain ⟨p0,p1⟩:=HC.out.2 W2 HB2.out
     rw [decide_eq_true he] at hne
     have HE:=Ab he
     have HF:=Ab (show out++goD (pk,pv,pg) true (l.drop (k+1))=Bu l (pk,pv,pg) from by
      have h9:=HH.out.2.1
      rw [if_neg (by simp),Bool.true_or,if_pos he] at h9
      simpa using h9)
     clear he
     go_wp2_with fail
     go_quiet (fail)
     go_wp2_with fail
     go_roundw
     case rel=>exact ⟨k+1,out,true,by omega,by go_num,rfl,Es (Ck HO2.out (Df _ _)) (by simp),HF.out,by have:=HH.out.2.2.1; simp; try omega,HB2.out.trans ((Df _ _).mono HB2.out.size)⟩
     case measure=>simp [intOf]; omega
    ·obtain ⟨c0,c1⟩:=HC.out.1 W2 HB2.out
     obtain ⟨p0,p1⟩:=HC.out.2 W2 HB2.out
     rw [decide_eq_false he] at hne
     have HE:=Ab he
     have HF:=Ab (show (out ++ [x])++goD (pk,pv,pg) true (l.drop (k+1))=Bu l (pk,pv,pg) from by
      have h9:=HH.out.2.1
      rw [if_neg (by simp),Bool.true_or,if_neg he] at h9
      simpa using h9)
     clear he
     go_wp2_with fail
     go_quiet (fail)
     obtain ⟨u3,w3,hrun3,hrow3,hb3⟩:=Gq w0 (W2.drewN nq) _ (out) x (Ck HO2.out (Df _ _)) (HB2.out.trans ((Df _ _).mono HB2.out.size)) (by have:=HH.out.2.2.1; simp; try omega)
     obtain ⟨uc3,um3,rfl,-⟩:=Ay hrow3
     have HR3:=Ab (And.intro hrow3 hb3)
     have HRUN3:=Ab hrun3
     clear hrun3 hrow3 hb3
     go_wp2_with (at_builtin; refine wpList_plain rfl (fun K hK=>Cg (.tmp 44) (.tmp 49) 65 rfl rfl rfl HRUN3.out (hK _ _ ?_)))
     go_roundw
     case rel=>exact ⟨k+1,out ++ [x],true,by omega,by go_num,rfl,Es HR3.out.1 (by simp),HF.out,by have:=HH.out.2.2.1; simp; try omega,HR3.out.2⟩
     case measure=>simp [intOf]; omega
   | false=>
    cases hlt2 : ltB x.1 pk with
    | true=>
     rw [hlt2] at hge
     have HL:=Ab hlt2
     clear hlt2
     go_wp2_with fail
     go_quiet (fail)
     have HO2:=Ab (Ck HH.out.1 (Df wr nq))
     have HB2:=Ab (HH.out.2.2.2.trans ((Df wr nq).mono HH.out.2.2.2.size))
     clear c0 c1 p0 p1
     generalize wr.drewN nq=W2 at *
     go_wp2_with fail
     have he : x.1≠pk:=ltB_ne HL.out
     obtain ⟨c0,c1⟩:=HC.out.1 W2 HB2.out
     obtain ⟨p0,p1⟩:=HC.out.2 W2 HB2.out
     rw [decide_eq_false he] at hne
     have HE:=Ab he
     have HF:=Ab (show (out ++ [x])++goD (pk,pv,pg) false (l.drop (k+1))=Bu l (pk,pv,pg) from by
      have h9:=HH.out.2.1
      rw [HL.out,if_neg (by simp),show (false || !true)=false from rfl,if_neg he] at h9
      simpa using h9)
     clear he
     go_wp2_with fail
     go_quiet (fail)
     obtain ⟨u3,w3,hrun3,hrow3,hb3⟩:=Gq w0 (W2.drewN nq) _ (out) x (Ck HO2.out (Df _ _)) (HB2.out.trans ((Df _ _).mono HB2.out.size)) (by have:=HH.out.2.2.1; simp; try omega)
     obtain ⟨uc3,um3,rfl,-⟩:=Ay hrow3
     have HR3:=Ab (And.intro hrow3 hb3)
     have HRUN3:=Ab hrun3
     clear hrun3 hrow3 hb3
     go_wp2_with (at_builtin; refine wpList_plain rfl (fun K hK=>Cg (.tmp 44) (.tmp 49) 65 rfl rfl rfl HRUN3.out (hK _ _ ?_)))
     go_roundw
     case rel=>exact ⟨k+1,out ++ [x],false,by omega,by go_num,rfl,Es HR3.out.1 (by simp),HF.out,by have:=HH.out.2.2.1; simp; try omega,HR3.out.2⟩
     case measure=>simp [intOf]; omega
    | false=>
     rw [hlt2] at hge
     have HL:=Ab hlt2
     clear hlt2
     go_wp2_with fail
     go_quiet (fail)
     obtain ⟨q0,q1⟩:=HC.out.2 _ (HH.out.2.2.2.trans ((Df wr nq).mono HH.out.2.2.2.size))
     obtain ⟨u',W2,hrun,hrow,hb'⟩:=Gq w0 (wr.drewN nq) _ out (pk,pv) (Ck HH.out.1 (Df _ _)) (HH.out.2.2.2.trans ((Df _ _).mono HH.out.2.2.2.size)) (by have:=HH.out.2.2.1; omega)
     obtain ⟨ub,uc2,rfl,-⟩:=Ay hrow
     have e9 : (out ++ [(pk,pv)]).length=out.length+1:=by simp
     rw [e9] at hrun
     have HO2:=Ab (Es hrow e9)
     have HB2:=Ab hb'
     have HRUN:=Ab hrun
     clear e9
     clear hrun hrow hb' c0 c1 p0 p1
     go_wp2_with (at_builtin; refine wpList_plain rfl (fun K hK=>Cg (.tmp 28) (.tmp 34) 65 rfl rfl rfl HRUN.out (hK _ _ ?_)))
     by_cases he : x.1=pk
     ·obtain ⟨c0,c1⟩:=HC.out.1 W2 HB2.out
      obtain ⟨p0,p1⟩:=HC.out.2 W2 HB2.out
      rw [decide_eq_true he] at hne
      have HE:=Ab he
      have HF:=Ab (show (out ++ [(pk,pv)])++goD (pk,pv,pg) true (l.drop (k+1))=Bu l (pk,pv,pg) from by
       have h9:=HH.out.2.1
       rw [HL.out,if_pos (by simp),show (false || !false)=true from rfl,if_pos he] at h9
       simpa using h9)
      clear he
      go_wp2_with fail
      go_quiet (fail)
      go_wp2_with fail
      go_roundw
      case rel=>exact ⟨k+1,(out ++ [(pk,pv)]),true,by omega,by go_num,rfl,Es (Ck HO2.out (Df _ _)) (by simp),HF.out,by have:=HH.out.2.2.1; simp; try omega,HB2.out.trans ((Df _ _).mono HB2.out.size)⟩
      case measure=>simp [intOf]; omega
     ·obtain ⟨c0,c1⟩:=HC.out.1 W2 HB2.out
      obtain ⟨p0,p1⟩:=HC.out.2 W2 HB2.out
      rw [decide_eq_false he] at hne
      have HE:=Ab he
      have HF:=Ab (show ((out ++ [(pk,pv)]) ++ [x])++goD (pk,pv,pg) true (l.drop (k+1))=Bu l (pk,pv,pg) from by
       have h9:=HH.out.2.1
       rw [HL.out,if_pos (by simp),show (false || !false)=true from rfl,if_neg he] at h9
       simpa using h9)
      clear he
      go_wp2_with fail
      go_quiet (fail)
      obtain ⟨u3,w3,hrun3,hrow3,hb3⟩:=Gq w0 (W2.drewN nq) _ ((out ++ [(pk,pv)])) x (Ck HO2.out (Df _ _)) (HB2.out.trans ((Df _ _).mono HB2.out.size)) (by have:=HH.out.2.2.1; simp; try omega)
      obtain ⟨uc3,um3,rfl,-⟩:=Ay hrow3
      have HR3:=Ab (And.intro hrow3 hb3)
      have HRUN3:=Ab hrun3
      clear hrun3 hrow3 hb3
      go_wp2_with (at_builtin; refine wpList_plain rfl (fun K hK=>Cg (.tmp 44) (.tmp 49) 65 rfl rfl rfl HRUN3.out (hK _ _ ?_)))
      go_roundw
      case rel=>exact ⟨k+1,(out ++ [(pk,pv)]) ++ [x],true,by omega,by go_num,rfl,Es HR3.out.1 (by simp),HF.out,by have:=HH.out.2.2.1; simp; try omega,HR3.out.2⟩
      case measure=>simp [intOf]; omega
  ·have hkl : k=l.length:=by omega
   subst hkl
   rw [List.drop_length] at hD
   have hpx : wr.cell? ⟨w.heap.size,0,none⟩=some (.string (Ae pk))∧wr.cell? ⟨w.heap.size,1,none⟩=some (.string (Ae pv)):=
    ⟨(hbr.cell (p:=⟨w.heap.size,0,none⟩) (show w.heap.size<w0.heap.size by have:=HZ.out; omega)).trans (by rw [Ad HX.out.1]; rfl),
     (hbr.cell (p:=⟨w.heap.size,1,none⟩) (show w.heap.size<w0.heap.size by have:=HZ.out; omega)).trans (by rw [Ad HX.out.1]; rfl)⟩
   obtain ⟨p0,p1⟩:=hpx
   have HL:=Ab hol
   obtain ⟨ua,uc,rfl,-⟩:=Ay hrow
   cases met with
   | true=>
    have hE : out=Bu l (pk,pv,pg):=by simpa [goD] using hD
    have HF:=Ab (show PrT wr (.slice ua out.length uc) (Bu l (pk,pv,pg))∧(∀ q,(Value.slice ua out.length uc).ownBlock=some q→w.heap.size≤q∧q<wr.heap.size)∧Below w.heap.size w wr from ⟨hE ▸ hrow.pr,fun q hq=>⟨by have h1:=(hrow.lt q hq).1; have h2:=HZ.out; omega,(hrow.lt q hq).2⟩,HX.out.2.trans (hbr.mono (by have:=HZ.out; omega))⟩)
    clear hE hD hrow hbr hol
    go_wp2
    go_ret
    exact ⟨_,rfl,HF.out.1,HF.out.2.1,HF.out.2.2⟩
   | false=>
    have hE : out ++ [(pk,pv)]=Bu l (pk,pv,pg):=by simpa [goD] using hD
    obtain ⟨u3,w3,hrun3,hrow3,hb3⟩:=Gq w0 wr _ out (pk,pv) hrow hbr (by omega)
    obtain ⟨uc3,um3,rfl,-⟩:=Ay hrow3
    have HF:=Ab (show PrT w3 (.slice uc3 (out.length+1) um3) (Bu l (pk,pv,pg))∧(∀ q,(Value.slice uc3 (out.length+1) um3).ownBlock=some q→w.heap.size≤q∧q<w3.heap.size)∧Below w.heap.size w w3 from ⟨by rw [← hE]; exact (Es hrow3 (by simp) : Cq w0.heap.size w3 (.slice uc3 (out.length+1) um3) _).pr,fun q hq=>⟨by have h1:=((Es hrow3 (by simp) : Cq w0.heap.size w3 (.slice uc3 (out.length+1) um3) _).lt q hq).1; have h2:=HZ.out; omega,((Es hrow3 (by simp) : Cq w0.heap.size w3 (.slice uc3 (out.length+1) um3) _).lt q hq).2⟩,HX.out.2.trans (hb3.mono (by have:=HZ.out; omega))⟩)
    have HRUN3:=Ab hrun3
    clear hE hD hrow hbr hol hrun3 hrow3 hb3
    go_wp2_with (at_builtin; refine wpList_plain rfl (fun K hK=>Cg (.tmp 53) (.tmp 59) 65 rfl rfl rfl HRUN3.out (hK _ _ ?_)))
    go_wp2
    go_ret
    exact ⟨_,rfl,HF.out.1,HF.out.2.1,HF.out.2.2⟩
end Go.Proofs.YtblniomnhpedjaaGreatDoor
