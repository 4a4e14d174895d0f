/-
  The law's may and lay, where no operation fails but the power may go. Conditions: the law's world lies there; lengths within reach; the table of sums holds its numbers.
-/
import Derived.Test.YtblniomnhpedjaaGreatDoorL41TTold
import Derived.BigRegion
namespace Go.Proofs.YtblniomnhpedjaaGreatDoor
open Go.RowKit
def mayT (e : Int) : Bool:=decide (e=0) || decide (e=35)
set_option maxRecDepth 20000 in
theorem may_none (w : World) (x d t r : Nat) (bad : Bool) (most last e : Int) (ops : Int) (hW : Dx w x d t r (.slice none 0 0) false bad most last) :
  Calls Tryz.prog 15 #[.pointer (some ⟨x,0,none⟩), .int .i64 e, .int .i64 ops] w fun e' w'=>e' = .returned (.bool (mayT e))∧w'=w:=by
 have x3:=Ad (show w.heap[x]? = some _ from hW) 3
 have x4:=Ad (show w.heap[x]? = some _ from hW) 4
 simp only [List.getElem?_toArray,List.getElem?_cons_zero,List.getElem?_cons_succ] at x3 x4
 clear hW
 by_cases h0 : e=0
 ·subst h0
  go_enter Tryz.func15,Tryz.ntmps15
  go_wp2_with fail
  go_loopw [7] (fun t wr=>t = .int .i64 0∧wr=w) (fun _ _=>0)
  case atStart=>exact ⟨rfl,rfl⟩
  case round=>
   obtain ⟨rfl,rfl⟩:=hrel
   go_wp2
   go_ret
   exact ⟨rfl,rfl⟩
 by_cases h5 : e=35
 ·subst h5
  go_enter Tryz.func15,Tryz.ntmps15
  go_wp2_with fail
  go_loopw [7] (fun t wr=>t = .int .i64 0∧wr=w) (fun _ _=>0)
  case atStart=>exact ⟨rfl,rfl⟩
  case round=>
   obtain ⟨rfl,rfl⟩:=hrel
   go_wp2
   go_ret
   exact ⟨rfl,rfl⟩
 by_cases h3 : e=33
 ·subst h3
  go_enter Tryz.func15,Tryz.ntmps15
  go_wp2_with fail
  go_loopw [7] (fun t wr=>t = .int .i64 0∧wr=w) (fun _ _=>0)
  case atStart=>exact ⟨rfl,rfl⟩
  case round=>
   obtain ⟨rfl,rfl⟩:=hrel
   go_wp2
   go_ret
   exact ⟨rfl,rfl⟩
 ·have q0 : (e == 0)=false:=by simp [h0]
  have q5 : (e == 35)=false:=by simp [h5]
  have q3 : (e == 33)=false:=by simp [h3]
  have HM:=Ab (show mayT e=false by unfold mayT; rw [decide_eq_false h0,decide_eq_false h5]; rfl)
  clear h0 h5 h3
  go_enter Tryz.func15,Tryz.ntmps15
  go_wp2_with fail
  go_loopw [7] (fun t wr=>t = .int .i64 0∧wr=w) (fun _ _=>0)
  case atStart=>exact ⟨rfl,rfl⟩
  case round=>
   obtain ⟨rfl,rfl⟩:=hrel
   go_wp2
   go_ret
   exact ⟨by rw [HM.out]; rfl,rfl⟩
def layOk (S S' : Dk) (lp : List Af) (ps : List Al) (A : Int) : Bool:=
 if Bg lp ps≠0∨ps = [] then decide (A=Bg lp ps) && decide (S'.n=S.n) else mayT A && decide (S'.n≤S.n+30)
theorem M9 {S : Dk} {L : Lw} {sure : Bool} {lp : List Af} {ps : List Al} (hf : A9 lp=true) (h : Bg lp ps≠0∨ps = []) : A5 S L sure lp ps=(S,L,sure,lp,Bg lp ps):=by
 cases hr : A6 ps with
 | false=>rw [Km hr,Hr hr]
 | true=>
  by_cases h0 : ps = []
  ·rw [Mb hr h0,ans_ok hr (by rw [h0]; exact hf)]
  ·cases hft : A9 (Ai lp ps) with
   | false=>rw [Mc hr h0 hft,Hi hr hft]
   | true=>exact (h.elim (fun h=>h (ans_ok hr hft)) h0).elim
theorem Na {S S' : Dk} {lp : List Af} {ps : List Al} (h : Bg lp ps≠0∨ps = []) (hn : S'.n=S.n) : layOk S S' lp ps (Bg lp ps)=true:=by
 unfold layOk
 rw [if_pos h,decide_eq_true rfl,decide_eq_true hn]
 rfl
theorem C2.keepX {X : Nat→Prop} {w w' : World} {r : Nat} {l : List Af} (h : C2 w r l) (hc : Chg X w w') (h1 : ¬ X r) (h2 : ∀ u,w.cell? ⟨r,0,none⟩=some u→∀ q,u.ownBlock=some q→¬ X q) : C2 w' r l:=by
 obtain ⟨u,hu,ao,cap,e,g1,g2,g4⟩:=h
 refine ⟨u,hc.keep hu h1,ao,cap,e,g1,g2,fun hne=>?_⟩
 obtain ⟨c,off,ha,hlt,hcc⟩:=g4 hne
 have hnc : ¬ X c:=h2 u (by rw [Ad hu]; rfl) c (by rw [e,ha]; rfl)
 exact ⟨c,off,ha,Nat.lt_of_lt_of_le hlt hc.size,fun j hj=>⟨(World.cell?_of_block (w:=w) (hc.block c hlt hnc)).trans (hcc j hj).1,(World.cell?_of_block (w:=w) (hc.block c hlt hnc)).trans (hcc j hj).2⟩⟩
section
variable {B : Nat} {w : World} {F : Nat→Prop} {x d g t b r : Nat} {S : Dk} {L : Lw} {sure bad : Bool} {lp : List Af} {ps : List Al} {v : Value} {most last : Int}
set_option maxRecDepth 40000 in
set_option maxHeartbeats 3200000 in
theorem laylaw_any (hW : Dx w x d t r (.slice none 0 0) false bad most last) (h : TabL B w F d g t b S L sure lp) (hR : C2 w r lp) (hv : PsT w v ps) (hpl : ps.length≤140737488355328)
  (hO : ∀ k,(k=x∨k=r∨(∃ u,w.cell? ⟨r,0,none⟩=some u∧u.ownBlock=some k)∨v.ownBlock=some k)→¬ (F k∨k=g∨k=t))
  (hx : ∀ k,(k=r∨(∃ u,w.cell? ⟨r,0,none⟩=some u∧u.ownBlock=some k)∨v.ownBlock=some k)→k≠x) (hm : 0≤most∧most≤4611686018427387904) (hnb : (A5 S L sure lp ps).1.n≤4611686018427387904) (hB0 : 0<B) (hT : Bk w) (hb : 2 * S.bulk<999999990) (hwh : 0≤L.wh∧L.wh≤1099511627776) :
  Calls Tryz.prog 21 #[.pointer (some ⟨x,0,none⟩),v] w fun e w'=>∃ most' last',e = .returned (.tuple #[.int .i64 (A5 S L sure lp ps).2.2.2.2, .bool (layOk S (A5 S L sure lp ps).1 lp ps (A5 S L sure lp ps).2.2.2.2)]) ∧
   Dx w' x d t r (.slice none 0 0) false bad most' last'∧(0≤most'∧most'≤4611686018427387904) ∧
   (∃ F' b',TabL B w' F' d g t b' (A5 S L sure lp ps).1 (A5 S L sure lp ps).2.1 (A5 S L sure lp ps).2.2.1 (A5 S L sure lp ps).2.2.2.1∧(∀ k,F' k→F k∨w.heap.size≤k)∧(b'=b∨w.heap.size≤b')∧Chg (fun k=>F k∨k=g∨k=t∨k=x) w w'):=by
 have hop:=Jg h.log.1
 have hrc:=Nj w r lp ps v hR h.tab.rise h.fit hv hpl
 obtain ⟨va,vc,rfl⟩:=hv.form
 have x0:=Ad (show w.heap[x]? = some _ from hW) 0
 have x1:=Ad (show w.heap[x]? = some _ from hW) 1
 have x2:=Ad (show w.heap[x]? = some _ from hW) 2
 simp only [List.getElem?_toArray,List.getElem?_cons_zero,List.getElem?_cons_succ] at x0 x1 x2
 go_enter Tryz.func21,Tryz.ntmps21
 go_wp2_with fail
 refine hop.mono ?_
 rintro e w1 ⟨rfl,rfl⟩
 go_wp2_with fail
 refine hrc.mono ?_
 rintro e w2 ⟨r',rfl,hR',hrr,hb2,hown⟩
 have q2:=Da hb2
 have h2:=h.quiet q2
 have hW2:=q2.keep (show w1.heap[x]? = some _ from hW) (fun h=>h)
 have hv2:=hv.keepB hb2
 have hcm:=N8 h2 hv2 hB0 (hT.keep hb2) hb hwh
 have y1:=Mi x1 q2
 have hz2:=hb2.size
 by_cases hE : Bg lp ps≠0∨ps = []
 ·have hce:=M9 (S:=S) (L:=L) (sure:=sure) h.fit hE
  rw [hce] at hcm
  have HCE:=Ab hce
  have HE:=Ab hE
  clear hce
  have H2:=Ab (And.intro hW2 (And.intro q2 hm))
  clear hop hrc hW hv hv2 h2 hR hR' hrr hown hb2 hE
  go_wp2_with fail
  refine hcm.mono ?_
  rintro e w3 ⟨rfl,F3,b3,hL3,hF3,hb3,hc3⟩
  have hX:=hO x (.inl rfl)
  have hW3:=hc3.keep (show w2.heap[x]? = some _ from H2.out.1) hX
  have hop:=Jg hL3.log.1
  have y0:=Ad hW3 0
  simp only [List.getElem?_toArray,List.getElem?_cons_zero] at y0
  have hAA : (Bg lp ps == Bg lp ps)=true:=by simp
  have hNN : ((S.n : Int) == (S.n : Int))=true:=by simp
  have HF:=Ab (show (∃ F' b',TabL B w3 F' d g t b' S L sure lp∧(∀ k,F' k→F k∨w1.heap.size≤k)∧(b'=b∨w1.heap.size≤b')∧Chg (fun k=>F k∨k=g∨k=t∨k=x) w1 w3)∧Dx w3 x d t r (.slice none 0 0) false bad most last from
   ⟨⟨F3,b3,hL3,fun k hk=>(hF3 k hk).imp id (fun q=>by omega),hb3.imp id (fun q=>by omega),(H2.out.2.1.mono (fun _ _ h=>h.elim)).then (hc3.mono (fun k _ h=>h.imp id (Or.imp id .inl)))⟩,hW3⟩)
  have HOK:=Ab (Na (S:=S) (S':=S) HE.out rfl)
  have hcond : Bg lp ps=0→(ps.length : Int)=0:=fun q=>by
   rcases HE.out with e | e
   ·exact absurd q e
   ·rw [e]; rfl
  clear hcm hL3 hF3 hb3 hc3 hW3 hX
  generalize hA : Bg lp ps=A at *
  by_cases hA0 : A=0
  ·have q0 : (A == 0)=true:=by simp [hA0]
   have q1 : (A != 0)=false:=by simp [hA0]
   have ql : ((ps.length : Int) == 0)=true:=by simp [hcond hA0]
   clear hA hcond hA0
   go_wp2_with fail
   refine hop.mono ?_
   rintro e w4 ⟨rfl,rfl⟩
   go_wp2
   go_ret2
   rw [HCE.out]
   simp only
   rw [HOK.out]
   exact ⟨most,last,rfl,HF.out.2,H2.out.2.2,HF.out.1⟩
  ·have q0 : (A == 0)=false:=by simp [hA0]
   have q1 : (A != 0)=true:=by simp [hA0]
   clear hA hcond hA0
   go_wp2_with fail
   refine hop.mono ?_
   rintro e w4 ⟨rfl,rfl⟩
   go_wp2
   go_ret2
   rw [HCE.out]
   simp only
   rw [HOK.out]
   exact ⟨most,last,rfl,HF.out.2,H2.out.2.2,HF.out.1⟩
 ·have hA0 : Bg lp ps=0:=Classical.byContradiction (fun q=>hE (.inl q))
  have hps0 : ps ≠ []:=fun q=>hE (.inr q)
  have hrf : A6 ps=true∧A9 (Ai lp ps)=true:=by
   cases hr : A6 ps with
   | false=>rw [Hr hr] at hA0; cases hA0
   | true=>
    cases hft : A9 (Ai lp ps) with
    | false=>rw [Hi hr hft] at hA0; cases hA0
    | true=>exact ⟨rfl,rfl⟩
  obtain ⟨p1,p2,p3⟩:=Ep hrf.1
  have hbx : b≠x:=fun e=>h.tab.map.ne (show w1.heap[x]? = some _ from hW) e.symm
  have hxw : x<w1.heap.size:=At (show w1.heap[x]? = some _ from hW)
  have hXlt : ∀ k,(F k∨k=g∨k=t)→k<w1.heap.size:=fun k hk=>by
   rcases hk with hk | rfl | rfl
   ·exact (h.log.1.2.1 k hk).2
   ·exact h.log.lt
   ·exact At h.tab.cells
  have hr' : ¬ (F r'∨r'=g∨r'=t)∧r'≠x:=by
   rcases hrr with rfl | q
   ·exact ⟨hO r' (.inr (.inl rfl)),hx r' (.inl rfl)⟩
   ·exact ⟨fun e=>by have:=hXlt _ e; omega,by omega⟩
  have hru : ∀ u,w2.cell? ⟨r',0,none⟩=some u→∀ q,u.ownBlock=some q→¬ (F q∨q=g∨q=t)∧q≠x:=fun u hu q hq=>by
   rcases hown u hu with e | e
   ·exact ⟨hO q (.inr (.inr (.inl ⟨u,e,hq⟩))),hx q (.inr (.inl ⟨u,e,hq⟩))⟩
   ·have:=e q hq
    exact ⟨fun e=>by have:=hXlt _ e; omega,by omega⟩
  have hwl:=Ex hrf.2
  rw [G4 hA0] at hR'
  have hlay : ∀ S' A,layOk S S' lp ps A=(mayT A && decide (S'.n≤S.n+30)):=fun S' A=>by unfold layOk; rw [if_neg hE]
  have hlen0 : ((ps.length : Int) == 0)=false:=by
   have:=List.length_pos_iff.2 hps0
   simp
   omega
  generalize hcmt : A5 S L sure lp ps=cmt at *
  obtain ⟨S',L',sure',lp',A⟩:=cmt
  simp only at hcm hnb
  have HLAY:=Ab hlay
  have HCM:=Ab hcmt
  have H2:=Ab (And.intro hW2 (And.intro q2 (And.intro hm (And.intro hv2 (And.intro hR' (And.intro hown (And.intro hrr h.log)))))))
  rw [hA0]
  clear hop hrc hW hv hv2 h2 hR hR' hrr hown hb2 hE hlay hcmt hrf h hps0
  go_wp2_with fail
  refine hcm.mono ?_
  rintro e w3 ⟨rfl,F3,b3,hL3,hF3,hb3,hc3⟩
  have hW3:=hc3.keep (show w2.heap[x]? = some _ from H2.out.1) (hO x (.inl rfl))
  have hR3:=H2.out.2.2.2.2.1.keepX hc3 hr'.1 (fun u hu q hq=>(hru u hu q hq).1)
  have hv3:=H2.out.2.2.2.1.keep hc3 (fun _ b off n cap e=>hO b (.inr (.inr (.inr (by rw [e]; rfl)))))
  have hru3 : ∀ u,w3.cell? ⟨r',0,none⟩=some u→∀ q,u.ownBlock=some q→q≠x:=fun u hu q hq=>by
   have hlt:=H2.out.2.2.2.2.1.lt
   exact (hru u (by rw [← hu]; exact (World.cell?_of_block (w:=w2) (a:=⟨r',0,none⟩) (hc3.block r' hlt hr'.1)).symm) q hq).2
  have t7:=Au hW3 7
  have x7:=Ad hW3 7
  simp only [List.getElem?_toArray,List.getElem?_cons_zero,List.getElem?_cons_succ] at x7
  have hW4:=Ax hW3 7 (.int .i64 0)
  have k4 : Chg (· = x) w3 (w3.setCell ⟨x,7,none⟩ (.int .i64 0)):=(Chg.refl (· = x) w3).setCell (p:=⟨x,7,none⟩) (.inl rfl) _
  have H3:=Ab (And.intro hL3 (And.intro hF3 (And.intro hb3 (And.intro hc3 (And.intro hR3 (And.intro hv3 (And.intro hru3 hr'.2)))))))
  clear hL3 hF3 hb3 hc3 hR3 hv3 hru3 hru hXlt hcm
  go_wp2_with fail
  generalize w3.setCell ⟨x,7,none⟩ (.int .i64 0)=w4 at *
  have hW4 : Dx w4 x d t r (.slice none 0 0) false bad most 0:=hW4
  clear hW3 t7 x7
  go_loopw [10] (fun tk wr=>∃ k : Nat,k≤ps.length∧tk = .int .i64 k∧Dx wr x d t r (.slice none 0 0) false bad most ((30 * k+Bh (ps.take k) : Nat) : Int)∧Chg (· = x) w3 wr) (fun tk _=>ps.length - (intOf tk).toNat)
  case atStart=>exact ⟨0,by omega,rfl,hW4,k4⟩
  case round=>
   obtain ⟨k,hk,rfl,hWr,hcr⟩:=hrel
   have x7:=Ad (show wr.heap[x]? = some _ from hWr) 7
   have z7:=Au (show wr.heap[x]? = some _ from hWr) 7
   simp only [List.getElem?_toArray,List.getElem?_cons_zero,List.getElem?_cons_succ] at x7
   by_cases hlt : k<ps.length
   ·obtain ⟨b0,off,rfl,hbl,c0,c1,c2⟩:=(H3.out.2.2.2.2.2.1.keep hcr (fun _ b off n cap e=>hx b (.inr (.inr (by rw [e]; rfl))))).at hlt
    have htt:=Mj ps hlt
    have hle : Bh (ps.take (k+1))≤Bh ps:=by
     have e1 : Bh ps=Bh (ps.take (k+1))+Bh (ps.drop (k+1)):=by rw [← O7,List.take_append_drop]
     omega
    generalize ps[k]=y at *
    have hy1:=B8 y.1
    have hy2:=B8 y.2.1
    obtain ⟨m0,hm0⟩ : ∃ m0 : Nat,m0=30 * k+Bh (ps.take k):=⟨_,rfl⟩
    obtain ⟨m1,hm1⟩ : ∃ m1 : Nat,m1=30 * (k+1)+Bh (ps.take (k+1)):=⟨_,rfl⟩
    rw [← hm0] at x7
    have a1 : IntKind.i64.wrap ((m0 : Int)+30)=(m0 : Int)+30:=by rw [IntKind.wrap_i64]; omega
    have a2 : IntKind.i64.wrap ((m0 : Int)+30+(y.1.length : Int))=(m0 : Int)+30+(y.1.length : Int):=by rw [IntKind.wrap_i64]; omega
    have a3 : IntKind.i64.wrap ((m0 : Int)+30+(y.1.length : Int)+(y.2.1.length : Int))=(m1 : Int):=by
     rw [show (m0 : Int)+30+(y.1.length : Int)+(y.2.1.length : Int)=(m1 : Int) by omega,IntKind.wrap_i64]
     omega
    have hWs:=Ax (show wr.heap[x]? = some _ from hWr) 7 (.int .i64 (m1 : Int))
    have hcs:=hcr.setCell (p:=⟨x,7,none⟩) (.inl rfl) (.int .i64 (m1 : Int))
    have HS:=Ab (And.intro hWs (And.intro hcs hm1))
    clear hWr hcr hWs hcs hm0 hm1 htt hle
    go_wp2_with fail
    go_region
    go_wp2_with fail
    go_roundw
    case rel=>exact ⟨k+1,by omega,by go_num,by rw [← HS.out.2.2]; exact HS.out.1,HS.out.2.1.drew⟩
    case measure=>simp [intOf]; omega
   ·have hkl : k=ps.length:=by omega
    subst hkl
    rw [List.take_length] at hWr
    have hRr:=H3.out.2.2.2.2.1.keepX hcr H3.out.2.2.2.2.2.2.2 H3.out.2.2.2.2.2.2.1
    obtain ⟨u,hu,hpu⟩:=hRr
    obtain ⟨ua,uc,rfl⟩:=hpu.form
    have c0:=Ad hu 0
    have x6:=Ad (show wr.heap[x]? = some _ from hWr) 6
    have z6:=Au (show wr.heap[x]? = some _ from hWr) 6
    simp only [List.getElem?_toArray,List.getElem?_cons_zero,List.getElem?_cons_succ] at x6 c0
    have hlr:=At hu
    generalize hnx : Ai lp ps=nx at *
    obtain ⟨last2,hl2⟩ : ∃ l2 : Int,l2=((30 * ps.length+Bh ps : Nat) : Int):=⟨_,rfl⟩
    rw [← hl2] at hWr
    have HL2:=Ab (And.intro hWr (And.intro hcr (And.intro hpu hlr)))
    clear hWr hcr x7 z7 hl2 hu
    have hwe:=fun W (hW : Chg (fun _=>False) wr W)=>M8 W _ nx (HL2.out.2.2.1.quiet hW) (by omega)
    have hfin : ∀ W,Chg (fun _=>False) wr W→W.cell? ⟨r',0,none⟩=some (.slice ua nx.length uc)∧W.cell? ⟨x,6,none⟩=some (.int .i64 most)∧W.frozen? ⟨x,6,none⟩=false∧Dx (W.setCell ⟨x,6,none⟩ (.int .i64 (max most (Ag nx : Int)))) x d t r (.slice none 0 0) false bad (max most (Ag nx : Int)) last2∧Chg (· = x) w3 (W.setCell ⟨x,6,none⟩ (.int .i64 (max most (Ag nx : Int))))∧(W.setCell ⟨x,6,none⟩ (.int .i64 (max most (Ag nx : Int)))).cell? ⟨r',0,none⟩=some (.slice ua nx.length uc):=fun W hW=>by
     have h1:=hW.keep (show wr.heap[x]? = some _ from HL2.out.1) (fun h=>h)
     have h2:=Mi c0 hW
     have h3:=Ax h1 6 (.int .i64 (max most (Ag nx : Int)))
     refine ⟨h2,by rw [Ad h1]; rfl,Au h1 6,h3,(HL2.out.2.1.then (hW.mono (fun _ _ h=>h.elim))).setCell (p:=⟨x,6,none⟩) (.inl rfl) _,?_⟩
     rw [← h2]
     exact World.cell?_of_block (w:=W) (a:=⟨r',0,none⟩) (Below.heap_setCell _ _ _ _ H3.out.2.2.2.2.2.2.2)
    have HFin:=Ab hfin
    have HWE:=Ab hwe
    obtain ⟨f1,f2,f3,-⟩:=hfin _ ((Chg.refl (fun _=>False) wr).drew)
    clear hfin hwe x6 z6
    go_upto_region 11 with fail
    go_cut [7] from 83 to 95 (fun v7 wx=>v7 = .pointer (some ⟨r',0,none⟩)∧∃ mx : Int,mx=max most (Ag nx : Int)∧Dx wx x d t r (.slice none 0 0) false bad mx last2∧Chg (· = x) w3 wx)
    case first=>
     refine wp_region_held_drew (S:=fun W=>W.cell? ⟨r',0,none⟩=some (.slice ua nx.length uc)) (by kernel_rfl) (c0) (fun hHeld=>?_)
     refine Aa (i:=0) (v:=?_) rfl (by kernel_rfl) (by kernel_rfl) (by kernel_rfl) (fun _ _ _ h=>h) rfl ?_ hHeld ?_
     rotate_left
     ·intro w hS; (try dsimp only at hS); obtain hS0:=hS; go_simp; first | done | (with_reducible rfl)
     try simp only [Act.put,List.setIfInBounds_toArray,List.set_cons_zero,List.set_cons_succ]
     refine Aa (i:=1) (v:=?_) rfl (by kernel_rfl) (by kernel_rfl) (by kernel_rfl) (fun _ _ _ h=>h) rfl ?_ hHeld ?_
     rotate_left
     ·intro w hS; (try dsimp only at hS); obtain hS0:=hS; go_simp; first | done | (with_reducible rfl)
     try simp only [Act.put,List.setIfInBounds_toArray,List.set_cons_zero,List.set_cons_succ]
     refine Aa (i:=2) (v:=?_) rfl (by kernel_rfl) (by kernel_rfl) (by kernel_rfl) (fun _ _ _ h=>h) rfl ?_ hHeld ?_
     rotate_left
     ·intro w hS; (try dsimp only at hS); obtain hS0:=hS; go_simp; first | done | (with_reducible rfl)
     try simp only [Act.put,List.setIfInBounds_toArray,List.set_cons_zero,List.set_cons_succ]
     refine Aa (i:=3) (v:=?_) rfl (by kernel_rfl) (by kernel_rfl) (by kernel_rfl) (fun _ _ _ h=>h) rfl ?_ hHeld ?_
     rotate_left
     ·intro w hS; (try dsimp only at hS); obtain hS0:=hS; go_simp; first | done | (with_reducible rfl)
     try simp only [Act.put,List.setIfInBounds_toArray,List.set_cons_zero,List.set_cons_succ]
     refine Aa (i:=5) (v:=?_) rfl (by kernel_rfl) (by kernel_rfl) (by kernel_rfl) (fun _ _ _ h=>h) rfl ?_ hHeld ?_
     rotate_left
     ·intro w hS; (try dsimp only at hS); obtain hS0:=hS; go_simp; first | done | (with_reducible rfl)
     try simp only [Act.put,List.setIfInBounds_toArray,List.set_cons_zero,List.set_cons_succ]
     refine Aa (i:=6) (v:=?_) rfl (by kernel_rfl) (by kernel_rfl) (by kernel_rfl) (fun _ _ _ h=>h) rfl ?_ hHeld ?_
     rotate_left
     ·intro w hS; (try dsimp only at hS); obtain hS0:=hS; go_simp; first | done | (with_reducible rfl)
     try simp only [Act.put,List.setIfInBounds_toArray,List.set_cons_zero,List.set_cons_succ]
     refine Aa (i:=7) (v:=?_) rfl (by kernel_rfl) (by kernel_rfl) (by kernel_rfl) (fun _ _ _ h=>h) rfl ?_ hHeld ?_
     rotate_left
     ·intro w hS; (try dsimp only at hS); obtain hS0:=hS; go_simp; first | done | (with_reducible rfl)
     try simp only [Act.put,List.setIfInBounds_toArray,List.set_cons_zero,List.set_cons_succ]
     refine Aa (i:=8) (v:=?_) rfl (by kernel_rfl) (by kernel_rfl) (by kernel_rfl) (fun _ _ _ h=>h) rfl ?_ hHeld ?_
     rotate_left
     ·intro w hS; (try dsimp only at hS); obtain hS0:=hS; go_simp; first | done | (with_reducible rfl)
     try simp only [Act.put,List.setIfInBounds_toArray,List.set_cons_zero,List.set_cons_succ]
     refine twoH (i:=4) (j:=9) rfl rfl (by kernel_rfl) rfl rfl (fun K hK=>?_) (fun K hK=>?_)
     ·go_simp
      refine hK.out _ _ (f1) (fun hHeld=>?_)
      clear hK K
      try simp only [Act.put,List.setIfInBounds_toArray,List.set_cons_zero,List.set_cons_succ]
      refine An (i:=9) rfl (by kernel_rfl) rfl (fun K hK=>?_)
      go_simp
      refine (HWE.out _ ((Chg.refl (fun _=>False) wr).drew)).mono ?_
      rintro e w5 ⟨rfl,q5⟩
      have q5':=((Chg.refl (fun _=>False) wr).drew).then q5
      obtain ⟨g1,g2,g3,g4,g5,g6⟩:=HFin.out w5 q5'
      have HG:=Ab (And.intro g4 (And.intro g5 g6))
      clear g4 g5 g6
      refine hK.out _ _ (g1) (fun hHeld=>?_)
      clear hK K
      try simp only [Act.put,List.setIfInBounds_toArray,List.set_cons_zero,List.set_cons_succ]
      refine Aa (i:=10) (v:=?_) rfl (by kernel_rfl) (by kernel_rfl) (by kernel_rfl) (fun _ _ _ h=>h) rfl ?_ hHeld ?_
      rotate_left
      ·intro w hS; (try dsimp only at hS); obtain hS0:=hS; go_simp; first | done | (with_reducible rfl)
      try simp only [Act.put,List.setIfInBounds_toArray,List.set_cons_zero,List.set_cons_succ]
      refine Aa (i:=11) (v:=?_) rfl (by kernel_rfl) (by kernel_rfl) (by kernel_rfl) (fun _ _ _ h=>h) rfl ?_ hHeld ?_
      rotate_left
      ·intro w hS; (try dsimp only at hS); obtain hS0:=hS; go_simp; first | done | (with_reducible rfl)
      try simp only [Act.put,List.setIfInBounds_toArray,List.set_cons_zero,List.set_cons_succ]
      refine Aa (i:=12) (v:=?_) rfl (by kernel_rfl) (by kernel_rfl) (by kernel_rfl) (fun _ _ _ h=>h) rfl ?_ hHeld ?_
      rotate_left
      ·intro w hS; (try dsimp only at hS); obtain hS0:=hS; go_simp; first | done | (with_reducible rfl)
      try simp only [Act.put,List.setIfInBounds_toArray,List.set_cons_zero,List.set_cons_succ]
      refine An (i:=13) rfl (by kernel_rfl) rfl (fun K hK=>?_)
      go_simp
      refine hK.out _ _ (HG.out.2.2) (fun hHeld=>?_)
      clear hK K
      try simp only [Act.put,List.setIfInBounds_toArray,List.set_cons_zero,List.set_cons_succ]
      refine wpAnyH_done (by kernel_rfl) ?_ _
      clear hHeld
      go_wp2_with fail
      go_meet
      exact ⟨rfl,_,rfl,HG.out.1,HG.out.2.1⟩
     ·go_simp
      refine (HWE.out _ ((Chg.refl (fun _=>False) wr).drew)).mono ?_
      rintro e w5 ⟨rfl,q5⟩
      have q5':=((Chg.refl (fun _=>False) wr).drew).then q5
      obtain ⟨g1,g2,g3,g4,g5,g6⟩:=HFin.out w5 q5'
      have HG:=Ab (And.intro g4 (And.intro g5 g6))
      clear g4 g5 g6
      refine hK.out _ _ (g1) (fun hHeld=>?_)
      clear hK K
      try simp only [Act.put,List.setIfInBounds_toArray,List.set_cons_zero,List.set_cons_succ]
      refine An (i:=4) rfl (by kernel_rfl) rfl (fun K hK=>?_)
      go_simp
      refine hK.out _ _ (g1) (fun hHeld=>?_)
      clear hK K
      try simp only [Act.put,List.setIfInBounds_toArray,List.set_cons_zero,List.set_cons_succ]
      refine Aa (i:=10) (v:=?_) rfl (by kernel_rfl) (by kernel_rfl) (by kernel_rfl) (fun _ _ _ h=>h) rfl ?_ hHeld ?_
      rotate_left
      ·intro w hS; (try dsimp only at hS); obtain hS0:=hS; go_simp; first | done | (with_reducible rfl)
      try simp only [Act.put,List.setIfInBounds_toArray,List.set_cons_zero,List.set_cons_succ]
      refine Aa (i:=11) (v:=?_) rfl (by kernel_rfl) (by kernel_rfl) (by kernel_rfl) (fun _ _ _ h=>h) rfl ?_ hHeld ?_
      rotate_left
      ·intro w hS; (try dsimp only at hS); obtain hS0:=hS; go_simp; first | done | (with_reducible rfl)
      try simp only [Act.put,List.setIfInBounds_toArray,List.set_cons_zero,List.set_cons_succ]
      refine Aa (i:=12) (v:=?_) rfl (by kernel_rfl) (by kernel_rfl) (by kernel_rfl) (fun _ _ _ h=>h) rfl ?_ hHeld ?_
      rotate_left
      ·intro w hS; (try dsimp only at hS); obtain hS0:=hS; go_simp; first | done | (with_reducible rfl)
      try simp only [Act.put,List.setIfInBounds_toArray,List.set_cons_zero,List.set_cons_succ]
      refine An (i:=13) rfl (by kernel_rfl) rfl (fun K hK=>?_)
      go_simp
      refine hK.out _ _ (HG.out.2.2) (fun hHeld=>?_)
      clear hK K
      try simp only [Act.put,List.setIfInBounds_toArray,List.set_cons_zero,List.set_cons_succ]
      refine wpAnyH_done (by kernel_rfl) ?_ _
      clear hHeld
      go_wp2_with fail
      go_meet
      exact ⟨rfl,_,rfl,HG.out.1,HG.out.2.1⟩
    case rest=>
     obtain ⟨rfl,mx,hmx,hW6,hc6⟩:=hcut
     have hmy:=may_none wc x d t r bad mx last2 A (S.n : Int) hW6
     have hx0:=hO x (.inl rfl)
     have hL6:=H3.out.1.keep hc6 (fun k hk e=>by
      rcases H3.out.2.1 k hk with q | q
      ·exact hx0 (.inl (e ▸ q))
      ·omega) (fun e=>hx0 (.inr (.inr e.symm))) (fun e=>by
      rcases H3.out.2.2.1 with q | q
      ·exact hbx (q ▸ e)
      ·omega) (fun e=>hx0 (.inr (.inl e.symm)))
     have hop:=Jg hL6.log.1
     have hSn : S.n≤S.bulk:=by unfold Dk.bulk; omega
     have y0:=Ad (show wc.heap[x]? = some _ from hW6) 0
     simp only [List.getElem?_toArray,List.getElem?_cons_zero] at y0
     have hsub : IntKind.i64.wrap ((S'.n : Int) - (S.n : Int))=(S'.n : Int) - (S.n : Int):=by rw [IntKind.wrap_i64]; omega
     have HFF:=Ab (show (∃ F' b',TabL B wc F' d g t b' S' L' sure' lp'∧(∀ k,F' k→F k∨w1.heap.size≤k)∧(b'=b∨w1.heap.size≤b')∧Chg (fun k=>F k∨k=g∨k=t∨k=x) w1 wc)∧Dx wc x d t r (.slice none 0 0) false bad mx last2∧(0≤mx∧mx≤4611686018427387904) from
      ⟨⟨F3,b3,hL6,fun k hk=>(H3.out.2.1 k hk).imp id (fun q=>by omega),H3.out.2.2.1.imp id (fun q=>by omega),((H2.out.2.1.mono (fun _ _ h=>h.elim)).then (H3.out.2.2.2.1.mono (fun k _ h=>h.imp id (Or.imp id .inl)))).then (hc6.mono (fun k _ h=>.inr (.inr (.inr h))))⟩,hW6,by have:=H2.out.2.2.1; omega⟩)
     clear hmx hW6 hc6 hL6 hx0 hbx hSn
     go_wp2_with fail
     refine hmy.mono ?_
     rintro e w7 ⟨rfl,rfl⟩
     clear hmy
     cases hma : mayT A with
     | false=>
      have HMA:=Ab hma
      clear hma
      go_wp2
      go_ret2
      rw [HCM.out]
      simp only
      rw [HLAY.out,HMA.out]
      exact ⟨mx,last2,rfl,HFF.out.2.1,HFF.out.2.2,HFF.out.1⟩
     | true=>
      have HMA:=Ab hma
      clear hma
      by_cases hd : S'.n≤S.n+30
      ·have hd' : decide ((S'.n : Int) - (S.n : Int)≤30)=true:=decide_eq_true (by omega)
       have HD:=Ab (decide_eq_true hd)
       clear hd
       go_wp2_with fail
       refine hop.mono ?_
       rintro e w8 ⟨rfl,rfl⟩
       go_wp2
       go_ret2
       rw [HCM.out]
       simp only
       rw [HLAY.out,HMA.out,HD.out]
       exact ⟨mx,last2,rfl,HFF.out.2.1,HFF.out.2.2,HFF.out.1⟩
      ·have hd' : decide ((S'.n : Int) - (S.n : Int)≤30)=false:=decide_eq_false (by omega)
       have HD:=Ab (decide_eq_false hd)
       clear hd
       go_wp2_with fail
       refine hop.mono ?_
       rintro e w8 ⟨rfl,rfl⟩
       go_wp2
       go_ret2
       rw [HCM.out]
       simp only
       rw [HLAY.out,HMA.out,HD.out]
       exact ⟨mx,last2,rfl,HFF.out.2.1,HFF.out.2.2,HFF.out.1⟩
end
end Go.Proofs.YtblniomnhpedjaaGreatDoor
