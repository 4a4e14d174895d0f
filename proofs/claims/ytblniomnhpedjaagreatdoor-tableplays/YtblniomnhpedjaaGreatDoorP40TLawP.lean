/-
  The law's lay, whatever is to fail. Conditions: the law's world, its numbers and its table lie there; lengths within reach; the table of sums holds its numbers.
-/
import Derived.Test.YtblniomnhpedjaaGreatDoorP39TMay
import Derived.BigRegion
namespace Go.Proofs.YtblniomnhpedjaaGreatDoor
open Go.RowKit
def LayP (w' : World) (e : Ending) (x d t r : Nat) (f : Value) (tight bad : Bool) (most : Int) (lp : List Af) (ps : List An) (A : Int) : Prop:=
 ∃ (most' last' : Int) (bad' : Bool),e = .returned (.tuple #[.int .i64 A, .bool true])∧C9 w' x d t r f tight bad' most' last'∧(bad'=false→bad=false∧(¬ (Bg lp ps≠0∨ps = [])→A≠34))∧(0≤most'∧most≤most'∧(¬ (Bg lp ps≠0∨ps = [])→(Ag (Ai lp ps) : Int)≤most'))∧most'≤1048576∧0≤last'∧last'≤100000000
section
variable {B base : Nat} {w : World} {F : Nat→Prop} {x d g t b r : Nat} {S : Dk} {L : Lw} {sure bad tight : Bool} {lp : List Af} {ps : List An} {v f : Value} {most last : Int} {ks : List Int}
set_option maxRecDepth 40000 in
set_option maxHeartbeats 3200000 in
theorem layp_any (hW : C9 w x d t r f tight bad most last) (h : TabL B w F d g t b S L sure lp) (hR : Cr w r lp) (hv : PsT w v ps) (hpl : ps.length≤140737488355328)
  (hO : ∀ k,(k=x∨k=r∨(∃ u,w.cell? ⟨r,0,none⟩=some u∧u.ownBlock=some k)∨v.ownBlock=some k)→¬ (F k∨k=g∨k=t))
  (hx : ∀ k,(k=r∨(∃ u,w.cell? ⟨r,0,none⟩=some u∧u.ownBlock=some k)∨v.ownBlock=some k)→k≠x) (hm : 0≤most∧most≤1048576) (hm2 : 0≤last∧last≤100000000) (hB0 : 0<B) (hT : Bm w) (hb : 2 * S.bulk<999999990) (hwh : 0≤L.wh∧L.wh≤1099511627776)
  (hfk : w.ownsRow base 3 1 f ks.length (icW ks)) (hfo : ∀ k,f.ownBlock=some k→¬ (F k∨k=g∨k=t)∧k≠x) (hkl : ks.length≤1000000)
  (hmay : ¬ (Bg lp ps≠0∨ps = [])→Ok (Aq S L sure lp ps).1→MayBe tight ks S.n (Aq S L sure lp ps).1.n (Aq S L sure lp ps).2.2.2.2∧(Aq S L sure lp ps).1.n≤S.n+30∧(Aq S L sure lp ps).1.n≤4611686018427387904) :
  Calls Tryz.prog 21 #[.pointer (some ⟨x,0,none⟩),v] w fun e w'=>LayP w' e x d t r f tight bad most lp ps (Aq S L sure lp ps).2.2.2.2 ∧
   (∃ F' b',TabL B w' F' d g t b' (Aq S L sure lp ps).1 (Aq S L sure lp ps).2.1 (Aq S L sure lp ps).2.2.1 (Aq S L sure lp ps).2.2.2.1∧(∀ k,F' k→F k∨w.heap.size≤k)∧(b'=b∨w.heap.size≤b')∧Chg (fun k=>F k∨k=g∨k=t∨k=x) w w'):=by
 have hop:=G0 h.log.1
 have hrc:=Pn w r lp ps v hR h.tab.rise h.fit hv hpl
 obtain ⟨va,vc,rfl⟩:=hv.form
 have x0:=Ad (show w.heap[x]? = some _ from hW) 0
 have x1:=Ad (show w.heap[x]? = some _ from hW) 1
 have x2:=Ad (show w.heap[x]? = some _ from hW) 2
 simp only [List.getElem?_toArray,List.getElem?_cons_zero,List.getElem?_cons_succ] at x0 x1 x2
 go_enter Tryz.func21,Tryz.ntmps21
 go_wp2_with fail
 refine hop.mono ?_
 rintro e w1 ⟨rfl,rfl⟩
 go_wp2_with fail
 refine hrc.mono ?_
 rintro e w2 ⟨r',rfl,hR',hrr,hb2,hown⟩
 have q2:=C5 hb2
 have h2:=h.quiet q2
 have hW2:=q2.keep (show w1.heap[x]? = some _ from hW) (fun h=>h)
 have hv2:=hv.keepB hb2
 have hcm:=Ob h2 hv2 hB0 (hT.keep hb2) hb hwh
 have y1:=D1 x1 q2
 have hz2:=hb2.size
 by_cases hE : Bg lp ps≠0∨ps = []
 ·have hce:=N2 (S:=S) (L:=L) (sure:=sure) h.fit hE
  rw [hce] at hcm
  have HCE:=Ab hce
  have HE:=Ab hE
  clear hce
  have H2:=Ab (And.intro hW2 (And.intro q2 (And.intro hm hm2)))
  clear hop hrc hW hv hv2 h2 hR hR' hrr hown hb2 hE
  go_wp2_with fail
  refine hcm.mono ?_
  rintro e w3 ⟨rfl,F3,b3,hL3,hF3,hb3,hc3⟩
  have hX:=hO x (.inl rfl)
  have hW3:=hc3.keep (show w2.heap[x]? = some _ from H2.out.1) hX
  have hop:=G0 hL3.log.1
  have y0:=Ad hW3 0
  simp only [List.getElem?_toArray,List.getElem?_cons_zero] at y0
  have hAA : (Bg lp ps == Bg lp ps)=true:=by simp
  have hNN : ((S.n : Int) == (S.n : Int))=true:=by simp
  have HF:=Ab (show (∃ F' b',TabL B w3 F' d g t b' S L sure lp∧(∀ k,F' k→F k∨w1.heap.size≤k)∧(b'=b∨w1.heap.size≤b')∧Chg (fun k=>F k∨k=g∨k=t∨k=x) w1 w3)∧C9 w3 x d t r f tight bad most last from
   ⟨⟨F3,b3,hL3,fun k hk=>(hF3 k hk).imp id (fun q=>by omega),hb3.imp id (fun q=>by omega),(H2.out.2.1.mono (fun _ _ h=>h.elim)).then (hc3.mono (fun k _ h=>h.imp id (Or.imp id .inl)))⟩,hW3⟩)
  have hcond : Bg lp ps=0→(ps.length : Int)=0:=fun q=>by
   rcases HE.out with e | e
   ·exact absurd q e
   ·rw [e]; rfl
  clear hcm hL3 hF3 hb3 hc3 hW3 hX
  generalize hA : Bg lp ps=A at *
  by_cases hA0 : A=0
  ·have q0 : (A == 0)=true:=by simp [hA0]
   have q1 : (A != 0)=false:=by simp [hA0]
   have ql : ((ps.length : Int) == 0)=true:=by simp [hcond hA0]
   have HAE:=Ab hA
   clear hA hcond hA0
   go_wp2_with fail
   refine hop.mono ?_
   rintro e w4 ⟨rfl,rfl⟩
   go_wp2
   go_ret2
   rw [HCE.out]
   exact ⟨⟨most,last,bad,rfl,HF.out.2,fun e=>⟨e,fun q=>absurd (by rw [HAE.out]; exact HE.out) q⟩,⟨H2.out.2.2.1.1,Int.le_refl _,fun q=>absurd (by rw [HAE.out]; exact HE.out) q⟩,H2.out.2.2.1.2,H2.out.2.2.2⟩,HF.out.1⟩
  ·have q0 : (A == 0)=false:=by simp [hA0]
   have q1 : (A != 0)=true:=by simp [hA0]
   have HAE:=Ab hA
   clear hA hcond hA0
   go_wp2_with fail
   refine hop.mono ?_
   rintro e w4 ⟨rfl,rfl⟩
   go_wp2
   go_ret2
   rw [HCE.out]
   exact ⟨⟨most,last,bad,rfl,HF.out.2,fun e=>⟨e,fun q=>absurd (by rw [HAE.out]; exact HE.out) q⟩,⟨H2.out.2.2.1.1,Int.le_refl _,fun q=>absurd (by rw [HAE.out]; exact HE.out) q⟩,H2.out.2.2.1.2,H2.out.2.2.2⟩,HF.out.1⟩
 ·have hA0 : Bg lp ps=0:=Classical.byContradiction (fun q=>hE (.inl q))
  have hps0 : ps ≠ []:=fun q=>hE (.inr q)
  have hrf : Bc ps=true∧Bb (Ai lp ps)=true:=by
   cases hr : Bc ps with
   | false=>rw [Hy hr] at hA0; cases hA0
   | true=>
    cases hft : Bb (Ai lp ps) with
    | false=>rw [Hv hr hft] at hA0; cases hA0
    | true=>exact ⟨rfl,rfl⟩
  obtain ⟨p1,p2,p3⟩:=Er hrf.1
  have hbx : b≠x:=fun e=>h.tab.map.ne (show w1.heap[x]? = some _ from hW) e.symm
  have hxw : x<w1.heap.size:=At (show w1.heap[x]? = some _ from hW)
  have hXlt : ∀ k,(F k∨k=g∨k=t)→k<w1.heap.size:=fun k hk=>by
   rcases hk with hk | rfl | rfl
   ·exact (h.log.1.2.1 k hk).2
   ·exact h.log.lt
   ·exact At h.tab.cells
  have hr' : ¬ (F r'∨r'=g∨r'=t)∧r'≠x:=by
   rcases hrr with rfl | q
   ·exact ⟨hO r' (.inr (.inl rfl)),hx r' (.inl rfl)⟩
   ·exact ⟨fun e=>by have:=hXlt _ e; omega,by omega⟩
  have hru : ∀ u,w2.cell? ⟨r',0,none⟩=some u→∀ q,u.ownBlock=some q→¬ (F q∨q=g∨q=t)∧q≠x:=fun u hu q hq=>by
   rcases hown u hu with e | e
   ·exact ⟨hO q (.inr (.inr (.inl ⟨u,e,hq⟩))),hx q (.inr (.inl ⟨u,e,hq⟩))⟩
   ·have:=e q hq
    exact ⟨fun e=>by have:=hXlt _ e; omega,by omega⟩
  have hwl:=Ea hrf.2
  rw [Gf hA0] at hR'
  have HE:=Ab hE
  have hmay:=hmay hE
  have hlen0 : ((ps.length : Int) == 0)=false:=by
   have:=List.length_pos_iff.2 hps0
   simp
   omega
  generalize hcmt : Aq S L sure lp ps=cmt at *
  obtain ⟨S',L',sure',lp',A⟩:=cmt
  simp only at hcm hmay
  have HMAY:=Ab hmay
  have HCM:=Ab hcmt
  have H2:=Ab (And.intro hW2 (And.intro q2 (And.intro hm (And.intro hv2 (And.intro hR' (And.intro hown (And.intro hrr h.log)))))))
  rw [hA0]
  clear hop hrc hW hv hv2 h2 hR hR' hrr hown hb2 hE hmay hcmt hrf h hps0
  go_wp2_with fail
  refine hcm.mono ?_
  rintro e w3 ⟨rfl,F3,b3,hL3,hF3,hb3,hc3⟩
  have hW3:=hc3.keep (show w2.heap[x]? = some _ from H2.out.1) (hO x (.inl rfl))
  have hR3:=H2.out.2.2.2.2.1.keepX hc3 hr'.1 (fun u hu q hq=>(hru u hu q hq).1)
  have hv3:=H2.out.2.2.2.1.keep hc3 (fun _ b off n cap e=>hO b (.inr (.inr (.inr (by rw [e]; rfl)))))
  have hru3 : ∀ u,w3.cell? ⟨r',0,none⟩=some u→∀ q,u.ownBlock=some q→q≠x:=fun u hu q hq=>by
   have hlt:=H2.out.2.2.2.2.1.lt
   exact (hru u (by rw [← hu]; exact (World.cell?_of_block (w:=w2) (a:=⟨r',0,none⟩) (hc3.block r' hlt hr'.1)).symm) q hq).2
  have t7:=Av hW3 7
  have x7:=Ad hW3 7
  simp only [List.getElem?_toArray,List.getElem?_cons_zero,List.getElem?_cons_succ] at x7
  have hW4:=A0 hW3 7 (.int .i64 0)
  have k4 : Chg (· = x) w3 (w3.setCell ⟨x,7,none⟩ (.int .i64 0)):=(Chg.refl (· = x) w3).setCell (p:=⟨x,7,none⟩) (.inl rfl) _
  have H3:=Ab (And.intro hL3 (And.intro hF3 (And.intro hb3 (And.intro hc3 (And.intro hR3 (And.intro hv3 (And.intro hru3 hr'.2)))))))
  clear hL3 hF3 hb3 hc3 hR3 hv3 hru3 hru hXlt hcm
  go_wp2_with fail
  generalize w3.setCell ⟨x,7,none⟩ (.int .i64 0)=w4 at *
  have hW4 : C9 w4 x d t r f tight bad most 0:=hW4
  clear hW3 t7 x7
  go_loopw [10] (fun tk wr=>∃ k : Nat,k≤ps.length∧tk = .int .i64 k∧C9 wr x d t r f tight bad most ((30 * k+Bk (ps.take k) : Nat) : Int)∧Chg (· = x) w3 wr) (fun tk _=>ps.length - (intOf tk).toNat)
  case atStart=>exact ⟨0,by omega,rfl,hW4,k4⟩
  case round=>
   obtain ⟨k,hk,rfl,hWr,hcr⟩:=hrel
   have x7:=Ad (show wr.heap[x]? = some _ from hWr) 7
   have z7:=Av (show wr.heap[x]? = some _ from hWr) 7
   simp only [List.getElem?_toArray,List.getElem?_cons_zero,List.getElem?_cons_succ] at x7
   by_cases hlt : k<ps.length
   ·obtain ⟨b0,off,rfl,hbl,c0,c1,c2⟩:=(H3.out.2.2.2.2.2.1.keep hcr (fun _ b off n cap e=>hx b (.inr (.inr (by rw [e]; rfl))))).at hlt
    have htt:=K7 ps hlt
    have hle : Bk (ps.take (k+1))≤Bk ps:=by
     have e1 : Bk ps=Bk (ps.take (k+1))+Bk (ps.drop (k+1)):=by rw [← Oj,List.take_append_drop]
     omega
    generalize ps[k]=y at *
    have hy1:=B1 y.1
    have hy2:=B1 y.2.1
    obtain ⟨m0,hm0⟩ : ∃ m0 : Nat,m0=30 * k+Bk (ps.take k):=⟨_,rfl⟩
    obtain ⟨m1,hm1⟩ : ∃ m1 : Nat,m1=30 * (k+1)+Bk (ps.take (k+1)):=⟨_,rfl⟩
    rw [← hm0] at x7
    have a1 : IntKind.i64.wrap ((m0 : Int)+30)=(m0 : Int)+30:=by rw [IntKind.wrap_i64]; omega
    have a2 : IntKind.i64.wrap ((m0 : Int)+30+(y.1.length : Int))=(m0 : Int)+30+(y.1.length : Int):=by rw [IntKind.wrap_i64]; omega
    have a3 : IntKind.i64.wrap ((m0 : Int)+30+(y.1.length : Int)+(y.2.1.length : Int))=(m1 : Int):=by
     rw [show (m0 : Int)+30+(y.1.length : Int)+(y.2.1.length : Int)=(m1 : Int) by omega,IntKind.wrap_i64]
     omega
    have hWs:=A0 (show wr.heap[x]? = some _ from hWr) 7 (.int .i64 (m1 : Int))
    have hcs:=hcr.setCell (p:=⟨x,7,none⟩) (.inl rfl) (.int .i64 (m1 : Int))
    have HS:=Ab (And.intro hWs (And.intro hcs hm1))
    clear hWr hcr hWs hcs hm0 hm1 htt hle
    go_wp2_with fail
    go_region
    go_wp2_with fail
    go_roundw
    case rel=>exact ⟨k+1,by omega,by go_num,by rw [← HS.out.2.2]; exact HS.out.1,HS.out.2.1.drew⟩
    case measure=>simp [intOf]; omega
   ·have hkl : k=ps.length:=by omega
    subst hkl
    rw [List.take_length] at hWr
    have hRr:=H3.out.2.2.2.2.1.keepX hcr H3.out.2.2.2.2.2.2.2 H3.out.2.2.2.2.2.2.1
    obtain ⟨u,hu,hpu⟩:=hRr
    obtain ⟨ua,uc,rfl⟩:=hpu.form
    have c0:=Ad hu 0
    have x6:=Ad (show wr.heap[x]? = some _ from hWr) 6
    have z6:=Av (show wr.heap[x]? = some _ from hWr) 6
    simp only [List.getElem?_toArray,List.getElem?_cons_zero,List.getElem?_cons_succ] at x6 c0
    have hlr:=At hu
    generalize hnx : Ai lp ps=nx at *
    have HNX:=Ab hnx
    obtain ⟨last2,hl2⟩ : ∃ l2 : Int,l2=((30 * ps.length+Bk ps : Nat) : Int):=⟨_,rfl⟩
    rw [← hl2] at hWr
    have hl2b : 0≤last2∧last2≤100000000:=by omega
    have HL2':=Ab hl2b
    have HL2:=Ab (And.intro hWr (And.intro hcr (And.intro hpu hlr)))
    clear hWr hcr x7 z7 hl2 hu
    have hwe:=fun W (hW : Chg (fun _=>False) wr W)=>Pk W _ nx (HL2.out.2.2.1.quiet hW) (by omega)
    have hfin : ∀ W,Chg (fun _=>False) wr W→W.cell? ⟨r',0,none⟩=some (.slice ua nx.length uc)∧W.cell? ⟨x,6,none⟩=some (.int .i64 most)∧W.frozen? ⟨x,6,none⟩=false∧C9 (W.setCell ⟨x,6,none⟩ (.int .i64 (max most (Ag nx : Int)))) x d t r f tight bad (max most (Ag nx : Int)) last2∧Chg (· = x) w3 (W.setCell ⟨x,6,none⟩ (.int .i64 (max most (Ag nx : Int))))∧(W.setCell ⟨x,6,none⟩ (.int .i64 (max most (Ag nx : Int)))).cell? ⟨r',0,none⟩=some (.slice ua nx.length uc):=fun W hW=>by
     have h1:=hW.keep (show wr.heap[x]? = some _ from HL2.out.1) (fun h=>h)
     have h2:=D1 c0 hW
     have h3:=A0 h1 6 (.int .i64 (max most (Ag nx : Int)))
     refine ⟨h2,by rw [Ad h1]; rfl,Av h1 6,h3,(HL2.out.2.1.then (hW.mono (fun _ _ h=>h.elim))).setCell (p:=⟨x,6,none⟩) (.inl rfl) _,?_⟩
     rw [← h2]
     exact World.cell?_of_block (w:=W) (a:=⟨r',0,none⟩) (Below.heap_setCell _ _ _ _ H3.out.2.2.2.2.2.2.2)
    have HFin:=Ab hfin
    have HWE:=Ab hwe
    obtain ⟨f1,f2,f3,-⟩:=hfin _ ((Chg.refl (fun _=>False) wr).drew)
    clear hfin hwe x6 z6
    go_upto_region 11 with fail
    go_cut [7] from 83 to 95 (fun v7 wx=>v7 = .pointer (some ⟨r',0,none⟩)∧∃ mx : Int,mx=max most (Ag nx : Int)∧C9 wx x d t r f tight bad mx last2∧Chg (· = x) w3 wx)
    case first=>
     refine wp_region_held_drew (S:=fun W=>W.cell? ⟨r',0,none⟩=some (.slice ua nx.length uc)) (by kernel_rfl) (c0) (fun hHeld=>?_)
     refine Aa 0 hHeld ?_
     refine Aa 1 hHeld ?_
     refine Aa 2 hHeld ?_
     refine Aa 3 hHeld ?_
     refine Aa 5 hHeld ?_
     refine Aa 6 hHeld ?_
     refine Aa 7 hHeld ?_
     refine Aa 8 hHeld ?_
     refine twoH (i:=4) (j:=9) rfl rfl (by kernel_rfl) rfl rfl (fun K hK=>?_) (fun K hK=>?_)
     ·go_simp
      refine hK.out _ _ (f1) (fun hHeld=>?_)
      clear hK K
      try simp only [Act.put,List.setIfInBounds_toArray,List.set_cons_zero,List.set_cons_succ]
      refine Al (i:=9) rfl (by kernel_rfl) rfl (fun K hK=>?_)
      go_simp
      refine (HWE.out _ ((Chg.refl (fun _=>False) wr).drew)).mono ?_
      rintro e w5 ⟨rfl,q5⟩
      have q5':=((Chg.refl (fun _=>False) wr).drew).then q5
      obtain ⟨g1,g2,g3,g4,g5,g6⟩:=HFin.out w5 q5'
      have HG:=Ab (And.intro g4 (And.intro g5 g6))
      clear g4 g5 g6
      refine hK.out _ _ (g1) (fun hHeld=>?_)
      clear hK K
      try simp only [Act.put,List.setIfInBounds_toArray,List.set_cons_zero,List.set_cons_succ]
      refine Aa 10 hHeld ?_
      refine Aa 11 hHeld ?_
      refine Aa 12 hHeld ?_
      refine Al (i:=13) rfl (by kernel_rfl) rfl (fun K hK=>?_)
      go_simp
      refine hK.out _ _ (HG.out.2.2) (fun hHeld=>?_)
      clear hK K
      try simp only [Act.put,List.setIfInBounds_toArray,List.set_cons_zero,List.set_cons_succ]
      refine wpAnyH_done (by kernel_rfl) ?_ _
      clear hHeld
      go_wp2_with fail
      go_meet
      exact ⟨rfl,_,rfl,HG.out.1,HG.out.2.1⟩
     ·go_simp
      refine (HWE.out _ ((Chg.refl (fun _=>False) wr).drew)).mono ?_
      rintro e w5 ⟨rfl,q5⟩
      have q5':=((Chg.refl (fun _=>False) wr).drew).then q5
      obtain ⟨g1,g2,g3,g4,g5,g6⟩:=HFin.out w5 q5'
      have HG:=Ab (And.intro g4 (And.intro g5 g6))
      clear g4 g5 g6
      refine hK.out _ _ (g1) (fun hHeld=>?_)
      clear hK K
      try simp only [Act.put,List.setIfInBounds_toArray,List.set_cons_zero,List.set_cons_succ]
      refine Al (i:=4) rfl (by kernel_rfl) rfl (fun K hK=>?_)
      go_simp
      refine hK.out _ _ (g1) (fun hHeld=>?_)
      clear hK K
      try simp only [Act.put,List.setIfInBounds_toArray,List.set_cons_zero,List.set_cons_succ]
      refine Aa 10 hHeld ?_
      refine Aa 11 hHeld ?_
      refine Aa 12 hHeld ?_
      refine Al (i:=13) rfl (by kernel_rfl) rfl (fun K hK=>?_)
      go_simp
      refine hK.out _ _ (HG.out.2.2) (fun hHeld=>?_)
      clear hK K
      try simp only [Act.put,List.setIfInBounds_toArray,List.set_cons_zero,List.set_cons_succ]
      refine wpAnyH_done (by kernel_rfl) ?_ _
      clear hHeld
      go_wp2_with fail
      go_meet
      exact ⟨rfl,_,rfl,HG.out.1,HG.out.2.1⟩
    case rest=>
     obtain ⟨rfl,mx,hmx,hW6,hc6⟩:=hcut
     have hx0:=hO x (.inl rfl)
     have hL6:=H3.out.1.keep hc6 (fun k hk e=>by
      rcases H3.out.2.1 k hk with q | q
      ·exact hx0 (.inl (e ▸ q))
      ·omega) (fun e=>hx0 (.inr (.inr e.symm))) (fun e=>by
      rcases H3.out.2.2.1 with q | q
      ·exact hbx (q ▸ e)
      ·omega) (fun e=>hx0 (.inr (.inl e.symm)))
     obtain ⟨hmb,hn30,hnn⟩:=HMAY.out hL6.log.1.ok
     have hfk6:=A3 (A3 (A3 hfk H2.out.2.1 (fun _ _ h=>h)) H3.out.2.2.2.1 (fun k hk e=>(hfo k hk).1 e)) hc6 (fun k hk e=>(hfo k hk).2 e)
     have hxF6 : ¬ F3 x:=fun e=>by
      rcases H3.out.2.1 x e with q | q
      ·exact hx0 (.inl q)
      ·omega
     have hmy:=Kc hW6 hL6.log.1 hxF6 hfk6 (fun e=>(hfo x e).2 rfl) hkl hmb
     have hSn : S.n≤S.bulk:=by unfold Dk.bulk; omega
     have hsub : IntKind.i64.wrap ((S'.n : Int) - (S.n : Int))=(S'.n : Int) - (S.n : Int):=by rw [IntKind.wrap_i64]; omega
     have HFF:=Ab (show (∀ W,Chg (· = x) wc W→∃ F' b',TabL B W F' d g t b' S' L' sure' lp'∧(∀ k,F' k→F k∨w1.heap.size≤k)∧(b'=b∨w1.heap.size≤b')∧Chg (fun k=>F k∨k=g∨k=t∨k=x) w1 W) from fun W hW=>
      ⟨F3,b3,hL6.keep hW (fun k hk e=>hxF6 (e ▸ hk)) (fun e=>hx0 (.inr (.inr e.symm))) (fun e=>by
       rcases H3.out.2.2.1 with q | q
       ·exact hbx (q ▸ e)
       ·omega) (fun e=>hx0 (.inr (.inl e.symm))),fun k hk=>(H3.out.2.1 k hk).imp id (fun q=>by omega),H3.out.2.2.1.imp id (fun q=>by omega),(((H2.out.2.1.mono (fun _ _ h=>h.elim)).then (H3.out.2.2.2.1.mono (fun k _ h=>h.imp id (Or.imp id .inl)))).then (hc6.mono (fun k _ h=>.inr (.inr (.inr h))))).then (hW.mono (fun k _ h=>.inr (.inr (.inr h))))⟩)
     have HMX:=Ab (show 0≤mx∧mx≤1048576∧most≤mx∧(Ag nx : Int)≤mx∧0≤last2∧last2≤100000000 from by have:=H2.out.2.2.1; have:=HL2'.out; omega)
     have hst:=fun W (hW : Chg (· = x) wc W)=>G0 (hL6.log.1.keep hW (fun k hk e=>hxF6 (e ▸ hk)))
     have HST:=Ab hst
     have HN30:=Ab hn30
     clear hmx hW6 hc6 hL6 hx0 hbx hmb hnn hfk6 hxF6 hst hn30
     go_wp2_with fail
     refine hmy.mono ?_
     rintro e w7 ⟨rfl,bad',hW7,hbb,hc7⟩
     have hop:=HST.out w7 hc7
     have y0 : w7.cell? ⟨x,0,none⟩=some (.pointer (some ⟨d,0,none⟩)):=by rw [Ad (show w7.heap[x]? = some _ from hW7)]; rfl
     have hd' : decide ((S'.n : Int) - (S.n : Int)≤30)=true:=decide_eq_true (by have:=HN30.out; omega)
     have HW7:=Ab (And.intro hW7 (And.intro hbb hc7))
     clear hmy hW7 hbb hc7
     go_wp2_with fail
     refine hop.mono ?_
     rintro e w8 ⟨rfl,rfl⟩
     go_wp2
     go_ret2
     rw [HCM.out]
     exact ⟨⟨mx,last2,bad',rfl,HW7.out.1,fun e=>⟨(HW7.out.2.1 e).1,fun _=>(HW7.out.2.1 e).2⟩,⟨HMX.out.1,HMX.out.2.2.1,fun _=>by rw [HNX.out]; exact HMX.out.2.2.2.1⟩,HMX.out.2.1,HMX.out.2.2.2.2⟩,HFF.out w8 HW7.out.2.2⟩
end
end Go.Proofs.YtblniomnhpedjaaGreatDoor
