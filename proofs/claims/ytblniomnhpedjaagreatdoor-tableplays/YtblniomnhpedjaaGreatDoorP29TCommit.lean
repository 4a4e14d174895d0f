/-
  Commit: what it answers, and does. Conditions: the table and its log lie there; lengths within reach; the table of sums holds its numbers.
-/
import Derived.Test.YtblniomnhpedjaaGreatDoorP27TLay
import Derived.Test.YtblniomnhpedjaaGreatDoorP28TOk
namespace Go.Proofs.YtblniomnhpedjaaGreatDoor
open Go.RowKit
def Aq (S : Dk) (L : Lw) (sure : Bool) (lp : List Af) (ps : List An) : Dk × Lw × Bool × List Af × Int:=
 if Bc ps=false then (S,L,sure,lp,130)
 else if ps = [] then (S,L,sure,lp,0)
 else if Bb (Ai lp ps)=false then (S,L,sure,lp,131)
 else if (Bf S L sure ps (Ai lp ps)).2.2=0 then ((Bf S L sure ps (Ai lp ps)).1,(Bf S L sure ps (Ai lp ps)).2.1,true,Ai lp ps,0)
 else ((Bf S L sure ps (Ai lp ps)).1,(Bf S L sure ps (Ai lp ps)).2.1,sure,lp,oursT (Bf S L sure ps (Ai lp ps)).2.2)
structure TabL (B : Nat) (w : World) (F : Nat→Prop) (d g t b : Nat) (S : Dk) (L : Lw) (sure : Bool) (lp : List Af) : Prop where
 log : Lg B w F d g S L
 tab : TabAt w t b g sure lp
 nt : ¬ F t
 nb : ¬ F b
 tg : t≠g
 bt : B≤t
 bb : B≤b
 fit : Bb lp=true
 each : ∀ p∈lp,okP p
def J4 (B : Nat) (w : World) (F : Nat→Prop) (d g t b : Nat) (S : Dk) (L : Lw) (sure : Bool) (lp : List Af) (w' : World) : Prop:=
 ∃ F' b',TabL B w' F' d g t b' S L sure lp∧(∀ k,F' k→F k∨w.heap.size≤k)∧(b'=b∨w.heap.size≤b')∧Chg (fun k=>F k∨k=g∨k=t) w w'
section
variable {B : Nat} {w w' : World} {F : Nat→Prop} {d g t b : Nat} {S : Dk} {L : Lw} {sure : Bool} {lp : List Af} {ps : List An} {v : Value}
theorem TabAt.keep {X : Nat→Prop} (h : TabAt w t b g sure lp) (hc : Chg X w w') (h1 : ¬ X t) (h2 : ¬ X b) : TabAt w' t b g sure lp:=⟨hc.keep h.cells h1,h.map.keep hc h2,h.rise⟩
theorem TabL.keep {X : Nat→Prop} (h : TabL B w F d g t b S L sure lp) (hc : Chg X w w') (hF : ∀ k,F k→¬ X k) (h1 : ¬ X t) (h2 : ¬ X b) (h3 : ¬ X g) : TabL B w' F d g t b S L sure lp:=⟨h.log.keep hc hF h3,h.tab.keep hc h1 h2,h.nt,h.nb,h.tg,h.bt,h.bb,h.fit,h.each⟩
theorem TabL.quiet (h : TabL B w F d g t b S L sure lp) (hc : Chg (fun _=>False) w w') : TabL B w' F d g t b S L sure lp:=h.keep hc (fun _ _ h=>h) (fun h=>h) (fun h=>h) (fun h=>h)
theorem TabL.then (h : TabL B w F d g t b S L sure lp) (hc : Chg (fun _=>False) w w') : J4 B w F d g t b S L sure lp w':=⟨F,b,h.quiet hc,fun _ h=>.inl h, .inl rfl,hc.mono (fun _ _ h=>h.elim)⟩
theorem Mb (h : Bc ps=false) : Aq S L sure lp ps=(S,L,sure,lp,130):=by unfold Aq; rw [if_pos h]
theorem M6 (h : Bc ps=true) (h2 : ps = []) : Aq S L sure lp ps=(S,L,sure,lp,0):=by unfold Aq; rw [if_neg (by rw [h]; simp),if_pos h2]
theorem Ls (h : Bc ps=true) (h2 : ps ≠ []) (h3 : Bb (Ai lp ps)=false) : Aq S L sure lp ps=(S,L,sure,lp,131):=by unfold Aq; rw [if_neg (by rw [h]; simp),if_neg h2,if_pos h3]
theorem M0 (h : Bc ps=true) (h2 : ps ≠ []) (h3 : Bb (Ai lp ps)=true) (h4 : (Bf S L sure ps (Ai lp ps)).2.2=0) : Aq S L sure lp ps=((Bf S L sure ps (Ai lp ps)).1,(Bf S L sure ps (Ai lp ps)).2.1,true,Ai lp ps,0):=by unfold Aq; rw [if_neg (by rw [h]; simp),if_neg h2,if_neg (by rw [h3]; simp),if_pos h4]
theorem Nf (h : Bc ps=true) (h2 : ps ≠ []) (h3 : Bb (Ai lp ps)=true) (h4 : (Bf S L sure ps (Ai lp ps)).2.2≠0) : Aq S L sure lp ps=((Bf S L sure ps (Ai lp ps)).1,(Bf S L sure ps (Ai lp ps)).2.1,sure,lp,oursT (Bf S L sure ps (Ai lp ps)).2.2):=by unfold Aq; rw [if_neg (by rw [h]; simp),if_neg h2,if_neg (by rw [h3]; simp),if_neg h4]
theorem Ea {l : List Af} (h : Bb l=true) : l.length≤2000∧Ag l≤1048576:=by
 unfold Bb at h
 simpa using h
set_option maxRecDepth 40000 in
set_option maxHeartbeats 4000000 in
theorem Ob (h : TabL B w F d g t b S L sure lp) (hv : PsT w v ps) (hB0 : 0<B) (hT : Bm w) (hb : 2 * S.bulk<999999990) (hwh : 0≤L.wh∧L.wh≤1099511627776) :
  Calls Tryz.prog 29 #[.pointer (some ⟨t,0,none⟩),v] w fun e w'=>e = .returned (.int .i64 (Aq S L sure lp ps).2.2.2.2)∧J4 B w F d g t b (Aq S L sure lp ps).1 (Aq S L sure lp ps).2.1 (Aq S L sure lp ps).2.2.1 (Aq S L sure lp ps).2.2.2.1 w':=by
 have hin:=I9 h.tab
 have har:=Pg w ps v hv
 have hflp:=Ea h.fit
 obtain ⟨va,vc,hvs⟩ : ∃ va vc,v = .slice va ps.length vc:=by
  obtain ⟨ao,cap,e,-⟩:=hv
  exact ⟨ao,cap,e⟩
 subst hvs
 have HH:=Ab h
 have HV:=Ab hv
 cases hr : Bc ps with
 | false=>
  rw [Mb hr]
  rw [hr] at har
  clear h hv
  go_enter Tryz.func29,Tryz.ntmps29
  go_wp2_with fail
  refine hin.mono ?_
  rintro e w1 ⟨rfl,rfl⟩
  go_wp2_with fail
  refine har.mono ?_
  rintro e w2 ⟨rfl,q2⟩
  have HF:=Ab (HH.out.then q2)
  clear q2 har
  go_wp2
  go_ret
  exact ⟨rfl,HF.out⟩
 | true=>
  rw [hr] at har
  by_cases h0 : ps = []
  ·rw [M6 hr h0]
   subst h0
   clear h hv
   go_enter Tryz.func29,Tryz.ntmps29
   go_wp2_with fail
   refine hin.mono ?_
   rintro e w1 ⟨rfl,rfl⟩
   go_wp2_with fail
   refine har.mono ?_
   rintro e w2 ⟨rfl,q2⟩
   have HF:=Ab (HH.out.then q2)
   clear q2 har
   go_wp2
   go_ret
   exact ⟨rfl,HF.out⟩
  ·obtain ⟨r1,r2,r3⟩:=Er hr
   have hpos : 0<ps.length:=List.length_pos_iff.2 h0
   have hpb : ((ps.length : Int) == 0)=false:=by simp; omega
   have hbt:=Ku ps hr
   have hnr : Bn (Ai lp ps):=Mg h.tab.rise ps
   have hne : ∀ p∈Ai lp ps,okP p:=Gi ps h.each r2
   have hlt:=At h.tab.cells
   have HCF:=Ab (show Bb (Ai lp ps)=false→Aq S L sure lp ps=(S,L,sure,lp,131) from fun q=>Ls hr h0 q)
   have HCO:=Ab (show Bb (Ai lp ps)=true→(Bf S L sure ps (Ai lp ps)).2.2=0→Aq S L sure lp ps=((Bf S L sure ps (Ai lp ps)).1,(Bf S L sure ps (Ai lp ps)).2.1,true,Ai lp ps,0) from fun q q'=>M0 hr h0 q q')
   have HCB:=Ab (show Bb (Ai lp ps)=true→(Bf S L sure ps (Ai lp ps)).2.2≠0→Aq S L sure lp ps=((Bf S L sure ps (Ai lp ps)).1,(Bf S L sure ps (Ai lp ps)).2.1,sure,lp,oursT (Bf S L sure ps (Ai lp ps)).2.2) from fun q q'=>Nf hr h0 q q')
   clear h hv hr h0
   go_enter Tryz.func29,Tryz.ntmps29
   go_wp2_with fail
   refine hin.mono ?_
   rintro e w1 ⟨rfl,rfl⟩
   go_wp2_with fail
   refine har.mono ?_
   rintro e w2 ⟨rfl,q2⟩
   have H2:=HH.out.quiet q2
   have hw:=with_any w2 b lp H2.tab.map H2.tab.rise _ ps (HV.out.quiet q2) (by omega)
   have x0:=Ad H2.tab.cells 0
   have x1:=Ad H2.tab.cells 1
   simp only [List.getElem?_toArray,List.getElem?_cons_zero,List.getElem?_cons_succ] at x0 x1
   have HQ2:=Ab q2
   have HT2:=Ab H2
   clear q2 har hin H2
   go_wp2_with fail
   refine hw.mono ?_
   rintro e w3 ⟨u,rfl,⟨bn,hbn,rfl,hmn,hrn⟩,q3⟩
   generalize hnx : Ai lp ps=nx at *
   have q3b : Chg (fun _=>False) w3 (w3.alloc (.cells #[.map (some bn), .int .i64 (Ag nx)] 97)):=Cl _ _
   have hbx:=Au w3 (.cells #[.map (some bn), .int .i64 (Ag nx)] 97)
   have q13 : Chg (fun _=>False) w1 (w3.alloc (.cells #[.map (some bn), .int .i64 (Ag nx)] 97)):=HQ2.out.then (q3.then q3b)
   have hmn3:=hmn.keep q3b (fun h=>h)
   have hz3 : (w3.alloc (.cells #[.map (some bn), .int .i64 (Ag nx)] 97)).heap.size=w3.heap.size+1:=by simp
   have hz12:=HQ2.out.size
   have hz23:=q3.size
   have hbn3 : bn<w3.heap.size:=hmn.lt
   generalize hw3b : w3.alloc (.cells #[.map (some bn), .int .i64 (Ag nx)] 97)=w3b at *
   have y0:=Ad hbx 0
   have y1:=Ad hbx 1
   simp only [List.getElem?_toArray,List.getElem?_cons_zero,List.getElem?_cons_succ] at y0 y1
   have hfit:=fit_any w3b bn nx hmn3
   have HQ:=Ab q13
   have HM:=Ab (And.intro hmn3 hbx)
   clear hw q3 q3b q13 hmn hmn3 hbx x0 x1
   go_wp2_with fail
   try rw [hw3b]
   refine hfit.mono ?_
   rintro e w4 ⟨rfl,q4⟩
   have HQ4:=Ab (HQ.out.then q4)
   have hm4:=HM.out.1.keep q4 (fun h=>h)
   have hbx4:=q4.keep HM.out.2 (fun h=>h)
   have hz4:=q4.size
   clear hfit q4
   cases hft : Bb nx with
   | false=>
    have hft' : (decide (nx.length≤2000) && decide (Ag nx≤1048576))=false:=hft
    have HC:=Ab (HCF.out hft)
    have HF:=Ab (HH.out.then HQ4.out)
    rw [hft']
    clear hft hft' hm4 hbx4
    go_wp2
    go_ret
    rw [HC.out]
    exact ⟨rfl,HF.out⟩
   | true=>
    have hft' : (decide (nx.length≤2000) && decide (Ag nx≤1048576))=true:=hft
    have hfl:=Ea hft
    rw [hft']
    have H4:=HH.out.quiet HQ4.out
    have hT4 : Bm w4:=hT.keep (HQ4.out.below (fun _ h=>h.elim) (Nat.le_refl _))
    have z0:=Ad hbx4 0
    have z1:=Ad hbx4 1
    simp only [List.getElem?_toArray,List.getElem?_cons_zero,List.getElem?_cons_succ] at z0 z1
    have hml:=most_le ps
    have hlay:=tlay_any H4.log H4.tab ⟨H4.nt,H4.tg⟩ (HV.out.quiet HQ4.out) hm4 hrn hB0 hT4 ⟨by omega,fun p hp=>by have:=L6 (List.all_eq_true.1 r2 p hp); omega⟩ ⟨by omega,fun p hp=>by have:=hne p hp; unfold okP at this; omega⟩ hb hwh hfl.2 (by omega)
     (fun r hr=>by
      obtain ⟨p,hp,rfl⟩:=List.mem_map.1 hr
      have:=L6 (List.all_eq_true.1 r2 p hp)
      have:=Jc p
      omega)
     (fun r hr=>by
      obtain ⟨p,hp,rfl⟩:=List.mem_map.1 hr
      obtain ⟨x,hx,rfl⟩:=List.mem_map.1 hp
      have h1:=hne x hx
      have h2:=Jc (x.1,x.2,false)
      unfold okP at h1
      simp only at h2
      omega)
    have HFT:=Ab hft
    have HO:=Ab (HCO.out hft)
    have HB:=Ab (HCB.out hft)
    have H4H:=Ab H4
    have HM4:=Ab (And.intro hm4 hbx4)
    clear hft hft' H4 hm4 hbx4
    generalize Bf S L sure ps nx=R at *
    obtain ⟨S',L',c⟩:=R
    simp only at hlay HO HB
    go_wp2_with fail
    refine hlay.mono ?_
    rintro e w5 ⟨rfl,F',hLg,hF',k5⟩
    have hFl : ∀ k,F k→k<w1.heap.size:=fun k hk=>(HH.out.log.1.2.1 k hk).2
    have hglt:=HH.out.log.lt
    have hnt' : ¬ F' t:=fun hq=>by
     rcases hF' t hq with q | q
     ·exact HH.out.nt q
     ·omega
    have htk : ¬ (F t∨t=g):=fun hq=>hq.elim HH.out.nt HH.out.tg
    have hz5:=k5.size
    have ht5:=k5.keep H4H.out.tab.cells htk
    have hbk : ¬ (F bn∨bn=g):=fun hq=>hq.elim (fun q=>by have:=hFl bn q; omega) (fun q=>by omega)
    have hm5:=HM4.out.1.keep k5 hbk
    have hxk : ¬ (F w3.heap.size∨w3.heap.size=g):=fun hq=>hq.elim (fun q=>by have:=hFl _ q; omega) (fun q=>by omega)
    have hbx5:=k5.keep HM4.out.2 hxk
    have z0:=Ad hbx5 0
    have z1:=Ad hbx5 1
    have p0:=Ad ht5 0
    have p1:=Ad ht5 1
    have p3:=Ad ht5 3
    have t0:=Av ht5 0
    have t1:=Av ht5 1
    have t3:=Av ht5 3
    simp only [List.getElem?_toArray,List.getElem?_cons_zero,List.getElem?_cons_succ] at z0 z1 p0 p1 p3
    have hnb' : ¬ F' b:=fun hq=>by
     rcases hF' b hq with q | q
     ·exact HH.out.nb q
     ·have:=HH.out.tab.map.lt; omega
    have hbg : b≠g:=fun e=>by
     have hh:=HH.out.log.2.1
     exact HH.out.tab.map.ne (show w1.heap[g]? = some _ from hh) e.symm
    have hb5:=H4H.out.tab.map.keep k5 (fun hq=>hq.elim HH.out.nb hbg)
    have hFw : ∀ k,F' k→F k∨w1.heap.size≤k:=fun k hk=>by
     rcases hF' k hk with q | q
     ·exact .inl q
     ·exact .inr (by omega)
    have k15 : Chg (fun k=>F k∨k=g∨k=t) w1 w5:=(HQ4.out.mono (fun _ _ h=>h.elim)).then (k5.mono (fun _ _ h=>h.elim .inl (fun h=>.inr (.inl h))))
    by_cases hc : c=0
    ·have HC:=Ab (HO.out hc)
     have hcb : (c == 0)=true:=by simp [hc]
     have hset:=A0 (A0 (A0 ht5 0 (.map (some bn))) 1 (.int .i64 (Ag nx))) 3 (.bool true)
     have kS : Chg (· = t) w5 (((w5.setCell ⟨t,0,none⟩ (.map (some bn))).setCell ⟨t,1,none⟩ (.int .i64 (Ag nx))).setCell ⟨t,3,none⟩ (.bool true)):=(((Chg.refl (· = t) w5).setCell (p:=⟨t,0,none⟩) (.inl rfl) _).setCell (p:=⟨t,1,none⟩) (.inl rfl) _).setCell (p:=⟨t,3,none⟩) (.inl rfl) _
     have hbnt : bn≠t:=by omega
     have hnbn : ¬ F' bn:=fun hq=>by
      rcases hF' bn hq with q | q
      ·have:=hFl bn q; omega
      ·omega
     have HF:=Ab (show J4 B w1 F d g t b S' L' true nx (((w5.setCell ⟨t,0,none⟩ (.map (some bn))).setCell ⟨t,1,none⟩ (.int .i64 (Ag nx))).setCell ⟨t,3,none⟩ (.bool true)) from
      ⟨F',bn,⟨hLg.keep kS (fun k hk e=>hnt' (e ▸ hk)) (fun e=>HH.out.tg e.symm),⟨hset,hm5.keep kS hbnt,hrn⟩,hnt',hnbn,HH.out.tg,HH.out.bt,by have:=HH.out.log.size; omega,HFT.out,hne⟩,hFw, .inr (by omega),k15.then (kS.mono (fun _ _ e=>.inr (.inr e)))⟩)
     have hours:=Im (((w5.setCell ⟨t,0,none⟩ (.map (some bn))).setCell ⟨t,1,none⟩ (.int .i64 (Ag nx))).setCell ⟨t,3,none⟩ (.bool true)) c
     have hnx3 : ¬ w3.heap.size=t:=by omega
     have hnx4 : ¬ t=w3.heap.size:=by omega
     have HCZ:=Ab hc
     clear hlay hset kS hLg k5 hm5 hbx5 hb5 k15 ht5 hc HO HB hnt' hnb' htk hbk hxk hF'
     go_wp2_with fail
     refine hours.mono ?_
     rintro e w6 ⟨rfl,rfl⟩
     clear hours
     go_wp2
     go_ret
     rw [HC.out,HCZ.out]
     exact ⟨rfl,HF.out⟩
    ·have HC:=Ab (HB.out hc)
     have hcb : (c == 0)=false:=by simp [hc]
     have HF:=Ab (show J4 B w1 F d g t b S' L' sure lp w5 from
      ⟨F',b,⟨hLg,⟨ht5,hb5,HH.out.tab.rise⟩,hnt',hnb',HH.out.tg,HH.out.bt,HH.out.bb,HH.out.fit,HH.out.each⟩,hFw, .inl rfl,k15⟩)
     have hours:=Im w5 c
     clear hlay hLg k5 hm5 hbx5 hb5 k15 ht5 hc HO HB hnt' hnb' htk hbk hxk hF'
     go_wp2_with fail
     refine hours.mono ?_
     rintro e w6 ⟨rfl,rfl⟩
     clear hours
     go_wp2
     go_ret
     rw [HC.out]
     exact ⟨rfl,HF.out⟩
end
end Go.Proofs.YtblniomnhpedjaaGreatDoor
