/-
  takeGroups, walked. Conditions: the groups lie there; lengths within reach.
-/
import Derived.Test.YtblniomnhpedjaaGreatDoorP22TRight
namespace Go.Proofs.YtblniomnhpedjaaGreatDoor
open Go.RowKit
set_option maxRecDepth 20000 in
set_option maxHeartbeats 3200000 in
theorem Qd (w : World) (v : Value) (gs : List (List Bs)) (hv : Rs w v gs) (hs : ∀ g∈gs,g.length≤100000000∧∀ r∈g,r.length≤1000000000) :
  Calls Tryz.prog 40 #[v] w fun e w'=>tabV w.heap.size w' (Ct gs) e∧Chg (fun _=>False) w w':=by
 have HV:=Ab hv
 obtain ⟨ao,cap,rfl,h1,h2,h4⟩:=hv
 unfold maxLen at h2
 have hA:=Cl w (.cells #[.map none, .int .i64 0] 97)
 have hres:=Au w (.cells #[.map none, .int .i64 0] 97)
 have hnr:=newRows_any (w.alloc (.cells #[.map none, .int .i64 0] 97))
 have H0:=Ab (And.intro hA hres)
 clear hA hres h4
 go_enter Tryz.func40,Tryz.ntmps40
 go_wp2_with fail
 refine hnr.mono ?_
 rintro e w1 ⟨v1,rfl,⟨b,hbb,rfl,hm1,-⟩,hc1⟩
 have hcw1:=H0.out.1.trans hc1 (fun _ _ h=>h)
 have hr1:=hc1.keep H0.out.2 (fun h=>h)
 have hq1:=Cl w1 (.cells #[.map (some b), .int .i64 (Ag [])] 97)
 have hro1 : RowsAt (w1.alloc (.cells #[.map (some b), .int .i64 (Ag [])] 97)) w1.heap.size b []:=⟨Au w1 _,hm1.keep hq1 (fun h=>h),List.Pairwise.nil⟩
 have hsz1:=hcw1.size
 have hlt1:=At hr1
 rw [World.size_alloc] at hbb
 have H1:=Ab (And.intro hro1 (And.intro (hq1.keep hr1 (fun h=>h)) (hcw1.trans hq1 (fun _ _ h=>h))))
 obtain ⟨g,hg⟩ : ∃ g,g=w1.heap.size:=⟨_,rfl⟩
 rw [← hg] at H1
 have hgw : w.heap.size<g∧w.heap.size<b:=by omega
 clear hnr hm1 hc1 hcw1 hr1 hq1 hro1
 go_wp2_with fail
 rw [← hg]
 clear hg
 go_loopw [12] (fun t wr=>∃ (k : Nat) (l : List Af),k≤gs.length∧t = .int .i64 k∧RowsAt wr g b l∧Ag l≤1048576∧Ct gs=Dd l (gs.drop k) (decide (k=0))∧Chg (fun _=>False) w wr∧wr.heap[w.heap.size]? = some (.cells #[.map none, .int .i64 0] 97))
  (fun t _=>gs.length - (intOf t).toNat)
 case atStart=>exact ⟨0,[],by omega,rfl,H1.out.1,by simp [Ag],rfl,H1.out.2.2,H1.out.2.1⟩
 case round=>
  obtain ⟨k,l,hk,rfl,hro,hwl,htab,hch,hres⟩:=hrel
  by_cases hlt : k<gs.length
  ·have hrs:=HV.out.quiet hch
   obtain ⟨gb,off,rfl,-,x,c0,htx⟩:=hrs.at k hlt
   have hsk:=hs _ (List.getElem_mem hlt)
   have hst:=tab_at hlt l
   rw [← htab] at hst
   generalize gs[k]=grp at *
   have htp:=takePuts_any wr x grp htx hsk.1 hsk.2
   obtain ⟨xa,xc,rfl⟩:=htx.form
   obtain ⟨fb,hfb⟩ : ∃ fb,decide (k=0)=fb:=⟨_,rfl⟩
   have hf1 : ((k : Int) == 0)=fb:=by rw [← hfb]; cases k <;> simp <;> omega
   rw [hfb] at hst
   have HH:=Ab (And.intro hro (And.intro hwl (And.intro hst (And.intro hch (And.intro hres hfb)))))
   clear hro hwl htab hst hch hres hrs htx hfb
   cases htl : Co grp with
   | none=>
    rw [htl] at htp
    have HRN0 : Hid (Ct gs=none):=Ab (by rw [HH.out.2.2.1,htl])
    clear htl
    go_wp2_with fail
    refine htp.mono ?_
    rintro e w2 ⟨rfl,hb2⟩
    have hq2:=Dt hb2
    have hr2:=hq2.keep HH.out.2.2.2.2.1 (fun h=>h)
    have hc2:=HH.out.2.2.2.1.trans hq2 (fun _ _ h=>h)
    clear htp hb2 hq2
    have f0:=Ad hr2 0
    have f1:=Ad hr2 1
    have g0:=Av hr2 0
    have g1:=Av hr2 1
    simp only [List.getElem?_toArray,List.getElem?_cons_zero,List.getElem?_cons_succ] at f0 f1
    have hfin:=A0 (A0 hr2 0 (.map none)) 1 (.int .i64 0)
    simp only [List.setIfInBounds_toArray,List.set_cons_zero,List.set_cons_succ] at hfin
    have HX:=Ab (And.intro hfin (And.intro HRN0.out (hc2.mono fun _ _ h=>h)))
    clear hfin hc2
    go_wp2
    refine bodyPost_ret (Ev rfl _ _ _ _ _ _ _ rfl HX.out.1 Tryz.underlying97 rfl Tryz.infoRows) rfl ?_
    rw [HX.out.2.1]
    exact ⟨rfl,(HX.out.2.2.setCell (.inr (by simp)) _).setCell (.inr (by simp)) _⟩
   | some ps=>
    rw [htl] at htp
    have hst2:=HH.out.2.2.1
    rw [htl] at hst2
    simp only at hst2
    have HST:=Ab hst2
    clear htl hst2
    go_wp2_with fail
    refine htp.mono ?_
    rintro e w2 ⟨⟨u,rfl,hou⟩,hb2⟩
    have hq2:=Dt hb2
    have hpu:=Cf.ps hou
    have har:=Pg w2 ps u hpu
    obtain ⟨ua,uc,rfl,-⟩:=Ay hou
    have H2:=Ab (And.intro hq2 hpu)
    clear htp hb2 hq2 hpu hou
    go_wp2_with fail
    refine har.mono ?_
    rintro e w3 ⟨rfl,hq3⟩
    cases hri : Bc ps with
    | false=>
     have HRN0 : Hid (Ct gs=none):=Ab (by rw [HST.out,hri]; rfl)
     have hq:=H2.out.1.trans hq3 (fun _ _ h=>h)
     have hr2:=hq.keep HH.out.2.2.2.2.1 (fun h=>h)
     have hc2:=HH.out.2.2.2.1.trans hq (fun _ _ h=>h)
     clear har hq3 hq hri
     have f0:=Ad hr2 0
     have f1:=Ad hr2 1
     have g0:=Av hr2 0
     have g1:=Av hr2 1
     simp only [List.getElem?_toArray,List.getElem?_cons_zero,List.getElem?_cons_succ] at f0 f1
     have hfin:=A0 (A0 hr2 0 (.map none)) 1 (.int .i64 0)
     simp only [List.setIfInBounds_toArray,List.set_cons_zero,List.set_cons_succ] at hfin
     have HX:=Ab (And.intro hfin (And.intro HRN0.out (hc2.mono fun _ _ h=>h)))
     clear hfin hc2
     go_wp2
     refine bodyPost_ret (Ev rfl _ _ _ _ _ _ _ rfl HX.out.1 Tryz.underlying97 rfl Tryz.infoRows) rfl ?_
     rw [HX.out.2.1]
     exact ⟨rfl,(HX.out.2.2.setCell (.inr (by simp)) _).setCell (.inr (by simp)) _⟩
    | true=>
     have hpu3:=H2.out.2.quiet hq3
     have hil:=isLaid_any w3 _ ps hpu3 fb
     have hbur:=Ku ps hri
     have H3:=Ab (And.intro (H2.out.1.trans hq3 (fun _ _ h=>h)) (And.intro hpu3 (And.intro hri hbur)))
     clear har hq3 hpu3 hri hbur
     go_wp2_with fail
     refine hil.mono ?_
     rintro e w4 ⟨rfl,hb4⟩
     have hq4:=H3.out.1.trans (Dt hb4) (fun _ _ h=>h)
     cases hla : Eg ps fb with
     | false=>
      have HRN0 : Hid (Ct gs=none):=Ab (by rw [HST.out,H3.out.2.2.1,hla]; rfl)
      have hr2:=hq4.keep HH.out.2.2.2.2.1 (fun h=>h)
      have hc2:=HH.out.2.2.2.1.trans hq4 (fun _ _ h=>h)
      clear hil hb4 hq4 hla
      have f0:=Ad hr2 0
      have f1:=Ad hr2 1
      have g0:=Av hr2 0
      have g1:=Av hr2 1
      simp only [List.getElem?_toArray,List.getElem?_cons_zero,List.getElem?_cons_succ] at f0 f1
      have hfin:=A0 (A0 hr2 0 (.map none)) 1 (.int .i64 0)
      simp only [List.setIfInBounds_toArray,List.set_cons_zero,List.set_cons_succ] at hfin
      have HX:=Ab (And.intro hfin (And.intro HRN0.out (hc2.mono fun _ _ h=>h)))
      clear hfin hc2
      go_wp2
      refine bodyPost_ret (Ev rfl _ _ _ _ _ _ _ rfl HX.out.1 Tryz.underlying97 rfl Tryz.infoRows) rfl ?_
      rw [HX.out.2.1]
      exact ⟨rfl,(HX.out.2.2.setCell (.inr (by simp)) _).setCell (.inr (by simp)) _⟩
     | true=>
      have hro4:=HH.out.1.keep hq4 (fun h=>h) (fun h=>h)
      have hpu4:=H3.out.2.1.quiet (Dt hb4)
      have hdo:=do_any w4 g b l hro4 _ ps hpu4 (by have:=HH.out.2.1; have:=H3.out.2.2.2; omega)
      have H4:=Ab (And.intro hq4 hla)
      clear hil hb4 hq4 hla hro4 hpu4
      go_wp2_with fail
      refine hdo.mono ?_
      rintro e w5 ⟨rfl,hro5,hc5⟩
      have m0:=Ad hro5.cells 0
      have m1:=Ad hro5.cells 1
      simp only [List.getElem?_toArray,List.getElem?_cons_zero,List.getElem?_cons_succ] at m0 m1
      have hft:=fit_any w5 b _ hro5.map
      have hr5:=hc5.keep (H4.out.1.keep HH.out.2.2.2.2.1 (fun h=>h)) (by omega)
      have hcw5 : Chg (fun _=>False) w w5:=(HH.out.2.2.2.1.trans H4.out.1 (fun _ _ h=>h)).trans hc5 (fun i hi h=>by omega)
      have H5:=Ab (And.intro hro5 (And.intro hr5 hcw5))
      clear hdo hc5 hr5 hcw5 hro5
      go_wp2_with fail
      refine hft.mono ?_
      rintro e w6 ⟨rfl,hq6⟩
      rw [show (decide ((Ai l ps).length≤2000) && decide (Ag (Ai l ps)≤1048576))=Bb (Ai l ps) from rfl]
      cases hfi : Bb (Ai l ps) with
      | false=>
       have HRN0 : Hid (Ct gs=none):=Ab (by rw [HST.out,H3.out.2.2.1,H4.out.2,hfi]; rfl)
       have hr2:=hq6.keep H5.out.2.1 (fun h=>h)
       have hc2:=H5.out.2.2.trans hq6 (fun _ _ h=>h)
       clear hft hq6 hfi
       have f0:=Ad hr2 0
       have f1:=Ad hr2 1
       have g0:=Av hr2 0
       have g1:=Av hr2 1
       simp only [List.getElem?_toArray,List.getElem?_cons_zero,List.getElem?_cons_succ] at f0 f1
       have hfin:=A0 (A0 hr2 0 (.map none)) 1 (.int .i64 0)
       simp only [List.setIfInBounds_toArray,List.set_cons_zero,List.set_cons_succ] at hfin
       have HX:=Ab (And.intro hfin (And.intro HRN0.out (hc2.mono fun _ _ h=>h)))
       clear hfin hc2
       go_wp2
       refine bodyPost_ret (Ev rfl _ _ _ _ _ _ _ rfl HX.out.1 Tryz.underlying97 rfl Tryz.infoRows) rfl ?_
       rw [HX.out.2.1]
       exact ⟨rfl,(HX.out.2.2.setCell (.inr (by simp)) _).setCell (.inr (by simp)) _⟩
      | true=>
       have htn : Ct gs=Dd (Ai l ps) (gs.drop (k+1)) (decide (k+1=0)):=by rw [HST.out,H3.out.2.2.1,H4.out.2,hfi]; rfl
       have hwn : Ag (Ai l ps)≤1048576:=by unfold Bb at hfi; simp only [Bool.and_eq_true,decide_eq_true_eq] at hfi; exact hfi.2
       have HF:=Ab (And.intro (H5.out.1.keep hq6 (fun h=>h) (fun h=>h)) (And.intro hwn (And.intro htn (And.intro (H5.out.2.2.trans hq6 (fun _ _ h=>h)) (hq6.keep H5.out.2.1 (fun h=>h))))))
       clear hft hq6 hfi htn hwn
       go_wp2
       go_roundw
       case rel=>exact ⟨k+1,Ai l ps,by omega,by go_num,HF.out.1,HF.out.2.1,HF.out.2.2.1,HF.out.2.2.2.1,HF.out.2.2.2.2⟩
       case measure=>simp [intOf]; omega
  ·have hkl : k=gs.length:=by omega
   subst hkl
   rw [List.drop_length] at htab
   have m0:=Ad hro.cells 0
   have m1:=Ad hro.cells 1
   have f0:=Ad hres 0
   have f1:=Ad hres 1
   have g0:=Av hres 0
   have g1:=Av hres 1
   simp only [List.getElem?_toArray,List.getElem?_cons_zero,List.getElem?_cons_succ] at m0 m1 f0 f1
   have hfin:=A0 (A0 hres 0 (.map (some b))) 1 (.int .i64 (Ag l))
   simp only [List.setIfInBounds_toArray,List.set_cons_zero,List.set_cons_succ] at hfin
   have hmz : Ak ((wr.setCell ⟨w.heap.size,0,none⟩ (.map (some b))).setCell ⟨w.heap.size,1,none⟩ (.int .i64 (Ag l))) b (rv l):=hro.map.same ((Below.heap_setCell _ _ _ _ (by simp <;> omega)).trans (Below.heap_setCell _ _ _ _ (by simp <;> omega)))
   have HX:=Ab (And.intro hfin (And.intro htab (And.intro hmz (And.intro hro.rises hch))))
   clear hfin htab hmz hro hch hres hwl
   go_wp2
   refine bodyPost_ret (Ev rfl _ _ _ _ _ _ _ rfl HX.out.1 Tryz.underlying97 rfl Tryz.infoRows) rfl ?_
   rw [HX.out.2.1]
   exact ⟨⟨_,rfl,_,by omega,rfl,HX.out.2.2.1,HX.out.2.2.2.1⟩,(HX.out.2.2.2.2.setCell (.inr (by simp)) _).setCell (.inr (by simp)) _⟩
end Go.Proofs.YtblniomnhpedjaaGreatDoor
