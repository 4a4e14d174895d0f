/-
  What Crash answers: the walk. Condition: a disk within bounds.
-/
import Derived.Test.YtblniomnhpedjaaGreatDoorP12SyncDir
namespace Go.Proofs.YtblniomnhpedjaaGreatDoor
open Go.RowKit
section
variable {w w' : World} {F : Nat→Prop} {d : Nat} {S : Dk} {G : Gh}
set_option maxRecDepth 20000 in
set_option maxHeartbeats 1600000 in
theorem crash_rep (h : Rep w F d S G) (hb : S.bulk<1099511627776) (keep t : Int) : Calls Tryz.prog 23 #[.pointer (some ⟨d,0,none⟩), .int .i64 keep, .int .i64 t] w fun e w'=>∃ d2 G2,e = .returned (.pointer (some ⟨d2,0,none⟩)) ∧
  Rep w' (fun k=>w.heap.size≤k∧k<w'.heap.size) d2 (S.crash keep t) G2∧Chg (fun _=>False) w w':=by
 have hmm:=@run_makeMap Tryz.prog
 have hd:=h.disk
 unfold B9 at hd
 obtain ⟨a,cap,hlv⟩:=Do h.row
 obtain ⟨n,hn⟩ : ∃ n,n=G.vs.length:=⟨_,rfl⟩
 have hna : S.acts.length=n:=by rw [hn,h.many]
 have hal:=E3 S
 rw [← hn] at hlv
 have hd':=hd
 rw [hlv] at hd'
 have x4:=Ad hd' 4
 have hrow:=h.row
 rw [hlv,← hn] at hrow
 obtain ⟨kk,hkk⟩ : ∃ kk : Nat,kk=min keep.toNat n:=⟨_,rfl⟩
 have hkn : kk≤n:=by omega
 have hcap : n≤cap∧(a=none→cap=0):=by
  rcases hrow.2 with ⟨e,h0⟩ | ⟨g,cap',cur,e,q1,q2,q3,q4,q5,q6⟩
  ·injection e with e1 e2 e3
   exact ⟨by omega,fun _=>e3⟩
  ·injection e with e1 e2 e3
   exact ⟨by omega,fun h=>by rw [h] at e1; cases e1⟩
 obtain ⟨hnc,hnil⟩:=hcap
 have hkc : kk≤cap:=by omega
 have hroom:=h.roomy
 have H:=Ab h
 have HD:=Ab hd
 have HHD:=Ab hd'
 have HROW:=Ab hrow
 have HN:=Ab hn
 have HKK:=Ab hkk
 clear h hd hd' hrow hn hkk
 go_enter Tryz.func23,Tryz.ntmps23
 go_wp2_with fail
 all_goals
  have hz : keep=(kk : Int)∨(keep<0∧kk=0)∨((n : Int)<keep∧kk=n):=by
   have:=HKK.out
   omega
  first
   | (rw [show Value.int IntKind.i64 0=Value.int IntKind.i64 (kk : Int) by congr 1; have:=HKK.out; omega])
   | (rw [if_neg (by omega)] at *; rw [show Value.int IntKind.i64 keep=Value.int IntKind.i64 (kk : Int) by congr 1; omega])
   | (rw [show Value.int IntKind.i64 (n : Int)=Value.int IntKind.i64 (kk : Int) by congr 1; have:=HKK.out; omega])
  have hA : Chg (fun _=>False) w (((w.alloc (.map #[] 0)).alloc (.map #[] 0)).alloc (.cells #[.map (some w.heap.size), .map (some (w.heap.size+1))] 106)):=(((Chg.refl _ w).alloc _).alloc _).alloc _
  have hon : Ak (((w.alloc (.map #[] 0)).alloc (.map #[] 0)).alloc (.cells #[.map (some w.heap.size), .map (some (w.heap.size+1))] 106)) w.heap.size []:=((Ak.made w).keep ((Chg.refl (fun _=>False) _).alloc _) (fun h=>h)).keep ((Chg.refl (fun _=>False) _).alloc _) (fun h=>h)
  have hom : Ak (((w.alloc (.map #[] 0)).alloc (.map #[] 0)).alloc (.cells #[.map (some w.heap.size), .map (some (w.heap.size+1))] 106)) (w.heap.size+1) []:=by
   have h1:=Ak.made (w.alloc (.map #[] 0))
   rw [show (w.alloc (.map #[] 0)).heap.size=w.heap.size+1 by simp] at h1
   exact h1.keep ((Chg.refl (fun _=>False) _).alloc _) (fun h=>h)
  have hob : (((w.alloc (.map #[] 0)).alloc (.map #[] 0)).alloc (.cells #[.map (some w.heap.size), .map (some (w.heap.size+1))] 106)).heap[w.heap.size+2]? = some (.cells #[.map (some w.heap.size), .map (some (w.heap.size+1))] 106):=by
   have h1:=Au ((w.alloc (.map #[] 0)).alloc (.map #[] 0)) (.cells #[.map (some w.heap.size), .map (some (w.heap.size+1))] 106)
   rw [show ((w.alloc (.map #[] 0)).alloc (.map #[] 0)).heap.size=w.heap.size+2 by simp] at h1
   exact h1
  generalize ((w.alloc (.map #[] 0)).alloc (.map #[] 0)).alloc (.cells #[.map (some w.heap.size), .map (some (w.heap.size+1))] 106)=W0 at *
  have hA':=hA.drew
  have hd0:=hA'.keep HHD.out (fun h=>h)
  have hob' : W0.drew.heap[w.heap.size+2]? = _:=hob
  have hcp:=mcopy_rep (W:=W0.drew) (c:=w.heap.size) H.out.ok.sortS (H.out.sure.keep hA' (fun _ _ h=>h) (fun _ h=>h)) (hon.keep ((Chg.refl (fun _=>False) _).drew) (fun h=>h)) (fun e=>by
   have:=H.out.sure
   rw [e] at this
   exact Nat.lt_irrefl _ this.2.lt)
  have hdlt:=H.out.lt
  have y0:=Ad hob' 0
  have y3:=Ad hd0 3
  have HOB:=Ab hob'
  have HD0:=Ab hd0
  have HOM:=Ab (hom.keep ((Chg.refl (fun _=>False) _).drew) (fun h=>h))
  have HA0:=Ab hA'
  clear hA hA' hon hom hob hob' hd0 hz
  refine wp_region_held_drew (S:=fun W=>W.cell? ⟨w.heap.size+2,0,none⟩=some (.map (some w.heap.size))∧W.cell? ⟨d,3,none⟩=some (.map G.sure)) (by kernel_rfl) (⟨y0,y3⟩) (fun hHeld=>?_)
  refine Aa 0 hHeld ?_
  refine Aa 1 hHeld ?_
  refine Aa 2 hHeld ?_
  refine Aa 3 hHeld ?_
  refine Aa 4 hHeld ?_
  refine Aa 5 hHeld ?_
  refine Al (i:=6) rfl (by kernel_rfl) rfl (fun K hK=>?_)
  go_simp
  refine hcp.mono ?_
  rintro e w1 ⟨rfl,hm1,hc1⟩
  have hd1:=hc1.keep HD0.out (by omega)
  have hob1:=hc1.keep HOB.out (by omega)
  refine hK.out _ _ (⟨Ad hob1 0,Ad hd1 3⟩) (fun hHeld=>?_)
  clear hK K
  try simp only [Act.put,List.setIfInBounds_toArray,List.set_cons_zero,List.set_cons_succ]
  refine wpAnyH_done (by kernel_rfl) ?_ _
  clear hHeld
  have z4:=Ad hd1 4
  have HM1:=Ab hm1
  have HD1:=Ab hd1
  have HOB1:=Ab hob1
  have HOM1:=Ab (HOM.out.keep hc1 (by omega))
  have HC1 : Hid (Chg (fun _=>False) w w1):=Ab (HA0.out.trans hc1 (fun i hi e=>by omega))
  clear hm1 hd1 hob1 hc1 hcp y0 y3 HOM HOB HD0 HA0
  go_wp2_with fail
  go_loopw [37] (fun x wr=>∃ (j : Nat) (ml : List (Nat × Nat)),j≤kk∧x = .int .i64 (j : Int)∧Ak wr w.heap.size (dv G.fb (A5 S.sure (S.acts.take j)))∧Ak wr (w.heap.size+1) (mv G.fb ml)∧(∀ p∈ml,p.1∈ids S.sure++(A4 S.acts++Br S.acts))∧(∀ i,B2 ml i=Ar (S.acts.take j) i)∧Chg (fun _=>False) w wr∧wr.heap[w.heap.size+2]? = some (.cells #[.map (some w.heap.size), .map (some (w.heap.size+1))] 106)) (fun x _=>kk - (intOf x).toNat)
  case atStart=>exact ⟨0,[],Nat.zero_le _,rfl,HM1.out,HOM1.out,(fun p hp=>by cases hp),(fun i=>rfl),HC1.out,HOB1.out⟩
  case round=>
   obtain ⟨j,ml,hj,rfl,hmn,hmo,hml,hlk,hc,hobr⟩:=hrel
   by_cases hlt : j<kk
   ·obtain ⟨p,hpk⟩ : ∃ p,G.vs[j]? = some p:=⟨_,List.getElem?_eq_getElem (by rw [← HN.out]; omega)⟩
    obtain ⟨ac,hak⟩ : ∃ ac,S.acts[j]? = some ac:=⟨_,List.getElem?_eq_getElem (by omega)⟩
    obtain ⟨o,v⟩:=p
    have hrr:=A3 HROW.out hc (fun _ _ h=>h)
    obtain ⟨g,hg⟩ : ∃ g,a=some ⟨g,0,none⟩:=by
     rcases hrr.2 with ⟨e1,e2⟩ | ⟨g,cap,cur,e1,_⟩
     ·omega
     ·injection e1 with e1
      exact ⟨g,e1⟩
    subst hg
    have hnl:=HN.out
    have z0:=hrr.cellAt (j * 2) (by omega)
    have z1:=hrr.cellAt (j * 2+1) (by omega)
    rw [(Dp hpk).1] at z0
    rw [(Dp hpk).2] at z1
    clear hnl
    have hw:=(H.out.actsKeep hc (fun _ _ _ _ _ h=>h) (F':=F) (fun _ h=>h)) j ac (o,v) hak hpk
    obtain ⟨hv1,hv2⟩:=Nw H.out.ok.valid hak
    have hms:=fun i=>Ps hak i
    by_cases hm : A9 ac=true
    ·cases ac with
     | made n f=>cases hm
     | ren x y=>cases hm
     | rem n=>cases hm
     | more f k=>
      obtain ⟨ho,cf,cn,hv,_,_,hcf,hcn⟩:=hw
      simp only at ho hv
      subst ho hv
      have hfm : f∈Br S.acts:=Gp (List.mem_of_getElem? hak)
      have hle1:=more_le H.out hfm
      have hle2:=Nq S.acts (j+1) f
      have hle3:=hms f
      rw [show Ar [Ac.more f k] f=k by simp [Ar]] at hle3
      have hA : Chg (fun _=>False) wr (wr.alloc (.cells #[.pointer (some ⟨G.fb f,0,none⟩), .func (.func 159) #[] #[.pointer (some ⟨cf,0,none⟩), .pointer (some ⟨cn,0,none⟩)]] 111)):=(Chg.refl _ _).alloc _
      have hlf:=hlk f
      have hcall:=more1_any _ (w.heap.size+1) cf cn (.map (some w.heap.size)) G.fb _ ml f k 9223372036854775807 (hmo.keep hA (fun h=>h)) ((H.out.lies.keep hc (fun _ _ h=>h)).keep hA (fun _ _ h=>h)) hml (List.mem_append.2 (Or.inr (List.mem_append.2 (Or.inr hfm)))) (by omega) (by omega) (by omega) (hA.keep hcf (fun h=>h)) (hA.keep hcn (fun h=>h))
      have hnb:=hA.keep hobr (fun h=>h)
      have b0:=Ad hnb 0
      have b1:=Ad hnb 1
      have HMN:=Ab (hmn.keep hA (fun h=>h))
      have HML:=Ab hml
      have HLK:=Ab hlk
      have HHC:=Ab (hc.then hA)
      have HNB:=Ab hnb
      have HMS:=Ab hms
      have hkk2 : k<4611686018427387904:=by omega
      have HL1:=Ab hle1
      have HL2:=Ab hle2
      have HL3:=Ab hle3
      have HLF:=Ab hlf
      clear hmn hmo hml hlk hc hobr hA hnb hrr hcf hcn hms hle1 hle2 hle3 hlf
      go_wp2_with (go_at_call 159; refine hcall.mono ?_; rintro e w3 ⟨rfl,hm3,hc3⟩; have HM3:=Ab hm3; have HC3:=Ab hc3; clear hm3 hc3)
      go_roundw
      case rel=>
       refine ⟨j+1,_,by omega,by go_num,?_,HM3.out,fun p hp=>?_,fun i=>?_,HHC.out.trans HC3.out (fun i hi e=>by omega),HC3.out.keep HNB.out (by omega)⟩
       ·rw [Ji hak]
        exact HMN.out.keep HC3.out (by omega)
       ·unfold mput at hp
        rcases List.mem_cons.1 hp with rfl | hp
        ·exact List.mem_append.2 (Or.inr (List.mem_append.2 (Or.inr hfm)))
        ·exact HML.out p (List.mem_filter.1 hp).1
       ·rw [mlook_put,HMS.out i]
        by_cases e : i=f
        ·subst e
         rw [if_pos rfl,HLF.out,show Ar [Ac.more i k] i=k by simp [Ar]]
         omega
        ·rw [if_neg e,HLK.out i,Of e]
         omega
      case measure=>simp [intOf]; omega
    ·obtain ⟨ho,c,u,hv,hcc,hdo⟩:=hw.dir (by simpa using hm)
     subst ho hv
     have hA : Chg (fun _=>False) wr (wr.alloc (.cells #[.pointer none, .func (.func 161) #[] #[.pointer (some ⟨c,0,none⟩)]] 111)):=(Chg.refl _ _).alloc _
     have hcall:=dirDo_any _ w.heap.size c (.map (some (w.heap.size+1))) 9223372036854775807 u F G.fb _ ac (J6 H.out.ok.sortS hv1) (hmn.keep hA (fun h=>h)) hv2 (hdo.keep hA (fun _ _ _ _ _ _ h=>h) (fun _ h=>h) (fun _ _=>rfl)) (hA.keep hcc (fun h=>h))
     have hnb:=hA.keep hobr (fun h=>h)
     have b0:=Ad hnb 0
     have b1:=Ad hnb 1
     have HMO:=Ab (hmo.keep hA (fun h=>h))
     have HML:=Ab hml
     have HLK:=Ab hlk
     have HHC:=Ab (hc.then hA)
     have HNB:=Ab hnb
     have HMS:=Ab hms
     have HNM:=Ab hm
     clear hmn hmo hml hlk hc hobr hA hnb hrr hcc hdo hms hm hw
     go_wp2_with (go_at_call 161; refine hcall.mono ?_; rintro e w3 ⟨rfl,hm3,hc3⟩; have HM3:=Ab hm3; have HC3:=Ab hc3; clear hm3 hc3)
     go_roundw
     case rel=>
      refine ⟨j+1,ml,by omega,by go_num,?_,HMO.out.keep HC3.out (by omega),HML.out,fun i=>?_,HHC.out.trans HC3.out (fun i hi e=>by omega),HC3.out.keep HNB.out (by omega)⟩
      ·rw [Ji hak]
       exact HM3.out
      ·rw [HMS.out i,HLK.out i]
       have h0 : Ar [ac] i=0:=by
        have:=HNM.out
        cases ac <;> first | rfl | simp [A9] at this
       omega
     case measure=>simp [intOf]; omega
   ·have hjk : j=kk:=by omega
    rw [hjk] at hmn hlk
    have htk : S.acts.take keep.toNat=S.acts.take kk:=List.take_eq_take_iff.2 (by have:=HKK.out; rw [hna]; omega)
    have hdk : S.acts.drop keep.toNat=S.acts.drop kk:=by
     have:=HKK.out
     by_cases hle : keep.toNat≤n
     ·rw [show kk=keep.toNat by omega]
     ·rw [List.drop_eq_nil_of_le (by omega),List.drop_eq_nil_of_le (by omega)]
    have hst : A6 S.acts keep t=S.acts.take kk++torn t.toNat (S.acts.drop kk):=by
     unfold A6
     rw [htk,hdk]
    have happ : A5 S.sure (S.acts.take kk)=A5 S.sure (A6 S.acts keep t):=by rw [Gd,htk]
    rw [happ] at hmn
    have hdr:=hc.keep HHD.out (fun h=>h)
    have c0:=Ad hdr 0
    have c4:=Ad hdr 4
    have b0:=Ad hobr 0
    have b1:=Ad hobr 1
    have HST:=Ab hst
    have HDR:=Ab hdr
    have HOBR:=Ab hobr
    have HMN:=Ab hmn
    have HMO:=Ab hmo
    have HML:=Ab hml
    have HLK:=Ab hlk
    have HHC:=Ab hc
    clear htk hdk hst happ hdr hobr hmn hmo hml hlk hc hj hlt
    by_cases hkn2 : kk<n
    ·obtain ⟨p,hpk⟩ : ∃ p,G.vs[kk]? = some p:=⟨_,List.getElem?_eq_getElem (by rw [← HN.out]; omega)⟩
     obtain ⟨ac,hak⟩ : ∃ ac,S.acts[kk]? = some ac:=⟨_,List.getElem?_eq_getElem (by omega)⟩
     obtain ⟨o,v⟩:=p
     have hdrop : S.acts.drop kk=ac :: S.acts.drop (kk+1):=by
      have hlt2 : kk<S.acts.length:=by omega
      rw [List.drop_eq_getElem_cons hlt2]
      rw [List.getElem?_eq_getElem hlt2] at hak
      injection hak with hak
      rw [hak]
     have hrr:=A3 HROW.out HHC.out (fun _ _ h=>h)
     obtain ⟨g,hg⟩ : ∃ g,a=some ⟨g,0,none⟩:=by
      rcases hrr.2 with ⟨e1,e2⟩ | ⟨g,cap,cur,e1,_⟩
      ·omega
      ·injection e1 with e1
       exact ⟨g,e1⟩
     subst hg
     have hnl:=HN.out
     have hgcell:=hrr.2
     have z0:=hrr.cellAt (kk * 2) (by omega)
     have z1:=hrr.cellAt (kk * 2+1) (by omega)
     rw [(Dp hpk).1] at z0
     rw [(Dp hpk).2] at z1
     clear hnl hgcell
     have hw:=(H.out.actsKeep HHC.out (fun _ _ _ _ _ h=>h) (F':=F) (fun _ h=>h)) kk ac (o,v) hak hpk
     by_cases hm : A9 ac=true
     ·cases ac with
      | made n f=>cases hm
      | ren x y=>cases hm
      | rem n=>cases hm
      | more f k=>
       obtain ⟨ho,cf,cn,hv,_,_,hcf,hcn⟩:=hw
       simp only at ho hv
       subst ho hv
       have hfm : f∈Br S.acts:=Gp (List.mem_of_getElem? hak)
       have hle1:=more_le H.out hfm
       have hle2:=Nq S.acts (kk+1) f
       have hle3:=Ps hak f
       rw [N1] at hle3
       have hlf:=HLK.out f
       have hT : Chg (fun _=>False) wr wr.drew:=(Chg.refl _ _).drew
       have hcallm : ∀ m : Int,0≤m→m.toNat=t.toNat→Calls Tryz.prog 159 #[.agg #[.map (some w.heap.size), .map (some (w.heap.size+1))], .int .i64 m, .pointer (some ⟨cf,0,none⟩), .pointer (some ⟨cn,0,none⟩)] wr.drew fun e w'=>e = .returned (.tuple #[])∧Ak w' (w.heap.size+1) (mv G.fb (mput ml f (B2 ml f+min k t.toNat)))∧Chg (· = w.heap.size+1) wr.drew w':=fun m h0 h1=>by
        rw [← h1]
        exact more1_any wr.drew (w.heap.size+1) cf cn (.map (some w.heap.size)) G.fb _ ml f k m (HMO.out.keep hT (fun h=>h)) ((H.out.lies.keep HHC.out (fun _ _ h=>h)).keep hT (fun _ _ h=>h)) HML.out (List.mem_append.2 (Or.inr (List.mem_append.2 (Or.inr hfm)))) h0 (by omega) (by omega) hcf hcn
       have HRR:=Ab hrr
       have HDROP:=Ab hdrop
       have HLF:=Ab hlf
       clear hrr hcf hcn hdrop hle1 hle2 hle3 hlf hT
       rcases Int.lt_or_le t 0 with ht | ht
       all_goals
        go_wp2_with fail
        refine wp_region_held_drew (S:=fun W=>W.cell? ⟨d,4,none⟩=some (.slice (some ⟨g,0,none⟩) n cap)∧W.cell? ⟨g,kk * 2+1,none⟩=some (.func (.func 159) #[] #[.pointer (some ⟨cf,0,none⟩), .pointer (some ⟨cn,0,none⟩)])∧W.cell? ⟨w.heap.size+2,0,none⟩=some (.map (some w.heap.size))∧W.cell? ⟨w.heap.size+2,1,none⟩=some (.map (some (w.heap.size+1)))) (by kernel_rfl) (⟨c4,z1,b0,b1⟩) (fun hHeld=>?_)
        refine Aa 0 hHeld ?_
        refine Aa 1 hHeld ?_
        refine Aa 2 hHeld ?_
        refine Aa 3 hHeld ?_
        refine Aa 4 hHeld ?_
        refine Aa 5 hHeld ?_
        refine Aa 6 hHeld ?_
        refine Aa 7 hHeld ?_
        refine Aa 8 hHeld ?_
        refine Aa 9 hHeld ?_
        refine Aa 10 hHeld ?_
        refine Al (i:=11) rfl (by kernel_rfl) rfl (fun K hK=>?_)
        go_simp
        refine (hcallm _ (by omega) (by omega)).mono ?_
        rintro e w3 ⟨rfl,hm3,hc3⟩
        have hc3':=hc3.undrew
        have hd3:=hc3'.keep HDR.out (by omega)
        have hob3:=hc3'.keep HOBR.out (by omega)
        have hrr3:=A3 HRR.out hc3' (fun q hq e=>by
         obtain ⟨cur,hcur⟩:=A2 HROW.out hq
         have:=At hcur
         omega)
        have hnl:=HN.out
        have y1:=hrr3.cellAt (kk * 2+1) (by omega)
        rw [(Dp hpk).2] at y1
        refine hK.out _ _ (⟨Ad hd3 4,y1,Ad hob3 0,Ad hob3 1⟩) (fun hHeld=>?_)
        clear hK K
        try simp only [Act.put,List.setIfInBounds_toArray,List.set_cons_zero,List.set_cons_succ]
        refine wpAnyH_done (by kernel_rfl) ?_ _
        clear hHeld hnl y1 hrr3
        have hch3 : Chg (fun _=>False) w w3:=HHC.out.trans hc3' (fun i hi e=>by omega)
        have hend:=Kt H.out hb (keep:=keep) (t:=t) (W:=w3.drew) hch3.drew ((HMN.out.keep hc3' (by omega)).keep ((Chg.refl (fun _=>False) _).drew) (fun h=>h)) (hm3.keep ((Chg.refl (fun _=>False) _).drew) (fun h=>h)) (fun p hp=>by
          unfold mput at hp
          rcases List.mem_cons.1 hp with rfl | hp
          ·exact List.mem_append.2 (Or.inr (List.mem_append.2 (Or.inr hfm)))
          ·exact HML.out p (List.mem_filter.1 hp).1) (fun i=>by
          rw [mlook_put,HST.out,HDROP.out]
          show _=Ar (_ ++ [.more f (min k t.toNat)]) i
          rw [Ew]
          by_cases e : i=f
          ·subst e
           rw [if_pos rfl,HLF.out,N1]
          ·rw [if_neg e,HLK.out i,Of e,Nat.add_zero])
        have c0':=Ad hd3 0
        have b0':=Ad hob3 0
        have b1':=Ad hob3 1
        have HD3:=Ab hd3
        have HOB3:=Ab hob3
        have HCH3:=Ab hch3
        clear hc3 hc3' hm3 hd3 hob3 hch3 hcallm
        go_wp2_with fail
        refine wp_region_held_drew (S:=fun W=>W.cell? ⟨w.heap.size+2,0,none⟩=some (.map (some w.heap.size))∧W.cell? ⟨w.heap.size+2,1,none⟩=some (.map (some (w.heap.size+1)))∧W.cell? ⟨d,0,none⟩=some (.int .i64 (S.room : Int))) (by kernel_rfl) (⟨b0',b1',c0'⟩) (fun hHeld=>?_)
        refine Aa 0 hHeld ?_
        refine Aa 1 hHeld ?_
        refine Aa 2 hHeld ?_
        refine Aa 3 hHeld ?_
        refine Aa 4 hHeld ?_
        refine Al (i:=5) rfl (by kernel_rfl) rfl (fun K hK=>?_)
        go_simp
        refine hend.mono ?_
        rintro e w5 ⟨d2,G2,rfl,hr5,hc5⟩
        have hob5:=hc5.undrew.keep HOB3.out (fun h=>h)
        have hd5:=hc5.undrew.keep HD3.out (fun h=>h)
        refine hK.out _ _ (⟨Ad hob5 0,Ad hob5 1,Ad hd5 0⟩) (fun hHeld=>?_)
        clear hK K
        try simp only [Act.put,List.setIfInBounds_toArray,List.set_cons_zero,List.set_cons_succ]
        refine Aa 6 hHeld ?_
        refine wpAnyH_done (by kernel_rfl) ?_ _
        clear hHeld
        have HR5:=Ab hr5
        have HC5:=Ab (HCH3.out.then hc5.undrew)
        clear hr5 hc5 hob5 hd5 hend
        go_wp2
        go_ret
        exact ⟨d2,G2,rfl,HR5.out,HC5.out⟩
     ·obtain ⟨ho,c,u,hv,hcc,hdo⟩:=hw.dir (by simpa using hm)
      subst ho hv
      have hend:=Kt H.out hb (keep:=keep) (t:=t) (W:=wr.drew) HHC.out.drew (HMN.out.keep ((Chg.refl (fun _=>False) _).drew) (fun h=>h)) (HMO.out.keep ((Chg.refl (fun _=>False) _).drew) (fun h=>h)) HML.out (fun i=>by
       rw [HLK.out i,HST.out,hdrop]
       have h0 : torn t.toNat (ac :: S.acts.drop (kk+1)) = []:=by
        cases ac <;> first | rfl | simp [A9] at hm
       rw [h0,List.append_nil])
      clear hrr hw hcc hdo hdrop
      go_wp2_with fail
      refine wp_region_held_drew (S:=fun W=>W.cell? ⟨w.heap.size+2,0,none⟩=some (.map (some w.heap.size))∧W.cell? ⟨w.heap.size+2,1,none⟩=some (.map (some (w.heap.size+1)))∧W.cell? ⟨d,0,none⟩=some (.int .i64 (S.room : Int))) (by kernel_rfl) (⟨b0,b1,c0⟩) (fun hHeld=>?_)
      refine Aa 0 hHeld ?_
      refine Aa 1 hHeld ?_
      refine Aa 2 hHeld ?_
      refine Aa 3 hHeld ?_
      refine Aa 4 hHeld ?_
      refine Al (i:=5) rfl (by kernel_rfl) rfl (fun K hK=>?_)
      go_simp
      refine hend.mono ?_
      rintro e w5 ⟨d2,G2,rfl,hr5,hc5⟩
      have hob5:=hc5.undrew.keep HOBR.out (fun h=>h)
      have hd5:=hc5.undrew.keep HDR.out (fun h=>h)
      refine hK.out _ _ (⟨Ad hob5 0,Ad hob5 1,Ad hd5 0⟩) (fun hHeld=>?_)
      clear hK K
      try simp only [Act.put,List.setIfInBounds_toArray,List.set_cons_zero,List.set_cons_succ]
      refine Aa 6 hHeld ?_
      refine wpAnyH_done (by kernel_rfl) ?_ _
      clear hHeld
      have HR5:=Ab hr5
      have HC5:=Ab (HHC.out.then hc5.undrew)
      clear hr5 hc5 hob5 hd5 hend
      go_wp2
      go_ret
      exact ⟨d2,G2,rfl,HR5.out,HC5.out⟩
    ·have hkn3 : kk=n:=by omega
     have hend:=Kt H.out hb (keep:=keep) (t:=t) (W:=wr.drew) HHC.out.drew (HMN.out.keep ((Chg.refl (fun _=>False) _).drew) (fun h=>h)) (HMO.out.keep ((Chg.refl (fun _=>False) _).drew) (fun h=>h)) HML.out (fun i=>by
      rw [HLK.out i,HST.out,List.drop_eq_nil_of_le (by omega)]
      show _=Ar (_ ++ []) i
      rw [List.append_nil])
     go_wp2_with fail
     refine wp_region_held_drew (S:=fun W=>W.cell? ⟨w.heap.size+2,0,none⟩=some (.map (some w.heap.size))∧W.cell? ⟨w.heap.size+2,1,none⟩=some (.map (some (w.heap.size+1)))∧W.cell? ⟨d,0,none⟩=some (.int .i64 (S.room : Int))) (by kernel_rfl) (⟨b0,b1,c0⟩) (fun hHeld=>?_)
     refine Aa 0 hHeld ?_
     refine Aa 1 hHeld ?_
     refine Aa 2 hHeld ?_
     refine Aa 3 hHeld ?_
     refine Aa 4 hHeld ?_
     refine Al (i:=5) rfl (by kernel_rfl) rfl (fun K hK=>?_)
     go_simp
     refine hend.mono ?_
     rintro e w5 ⟨d2,G2,rfl,hr5,hc5⟩
     have hob5:=hc5.undrew.keep HOBR.out (fun h=>h)
     have hd5:=hc5.undrew.keep HDR.out (fun h=>h)
     refine hK.out _ _ (⟨Ad hob5 0,Ad hob5 1,Ad hd5 0⟩) (fun hHeld=>?_)
     clear hK K
     try simp only [Act.put,List.setIfInBounds_toArray,List.set_cons_zero,List.set_cons_succ]
     refine Aa 6 hHeld ?_
     refine wpAnyH_done (by kernel_rfl) ?_ _
     clear hHeld
     have HR5:=Ab hr5
     have HC5:=Ab (HHC.out.then hc5.undrew)
     clear hr5 hc5 hob5 hd5 hend
     go_wp2
     go_ret
     exact ⟨d2,G2,rfl,HR5.out,HC5.out⟩
end
end Go.Proofs.YtblniomnhpedjaaGreatDoor
