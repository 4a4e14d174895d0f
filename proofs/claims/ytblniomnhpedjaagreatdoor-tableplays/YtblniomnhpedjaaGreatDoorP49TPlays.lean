/-
  TablePlays, walked: a table has just the pairs that were put and not taken away, whatever fails meanwhile. Conditions: what came in lies there; the table of sums holds its numbers.
-/
import Derived.Test.YtblniomnhpedjaaGreatDoorP48TBytes
import Derived.Test.YtblniomnhpedjaaGreatDoorP31TLog
import Derived.Deep.CutBlock
import Derived.Deep.CutRange
import Derived.Deep.LoopGhost
namespace Go.Proofs.YtblniomnhpedjaaGreatDoor
open Go.RowKit
set_option maxRecDepth 400000 in
set_option maxHeartbeats 16000000 in
theorem tplays_any (w : World) (v : Value) (os : List OpT) (keep torn : Int) (hv : OpsT w v os) (hol : os.length≤140737488355328) (hf : FineT os) (hfn : FineN os) (hB0 : 0<w.heap.size) (hT : Bm w) :
  Calls Tryz.prog 3 #[v, .int .i64 keep, .int .i64 torn] w fun e w'=>e = .returned (.bool true)∧Below w.heap.size w w':=by
 have HV:=Ab hv
 have HT:=Ab hT
 obtain ⟨va,vc,rfl⟩:=hv.form
 have hsh:=shown_any w hB0 hT
 clear hT hv
 go_enter Tryz.func3,Tryz.ntmps3
 go_wp2_with fail
 refine hsh.mono ?_
 rintro e w1 ⟨rfl,hb1⟩
 clear hsh
 have hno:=none_any w1
 go_wp2_with fail
 refine hno.mono ?_
 rintro e wn ⟨rfl,hwn⟩
 rw [hwn]
 clear hno hwn wn
 have hbx:=begun_new w.heap.size w1 hB0 hb1.size (HT.out.keep hb1)
 go_wp2_with fail
 refine hbx.mono ?_
 rintro e w2 ⟨x,d,t0,b0,g0,r0,F0,S0,rfl,hwx,hCx,hS0,hrx,hFx,hgx,htx,hbbx,hrs,hrx2,hxx,hb2⟩
 subst hS0
 have hB2:=hb1.trans (hb2.mono hb1.size)
 have hz1:=hb1.size
 have hXr : ∀ k,(F0 k∨k=g0∨k=t0)→k<r0:=fun k hk=>by
  rcases hk with hk | rfl | rfl
  ·exact (hFx k hk).2
  ·exact hgx.2
  ·exact htx.2
 have hrow : ∀ k,Cm w2 r0 k→k=r0:=fun k hk=>by
  rcases hk with hk | ⟨u,hu,hk⟩
  ·exact hk
  ·rw [Ad hrx] at hu
   simp only [List.getElem?_toArray,List.getElem?_cons_zero] at hu
   injection hu with hu
   subst hu
   cases hk
 have hM0 : PlM w.heap.size w2 x d g0 t0 b0 r0 F0 (Dk.new Dm).begun [] (.slice none 0 0) [] false:=by
  obtain ⟨L,sure,gs,k1,k2,-⟩:=hCx
  refine ⟨⟨false,0,0,hwx,by omega,by omega,fun _=>by rw [Ge]; decide⟩,⟨L,sure,gs,k1,k2⟩,World.ownsRow_nil _ _ _ _,fun k e=>(by cases e),⟨rtab_none hrx,fun k hk=>?_⟩,fun k _ e=>(by cases e),fun e=>by have:=hXr x e; omega,by omega⟩
  have:=hrow k hk
  subst this
  exact ⟨by omega,fun e=>by have:=hXr k e; omega,by omega⟩
 have hP0 : PlP (Dk.new Dm).begun [] false (100+0 * 2200010) (5 * 0):=by
  obtain ⟨L,sure,gs,-,-,k3,k4,k5,-⟩:=hCx
  exact ⟨k3.1,(slim_new _ _ _).begun,by omega,fun i e=>(by rw [k3.2 i] at e; cases e),fun _=>k5,by simp⟩
 have HW:=Ab (And.intro hM0 (And.intro hP0 hB2))
 clear hbx hb1 hb2 hwx hCx hrx hFx hXr hrow hM0 hP0 hB2
 go_wp2_with fail
 go_loopw [11] (fun i wr=>∃ (j g t b r : Nat) (F : Nat→Prop) (S : Dk) (lp : List Af) (f : Value) (ks : List Int) (tight : Bool),i = .int .i64 (j : Int)∧j≤os.length∧j≤40∧PlM w.heap.size wr x d g t b r F S lp f ks tight∧PlP S ks tight (100+j * 2200010) (5 * j)∧Below w.heap.size w wr)
  (fun t _=>40 - (intOf t).toNat)
 case atStart=>exact ⟨0,g0,t0,b0,r0,F0,_,[],_,[],false,rfl,by omega,by omega,HW.out.1,HW.out.2.1,HW.out.2.2⟩
 case round=>
  clear HW
  obtain ⟨j,g,t,b,r,F,S,lp,f,ks,tight,rfl,k1,k2,hM,hP,bb⟩:=hrel
  by_cases hlt : j<os.length∧j<40
  ·obtain ⟨k3,k4⟩:=hlt
   obtain ⟨ob,off,pv,rfl,hpv,e0,e1,e2,e3,e4⟩:=HV.out.at bb k3
   have hfo:=hf os[j] (List.getElem_mem k3)
   have hfq:=hfn os[j] (List.getElem_mem k3)
   generalize os[j]=o at hpv e0 e1 e2 e3 e4 hfo hfq
   obtain ⟨kind,pu,tm,nn,tt⟩:=o
   dsimp only at hpv e0 e1 e2 e3 e4 hfo hfq
   have HPV:=Ab hpv
   obtain ⟨pa,pc,rfl⟩:=hpv.form
   have hbA : Below wr.heap.size wr (wr.alloc (.cells #[.int .i64 kind, .slice pa pu.length pc, .int .i64 tm, .int .i64 nn, .int .i64 tt] 29)):=(Below.refl _ wr).alloc (Nat.le_refl _) _
   have hqA:=Au wr (.cells #[.int .i64 kind, .slice pa pu.length pc, .int .i64 tm, .int .i64 nn, .int .i64 tt] 29)
   have hMA:=hM.quiet hbA
   have hPA:=HPV.out.keepB hbA
   have hbbA:=bb.trans (hbA.mono bb.size)
   have hqo : ¬ (F wr.heap.size∨wr.heap.size=g∨wr.heap.size=t)∧wr.heap.size≠x∧f.ownBlock≠some wr.heap.size:=by
    have hl:=hM.lt
    exact ⟨fun e=>by have:=hl _ (.inl e); omega,fun e=>by have:=hl x (.inr rfl); omega,fun e=>by have:=(World.ownsRow.lt hM.row _ e).2; omega⟩
   obtain ⟨q,hq⟩ : ∃ q,q=wr.heap.size:=⟨_,rfl⟩
   have hpk:=fun W=>M5 W kind 8 hfo.1 (by omega)
   rw [← hq] at hqA hqo
   generalize hWA : wr.alloc (.cells #[.int .i64 kind, .slice pa pu.length pc, .int .i64 tm, .int .i64 nn, .int .i64 tt] 29)=wA at *
   have q0 : wA.cell? ⟨q,0,none⟩=some (.int .i64 kind):=Ad hqA 0
   have hqB : OpB wA x F g t f q kind (.slice pa pu.length pc) tm nn tt:=⟨hqA,hqo⟩
   have HQ:=Ab hq
   clear hM hbA hpv bb
   rw [hq] at q0
   go_wp2_with fail
   try rw [hWA]
   go_wp2_with fail
   refine (hpk _).mono ?_
   rintro e w3 ⟨rfl,hw3⟩
   rw [hw3]
   clear hw3 w3 hpk q0
   rw [← HQ.out]
   obtain ⟨kd,hkd⟩ : ∃ kd,kd=pk kind 8:=⟨_,rfl⟩
   rw [← hkd]
   clear hkd hq hWA hqA hqo e0 e1 e2 e3 e4
   have hPm:=hP.bulk
   by_cases h5 : kd=5
   ·as_aux_lemma=>
     subst h5
     have hops:=G0 hMA.tab.stands.1
     obtain ⟨⟨x0A,-⟩,-⟩:=hMA.world.cells
     have hop:=open_pl hMA.tab hP.lit hbbA.size hB0 (HT.out.keep hbbA) (by omega)
     have hnb : S.begun.n=S.n+1:=by rw [Iu hP.lit]; rfl
     have hPn : PlP S.begun ks tight (100+(j+1) * 2200010) (5 * (j+1)):=hP.near (Gc S) hP.slim.begun (Gk S) (by omega) (by omega)
     have hfew:=hP.few
     rcases hop with hop | ⟨hfail,hop⟩
     ·have HA:=Ab (And.intro hMA (And.intro hPn hbbA))
      clear hMA hP hPn hqB hPA hbbA
      go_wp2_with fail
      refine hops.mono ?_
      rintro e w3 ⟨rfl,hw3⟩
      rw [hw3]
      clear hw3 w3 hops
      go_wp2_with fail
      refine hop.mono ?_
      rintro e w4 ⟨t2,b2,g2,F2,rfl,hT2,hF2,ht2,hb2,hg2,hc4⟩
      obtain ⟨bad,most,last,hWA,hm1,hm2,hus⟩:=HA.out.1.world
      have hW4 : C9 w4 x d t r f tight bad most last:=hc4.keep (show wA.heap[x]? = some _ from hWA) (fun e=>HA.out.1.xo (.inl e))
      have hrow4:=A3 HA.out.1.row hc4 (fun k hk e=>(HA.out.1.fo k hk).1 (.inl e))
      have hxl:=HA.out.1.world.lt
      have hxF2 : ¬ F2 x:=fun e=>by
       rcases hF2 x e with e | e
       ·exact HA.out.1.xo (.inl e)
       ·omega
      have hmay:=Kc hW4 hT2.stands.1 hxF2 hrow4 (fun e=>(HA.out.1.fo x e).2 rfl) (by omega) (e:=0) (ops:=(S.n : Int)) (.inl rfl)
      have H4:=Ab (And.intro hT2 (And.intro hF2 (And.intro ht2 (And.intro hg2 hc4))))
      clear hop hT2 hF2 ht2 hb2 hg2 hc4 hW4 hrow4 hxF2 hWA x0A
      go_wp2_with fail
      refine hmay.mono ?_
      rintro e w5 ⟨rfl,hMW⟩
      obtain ⟨hW5,hc5⟩:=hMW.world (S:=S.begun) hm1 hm2 (fun e=>by rw [Ge]; exact hus e)
      obtain ⟨⟨-,x15,-⟩,zf⟩:=hW5.cells
      have z1:=zf 1
      have hMn:=HA.out.1.opened H4.out.1 H4.out.2.1 H4.out.2.2.1 H4.out.2.2.2.1 H4.out.2.2.2.2 (hc5.setCell (p:=⟨x,1,none⟩) (.inl rfl) (.pointer (some ⟨t2,0,none⟩))) (hW5.setT t2)
      have hb4:=HA.out.2.2.trans (H4.out.2.2.2.2.below (fun k hk=>(HA.out.1.tab.low.1 k hk).1) HA.out.2.2.size)
      have hb5:=hb4.trans (hc5.below (fun k hk=>by rw [hk]; exact HA.out.1.low) hb4.size)
      have hb6:=hb5.setCell (p:=⟨x,1,none⟩) HA.out.1.low (.pointer (some ⟨t2,0,none⟩))
      have HF:=Ab (And.intro hMn hb6)
      clear hmay hMW hW5 hc5 hMn hb4 hb5 hb6 zf hm1 hm2 hus
      go_wp2_with fail
      go_roundw
      case rel=>exact ⟨j+1,g2,t2,b2,r,F2,S.begun,lp,f,ks,tight,by go_num,by omega,by omega,HF.out.1,HA.out.2.1,HF.out.2⟩
      case measure=>simp [intOf]; omega
     ·have hmb:=hP.may (Fr hfail (show S.n<S.begun.n by omega))
      have HA:=Ab (And.intro hMA (And.intro hPn hbbA))
      clear hMA hP hPn hqB hPA hbbA
      go_wp2_with fail
      refine hops.mono ?_
      rintro e w3 ⟨rfl,hw3⟩
      rw [hw3]
      clear hw3 w3 hops
      go_wp2_with fail
      refine hop.mono ?_
      rintro e w4 ⟨rfl,haf⟩
      obtain ⟨F4,hM4,hF4,hc4⟩:=HA.out.1.after haf (fun L sure gs h=>says_begun h) (Ge S)
      obtain ⟨bad,most,last,hW4,hm1,hm2,hus⟩:=hM4.world
      have hmay:=Kc hW4 hM4.tab.stands.1 (fun e=>hM4.xo (.inl e)) hM4.row (fun e=>(hM4.fo x e).2 rfl) (by omega) hmb
      have hb4:=HA.out.2.2.trans (hc4.below (fun k hk=>(HA.out.1.tab.low.1 k hk).1) HA.out.2.2.size)
      have H4:=Ab (And.intro hM4 hb4)
      clear hop haf hF4 hc4 hW4 x0A hM4 hb4
      go_wp2_with fail
      refine hmay.mono ?_
      rintro e w5 ⟨rfl,hMW⟩
      obtain ⟨hW5,hc5⟩:=hMW.world (S:=S.begun) hm1 hm2 hus
      have hM5:=H4.out.1.chgX hc5 hW5
      have hb5:=H4.out.2.trans (hc5.below (fun k hk=>by rw [hk]; exact HA.out.1.low) H4.out.2.size)
      have HF:=Ab (And.intro hM5 hb5)
      clear hmay hMW hW5 hc5 hM5 hb5 hm1 hm2 hus
      go_wp2_with fail
      go_roundw
      case rel=>exact ⟨j+1,g,t,b,r,F4,S.begun,lp,f,ks,tight,by go_num,by omega,by omega,HF.out.1,HA.out.2.1,HF.out.2⟩
      case measure=>simp [intOf]; omega
   by_cases h6 : kd=6
   ·as_aux_lemma=>
     subst h6
     obtain ⟨i0,hi0,hz0,hz1,hz2⟩:=info_parts Tryz.infoI
     have hdA : Below wA.heap.size wA wA.drew:=(Below.refl _ wA).drew
     have hMD:=hMA.quiet hdA
     have hbD : Below w.heap.size w wA.drew:=hbbA.drew
     have hqD:=hqB.quiet hdA
     have hops:=G0 hMD.tab.stands.1
     obtain ⟨⟨x0d,-⟩,-⟩:=hMD.world.cells
     have q3d : wA.drew.cell? ⟨q,3,none⟩=some (.int .i64 nn):=Ad hqD.1 3
     have hpk:=fun W=>M5 W nn 12 hfq.1 (by omega)
     have hpk5:=fun W=>M5 W tt 5 hfq.2 (by omega)
     obtain ⟨hp0,hp1⟩:=Lr (c:=tt) (n:=5) (by omega)
     obtain ⟨n0,hn0⟩ : ∃ n0,IntKind.i64.wrap ((S.n : Int)+pk nn 12)=n0:=⟨_,rfl⟩
     have hfew:=hP.few
     have HA:=Ab (And.intro hMD (And.intro hP (And.intro hqD hbD)))
     clear hMA hMD hP hqB hqD hbD hbbA hdA hPA
     go_wp2_with fail
     refine wp_region_held_drew (S:=fun W=>W.cell? ⟨x,0,none⟩=some (.pointer (some ⟨d,0,none⟩))∧W.cell? ⟨q,3,none⟩=some (.int .i64 nn)) (by kernel_rfl) (⟨x0d,q3d⟩) (fun hHeld=>?_)
     refine Aa 0 hHeld ?_
     refine Aa 1 hHeld ?_
     refine Aa 2 hHeld ?_
     refine Aa 3 hHeld ?_
     refine Aa 5 hHeld ?_
     refine Aa 6 hHeld ?_
     refine Al (i:=4) rfl (by kernel_rfl) rfl (fun K hK=>?_)
     go_simp
     refine hops.mono ?_
     rintro e w3 ⟨rfl,hw3⟩
     rw [hw3]
     clear hw3 w3
     refine hK.out _ _ (⟨x0d,q3d⟩) (fun hHeld=>?_)
     clear hK K
     try simp only [Act.put,List.setIfInBounds_toArray,List.set_cons_zero,List.set_cons_succ]
     refine Al (i:=7) rfl (by kernel_rfl) rfl (fun K hK=>?_)
     go_simp
     refine (hpk _).mono ?_
     rintro e w3 ⟨rfl,hw3⟩
     rw [hw3]
     clear hw3 w3
     refine hK.out _ _ (⟨x0d,q3d⟩) (fun hHeld=>?_)
     clear hK K
     try simp only [Act.put,List.setIfInBounds_toArray,List.set_cons_zero,List.set_cons_succ]
     refine Aa 8 hHeld ?_
     refine Aa 9 hHeld ?_
     refine wpAnyH_done (by kernel_rfl) ?_ _
     clear hHeld hops hpk x0d q3d
     generalize pk tt 5=p5 at *
     generalize wA.drew=wD at *
     clear hn0
     go_wp2_with fail
     go_loopw [18] (fun i wr=>∃ (k : Nat) (F' : Nat→Prop) (S' : Dk) (f' : Value) (ks' : List Int),i = .int .i64 (k : Int)∧k≤5∧PlM w.heap.size wr x d g t b r F' S' lp f' ks' tight∧(Lit S'∧Slim B6 2200000 S'∧S'.bulk=S.bulk∧(∀ i : Nat,S'.fails i=true→(i : Int)∈ks')∧(tight=false→S'.room=Dm))∧ks'.length≤ks.length+k∧OpB wr x F' g t f' q kind (.slice pa pu.length pc) tm nn tt∧Below w.heap.size w wr) (fun i _=>6 - (intOf i).toNat)
     case atStart=>exact ⟨0,F,S,f,ks,rfl,by omega,HA.out.1,⟨HA.out.2.1.lit,HA.out.2.1.slim,rfl,HA.out.2.1.fl,HA.out.2.1.room⟩,by omega,HA.out.2.2.1,HA.out.2.2.2⟩
     case round=>
      obtain ⟨k,F',S',f',ks',rfl,hk5,hM',hS',hkl,hqr,hbr⟩:=hrel
      have q4r : wr.cell? ⟨q,4,none⟩=some (.int .i64 tt):=Ad hqr.1 4
      have HS:=Ab (And.intro hS' hkl)
      clear hS' hkl
      by_cases hkp : (k : Int)≤p5
      ·obtain ⟨y,hy⟩ : ∃ y,IntKind.i64.wrap (n0+(k : Int))=y:=⟨_,rfl⟩
       obtain ⟨⟨x0r,-⟩,-⟩:=hM'.world.cells
       have hfa:=failAt_one hM'.tab.stands.1 hbr.size y
       have HM:=Ab (And.intro hM' (And.intro hqr hbr))
       clear hM' hqr hbr
       go_wp2_with fail
       refine (hpk5 _).mono ?_
       rintro e w3 ⟨rfl,hw3⟩
       rw [hw3]
       clear hw3 w3
       go_wp2_with fail
       refine hfa.mono ?_
       rintro e w5 ⟨rfl,haf⟩
       obtain ⟨F5,hM5,hF5,hc5⟩:=HM.out.1.after haf (fun L sure gs h=>Lk h rfl rfl rfl rfl) rfl
       have hb5:=HM.out.2.2.trans (hc5.below (fun k hk=>(HM.out.1.tab.low.1 k hk).1) HM.out.2.2.size)
       have hq5:=HM.out.2.1.step hc5 (fun k h=>.inl h) hF5
       have hbA5 : Below w5.heap.size w5 (w5.alloc (.cells #[.int .i64 y] 3)):=(Below.refl _ w5).alloc (Nat.le_refl _) _
       have hM5a:=hM5.quiet hbA5
       have hq5a:=hq5.quiet hbA5
       have hb5a:=hb5.trans (hbA5.mono hb5.size)
       have hnc : ∀ (i : Nat) (u : Value),([.int .i64 y] : List Value)[i]? = some u→(w5.alloc (.cells #[.int .i64 y] 3)).cell? ((⟨w5.heap.size,0,none⟩ : Addr).add i)=some u:=fun i u hu=>by
        match i,hu with
        | 0,hu=>rw [Addr.add_lit]; simp at hu; subst hu; exact Ad (Au w5 _) 0
       have hkl2:=HS.out.2
       obtain ⟨v6,w6,hrun,hown6,hgr6,-,hv6⟩:=run_append_own_at (P:=Tryz.prog) (w5.alloc (.cells #[.int .i64 y] 3)) w.heap.size 34 34 3 i0 (.int .i64 0) 1 8 Tryz.underlying34 hi0 hz0 hz1 hz2 rfl (by decide) _ _ _ hM5a.row ⟨w5.heap.size,0,none⟩ 1 1 [.int .i64 y] rfl hnc (by simp [Value.oneCell']) (by unfold maxLen; omega) (by omega) hb5a.size
       have hcf : Chg (fun k=>f'.ownBlock=some k) (w5.alloc (.cells #[.int .i64 y] 3)) w6:=(Chg.of_grown hgr6).mono (fun k _ e=>e.symm)
       have hW6:=hM5a.world.keep hcf (fun e=>(hM5a.fo x e).2 rfl)
       obtain ⟨⟨-,-,-,x36,-⟩,zf6⟩:=hW6.cells
       have f36:=zf6 3
       have hown6' : w6.ownsRow w.heap.size 3 1 v6 (ks' ++ [y]).length (icW (ks' ++ [y])):=by
        have e1 : (ks' ++ [y]).length=ks'.length+1:=by simp
        have e2 : icW (ks' ++ [y])=icW ks' ++ [.int .i64 y]:=by simp [icW]
        rw [e1,e2]
        exact hown6
       have hv6' : ∀ k,v6.ownBlock=some k→f'.ownBlock=some k∨(w5.alloc (.cells #[.int .i64 y] 3)).heap.size≤k:=fun k e=>hv6.imp (fun h=>by rw [← h]; exact e) (fun h=>by rw [h] at e; injection e with e; omega)
       obtain ⟨hM7,-⟩:=hM5a.putF hown6' hcf hv6'
       have hb6 : Below w.heap.size w w6:=hb5a.trans (hcf.below (fun k hk=>(World.ownsRow.lt hM5a.row k hk).1) hb5a.size)
       have hb7:=hb6.setCell (p:=⟨x,3,none⟩) hM5.low v6
       have hq7 : OpB (w6.setCell ⟨x,3,none⟩ v6) x F5 g t v6 q kind (.slice pa pu.length pc) tm nn tt:=⟨((Chg.refl (· = x) w6).setCell (p:=⟨x,3,none⟩) (.inl rfl) v6).keep (hcf.keep hq5a.1 (fun e=>hq5a.2.2.2 e)) (fun e=>hq5a.2.2.1 e),hq5a.2.1,hq5a.2.2.1,fun e=>(hv6' q e).elim hq5a.2.2.2 (fun h2=>by have:=At hq5a.1; omega)⟩
       have hfl7 : ∀ i : Nat,(S'.failAt [y]).fails i=true→(i : Int)∈ks' ++ [y]:=fun i h=>by
        have h : (S'.fails i || [y].contains (i : Int))=true:=h
        rw [Bool.or_eq_true] at h
        rw [List.mem_append]
        exact h.imp (HS.out.1.2.2.2.1 i) (fun h=>by rwa [List.contains_iff_mem] at h)
       obtain ⟨⟨-,-,-,x35,-⟩,-⟩:=hM5.world.cells
       obtain ⟨af,cf,hff,-⟩:=Ay hM5.row
       subst hff
       have HRUN:=Ab hrun
       have H7:=Ab (And.intro hM7 (And.intro hb7 (And.intro hq7 hfl7)))
       clear hfa haf hM5 hM5a hW6 zf6 hcf hown6 hown6' hgr6 hv6 hv6' hM7 hb6 hb7 hq7 hq5 hq5a hc5 hF5 q4r x0r hnc hb5a hbA5 hrun hb5 hfl7
       obtain ⟨a6,c6,n6,rfl⟩:=row_form H7.out.1.row
       go_wp2_with (at_builtin; refine wpList_plain rfl (fun K hK=>Cg (.tmp 227) (.tmp 231) 34 rfl rfl rfl HRUN.out (hK _ _ ?_)))
       try go_wp2
       go_roundw
       case rel=>exact ⟨k+1,F5,S'.failAt [y],_,ks' ++ [y],by go_num,by omega,H7.out.1,⟨HS.out.1.1,⟨HS.out.1.2.1.dir,HS.out.1.2.1.sure,HS.out.1.2.1.acts,HS.out.1.2.1.files⟩,HS.out.1.2.2.1,H7.out.2.2.2,HS.out.1.2.2.2.2⟩,by have:=HS.out.2; simp; omega,H7.out.2.2.1,H7.out.2.1⟩
       case measure=>simp [intOf]; omega
      ·have hnk : ¬ ((k : Int)≤p5):=hkp
       have HM:=Ab (And.intro hM' hbr)
       clear hM' hbr
       go_wp2_with fail
       refine (hpk5 _).mono ?_
       rintro e w3 ⟨rfl,hw3⟩
       rw [hw3]
       clear hw3 w3
       go_wp2
       go_roundw
       case rel=>exact ⟨j+1,g,t,b,r,F',S',lp,f',ks',tight,by go_num,by omega,by omega,HM.out.1,⟨HS.out.1.1,HS.out.1.2.1,by have:=HS.out.1.2.2.1; omega,HS.out.1.2.2.2.1,HS.out.1.2.2.2.2,by have:=HS.out.2; omega⟩,HM.out.2⟩
       case measure=>simp [intOf]; omega
   by_cases h7 : kd=7
   ·as_aux_lemma=>
     subst h7
     have q3 : wA.cell? ⟨q,3,none⟩=some (.int .i64 nn):=Ad hqB.1 3
     obtain ⟨⟨x0A,-,-,-,x4A⟩,zf⟩:=hMA.world.cells
     have z4:=zf 4
     have hMt:=hMA.putQ (decide (0≤nn))
     have k7 : Chg (· = x) wA (wA.setCell ⟨x,4,none⟩ (.bool (decide (0≤nn)))):=(Chg.refl (· = x) wA).setCell (p:=⟨x,4,none⟩) (.inl rfl) _
     have hbt:=hbbA.setCell (p:=⟨x,4,none⟩) hMA.low (.bool (decide (0≤nn)))
     have hqt:=hqB.step (F':=F) k7 (fun k e=>.inr (.inr (.inr e))) (fun k h=>.inl h)
     have HP:=Ab hP
     clear hMA hbbA hqB hPA k7 zf hP
     go_upto_region 42 with fail
     generalize wA.setCell ⟨x,4,none⟩ (.bool (decide (0≤nn)))=wt at *
     clear q3 x0A x4A z4
     obtain ⟨⟨x0t,-⟩,-⟩:=hMt.world.cells
     have hsr:=N3 hMt.tab.stands.1 hbt.size 67108864 (by omega)
     have HMT:=Ab (And.intro hMt (And.intro hbt hqt))
     clear hMt hbt hqt
     go_wp2_with fail
     refine hsr.mono ?_
     rintro e w6 ⟨rfl,haf⟩
     obtain ⟨F6,hM6,hF6,hc6⟩:=HMT.out.1.after haf (fun L sure gs h=>Lk h rfl rfl rfl rfl) rfl
     have hb6:=HMT.out.2.1.trans (hc6.below (fun k hk=>(HMT.out.1.tab.low.1 k hk).1) HMT.out.2.1.size)
     have hq6:=HMT.out.2.2.step hc6 (fun k h=>.inl h) hF6
     obtain ⟨⟨-,-,-,-,x46⟩,-⟩:=hM6.world.cells
     clear hsr haf hF6 hc6 x0t
     by_cases h0n : 0≤nn
     ·rw [decide_eq_true h0n] at x46 hM6
      have hd6 : Below w6.heap.size w6 w6.drew:=(Below.refl _ w6).drew
      have hMd:=hM6.quiet hd6
      have hbd : Below w.heap.size w w6.drew:=hb6.drew
      have hqd:=hq6.quiet hd6
      obtain ⟨⟨x0d,-⟩,-⟩:=hMd.world.cells
      have q3d : w6.drew.cell? ⟨q,3,none⟩=some (.int .i64 nn):=Ad hqd.1 3
      have hby:=Ko hMd.tab.stands.1 (by show S.bulk<_; omega)
      have HD:=Ab (And.intro hMd (And.intro hbd hqd))
      have obtainx : w6.cell? ⟨x,4,none⟩=some (.bool true):=x46
      clear hM6 hb6 hq6 hMd hbd hqd hd6
      go_wp2_with fail
      refine wp_region_held_drew (S:=fun W=>W.cell? ⟨x,0,none⟩=some (.pointer (some ⟨d,0,none⟩))∧W.cell? ⟨q,3,none⟩=some (.int .i64 nn)) (by kernel_rfl) (⟨x0d,q3d⟩) (fun hHeld=>?_)
      refine Aa 0 hHeld ?_
      refine Aa 1 hHeld ?_
      refine Aa 2 hHeld ?_
      refine Aa 3 hHeld ?_
      refine Aa 4 hHeld ?_
      refine Aa 5 hHeld ?_
      refine Aa 6 hHeld ?_
      refine Aa 7 hHeld ?_
      refine Aa 9 hHeld ?_
      refine Aa 10 hHeld ?_
      refine Aa 11 hHeld ?_
      refine Al (i:=8) rfl (by kernel_rfl) rfl (fun K hK=>?_)
      go_simp
      refine hby.mono ?_
      rintro e w7 ⟨rfl,hc7⟩
      have hb67 : Below w6.drew.heap.size w6.drew w7:=hc7.below (fun _ h=>h.elim) (Nat.le_refl _)
      have hM7:=HD.out.1.quiet hb67
      have hq7:=HD.out.2.2.quiet hb67
      have hb7:=HD.out.2.1.trans (hb67.mono HD.out.2.1.size)
      obtain ⟨⟨x07,-⟩,-⟩:=hM7.world.cells
      refine hK.out _ _ (⟨x07,Ad hq7.1 3⟩) (fun hHeld=>?_)
      clear hK K
      try simp only [Act.put,List.setIfInBounds_toArray,List.set_cons_zero,List.set_cons_succ]
      refine Aa 12 hHeld ?_
      refine Al (i:=13) rfl (by kernel_rfl) rfl (fun K hK=>?_)
      go_simp
      have hwr:=wrap_hi (((S.setRoom 67108864).used : Int)+nn.tmod 4000)
      generalize IntKind.i64.wrap (((S.setRoom 67108864).used : Int)+nn.tmod 4000)=rr at *
      refine (N3 hM7.tab.stands.1 hb7.size rr hwr).mono ?_
      rintro e w8 ⟨rfl,haf⟩
      obtain ⟨F8,hM8,hF8,hc8⟩:=hM7.after haf (fun L sure gs h=>Lk h rfl rfl rfl rfl) rfl
      have hb8:=hb7.trans (hc8.below (fun k hk=>(hM7.tab.low.1 k hk).1) hb7.size)
      have hq8:=hq7.step hc8 (fun k h=>.inl h) hF8
      obtain ⟨⟨x08,-⟩,-⟩:=hM8.world.cells
      have HF:=Ab (And.intro hM8 (And.intro (show PlP ((S.setRoom 67108864).setRoom rr) ks true (100+(j+1) * 2200010) (5 * (j+1)) from ⟨HP.out.lit,⟨HP.out.slim.dir,HP.out.slim.sure,HP.out.slim.acts,HP.out.slim.files⟩,Nat.le_trans HP.out.bulk (by omega),HP.out.fl,fun h=>(by cases h),Nat.le_trans HP.out.few (by omega)⟩) hb8))
      refine hK.out _ _ (⟨x08,Ad hq8.1 3⟩) (fun hHeld=>?_)
      clear hK K
      try simp only [Act.put,List.setIfInBounds_toArray,List.set_cons_zero,List.set_cons_succ]
      refine wpAnyH_done (by kernel_rfl) ?_ _
      clear hHeld hM8 hb8 hq8 hM7 hb7 hq7 hF8 hc8 haf hby x0d q3d x07 x08
      go_wp2
      go_roundw
      case rel=>exact ⟨j+1,g,t,b,r,F8,_,lp,f,ks,true,by go_num,by omega,by omega,HF.out.1,HF.out.2.1,HF.out.2.2⟩
      case measure=>simp [intOf]; omega
     ·have hno : ¬ (0≤nn):=h0n
      rw [decide_eq_false h0n] at x46 hM6
      have HF:=Ab (And.intro hM6 (And.intro (show PlP (S.setRoom 67108864) ks false (100+(j+1) * 2200010) (5 * (j+1)) from ⟨HP.out.lit,⟨HP.out.slim.dir,HP.out.slim.sure,HP.out.slim.acts,HP.out.slim.files⟩,Nat.le_trans HP.out.bulk (by omega),HP.out.fl,fun _=>rfl,Nat.le_trans HP.out.few (by omega)⟩) hb6))
      clear hM6 hb6 hq6
      go_wp2
      go_roundw
      case rel=>exact ⟨j+1,g,t,b,r,F6,_,lp,f,ks,false,by go_num,by omega,by omega,HF.out.1,HF.out.2.1,HF.out.2.2⟩
      case measure=>simp [intOf]; omega
   have b5 : (kd == 5)=false:=by simp [h5]
   have b6 : (kd == 6)=false:=by simp [h6]
   have b7 : (kd == 7)=false:=by simp [h7]
   have hpu:=lputs_any wA kind nn tt tm _ pu hPA hfo.2.1 hfo.2.2
   have hlt0:=hMA.lt
   have qA:=Ad hqB.1
   have q0 : wA.cell? ⟨q,0,none⟩=some (.int .i64 kind):=qA 0
   have q1 : wA.cell? ⟨q,1,none⟩=some (.slice pa pu.length pc):=qA 1
   have q2 : wA.cell? ⟨q,2,none⟩=some (.int .i64 tm):=qA 2
   have q3 : wA.cell? ⟨q,3,none⟩=some (.int .i64 nn):=qA 3
   have q4 : wA.cell? ⟨q,4,none⟩=some (.int .i64 tt):=qA 4
   have HC:=Ab (And.intro hMA (And.intro hP hbbA))
   clear hMA hP hbbA hPA hqB qA hfo hfq
   go_wp2_with fail
   refine hpu.mono ?_
   rintro e w3 ⟨u,ps,rfl,hps,hpl,hpb,hpo,hb3⟩
   have hM3:=HC.out.1.quiet hb3
   have hB3:=HC.out.2.2.trans (hb3.mono HC.out.2.2.size)
   obtain ⟨hst,hri,hfit,-,-⟩:=hM3.tab.stands
   have hrc:=Pn w3 r lp ps u hM3.ref.1 hri hfit hps (by omega)
   obtain ⟨⟨-,-,x2,-⟩,-⟩:=hM3.world.cells
   obtain ⟨ua2,uc2,rfl⟩:=hps.form
   have hvo : ∀ k,(Value.slice ua2 ps.length uc2).ownBlock=some k→¬ (F k∨k=g∨k=t)∧k≠x:=fun k hk=>by
    have h1:=hpo k hk
    exact ⟨fun e=>by have:=hlt0 k (.inl e); omega,fun e=>by have:=hlt0 k (.inr e); omega⟩
   have hpsK : ∀ p∈ps,p.1.length≤4611686018427387904:=fun p hp=>by
    have:=hpb p hp
    omega
   have H3:=Ab (And.intro hM3 (And.intro hB3 (And.intro hps (And.intro hvo hpo))))
   clear hpu hb3 hM3 hB3 hst hri hfit hps hpb hpo hvo hlt0 q0 q1 q2 q3 q4
   go_wp2_with fail
   refine hrc.mono ?_
   rintro e w4 ⟨r',rfl,hR',hrr,hb4,hown⟩
   have hM4:=H3.out.1.quiet hb4
   have hB4:=H3.out.2.1.trans (hb4.mono H3.out.2.1.size)
   have hRn : C6 w4 x F g t r' (Bz lp ps):=H3.out.1.ref.next H3.out.1.lt hR' hrr hb4.size hown
   have hrfn : ∀ k,Cm w4 r' k→f.ownBlock≠some k:=fun k hk e=>by
    have hfl:=(World.ownsRow.lt H3.out.1.row k e).2
    rcases hk with rfl | ⟨u,hu,hk⟩
    ·rcases hrr with rfl | h
     ·exact H3.out.1.rf _ (.inl rfl) e
     ·omega
    ·rcases hown u hu with h | h
     ·exact H3.out.1.rf k (.inr ⟨u,h,hk⟩) e
     ·have:=h k hk
      omega
   have hly:=lay_pl hM4 HC.out.2.1 (H3.out.2.2.1.keepB hb4) (by omega) H3.out.2.2.2.1 (by omega) hB0 (HT.out.keep hB4) (by omega)
   have H4:=Ab (And.intro hM4 (And.intro hRn (And.intro hrfn (And.intro hB4 hb4))))
   clear hrc hR' hrr hb4 hown hM4 hRn hrfn hB4 x2
   go_wp2_with fail
   refine hly.mono ?_
   rintro e w5 ⟨A,rfl,h35,Fz,bz,Sz,lz,hA,hL5,hP5,hF5,hc5⟩
   have hFF : ∀ k,Fz k∨k=g∨k=t→(F k∨k=g∨k=t)∨w4.heap.size≤k:=fun k h=>by
    rcases h with h | h
    ·exact (hF5 k h).imp .inl id
    ·exact .inl (.inr h)
   have hRn5 : C6 w5 x Fz g t r' (Bz lp ps):=H4.out.2.1.step hc5 (fun k h=>h) hFF
   have hRo5 : C6 w5 x Fz g t r lp:=H4.out.1.ref.step hc5 (fun k h=>h) hFF
   have hrfn5 : ∀ k,Cm w5 r' k→f.ownBlock≠some k:=fun k hk=>H4.out.2.2.1 k ((H4.out.2.1.chg hc5 (fun k h=>h)).2 k hk)
   have hrfo5 : ∀ k,Cm w5 r k→f.ownBlock≠some k:=fun k hk=>H4.out.1.rf k ((H4.out.1.ref.chg hc5 (fun k h=>h)).2 k hk)
   have hB5 : Below w.heap.size w w5:=H4.out.2.2.2.1.trans (H4.out.1.belowC hc5 H4.out.2.2.2.1.size)
   have hPz : PlP Sz ks tight (100+(j+1) * 2200010) (5 * (j+1)):=⟨hP5.lit,hP5.slim,Nat.le_trans hP5.bulk (by omega),hP5.fl,hP5.room,Nat.le_trans hP5.few (by omega)⟩
   have hPb:=hPz.bulk
   have HPS:=Ab hpsK
   have hQ5 : PsT w5 (.slice ua2 ps.length uc2) ps:=(H3.out.2.2.1.keepB H4.out.2.2.2.2).keep hc5 (fun _ b off n cap e hX=>by
    have h1:=H3.out.2.2.2.1 b (by rw [e]; rfl)
    rcases hX with h | h | h | h
    ·exact h1.1 (.inl h)
    ·exact h1.1 (.inr (.inl h))
    ·exact h1.1 (.inr (.inr h))
    ·exact h1.2 h)
   have hxv : ∀ b off n cap,Value.slice ua2 ps.length uc2 = .slice (some ⟨b,off,none⟩) n cap→b≠x:=fun b off n cap e=>(H3.out.2.2.2.1 b (by rw [e]; rfl)).2
   clear hly hFF hF5 hc5 hP5 hpsK
   by_cases hz : A=0
   ·as_aux_lemma=>
     subst hz
     have hlz : lz=Bz lp ps:=by
      rcases hA with ⟨-,h⟩ | ⟨h,-⟩
      ·exact h
      ·exact absurd rfl h
     subst hlz
     obtain ⟨⟨-,-,y2,-⟩,zf⟩:=hL5.world.cells
     have z2:=zf 2
     obtain ⟨hMwz,hcz⟩:=hL5.putR hRn5 hrfn5
     have hbwz:=hB5.setCell (p:=⟨x,2,none⟩) hL5.low (.pointer (some ⟨r',0,none⟩))
     have hQwz:=hQ5.keep hcz (fun _ b off n cap e hX=>hxv b off n cap e hX)
     clear hL5 hRn5 hRo5 hrfn5 hrfo5 hB5 hQ5 hcz zf hA h35 hxv
     go_upto_region 18 with fail
     generalize w5.setCell ⟨x,2,none⟩ (.pointer (some ⟨r',0,none⟩))=wz at *
     clear y2 z2
     generalize Bz lp ps=lz at *
     generalize r'=rz at *
     have hdwu : Below wz.heap.size wz wz.drew:=(Below.refl _ wz).drew
     have hMdwu:=hMwz.quiet hdwu
     have hbdwu : Below w.heap.size w wz.drew:=hbwz.drew
     have hQdwu:=hQwz.keepB hdwu
     obtain ⟨⟨x0wu,-,x2wu,-⟩,-⟩:=hMdwu.world.cells
     have hcrwu:=Hh hMdwu.tab hPz.bulk hbdwu.size (by omega) 0 0
     go_wp2_with fail
     refine wp_region_held_drew (S:=fun W=>W.cell? ⟨x,0,none⟩=some (.pointer (some ⟨d,0,none⟩))∧W.cell? ⟨x,2,none⟩=some (.pointer (some ⟨rz,0,none⟩))) (by kernel_rfl) (⟨x0wu,x2wu⟩) (fun hHeld=>?_)
     refine Aa 0 hHeld ?_
     refine Aa 1 hHeld ?_
     refine Aa 2 hHeld ?_
     refine Aa 3 hHeld ?_
     refine Aa 5 hHeld ?_
     refine Aa 6 hHeld ?_
     refine Aa 7 hHeld ?_
     refine Aa 8 hHeld ?_
     refine Al (i:=4) rfl (by kernel_rfl) rfl (fun K hK=>?_)
     go_simp
     refine hcrwu.mono ?_
     rintro e wcwu ⟨dcwu,Fcwu,Scwu,rfl,hDwu,hFwu,hcwu⟩
     have hbcwu : Below wz.drew.heap.size wz.drew wcwu:=hcwu.below (fun _ h=>h.elim) (Nat.le_refl _)
     have hMcwu:=hMdwu.quiet hbcwu
     have hbCwu:=hbdwu.trans (hbcwu.mono hbdwu.size)
     obtain ⟨⟨y0wu,-,y2wu,-⟩,-⟩:=hMcwu.world.cells
     refine hK.out _ _ (⟨y0wu,y2wu⟩) (fun hHeld=>?_)
     clear hK K
     try simp only [Act.put,List.setIfInBounds_toArray,List.set_cons_zero,List.set_cons_succ]
     refine Al (i:=9) rfl (by kernel_rfl) rfl (fun K hK=>?_)
     go_simp
     refine (Gv hDwu hbCwu.size hB0 (HT.out.keep hbCwu) (by omega) hMcwu.ref.1 (fun k hk e=>by
      have h1:=hFwu k e
      have h2:=(hMdwu.ref.2 k (hk.back hbcwu hMdwu.ref.1.lt)).1
      omega)).mono ?_
     rintro e wu ⟨rfl,htwu⟩
     have hbtwu : Below wz.drew.heap.size wz.drew wu:=(hcwu.trans htwu (fun k hk h=>by have:=hFwu k h; omega)).below (fun _ h=>h.elim) (Nat.le_refl _)
     have hMwu:=hMdwu.quiet hbtwu
     have hbwu:=hbdwu.trans (hbtwu.mono hbdwu.size)
     have hQwu:=hQdwu.keepB hbtwu
     obtain ⟨⟨z0wu,-,z2wu,-⟩,-⟩:=hMwu.world.cells
     refine hK.out _ _ (⟨z0wu,z2wu⟩) (fun hHeld=>?_)
     clear hK K
     try simp only [Act.put,List.setIfInBounds_toArray,List.set_cons_zero,List.set_cons_succ]
     refine Aa 10 hHeld ?_
     refine wpAnyH_done (by kernel_rfl) ?_ _
     clear hHeld x0wu x2wu y0wu y2wu z0wu z2wu hMdwu hbdwu hcrwu hDwu hFwu hcwu hbcwu hMcwu hbCwu htwu hbtwu hdwu hMwz hbwz hQwz hQdwu
     have hdwv : Below wu.heap.size wu wu.drew:=(Below.refl _ wu).drew
     have hMdwv:=hMwu.quiet hdwv
     have hbdwv : Below w.heap.size w wu.drew:=hbwu.drew
     have hQdwv:=hQwu.keepB hdwv
     obtain ⟨⟨x0wv,-,x2wv,-⟩,-⟩:=hMdwv.world.cells
     have hcrwv:=Hh hMdwv.tab hPz.bulk hbdwv.size (by omega) keep torn
     go_wp2_with fail
     refine wp_region_held_drew (S:=fun W=>W.cell? ⟨x,0,none⟩=some (.pointer (some ⟨d,0,none⟩))∧W.cell? ⟨x,2,none⟩=some (.pointer (some ⟨rz,0,none⟩))) (by kernel_rfl) (⟨x0wv,x2wv⟩) (fun hHeld=>?_)
     refine Aa 0 hHeld ?_
     refine Aa 1 hHeld ?_
     refine Aa 2 hHeld ?_
     refine Aa 3 hHeld ?_
     refine Aa 4 hHeld ?_
     refine Aa 5 hHeld ?_
     refine Aa 7 hHeld ?_
     refine Aa 8 hHeld ?_
     refine Aa 9 hHeld ?_
     refine Aa 10 hHeld ?_
     refine Al (i:=6) rfl (by kernel_rfl) rfl (fun K hK=>?_)
     go_simp
     refine hcrwv.mono ?_
     rintro e wcwv ⟨dcwv,Fcwv,Scwv,rfl,hDwv,hFwv,hcwv⟩
     have hbcwv : Below wu.drew.heap.size wu.drew wcwv:=hcwv.below (fun _ h=>h.elim) (Nat.le_refl _)
     have hMcwv:=hMdwv.quiet hbcwv
     have hbCwv:=hbdwv.trans (hbcwv.mono hbdwv.size)
     obtain ⟨⟨y0wv,-,y2wv,-⟩,-⟩:=hMcwv.world.cells
     refine hK.out _ _ (⟨y0wv,y2wv⟩) (fun hHeld=>?_)
     clear hK K
     try simp only [Act.put,List.setIfInBounds_toArray,List.set_cons_zero,List.set_cons_succ]
     refine Al (i:=11) rfl (by kernel_rfl) rfl (fun K hK=>?_)
     go_simp
     refine (Gv hDwv hbCwv.size hB0 (HT.out.keep hbCwv) (by omega) hMcwv.ref.1 (fun k hk e=>by
      have h1:=hFwv k e
      have h2:=(hMdwv.ref.2 k (hk.back hbcwv hMdwv.ref.1.lt)).1
      omega)).mono ?_
     rintro e wv ⟨rfl,htwv⟩
     have hbtwv : Below wu.drew.heap.size wu.drew wv:=(hcwv.trans htwv (fun k hk h=>by have:=hFwv k h; omega)).below (fun _ h=>h.elim) (Nat.le_refl _)
     have hMwv:=hMdwv.quiet hbtwv
     have hbwv:=hbdwv.trans (hbtwv.mono hbdwv.size)
     have hQwv:=hQdwv.keepB hbtwv
     obtain ⟨⟨z0wv,-,z2wv,-⟩,-⟩:=hMwv.world.cells
     refine hK.out _ _ (⟨z0wv,z2wv⟩) (fun hHeld=>?_)
     clear hK K
     try simp only [Act.put,List.setIfInBounds_toArray,List.set_cons_zero,List.set_cons_succ]
     refine Aa 12 hHeld ?_
     refine wpAnyH_done (by kernel_rfl) ?_ _
     clear hHeld x0wv x2wv y0wv y2wv z0wv z2wv hMdwv hbdwv hcrwv hDwv hFwv hcwv hbcwv hMcwv hbCwv htwv hbtwv hdwv hMwu hbwu hQwu hQdwv
     have hdwa : Below wv.heap.size wv wv.drew:=(Below.refl _ wv).drew
     have hMda:=hMwv.quiet hdwa
     have hbda : Below w.heap.size w wv.drew:=hbwv.drew
     obtain ⟨-,-,hfz,hez,sz,hAz⟩:=hMda.tab.stands
     have hflz:=Ea hfz
     obtain ⟨⟨-,x1a,x2a,-⟩,-⟩:=hMda.world.cells
     have hal:=alike_any wv.drew rz _ ps hAz hMda.ref.1 (hQwv.keepB hdwa) HPS.out (fun p hp=>by have:=hez p hp; unfold okP at this; omega) (by omega)
     clear hAz hez hfz
     go_wp2_with fail
     refine wp_region_held_drew (S:=fun W=>W.cell? ⟨x,1,none⟩=some (.pointer (some ⟨t,0,none⟩))∧W.cell? ⟨x,2,none⟩=some (.pointer (some ⟨rz,0,none⟩))) (by kernel_rfl) (⟨x1a,x2a⟩) (fun hHeld=>?_)
     refine Aa 0 hHeld ?_
     refine Aa 1 hHeld ?_
     refine Aa 2 hHeld ?_
     refine Aa 3 hHeld ?_
     refine Aa 4 hHeld ?_
     refine Aa 5 hHeld ?_
     refine Aa 6 hHeld ?_
     refine Aa 7 hHeld ?_
     refine Aa 8 hHeld ?_
     refine Al (i:=9) rfl (by kernel_rfl) rfl (fun K hK=>?_)
     go_simp
     refine hal.mono ?_
     rintro e wa ⟨rfl,hba⟩
     have hMwa:=hMda.quiet hba
     have hbwa:=hbda.trans (hba.mono hbda.size)
     obtain ⟨⟨-,z1a,z2a,-⟩,-⟩:=hMwa.world.cells
     refine hK.out _ _ (⟨z1a,z2a⟩) (fun hHeld=>?_)
     clear hK K
     try simp only [Act.put,List.setIfInBounds_toArray,List.set_cons_zero,List.set_cons_succ]
     refine Aa 10 hHeld ?_
     refine wpAnyH_done (by kernel_rfl) ?_ _
     clear hHeld hdwa hMda hbda x1a x2a hal hba z1a z2a hMwv hbwv hQwv
     obtain ⟨bad,most,last,hWa,hm1,hm2,hus⟩:=hMwa.world
     have hWa' : wa.drew.heap[x]? = some _:=hWa
     have x0a : wa.drew.cell? ⟨x,0,none⟩=some (.pointer (some ⟨d,0,none⟩)):=by rw [Ad hWa']; rfl
     have x4a : wa.drew.cell? ⟨x,4,none⟩=some (.bool tight):=by rw [Ad hWa']; rfl
     have x5a : wa.drew.cell? ⟨x,5,none⟩=some (.bool bad):=by rw [Ad hWa']; rfl
     have x6a : wa.drew.cell? ⟨x,6,none⟩=some (.int .i64 most):=by rw [Ad hWa']; rfl
     have x7a : wa.drew.cell? ⟨x,7,none⟩=some (.int .i64 last):=by rw [Ad hWa']; rfl
     have hdr : Below wa.heap.size wa wa.drew:=(Below.refl _ wa).drew
     have hMf:=hMwa.quiet hdr
     have hbf : Below w.heap.size w wa.drew:=hbwa.drew
     have HF:=Ab (And.intro hMf (And.intro hPz hbf))
     clear hWa hWa'
     cases bad with
     | true=>
      clear hMwa hMf hbf hbwa hus
      go_wp2_with fail
      refine wp_region_held_drew (S:=fun W=>W.cell? ⟨x,4,none⟩=some (.bool tight)∧W.cell? ⟨x,5,none⟩=some (.bool true)) (by kernel_rfl) (⟨x4a,x5a⟩) (fun hHeld=>?_)
      refine Aa 0 hHeld ?_
      refine Aa 1 hHeld ?_
      refine Aa 2 hHeld ?_
      refine Aa 3 hHeld ?_
      refine Aa 4 hHeld ?_
      refine Aa 5 hHeld ?_
      refine Aj 6 hHeld ?_
      refine Aj 7 hHeld ?_
      refine Aj 8 hHeld ?_
      refine Aj 9 hHeld ?_
      refine Aj 10 hHeld ?_
      refine Aa 11 hHeld ?_
      refine Aa 12 hHeld ?_
      refine Aj 13 hHeld ?_
      refine Aj 14 hHeld ?_
      refine Aj 15 hHeld ?_
      refine Aj 16 hHeld ?_
      refine Aj 17 hHeld ?_
      refine Aj 18 hHeld ?_
      refine Aj 19 hHeld ?_
      refine Aj 20 hHeld ?_
      refine Aj 21 hHeld ?_
      refine Aj 22 hHeld ?_
      refine Aj 23 hHeld ?_
      refine Aj 24 hHeld ?_
      refine Aj 25 hHeld ?_
      refine Aj 26 hHeld ?_
      refine Aj 27 hHeld ?_
      refine Aj 28 hHeld ?_
      refine Aj 29 hHeld ?_
      refine Aa 30 hHeld ?_
      refine wpAnyH_done (by kernel_rfl) ?_ _
      clear hHeld
      go_wp2
      go_roundw
      case rel=>exact ⟨j+1,g,t,bz,rz,Fz,Sz,lz,f,ks,tight,by go_num,by omega,by omega,HF.out.1,HF.out.2.1,HF.out.2.2⟩
      case measure=>simp [intOf]; omega
     | false=>
      cases tight with
      | true=>
       clear hMwa hMf hbf hbwa hus
       go_wp2_with fail
       refine wp_region_held_drew (S:=fun W=>W.cell? ⟨x,4,none⟩=some (.bool true)∧W.cell? ⟨x,5,none⟩=some (.bool false)) (by kernel_rfl) (⟨x4a,x5a⟩) (fun hHeld=>?_)
       refine Aa 0 hHeld ?_
       refine Aa 1 hHeld ?_
       refine Aa 2 hHeld ?_
       refine Aa 3 hHeld ?_
       refine Aa 4 hHeld ?_
       refine Aa 5 hHeld ?_
       refine Aa 6 hHeld ?_
       refine Aa 7 hHeld ?_
       refine Aa 8 hHeld ?_
       refine Aa 9 hHeld ?_
       refine Aa 10 hHeld ?_
       refine Aa 11 hHeld ?_
       refine Aa 12 hHeld ?_
       refine Aj 13 hHeld ?_
       refine Aj 14 hHeld ?_
       refine Aj 15 hHeld ?_
       refine Aj 16 hHeld ?_
       refine Aj 17 hHeld ?_
       refine Aj 18 hHeld ?_
       refine Aj 19 hHeld ?_
       refine Aj 20 hHeld ?_
       refine Aj 21 hHeld ?_
       refine Aj 22 hHeld ?_
       refine Aj 23 hHeld ?_
       refine Aj 24 hHeld ?_
       refine Aj 25 hHeld ?_
       refine Aj 26 hHeld ?_
       refine Aj 27 hHeld ?_
       refine Aj 28 hHeld ?_
       refine Aj 29 hHeld ?_
       refine Aa 30 hHeld ?_
       refine wpAnyH_done (by kernel_rfl) ?_ _
       clear hHeld
       go_wp2
       go_roundw
       case rel=>exact ⟨j+1,g,t,bz,rz,Fz,Sz,lz,f,ks,true,by go_num,by omega,by omega,HF.out.1,HF.out.2.1,HF.out.2.2⟩
       case measure=>simp [intOf]; omega
      | false=>
       have hby:=Ko hMf.tab.stands.1 (by have:=hPz.bulk; omega)
       have hus:=hus rfl
       have w1a : IntKind.i64.wrap (4 * most)=4 * most:=by rw [IntKind.wrap_i64]; omega
       have w2a : IntKind.i64.wrap (20000+4 * most)=20000+4 * most:=by rw [IntKind.wrap_i64]; omega
       have w3a : IntKind.i64.wrap (20000+4 * most+last)=20000+4 * most+last:=by rw [IntKind.wrap_i64]; omega
       have hgt : decide (20000+4 * most+last<(Sz.used : Int))=false:=decide_eq_false (by omega)
       clear hMwa hMf hbf hbwa hus hm1 hm2
       go_wp2_with fail
       refine wp_region_held_drew (S:=fun W=>W.cell? ⟨x,0,none⟩=some (.pointer (some ⟨d,0,none⟩))∧W.cell? ⟨x,4,none⟩=some (.bool false)∧W.cell? ⟨x,5,none⟩=some (.bool false)∧W.cell? ⟨x,6,none⟩=some (.int .i64 most)∧W.cell? ⟨x,7,none⟩=some (.int .i64 last)) (by kernel_rfl) (⟨x0a,x4a,x5a,x6a,x7a⟩) (fun hHeld=>?_)
       refine Aa 0 hHeld ?_
       refine Aa 1 hHeld ?_
       refine Aa 2 hHeld ?_
       refine Aa 3 hHeld ?_
       refine Aa 4 hHeld ?_
       refine Aa 5 hHeld ?_
       refine Aa 6 hHeld ?_
       refine Aa 7 hHeld ?_
       refine Aa 8 hHeld ?_
       refine Aa 9 hHeld ?_
       refine Aa 10 hHeld ?_
       refine Aa 11 hHeld ?_
       refine Aa 12 hHeld ?_
       refine Aa 13 hHeld ?_
       refine Aa 14 hHeld ?_
       refine Aa 15 hHeld ?_
       refine Aa 16 hHeld ?_
       refine Aa 18 hHeld ?_
       refine Aa 19 hHeld ?_
       refine Aa 20 hHeld ?_
       refine Aa 21 hHeld ?_
       refine Aa 22 hHeld ?_
       refine Aa 23 hHeld ?_
       refine Aa 24 hHeld ?_
       refine Aa 25 hHeld ?_
       refine Aa 26 hHeld ?_
       refine Aa 27 hHeld ?_
       refine Aa 28 hHeld ?_
       refine Al (i:=17) rfl (by kernel_rfl) rfl (fun K hK=>?_)
       go_simp
       refine hby.mono ?_
       rintro e wb ⟨rfl,hcb⟩
       have hbb : Below wa.drew.heap.size wa.drew wb:=hcb.below (fun _ h=>h.elim) (Nat.le_refl _)
       have hMb:=HF.out.1.quiet hbb
       have HG:=Ab (And.intro hMb (HF.out.2.2.trans (hbb.mono HF.out.2.2.size)))
       have y0:=D1 x0a hcb
       have y4:=D1 x4a hcb
       have y5:=D1 x5a hcb
       have y6:=D1 x6a hcb
       have y7:=D1 x7a hcb
       clear hMb hbb hby
       refine hK.out _ _ (⟨y0,y4,y5,y6,y7⟩) (fun hHeld=>?_)
       clear hK K
       try simp only [Act.put,List.setIfInBounds_toArray,List.set_cons_zero,List.set_cons_succ]
       refine Aa 29 hHeld ?_
       refine Aa 30 hHeld ?_
       refine wpAnyH_done (by kernel_rfl) ?_ _
       clear hHeld
       go_wp2
       go_roundw
       case rel=>exact ⟨j+1,g,t,bz,rz,Fz,Sz,lz,f,ks,false,by go_num,by omega,by omega,HG.out.1,HF.out.2.1,HG.out.2⟩
       case measure=>simp [intOf]; omega
   ·as_aux_lemma=>
     have hlz : lz=lp:=by
      rcases hA with ⟨h,-⟩ | ⟨-,h⟩
      ·exact absurd h hz
      ·exact h
     subst hlz
     have g35 : (A == 35)=false:=by simp [h35]
     have g0 : (A == 0)=false:=by simp [hz]
     have hMwz:=hL5.full hRo5 hrfo5
     have hbwz:=hB5
     have hQwz:=hQ5
     clear hL5 hRn5 hRo5 hrfn5 hrfo5 hB5 hQ5 hA h35 hz hxv
     go_upto_region 18 with fail
     generalize w5=wz at *
     generalize r=rz at *
     have hdwu : Below wz.heap.size wz wz.drew:=(Below.refl _ wz).drew
     have hMdwu:=hMwz.quiet hdwu
     have hbdwu : Below w.heap.size w wz.drew:=hbwz.drew
     have hQdwu:=hQwz.keepB hdwu
     obtain ⟨⟨x0wu,-,x2wu,-⟩,-⟩:=hMdwu.world.cells
     have hcrwu:=Hh hMdwu.tab hPz.bulk hbdwu.size (by omega) 0 0
     go_wp2_with fail
     refine wp_region_held_drew (S:=fun W=>W.cell? ⟨x,0,none⟩=some (.pointer (some ⟨d,0,none⟩))∧W.cell? ⟨x,2,none⟩=some (.pointer (some ⟨rz,0,none⟩))) (by kernel_rfl) (⟨x0wu,x2wu⟩) (fun hHeld=>?_)
     refine Aa 0 hHeld ?_
     refine Aa 1 hHeld ?_
     refine Aa 2 hHeld ?_
     refine Aa 3 hHeld ?_
     refine Aa 5 hHeld ?_
     refine Aa 6 hHeld ?_
     refine Aa 7 hHeld ?_
     refine Aa 8 hHeld ?_
     refine Al (i:=4) rfl (by kernel_rfl) rfl (fun K hK=>?_)
     go_simp
     refine hcrwu.mono ?_
     rintro e wcwu ⟨dcwu,Fcwu,Scwu,rfl,hDwu,hFwu,hcwu⟩
     have hbcwu : Below wz.drew.heap.size wz.drew wcwu:=hcwu.below (fun _ h=>h.elim) (Nat.le_refl _)
     have hMcwu:=hMdwu.quiet hbcwu
     have hbCwu:=hbdwu.trans (hbcwu.mono hbdwu.size)
     obtain ⟨⟨y0wu,-,y2wu,-⟩,-⟩:=hMcwu.world.cells
     refine hK.out _ _ (⟨y0wu,y2wu⟩) (fun hHeld=>?_)
     clear hK K
     try simp only [Act.put,List.setIfInBounds_toArray,List.set_cons_zero,List.set_cons_succ]
     refine Al (i:=9) rfl (by kernel_rfl) rfl (fun K hK=>?_)
     go_simp
     refine (Gv hDwu hbCwu.size hB0 (HT.out.keep hbCwu) (by omega) hMcwu.ref.1 (fun k hk e=>by
      have h1:=hFwu k e
      have h2:=(hMdwu.ref.2 k (hk.back hbcwu hMdwu.ref.1.lt)).1
      omega)).mono ?_
     rintro e wu ⟨rfl,htwu⟩
     have hbtwu : Below wz.drew.heap.size wz.drew wu:=(hcwu.trans htwu (fun k hk h=>by have:=hFwu k h; omega)).below (fun _ h=>h.elim) (Nat.le_refl _)
     have hMwu:=hMdwu.quiet hbtwu
     have hbwu:=hbdwu.trans (hbtwu.mono hbdwu.size)
     have hQwu:=hQdwu.keepB hbtwu
     obtain ⟨⟨z0wu,-,z2wu,-⟩,-⟩:=hMwu.world.cells
     refine hK.out _ _ (⟨z0wu,z2wu⟩) (fun hHeld=>?_)
     clear hK K
     try simp only [Act.put,List.setIfInBounds_toArray,List.set_cons_zero,List.set_cons_succ]
     refine Aa 10 hHeld ?_
     refine wpAnyH_done (by kernel_rfl) ?_ _
     clear hHeld x0wu x2wu y0wu y2wu z0wu z2wu hMdwu hbdwu hcrwu hDwu hFwu hcwu hbcwu hMcwu hbCwu htwu hbtwu hdwu hMwz hbwz hQwz hQdwu
     have hdwv : Below wu.heap.size wu wu.drew:=(Below.refl _ wu).drew
     have hMdwv:=hMwu.quiet hdwv
     have hbdwv : Below w.heap.size w wu.drew:=hbwu.drew
     have hQdwv:=hQwu.keepB hdwv
     obtain ⟨⟨x0wv,-,x2wv,-⟩,-⟩:=hMdwv.world.cells
     have hcrwv:=Hh hMdwv.tab hPz.bulk hbdwv.size (by omega) keep torn
     go_wp2_with fail
     refine wp_region_held_drew (S:=fun W=>W.cell? ⟨x,0,none⟩=some (.pointer (some ⟨d,0,none⟩))∧W.cell? ⟨x,2,none⟩=some (.pointer (some ⟨rz,0,none⟩))) (by kernel_rfl) (⟨x0wv,x2wv⟩) (fun hHeld=>?_)
     refine Aa 0 hHeld ?_
     refine Aa 1 hHeld ?_
     refine Aa 2 hHeld ?_
     refine Aa 3 hHeld ?_
     refine Aa 4 hHeld ?_
     refine Aa 5 hHeld ?_
     refine Aa 7 hHeld ?_
     refine Aa 8 hHeld ?_
     refine Aa 9 hHeld ?_
     refine Aa 10 hHeld ?_
     refine Al (i:=6) rfl (by kernel_rfl) rfl (fun K hK=>?_)
     go_simp
     refine hcrwv.mono ?_
     rintro e wcwv ⟨dcwv,Fcwv,Scwv,rfl,hDwv,hFwv,hcwv⟩
     have hbcwv : Below wu.drew.heap.size wu.drew wcwv:=hcwv.below (fun _ h=>h.elim) (Nat.le_refl _)
     have hMcwv:=hMdwv.quiet hbcwv
     have hbCwv:=hbdwv.trans (hbcwv.mono hbdwv.size)
     obtain ⟨⟨y0wv,-,y2wv,-⟩,-⟩:=hMcwv.world.cells
     refine hK.out _ _ (⟨y0wv,y2wv⟩) (fun hHeld=>?_)
     clear hK K
     try simp only [Act.put,List.setIfInBounds_toArray,List.set_cons_zero,List.set_cons_succ]
     refine Al (i:=11) rfl (by kernel_rfl) rfl (fun K hK=>?_)
     go_simp
     refine (Gv hDwv hbCwv.size hB0 (HT.out.keep hbCwv) (by omega) hMcwv.ref.1 (fun k hk e=>by
      have h1:=hFwv k e
      have h2:=(hMdwv.ref.2 k (hk.back hbcwv hMdwv.ref.1.lt)).1
      omega)).mono ?_
     rintro e wv ⟨rfl,htwv⟩
     have hbtwv : Below wu.drew.heap.size wu.drew wv:=(hcwv.trans htwv (fun k hk h=>by have:=hFwv k h; omega)).below (fun _ h=>h.elim) (Nat.le_refl _)
     have hMwv:=hMdwv.quiet hbtwv
     have hbwv:=hbdwv.trans (hbtwv.mono hbdwv.size)
     have hQwv:=hQdwv.keepB hbtwv
     obtain ⟨⟨z0wv,-,z2wv,-⟩,-⟩:=hMwv.world.cells
     refine hK.out _ _ (⟨z0wv,z2wv⟩) (fun hHeld=>?_)
     clear hK K
     try simp only [Act.put,List.setIfInBounds_toArray,List.set_cons_zero,List.set_cons_succ]
     refine Aa 12 hHeld ?_
     refine wpAnyH_done (by kernel_rfl) ?_ _
     clear hHeld x0wv x2wv y0wv y2wv z0wv z2wv hMdwv hbdwv hcrwv hDwv hFwv hcwv hbcwv hMcwv hbCwv htwv hbtwv hdwv hMwu hbwu hQwu hQdwv
     have hdwa : Below wv.heap.size wv wv.drew:=(Below.refl _ wv).drew
     have hMda:=hMwv.quiet hdwa
     have hbda : Below w.heap.size w wv.drew:=hbwv.drew
     obtain ⟨-,-,hfz,hez,sz,hAz⟩:=hMda.tab.stands
     have hflz:=Ea hfz
     obtain ⟨⟨-,x1a,x2a,-⟩,-⟩:=hMda.world.cells
     have hal:=alike_any wv.drew rz _ ps hAz hMda.ref.1 (hQwv.keepB hdwa) HPS.out (fun p hp=>by have:=hez p hp; unfold okP at this; omega) (by omega)
     clear hAz hez hfz
     go_wp2_with fail
     refine wp_region_held_drew (S:=fun W=>W.cell? ⟨x,1,none⟩=some (.pointer (some ⟨t,0,none⟩))∧W.cell? ⟨x,2,none⟩=some (.pointer (some ⟨rz,0,none⟩))) (by kernel_rfl) (⟨x1a,x2a⟩) (fun hHeld=>?_)
     refine Aa 0 hHeld ?_
     refine Aa 1 hHeld ?_
     refine Aa 2 hHeld ?_
     refine Aa 3 hHeld ?_
     refine Aa 4 hHeld ?_
     refine Aa 5 hHeld ?_
     refine Aa 6 hHeld ?_
     refine Aa 7 hHeld ?_
     refine Aa 8 hHeld ?_
     refine Al (i:=9) rfl (by kernel_rfl) rfl (fun K hK=>?_)
     go_simp
     refine hal.mono ?_
     rintro e wa ⟨rfl,hba⟩
     have hMwa:=hMda.quiet hba
     have hbwa:=hbda.trans (hba.mono hbda.size)
     obtain ⟨⟨-,z1a,z2a,-⟩,-⟩:=hMwa.world.cells
     refine hK.out _ _ (⟨z1a,z2a⟩) (fun hHeld=>?_)
     clear hK K
     try simp only [Act.put,List.setIfInBounds_toArray,List.set_cons_zero,List.set_cons_succ]
     refine Aa 10 hHeld ?_
     refine wpAnyH_done (by kernel_rfl) ?_ _
     clear hHeld hdwa hMda hbda x1a x2a hal hba z1a z2a hMwv hbwv hQwv
     obtain ⟨bad,most,last,hWa,hm1,hm2,hus⟩:=hMwa.world
     have hWa' : wa.drew.heap[x]? = some _:=hWa
     have x0a : wa.drew.cell? ⟨x,0,none⟩=some (.pointer (some ⟨d,0,none⟩)):=by rw [Ad hWa']; rfl
     have x4a : wa.drew.cell? ⟨x,4,none⟩=some (.bool tight):=by rw [Ad hWa']; rfl
     have x5a : wa.drew.cell? ⟨x,5,none⟩=some (.bool bad):=by rw [Ad hWa']; rfl
     have x6a : wa.drew.cell? ⟨x,6,none⟩=some (.int .i64 most):=by rw [Ad hWa']; rfl
     have x7a : wa.drew.cell? ⟨x,7,none⟩=some (.int .i64 last):=by rw [Ad hWa']; rfl
     have hdr : Below wa.heap.size wa wa.drew:=(Below.refl _ wa).drew
     have hMf:=hMwa.quiet hdr
     have hbf : Below w.heap.size w wa.drew:=hbwa.drew
     have HF:=Ab (And.intro hMf (And.intro hPz hbf))
     clear hWa hWa'
     cases bad with
     | true=>
      clear hMwa hMf hbf hbwa hus
      go_wp2_with fail
      refine wp_region_held_drew (S:=fun W=>W.cell? ⟨x,4,none⟩=some (.bool tight)∧W.cell? ⟨x,5,none⟩=some (.bool true)) (by kernel_rfl) (⟨x4a,x5a⟩) (fun hHeld=>?_)
      refine Aa 0 hHeld ?_
      refine Aa 1 hHeld ?_
      refine Aa 2 hHeld ?_
      refine Aa 3 hHeld ?_
      refine Aa 4 hHeld ?_
      refine Aa 5 hHeld ?_
      refine Aj 6 hHeld ?_
      refine Aj 7 hHeld ?_
      refine Aj 8 hHeld ?_
      refine Aj 9 hHeld ?_
      refine Aj 10 hHeld ?_
      refine Aa 11 hHeld ?_
      refine Aa 12 hHeld ?_
      refine Aj 13 hHeld ?_
      refine Aj 14 hHeld ?_
      refine Aj 15 hHeld ?_
      refine Aj 16 hHeld ?_
      refine Aj 17 hHeld ?_
      refine Aj 18 hHeld ?_
      refine Aj 19 hHeld ?_
      refine Aj 20 hHeld ?_
      refine Aj 21 hHeld ?_
      refine Aj 22 hHeld ?_
      refine Aj 23 hHeld ?_
      refine Aj 24 hHeld ?_
      refine Aj 25 hHeld ?_
      refine Aj 26 hHeld ?_
      refine Aj 27 hHeld ?_
      refine Aj 28 hHeld ?_
      refine Aj 29 hHeld ?_
      refine Aa 30 hHeld ?_
      refine wpAnyH_done (by kernel_rfl) ?_ _
      clear hHeld
      go_wp2
      go_roundw
      case rel=>exact ⟨j+1,g,t,bz,rz,Fz,Sz,lz,f,ks,tight,by go_num,by omega,by omega,HF.out.1,HF.out.2.1,HF.out.2.2⟩
      case measure=>simp [intOf]; omega
     | false=>
      cases tight with
      | true=>
       clear hMwa hMf hbf hbwa hus
       go_wp2_with fail
       refine wp_region_held_drew (S:=fun W=>W.cell? ⟨x,4,none⟩=some (.bool true)∧W.cell? ⟨x,5,none⟩=some (.bool false)) (by kernel_rfl) (⟨x4a,x5a⟩) (fun hHeld=>?_)
       refine Aa 0 hHeld ?_
       refine Aa 1 hHeld ?_
       refine Aa 2 hHeld ?_
       refine Aa 3 hHeld ?_
       refine Aa 4 hHeld ?_
       refine Aa 5 hHeld ?_
       refine Aa 6 hHeld ?_
       refine Aa 7 hHeld ?_
       refine Aa 8 hHeld ?_
       refine Aa 9 hHeld ?_
       refine Aa 10 hHeld ?_
       refine Aa 11 hHeld ?_
       refine Aa 12 hHeld ?_
       refine Aj 13 hHeld ?_
       refine Aj 14 hHeld ?_
       refine Aj 15 hHeld ?_
       refine Aj 16 hHeld ?_
       refine Aj 17 hHeld ?_
       refine Aj 18 hHeld ?_
       refine Aj 19 hHeld ?_
       refine Aj 20 hHeld ?_
       refine Aj 21 hHeld ?_
       refine Aj 22 hHeld ?_
       refine Aj 23 hHeld ?_
       refine Aj 24 hHeld ?_
       refine Aj 25 hHeld ?_
       refine Aj 26 hHeld ?_
       refine Aj 27 hHeld ?_
       refine Aj 28 hHeld ?_
       refine Aj 29 hHeld ?_
       refine Aa 30 hHeld ?_
       refine wpAnyH_done (by kernel_rfl) ?_ _
       clear hHeld
       go_wp2
       go_roundw
       case rel=>exact ⟨j+1,g,t,bz,rz,Fz,Sz,lz,f,ks,true,by go_num,by omega,by omega,HF.out.1,HF.out.2.1,HF.out.2.2⟩
       case measure=>simp [intOf]; omega
      | false=>
       have hby:=Ko hMf.tab.stands.1 (by have:=hPz.bulk; omega)
       have hus:=hus rfl
       have w1a : IntKind.i64.wrap (4 * most)=4 * most:=by rw [IntKind.wrap_i64]; omega
       have w2a : IntKind.i64.wrap (20000+4 * most)=20000+4 * most:=by rw [IntKind.wrap_i64]; omega
       have w3a : IntKind.i64.wrap (20000+4 * most+last)=20000+4 * most+last:=by rw [IntKind.wrap_i64]; omega
       have hgt : decide (20000+4 * most+last<(Sz.used : Int))=false:=decide_eq_false (by omega)
       clear hMwa hMf hbf hbwa hus hm1 hm2
       go_wp2_with fail
       refine wp_region_held_drew (S:=fun W=>W.cell? ⟨x,0,none⟩=some (.pointer (some ⟨d,0,none⟩))∧W.cell? ⟨x,4,none⟩=some (.bool false)∧W.cell? ⟨x,5,none⟩=some (.bool false)∧W.cell? ⟨x,6,none⟩=some (.int .i64 most)∧W.cell? ⟨x,7,none⟩=some (.int .i64 last)) (by kernel_rfl) (⟨x0a,x4a,x5a,x6a,x7a⟩) (fun hHeld=>?_)
       refine Aa 0 hHeld ?_
       refine Aa 1 hHeld ?_
       refine Aa 2 hHeld ?_
       refine Aa 3 hHeld ?_
       refine Aa 4 hHeld ?_
       refine Aa 5 hHeld ?_
       refine Aa 6 hHeld ?_
       refine Aa 7 hHeld ?_
       refine Aa 8 hHeld ?_
       refine Aa 9 hHeld ?_
       refine Aa 10 hHeld ?_
       refine Aa 11 hHeld ?_
       refine Aa 12 hHeld ?_
       refine Aa 13 hHeld ?_
       refine Aa 14 hHeld ?_
       refine Aa 15 hHeld ?_
       refine Aa 16 hHeld ?_
       refine Aa 18 hHeld ?_
       refine Aa 19 hHeld ?_
       refine Aa 20 hHeld ?_
       refine Aa 21 hHeld ?_
       refine Aa 22 hHeld ?_
       refine Aa 23 hHeld ?_
       refine Aa 24 hHeld ?_
       refine Aa 25 hHeld ?_
       refine Aa 26 hHeld ?_
       refine Aa 27 hHeld ?_
       refine Aa 28 hHeld ?_
       refine Al (i:=17) rfl (by kernel_rfl) rfl (fun K hK=>?_)
       go_simp
       refine hby.mono ?_
       rintro e wb ⟨rfl,hcb⟩
       have hbb : Below wa.drew.heap.size wa.drew wb:=hcb.below (fun _ h=>h.elim) (Nat.le_refl _)
       have hMb:=HF.out.1.quiet hbb
       have HG:=Ab (And.intro hMb (HF.out.2.2.trans (hbb.mono HF.out.2.2.size)))
       have y0:=D1 x0a hcb
       have y4:=D1 x4a hcb
       have y5:=D1 x5a hcb
       have y6:=D1 x6a hcb
       have y7:=D1 x7a hcb
       clear hMb hbb hby
       refine hK.out _ _ (⟨y0,y4,y5,y6,y7⟩) (fun hHeld=>?_)
       clear hK K
       try simp only [Act.put,List.setIfInBounds_toArray,List.set_cons_zero,List.set_cons_succ]
       refine Aa 29 hHeld ?_
       refine Aa 30 hHeld ?_
       refine wpAnyH_done (by kernel_rfl) ?_ _
       clear hHeld
       go_wp2
       go_roundw
       case rel=>exact ⟨j+1,g,t,bz,rz,Fz,Sz,lz,f,ks,false,by go_num,by omega,by omega,HG.out.1,HF.out.2.1,HG.out.2⟩
       case measure=>simp [intOf]; omega
  ·have hlt' : ¬ (j : Int)<(os.length : Int)∨(j : Int)<(os.length : Int)∧¬ (j : Int)<40:=by omega
   have hPz:=hP
   have hMwr:=hM
   have hbwr:=bb
   have hPb:=hPz.bulk
   clear hM bb hP
   generalize r=rz at *
   rcases hlt' with hl | ⟨hl,hl2⟩
   ·as_aux_lemma=>
     have hdwu : Below wr.heap.size wr wr.drew:=(Below.refl _ wr).drew
     have hMdwu:=hMwr.quiet hdwu
     have hbdwu : Below w.heap.size w wr.drew:=hbwr.drew
     obtain ⟨⟨x0wu,-,x2wu,-⟩,-⟩:=hMdwu.world.cells
     have hcrwu:=Hh hMdwu.tab hPz.bulk hbdwu.size (by omega) 0 0
     go_wp2_with fail
     refine wp_region_held_drew (S:=fun W=>W.cell? ⟨x,0,none⟩=some (.pointer (some ⟨d,0,none⟩))∧W.cell? ⟨x,2,none⟩=some (.pointer (some ⟨rz,0,none⟩))) (by kernel_rfl) (⟨x0wu,x2wu⟩) (fun hHeld=>?_)
     refine Aa 0 hHeld ?_
     refine Aa 1 hHeld ?_
     refine Aa 2 hHeld ?_
     refine Aa 3 hHeld ?_
     refine Aa 5 hHeld ?_
     refine Aa 6 hHeld ?_
     refine Aa 7 hHeld ?_
     refine Aa 8 hHeld ?_
     refine Al (i:=4) rfl (by kernel_rfl) rfl (fun K hK=>?_)
     go_simp
     refine hcrwu.mono ?_
     rintro e wcwu ⟨dcwu,Fcwu,Scwu,rfl,hDwu,hFwu,hcwu⟩
     have hbcwu : Below wr.drew.heap.size wr.drew wcwu:=hcwu.below (fun _ h=>h.elim) (Nat.le_refl _)
     have hMcwu:=hMdwu.quiet hbcwu
     have hbCwu:=hbdwu.trans (hbcwu.mono hbdwu.size)
     obtain ⟨⟨y0wu,-,y2wu,-⟩,-⟩:=hMcwu.world.cells
     refine hK.out _ _ (⟨y0wu,y2wu⟩) (fun hHeld=>?_)
     clear hK K
     try simp only [Act.put,List.setIfInBounds_toArray,List.set_cons_zero,List.set_cons_succ]
     refine Al (i:=9) rfl (by kernel_rfl) rfl (fun K hK=>?_)
     go_simp
     refine (Gv hDwu hbCwu.size hB0 (HT.out.keep hbCwu) (by omega) hMcwu.ref.1 (fun k hk e=>by
      have h1:=hFwu k e
      have h2:=(hMdwu.ref.2 k (hk.back hbcwu hMdwu.ref.1.lt)).1
      omega)).mono ?_
     rintro e wu ⟨rfl,htwu⟩
     have hbtwu : Below wr.drew.heap.size wr.drew wu:=(hcwu.trans htwu (fun k hk h=>by have:=hFwu k h; omega)).below (fun _ h=>h.elim) (Nat.le_refl _)
     have hMwu:=hMdwu.quiet hbtwu
     have hbwu:=hbdwu.trans (hbtwu.mono hbdwu.size)
     obtain ⟨⟨z0wu,-,z2wu,-⟩,-⟩:=hMwu.world.cells
     refine hK.out _ _ (⟨z0wu,z2wu⟩) (fun hHeld=>?_)
     clear hK K
     try simp only [Act.put,List.setIfInBounds_toArray,List.set_cons_zero,List.set_cons_succ]
     refine Aa 10 hHeld ?_
     refine wpAnyH_done (by kernel_rfl) ?_ _
     clear hHeld x0wu x2wu y0wu y2wu z0wu z2wu hMdwu hbdwu hcrwu hDwu hFwu hcwu hbcwu hMcwu hbCwu htwu hbtwu hdwu hMwr hbwr
     go_wp2
     go_ret
     exact ⟨rfl,hbwu⟩
   ·as_aux_lemma=>
     have hdwu : Below wr.heap.size wr wr.drew:=(Below.refl _ wr).drew
     have hMdwu:=hMwr.quiet hdwu
     have hbdwu : Below w.heap.size w wr.drew:=hbwr.drew
     obtain ⟨⟨x0wu,-,x2wu,-⟩,-⟩:=hMdwu.world.cells
     have hcrwu:=Hh hMdwu.tab hPz.bulk hbdwu.size (by omega) 0 0
     go_wp2_with fail
     refine wp_region_held_drew (S:=fun W=>W.cell? ⟨x,0,none⟩=some (.pointer (some ⟨d,0,none⟩))∧W.cell? ⟨x,2,none⟩=some (.pointer (some ⟨rz,0,none⟩))) (by kernel_rfl) (⟨x0wu,x2wu⟩) (fun hHeld=>?_)
     refine Aa 0 hHeld ?_
     refine Aa 1 hHeld ?_
     refine Aa 2 hHeld ?_
     refine Aa 3 hHeld ?_
     refine Aa 5 hHeld ?_
     refine Aa 6 hHeld ?_
     refine Aa 7 hHeld ?_
     refine Aa 8 hHeld ?_
     refine Al (i:=4) rfl (by kernel_rfl) rfl (fun K hK=>?_)
     go_simp
     refine hcrwu.mono ?_
     rintro e wcwu ⟨dcwu,Fcwu,Scwu,rfl,hDwu,hFwu,hcwu⟩
     have hbcwu : Below wr.drew.heap.size wr.drew wcwu:=hcwu.below (fun _ h=>h.elim) (Nat.le_refl _)
     have hMcwu:=hMdwu.quiet hbcwu
     have hbCwu:=hbdwu.trans (hbcwu.mono hbdwu.size)
     obtain ⟨⟨y0wu,-,y2wu,-⟩,-⟩:=hMcwu.world.cells
     refine hK.out _ _ (⟨y0wu,y2wu⟩) (fun hHeld=>?_)
     clear hK K
     try simp only [Act.put,List.setIfInBounds_toArray,List.set_cons_zero,List.set_cons_succ]
     refine Al (i:=9) rfl (by kernel_rfl) rfl (fun K hK=>?_)
     go_simp
     refine (Gv hDwu hbCwu.size hB0 (HT.out.keep hbCwu) (by omega) hMcwu.ref.1 (fun k hk e=>by
      have h1:=hFwu k e
      have h2:=(hMdwu.ref.2 k (hk.back hbcwu hMdwu.ref.1.lt)).1
      omega)).mono ?_
     rintro e wu ⟨rfl,htwu⟩
     have hbtwu : Below wr.drew.heap.size wr.drew wu:=(hcwu.trans htwu (fun k hk h=>by have:=hFwu k h; omega)).below (fun _ h=>h.elim) (Nat.le_refl _)
     have hMwu:=hMdwu.quiet hbtwu
     have hbwu:=hbdwu.trans (hbtwu.mono hbdwu.size)
     obtain ⟨⟨z0wu,-,z2wu,-⟩,-⟩:=hMwu.world.cells
     refine hK.out _ _ (⟨z0wu,z2wu⟩) (fun hHeld=>?_)
     clear hK K
     try simp only [Act.put,List.setIfInBounds_toArray,List.set_cons_zero,List.set_cons_succ]
     refine Aa 10 hHeld ?_
     refine wpAnyH_done (by kernel_rfl) ?_ _
     clear hHeld x0wu x2wu y0wu y2wu z0wu z2wu hMdwu hbdwu hcrwu hDwu hFwu hcwu hbcwu hMcwu hbCwu htwu hbtwu hdwu hMwr hbwr
     go_wp2
     go_ret
     exact ⟨rfl,hbwu⟩
end Go.Proofs.YtblniomnhpedjaaGreatDoor
