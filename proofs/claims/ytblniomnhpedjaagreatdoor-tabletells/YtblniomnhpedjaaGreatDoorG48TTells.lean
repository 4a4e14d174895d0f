/-
  TableTells, walked. Conditions: what came in lies there; the table of sums holds its numbers.
-/
import Derived.Test.YtblniomnhpedjaaGreatDoorG47WCrcMath
import Derived.Test.YtblniomnhpedjaaGreatDoorG45TNames
import Derived.Deep.CutBlock
import Derived.Deep.CutRange
import Derived.Deep.LoopGhost
namespace Go.Proofs.YtblniomnhpedjaaGreatDoor
open Go.RowKit
theorem turn_lies1 {B : Nat} {w : World} {F : Nat→Prop} {d : Nat} {S : Dk} (h : Bm B w F d S) (n : Nm) (at_ : Int) (b : UInt8) : Calls Tryz.prog 28 #[.pointer (some ⟨d,0,none⟩), .string (Ae n), .int .i64 at_, .int .u8 (b.toNat : Int)] w fun e w'=>e = .returned (.int .i64 (S.turn n at_ b).2)∧Bm B w' F d (S.turn n at_ b).1∧Chg F w w':=by
 obtain ⟨⟨G,hr⟩,h2,h3⟩:=h
 refine (turn_rep hr n at_ b).mono ?_
 rintro e w' ⟨rfl,hr',hc⟩
 have hs:=turn_same S n at_ b
 refine ⟨rfl,⟨⟨G,hr'⟩,fun k hk=>⟨(h2 k hk).1,Nat.lt_of_lt_of_le (h2 k hk).2 hc.size⟩,?_⟩,hc⟩
 unfold A2 at h3 ⊢
 rw [hs.2.1,hs.2.2]
 exact h3
set_option maxRecDepth 40000 in
set_option maxHeartbeats 6400000 in
theorem ttells_any (w : World) (vo : Value) (os : List OpT) (fi at_ : Int) (by_ : UInt8) (hv : OpsT w vo os) (hol : os.length≤140737488355328) (hf : FineT os) (hfi : -9223372036854775808≤fi∧fi≤9223372036854775807) (hat : -9223372036854775808≤at_∧at_≤9223372036854775807) (hB0 : 0<w.heap.size) (hT : Bi w) :
  Calls Tryz.prog 5 #[vo, .int .i64 fi, .int .i64 at_, .int .u8 (by_.toNat : Int)] w fun e w'=>e = .returned (.bool true)∧Below w.heap.size w w':=by
 have HT:=Ab hT
 have HV:=Ab hv
 obtain ⟨va,vc,rfl⟩:=hv.form
 have hsh:=shown_any w hB0 hT
 clear hT hv
 go_enter Tryz.func5,Tryz.ntmps5
 go_wp2_with fail
 refine hsh.mono ?_
 rintro e w1 ⟨rfl,hb1⟩
 have hbx:=begun_any w.heap.size w1 hB0 hb1.size (HT.out.keep hb1)
 clear hsh
 go_wp2_with fail
 refine hbx.mono ?_
 rintro e w2 ⟨x,d,t,b0,g,r0,F0,S0,rfl,hwx,hCx,hdx,hrx,hFx,hgx,htx,hbbx,hrs,hrx2,hxx,hb2⟩
 have hB2:=hb1.trans (hb2.mono hb1.size)
 have hz1:=hb1.size
 have hXr : ∀ k,(F0 k∨k=g∨k=t)→k<r0:=fun k hk=>by
  rcases hk with hk | rfl | rfl
  ·exact (hFx k hk).2
  ·exact hgx.2
  ·exact htx.2
 have hrow : ∀ k,Eh w2 r0 k→k=r0:=fun k hk=>by
  rcases hk with hk | ⟨u,hu,hk⟩
  ·exact hk
  ·rw [Ad hrx] at hu
   simp only [List.getElem?_toArray,List.getElem?_cons_zero] at hu
   injection hu with hu
   subst hu
   cases hk
 have hTW : TWorld w.heap.size w2 x d g t b0 r0 F0 S0 [] 1:=⟨⟨false,0,0,hwx,by omega,by omega⟩,hCx,rtab_none hrx,fun k hk=>by
  rcases hk with rfl | hk
  ·exact ⟨hxx,fun e=>by have:=hXr k e; omega⟩
  ·have:=hrow k hk
   subst this
   exact ⟨by omega,fun e=>by have:=hXr k e; omega⟩,fun k hk=>by have:=hrow k hk; omega,by omega⟩
 have HW:=Ab (And.intro hTW hB2)
 clear hbx hb1 hb2 hwx hCx hrx hFx hXr hrow hTW hB2 hdx
 go_upto_block 0 with fail
 go_cut [12] from 34 to 70 (fun ti wx=>∃ (b r : Nat) (F : Nat→Prop) (S : Dk) (lp : List Af),TWorld w.heap.size wx x d g t b r F S lp 22000001∧Below w.heap.size w wx)
 case first=>
  go_wp2_with fail
  go_loopw [12] (fun ti wr=>∃ (i b r : Nat) (F : Nat→Prop) (S : Dk) (lp : List Af),ti = .int .i64 i∧i≤os.length∧i≤10∧TWorld w.heap.size wr x d g t b r F S lp (1+i * 2200000)∧Below w.heap.size w wr)
   (fun ti _=>10 - (intOf ti).toNat)
  case atStart=>exact ⟨0,b0,r0,F0,S0,[],rfl,by omega,by omega,HW.out.1,HW.out.2⟩
  case round=>
   obtain ⟨i,b,r,F,S,lp,rfl,hi1,hi2,hTW,hB⟩:=hrel
   have HC:=Ab (And.intro hTW hB)
   by_cases hlt : i<os.length
   ·by_cases h10 : i<10
    ·have hq1 : decide ((i : Int)<(os.length : Int))=true:=decide_eq_true (by omega)
     have hq2 : decide ((i : Int)<10)=true:=decide_eq_true (by omega)
     obtain ⟨cb,coff,pv,rfl,hpv,c0,c1,c2,c3,c4⟩:=HV.out.at hB hlt
     have hfo:=hf os[i] (List.getElem_mem hlt)
     generalize os[i]=o at *
     have hpu:=lputs_any wr o.1 o.2.2.2.1 o.2.2.2.2 o.2.2.1 pv o.2.1 hpv hfo.2.1 hfo.2.2
     obtain ⟨pa,pc,rfl⟩:=hpv.form
     have hlow:=hTW.calm.low
     have hxl:=(hTW.apart x (.inl rfl)).1
     clear hTW hB hpv
     go_wp2_with fail
     refine hpu.mono ?_
     rintro e w3 ⟨u,ps,rfl,hps,hpl,hpb,hpo,hb3⟩
     have hTW3:=HC.out.1.quiet hb3
     have hB3:=HC.out.2.trans (hb3.mono HC.out.2.size)
     obtain ⟨hfit,heach,hri⟩:=hTW3.calm.fit
     have hrc:=Mn w3 r lp ps u hTW3.ref hri hfit hps (by omega)
     obtain ⟨bad,most,last,hw3,-⟩:=hTW3.world
     have x2:=Ad (show w3.heap[x]? = some _ from hw3) 2
     simp only [List.getElem?_toArray,List.getElem?_cons_zero,List.getElem?_cons_succ] at x2
     obtain ⟨ua,uc,rfl⟩:=hps.form
     have hvo : ∀ k,(Value.slice ua ps.length uc).ownBlock=some k→¬ (F k∨k=g∨k=t)∧k≠x:=fun k hk=>by
      have h1:=hpo k hk
      refine ⟨fun e=>?_,by omega⟩
      rcases e with e | e | e
      ·have:=hlow.1 k e; omega
      ·omega
      ·omega
     have H3:=Ab (And.intro hTW3 (And.intro hB3 (And.intro hps hvo)))
     clear hpu hb3 hTW3 hB3 hfit heach hri hw3 hps hpb hpo hvo hfo c0 c1 c2 c3 c4 hlow
     go_wp2_with fail
     refine hrc.mono ?_
     rintro e w4 ⟨r',rfl,hR',hrr,hb4,hown⟩
     have hTW4:=H3.out.1.quiet hb4
     have hly:=laylaw_calm hTW4 (H3.out.2.2.1.keepB hb4) (by omega) H3.out.2.2.2 hB0 (HT.out.keep (H3.out.2.1.trans (hb4.mono H3.out.2.1.size))) (by have : Dx=67108864:=rfl; omega)
     have H4:=Ab (And.intro hR' (And.intro hrr (And.intro hb4 hown)))
     clear hrc hR' hrr hb4 hown hTW4 x2
     go_wp2_with fail
     refine hly.mono ?_
     rintro e w5 ⟨ok,rfl,hW5,F5,b5,S5,hC5,hF5,hc5⟩
     have hTW6:=H3.out.1.next H4.out.2.2.1 H4.out.1 H4.out.2.1 H4.out.2.2.2 hW5 hC5 hF5 hc5
     have hB4:=H3.out.2.1.trans (H4.out.2.2.1.mono H3.out.2.1.size)
     have hlow:=H3.out.1.calm.low
     have hB5 : Below w.heap.size w4 w5:=hc5.below (fun k hk=>by
      rcases hk with e | e | e | e
      ·exact (hlow.1 k e).1
      ·rw [e]; exact hlow.2.1.1
      ·rw [e]; exact hlow.2.2.1.1
      ·rw [e]; exact H3.out.1.low) hB4.size
     have hB6:=(hB4.trans hB5).setCell (p:=⟨x,2,none⟩) H3.out.1.low (.pointer (some ⟨r',0,none⟩))
     obtain ⟨bad5,most5,last5,hw5,-⟩:=hW5
     have x2:=Ad (show w5.heap[x]? = some _ from hw5) 2
     have z2:=Au (show w5.heap[x]? = some _ from hw5) 2
     simp only [List.getElem?_toArray,List.getElem?_cons_zero,List.getElem?_cons_succ] at x2
     have hAA : (Bg lp ps != Bg lp ps)=false:=by simp
     have H6:=Ab (And.intro hTW6 hB6)
     clear hly hC5 hF5 hc5 hTW6 hB4 hlow hB5 hB6 hw5
     generalize Bg lp ps=A at *
     go_wp2_with fail
     go_roundw
     case rel=>exact ⟨i+1,b5,r',F5,S5,Ck lp ps,by go_num,by omega,by omega,⟨H6.out.1.world,H6.out.1.calm.more (by omega),H6.out.1.ref,H6.out.1.apart,H6.out.1.other,H6.out.1.low⟩,H6.out.2⟩
     case measure=>simp [intOf]; omega
    ·have hq1 : decide ((i : Int)<(os.length : Int))=true:=decide_eq_true (by omega)
     have hq2 : decide ((i : Int)<10)=false:=decide_eq_false (by omega)
     clear hTW hB
     go_wp2_with fail
     go_meet
     exact ⟨b,r,F,S,lp,⟨HC.out.1.world,HC.out.1.calm.more (by omega),HC.out.1.ref,HC.out.1.apart,HC.out.1.other,HC.out.1.low⟩,HC.out.2⟩
   ·have hq1 : decide ((i : Int)<(os.length : Int))=false:=decide_eq_false (by omega)
    clear hTW hB
    go_wp2_with fail
    go_meet
    exact ⟨b,r,F,S,lp,⟨HC.out.1.world,HC.out.1.calm.more (by omega),HC.out.1.ref,HC.out.1.apart,HC.out.1.other,HC.out.1.low⟩,HC.out.2⟩
 case rest=>
  obtain ⟨b,r,F,S,lp,hTW,hB⟩:=hcut
  obtain ⟨hst,hbk,hcm⟩:=hTW.calm.stands
  have hnm:=Ox hst (by omega)
  obtain ⟨bad,most,last,hw,-⟩:=hTW.world
  have x0:=Ad (show wc.heap[x]? = some _ from hw) 0
  simp only [List.getElem?_toArray,List.getElem?_cons_zero] at x0
  have HC:=Ab (And.intro hTW (And.intro hB (And.intro hst (And.intro hbk hcm))))
  clear hTW hB hst hw hcm
  go_wp2_with fail
  refine hnm.mono ?_
  rintro e w3 ⟨vn,rfl,hrow,hst3,q3,hdl⟩
  obtain ⟨na,nc,rfl,-⟩:=Aw hrow
  clear hnm
  by_cases hd0 : S.dir.length=0
  ·have hq : ((S.dir.length : Int) == 0)=true:=by simp [hd0]
   clear hrow hst3
   go_wp2
   go_ret
   exact ⟨rfl,HC.out.2.1.trans (q3.below (fun _ h=>h.elim) HC.out.2.1.size)⟩
  ·have hq : ((S.dir.length : Int) == 0)=false:=by rw [beq_eq_false_iff_ne]; omega
   have hTW3:=HC.out.1.quiet (q3.below (fun _ h=>h.elim) (Nat.le_refl _))
   have hB3:=HC.out.2.1.trans (q3.below (fun _ h=>h.elim) HC.out.2.1.size)
   obtain ⟨L,sure,gs,h1,⟨⟨hn,tail,ho,-,-⟩,hto,-⟩,hcm,hbk2,-⟩:=HC.out.1.calm
   have hok:=hst3.ok
   obtain ⟨hp0,hp1⟩:=Ja (c:=fi) (n:=(S.dir.length : Int)) (by omega)
   have hpk:=fun W=>pick_big W fi (S.dir.length : Int) hfi (by omega)
   obtain ⟨q,hqq⟩:=Int.eq_ofNat_of_zero_le hp0
   rw [hqq] at hpk hp1
   have hql : q<S.dir.length:=by omega
   obtain ⟨fz,hfz⟩:=names_look hok hql
   have hsz:=size_look hfz
   obtain ⟨nm,hnme⟩ : ∃ nm,(S.dir[q]).1=nm:=⟨_,rfl⟩
   rw [hnme] at hfz hsz
   have hcells:=fun g hg=>World.ownsRow.cells hrow (g:=g) hg
   obtain ⟨ba,hba⟩ : ∃ ba,na=some ⟨ba,0,none⟩:=by
    rcases hrow.2 with ⟨e1,-⟩ | ⟨g,cap,cur,e1,-⟩
    ·injection e1 with e1 e2 e3
     omega
    ·injection e1 with e1 e2 e3
     exact ⟨g,e1⟩
   subst hba
   have hcq : w3.cell? ⟨ba,q,none⟩=some (.string (Ae nm)):=by
    have:=hcells ba rfl q (.string (Ae nm)) (by unfold tc; simp [hql,hnme])
    simpa [Addr.add_lit] using this
   have hsl:=Ht hst3 nm
   rw [hsz] at hsl
   obtain ⟨bad3,most3,last3,hw3,-⟩:=hTW3.world
   have y0:=Ad (show w3.heap[x]? = some _ from hw3) 0
   simp only [List.getElem?_toArray,List.getElem?_cons_zero] at y0
   have H3:=Ab (And.intro hTW3 (And.intro hB3 (And.intro hst3 (And.intro ho (And.intro hto hcm)))))
   clear hcells hrow hnme hqq hsz hTW3 hB3 hst3 ho hto hcm h1 hn hw3 x0 q3 hok
   go_wp2_with fail
   refine (hpk _).mono ?_
   rintro e w4 ⟨rfl,hw4⟩
   rw [hw4]
   clear hw4 w4 hpk
   go_wp2_with fail
   refine hsl.mono ?_
   rintro e w4 ⟨rfl,hw4⟩
   rw [hw4]
   clear hw4 w4
   by_cases hy : (S.bytes fz).length=0
   ·have hy' : (((S.bytes fz).length : Int) == 0)=true:=by simp [hy]
    go_wp2
    go_ret
    exact ⟨rfl,H3.out.2.1⟩
   ·have hy' : (((S.bytes fz).length : Int) == 0)=false:=by rw [beq_eq_false_iff_ne]; omega
    have hbl : (S.bytes fz).length≤S.bulk:=Lt S fz
    obtain ⟨ht0,ht1⟩:=Ja (c:=at_) (n:=((S.bytes fz).length : Int)) (by omega)
    have hpk:=fun W=>pick_big W at_ ((S.bytes fz).length : Int) hat (by omega)
    generalize pk at_ ((S.bytes fz).length : Int)=tq2 at *
    have hdr : Chg (fun _=>False) w3 w3.drew:=(Chg.refl _ w3).drew
    have htu:=turn_lies1 (H3.out.2.2.1.keep hdr (fun _ _ h=>h)) nm tq2 by_
    have htz:=turn_zero by_ hfz ht0 ht1
    rw [htz] at htu
    have hlk:=look_turn (n:=nm) H3.out.2.2.2.1 (isLg_nm Hi).1 (Ff H3.out.2.2.2.2.2) (H3.out.2.2.2.2.2.2 _) tq2 by_
    have hbu:=turn_bulk S nm tq2 by_
    have hct:=calm_turn H3.out.2.2.2.2.2 nm tq2 by_
    clear htz ht0 ht1
    go_wp2_with fail
    refine wp_region_held_drew (S:=fun W=>W.cell? ⟨x,0,none⟩=some (.pointer (some ⟨d,0,none⟩))) (by kernel_rfl) (y0) (fun hHeld=>?_)
    refine Aa (i:=0) (v:=?_) rfl (by kernel_rfl) (by kernel_rfl) (by kernel_rfl) (fun _ _ _ h=>h) rfl ?_ hHeld ?_
    rotate_left
    ·intro w hS; (try dsimp only at hS); obtain hS0:=hS; go_simp; first | done | (with_reducible rfl)
    try simp only [Act.put,List.setIfInBounds_toArray,List.set_cons_zero,List.set_cons_succ]
    refine Aa (i:=1) (v:=?_) rfl (by kernel_rfl) (by kernel_rfl) (by kernel_rfl) (fun _ _ _ h=>h) rfl ?_ hHeld ?_
    rotate_left
    ·intro w hS; (try dsimp only at hS); obtain hS0:=hS; go_simp; first | done | (with_reducible rfl)
    try simp only [Act.put,List.setIfInBounds_toArray,List.set_cons_zero,List.set_cons_succ]
    refine Aa (i:=2) (v:=?_) rfl (by kernel_rfl) (by kernel_rfl) (by kernel_rfl) (fun _ _ _ h=>h) rfl ?_ hHeld ?_
    rotate_left
    ·intro w hS; (try dsimp only at hS); obtain hS0:=hS; go_simp; first | done | (with_reducible rfl)
    try simp only [Act.put,List.setIfInBounds_toArray,List.set_cons_zero,List.set_cons_succ]
    refine Aa (i:=3) (v:=?_) rfl (by kernel_rfl) (by kernel_rfl) (by kernel_rfl) (fun _ _ _ h=>h) rfl ?_ hHeld ?_
    rotate_left
    ·intro w hS; (try dsimp only at hS); obtain hS0:=hS; go_simp; first | done | (with_reducible rfl)
    try simp only [Act.put,List.setIfInBounds_toArray,List.set_cons_zero,List.set_cons_succ]
    refine Aa (i:=4) (v:=?_) rfl (by kernel_rfl) (by kernel_rfl) (by kernel_rfl) (fun _ _ _ h=>h) rfl ?_ hHeld ?_
    rotate_left
    ·intro w hS; (try dsimp only at hS); obtain hS0:=hS; go_simp; first | done | (with_reducible rfl)
    try simp only [Act.put,List.setIfInBounds_toArray,List.set_cons_zero,List.set_cons_succ]
    refine Aa (i:=5) (v:=?_) rfl (by kernel_rfl) (by kernel_rfl) (by kernel_rfl) (fun _ _ _ h=>h) rfl ?_ hHeld ?_
    rotate_left
    ·intro w hS; (try dsimp only at hS); obtain hS0:=hS; go_simp; first | done | (with_reducible rfl)
    try simp only [Act.put,List.setIfInBounds_toArray,List.set_cons_zero,List.set_cons_succ]
    refine Aa (i:=6) (v:=?_) rfl (by kernel_rfl) (by kernel_rfl) (by kernel_rfl) (fun _ _ _ h=>h) rfl ?_ hHeld ?_
    rotate_left
    ·intro w hS; (try dsimp only at hS); obtain hS0:=hS; go_simp; first | done | (with_reducible rfl)
    try simp only [Act.put,List.setIfInBounds_toArray,List.set_cons_zero,List.set_cons_succ]
    refine Aa (i:=7) (v:=?_) rfl (by kernel_rfl) (by kernel_rfl) (by kernel_rfl) (fun _ _ _ h=>h) rfl ?_ hHeld ?_
    rotate_left
    ·intro w hS; (try dsimp only at hS); obtain hS0:=hS; go_simp; first | done | (with_reducible rfl)
    try simp only [Act.put,List.setIfInBounds_toArray,List.set_cons_zero,List.set_cons_succ]
    refine Aa (i:=8) (v:=?_) rfl (by kernel_rfl) (by kernel_rfl) (by kernel_rfl) (fun _ _ _ h=>h) rfl ?_ hHeld ?_
    rotate_left
    ·intro w hS; (try dsimp only at hS); obtain hS0:=hS; go_simp; first | done | (with_reducible rfl)
    try simp only [Act.put,List.setIfInBounds_toArray,List.set_cons_zero,List.set_cons_succ]
    refine Aa (i:=9) (v:=?_) rfl (by kernel_rfl) (by kernel_rfl) (by kernel_rfl) (fun _ _ _ h=>h) rfl ?_ hHeld ?_
    rotate_left
    ·intro w hS; (try dsimp only at hS); obtain hS0:=hS; go_simp; first | done | (with_reducible rfl)
    try simp only [Act.put,List.setIfInBounds_toArray,List.set_cons_zero,List.set_cons_succ]
    refine Aa (i:=10) (v:=?_) rfl (by kernel_rfl) (by kernel_rfl) (by kernel_rfl) (fun _ _ _ h=>h) rfl ?_ hHeld ?_
    rotate_left
    ·intro w hS; (try dsimp only at hS); obtain hS0:=hS; go_simp; first | done | (with_reducible rfl)
    try simp only [Act.put,List.setIfInBounds_toArray,List.set_cons_zero,List.set_cons_succ]
    refine Aa (i:=13) (v:=?_) rfl (by kernel_rfl) (by kernel_rfl) (by kernel_rfl) (fun _ _ _ h=>h) rfl ?_ hHeld ?_
    rotate_left
    ·intro w hS; (try dsimp only at hS); obtain hS0:=hS; go_simp; first | done | (with_reducible rfl)
    try simp only [Act.put,List.setIfInBounds_toArray,List.set_cons_zero,List.set_cons_succ]
    refine Am (i:=11) rfl (by kernel_rfl) rfl (fun K hK=>?_)
    go_simp
    have hsl2:=Ht (H3.out.2.2.1.keep hdr (fun _ _ h=>h)) nm
    rw [size_look hfz] at hsl2
    refine hsl2.mono ?_
    rintro e w4 ⟨rfl,rfl⟩
    refine hK.out _ _ (y0) (fun hHeld=>?_)
    clear hK K
    try simp only [Act.put,List.setIfInBounds_toArray,List.set_cons_zero,List.set_cons_succ]
    refine Am (i:=12) rfl (by kernel_rfl) rfl (fun K hK=>?_)
    go_simp
    refine (hpk _).mono ?_
    rintro e w4 ⟨rfl,rfl⟩
    refine hK.out _ _ (y0) (fun hHeld=>?_)
    clear hK K
    try simp only [Act.put,List.setIfInBounds_toArray,List.set_cons_zero,List.set_cons_succ]
    refine Am (i:=14) rfl (by kernel_rfl) rfl (fun K hK=>?_)
    go_simp
    refine htu.mono ?_
    rintro e w11 ⟨rfl,hst11,hc11⟩
    have hc11' : Chg F w3 w11:=((Chg.refl _ w3).drew).then hc11
    obtain ⟨bad4,most4,last4,hw3,-⟩:=H3.out.1.world
    have hxF:=(H3.out.1.apart x (.inl rfl)).2
    have hrF:=(H3.out.1.apart r (.inr (.inl rfl))).2
    have hlow:=H3.out.1.calm.low
    have hrl:=H3.out.1.ref.lt
    have hxl:=(H3.out.1.apart x (.inl rfl)).1
    have hw11:=hc11'.keep (show w3.heap[x]? = some _ from hw3) (fun e=>hxF (.inl e))
    have hR11:=H3.out.1.ref.keepX hc11' (fun e=>hrF (.inl e)) (fun u hu k hk e=>(H3.out.1.apart k (.inr (.inr ⟨u,hu,hk⟩))).2 (.inl e))
    have hrow11 : ∀ u,w11.cell? ⟨r,0,none⟩=some u→∀ k,u.ownBlock=some k→k<w3.heap.size∧¬ F k:=fun u hu k hk=>by
     have e : w3.cell? ⟨r,0,none⟩=some u:=by
      rw [← hu]
      exact (World.cell?_of_block (w:=w3) (a:=⟨r,0,none⟩) (hc11'.block r hrl (fun e=>hrF (.inl e)))).symm
     have:=H3.out.1.apart k (.inr (.inr ⟨u,e,hk⟩))
     exact ⟨this.1,fun e=>this.2 (.inl e)⟩
    have hB11 : Below w.heap.size w w11:=H3.out.2.1.trans (hc11'.below (fun k hk=>(hlow.1 k hk).1) H3.out.2.1.size)
    have hz11:=hc11'.size
    have y11:=Ad hw11 0
    simp only [List.getElem?_toArray,List.getElem?_cons_zero] at y11
    clear hc11 htu hsl hsl2 hpk hfz hbl hcq hw3 hy hy' y0 hq hd0 hp0 hp1 hql hdl
    refine hK.out _ _ (y11) (fun hHeld=>?_)
    clear hK K
    try simp only [Act.put,List.setIfInBounds_toArray,List.set_cons_zero,List.set_cons_succ]
    refine Aa (i:=15) (v:=?_) rfl (by kernel_rfl) (by kernel_rfl) (by kernel_rfl) (fun _ _ _ h=>h) rfl ?_ hHeld ?_
    rotate_left
    ·intro w hS; (try dsimp only at hS); obtain hS0:=hS; go_simp; first | done | (with_reducible rfl)
    try simp only [Act.put,List.setIfInBounds_toArray,List.set_cons_zero,List.set_cons_succ]
    refine wpAnyH_done (by kernel_rfl) ?_ _
    clear hHeld
    generalize (S.turn nm tq2 by_).1=T at *
    have hop:=Kc hst11 hB11.size hB0 (HT.out.keep hB11) (by omega) D3 Hi (fun y hy g hg=>by
     rcases hlk with ⟨p1,p2,e⟩ | ⟨e,-⟩
     ·rw [e] at hy
      injection hy with hy
      subst hy
      exact Mo H3.out.2.2.2.1.1 g hg
     ·rw [e] at hy
      cases hy)
    have hop : Calls Tryz.prog 14 #[.pointer (some ⟨d,0,none⟩), .string ⟨#[116,97,98]⟩] w11 _:=hop
    have H11:=Ab (And.intro hw11 (And.intro hR11 (And.intro hrow11 hB11)))
    clear hw11 hR11 hrow11 hB11 hc11'
    go_wp2_with fail
    refine hop.mono ?_
    rintro e w12 hO
    unfold Fd at hO
    clear hop
    rcases hlk with ⟨p1,p2,hlk⟩ | ⟨hlk,hbz⟩
    ·rw [hlk] at hO
     simp only [H3.out.2.2.2.2.1] at hO
     obtain ⟨t2,b2,g2,F2,rfl,hL2,hF2,-,-,-,hc12⟩:=hO
     have hlk2 : Cc T.begun D3=(0,some (gs,p1,p2)):=(look_begun hct _).trans hlk
     have hz12:=hc12.size
     have hw12:=hc12.keep (show w11.heap[x]? = some _ from H11.out.1) (fun e=>hxF (.inl e))
     have hR12:=H11.out.2.1.keepX hc12 (fun e=>hrF (.inl e)) (fun u hu k hk e=>(H11.out.2.2.1 u hu k hk).2 e)
     have hcr : w12.cell? ⟨r,0,none⟩=w11.cell? ⟨r,0,none⟩:=World.cell?_of_block (w:=w11) (a:=⟨r,0,none⟩) (hc12.block r H11.out.2.1.lt (fun e=>hrF (.inl e)))
     have hB12 : Below w.heap.size w w12:=H11.out.2.2.2.trans (hc12.below (fun k hk=>(hlow.1 k hk).1) H11.out.2.2.2.size)
     have hdr2 : Chg (fun _=>False) w12 w12.drew:=(Chg.refl _ w12).drew
     have hbb:=Fj T
     have hF2x : ∀ k,k<w3.heap.size→¬ F k→¬ F2 k:=fun k h1 h2 e=>by
      rcases hF2 k e with e | e
      ·exact h2 e
      ·omega
     have htd:=told_any (hL2.log.1.keep hdr2 (fun _ _ h=>h)) hlk2 (Mo H3.out.2.2.2.1.1) H3.out.2.2.2.2.1 hB12.size hB0 (HT.out.keep (hB12.trans (hdr2.below (fun _ h=>h.elim) hB12.size))) (by omega) (hR12.keepX hdr2 (fun h=>h) (fun _ _ _ _ h=>h)) (hF2x r hrl (fun e=>hrF (.inl e))) (fun u hu k hk=>by
      have hu' : w11.cell? ⟨r,0,none⟩=some u:=by rw [← hcr]; exact hu
      have:=H11.out.2.2.1 u hu' k hk
      exact hF2x k this.1 this.2)
     rw [decide_eq_true rfl] at htd
     have x0:=Ad hw12 0
     have x2:=Ad hw12 2
     simp only [List.getElem?_toArray,List.getElem?_cons_zero,List.getElem?_cons_succ] at x0 x2
     have H12:=Ab (And.intro hw12 (And.intro hB12 (And.intro (hF2x x hxl (fun e=>hxF (.inl e))) (fun k hk=>(hL2.log.1.2.1 k hk).1))))
     clear hL2 hF2 hc12 hlk2 hw12 hR12 hcr hB12 hF2x hdr2 hlk
     go_wp2_with fail
     refine wp_region_held_drew (S:=fun W=>W.cell? ⟨x,0,none⟩=some (.pointer (some ⟨d,0,none⟩))∧W.cell? ⟨x,2,none⟩=some (.pointer (some ⟨r,0,none⟩))) (by kernel_rfl) (⟨x0,x2⟩) (fun hHeld=>?_)
     refine Aa (i:=0) (v:=?_) rfl (by kernel_rfl) (by kernel_rfl) (by kernel_rfl) (fun _ _ _ h=>h) rfl ?_ hHeld ?_
     rotate_left
     ·intro w hS; (try dsimp only at hS); obtain ⟨hS0,hS1⟩:=hS; go_simp; first | done | (with_reducible rfl)
     try simp only [Act.put,List.setIfInBounds_toArray,List.set_cons_zero,List.set_cons_succ]
     refine Aa (i:=1) (v:=?_) rfl (by kernel_rfl) (by kernel_rfl) (by kernel_rfl) (fun _ _ _ h=>h) rfl ?_ hHeld ?_
     rotate_left
     ·intro w hS; (try dsimp only at hS); obtain ⟨hS0,hS1⟩:=hS; go_simp; first | done | (with_reducible rfl)
     try simp only [Act.put,List.setIfInBounds_toArray,List.set_cons_zero,List.set_cons_succ]
     refine Aa (i:=2) (v:=?_) rfl (by kernel_rfl) (by kernel_rfl) (by kernel_rfl) (fun _ _ _ h=>h) rfl ?_ hHeld ?_
     rotate_left
     ·intro w hS; (try dsimp only at hS); obtain ⟨hS0,hS1⟩:=hS; go_simp; first | done | (with_reducible rfl)
     try simp only [Act.put,List.setIfInBounds_toArray,List.set_cons_zero,List.set_cons_succ]
     refine Aa (i:=3) (v:=?_) rfl (by kernel_rfl) (by kernel_rfl) (by kernel_rfl) (fun _ _ _ h=>h) rfl ?_ hHeld ?_
     rotate_left
     ·intro w hS; (try dsimp only at hS); obtain ⟨hS0,hS1⟩:=hS; go_simp; first | done | (with_reducible rfl)
     try simp only [Act.put,List.setIfInBounds_toArray,List.set_cons_zero,List.set_cons_succ]
     refine Aa (i:=4) (v:=?_) rfl (by kernel_rfl) (by kernel_rfl) (by kernel_rfl) (fun _ _ _ h=>h) rfl ?_ hHeld ?_
     rotate_left
     ·intro w hS; (try dsimp only at hS); obtain ⟨hS0,hS1⟩:=hS; go_simp; first | done | (with_reducible rfl)
     try simp only [Act.put,List.setIfInBounds_toArray,List.set_cons_zero,List.set_cons_succ]
     refine Aa (i:=5) (v:=?_) rfl (by kernel_rfl) (by kernel_rfl) (by kernel_rfl) (fun _ _ _ h=>h) rfl ?_ hHeld ?_
     rotate_left
     ·intro w hS; (try dsimp only at hS); obtain ⟨hS0,hS1⟩:=hS; go_simp; first | done | (with_reducible rfl)
     try simp only [Act.put,List.setIfInBounds_toArray,List.set_cons_zero,List.set_cons_succ]
     refine Aa (i:=6) (v:=?_) rfl (by kernel_rfl) (by kernel_rfl) (by kernel_rfl) (fun _ _ _ h=>h) rfl ?_ hHeld ?_
     rotate_left
     ·intro w hS; (try dsimp only at hS); obtain ⟨hS0,hS1⟩:=hS; go_simp; first | done | (with_reducible rfl)
     try simp only [Act.put,List.setIfInBounds_toArray,List.set_cons_zero,List.set_cons_succ]
     refine Aa (i:=7) (v:=?_) rfl (by kernel_rfl) (by kernel_rfl) (by kernel_rfl) (fun _ _ _ h=>h) rfl ?_ hHeld ?_
     rotate_left
     ·intro w hS; (try dsimp only at hS); obtain ⟨hS0,hS1⟩:=hS; go_simp; first | done | (with_reducible rfl)
     try simp only [Act.put,List.setIfInBounds_toArray,List.set_cons_zero,List.set_cons_succ]
     refine Aa (i:=8) (v:=?_) rfl (by kernel_rfl) (by kernel_rfl) (by kernel_rfl) (fun _ _ _ h=>h) rfl ?_ hHeld ?_
     rotate_left
     ·intro w hS; (try dsimp only at hS); obtain ⟨hS0,hS1⟩:=hS; go_simp; first | done | (with_reducible rfl)
     try simp only [Act.put,List.setIfInBounds_toArray,List.set_cons_zero,List.set_cons_succ]
     refine Aa (i:=9) (v:=?_) rfl (by kernel_rfl) (by kernel_rfl) (by kernel_rfl) (fun _ _ _ h=>h) rfl ?_ hHeld ?_
     rotate_left
     ·intro w hS; (try dsimp only at hS); obtain ⟨hS0,hS1⟩:=hS; go_simp; first | done | (with_reducible rfl)
     try simp only [Act.put,List.setIfInBounds_toArray,List.set_cons_zero,List.set_cons_succ]
     refine Aa (i:=10) (v:=?_) rfl (by kernel_rfl) (by kernel_rfl) (by kernel_rfl) (fun _ _ _ h=>h) rfl ?_ hHeld ?_
     rotate_left
     ·intro w hS; (try dsimp only at hS); obtain ⟨hS0,hS1⟩:=hS; go_simp; first | done | (with_reducible rfl)
     try simp only [Act.put,List.setIfInBounds_toArray,List.set_cons_zero,List.set_cons_succ]
     refine Am (i:=11) rfl (by kernel_rfl) rfl (fun K hK=>?_)
     go_simp
     refine htd.mono ?_
     rintro e w13 ⟨rfl,F13,hst13,hF13,hc13⟩
     have hw13:=hc13.keep (show w12.drew.heap[x]? = some _ from H12.out.1) H12.out.2.2.1
     have z0:=Ad hw13 0
     have z2:=Ad hw13 2
     simp only [List.getElem?_toArray,List.getElem?_cons_zero,List.getElem?_cons_succ] at z0 z2
     have hB13 : Below w.heap.size w w13:=(H12.out.2.1.drew).trans (hc13.below (fun k hk=>H12.out.2.2.2 k hk) H12.out.2.1.size)
     have H13:=Ab hB13
     clear hw13 hB13 hc13 hst13 hF13 htd
     refine hK.out _ _ (⟨z0,z2⟩) (fun hHeld=>?_)
     clear hK K
     try simp only [Act.put,List.setIfInBounds_toArray,List.set_cons_zero,List.set_cons_succ]
     refine Aa (i:=12) (v:=?_) rfl (by kernel_rfl) (by kernel_rfl) (by kernel_rfl) (fun _ _ _ h=>h) rfl ?_ hHeld ?_
     rotate_left
     ·intro w hS; (try dsimp only at hS); obtain ⟨hS0,hS1⟩:=hS; go_simp; first | done | (with_reducible rfl)
     try simp only [Act.put,List.setIfInBounds_toArray,List.set_cons_zero,List.set_cons_succ]
     refine Aa (i:=13) (v:=?_) rfl (by kernel_rfl) (by kernel_rfl) (by kernel_rfl) (fun _ _ _ h=>h) rfl ?_ hHeld ?_
     rotate_left
     ·intro w hS; (try dsimp only at hS); obtain ⟨hS0,hS1⟩:=hS; go_simp; first | done | (with_reducible rfl)
     try simp only [Act.put,List.setIfInBounds_toArray,List.set_cons_zero,List.set_cons_succ]
     refine wpAnyH_done (by kernel_rfl) ?_ _
     clear hHeld
     go_wp2
     go_ret
     exact ⟨rfl,H13.out⟩
    ·rw [hlk] at hO
     obtain ⟨rfl,F2,hst2,hF2,hc12⟩:=hO
     have hbz' : (((by_.toNat : Nat) : Int) != 0)=true:=by
      have : by_.toNat≠0:=fun e=>hbz (UInt8.toNat_inj.1 e)
      simp only [bne_iff_ne,ne_eq]
      omega
     have hB12 : Below w.heap.size w w12:=H11.out.2.2.2.trans (hc12.below (fun k hk=>(hlow.1 k hk).1) H11.out.2.2.2.size)
     have h132 : oursT 52=132:=rfl
     rw [h132]
     clear hst2 hF2 hc12 hlk
     go_wp2
     go_ret
     exact ⟨rfl,hB12⟩
end Go.Proofs.YtblniomnhpedjaaGreatDoor
