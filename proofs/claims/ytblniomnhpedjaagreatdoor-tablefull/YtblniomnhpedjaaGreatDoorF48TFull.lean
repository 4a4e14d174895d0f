/-
  TableFull, walked. Conditions: the numbers are ints; the table of sums holds its numbers.
-/
import Derived.Test.YtblniomnhpedjaaGreatDoorF47WCrcMath
import Derived.Test.YtblniomnhpedjaaGreatDoorF36TNames
import Derived.Test.YtblniomnhpedjaaGreatDoorF40TBegun
import Derived.BigRegion
import Derived.Deep.CutBlock
import Derived.Deep.CutRange
import Derived.Deep.LoopGhost
namespace Go.Proofs.YtblniomnhpedjaaGreatDoor
open Go.RowKit
theorem Tryz.info8T : (Tryz.prog.info? 5).map (fun i=>(i.zero,i.size,i.bytes))=some (some (.int .u8 0),1,1):=by kernel_rfl
theorem K2 (W : World) (n : Nat) (hn : n≤5000) : ∃ M : Array Value,(Instr.makeSlice 68 (.int .i64 (n : Int)) (.int .i64 (n : Int))).run Tryz.prog W = .ok (.slice (some ⟨W.heap.size,0,none⟩) n n) (W.alloc (.cells M 5)) ∧
  (convert 68 9 (.slice (some ⟨W.heap.size,0,none⟩) n n)).run Tryz.prog (W.alloc (.cells M 5)) = .ok (.string (Ad (List.replicate n 0))) (W.alloc (.cells M 5)):=by
 obtain ⟨i0,hi,hz0,hz1,hz2⟩:=info_parts Tryz.info8T
 refine ⟨madeCells (Value.int .u8 0).cells (((n : Nat) : Int).toNat * i0.size),?_,?_⟩
 ·have h:=run_make (P:=Tryz.prog) W 68 5 i0 (.int .u8 0) Tryz.underlying68 hi hz0 .i64 .i64 (n : Int) (n : Int) (by omega) (by omega) (by rw [hz2]; omega) (by omega)
  simpa using h
 ·refine Ex _ _ _ ⟨some ⟨W.heap.size,0,none⟩,n,by simp,by simp,by unfold maxLen; omega,(fun h=>by cases h),fun _=>⟨W.heap.size,0,rfl,by simp,fun j hj=>?_⟩⟩
  have hj' : j<n:=by simpa using hj
  rw [Ae (Ap W _),Nat.zero_add,hz1]
  simp [madeCells,Value.cells,hj',Nat.mod_one]
theorem Mm {nm vl : Bs} {j n : Nat} (hK : nm.length≤2000) (hV : vl.length≤4096) (hn : n≤100) (hs : 100 * (nm.length+5+vl.length)≤1048576) (hj : j+n≤80000) : Ba (Bf nm vl j n)=true:=by
 have h1:=Kr nm vl j n
 have h2:=L6 nm vl j n hj
 have h3 : n * (5+nm.length+vl.length)≤100 * (nm.length+5+vl.length):=by
  rw [Nat.add_comm nm.length 5]
  exact Nat.mul_le_mul_right _ hn
 have h4 : (Bf nm vl j n).all Ce=true:=by
  rw [List.all_eq_true]
  intro p hp
  obtain ⟨s,hs,rfl⟩:=List.mem_map.1 hp
  have:=List.mem_range.1 hs
  have h5:=Gy nm (i:=j+s) (by omega)
  simp [Ce,h5]
  omega
 unfold Ba
 rw [h4,h1,h2]
 simp
 omega
theorem batch_ans {lp Rl : List Af} {nm vl : Bs} {j n : Nat} (hr : Bq lp) (hk : ∀ y∈lp,∃ s,s<j∧y.1=Cb nm s) (hs : lp.length=Rl.length∧Ag lp=Ag Rl) (hj : j+n≤80000) (hrt : Ba (Bf nm vl j n)=true) :
  Bk lp (Bf nm vl j n)=if 2000<(Rl++B2 nm vl j n).length∨1048576<Ag (Rl++B2 nm vl j n) then 131 else 0:=by
 obtain ⟨h1,h2,-⟩:=J1 hr nm vl j hk n hj
 have e1 : (Ak lp (Bf nm vl j n)).length=(Rl++B2 nm vl j n).length:=by rw [h1,List.length_append,Im,hs.1]
 have e2 : Ag (Ak lp (Bf nm vl j n))=Ag (Rl++B2 nm vl j n):=by rw [h2,Dv,Id nm vl j n hj,hs.2]
 have e3 : Bc (Ak lp (Bf nm vl j n)) = !decide (2000<(Rl++B2 nm vl j n).length∨1048576<Ag (Rl++B2 nm vl j n)):=by
  unfold Bc
  rw [e1,e2,Bool.eq_iff_iff]
  simp only [Bool.and_eq_true,decide_eq_true_eq,Bool.not_eq_true',decide_eq_false_iff_not]
  omega
 by_cases hc : 2000<(Rl++B2 nm vl j n).length∨1048576<Ag (Rl++B2 nm vl j n)
 ·rw [if_pos hc]
  exact Jk hrt (by rw [e3,decide_eq_true hc]; rfl)
 ·rw [if_neg hc]
  exact ans_ok hrt (by rw [e3,decide_eq_false hc]; rfl)
theorem ans_three (lp : List Af) (ps : List Al) : Bk lp ps=0∨Bk lp ps=131∨Bk lp ps=130:=by
 unfold Bk
 split
 ·exact .inr (.inr rfl)
 ·split
  ·exact .inr (.inl rfl)
  ·exact .inl rfl
theorem FullSt.on {B : Nat} {w : World} {F : Nat→Prop} {x d g t b r : Nat} {lp Rl : List Af} {lv rv : Value} {nm vl : Bs} {j j' m : Nat} (h : FullSt B w x d g t b r F lp Rl lv rv nm vl j 0 0 m) (hj : j≤j') : FullSt B w x d g t b r F lp Rl lv rv nm vl j' 0 0 m:=
 ⟨h.world,h.calm,h.ref,h.lrow,h.rrow,h.same,fun y hy=>by
  obtain ⟨s,hs,e⟩:=h.keys y hy
  exact ⟨s,by omega,e⟩,h.apart,h.sep,h.low⟩
def In64T (c : Int) : Prop:=-9223372036854775808≤c∧c≤9223372036854775807
set_option maxRecDepth 40000 in
set_option maxHeartbeats 12800000 in
theorem tfull_any (w : World) (many key val more : Int) (h1 : In64T many) (h2 : In64T key) (h3 : In64T val) (h4 : In64T more) (hB0 : 0<w.heap.size) (hT : Be w) :
  Calls Tryz.prog 7 #[.int .i64 many, .int .i64 key, .int .i64 val, .int .i64 more] w fun e w'=>e = .returned (.bool true)∧Below w.heap.size w w':=by
 have HT:=Ab hT
 have hsh:=shown_any w hB0 hT
 clear hT
 go_enter Tryz.func7,Tryz.ntmps7
 go_wp2_with fail
 refine hsh.mono ?_
 rintro e w1 ⟨rfl,hb1⟩
 have hbx:=begun_any w.heap.size w1 hB0 hb1.size (HT.out.keep hb1)
 clear hsh
 go_wp2_with fail
 refine hbx.mono ?_
 rintro e w2 ⟨x,d,t,b0,g,r0,F0,S0,rfl,hwx,hCx,hdx,hrx,hFx,hgx,htx,hbbx,hrs,hrx2,hxx,hb2⟩
 have hB2:=hb1.trans (hb2.mono hb1.size)
 have hz1:=hb1.size
 have hp1:=Iy w2 many 2100 h1 (by omega)
 have hp2:=Iy w2 key 2000 h2 (by omega)
 have hp3:=Iy w2 val 4000 h3 (by omega)
 obtain ⟨n1,hn1⟩:=Iz (c:=many) (n:=2100) (by omega)
 obtain ⟨n2,hn2⟩:=Iz (c:=key) (n:=2000) (by omega)
 obtain ⟨n3,hn3⟩:=Iz (c:=val) (n:=4000) (by omega)
 obtain ⟨N,hN⟩:=Int.eq_ofNat_of_zero_le n1
 obtain ⟨KL,hK⟩:=Int.eq_ofNat_of_zero_le n2
 obtain ⟨V,hV⟩:=Int.eq_ofNat_of_zero_le n3
 rw [hN] at hp1 hn1
 rw [hK] at hp2 hn2
 rw [hV] at hp3 hn3
 clear hN hK hV n1 n2 n3
 go_wp2_with fail
 refine hp1.mono ?_
 rintro e w3 ⟨rfl,hw3⟩
 try rw [hw3]
 clear hw3 w3
 go_wp2_with fail
 refine hp2.mono ?_
 rintro e w3 ⟨rfl,hw3⟩
 try rw [hw3]
 clear hw3 w3
 go_wp2_with fail
 refine hp3.mono ?_
 rintro e w3 ⟨rfl,hw3⟩
 try rw [hw3]
 clear hw3 w3 hp1 hp2 hp3
 obtain ⟨M1,hm1,hc1⟩:=K2 w2 KL (by omega)
 have q3:=Dl w2 (.cells M1 5)
 have hz3 : (w2.alloc (.cells M1 5)).heap.size=w2.heap.size+1:=by simp
 generalize hw3 : w2.alloc (.cells M1 5)=w3 at *
 obtain ⟨M2,hm2,hc2⟩:=K2 w3 V (by omega)
 have q4:=Dl w3 (.cells M2 5)
 have hz4 : (w3.alloc (.cells M2 5)).heap.size=w3.heap.size+1:=by simp
 generalize hw4 : w3.alloc (.cells M2 5)=w4 at *
 have q5:=Dl w4 (.cells #[.slice none 0 0] 70)
 have hr5:=Ap w4 (.cells #[.slice none 0 0] 70)
 have hz5 : (w4.alloc (.cells #[.slice none 0 0] 70)).heap.size=w4.heap.size+1:=by simp
 generalize hw5 : w4.alloc (.cells #[.slice none 0 0] 70)=w5 at *
 have hnl : (List.replicate KL (0 : UInt8)).length=KL:=List.length_replicate
 have hvl : (List.replicate V (0 : UInt8)).length=V:=List.length_replicate
 generalize List.replicate KL (0 : UInt8)=nm at *
 generalize List.replicate V (0 : UInt8)=vl at *
 have q25:=(q3.then q4).then q5
 have hXr : ∀ k,(F0 k∨k=g∨k=t)→k<r0:=fun k hk=>by
  rcases hk with hk | rfl | rfl
  ·exact (hFx k hk).2
  ·exact hgx.2
  ·exact htx.2
 have hFS : FullSt w.heap.size w5 x d g t b0 w4.heap.size F0 [] [] (.slice none 0 0) (.slice none 0 0) nm vl 0 0 0 1:=by
  refine ⟨⟨r0,false,0,0,q25.keep (show w2.heap[x]? = some _ from hwx) (fun h=>h)⟩,⟨S0,hCx.quiet q25⟩,hr5,World.ownsRow_nil _ _ _ _,World.ownsRow_nil _ _ _ _,⟨rfl,rfl⟩,(fun y hy=>by cases hy),fun k hk=>?_,⟨by omega,(fun k hk=>by cases hk),(fun k hk=>by cases hk)⟩,by omega,by omega⟩
  rcases hk with rfl | rfl | hk | hk
  ·exact ⟨by omega,fun e=>by have:=hXr k e; omega,by omega⟩
  ·exact ⟨by omega,fun e=>by have:=hXr _ e; omega,by omega⟩
  ·cases hk
  ·cases hk
 have hB5 : Below w.heap.size w w5:=hB2.trans (q25.below (fun _ h=>h.elim) hB2.size)
 have HS:=Ab (And.intro hFS hB5)
 have HZ:=Ab (And.intro hz3 (And.intro hz4 hz5))
 clear hz3 hz4 hz5
 clear hbx hb1 hb2 hwx hCx hrx hFx hXr hFS hB5 hdx q3 q4 q5 q25 hr5 hgx htx hbbx
 go_wp2_with fail
 try rw [hw3]
 go_wp2_with fail
 try rw [hw4]
 go_wp2_with fail
 try rw [hw5]
 clear hm1 hc1 hm2 hc2
 have hrl:=(HS.out.1.apart w4.heap.size (.inr (.inl rfl))).1
 generalize w4.heap.size=r at *
 clear hw3 hw4 hw5
 go_loopw [19,18] (fun ti tl wr=>∃ (i j n c b : Nat) (F : Nat→Prop) (lp Rl : List Af) (lv rv : Value),ti = .int .i64 i∧tl=lv∧i=j+n∧i≤N∧(n<100∧(i<N∨n=0))∧(c * 100≤j∨i=N)∧c≤21∧Rl.length≤j ∧
  FullSt w.heap.size wr x d g t b r F lp Rl lv rv nm vl j n n (1+c * 2200000)∧Below w.heap.size w wr) (fun ti _ _=>N - (intOf ti).toNat)
 case atStart=>exact ⟨0,0,0,0,b0,F0,[],[], .slice none 0 0, .slice none 0 0,rfl,rfl,rfl,by omega,by omega, .inl (by omega),by omega,by simp,HS.out.1,HS.out.2⟩
 case round=>
  obtain ⟨i,j,n,c,b,F,lp,Rl,lv,rv,rfl,htl,hij,hiN,hn,hcj,hc21,hRl,hFS,hB⟩:=hrel
  obtain rfl : lv=_:=htl.symm
  clear htl
  have HC:=Ab (And.intro hFS hB)
  have HI:=Ab (And.intro hij (And.intro hiN (And.intro hn (And.intro hcj (And.intro hc21 hRl)))))
  clear hij hiN hn hcj hc21 hRl
  by_cases hlt : i<N
  ·have hq1 : decide ((i : Int)<(N : Int))=true:=decide_eq_true (by omega)
   have hdg:=digits_any wr (10000+i) (by omega)
   rw [show ((10000+i : Nat) : Int)=10000+(i : Int) by omega] at hdg
   clear hFS hB
   go_wp2_with fail
   refine hdg.mono ?_
   rintro e w6 ⟨rfl,hb6⟩
   have hFS6:=HC.out.1.quiet (Ds hb6)
   have hB6:=HC.out.2.trans (hb6.mono HC.out.2.size)
   have hky : Ad (Cb nm (j+n))=Ad nm++Ad (dgT (10000+i)):=by rw [strB_add,Cb,HI.out.1]
   obtain ⟨lv',w7,ha7,hFS7,hc7⟩:=hFS6.putl (by have:=HI.out.2.2.1; omega)
   have hB7 : Below w.heap.size w w7:=hB6.trans (hc7.below (fun k hk=>(hFS6.lrow.lt k hk).1) hB6.size)
   have hx7:=Ae hFS7.ref 0
   simp only [List.getElem?_toArray,List.getElem?_cons_zero] at hx7
   have hap:=HC.out.1.calm
   have ha7' : (Builtin.append_ #[27,27] 27 #[lv, .slice (some ⟨w6.heap.size,0,none⟩) 1 1]).run Tryz.prog (w6.alloc (.cells #[.string (Ad nm++Ad (dgT (10000+i))), .string (Ad vl), .bool false] 73)) = .ok lv' w7:=by rw [← hky]; exact ha7
   obtain ⟨rv',w8,ha8,hx8,hz8,hFS8,hc8⟩:=hFS7.putr (by have:=HI.out; omega)
   have ha8' : (Builtin.append_ #[65,65] 65 #[rv, .slice (some ⟨w7.heap.size,0,none⟩) 1 1]).run Tryz.prog (w7.alloc (.cells #[.string (Ad nm++Ad (dgT (10000+i))), .string (Ad vl)] 75)) = .ok rv' w8:=by rw [← hky]; exact ha8
   obtain ⟨la,lc,rfl,-⟩:=A4 hFS8.lrow
   obtain ⟨ra,rc,rfl,-⟩:=A4 hFS8.rrow
   have hpl : (Bf nm vl j (n+1)).length=n+1:=Kr ..
   have hql : (Rl++B2 nm vl j (n+1)).length=Rl.length+(n+1):=by rw [List.length_append,Im]
   generalize hpd : (Bf nm vl j (n+1)).length=p at *
   generalize hqd : (Rl++B2 nm vl j (n+1)).length=q at *
   have hB8 : Below w.heap.size w (w8.setCell ⟨r,0,none⟩ (.slice ra q rc)):=hB7.trans (hc8.below (fun k hk=>by
    rcases hk with hk | rfl
    ·exact (hFS7.rrow.lt k hk).1
    ·exact hFS7.low.1) hB7.size)
   have H8:=Ab (And.intro hFS8 (And.intro hB8 (And.intro hpl (And.intro hql (And.intro hpd hqd)))))
   have hsz : ¬ 9223372036854775807<(Ad nm).size+(Ad (dgT (10000+i))).size:=by
    have e1 : (Ad nm).size=nm.length:=Ca _
    have e2 : (Ad (dgT (10000+i))).size=(dgT (10000+i)).length:=Ca _
    have e3 : (dgT (10000+i)).length=5:=dgT_five (by omega) (by omega)
    omega
   have HA7:=Ab ha7'
   have HA8:=Ab ha8'
   clear hdg hb6 hFS6 hB6 hky ha7 ha8 ha7' ha8' hFS7 hc7 hB7 hFS8 hc8 hB8 hpl hql hpd hqd
   go_upto_region 18 with (at_builtin; first
    | refine wpList_plain rfl (fun K hK=>Cp (.tmp 59) (.tmp 65) 27 rfl rfl rfl HA7.out (hK _ _ ?_))
    | refine wpList_plain rfl (fun K hK=>Cp (.tmp 71) (.tmp 77) 65 rfl rfl rfl HA8.out (hK _ _ ?_)))
   generalize w8.setCell ⟨r,0,none⟩ (.slice ra q rc)=w9 at *
   clear hx8 hz8 hx7 hsz HA7 HA8
   go_cut [89] from 82 to 89 (fun cv wx=>cv = .bool (decide (p=100∨i+1=N))∧wx=w9)
   case first=>
    by_cases hA : p=100
    ·have hA1 : (p : Int)=100:=by omega
     go_wp2_with fail
     go_meet
     exact ⟨by rw [decide_eq_true (Or.inl hA)],rfl⟩
    ·have hA1 : ¬ (p : Int)=100:=by omega
     by_cases hB : i+1=N
     ·have hB1 : ((i : Int) == (N : Int) - 1)=true:=by rw [beq_iff_eq]; omega
      go_wp2_with fail
      go_meet
      exact ⟨by rw [decide_eq_true (Or.inr hB)],rfl⟩
     ·have hB1 : ((i : Int) == (N : Int) - 1)=false:=by rw [beq_eq_false_iff_ne]; omega
      go_wp2_with fail
      go_meet
      exact ⟨by rw [decide_eq_false (by omega),beq_eq_false_iff_ne.2 hA1],rfl⟩
   case rest=>
    obtain ⟨rfl,hwx⟩:=hcut
    obtain rfl : w9=_:=hwx.symm
    clear hwx
    by_cases hfl : p=100∨i+1=N
    ·rw [decide_eq_true hfl]
     obtain ⟨S,hC⟩:=H8.out.1.calm
     have hj : c * 100≤j∧c≤20∧j+(n+1)≤80000:=by have:=HI.out; omega
     have hcm:=Mu hC Ki (by have:=H8.out.1.lrow.ps; exact this) hB0 (HT.out.keep H8.out.2.1) (by omega) (by have : Dm=67108864:=rfl; omega)
     obtain ⟨w9r,w9b,w9m,w9l,hw9⟩:=H8.out.1.world
     have x1:=Ae (show w9.heap[x]? = some _ from hw9) 1
     simp only [List.getElem?_toArray,List.getElem?_cons_zero,List.getElem?_cons_succ] at x1
     have HJ:=Ab hj
     clear hw9 hj
     go_wp2_with fail
     refine hcm.mono ?_
     rintro e w10 ⟨rfl,F',b',S',hC',-,hF',hbb',hc10⟩
     have hA10:=H8.out.1.after (Rl':=Rl) (j':=j) (nr':=n+1) hC' hF' hbb' hc10 rfl
     have hB10:=H8.out.2.1.trans (hC.belowC hc10)
     have HC':=Ab (And.intro hC (And.intro hC' (And.intro hF' (And.intro hbb' (And.intro hc10 hB10)))))
     have hr10:=hc10.keep H8.out.1.ref (H8.out.1.apart r (.inr (.inl rfl))).2.1
     have x10:=Ae hr10 0
     simp only [List.getElem?_toArray,List.getElem?_cons_zero] at x10
     have hor : Cr w.heap.size w10 (.slice ra q rc) (Rl++B2 nm vl j (n+1)):=A3 H8.out.1.rrow hc10 (fun k hk=>(H8.out.1.apart k (.inr (.inr (.inr hk)))).2.1)
     have hpr:=hor.pr
     have hsm:=H8.out.1.same
     have hft:=En hC.fit.1
     have hwL : Ag (Rl++B2 nm vl j (n+1))=Ag Rl+(n+1) * (21+nm.length+vl.length):=by rw [Dv,Id nm vl j (n+1) (by have:=HJ.out; omega)]
     have hwm : (n+1) * (21+nm.length+vl.length)≤100 * 6021:=Nat.mul_le_mul (by have:=HI.out; omega) (by omega)
     have hwt:=Lm w10 (.slice ra q rc) _ hpr (by omega)
     have hcA:=H8.out.2.2.2.2.2
     generalize hLd : Rl++B2 nm vl j (n+1)=L at *
     have HQ:=Ab (And.intro hLd (And.intro hwL hr10))
     clear hcm hC hC' hF' hbb' hc10 hB10 hr10 hor hpr x1 hA10 hsm hft hwL hwm hcA hLd
     go_upto_region 21 with fail
     go_cut [109] from 96 to 109 (fun cv wx=>cv = .bool (decide (2000<q∨1048576<Ag L))∧Chg (fun _=>False) w10 wx)
     case first=>
      by_cases hA : 2000<q
      ·have hA1 : decide ((2000 : Int)<(q : Int))=true:=decide_eq_true (by omega)
       clear hwt
       go_wp2_with fail
       go_meet
       exact ⟨by rw [decide_eq_true (Or.inl hA)],Chg.refl _ _⟩
      ·have hA1 : decide ((2000 : Int)<(q : Int))=false:=decide_eq_false (by omega)
       go_wp2_with fail
       refine hwt.mono ?_
       rintro e w11 ⟨rfl,hc11⟩
       clear hwt
       go_wp2_with fail
       go_meet
       refine ⟨?_,hc11⟩
       have e : decide ((1048576 : Int)<(Ag L : Int))=decide (2000<q∨1048576<Ag L):=by rw [decide_eq_decide]; omega
       rw [e]
     case rest=>
      obtain ⟨rfl,hc11⟩:=hcut
      have hrc:=hc11.keep HQ.out.2.2 (fun h=>h)
      have x11:=Ae hrc 0
      have z11:=Au hrc 0
      simp only [List.getElem?_toArray,List.getElem?_cons_zero] at x11
      have hq0 : q - p=Rl.length:=by have:=H8.out; omega
      have hqp : p≤q:=by have:=H8.out; omega
      obtain ⟨hq1,hq2⟩ : q≤rc∧rc≤maxLen:=by
       obtain ⟨ao',c',e',hl1,hl2⟩:=A4 H8.out.1.rrow
       injection e' with _ _ e3
       subst e3
       rw [HQ.out.1,H8.out.2.2.2.2.2] at hl1
       exact ⟨hl1,hl2⟩
      unfold maxLen at hq2
      have hq4 : Rl.length≤rc:=by omega
      have hq3 : IntKind.i64.wrap ((q : Int) - (p : Int))=(Rl.length : Int):=by rw [IntKind.wrap_i64]; omega
      have hB11 : Below w.heap.size w wc:=HC'.out.2.2.2.2.2.trans (hc11.below (fun _ h=>h.elim) HC'.out.2.2.2.2.2.size)
      have hrB:=H8.out.1.low.1
      have HW:=Ab (And.intro hc11 (And.intro hrc (And.intro hB11 hrB)))
      clear hwt hc11 hrc hB11 hrB x10
      by_cases hov : 2000<q∨1048576<Ag L
      ·rw [decide_eq_true hov]
       go_wp2_with fail
       go_region
       have hq12 : FullSt w.heap.size wc x d g t b' r F' (Cl lp (Bf nm vl j (n+1))) Rl (.slice none 0 0) (.slice ra q rc) nm vl j 0 (n+1) (1+c * 2200000+2200000)∨Bk lp (Bf nm vl j (n+1))≠131:=by
        by_cases han : Bk lp (Bf nm vl j (n+1))=131
        ·have hnx:=Hi (lp:=lp) (ps:=Bf nm vl j (n+1)) (by rw [han]; decide)
         obtain ⟨-,hC',hF',hbb',hc10,-⟩:=HC'.out
         exact .inl ((H8.out.1.after (Rl':=Rl) (j':=j) (nr':=n+1) hC' hF' hbb' hc10 rfl (by rw [hnx]; exact H8.out.1.same) (by rw [hnx]; exact H8.out.1.keys)).quiet HW.out.1)
        ·exact .inr han
       have hw12 : Below w.heap.size w ((wc.setCell ⟨r,0,none⟩ (.slice ra Rl.length rc)).drew):=(HW.out.2.2.1.setCell (p:=⟨r,0,none⟩) HW.out.2.2.2 _).drew
       have hw13 : Bk lp (Bf nm vl j (n+1))=131→FullSt w.heap.size (wc.setCell ⟨r,0,none⟩ (.slice ra Rl.length rc)).drew x d g t b' r F' (Cl lp (Bf nm vl j (n+1))) Rl (.slice none 0 0) (.slice ra Rl.length rc) nm vl (j+(n+1)) 0 0 (1+c * 2200000+2200000):=fun han=>by
        rcases hq12 with h | h
        ·exact (h.cut.quiet ((Chg.refl (fun _=>False) _).drew)).on (by omega)
        ·exact absurd han h
       have H12:=Ab (And.intro hw12 hw13)
       clear hq12 hw12 hw13
       generalize (wc.setCell ⟨r,0,none⟩ (.slice ra Rl.length rc)).drew=w12 at *
       have h3:=ans_three lp (Bf nm vl j (n+1))
       by_cases hbg : 1048576<100 * (KL+5+V)
       ·have hbg1 : decide ((1048576 : Int)<100 * ((KL : Int)+5+(V : Int)))=true:=decide_eq_true (by omega)
        have H13:=Ab H12.out.1
        clear H12
        have HX:=Ab HC'
        clear HC'
        generalize Bk lp (Bf nm vl j (n+1))=A at *
        rcases h3 with rfl | rfl | rfl
        all_goals
         go_wp2_with fail
         go_ret
         exact ⟨rfl,H13.out⟩
       ·have hbg1 : decide ((1048576 : Int)<100 * ((KL : Int)+5+(V : Int)))=false:=decide_eq_false (by omega)
        have hrt:=Mm (nm:=nm) (vl:=vl) (j:=j) (n:=n+1) (by omega) (by omega) (by have:=HI.out; omega) (by omega) HJ.out.2.2
        have han:=batch_ans (lp:=lp) (Rl:=Rl) HC'.out.1.fit.2.2 H8.out.1.keys H8.out.1.same HJ.out.2.2 hrt
        rw [HQ.out.1,H8.out.2.2.2.2.2,if_pos hov] at han
        have HX:=Ab (H12.out.2 han)
        clear HC' hrt h3
        rw [han]
        clear han
        go_wp2_with fail
        go_roundw
        case rel=>
         have h1:=HI.out
         have h2:=H8.out.2.2
         have h4:=HJ.out
         refine ⟨i+1,j+(n+1),0,c+1,b',F',Cl lp (Bf nm vl j (n+1)),Rl, .slice none 0 0, .slice ra Rl.length rc,by go_num,rfl,by omega,by omega,by omega,by omega,by omega,by omega,?_,H12.out.1⟩
         rw [show 1+(c+1) * 2200000=1+c * 2200000+2200000 by omega]
         exact HX.out
        case measure=>simp [intOf]; omega
      ·rw [decide_eq_false hov]
       have h3:=ans_three lp (Bf nm vl j (n+1))
       by_cases hbg : 1048576<100 * (KL+5+V)
       ·have hbg1 : decide ((1048576 : Int)<100 * ((KL : Int)+5+(V : Int)))=true:=decide_eq_true (by omega)
        have HX:=Ab HC'
        clear HC'
        generalize Bk lp (Bf nm vl j (n+1))=A at *
        rcases h3 with rfl | rfl | rfl
        all_goals
         go_wp2_with fail
         go_ret
         exact ⟨rfl,HW.out.2.2.1⟩
       ·have hbg1 : decide ((1048576 : Int)<100 * ((KL : Int)+5+(V : Int)))=false:=decide_eq_false (by omega)
        have hrt:=Mm (nm:=nm) (vl:=vl) (j:=j) (n:=n+1) (by omega) (by omega) (by have:=HI.out; omega) (by omega) HJ.out.2.2
        have han:=batch_ans (lp:=lp) (Rl:=Rl) HC'.out.1.fit.2.2 H8.out.1.keys H8.out.1.same HJ.out.2.2 hrt
        rw [HQ.out.1,H8.out.2.2.2.2.2,if_neg hov] at han
        have hnx:=Iu han
        have HX:=Ab (And.intro HC' (And.intro hrt (And.intro han hnx)))
        clear HC' hrt h3
        rw [han]
        clear han hnx
        go_wp2_with fail
        go_roundw
        case rel=>
         obtain ⟨-,hC',hF',hbb',hc10,-⟩:=HX.out.1.out
         obtain ⟨d1,d2,d3⟩:=J1 HX.out.1.out.1.fit.2.2 nm vl j H8.out.1.keys (n+1) HJ.out.2.2
         have hA10:=H8.out.1.after (Rl':=L) (j':=j+(n+1)) (nr':=0) hC' hF' hbb' hc10 (by rw [HQ.out.1]; simp [B2]) (by
          rw [HX.out.2.2.2,d1,d2,← HQ.out.1,List.length_append,Im,Dv,Id nm vl j (n+1) HJ.out.2.2,H8.out.1.same.1,H8.out.1.same.2]
          exact ⟨rfl,rfl⟩) (by rw [HX.out.2.2.2]; exact d3)
         have h1:=HI.out
         have h2:=H8.out.2.2
         have h4:=HJ.out
         refine ⟨i+1,j+(n+1),0,c+1,b',F',Cl lp (Bf nm vl j (n+1)),L, .slice none 0 0, .slice ra q rc,by go_num,rfl,by omega,by omega,by omega,by omega,by omega,by omega,?_,HW.out.2.2.1⟩
         have h5:=hA10.quiet HW.out.1
         rw [show 1+(c+1) * 2200000=1+c * 2200000+2200000 by omega]
         exact h5
        case measure=>simp [intOf]; omega
    ·rw [decide_eq_false hfl]
     go_wp2_with fail
     go_roundw
     case rel=>
      have h1:=HI.out
      have h2:=H8.out
      exact ⟨i+1,j,n+1,c,b,F,lp,Rl,_,_,by go_num,rfl,by omega,by omega,by omega,by omega,by omega,by omega,h2.1,h2.2.1⟩
     case measure=>simp [intOf]; omega
  ·have hq1 : decide ((i : Int)<(N : Int))=false:=decide_eq_false (by omega)
   have hn0 : n=0:=by have:=HI.out; omega
   subst hn0
   have hBz:=hB.size
   obtain ⟨S,hC⟩:=hFS.calm
   have hft:=En hC.fit.1
   have hsm:=hFS.same
   have hb0 : Rl++B2 nm vl j 0=Rl:=by simp [B2]
   have hor:=hFS.rrow
   rw [hb0] at hor
   have hpr:=hor.pr
   obtain ⟨ra,rc,rfl,-⟩:=A4 hor
   have x0:=Ae hFS.ref 0
   simp only [List.getElem?_toArray,List.getElem?_cons_zero] at x0
   have hwt:=Lm wr _ Rl hpr (by omega)
   obtain ⟨u,hu⟩ : ∃ u,u=Ag Rl:=⟨_,rfl⟩
   rw [← hu] at hwt
   have l1 : IntKind.i64.wrap (1048576 - (u : Int))=1048576 - (u : Int):=by rw [IntKind.wrap_i64]; omega
   have l2 : IntKind.i64.wrap (1048576 - (u : Int) - 16)=1048576 - (u : Int) - 16:=by rw [IntKind.wrap_i64]; omega
   have l3 : IntKind.i64.wrap (1048576 - (u : Int) - 16 - 1)=1048559 - (u : Int):=by rw [IntKind.wrap_i64]; omega
   have hub : u≤1048576:=by omega
   have HU:=Ab (And.intro hu (And.intro hft hsm))
   clear hFS hB hBz hft hsm hb0 hor hpr hC hu
   go_wp2_with fail
   refine hwt.mono ?_
   rintro e w6 ⟨rfl,hc6⟩
   have hp3:=Iy w6 more 3 h4 (by omega)
   obtain ⟨n3,hn3⟩:=Iz (c:=more) (n:=3) (by omega)
   obtain ⟨M,hM⟩:=Int.eq_ofNat_of_zero_le n3
   rw [hM] at hp3 hn3
   clear hM n3 hwt
   go_wp2_with fail
   refine hp3.mono ?_
   rintro e w7 ⟨rfl,hw7⟩
   rw [hw7]
   clear hw7 w7 hp3
   have l4 : IntKind.i64.wrap (1048559 - (u : Int)+(M : Int))=1048559 - (u : Int)+(M : Int):=by rw [IntKind.wrap_i64]; omega
   have l5 : IntKind.i64.wrap (1048559 - (u : Int)+(M : Int) - 1)=1048558 - (u : Int)+(M : Int):=by rw [IntKind.wrap_i64]; omega
   obtain ⟨Z,hZ⟩ : ∃ Z : Nat,max 0 (min (1048558 - (u : Int)+(M : Int)) 4096)=(Z : Int):=⟨(max 0 (min (1048558 - (u : Int)+(M : Int)) 4096)).toNat,by omega⟩
   obtain ⟨M3,hm3,hc3⟩:=K2 w6 Z (by omega)
   go_wp2_with fail
   have hvl : (List.replicate Z (0 : UInt8)).length=Z:=List.length_replicate
   generalize List.replicate Z (0 : UInt8)=vz at *
   have q7:=(Dl w6 (.cells M3 5)).then (Dl (w6.alloc (.cells M3 5)) (.cells #[.string ⟨#[122]⟩, .string (Ad vz), .bool false] 73))
   have hl7:=Ap (w6.alloc (.cells M3 5)) (.cells #[.string ⟨#[122]⟩, .string (Ad vz), .bool false] 73)
   have hz7 : (w6.alloc (.cells M3 5)).heap.size=w6.heap.size+1:=World.size_alloc ..
   rw [hz7] at hl7
   generalize (w6.alloc (.cells M3 5)).alloc (.cells #[.string ⟨#[122]⟩, .string (Ad vz), .bool false] 73)=w7 at *
   have hlow : ∀ k,(F k∨k=g∨k=t∨k=x∨k=r)→k<w6.heap.size+1:=by
    have hF6:=HC.out.1.quiet hc6
    obtain ⟨S6,hC6⟩:=hF6.calm
    have hlow:=hC6.low
    have hax:=(hF6.apart x (.inl rfl)).1
    have har:=(hF6.apart r (.inr (.inl rfl))).1
    intro k hk
    rcases hk with hk | hk | hk | hk | hk
    ·have:=(hlow.1 k hk).2; omega
    ·omega
    ·omega
    ·omega
    ·omega
   have hF7:=HC.out.1.quiet (hc6.then q7)
   have hB7:=HC.out.2.trans ((hc6.then q7).below (fun _ h=>h.elim) HC.out.2.size)
   generalize w6.heap.size+1=pb at *
   have p0:=Ae hl7 0
   have p1:=Ae hl7 1
   have p2:=Ae hl7 2
   simp only [List.getElem?_toArray,List.getElem?_cons_zero,List.getElem?_cons_succ] at p0 p1 p2
   obtain ⟨r9,a9,b9,c9,hw9⟩:=hF7.world
   have x1:=Ae (show w7.heap[x]? = some _ from hw9) 1
   have r1:=Ae hF7.ref 0
   simp only [List.getElem?_toArray,List.getElem?_cons_zero,List.getElem?_cons_succ] at x1 r1
   obtain ⟨S7,hC7⟩:=hF7.calm
   have hpl : pb<w7.heap.size:=At hl7
   have H7:=Ab (And.intro hF7 (And.intro hB7 (And.intro hC7 (And.intro hl7 (And.intro hw9 hpl)))))
   have HL:=Ab hlow
   have hax:=HC.out.1.apart x (.inl rfl)
   have har:=HC.out.1.apart r (.inr (.inl rfl))
   have HAX:=Ab (And.intro hax.2.1 har.2.1)
   have hx7 : x<w7.heap.size:=Nat.lt_of_lt_of_le hax.1 (hc6.then q7).size
   have hr7 : r<w7.heap.size:=Nat.lt_of_lt_of_le har.1 (hc6.then q7).size
   -- what the last Commit answers
   have hvs : (Ad vz).size=Z:=by rw [Ca,hvl]
   have hk7:=HC.out.1.keys
   have hsm7:=HU.out.2.2
   obtain ⟨d1,d2,-⟩:=done_new hC7.fit.2.2 [122] vz (fun y hy e=>by
    obtain ⟨s,hs,e'⟩:=hk7 y hy
    have h1:=Gy nm (i:=s) (by have:=HI.out; omega)
    rw [← e',e] at h1
    simp at h1)
   have d1' : (Ak lp [([122],(vz,false))]).length=Rl.length+1:=d1.trans (by rw [hsm7.1])
   have d2' : Ag (Ak lp [([122],(vz,false))])=u+(17+Z):=d2.trans (by rw [hsm7.2,← HU.out.1,hvl]; simp)
   have hrt : Ba [([122],(vz,false))]=true:=by
    simp [Ba,Br,Ce,hvl]
    omega
   have hfit : Bc (Ak lp [([122],(vz,false))])=decide (Rl.length+1≤2000∧u+(17+Z)≤1048576):=by
    unfold Bc
    rw [d1',d2',Bool.decide_and]
   have hcm:=fun (W : World) (q : Chg (fun _=>False) w7 W) (v : Value) (hv : PsT W v [([122],(vz,false))])=>Mu (hC7.quiet q) Ki hv hB0 (HT.out.keep (hB7.trans (q.below (fun _ h=>h.elim) hB7.size))) (by have:=HI.out; omega) (by have:=HI.out; have : Dm=67108864:=rfl; omega)
   have HCM:=Ab hcm
   have hno:=fun (h : Bk lp [([122],(vz,false))]=131)=>(Hi (lp:=lp) (ps:=[([122],(vz,false))]) (by rw [h]; decide))
   have HANS:=Ab (And.intro hrt (And.intro hfit (And.intro d1' hno)))
   clear hk7 hsm7 d1 d2 d1' d2' hrt hfit hcm hlow hax har hno
   clear hc6 q7 hl7 hF7 hB7 hw9 hC7 hm3 hc3 x0 l1 l2 l3 l4 l5
   refine wp_region_held_drew (S:=fun W=>W.cell? ⟨x,1,none⟩=some (.pointer (some ⟨t,0,none⟩))∧W.cell? ⟨pb,0,none⟩=some (.string ⟨#[122]⟩)∧W.cell? ⟨pb,1,none⟩=some (.string (Ad vz))∧W.cell? ⟨pb,2,none⟩=some (.bool false)∧W.cell? ⟨r,0,none⟩=some (.slice ra Rl.length rc)) (by kernel_rfl) (⟨x1,p0,p1,p2,r1⟩) (fun hHeld=>?_)
   refine Aa (i:=0) (v:=?_) rfl (by kernel_rfl) (by kernel_rfl) (by kernel_rfl) (fun _ _ _ h=>h) rfl ?_ hHeld ?_
   rotate_left
   ·intro w hS; (try dsimp only at hS); obtain ⟨hS0,hS1,hS2,hS3,hS4⟩:=hS; go_simp; first | done | (with_reducible rfl)
   try simp only [Act.put,List.setIfInBounds_toArray,List.set_cons_zero,List.set_cons_succ]
   refine Aa (i:=1) (v:=?_) rfl (by kernel_rfl) (by kernel_rfl) (by kernel_rfl) (fun _ _ _ h=>h) rfl ?_ hHeld ?_
   rotate_left
   ·intro w hS; (try dsimp only at hS); obtain ⟨hS0,hS1,hS2,hS3,hS4⟩:=hS; go_simp; first | done | (with_reducible rfl)
   try simp only [Act.put,List.setIfInBounds_toArray,List.set_cons_zero,List.set_cons_succ]
   refine Aa (i:=2) (v:=?_) rfl (by kernel_rfl) (by kernel_rfl) (by kernel_rfl) (fun _ _ _ h=>h) rfl ?_ hHeld ?_
   rotate_left
   ·intro w hS; (try dsimp only at hS); obtain ⟨hS0,hS1,hS2,hS3,hS4⟩:=hS; go_simp; first | done | (with_reducible rfl)
   try simp only [Act.put,List.setIfInBounds_toArray,List.set_cons_zero,List.set_cons_succ]
   refine Aa (i:=3) (v:=?_) rfl (by kernel_rfl) (by kernel_rfl) (by kernel_rfl) (fun _ _ _ h=>h) rfl ?_ hHeld ?_
   rotate_left
   ·intro w hS; (try dsimp only at hS); obtain ⟨hS0,hS1,hS2,hS3,hS4⟩:=hS; go_simp; first | done | (with_reducible rfl)
   try simp only [Act.put,List.setIfInBounds_toArray,List.set_cons_zero,List.set_cons_succ]
   refine Aa (i:=4) (v:=?_) rfl (by kernel_rfl) (by kernel_rfl) (by kernel_rfl) (fun _ _ _ h=>h) rfl ?_ hHeld ?_
   rotate_left
   ·intro w hS; (try dsimp only at hS); obtain ⟨hS0,hS1,hS2,hS3,hS4⟩:=hS; go_simp; first | done | (with_reducible rfl)
   try simp only [Act.put,List.setIfInBounds_toArray,List.set_cons_zero,List.set_cons_succ]
   refine Am (i:=5) rfl (by kernel_rfl) rfl (fun K hK=>?_)
   go_simp
   have q8:=(Dl w7 (.cells #[.string ⟨#[122]⟩, .string (Ad vz), .bool false] 73)).then ((Chg.refl (fun _=>False) _).drew)
   have hps8:=(Hr w7 [([122],(vz,false))] 73 (by show 1≤maxLen; unfold maxLen; omega)).keep ((Chg.refl (fun _=>False) _).drew) (fun _ b off n cap e h=>h)
   have hcm8:=HCM.out _ q8 _ hps8
   have c8 : ∀ k j v,k<w7.heap.size→w7.cell? ⟨k,j,none⟩=some v→(w7.alloc (.cells #[.string ⟨#[122]⟩, .string (Ad vz), .bool false] 73)).drew.cell? ⟨k,j,none⟩=some v:=fun k j v hk h=>(World.cell?_of_block (q8.block k hk (fun h=>h))).trans h
   have hS8:=q8.size
   have x18:=c8 x 1 _ hx7 x1
   have p08:=c8 pb 0 _ hpl p0
   have p18:=c8 pb 1 _ hpl p1
   have p28:=c8 pb 2 _ hpl p2
   have r18:=c8 r 0 _ hr7 r1
   refine hK.out _ _ (⟨x18,p08,p18,p28,r18⟩) (fun hHeld=>?_)
   clear hK K
   try simp only [Act.put,List.setIfInBounds_toArray,List.set_cons_zero,List.set_cons_succ]
   refine Am (i:=6) rfl (by kernel_rfl) rfl (fun K hK=>?_)
   go_simp
   refine hcm8.mono ?_
   rintro e w9 ⟨rfl,F9,bb9,S9,hC9,-,hF9,hbb9,hc9⟩
   have c9 : ∀ k j v,k<w7.heap.size→¬ (F k∨k=g∨k=t)→(w7.alloc (.cells #[.string ⟨#[122]⟩, .string (Ad vz), .bool false] 73)).drew.cell? ⟨k,j,none⟩=some v→w9.cell? ⟨k,j,none⟩=some v:=fun k j v hk hn h=>(World.cell?_of_block (hc9.block k (Nat.lt_of_lt_of_le hk hS8) hn)).trans h
   have hpn : ¬ (F pb∨pb=g∨pb=t):=fun h=>by
    have:=HL.out pb (by rcases h with h | h | h <;> first | exact .inl h | exact .inr (.inl h) | exact .inr (.inr (.inl h)))
    omega
   have x19:=c9 x 1 _ hx7 HAX.out.1 x18
   have p09:=c9 pb 0 _ hpl hpn p08
   have p19:=c9 pb 1 _ hpl hpn p18
   have p29:=c9 pb 2 _ hpl hpn p28
   have r19:=c9 r 0 _ hr7 HAX.out.2 r18
   have hB8:=H7.out.2.1.trans (q8.below (fun _ h=>h.elim) H7.out.2.1.size)
   have hB9:=hB8.trans ((H7.out.2.2.1.quiet q8).belowC hc9)
   have H9:=Ab (And.intro hC9 hB9)
   clear hcm8 hps8 c8 c9 hpn hC9 hF9 hbb9 hc9 hB8 hB9 q8 hS8 x18 p08 p18 p28 r18 x1 p0 p1 p2 r1
   refine hK.out _ _ (⟨x19,p09,p19,p29,r19⟩) (fun hHeld=>?_)
   clear hK K
   try simp only [Act.put,List.setIfInBounds_toArray,List.set_cons_zero,List.set_cons_succ]
   refine Aa (i:=7) (v:=?_) rfl (by kernel_rfl) (by kernel_rfl) (by kernel_rfl) (fun _ _ _ h=>h) rfl ?_ hHeld ?_
   rotate_left
   ·intro w hS; (try dsimp only at hS); obtain ⟨hS0,hS1,hS2,hS3,hS4⟩:=hS; go_simp; first | done | (with_reducible rfl)
   try simp only [Act.put,List.setIfInBounds_toArray,List.set_cons_zero,List.set_cons_succ]
   refine wpAnyH_done (by kernel_rfl) ?_ _
   clear hHeld HCM
   have hln : ∀ (a : Int),((Cl lp [([122],(vz,false))]).length : Int)=a→Calls Tryz.prog 30 #[.pointer (some ⟨t,0,none⟩)] w9.drew fun e w'=>e = .returned (.int .i64 a)∧w'=w9.drew:=fun a ha=>by
    have:=tlen_calm (H9.out.1.quiet ((Chg.refl (fun _=>False) w9).drew))
    rw [ha] at this
    exact this
   have HLN:=Ab hln
   clear hln
   by_cases hf : 2000≤Rl.length∨1048559<u+Z
   ·have han : Bk lp [([122],(vz,false))]=131:=Jk HANS.out.1 (by rw [HANS.out.2.1]; exact decide_eq_false (by omega))
    have hle:=HLN.out (Rl.length : Int) (by rw [HANS.out.2.2.2 han,HU.out.2.2.1])
    have hLL : ((Rl.length : Int) == (Rl.length : Int))=true:=by simp
    rw [han]
    clear han
    by_cases hA : 2000≤Rl.length
    ·have dA : decide ((2000 : Int)≤(Rl.length : Int))=true:=decide_eq_true (by omega)
     go_wp2_with fail
     refine wp_region_held_drew (S:=fun W=>W.cell? ⟨x,1,none⟩=some (.pointer (some ⟨t,0,none⟩))∧W.cell? ⟨r,0,none⟩=some (.slice ra Rl.length rc)) (by kernel_rfl) (⟨x19,r19⟩) (fun hHeld=>?_)
     refine Aa (i:=0) (v:=?_) rfl (by kernel_rfl) (by kernel_rfl) (by kernel_rfl) (fun _ _ _ h=>h) rfl ?_ hHeld ?_
     rotate_left
     ·intro w hS; (try dsimp only at hS); obtain ⟨hS0,hS1⟩:=hS; go_simp; first | done | (with_reducible rfl)
     try simp only [Act.put,List.setIfInBounds_toArray,List.set_cons_zero,List.set_cons_succ]
     refine Aa (i:=1) (v:=?_) rfl (by kernel_rfl) (by kernel_rfl) (by kernel_rfl) (fun _ _ _ h=>h) rfl ?_ hHeld ?_
     rotate_left
     ·intro w hS; (try dsimp only at hS); obtain ⟨hS0,hS1⟩:=hS; go_simp; first | done | (with_reducible rfl)
     try simp only [Act.put,List.setIfInBounds_toArray,List.set_cons_zero,List.set_cons_succ]
     refine Aa (i:=2) (v:=?_) rfl (by kernel_rfl) (by kernel_rfl) (by kernel_rfl) (fun _ _ _ h=>h) rfl ?_ hHeld ?_
     rotate_left
     ·intro w hS; (try dsimp only at hS); obtain ⟨hS0,hS1⟩:=hS; go_simp; first | done | (with_reducible rfl)
     try simp only [Act.put,List.setIfInBounds_toArray,List.set_cons_zero,List.set_cons_succ]
     refine Aa (i:=3) (v:=?_) rfl (by kernel_rfl) (by kernel_rfl) (by kernel_rfl) (fun _ _ _ h=>h) rfl ?_ hHeld ?_
     rotate_left
     ·intro w hS; (try dsimp only at hS); obtain ⟨hS0,hS1⟩:=hS; go_simp; first | done | (with_reducible rfl)
     try simp only [Act.put,List.setIfInBounds_toArray,List.set_cons_zero,List.set_cons_succ]
     refine Aa (i:=4) (v:=?_) rfl (by kernel_rfl) (by kernel_rfl) (by kernel_rfl) (fun _ _ _ h=>h) rfl ?_ hHeld ?_
     rotate_left
     ·intro w hS; (try dsimp only at hS); obtain ⟨hS0,hS1⟩:=hS; go_simp; first | done | (with_reducible rfl)
     try simp only [Act.put,List.setIfInBounds_toArray,List.set_cons_zero,List.set_cons_succ]
     refine Aa (i:=5) (v:=?_) rfl (by kernel_rfl) (by kernel_rfl) (by kernel_rfl) (fun _ _ _ h=>h) rfl ?_ hHeld ?_
     rotate_left
     ·intro w hS; (try dsimp only at hS); obtain ⟨hS0,hS1⟩:=hS; go_simp; first | done | (with_reducible rfl)
     try simp only [Act.put,List.setIfInBounds_toArray,List.set_cons_zero,List.set_cons_succ]
     refine Aa (i:=6) (v:=?_) rfl (by kernel_rfl) (by kernel_rfl) (by kernel_rfl) (fun _ _ _ h=>h) rfl ?_ hHeld ?_
     rotate_left
     ·intro w hS; (try dsimp only at hS); obtain ⟨hS0,hS1⟩:=hS; go_simp; first | done | (with_reducible rfl)
     try simp only [Act.put,List.setIfInBounds_toArray,List.set_cons_zero,List.set_cons_succ]
     refine Aa (i:=8) (v:=?_) rfl (by kernel_rfl) (by kernel_rfl) (by kernel_rfl) (fun _ _ _ h=>h) rfl ?_ hHeld ?_
     rotate_left
     ·intro w hS; (try dsimp only at hS); obtain ⟨hS0,hS1⟩:=hS; go_simp; first | done | (with_reducible rfl)
     try simp only [Act.put,List.setIfInBounds_toArray,List.set_cons_zero,List.set_cons_succ]
     refine Aa (i:=9) (v:=?_) rfl (by kernel_rfl) (by kernel_rfl) (by kernel_rfl) (fun _ _ _ h=>h) rfl ?_ hHeld ?_
     rotate_left
     ·intro w hS; (try dsimp only at hS); obtain ⟨hS0,hS1⟩:=hS; go_simp; first | done | (with_reducible rfl)
     try simp only [Act.put,List.setIfInBounds_toArray,List.set_cons_zero,List.set_cons_succ]
     refine Aa (i:=10) (v:=?_) rfl (by kernel_rfl) (by kernel_rfl) (by kernel_rfl) (fun _ _ _ h=>h) rfl ?_ hHeld ?_
     rotate_left
     ·intro w hS; (try dsimp only at hS); obtain ⟨hS0,hS1⟩:=hS; go_simp; first | done | (with_reducible rfl)
     try simp only [Act.put,List.setIfInBounds_toArray,List.set_cons_zero,List.set_cons_succ]
     refine Aa (i:=11) (v:=?_) rfl (by kernel_rfl) (by kernel_rfl) (by kernel_rfl) (fun _ _ _ h=>h) rfl ?_ hHeld ?_
     rotate_left
     ·intro w hS; (try dsimp only at hS); obtain ⟨hS0,hS1⟩:=hS; go_simp; first | done | (with_reducible rfl)
     try simp only [Act.put,List.setIfInBounds_toArray,List.set_cons_zero,List.set_cons_succ]
     refine Aa (i:=12) (v:=?_) rfl (by kernel_rfl) (by kernel_rfl) (by kernel_rfl) (fun _ _ _ h=>h) rfl ?_ hHeld ?_
     rotate_left
     ·intro w hS; (try dsimp only at hS); obtain ⟨hS0,hS1⟩:=hS; go_simp; first | done | (with_reducible rfl)
     try simp only [Act.put,List.setIfInBounds_toArray,List.set_cons_zero,List.set_cons_succ]
     refine Am (i:=7) rfl (by kernel_rfl) rfl (fun K hK=>?_)
     go_simp
     refine hle.mono ?_
     rintro e w10 ⟨rfl,rfl⟩
     refine hK.out _ _ (⟨x19,r19⟩) (fun hHeld=>?_)
     clear hK K
     try simp only [Act.put,List.setIfInBounds_toArray,List.set_cons_zero,List.set_cons_succ]
     refine Aa (i:=13) (v:=?_) rfl (by kernel_rfl) (by kernel_rfl) (by kernel_rfl) (fun _ _ _ h=>h) rfl ?_ hHeld ?_
     rotate_left
     ·intro w hS; (try dsimp only at hS); obtain ⟨hS0,hS1⟩:=hS; go_simp; first | done | (with_reducible rfl)
     try simp only [Act.put,List.setIfInBounds_toArray,List.set_cons_zero,List.set_cons_succ]
     refine Aa (i:=14) (v:=?_) rfl (by kernel_rfl) (by kernel_rfl) (by kernel_rfl) (fun _ _ _ h=>h) rfl ?_ hHeld ?_
     rotate_left
     ·intro w hS; (try dsimp only at hS); obtain ⟨hS0,hS1⟩:=hS; go_simp; first | done | (with_reducible rfl)
     try simp only [Act.put,List.setIfInBounds_toArray,List.set_cons_zero,List.set_cons_succ]
     refine Aa (i:=15) (v:=?_) rfl (by kernel_rfl) (by kernel_rfl) (by kernel_rfl) (fun _ _ _ h=>h) rfl ?_ hHeld ?_
     rotate_left
     ·intro w hS; (try dsimp only at hS); obtain ⟨hS0,hS1⟩:=hS; go_simp; first | done | (with_reducible rfl)
     try simp only [Act.put,List.setIfInBounds_toArray,List.set_cons_zero,List.set_cons_succ]
     refine wpAnyH_done (by kernel_rfl) ?_ _
     clear hHeld
     go_wp2
     go_ret
     exact ⟨rfl,H9.out.2.drew⟩
    ·have dA : decide ((2000 : Int)≤(Rl.length : Int))=false:=decide_eq_false (by omega)
     have dB : decide ((1048559 : Int) - (u : Int)<(Z : Int))=true:=decide_eq_true (by omega)
     go_wp2_with fail
     refine wp_region_held_drew (S:=fun W=>W.cell? ⟨x,1,none⟩=some (.pointer (some ⟨t,0,none⟩))∧W.cell? ⟨r,0,none⟩=some (.slice ra Rl.length rc)) (by kernel_rfl) (⟨x19,r19⟩) (fun hHeld=>?_)
     refine Aa (i:=0) (v:=?_) rfl (by kernel_rfl) (by kernel_rfl) (by kernel_rfl) (fun _ _ _ h=>h) rfl ?_ hHeld ?_
     rotate_left
     ·intro w hS; (try dsimp only at hS); obtain ⟨hS0,hS1⟩:=hS; go_simp; first | done | (with_reducible rfl)
     try simp only [Act.put,List.setIfInBounds_toArray,List.set_cons_zero,List.set_cons_succ]
     refine Aa (i:=1) (v:=?_) rfl (by kernel_rfl) (by kernel_rfl) (by kernel_rfl) (fun _ _ _ h=>h) rfl ?_ hHeld ?_
     rotate_left
     ·intro w hS; (try dsimp only at hS); obtain ⟨hS0,hS1⟩:=hS; go_simp; first | done | (with_reducible rfl)
     try simp only [Act.put,List.setIfInBounds_toArray,List.set_cons_zero,List.set_cons_succ]
     refine Aa (i:=2) (v:=?_) rfl (by kernel_rfl) (by kernel_rfl) (by kernel_rfl) (fun _ _ _ h=>h) rfl ?_ hHeld ?_
     rotate_left
     ·intro w hS; (try dsimp only at hS); obtain ⟨hS0,hS1⟩:=hS; go_simp; first | done | (with_reducible rfl)
     try simp only [Act.put,List.setIfInBounds_toArray,List.set_cons_zero,List.set_cons_succ]
     refine Aa (i:=3) (v:=?_) rfl (by kernel_rfl) (by kernel_rfl) (by kernel_rfl) (fun _ _ _ h=>h) rfl ?_ hHeld ?_
     rotate_left
     ·intro w hS; (try dsimp only at hS); obtain ⟨hS0,hS1⟩:=hS; go_simp; first | done | (with_reducible rfl)
     try simp only [Act.put,List.setIfInBounds_toArray,List.set_cons_zero,List.set_cons_succ]
     refine Aa (i:=4) (v:=?_) rfl (by kernel_rfl) (by kernel_rfl) (by kernel_rfl) (fun _ _ _ h=>h) rfl ?_ hHeld ?_
     rotate_left
     ·intro w hS; (try dsimp only at hS); obtain ⟨hS0,hS1⟩:=hS; go_simp; first | done | (with_reducible rfl)
     try simp only [Act.put,List.setIfInBounds_toArray,List.set_cons_zero,List.set_cons_succ]
     refine Aa (i:=5) (v:=?_) rfl (by kernel_rfl) (by kernel_rfl) (by kernel_rfl) (fun _ _ _ h=>h) rfl ?_ hHeld ?_
     rotate_left
     ·intro w hS; (try dsimp only at hS); obtain ⟨hS0,hS1⟩:=hS; go_simp; first | done | (with_reducible rfl)
     try simp only [Act.put,List.setIfInBounds_toArray,List.set_cons_zero,List.set_cons_succ]
     refine Aa (i:=6) (v:=?_) rfl (by kernel_rfl) (by kernel_rfl) (by kernel_rfl) (fun _ _ _ h=>h) rfl ?_ hHeld ?_
     rotate_left
     ·intro w hS; (try dsimp only at hS); obtain ⟨hS0,hS1⟩:=hS; go_simp; first | done | (with_reducible rfl)
     try simp only [Act.put,List.setIfInBounds_toArray,List.set_cons_zero,List.set_cons_succ]
     refine Aa (i:=8) (v:=?_) rfl (by kernel_rfl) (by kernel_rfl) (by kernel_rfl) (fun _ _ _ h=>h) rfl ?_ hHeld ?_
     rotate_left
     ·intro w hS; (try dsimp only at hS); obtain ⟨hS0,hS1⟩:=hS; go_simp; first | done | (with_reducible rfl)
     try simp only [Act.put,List.setIfInBounds_toArray,List.set_cons_zero,List.set_cons_succ]
     refine Aa (i:=9) (v:=?_) rfl (by kernel_rfl) (by kernel_rfl) (by kernel_rfl) (fun _ _ _ h=>h) rfl ?_ hHeld ?_
     rotate_left
     ·intro w hS; (try dsimp only at hS); obtain ⟨hS0,hS1⟩:=hS; go_simp; first | done | (with_reducible rfl)
     try simp only [Act.put,List.setIfInBounds_toArray,List.set_cons_zero,List.set_cons_succ]
     refine Aa (i:=10) (v:=?_) rfl (by kernel_rfl) (by kernel_rfl) (by kernel_rfl) (fun _ _ _ h=>h) rfl ?_ hHeld ?_
     rotate_left
     ·intro w hS; (try dsimp only at hS); obtain ⟨hS0,hS1⟩:=hS; go_simp; first | done | (with_reducible rfl)
     try simp only [Act.put,List.setIfInBounds_toArray,List.set_cons_zero,List.set_cons_succ]
     refine Aa (i:=11) (v:=?_) rfl (by kernel_rfl) (by kernel_rfl) (by kernel_rfl) (fun _ _ _ h=>h) rfl ?_ hHeld ?_
     rotate_left
     ·intro w hS; (try dsimp only at hS); obtain ⟨hS0,hS1⟩:=hS; go_simp; first | done | (with_reducible rfl)
     try simp only [Act.put,List.setIfInBounds_toArray,List.set_cons_zero,List.set_cons_succ]
     refine Aa (i:=12) (v:=?_) rfl (by kernel_rfl) (by kernel_rfl) (by kernel_rfl) (fun _ _ _ h=>h) rfl ?_ hHeld ?_
     rotate_left
     ·intro w hS; (try dsimp only at hS); obtain ⟨hS0,hS1⟩:=hS; go_simp; first | done | (with_reducible rfl)
     try simp only [Act.put,List.setIfInBounds_toArray,List.set_cons_zero,List.set_cons_succ]
     refine Am (i:=7) rfl (by kernel_rfl) rfl (fun K hK=>?_)
     go_simp
     refine hle.mono ?_
     rintro e w10 ⟨rfl,rfl⟩
     refine hK.out _ _ (⟨x19,r19⟩) (fun hHeld=>?_)
     clear hK K
     try simp only [Act.put,List.setIfInBounds_toArray,List.set_cons_zero,List.set_cons_succ]
     refine Aa (i:=13) (v:=?_) rfl (by kernel_rfl) (by kernel_rfl) (by kernel_rfl) (fun _ _ _ h=>h) rfl ?_ hHeld ?_
     rotate_left
     ·intro w hS; (try dsimp only at hS); obtain ⟨hS0,hS1⟩:=hS; go_simp; first | done | (with_reducible rfl)
     try simp only [Act.put,List.setIfInBounds_toArray,List.set_cons_zero,List.set_cons_succ]
     refine Aa (i:=14) (v:=?_) rfl (by kernel_rfl) (by kernel_rfl) (by kernel_rfl) (fun _ _ _ h=>h) rfl ?_ hHeld ?_
     rotate_left
     ·intro w hS; (try dsimp only at hS); obtain ⟨hS0,hS1⟩:=hS; go_simp; first | done | (with_reducible rfl)
     try simp only [Act.put,List.setIfInBounds_toArray,List.set_cons_zero,List.set_cons_succ]
     refine Aa (i:=15) (v:=?_) rfl (by kernel_rfl) (by kernel_rfl) (by kernel_rfl) (fun _ _ _ h=>h) rfl ?_ hHeld ?_
     rotate_left
     ·intro w hS; (try dsimp only at hS); obtain ⟨hS0,hS1⟩:=hS; go_simp; first | done | (with_reducible rfl)
     try simp only [Act.put,List.setIfInBounds_toArray,List.set_cons_zero,List.set_cons_succ]
     refine wpAnyH_done (by kernel_rfl) ?_ _
     clear hHeld
     go_wp2
     go_ret
     exact ⟨rfl,H9.out.2.drew⟩
   ·have han : Bk lp [([122],(vz,false))]=0:=ans_ok HANS.out.1 (by rw [HANS.out.2.1]; exact decide_eq_true (by omega))
    have hle:=HLN.out ((Rl.length : Int)+1) (by rw [Iu han,HANS.out.2.2.1]; omega)
    have hLL : ((Rl.length : Int)+1 == (Rl.length : Int)+1)=true:=by simp
    have hl9 : IntKind.i64.wrap ((Rl.length : Int)+1)=(Rl.length : Int)+1:=by rw [IntKind.wrap_i64]; omega
    have dA : decide ((2000 : Int)≤(Rl.length : Int))=false:=decide_eq_false (by omega)
    have dB : decide ((1048559 : Int) - (u : Int)<(Z : Int))=false:=decide_eq_false (by omega)
    rw [han]
    clear han
    go_wp2_with fail
    refine wp_region_held_drew (S:=fun W=>W.cell? ⟨x,1,none⟩=some (.pointer (some ⟨t,0,none⟩))∧W.cell? ⟨r,0,none⟩=some (.slice ra Rl.length rc)) (by kernel_rfl) (⟨x19,r19⟩) (fun hHeld=>?_)
    refine Aa (i:=0) (v:=?_) rfl (by kernel_rfl) (by kernel_rfl) (by kernel_rfl) (fun _ _ _ h=>h) rfl ?_ hHeld ?_
    rotate_left
    ·intro w hS; (try dsimp only at hS); obtain ⟨hS0,hS1⟩:=hS; go_simp; first | done | (with_reducible rfl)
    try simp only [Act.put,List.setIfInBounds_toArray,List.set_cons_zero,List.set_cons_succ]
    refine Aa (i:=1) (v:=?_) rfl (by kernel_rfl) (by kernel_rfl) (by kernel_rfl) (fun _ _ _ h=>h) rfl ?_ hHeld ?_
    rotate_left
    ·intro w hS; (try dsimp only at hS); obtain ⟨hS0,hS1⟩:=hS; go_simp; first | done | (with_reducible rfl)
    try simp only [Act.put,List.setIfInBounds_toArray,List.set_cons_zero,List.set_cons_succ]
    refine Aa (i:=2) (v:=?_) rfl (by kernel_rfl) (by kernel_rfl) (by kernel_rfl) (fun _ _ _ h=>h) rfl ?_ hHeld ?_
    rotate_left
    ·intro w hS; (try dsimp only at hS); obtain ⟨hS0,hS1⟩:=hS; go_simp; first | done | (with_reducible rfl)
    try simp only [Act.put,List.setIfInBounds_toArray,List.set_cons_zero,List.set_cons_succ]
    refine Aa (i:=3) (v:=?_) rfl (by kernel_rfl) (by kernel_rfl) (by kernel_rfl) (fun _ _ _ h=>h) rfl ?_ hHeld ?_
    rotate_left
    ·intro w hS; (try dsimp only at hS); obtain ⟨hS0,hS1⟩:=hS; go_simp; first | done | (with_reducible rfl)
    try simp only [Act.put,List.setIfInBounds_toArray,List.set_cons_zero,List.set_cons_succ]
    refine Aa (i:=4) (v:=?_) rfl (by kernel_rfl) (by kernel_rfl) (by kernel_rfl) (fun _ _ _ h=>h) rfl ?_ hHeld ?_
    rotate_left
    ·intro w hS; (try dsimp only at hS); obtain ⟨hS0,hS1⟩:=hS; go_simp; first | done | (with_reducible rfl)
    try simp only [Act.put,List.setIfInBounds_toArray,List.set_cons_zero,List.set_cons_succ]
    refine Aa (i:=5) (v:=?_) rfl (by kernel_rfl) (by kernel_rfl) (by kernel_rfl) (fun _ _ _ h=>h) rfl ?_ hHeld ?_
    rotate_left
    ·intro w hS; (try dsimp only at hS); obtain ⟨hS0,hS1⟩:=hS; go_simp; first | done | (with_reducible rfl)
    try simp only [Act.put,List.setIfInBounds_toArray,List.set_cons_zero,List.set_cons_succ]
    refine Aa (i:=6) (v:=?_) rfl (by kernel_rfl) (by kernel_rfl) (by kernel_rfl) (fun _ _ _ h=>h) rfl ?_ hHeld ?_
    rotate_left
    ·intro w hS; (try dsimp only at hS); obtain ⟨hS0,hS1⟩:=hS; go_simp; first | done | (with_reducible rfl)
    try simp only [Act.put,List.setIfInBounds_toArray,List.set_cons_zero,List.set_cons_succ]
    refine Aa (i:=8) (v:=?_) rfl (by kernel_rfl) (by kernel_rfl) (by kernel_rfl) (fun _ _ _ h=>h) rfl ?_ hHeld ?_
    rotate_left
    ·intro w hS; (try dsimp only at hS); obtain ⟨hS0,hS1⟩:=hS; go_simp; first | done | (with_reducible rfl)
    try simp only [Act.put,List.setIfInBounds_toArray,List.set_cons_zero,List.set_cons_succ]
    refine Aa (i:=9) (v:=?_) rfl (by kernel_rfl) (by kernel_rfl) (by kernel_rfl) (fun _ _ _ h=>h) rfl ?_ hHeld ?_
    rotate_left
    ·intro w hS; (try dsimp only at hS); obtain ⟨hS0,hS1⟩:=hS; go_simp; first | done | (with_reducible rfl)
    try simp only [Act.put,List.setIfInBounds_toArray,List.set_cons_zero,List.set_cons_succ]
    refine Aa (i:=10) (v:=?_) rfl (by kernel_rfl) (by kernel_rfl) (by kernel_rfl) (fun _ _ _ h=>h) rfl ?_ hHeld ?_
    rotate_left
    ·intro w hS; (try dsimp only at hS); obtain ⟨hS0,hS1⟩:=hS; go_simp; first | done | (with_reducible rfl)
    try simp only [Act.put,List.setIfInBounds_toArray,List.set_cons_zero,List.set_cons_succ]
    refine Aa (i:=11) (v:=?_) rfl (by kernel_rfl) (by kernel_rfl) (by kernel_rfl) (fun _ _ _ h=>h) rfl ?_ hHeld ?_
    rotate_left
    ·intro w hS; (try dsimp only at hS); obtain ⟨hS0,hS1⟩:=hS; go_simp; first | done | (with_reducible rfl)
    try simp only [Act.put,List.setIfInBounds_toArray,List.set_cons_zero,List.set_cons_succ]
    refine Aa (i:=12) (v:=?_) rfl (by kernel_rfl) (by kernel_rfl) (by kernel_rfl) (fun _ _ _ h=>h) rfl ?_ hHeld ?_
    rotate_left
    ·intro w hS; (try dsimp only at hS); obtain ⟨hS0,hS1⟩:=hS; go_simp; first | done | (with_reducible rfl)
    try simp only [Act.put,List.setIfInBounds_toArray,List.set_cons_zero,List.set_cons_succ]
    refine Aa (i:=13) (v:=?_) rfl (by kernel_rfl) (by kernel_rfl) (by kernel_rfl) (fun _ _ _ h=>h) rfl ?_ hHeld ?_
    rotate_left
    ·intro w hS; (try dsimp only at hS); obtain ⟨hS0,hS1⟩:=hS; go_simp; first | done | (with_reducible rfl)
    try simp only [Act.put,List.setIfInBounds_toArray,List.set_cons_zero,List.set_cons_succ]
    refine Am (i:=7) rfl (by kernel_rfl) rfl (fun K hK=>?_)
    go_simp
    refine hle.mono ?_
    rintro e w10 ⟨rfl,rfl⟩
    refine hK.out _ _ (⟨x19,r19⟩) (fun hHeld=>?_)
    clear hK K
    try simp only [Act.put,List.setIfInBounds_toArray,List.set_cons_zero,List.set_cons_succ]
    refine Aa (i:=14) (v:=?_) rfl (by kernel_rfl) (by kernel_rfl) (by kernel_rfl) (fun _ _ _ h=>h) rfl ?_ hHeld ?_
    rotate_left
    ·intro w hS; (try dsimp only at hS); obtain ⟨hS0,hS1⟩:=hS; go_simp; first | done | (with_reducible rfl)
    try simp only [Act.put,List.setIfInBounds_toArray,List.set_cons_zero,List.set_cons_succ]
    refine Aa (i:=15) (v:=?_) rfl (by kernel_rfl) (by kernel_rfl) (by kernel_rfl) (fun _ _ _ h=>h) rfl ?_ hHeld ?_
    rotate_left
    ·intro w hS; (try dsimp only at hS); obtain ⟨hS0,hS1⟩:=hS; go_simp; first | done | (with_reducible rfl)
    try simp only [Act.put,List.setIfInBounds_toArray,List.set_cons_zero,List.set_cons_succ]
    refine Aa (i:=16) (v:=?_) rfl (by kernel_rfl) (by kernel_rfl) (by kernel_rfl) (fun _ _ _ h=>h) rfl ?_ hHeld ?_
    rotate_left
    ·intro w hS; (try dsimp only at hS); obtain ⟨hS0,hS1⟩:=hS; go_simp; first | done | (with_reducible rfl)
    try simp only [Act.put,List.setIfInBounds_toArray,List.set_cons_zero,List.set_cons_succ]
    refine wpAnyH_done (by kernel_rfl) ?_ _
    clear hHeld
    go_wp2
    go_ret
    exact ⟨rfl,H9.out.2.drew⟩
end Go.Proofs.YtblniomnhpedjaaGreatDoor
